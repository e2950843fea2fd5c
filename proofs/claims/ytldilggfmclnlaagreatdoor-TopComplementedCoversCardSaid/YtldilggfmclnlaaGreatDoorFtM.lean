/- Sets of up to 64 vectors as numbers: what package sets makes of bit strings, and what a fault changes. -/
import Derived.Test.YtldilggfmclnlaaGreatDoorVgM
namespace Go.Proofs.YtldilggfmclnlaaGreatDoor

/-- The first k places of a string at which there is a 1: place 0 is the highest bit. -/
def setTo (s : List UInt8) : Nat → Nat
  | 0 => 0
  | k + 1 => if s.getD k 0 = 49 then setTo s k ||| 2 ^ (63 - k) else setTo s k
def setL (s : List UInt8) : Nat := setTo s s.length
theorem or_lt64 {a b : Nat} (ha : a < 18446744073709551616) (hb : b < 18446744073709551616) : a ||| b < 18446744073709551616 := Nat.or_lt_two_pow (n := 64) ha hb
theorem and_lt64 {a b : Nat} (ha : a < 18446744073709551616) : a &&& b < 18446744073709551616 := Nat.lt_of_le_of_lt Nat.and_le_left ha
theorem xor_lt64 {a b : Nat} (ha : a < 18446744073709551616) (hb : b < 18446744073709551616) : a ^^^ b < 18446744073709551616 := Nat.xor_lt_two_pow (n := 64) ha hb
theorem pow_lt64 (k : Nat) : 2 ^ (63 - k) < 18446744073709551616 := by
  have h : 2 ^ (63 - k) ≤ 2 ^ 63 := Nat.pow_le_pow_right (by decide) (by omega)
  have e : (2 : Nat) ^ 63 = 9223372036854775808 := by decide
  omega
theorem setTo_lt (s : List UInt8) : ∀ k, setTo s k < 18446744073709551616
  | 0 => by show 0 < 18446744073709551616; decide
  | k + 1 => by
    unfold setTo
    split
    · exact or_lt64 (setTo_lt s k) (pow_lt64 k)
    · exact setTo_lt s k
theorem setL_lt (s : List UInt8) : setL s < 18446744073709551616 := setTo_lt s _
/-- All places before one. -/
def beforeN (k : Nat) : Nat := 18446744073709551616 - 2 ^ (64 - k)
theorem beforeN_lt (k : Nat) : beforeN k < 18446744073709551616 := by
  unfold beforeN
  have : 0 < 2 ^ (64 - k) := Nat.two_pow_pos _
  omega

/-- A fault: its kind, and its nets. -/
abbrev Flt := Int × List Int
/-- What all nets of a fault have, over the first k of them. -/
def comTo (long : Nat) (on : List Nat) (f : Flt) : Nat → Nat
  | 0 => on.getD (f.2.getD 0 0).toNat 0
  | k + 1 =>
    if f.1 = 1 then 0
    else if f.1 = 2 ∨ f.1 = 6 then beforeN long
    else if f.1 = 3 then comTo long on f k &&& on.getD (f.2.getD k 0).toNat 0
    else if f.1 = 4 then comTo long on f k ||| on.getD (f.2.getD k 0).toNat 0
    else comTo long on f k
def comL (long : Nat) (on : List Nat) (f : Flt) : Nat := comTo long on f f.2.length
/-- The nets that a fault changes among its first k, with the vectors in which it does. -/
def chgTo (long : Nat) (on : List Nat) (f : Flt) (k : Nat) : List (Int × Nat) :=
  (f.2.take k).filterMap fun net => if comL long on f ^^^ on.getD net.toNat 0 = 0 then none else some (net, comL long on f ^^^ on.getD net.toNat 0)
def chgL (long : Nat) (on : List Nat) (f : Flt) : List (Int × Nat) := chgTo long on f f.2.length
def orL (xs : List (Int × Nat)) : Nat := xs.foldl (fun s x => s ||| x.2) 0
/-- The vectors that detect a fault. -/
def detN (long : Nat) (on : List Nat) (f : Flt) : Nat := orL (chgL long on f)
/-- The numbers are sets. -/
def On64 (on : List Nat) : Prop := ∀ k, on.getD k 0 < 18446744073709551616
theorem comTo_lt {long : Nat} {on : List Nat} {f : Flt} (h : On64 on) : ∀ k, comTo long on f k < 18446744073709551616
  | 0 => h _
  | k + 1 => by
    unfold comTo
    split
    · decide
    split
    · exact beforeN_lt _
    split
    · exact and_lt64 (comTo_lt h k)
    split
    · exact or_lt64 (comTo_lt h k) (h _)
    · exact comTo_lt h k
theorem comL_lt {long : Nat} {on : List Nat} {f : Flt} (h : On64 on) : comL long on f < 18446744073709551616 := comTo_lt h _
theorem chgTo_succ (long : Nat) (on : List Nat) (f : Flt) (k : Nat) (hk : k < f.2.length) : chgTo long on f (k + 1) = if comL long on f ^^^ on.getD (f.2.getD k 0).toNat 0 = 0 then chgTo long on f k else chgTo long on f k ++ [(f.2.getD k 0, comL long on f ^^^ on.getD (f.2.getD k 0).toNat 0)] := by
  unfold chgTo
  rw [List.take_succ_eq_append_getElem hk, List.filterMap_append]
  have e : f.2.getD k 0 = f.2[k] := by simp [hk]
  rw [e]
  split
  · rename_i h
    rw [List.filterMap_cons, if_pos h]
    simp
  · rename_i h
    rw [List.filterMap_cons, if_neg h]
    simp
theorem chgTo_len (long : Nat) (on : List Nat) (f : Flt) (k : Nat) : (chgTo long on f k).length ≤ f.2.length := by
  unfold chgTo
  refine Nat.le_trans (List.length_filterMap_le _ _) ?_
  rw [List.length_take]
  omega
theorem chgTo_le (long : Nat) (on : List Nat) (f : Flt) (k : Nat) : (chgTo long on f k).length ≤ k := by
  unfold chgTo
  refine Nat.le_trans (List.length_filterMap_le _ _) ?_
  rw [List.length_take]
  omega
theorem orL_snoc (xs : List (Int × Nat)) (x : Int × Nat) : orL (xs ++ [x]) = orL xs ||| x.2 := by
  unfold orL
  rw [List.foldl_append]
  rfl
theorem chg_lt {long : Nat} {on : List Nat} {f : Flt} (h : On64 on) {x : Int × Nat} {k : Nat} (hx : x ∈ chgTo long on f k) : x.2 < 18446744073709551616 := by
  unfold chgTo at hx
  obtain ⟨net, -, hn⟩ := List.mem_filterMap.1 hx
  split at hn
  · cases hn
  · cases hn
    exact xor_lt64 (comL_lt h) (h _)
theorem orL_lt : ∀ (xs : List (Int × Nat)), (∀ x ∈ xs, x.2 < 18446744073709551616) → orL xs < 18446744073709551616 := by
  intro xs
  have : ∀ (xs : List (Int × Nat)) (s : Nat), s < 18446744073709551616 → (∀ x ∈ xs, x.2 < 18446744073709551616) → xs.foldl (fun s x => s ||| x.2) s < 18446744073709551616 := by
    intro xs
    induction xs with
    | nil => exact fun s hs _ => hs
    | cons x xs ih => exact fun s hs h => ih _ (or_lt64 hs (h x (List.mem_cons_self ..))) fun y hy => h y (List.mem_cons_of_mem _ hy)
  exact this xs 0 (by decide)
theorem detN_lt {long : Nat} {on : List Nat} {f : Flt} (h : On64 on) : detN long on f < 18446744073709551616 := orL_lt _ fun _ hx => chg_lt h hx

/-- What is wrong with a fault of so many nets. -/
def shortK (k : Int) : Bool := decide (k = 3) || (decide (k = 4) || decide (k = 5))
def riseTo (l : List Int) : Nat → Bool
  | 0 => true
  | 1 => true
  | k + 2 => riseTo l (k + 1) && decide (l.getD k 0 < l.getD (k + 1) 0)
def fltErr (nets : Int) (f : Flt) : Int :=
  if nets < 1 ∨ 100 < nets then 1
  else if f.1 < 1 ∨ 6 < f.1 then 4
  else if f.2.length = 0 then 8
  else if 6 < f.2.length then 2
  else if f.2.any (fun x => decide (x < 0) || decide (nets ≤ x)) = true then 1
  else if shortK f.1 ≠ decide (1 < f.2.length) then 3
  else if riseTo (if f.1 = 5 then f.2.tail else f.2) (if f.1 = 5 then f.2.tail else f.2).length = false then 7
  else if f.1 = 5 ∧ f.2.getD 0 0 ∈ f.2.tail then 6
  else 0
/-- The single faults of a kind. -/
def addRow (kind : Int) (a b : Nat) : List Flt := (List.range b).filterMap fun j => if a < j ∨ j < a ∧ kind = 5 then some (kind, [(a : Int), (j : Int)]) else none
def allTo (kind : Int) (n a : Nat) : List Flt := (List.range a).flatMap fun i => if shortK kind = true then addRow kind i n else [(kind, [(i : Int)])]
theorem allTo_succ (kind : Int) (n a : Nat) : allTo kind n (a + 1) = allTo kind n a ++ if shortK kind = true then addRow kind a n else [(kind, [(a : Int)])] := by
  unfold allTo
  rw [List.range_succ, List.flatMap_append]
  simp
theorem addRow_succ (kind : Int) (a b : Nat) : addRow kind a (b + 1) = if a < b ∨ b < a ∧ kind = 5 then addRow kind a b ++ [(kind, [(a : Int), (b : Int)])] else addRow kind a b := by
  unfold addRow
  rw [List.range_succ, List.filterMap_append]
  split
  · rename_i h; simp [h]
  · rename_i h; simp [h]
theorem addRow_len (kind : Int) (a b : Nat) : (addRow kind a b).length ≤ b := by
  unfold addRow
  have := List.length_filterMap_le (fun j => if a < j ∨ j < a ∧ kind = 5 then some ((kind, [(a : Int), (j : Int)]) : Flt) else none) (List.range b)
  simpa using this
theorem allTo_len (kind : Int) (n : Nat) (h : 1 ≤ n) : ∀ a, (allTo kind n a).length ≤ a * n
  | 0 => Nat.zero_le _
  | a + 1 => by
    have h1 := allTo_len kind n h a
    have h2 := addRow_len kind a n
    rw [allTo_succ, List.length_append, Nat.add_mul]
    split
    · omega
    · simp; omega
def allKinds (n : Nat) (ks : List Int) : List Flt := ks.flatMap fun k => allTo k n n
theorem allKinds_snoc (n : Nat) (ks : List Int) (k : Int) : allKinds n (ks ++ [k]) = allKinds n ks ++ allTo k n n := by
  unfold allKinds
  rw [List.flatMap_append]
  simp
theorem allKinds_len (n : Nat) (h : 1 ≤ n) (ks : List Int) : (allKinds n ks).length ≤ ks.length * (n * n) := by
  induction ks with
  | nil => simp [allKinds]
  | cons k ks ih =>
    have e : allKinds n (k :: ks) = allTo k n n ++ allKinds n ks := by unfold allKinds; rw [List.flatMap_cons]
    have h1 := allTo_len k n h n
    rw [e, List.length_append, List.length_cons, Nat.add_mul]
    omega
end Go.Proofs.YtldilggfmclnlaaGreatDoor
