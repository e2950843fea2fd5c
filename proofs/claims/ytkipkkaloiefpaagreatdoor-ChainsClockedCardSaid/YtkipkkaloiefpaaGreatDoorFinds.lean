/- The reference's searches for a name: the closures, IndexFunc, ContainsFunc. -/
import Derived.Test.YtkipkkaloiefpaaGreatDoorDevs
namespace Go.Proofs.YtkipkkaloiefpaaGreatDoor
open Go.RowKit Go.Maps

/-- Whether a string is one of the first k. -/
def hasName (xs : Nat → ByteArray) (s : ByteArray) : Nat → Bool
  | 0 => false
  | k + 1 => hasName xs s k || ((xs k).toList == s.toList)
theorem hasName_before (xs : Nat → ByteArray) (l : List (List UInt8)) (s : ByteArray) (k : Nat) : (before xs l k).contains s.data.toList = (hasName xs s k || l.contains s.data.toList) := by
  induction k with
  | zero => simp [before, hasName]
  | succ k ih =>
    show List.contains ((xs k).data.toList :: before xs l k) s.data.toList = _
    rw [List.contains_cons, ih]
    have e : (s.data.toList == (xs k).data.toList) = ((xs k).data.toList == s.data.toList) := by
      rw [Bool.eq_iff_iff]
      simp only [beq_iff_eq]
      exact eq_comm
    have e2 : hasName xs s (k + 1) = (hasName xs s k || ((xs k).data.toList == s.data.toList)) := by
      rw [← ByteArray.toList_eq, ← ByteArray.toList_eq]
      rfl
    rw [e, e2]
    cases hasName xs s k <;> cases ((xs k).data.toList == s.data.toList) <;> cases l.contains s.data.toList <;> rfl
theorem hasName_miss {xs : Nat → ByteArray} {s : ByteArray} {k : Nat} (h : hasName xs s k = false) (hk : ((xs k).toList == s.toList) = false) : hasName xs s (k + 1) = false := by
  show (hasName xs s k || ((xs k).toList == s.toList)) = false
  rw [h, hk]
  rfl
theorem hasName_hit {xs : Nat → ByteArray} {s : ByteArray} {k : Nat} (h : ((xs k).toList == s.toList) = true) : ∀ n, k < n → hasName xs s n = true := by
  intro n
  induction n with
  | zero => intro h; omega
  | succ n ih =>
    intro hn
    unfold hasName
    by_cases e : k = n
    · rw [← e, h, Bool.or_true]
    · rw [ih (by omega), Bool.true_or]

theorem eqReg_any (w : World) (c : Nat) (s x : ByteArray) (l : Int) (hc : w.cell? ⟨c, 0, none⟩ = some (.string s)) :
    Calls Tryz.prog 67 #[.agg #[.string x, .int .i64 l], .pointer (some ⟨c, 0, none⟩)] w fun e w' => e = .returned (.bool (x.toList == s.toList)) ∧ Below w.heap.size w w' := by
  have hlt := World.block_lt_of_cell? w ⟨c, 0, none⟩ hc
  go_enter Tryz.func67, Tryz.ntmps67
  go_wp2_with fail
  go_ret
  exact ⟨rfl, (Below.refl _ w).alloc (Nat.le_refl _) _⟩

theorem eqRegI_any (w : World) (c : Nat) (s x : ByteArray) (l : Int) (hc : w.cell? ⟨c, 1, none⟩ = some (.string s)) :
    Calls Tryz.prog 107 #[.agg #[.string x, .int .i64 l], .pointer (some ⟨c, 0, none⟩)] w fun e w' => e = .returned (.bool (x.toList == s.toList)) ∧ Below w.heap.size w w' := by
  have hlt := World.block_lt_of_cell? w ⟨c, 1, none⟩ hc
  go_enter Tryz.func107, Tryz.ntmps107
  go_wp2_with fail
  go_ret
  exact ⟨rfl, (Below.refl _ w).alloc (Nat.le_refl _) _⟩

theorem eqIns_any (w : World) (c : Nat) (s x y : ByteArray) (hc : w.cell? ⟨c, 0, none⟩ = some (.string s)) :
    Calls Tryz.prog 110 #[.agg #[.string x, .string y], .pointer (some ⟨c, 0, none⟩)] w fun e w' => e = .returned (.bool (x.toList == s.toList)) ∧ Below w.heap.size w w' := by
  have hlt := World.block_lt_of_cell? w ⟨c, 0, none⟩ hc
  go_enter Tryz.func110, Tryz.ntmps110
  go_wp2_with fail
  go_ret
  exact ⟨rfl, (Below.refl _ w).alloc (Nat.le_refl _) _⟩

theorem eqDev_any (w : World) (c : Nat) (s x : ByteArray) (v1 v2 v3 v4 : Value) (hc : w.cell? ⟨c, 0, none⟩ = some (.string s)) :
    Calls Tryz.prog 25 #[.agg #[.string x, v1, v2, v3, v4], .pointer (some ⟨c, 0, none⟩)] w fun e w' => e = .returned (.bool (x.toList == s.toList)) ∧ Below w.heap.size w w' := by
  have hlt := World.block_lt_of_cell? w ⟨c, 0, none⟩ hc
  go_enter Tryz.func25, Tryz.ntmps25
  go_wp2_with fail
  go_ret
  exact ⟨rfl, (Below.refl _ w).alloc (Nat.le_refl _) _⟩

/-- Instructions: their number, their codes and registers. -/
structure Inss where
  n : Nat
  code : Nat → ByteArray
  reg : Nat → ByteArray
structure InsAt (B : Nat) (w : World) (a : Option Addr) (r : Inss) : Prop where
  n_le : r.n ≤ 1000
  cells : 0 < r.n → ∃ b off, a = some ⟨b, off, none⟩ ∧ b < B ∧ ∀ k, k < r.n → w.cell? ⟨b, off + k * 2, none⟩ = some (.string (r.code k)) ∧ w.cell? ⟨b, off + k * 2 + 1, none⟩ = some (.string (r.reg k)) ∧ (r.code k).size ≤ 1048576 ∧ (r.reg k).size ≤ 1048576
theorem InsAt.below {B B' : Nat} {w w' : World} {a : Option Addr} {r : Inss} (h : InsAt B w a r) (hb : Below B' w w') (hB : B ≤ B') : InsAt B w' a r := by
  refine ⟨h.n_le, fun h0 => ?_⟩
  obtain ⟨b, off, e, hlt, hc⟩ := h.cells h0
  refine ⟨b, off, e, hlt, fun k hk => ?_⟩
  obtain ⟨h1, h2, h3, h4⟩ := hc k hk
  exact ⟨(hb.cell (p := ⟨b, off + k * 2, none⟩) (by show b < B'; omega)).trans h1, (hb.cell (p := ⟨b, off + k * 2 + 1, none⟩) (by show b < B'; omega)).trans h2, h3, h4⟩
theorem RegsAt.up {B B' : Nat} {w : World} {a : Option Addr} {r : Regs} (h : RegsAt B w a r) (hB : B ≤ B') : RegsAt B' w a r := by
  refine ⟨h.n_le, fun h0 => ?_⟩
  obtain ⟨b, off, e, hlt, hc⟩ := h.cells h0
  exact ⟨b, off, e, by omega, hc⟩
theorem InsAt.up {B B' : Nat} {w : World} {a : Option Addr} {r : Inss} (h : InsAt B w a r) (hB : B ≤ B') : InsAt B' w a r := by
  refine ⟨h.n_le, fun h0 => ?_⟩
  obtain ⟨b, off, e, hlt, hc⟩ := h.cells h0
  exact ⟨b, off, e, by omega, hc⟩

theorem indexReg_any (w : World) (a : Option Addr) (cap n : Nat) (r : Regs) (hn : n ≤ r.n) (h : RegsAt w.heap.size w a r) (c : Nat) (s : ByteArray) (hc : w.cell? ⟨c, 0, none⟩ = some (.string s)) :
    Calls Tryz.prog 106 #[.slice a n cap, .func (.func 67) #[] #[.pointer (some ⟨c, 0, none⟩)]] w fun e w' => (∃ i : Int, e = .returned (.int .i64 i) ∧ decide (0 ≤ i) = hasName r.name s n) ∧ Below w.heap.size w w' := by
  have hlc := World.block_lt_of_cell? w ⟨c, 0, none⟩ hc
  have hn1 := h.n_le
  go_enter Tryz.func106, Tryz.ntmps106
  go_wp2_with fail
  go_loopw [5, 8] (fun _ i wr => ∃ k : Nat, k ≤ n ∧ i = .int .i64 (k : Int) ∧ hasName r.name s k = false ∧ Below w.heap.size w wr) (fun _ i _ => n - (intOf i).toNat)
  case atStart => exact ⟨0, by omega, rfl, rfl, Below.refl _ _⟩
  case round =>
    obtain ⟨k, hk, rfl, hno, hB⟩ := hrel
    by_cases hlt : k < n
    · have hrr := h.below hB (Nat.le_refl _)
      obtain ⟨b, off, rfl, hbB, hcells⟩ := hrr.cells (by omega)
      obtain ⟨hc1, hc2, hsz⟩ := hcells k (by omega)
      have hcw := (hB.cell (p := ⟨c, 0, none⟩) hlc).trans hc
      have heq := eqReg_any wr c s (r.name k) (r.long k) hcw
      clear hcells hrr h
      cases he : ((r.name k).toList == s.toList) with
      | true =>
        have hh := Lib.hid (hasName_hit he n hlt)
        rw [he] at heq
        clear he hno
        go_wp2_with fail
        refine heq.mono ?_
        rintro e w2 ⟨rfl, hB2⟩
        go_wp2_with fail
        go_ret
        exact ⟨⟨(k : Int), rfl, by rw [hh.out]; simp⟩, hB.trans (hB2.mono hB.size)⟩
      | false =>
        have hh := Lib.hid (hasName_miss hno he)
        rw [he] at heq
        clear he hno
        go_wp2_with fail
        refine heq.mono ?_
        rintro e w2 ⟨rfl, hB2⟩
        go_wp2_with fail
        go_roundw
        case rel => exact ⟨k + 1, by omega, by go_num, hh.out, hB.trans (hB2.mono hB.size)⟩
        case measure => simp [intOf]; omega
    · obtain rfl : k = n := by omega
      clear h
      have hh := Lib.hid hno
      clear hno
      go_wp2
      go_ret
      exact ⟨⟨-1, rfl, by rw [hh.out]; decide⟩, hB⟩

theorem containsReg_any (w : World) (a : Option Addr) (cap n : Nat) (r : Regs) (hn : n ≤ r.n) (h : RegsAt w.heap.size w a r) (c : Nat) (s : ByteArray) (hc : w.cell? ⟨c, 0, none⟩ = some (.string s)) :
    Calls Tryz.prog 66 #[.slice a n cap, .func (.func 67) #[] #[.pointer (some ⟨c, 0, none⟩)]] w fun e w' => e = .returned (.bool (hasName r.name s n)) ∧ Below w.heap.size w w' := by
  have hix := indexReg_any w a cap n r hn h c s hc
  clear h hc
  go_enter Tryz.func66, Tryz.ntmps66
  go_wp2_with fail
  refine hix.mono ?_
  rintro e w2 ⟨⟨i, rfl, hi⟩, hB⟩
  have hh := Lib.hid hi
  clear hi
  go_wp2_with fail
  go_ret
  exact ⟨congrArg (fun b => Ending.returned (.bool b)) hh.out, hB⟩

theorem indexRegI_any (w : World) (a : Option Addr) (cap n : Nat) (r : Regs) (hn : n ≤ r.n) (h : RegsAt w.heap.size w a r) (c : Nat) (s : ByteArray) (hc : w.cell? ⟨c, 1, none⟩ = some (.string s)) :
    Calls Tryz.prog 106 #[.slice a n cap, .func (.func 107) #[] #[.pointer (some ⟨c, 0, none⟩)]] w fun e w' => (∃ i : Int, e = .returned (.int .i64 i) ∧ decide (0 ≤ i) = hasName r.name s n) ∧ Below w.heap.size w w' := by
  have hlc := World.block_lt_of_cell? w ⟨c, 1, none⟩ hc
  have hn1 := h.n_le
  go_enter Tryz.func106, Tryz.ntmps106
  go_wp2_with fail
  go_loopw [5, 8] (fun _ i wr => ∃ k : Nat, k ≤ n ∧ i = .int .i64 (k : Int) ∧ hasName r.name s k = false ∧ Below w.heap.size w wr) (fun _ i _ => n - (intOf i).toNat)
  case atStart => exact ⟨0, by omega, rfl, rfl, Below.refl _ _⟩
  case round =>
    obtain ⟨k, hk, rfl, hno, hB⟩ := hrel
    by_cases hlt : k < n
    · have hrr := h.below hB (Nat.le_refl _)
      obtain ⟨b, off, rfl, hbB, hcells⟩ := hrr.cells (by omega)
      obtain ⟨hc1, hc2, hsz⟩ := hcells k (by omega)
      have hcw := (hB.cell (p := ⟨c, 1, none⟩) hlc).trans hc
      have heq := eqRegI_any wr c s (r.name k) (r.long k) hcw
      clear hcells hrr h
      cases he : ((r.name k).toList == s.toList) with
      | true =>
        have hh := Lib.hid (hasName_hit he n hlt)
        rw [he] at heq
        clear he hno
        go_wp2_with fail
        refine heq.mono ?_
        rintro e w2 ⟨rfl, hB2⟩
        go_wp2_with fail
        go_ret
        exact ⟨⟨(k : Int), rfl, by rw [hh.out]; simp⟩, hB.trans (hB2.mono hB.size)⟩
      | false =>
        have hh := Lib.hid (hasName_miss hno he)
        rw [he] at heq
        clear he hno
        go_wp2_with fail
        refine heq.mono ?_
        rintro e w2 ⟨rfl, hB2⟩
        go_wp2_with fail
        go_roundw
        case rel => exact ⟨k + 1, by omega, by go_num, hh.out, hB.trans (hB2.mono hB.size)⟩
        case measure => simp [intOf]; omega
    · obtain rfl : k = n := by omega
      clear h
      have hh := Lib.hid hno
      clear hno
      go_wp2
      go_ret
      exact ⟨⟨-1, rfl, by rw [hh.out]; decide⟩, hB⟩

theorem containsRegI_any (w : World) (a : Option Addr) (cap n : Nat) (r : Regs) (hn : n ≤ r.n) (h : RegsAt w.heap.size w a r) (c : Nat) (s : ByteArray) (hc : w.cell? ⟨c, 1, none⟩ = some (.string s)) :
    Calls Tryz.prog 66 #[.slice a n cap, .func (.func 107) #[] #[.pointer (some ⟨c, 0, none⟩)]] w fun e w' => e = .returned (.bool (hasName r.name s n)) ∧ Below w.heap.size w w' := by
  have hix := indexRegI_any w a cap n r hn h c s hc
  clear h hc
  go_enter Tryz.func66, Tryz.ntmps66
  go_wp2_with fail
  refine hix.mono ?_
  rintro e w2 ⟨⟨i, rfl, hi⟩, hB⟩
  have hh := Lib.hid hi
  clear hi
  go_wp2_with fail
  go_ret
  exact ⟨congrArg (fun b => Ending.returned (.bool b)) hh.out, hB⟩

theorem indexIns_any (w : World) (a : Option Addr) (cap n : Nat) (r : Inss) (hn : n ≤ r.n) (h : InsAt w.heap.size w a r) (c : Nat) (s : ByteArray) (hc : w.cell? ⟨c, 0, none⟩ = some (.string s)) :
    Calls Tryz.prog 139 #[.slice a n cap, .func (.func 110) #[] #[.pointer (some ⟨c, 0, none⟩)]] w fun e w' => (∃ i : Int, e = .returned (.int .i64 i) ∧ decide (0 ≤ i) = hasName r.code s n) ∧ Below w.heap.size w w' := by
  have hlc := World.block_lt_of_cell? w ⟨c, 0, none⟩ hc
  have hn1 := h.n_le
  go_enter Tryz.func139, Tryz.ntmps139
  go_wp2_with fail
  go_loopw [5, 8] (fun _ i wr => ∃ k : Nat, k ≤ n ∧ i = .int .i64 (k : Int) ∧ hasName r.code s k = false ∧ Below w.heap.size w wr) (fun _ i _ => n - (intOf i).toNat)
  case atStart => exact ⟨0, by omega, rfl, rfl, Below.refl _ _⟩
  case round =>
    obtain ⟨k, hk, rfl, hno, hB⟩ := hrel
    by_cases hlt : k < n
    · have hrr := h.below hB (Nat.le_refl _)
      obtain ⟨b, off, rfl, hbB, hcells⟩ := hrr.cells (by omega)
      obtain ⟨hc1, hc2, hsz, hsz2⟩ := hcells k (by omega)
      have hcw := (hB.cell (p := ⟨c, 0, none⟩) hlc).trans hc
      have heq := eqIns_any wr c s (r.code k) (r.reg k) hcw
      clear hcells hrr h
      cases he : ((r.code k).toList == s.toList) with
      | true =>
        have hh := Lib.hid (hasName_hit he n hlt)
        rw [he] at heq
        clear he hno
        go_wp2_with fail
        refine heq.mono ?_
        rintro e w2 ⟨rfl, hB2⟩
        go_wp2_with fail
        go_ret
        exact ⟨⟨(k : Int), rfl, by rw [hh.out]; simp⟩, hB.trans (hB2.mono hB.size)⟩
      | false =>
        have hh := Lib.hid (hasName_miss hno he)
        rw [he] at heq
        clear he hno
        go_wp2_with fail
        refine heq.mono ?_
        rintro e w2 ⟨rfl, hB2⟩
        go_wp2_with fail
        go_roundw
        case rel => exact ⟨k + 1, by omega, by go_num, hh.out, hB.trans (hB2.mono hB.size)⟩
        case measure => simp [intOf]; omega
    · obtain rfl : k = n := by omega
      clear h
      have hh := Lib.hid hno
      clear hno
      go_wp2
      go_ret
      exact ⟨⟨-1, rfl, by rw [hh.out]; decide⟩, hB⟩

theorem containsIns_any (w : World) (a : Option Addr) (cap n : Nat) (r : Inss) (hn : n ≤ r.n) (h : InsAt w.heap.size w a r) (c : Nat) (s : ByteArray) (hc : w.cell? ⟨c, 0, none⟩ = some (.string s)) :
    Calls Tryz.prog 109 #[.slice a n cap, .func (.func 110) #[] #[.pointer (some ⟨c, 0, none⟩)]] w fun e w' => e = .returned (.bool (hasName r.code s n)) ∧ Below w.heap.size w w' := by
  have hix := indexIns_any w a cap n r hn h c s hc
  clear h hc
  go_enter Tryz.func109, Tryz.ntmps109
  go_wp2_with fail
  refine hix.mono ?_
  rintro e w2 ⟨⟨i, rfl, hi⟩, hB⟩
  have hh := Lib.hid hi
  clear hi
  go_wp2_with fail
  go_ret
  exact ⟨congrArg (fun b => Ending.returned (.bool b)) hh.out, hB⟩
end Go.Proofs.YtkipkkaloiefpaaGreatDoor
