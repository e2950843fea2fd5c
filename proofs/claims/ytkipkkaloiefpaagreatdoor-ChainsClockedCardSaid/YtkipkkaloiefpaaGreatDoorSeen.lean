/- The contract of newStrings, and of the function that it returns. -/
import Derived.Test.YtkipkkaloiefpaaGreatDoorStrMap
namespace Go.Proofs.YtkipkkaloiefpaaGreatDoor
open Go.RowKit Go.Maps

/-- What the map of newStrings has when the strings of L were given. -/
def seenM (L : List (List UInt8)) : List UInt8 → Option Lit := fun s => if L.contains s then some (.bool true) else none

theorem seenM_put (L : List (List UInt8)) (s : List UInt8) : putS (seenM L) s (.bool true) = seenM (s :: L) := by
  funext x
  unfold putS seenM
  by_cases h : x = s
  · simp [h]
  · simp [h]

/-- The variable at block c has the map of block b, in which the strings of L are. -/
structure Seen (w : World) (c b : Nat) (L : List (List UInt8)) : Prop where
  var : w.cell? ⟨c, 0, none⟩ = some (.map (some b))
  map : StrMap Tryz.prog 9 4 w b L.length (seenM L)
  ne : b ≠ c

theorem Seen.kept {w w' : World} {c b : Nat} {L : List (List UInt8)} {row : Option Nat} (h : Seen w c b L) (hg : w.grownBy w' row) (h1 : some b ≠ row) (h2 : some c ≠ row) : Seen w' c b L :=
  ⟨hg.cell h.var h2, h.map.kept hg h1, h.ne⟩
theorem Seen.alloc {w : World} {c b : Nat} {L : List (List UInt8)} (h : Seen w c b L) (o : Obj) : Seen (w.alloc o) c b L := h.kept (World.grownBy_alloc w o none) (by simp) (by simp)
theorem Seen.lt {w : World} {c b : Nat} {L : List (List UInt8)} (h : Seen w c b L) : c < w.heap.size ∧ b < w.heap.size := ⟨World.block_lt_of_cell? w ⟨c, 0, none⟩ h.var, h.map.lt⟩

theorem Tryz.zeroBool (W : World) : (zeroValue 4).run Tryz.prog W = .ok (.bool false) W := by kernel_rfl
theorem plain_bool (b : Bool) : plainElem (H := Unit) Tryz.prog 4 (.bool b) = some (.lit (.bool b), []) := plainElem_bool Tryz.underlying4 b

/-- The function of newStrings: whether the string is new; it is known from then on. -/
theorem isNew_any (w : World) (c b : Nat) (L : List (List UInt8)) (s : ByteArray) (hs : s.size ≤ 1048576) (hL : L.length < 1000000) (h : Seen w c b L) :
    Calls Tryz.prog 94 #[.string s, .pointer (some ⟨c, 0, none⟩)] w fun e w' => e = .returned (.bool (!L.contains s.data.toList)) ∧ Seen w' c b (s.data.toList :: L) ∧ w.grownBy w' (some b) := by
  have hl := h.map.look Tryz.underlying9 Tryz.underlying144 (.bool false) (Tryz.zeroBool w) (plain_bool false) s hs
  have hv : litVal ((seenM L s.data.toList).getD (.bool false)) = .bool (L.contains s.data.toList) := by
    unfold seenM
    cases h : L.contains s.data.toList <;> rfl
  rw [hv] at hl
  clear hv
  have hc := h.var
  cases hb : L.contains s.data.toList with
  | true =>
    rw [hb] at hl
    have hS : Seen w c b (s.data.toList :: L) := ⟨h.var, (h.map.up (by simp)).same (fun x => by
      unfold seenM
      rw [List.contains_cons]
      by_cases e : x = s.data.toList
      · rw [e, hb]
        simp
      · simp [e]), h.ne⟩
    clear hb h
    go_enter Tryz.func94, Tryz.ntmps94
    go_wp2_with fail
    go_ret
    exact ⟨rfl, hS, World.grownBy.refl _ _⟩
  | false =>
    rw [hb] at hl
    clear hb
    go_enter Tryz.func94, Tryz.ntmps94
    go_wp2_with (refine wpList_mapset_str (P := Tryz.prog) (k := 9) (e := 4) rfl (.tmp 7) (.tmp 8) (.const (.bool true)) 144 rfl Tryz.underlying9 Tryz.underlying144 rfl h.map hL s hs (.bool true) _ (plain_bool true) rfl rfl ?_)
    intro w1 hm1 hg1
    rw [seenM_put] at hm1
    go_wp2_with fail
    go_ret
    exact ⟨rfl, ⟨hg1.cell h.var (fun e => h.ne (Option.some.inj e).symm), hm1, h.ne⟩, hg1⟩

/-- The first k strings, the last one first. -/
def upTo (xs : Nat → ByteArray) : Nat → List (List UInt8)
  | 0 => []
  | k + 1 => (xs k).data.toList :: upTo xs k
theorem upTo_length (xs : Nat → ByteArray) (k : Nat) : (upTo xs k).length = k := by
  induction k with
  | zero => rfl
  | succ k ih => simp [upTo, ih]

/-- newStrings. -/
theorem newStrings_any (w : World) (sl : Option Addr) (n cap : Nat) (xs : Nat → ByteArray) (hn : n ≤ 100000) (hx : 0 < n → ∃ sb so, sl = some ⟨sb, so, none⟩ ∧ ∀ k, k < n → w.cell? ⟨sb, so + k, none⟩ = some (.string (xs k)) ∧ (xs k).size ≤ 1048576) :
    Calls Tryz.prog 57 #[.slice sl n cap] w fun e w' => e = .returned (.func (.func 94) #[] #[.pointer (some ⟨w.heap.size + 1, 0, none⟩)]) ∧ Seen w' (w.heap.size + 1) w.heap.size (upTo xs n) ∧ Below w.heap.size w w' := by
  have hmm := @run_makeMap Tryz.prog
  go_enter Tryz.func57, Tryz.ntmps57
  go_wp2_with fail
  go_loopw [5, 9] (fun _ i wr => ∃ k : Nat, k ≤ n ∧ i = .int .i64 (k : Int) ∧ Seen wr (w.heap.size + 1) w.heap.size (upTo xs k) ∧ Below w.heap.size w wr) (fun _ i _ => n - (intOf i).toNat)
  case atStart =>
    refine ⟨0, by omega, rfl, ⟨?_, ?_, by omega⟩, ((Below.refl _ _).alloc (Nat.le_refl _) _).alloc (by simp) _⟩
    · exact World.cell?_alloc_at _ _ _ _ (by simp)
    · exact ((StrMap.made _ _ _ w).alloc _).same (fun x => by simp [seenM, upTo])
  case round =>
    obtain ⟨k, hk, rfl, hS, hg⟩ := hrel
    by_cases hlt : k < n
    · obtain ⟨sb, so, rfl, hcells⟩ := hx (by omega)
      obtain ⟨hcell, hsz⟩ := hcells k hlt
      have hcell := (hg.cell (p := ⟨sb, so + k, none⟩) (World.block_lt_of_cell? w ⟨sb, so + k, none⟩ hcell)).trans hcell
      have hvar := hS.var
      clear hcells hx hmm
      go_wp2_with (refine wpList_mapset_str (P := Tryz.prog) (k := 9) (e := 4) rfl (.tmp 13) (.tmp 14) (.const (.bool true)) 144 rfl Tryz.underlying9 Tryz.underlying144 rfl hS.map (by rw [upTo_length]; omega) (xs k) hsz (.bool true) _ (plain_bool true) rfl rfl ?_)
      intro w1 hm1 hg1
      rw [seenM_put] at hm1
      go_wp2_with fail
      go_roundw
      case rel => exact ⟨k + 1, by omega, by go_num, ⟨hg1.cell hS.var (by simp), hm1, hS.ne⟩, hg.grown hg1 hg.size (fun k hk => by cases hk; exact Nat.le_refl _)⟩
      case measure => simp [intOf]; omega
    · obtain rfl : k = n := by omega
      clear hx hmm
      go_wp2
      go_ret
      exact ⟨rfl, hS, hg⟩
end Go.Proofs.YtkipkkaloiefpaaGreatDoor
