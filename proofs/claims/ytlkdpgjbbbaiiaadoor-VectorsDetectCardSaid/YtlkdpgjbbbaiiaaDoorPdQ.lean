/- Triples: slices.Equal of [][3]int. -/
import Derived.Test.YtlkdpgjbbbaiiaaDoorPdP
import Derived.Deep.QuietTactic
import Derived.BigQuiet
import Derived.DeepKeys
import Derived.Laws.StructEq
namespace Go.Proofs.YtlkdpgjbbbaiiaaDoor
open Go.RowKit

/-- n triples in block g. -/
def TriCells (w : World) (g n : Nat) (T : Nat → Nat × Nat × Nat) : Prop := ∀ k, k < n → w.cell? ⟨g, k * 3, none⟩ = some (.int .i64 ((T k).1 : Int)) ∧ w.cell? ⟨g, k * 3 + 1, none⟩ = some (.int .i64 ((T k).2.1 : Int)) ∧ w.cell? ⟨g, k * 3 + 2, none⟩ = some (.int .i64 ((T k).2.2 : Int))

theorem Tryd.typesSizeT : Tryd.prog.types.size = Tryd.prog.types.size - 3 + 3 := by kernel_rfl
theorem Tryd.keyTri : Tryd.prog.keyType 55 = true := by kernel_rfl
theorem Tryd.keyAtTri : Tryd.prog.keyTypeAt 3 55 = true := by kernel_rfl
theorem Tryd.cellsIntT : Tryd.prog.cellsOf 3 = 1 := by kernel_rfl
theorem Tryd.cellsTri : Tryd.prog.cellsOf 55 = 3 := by kernel_rfl
theorem tri_key (a b c : Int) (ha : 0 ≤ a ∧ a ≤ 1000000) (hb : 0 ≤ b ∧ b ≤ 1000000) (hc : 0 ≤ c ∧ c ≤ 1000000) : ∃ l, keyOf Tryd.prog 55 (.agg #[.int .i64 a, .int .i64 b, .int .i64 c]) = some l := by
  unfold keyOf
  rw [Tryd.underlying55]
  simp only [Tryd.keyTri, Bool.true_and]
  have hf : (Value.agg #[.int .i64 a, .int .i64 b, .int .i64 c]).formed Tryd.prog 55 = true := by
    simp [Value.formed, Tryd.underlying55, Tryd.cellsTri]
  rw [if_pos hf]
  obtain ⟨m, hm⟩ : ∃ m, Tryd.prog.types.size = m + 3 := ⟨_, Tryd.typesSizeT⟩
  rw [hm]
  have e : ∀ x : Int, 0 ≤ x ∧ x ≤ 1000000 → Tryd.prog.keyLits (m + 3) 3 [.int .i64 x] = some [.int .i64 x] := fun x hx => by
    unfold Program.keyLits
    rw [Tryd.underlying3]
    have hw : (Lit.int .i64 x).wf = true := by
      have h1 : IntKind.i64.min ≤ x := Int.le_trans (by decide) hx.1
      have h2 : x ≤ IntKind.i64.max := Int.le_trans hx.2 (by decide)
      show (decide (IntKind.i64.min ≤ x) && decide (x ≤ IntKind.i64.max)) = true
      rw [decide_eq_true h1, decide_eq_true h2]
      rfl
    simp only [hw, and_self, if_true]
  have ea := e a ha
  have eb := e b hb
  have ec := e c hc
  have e3 : Tryd.prog.keyLits (m + 3 + 1) 55 [.int .i64 a, .int .i64 b, .int .i64 c] = some [.int .i64 a, .int .i64 b, .int .i64 c] := by
    unfold Program.keyLits
    rw [Tryd.underlying55]
    simp only [Tryd.cellsTri, Tryd.cellsIntT]
    show ((if _ then _ else _) : Option (List Lit)) = _
    rw [if_pos (by rfl)]
    show Option.map List.flatten ([0, 1, 2].mapM fun i => Tryd.prog.keyLits (m + 3) 3 ((([.int .i64 a, .int .i64 b, .int .i64 c] : List Value).drop (i * 1)).take 1)) = _
    simp [ea, eb, ec]
  have hcl : (Value.agg #[.int .i64 a, .int .i64 b, .int .i64 c]).cells.toList = [.int .i64 a, .int .i64 b, .int .i64 c] := rfl
  rw [hcl, e3]
  exact ⟨_, rfl⟩
theorem tri_same (a b c : Int) (ha : 0 ≤ a ∧ a ≤ 1000000) (hb : 0 ≤ b ∧ b ≤ 1000000) (hc : 0 ≤ c ∧ c ≤ 1000000) (W : World) : (Op.equalIn 10000 55 (.agg #[.int .i64 a, .int .i64 b, .int .i64 c]) (.agg #[.int .i64 a, .int .i64 b, .int .i64 c])).run Tryd.prog W = .ok true W := by
  obtain ⟨l, hl⟩ := tri_key a b c ha hb hc
  obtain ⟨r, h1, h2⟩ := run_equal_deep (P := Tryd.prog) W (m := 3) (by omega) Tryd.keyAtTri (by rw [Tryd.underlying55]) hl hl
  rw [h2.2 rfl] at h1
  exact h1
theorem tri_guard : Tryd.prog.eqGuardType Tryd.prog.depth 55 = false := by kernel_rfl

set_option maxHeartbeats 2000000 in
set_option maxRecDepth 100000 in
theorem eqTri_same (T : Nat → Nat × Nat × Nat) (n g1 g2 c1 c2 : Nat) (hz : n ≤ 100000) (hT : ∀ k, k < n → (T k).1 ≤ 1000000 ∧ (T k).2.1 ≤ 1000000 ∧ (T k).2.2 ≤ 1000000) (w : World) (h1 : TriCells w g1 n T) (h2 : TriCells w g2 n T) :
    Calls Tryd.prog 21 #[.slice (some ⟨g1, 0, none⟩) n c1, .slice (some ⟨g2, 0, none⟩) n c2] w fun e w' => e = .returned (.bool true) ∧ Below w.heap.size w w' := by
  have HH := Lib.hid (⟨h1, h2⟩ : _ ∧ _)
  clear h1 h2
  go_enter Tryd.func21, Tryd.ntmps21
  go_wp2_with fail
  go_loopw [13] (fun i wr => ∃ (k : Nat), k ≤ n ∧ i = .int .i64 (k : Int) ∧ Below w.heap.size w wr ∧ TriCells wr g1 n T ∧ TriCells wr g2 n T) (fun i _ => n - (intOf i).toNat)
  case atStart => exact ⟨0, by omega, rfl, Below.refl _ _, HH.out⟩
  case round =>
    obtain ⟨k, hk, rfl, hB, t1, t2⟩ := hrel
    by_cases hlt : k < n
    · obtain ⟨p1, p2, p3⟩ := t1 k hlt
      obtain ⟨q1, q2, q3⟩ := t2 k hlt
      have i0 : (0 : Int) ≤ (k : Int) := by omega
      have i1 : (k : Int) < (n : Int) := by omega
      have HT := Lib.hid (⟨hB, t1, t2⟩ : _ ∧ _ ∧ _)
      have hx := hT k hlt
      have heq := fun q => tri_same ((T k).1 : Int) ((T k).2.1 : Int) ((T k).2.2 : Int) (by omega) (by omega) (by omega) (wr.drewN q)
      have hgd := tri_guard
      clear hB t1 t2 hx
      generalize (T k).1 = x at p1 q1 heq
      generalize (T k).2.1 = y at p2 q2 heq
      generalize (T k).2.2 = z at p3 q3 heq
      go_wp2_with fail
      go_quiet (fail)
      go_wp2_with fail
      go_roundw
      case rel => exact ⟨k + 1, by omega, by go_num, HT.out.1.trans ((drewN_below _ _).mono HT.out.1.size), HT.out.2.1, HT.out.2.2⟩
      case measure => simp [intOf]; omega
    · have HT := Lib.hid hB
      clear hB t1 t2
      obtain rfl : k = n := by omega
      go_wp2_with fail
      go_ret
      exact ⟨rfl, HT.out⟩
end Go.Proofs.YtlkdpgjbbbaiiaaDoor
