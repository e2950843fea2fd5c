/- Package flash: Shifts. -/
import Derived.Test.YtfoocnhfppjbbaaGreatDoorMdB
import Derived.Deep.RegionHeld3
import Derived.Laws.StructEq
import Derived.Deep.RegionLaw
import Derived.Deep.CutBlock
import Derived.Deep.DeepCutAuto
import Derived.BigQuiet
import Derived.Lib.SliceRun
namespace Go.Proofs.YtfoocnhfppjbbaaGreatDoor
open Go.RowKit

/-- What Shifts answers: C the number of the error of the operations, n that of the cycles. -/
def shiftsR (C : Int) (n : Nat) (long : Int) : Int × Int :=
  if C ≠ 0 then (0, C) else if 1 ≤ long ∧ long ≤ 100000 then (if 50000 < n then (0, 12) else ((n : Int) * (3 * long + 5), 0)) else (0, 1)
theorem mul_span {n : Nat} {x : Int} (hn : n ≤ 50000) (h0 : 0 ≤ x) (h1 : x ≤ 300005) : 0 ≤ (n : Int) * x ∧ (n : Int) * x ≤ 15000250000 := by
  refine ⟨Int.mul_nonneg (by omega) h0, ?_⟩
  have h2 : (n : Int) * x ≤ 50000 * x := Int.mul_le_mul_of_nonneg_right (by omega) h0
  omega
end Go.Proofs.YtfoocnhfppjbbaaGreatDoor
/- Package flash and the reference: cycles that are right. Made by gens/mde.py. -/
namespace Go.Proofs.YtfoocnhfppjbbaaGreatDoor
open Go.RowKit

def okCyc (c : Cyc) : Bool := inB c.1 0 65535 && inB c.2 0 65535
/-- The number of the error of cycles. -/
def cycErr (C : List Cyc) : Int := if 50000 < C.length then 2 else if C.all okCyc then 0 else 1
theorem cycAll_take (C : List Cyc) (k : Nat) (hk : k < C.length) : (C.take (k + 1)).all okCyc = ((C.take k).all okCyc && okCyc (C.getD k (0, 0))) := by
  have e : C.getD k (0, 0) = C[k] := by simp [hk]
  rw [List.take_succ_eq_append_getElem hk, List.all_append, e]
  simp
theorem cycAll_no (C : List Cyc) (k : Nat) (h : (C.take k).all okCyc = false) : C.all okCyc = false := by
  rw [← List.take_append_drop k C, List.all_append, h]
  rfl
theorem cycErr_ok {C : List Cyc} (h : cycErr C = 0) : C.length ≤ 50000 ∧ ∀ j, j < C.length → (0 ≤ (C.getD j (0, 0)).1 ∧ (C.getD j (0, 0)).1 ≤ 65535) ∧ (0 ≤ (C.getD j (0, 0)).2 ∧ (C.getD j (0, 0)).2 ≤ 65535) := by
  unfold cycErr at h
  split at h
  · cases h
  split at h
  · rename_i h1 h2
    refine ⟨by omega, fun j hj => ?_⟩
    have e : C.getD j (0, 0) = C[j] := by simp [hj]
    have h3 := List.all_eq_true.1 h2 (C[j]) (List.getElem_mem hj)
    rw [e]
    unfold okCyc inB at h3
    simpa using h3
  · cases h
theorem cyc_cells {C : List Cyc} {g o k : Nat} {w wr : World} (hB : Below w.heap.size w wr) (hg : g < w.heap.size) (h : w.cell? ⟨g, o + k * 2, none⟩ = some (.int .i64 (C.getD k (0, 0)).1) ∧ w.cell? ⟨g, o + k * 2 + 1, none⟩ = some (.int .i64 (C.getD k (0, 0)).2)) :
    wr.cell? ⟨g, o + k * 2, none⟩ = some (.int .i64 (C.getD k (0, 0)).1) ∧ wr.cell? ⟨g, o + k * 2 + 1, none⟩ = some (.int .i64 (C.getD k (0, 0)).2) :=
  ⟨(hB.cell (p := ⟨g, o + k * 2, none⟩) hg).trans h.1, (hB.cell (p := ⟨g, o + k * 2 + 1, none⟩) hg).trans h.2⟩
set_option maxHeartbeats 800000 in
set_option maxRecDepth 100000 in
theorem checkCycles_any (C : List Cyc) (hz : C.length ≤ 1000000) (w : World) (v : Value) (h : CycsAt w v C) :
    Calls Tryz.prog 40 #[v] w fun e w' => e = .returned (.int .i64 (cycErr C)) ∧ Below w.heap.size w w' := by
  obtain ⟨a, c, rfl, -, hop⟩ := h
  have hst := fun k hk => cycAll_take C k hk
  have hno := fun k => cycAll_no C k
  obtain ⟨m, hm⟩ : ∃ m, m = C.length := ⟨_, rfl⟩
  obtain ⟨E, hE⟩ : ∃ E, E = cycErr C := ⟨_, rfl⟩
  rw [← hE]
  unfold cycErr at hE
  rw [← hm] at hop hz hst hE ⊢
  by_cases h5 : 50000 < m
  · rw [if_pos h5] at hE
    have n5 : (50000 : Int) < (m : Int) := by omega
    subst hE
    clear h5 hop hst hno
    go_enter Tryz.func40, Tryz.ntmps40
    go_wp2_with fail
    go_ret
    exact ⟨rfl, Below.refl _ _⟩
  · rw [if_neg h5] at hE
    have n5 : (m : Int) ≤ 50000 := by omega
    have HC := Lib.hid (⟨hop, hst, hno, hE, hm⟩ : _ ∧ _ ∧ _ ∧ _ ∧ _)
    clear h5 hop hst hno hE hm
    go_enter Tryz.func40, Tryz.ntmps40
    go_wp2_with fail
    go_loopw [10] (fun i wr => ∃ k : Nat, k ≤ m ∧ i = .int .i64 (k : Int) ∧ (C.take k).all okCyc = true ∧ Below w.heap.size w wr) (fun i _ => m - (intOf i).toNat)
    case atStart => exact ⟨0, by omega, rfl, rfl, Below.refl _ _⟩
    case round =>
      obtain ⟨k, hk, rfl, hW, hB⟩ := hrel
      by_cases hlt : k < m
      · obtain ⟨g, o, rfl, hg, hcell⟩ := HC.out.1 (by omega)
        obtain ⟨c1, c2⟩ := cyc_cells hB hg (hcell k hlt)
        have hst := HC.out.2.1 k hlt
        have hno := HC.out.2.2.1 (k + 1)
        rw [hst, hW, Bool.true_and] at hno
        rw [hW, Bool.true_and] at hst
        obtain ⟨x, y, hy⟩ : ∃ x y, C.getD k (0, 0) = (x, y) := ⟨_, _, rfl⟩
        rw [hy] at c1 c2 hst hno
        rw [show okCyc (x, y) = (inB x 0 65535 && inB y 0 65535) from rfl] at hst hno
        dsimp only at c1 c2
        have k0 : (0 : Int) ≤ (k : Int) := by omega
        have k1 : (k : Int) < (m : Int) := by omega
        have f0 : (wr.alloc (.cells #[.int .i64 x, .int .i64 y] 83)).cell? ⟨wr.heap.size, 0, none⟩ = some (.int .i64 x) := cell_new1 wr _ _ rfl
        have f1 : (wr.alloc (.cells #[.int .i64 x, .int .i64 y] 83)).cell? ⟨wr.heap.size, 1, none⟩ = some (.int .i64 y) := cell_new1 wr _ _ rfl
        have hzr : wr.heap.size < (wr.alloc (.cells #[.int .i64 x, .int .i64 y] 83)).heap.size := by simp
        have HB := Lib.hid (⟨hst, hno, hB, hB.alloc hB.size (.cells #[.int .i64 x, .int .i64 y] 83)⟩ : _ ∧ _ ∧ _ ∧ _)
        clear hcell hy hst hno hW hB
        have hw1 := within_one x 0 65535 (wr.alloc (.cells #[.int .i64 x, .int .i64 y] 83))
        have hw2 := fun W => within_one y 0 65535 W
        rw [show (decide ((0 : Int) ≤ x) && decide (x ≤ 65535)) = inB x 0 65535 from rfl] at hw1
        rw [show (decide ((0 : Int) ≤ y) && decide (y ≤ 65535)) = inB y 0 65535 from rfl] at hw2
        simp only [World.size_alloc] at hw1
        obtain ⟨b1, hb1⟩ : ∃ b, b = inB x 0 65535 := ⟨_, rfl⟩
        obtain ⟨b2, hb2⟩ : ∃ b, b = inB y 0 65535 := ⟨_, rfl⟩
        rw [← hb1] at hw1 HB
        rw [← hb2] at hw2 HB
        clear hb1 hb2
        cases b1 with
        | false =>
          go_wp2_with fail
          refine hw1.mono ?_
          rintro e w2 ⟨rfl, hB2⟩
          have HB2 := Lib.hid (HB.out.2.2.2.trans (hB2.mono (show w.heap.size ≤ wr.heap.size + 1 by have := HB.out.2.2.1.size; omega)))
          clear hB2 hw1 hw2
          go_wp2_with fail
          go_ret
          exact ⟨by rw [HC.out.2.2.2.1, if_neg (by rw [HB.out.2.1 rfl]; decide)]; rfl, HB2.out⟩
        | true =>
          go_wp2_with fail
          refine hw1.mono ?_
          rintro e w2 ⟨rfl, hB2⟩
          have g1 := (hB2.cell (p := ⟨wr.heap.size, 1, none⟩) (show wr.heap.size < wr.heap.size + 1 by omega)).trans f1
          have hw3 := hw2 w2
          have HB2 := Lib.hid (HB.out.2.2.2.trans (hB2.mono (show w.heap.size ≤ wr.heap.size + 1 by have := HB.out.2.2.1.size; omega)))
          clear hB2 hw1 hw2
          go_wp2_with fail
          refine hw3.mono ?_
          rintro e w3 ⟨rfl, hB3⟩
          have HB3 := Lib.hid (HB2.out.trans (hB3.mono HB2.out.size))
          clear hB3 hw3
          cases b2 with
          | false =>
            go_wp2_with fail
            go_ret
            exact ⟨by rw [HC.out.2.2.2.1, if_neg (by rw [HB.out.2.1 rfl]; decide)]; rfl, HB3.out⟩
          | true =>
            go_wp2_with fail
            go_roundw
            case rel => exact ⟨k + 1, by omega, by go_num, HB.out.1, HB3.out⟩
            case measure => simp [intOf]; omega
      · obtain rfl : k = m := by omega
        have hE := HC.out.2.2.2.1
        rw [HC.out.2.2.2.2, List.take_length] at hW
        rw [if_pos hW] at hE
        have HE := Lib.hid hE
        have HB := Lib.hid hB
        clear hB hW hE
        go_wp2_with fail
        go_ret
        exact ⟨by rw [HE.out]; rfl, HB.out⟩
end Go.Proofs.YtfoocnhfppjbbaaGreatDoor
/- slices.Equal and slices.Clone of cycles. -/
namespace Go.Proofs.YtfoocnhfppjbbaaGreatDoor
open Go.RowKit

set_option maxHeartbeats 800000 in
set_option maxRecDepth 100000 in
theorem eqCycs_any (A B : List Cyc) (hz : A.length ≤ 1000000) (hz2 : B.length ≤ 1000000) (w : World) (v u : Value) (h : CycsAt w v A) (h2 : CycsAt w u B) :
    Calls Tryz.prog 59 #[v, u] w fun e w' => e = .returned (.bool (decide (A = B))) ∧ Below w.heap.size w w' := by
  obtain ⟨a, c, rfl, -, hop⟩ := h
  obtain ⟨a2, c2, rfl, -, hop2⟩ := h2
  obtain ⟨n, hn⟩ : ∃ n, n = A.length := ⟨_, rfl⟩
  obtain ⟨m, hm⟩ : ∃ m, m = B.length := ⟨_, rfl⟩
  obtain ⟨R, hR⟩ : ∃ R, R = decide (A = B) := ⟨_, rfl⟩
  have hR0 : n ≠ m → R = false := fun hne => by
    rw [hR, decide_eq_false_iff_not]
    rintro rfl
    exact hne (hn.trans hm.symm)
  have hR1 : ∀ k, A.getD k (0, 0) ≠ B.getD k (0, 0) → R = false := fun k hk => by
    rw [hR, decide_eq_false_iff_not]
    rintro rfl
    exact hk rfl
  have hR2 : n = m → (∀ k, k < n → A.getD k (0, 0) = B.getD k (0, 0)) → R = true := fun he hk => by
    rw [hR, decide_eq_true_iff]
    refine List.ext_getElem (by omega) fun i h1 h2 => ?_
    have h3 := hk i (by omega)
    simpa [h1, h2] using h3
  rw [← hR, ← hn, ← hm]
  rw [← hn] at hop hz
  rw [← hm] at hop2 hz2
  by_cases hl : n = m
  · subst hl
    have HC := Lib.hid (⟨hop, hop2, hR1, hR2 rfl⟩ : _ ∧ _ ∧ _ ∧ _)
    clear hop hop2 hn hm hR hR0 hR1 hR2
    go_enter Tryz.func59, Tryz.ntmps59
    go_wp2_with fail
    go_loopw [13] (fun i wr => ∃ k : Nat, k ≤ n ∧ i = .int .i64 (k : Int) ∧ (∀ j, j < k → A.getD j (0, 0) = B.getD j (0, 0)) ∧ Below w.heap.size w wr) (fun i _ => n - (intOf i).toNat)
    case atStart => exact ⟨0, by omega, rfl, fun j hj => by omega, Below.refl _ _⟩
    case round =>
      obtain ⟨k, hk, rfl, hW, hB⟩ := hrel
      by_cases hlt : k < n
      · obtain ⟨g, o, rfl, hg, hcell⟩ := HC.out.1 (by omega)
        obtain ⟨g2, o2, rfl, hg2, hcell2⟩ := HC.out.2.1 (by omega)
        obtain ⟨p1, p2⟩ := cyc_cells hB hg (hcell k hlt)
        obtain ⟨q1, q2⟩ := cyc_cells hB hg2 (hcell2 k hlt)
        have hno := HC.out.2.2.1 k
        obtain ⟨x, y, hy⟩ : ∃ x y, A.getD k (0, 0) = (x, y) := ⟨_, _, rfl⟩
        obtain ⟨x2, y2, hy2⟩ : ∃ x y, B.getD k (0, 0) = (x, y) := ⟨_, _, rfl⟩
        have hst : A.getD k (0, 0) = B.getD k (0, 0) → ∀ j, j < k + 1 → A.getD j (0, 0) = B.getD j (0, 0) := fun he j hj => by
          by_cases hjk : j = k
          · rw [hjk]; exact he
          · exact hW j (by omega)
        rw [hy] at p1 p2
        rw [hy2] at q1 q2
        rw [hy, hy2] at hno hst
        dsimp only at p1 p2 q1 q2
        have k0 : (0 : Int) ≤ (k : Int) := by omega
        have k1 : (k : Int) < (n : Int) := by omega
        by_cases hx : x = x2
        · by_cases hyy : y = y2
          · subst hx
            subst hyy
            have HB := Lib.hid (⟨hB, hst rfl⟩ : _ ∧ _)
            clear hB hcell hcell2 hy hy2 hno hst hW
            go_wp2_with fail
            go_quiet (fail)
            go_wp2_with fail
            go_roundw
            case rel => exact ⟨k + 1, by omega, by go_num, HB.out.2, HB.out.1.trans ((drewN_below _ _).mono HB.out.1.size)⟩
            case measure => simp [intOf]; omega
          · subst hx
            have n1 : (y == y2) = false := by simpa using hyy
            have HB := Lib.hid (⟨hB, hno (fun h => hyy (by injection h))⟩ : _ ∧ _)
            clear hB hcell hcell2 hy hy2 hno hst hW hyy
            go_wp2_with fail
            go_quiet (fail)
            go_wp2_with fail
            go_ret
            exact ⟨by rw [HB.out.2]; rfl, HB.out.1.trans ((drewN_below _ _).mono HB.out.1.size)⟩
        · have n1 : (x == x2) = false := by simpa using hx
          have HB := Lib.hid (⟨hB, hno (fun h => hx (by injection h))⟩ : _ ∧ _)
          clear hB hcell hcell2 hy hy2 hno hst hW hx
          go_wp2_with fail
          go_quiet (fail)
          go_wp2_with fail
          go_ret
          exact ⟨by rw [HB.out.2]; rfl, HB.out.1.trans ((drewN_below _ _).mono HB.out.1.size)⟩
      · obtain rfl : k = n := by omega
        have HB := Lib.hid (⟨hB, HC.out.2.2.2 hW⟩ : _ ∧ _)
        clear hB hW
        go_wp2_with fail
        go_ret
        exact ⟨by rw [HB.out.2]; rfl, HB.out.1⟩
  · have n1 : ((n : Int) != (m : Int)) = true := by simpa using (show (n : Int) ≠ (m : Int) by omega)
    have HR := Lib.hid (hR0 hl)
    clear hop hop2 hn hm hR hR0 hR1 hR2 hl
    go_enter Tryz.func59, Tryz.ntmps59
    go_wp2_with fail
    go_ret
    exact ⟨by rw [HR.out]; rfl, Below.refl _ _⟩
end Go.Proofs.YtfoocnhfppjbbaaGreatDoor
