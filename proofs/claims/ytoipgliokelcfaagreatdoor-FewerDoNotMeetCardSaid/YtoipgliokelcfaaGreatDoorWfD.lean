/- Package wafer: the yield; the readiness that the kept properties ask. -/
import Derived.Test.YtoipgliokelcfaaGreatDoorWfC
import Derived.Deep.CutBlock
import Derived.Deep.RegionHeld
import Derived.Deep.DeepCutAuto
namespace Go.Proofs.YtoipgliokelcfaaGreatDoor
open Go.RowKit

/-- The yield of dies: its numerator, its denominator, whether any is tested. -/
def yldN (a b : Nat) : Value := if b = 0 then .tuple #[.agg #[.int .i64 0, .int .i64 0], .bool false] else .tuple #[.agg #[.int .i64 ((a / Nat.gcd b a : Nat) : Int), .int .i64 ((b / Nat.gcd b a : Nat) : Int)], .bool true]
set_option maxHeartbeats 800000 in
set_option maxRecDepth 100000 in
theorem wfYieldOf_any (R : List (List UInt8)) (hR : WafRight R) (P : ByteArray) (L : List Pt) (hz : L.length ≤ 1000000) (hL : ∀ j, j < L.length → PtOk (L.getD j (0, 0))) (w : World) (v u : Value) (h : RowsIn w v R) (hu : PtsAt w u L) :
    Calls Tryz.prog 72 #[.agg #[v, .string P], u] w fun e w' => e = .returned (yldN (cntTo (fun p => inS P (dieN R p.1 p.2)) L L.length) (cntTo (fun p => tstB (dieN R p.1 p.2)) L L.length)) ∧ Below w.heap.size w w' := by
  obtain ⟨W1, hW1⟩ : ∃ X : World, X = (w.alloc (.cells #[v, .string P] 84)).alloc (.cells #[.int .i64 0, .int .i64 0] 80) := ⟨_, rfl⟩
  have hB1 : Below w.heap.size w W1 := by rw [hW1]; exact ((Below.refl _ _).alloc (Nat.le_refl _) _).alloc (by simp) _
  have h1 := h.later hB1
  have hu1 := hu.later hB1
  have c0 : W1.cell? ⟨w.heap.size, 0, none⟩ = some v := by rw [hW1]; simp
  have c0' : W1.cell? ⟨w.heap.size, 1, none⟩ = some (.string P) := by rw [hW1]; simp
  have r0 : W1.cell? ⟨w.heap.size + 1, 0, none⟩ = some (.int .i64 0) := by rw [hW1]; simp
  have r1 : W1.cell? ⟨w.heap.size + 1, 1, none⟩ = some (.int .i64 0) := by rw [hW1]; simp
  have q0 : W1.frozen? ⟨w.heap.size + 1, 0, none⟩ = false := by rw [hW1]; simp
  have q1 : W1.frozen? ⟨w.heap.size + 1, 1, none⟩ = false := by rw [hW1]; simp
  have hl0 : w.heap.size < W1.heap.size := World.block_lt_of_cell? W1 ⟨w.heap.size, 0, none⟩ c0
  have hl1 : w.heap.size + 1 < W1.heap.size := World.block_lt_of_cell? W1 ⟨w.heap.size + 1, 0, none⟩ r0
  have hc1 := wfCount_IsTested R hR P L hz hL W1 v u h1 hu1
  have hc2 := fun X hB => wfCount_HasPassed R hR P L hz hL X v u (h1.later (w' := X) hB) (hu1.later hB)
  have l1 := cntTo_le (fun p => tstB (dieN R p.1 p.2)) L L.length
  have l2 := cntTo_le (fun p => inS P (dieN R p.1 p.2)) L L.length
  obtain ⟨b, hb⟩ : ∃ b, b = cntTo (fun p => tstB (dieN R p.1 p.2)) L L.length := ⟨_, rfl⟩
  obtain ⟨a, ha⟩ : ∃ a, a = cntTo (fun p => inS P (dieN R p.1 p.2)) L L.length := ⟨_, rfl⟩
  rw [← hb] at l1 hc1
  rw [← ha] at l2 hc2
  rw [← ha, ← hb]
  obtain ⟨ra, rc, rfl, -, -⟩ := id h1
  obtain ⟨ua, uc, rfl, -, -⟩ := id hu1
  have hro := fun (hb0 : 0 < b) X => ratioOfW_any a b hb0 (by omega) (by omega) X
  have HB := Lib.hid hB1
  have HW := Lib.hid hW1
  have HR := Lib.hid hro
  clear hB1 hW1 h1 h hu1 hu hL hR ha hb hro l1 l2
  go_enter Tryz.func72, Tryz.ntmps72
  go_wp2_with fail
  rw [← HW.out]
  go_wp2_with fail
  refine hc1.mono ?_
  rintro e w2 ⟨rfl, hB2⟩
  have e0 := (hB2.cell (p := ⟨w.heap.size, 0, none⟩) hl0).trans c0
  have e0' := (hB2.cell (p := ⟨w.heap.size, 1, none⟩) hl0).trans c0'
  have s0 := (hB2.cell (p := ⟨w.heap.size + 1, 0, none⟩) hl1).trans r0
  have s1 := (hB2.cell (p := ⟨w.heap.size + 1, 1, none⟩) hl1).trans r1
  have t0 := (hB2.frozen (p := ⟨w.heap.size + 1, 0, none⟩) hl1).trans q0
  have t1 := (hB2.frozen (p := ⟨w.heap.size + 1, 1, none⟩) hl1).trans q1
  have hl2 : w.heap.size + 1 < w2.heap.size := Nat.lt_of_lt_of_le hl1 hB2.size
  have hc := hc2 w2 hB2
  have HB2 := Lib.hid (HB.out.trans (hB2.mono HB.out.size))
  clear hB2 hc1 hc2 c0 c0' r0 r1 q0 q1
  by_cases hb0 : b = 0
  · have n0 : ((b : Int) == 0) = true := by rw [hb0]; rfl
    have hy : yldN a b = .tuple #[.agg #[.int .i64 0, .int .i64 0], .bool false] := by unfold yldN; rw [if_pos hb0]
    have HY := Lib.hid hy
    clear hb0 hy hc
    go_wp2_with fail
    refine bodyPost_ret (v := .tuple #[.agg #[.int .i64 0, .int .i64 0], .bool false]) ?_ rfl ⟨by rw [HY.out], ?_⟩
    · simp [results, Tryz.f72, go_sem, s0, s1]
    · exact (HB2.out.setCell (p := ⟨w.heap.size + 1, 0, none⟩) (by simp) _).setCell (p := ⟨w.heap.size + 1, 1, none⟩) (by simp) _
  · have n0 : ((b : Int) == 0) = false := by rw [beq_eq_false_iff_ne]; omega
    have hy : yldN a b = .tuple #[.agg #[.int .i64 ((a / Nat.gcd b a : Nat) : Int), .int .i64 ((b / Nat.gcd b a : Nat) : Int)], .bool true] := by unfold yldN; rw [if_neg hb0]
    have hr := HR.out (by omega)
    obtain ⟨x, hx⟩ : ∃ x, x = a / Nat.gcd b a := ⟨_, rfl⟩
    obtain ⟨y, hyy⟩ : ∃ y, y = b / Nat.gcd b a := ⟨_, rfl⟩
    rw [← hx, ← hyy] at hr hy
    have HY := Lib.hid hy
    clear hb0 hy hx hyy
    go_wp2_with fail
    refine hc.mono ?_
    rintro e w3 ⟨rfl, hB3⟩
    have s0' := (hB3.cell (p := ⟨w.heap.size + 1, 0, none⟩) hl2).trans s0
    have s1' := (hB3.cell (p := ⟨w.heap.size + 1, 1, none⟩) hl2).trans s1
    have t0' := (hB3.frozen (p := ⟨w.heap.size + 1, 0, none⟩) hl2).trans t0
    have t1' := (hB3.frozen (p := ⟨w.heap.size + 1, 1, none⟩) hl2).trans t1
    have hl3 : w.heap.size + 1 < w3.heap.size := Nat.lt_of_lt_of_le hl2 hB3.size
    have HB3 := Lib.hid (HB2.out.trans (hB3.mono HB2.out.size))
    have hr3 := hr w3
    clear hB3 hc hr s0 s1 t0 t1 e0 e0'
    go_wp2_with fail
    refine hr3.mono ?_
    rintro e w4 ⟨rfl, hB4⟩
    have s0 := (hB4.cell (p := ⟨w.heap.size + 1, 0, none⟩) hl3).trans s0'
    have s1 := (hB4.cell (p := ⟨w.heap.size + 1, 1, none⟩) hl3).trans s1'
    have t0 := (hB4.frozen (p := ⟨w.heap.size + 1, 0, none⟩) hl3).trans t0'
    have t1 := (hB4.frozen (p := ⟨w.heap.size + 1, 1, none⟩) hl3).trans t1'
    have HB4 := Lib.hid (HB3.out.trans (hB4.mono HB3.out.size))
    clear hB4 hr3 s0' s1' t0' t1'
    go_wp2_with fail
    refine bodyPost_ret (v := .tuple #[.agg #[.int .i64 (x : Int), .int .i64 (y : Int)], .bool true]) ?_ rfl ⟨by rw [HY.out], ?_⟩
    · simp [results, Tryz.f72, go_sem, s0, s1]
    · exact (HB4.out.setCell (p := ⟨w.heap.size + 1, 0, none⟩) (by simp) _).setCell (p := ⟨w.heap.size + 1, 1, none⟩) (by simp) _
theorem rowP_in (f : Pt → Bool) (y : Nat) : ∀ x p, p ∈ rowP f y x → ∃ i, i < x ∧ p = ((i : Int), (y : Int))
  | 0, p, h => by cases h
  | x + 1, p, h => by
    unfold rowP at h
    rw [List.mem_append] at h
    rcases h with h | h
    · obtain ⟨i, h1, h2⟩ := rowP_in f y x p h
      exact ⟨i, by omega, h2⟩
    · split at h
      · rw [List.mem_singleton] at h
        exact ⟨x, by omega, h⟩
      · cases h
theorem allP_in (f : Pt → Bool) (m : Nat) : ∀ y p, p ∈ allP f m y → ∃ i j, i < m ∧ j < y ∧ p = ((i : Int), (j : Int))
  | 0, p, h => by cases h
  | y + 1, p, h => by
    unfold allP at h
    rw [List.mem_append] at h
    rcases h with h | h
    · obtain ⟨i, j, h1, h2, h3⟩ := allP_in f m y p h
      exact ⟨i, j, h1, by omega, h3⟩
    · obtain ⟨i, h1, h2⟩ := rowP_in f y m p h
      exact ⟨i, y, h1, by omega, h2⟩
theorem allP_ok (f : Pt → Bool) (m n : Nat) (hm : m ≤ 60) (hn : n ≤ 60) : ∀ j, j < (allP f m n).length → PtOk ((allP f m n).getD j (0, 0)) := by
  intro j hj
  have e : (allP f m n).getD j (0, 0) = (allP f m n)[j] := by simp [hj]
  obtain ⟨i, k, h1, h2, h3⟩ := allP_in f m n _ (List.getElem_mem hj)
  rw [e, h3]
  unfold PtOk
  dsimp only
  omega
theorem yldN_form (a b : Nat) : ∃ (x y : Int) (q : Bool), yldN a b = .tuple #[.agg #[.int .i64 x, .int .i64 y], .bool q] := by
  unfold yldN
  split
  · exact ⟨_, _, _, rfl⟩
  · exact ⟨_, _, _, rfl⟩
theorem new_kept {w w3 : World} {v0 v1 : Value} {t : TypeId} (h : Below (w.alloc (.cells #[v0, v1] t)).heap.size (w.alloc (.cells #[v0, v1] t)) w3) :
    w3.cell? ⟨w.heap.size, 0, none⟩ = some v0 ∧ w3.cell? ⟨w.heap.size, 1, none⟩ = some v1 ∧ w3.frozen? ⟨w.heap.size, 0, none⟩ = false ∧ w3.frozen? ⟨w.heap.size, 1, none⟩ = false ∧ w.heap.size < w3.heap.size := by
  have hl : w.heap.size < (w.alloc (.cells #[v0, v1] t)).heap.size := by simp
  exact ⟨(h.cell (p := ⟨w.heap.size, 0, none⟩) hl).trans (by simp), (h.cell (p := ⟨w.heap.size, 1, none⟩) hl).trans (by simp), (h.frozen (p := ⟨w.heap.size, 0, none⟩) hl).trans (by simp), (h.frozen (p := ⟨w.heap.size, 1, none⟩) hl).trans (by simp), Nat.lt_of_lt_of_le hl h.size⟩
theorem alloc_lt (w : World) (o : Obj) : w.heap.size < (w.alloc o).heap.size := by simp
theorem far_kept {w w3 : World} {g : Nat} {v0 v1 : Value} (h : Below w.heap.size w w3) (f0 : w.cell? ⟨g, 0, none⟩ = some v0) (f1 : w.cell? ⟨g, 1, none⟩ = some v1) (f2 : w.frozen? ⟨g, 0, none⟩ = false) (f3 : w.frozen? ⟨g, 1, none⟩ = false) (f4 : g < w.heap.size) :
    w3.cell? ⟨g, 0, none⟩ = some v0 ∧ w3.cell? ⟨g, 1, none⟩ = some v1 ∧ w3.frozen? ⟨g, 0, none⟩ = false ∧ w3.frozen? ⟨g, 1, none⟩ = false :=
  ⟨(h.cell (p := ⟨g, 0, none⟩) f4).trans f0, (h.cell (p := ⟨g, 1, none⟩) f4).trans f1, (h.frozen (p := ⟨g, 0, none⟩) f4).trans f2, (h.frozen (p := ⟨g, 1, none⟩) f4).trans f3⟩
theorem new_kept_drew {w w3 : World} {v0 v1 : Value} {t : TypeId} (h : Below (w.drew.alloc (.cells #[v0, v1] t)).heap.size (w.drew.alloc (.cells #[v0, v1] t)) w3) :
    w3.cell? ⟨w.heap.size, 0, none⟩ = some v0 ∧ w3.cell? ⟨w.heap.size, 1, none⟩ = some v1 ∧ w3.frozen? ⟨w.heap.size, 0, none⟩ = false ∧ w3.frozen? ⟨w.heap.size, 1, none⟩ = false ∧ w.heap.size < w3.heap.size := new_kept (w := w.drew) h
/-- The tested dies of a wafer. -/
def tstL (R : List (List UInt8)) : List Pt := allP (fun p => tstB (dieN R p.1 p.2)) (R.getD 0 []).length R.length
def yldW (R : List (List UInt8)) (P : ByteArray) : Value := yldN (cntTo (fun p => inS P (dieN R p.1 p.2)) (tstL R) (tstL R).length) (cntTo (fun p => tstB (dieN R p.1 p.2)) (tstL R) (tstL R).length)
set_option maxHeartbeats 1600000 in
set_option maxRecDepth 100000 in
theorem wfYield_right (R : List (List UInt8)) (hR : RowsRight R) (P : ByteArray) (hP : PassRight P) (hz : P.size ≤ 1000000) (w : World) (v : Value) (h : RowsIn w v R) :
    Calls Tryz.prog 39 #[.agg #[v, .string P]] w fun e w' => (∃ x y q, yldW R P = .tuple #[.agg #[.int .i64 x, .int .i64 y], .bool q] ∧ e = .returned (.tuple #[.agg #[.int .i64 x, .int .i64 y], .bool q, .int .i64 0])) ∧ Below w.heap.size w w' := by
  obtain ⟨W1, hW1⟩ : ∃ X : World, X = (w.alloc (.cells #[v, .string P] 84)).alloc (.cells #[.int .i64 0, .int .i64 0] 80) := ⟨_, rfl⟩
  have hB1 : Below w.heap.size w W1 := by rw [hW1]; exact ((Below.refl _ _).alloc (Nat.le_refl _) _).alloc (by simp) _
  have h1 := h.later hB1
  have c0 : W1.cell? ⟨w.heap.size, 0, none⟩ = some v := by rw [hW1]; simp
  have c0' : W1.cell? ⟨w.heap.size, 1, none⟩ = some (.string P) := by rw [hW1]; simp
  have r0 : W1.cell? ⟨w.heap.size + 1, 0, none⟩ = some (.int .i64 0) := by rw [hW1]; simp
  have r1 : W1.cell? ⟨w.heap.size + 1, 1, none⟩ = some (.int .i64 0) := by rw [hW1]; simp
  have q0 : W1.frozen? ⟨w.heap.size + 1, 0, none⟩ = false := by rw [hW1]; simp
  have q1 : W1.frozen? ⟨w.heap.size + 1, 1, none⟩ = false := by rw [hW1]; simp
  have hl0 : w.heap.size < W1.heap.size := World.block_lt_of_cell? W1 ⟨w.heap.size, 0, none⟩ c0
  have hl1 : w.heap.size + 1 < W1.heap.size := World.block_lt_of_cell? W1 ⟨w.heap.size + 1, 0, none⟩ r0
  have hck := wfCheck_right R hR P hP hz W1 v h1
  have hpl := fun X hB => wfPlaces_IsTested R hR.waf P X v (h1.later (w' := X) hB)
  have hok := allP_ok (fun p => tstB (dieN R p.1 p.2)) (R.getD 0 []).length R.length hR.waf.m60 hR.waf.n60
  have hln := allP_len (fun p => tstB (dieN R p.1 p.2)) (R.getD 0 []).length R.length
  have h36 : R.length * (R.getD 0 []).length ≤ 60 * 60 := Nat.mul_le_mul hR.waf.n60 hR.waf.m60
  change ∀ X, _ → Calls Tryz.prog 73 #[.agg #[v, .string P], .func (.func 74) #[] #[]] X (fun e w' => ∃ u, e = .returned u ∧ PtsAt w' u (tstL R) ∧ Below X.heap.size X w') at hpl
  change ∀ j, j < (tstL R).length → PtOk ((tstL R).getD j (0, 0)) at hok
  change (tstL R).length ≤ _ at hln
  have hyo := fun (X : World) (u : Value) (hB : Below W1.heap.size W1 X) (hu : PtsAt X u (tstL R)) => wfYieldOf_any R hR.waf P (tstL R) (by omega) hok X v u (h1.later hB) hu
  obtain ⟨x, y, q, hform⟩ := yldN_form (cntTo (fun p => inS P (dieN R p.1 p.2)) (tstL R) (tstL R).length) (cntTo (fun p => tstB (dieN R p.1 p.2)) (tstL R) (tstL R).length)
  rw [hform] at hyo
  have hyw : yldW R P = .tuple #[.agg #[.int .i64 x, .int .i64 y], .bool q] := hform
  obtain ⟨T, hT⟩ : ∃ T, T = tstL R := ⟨_, rfl⟩
  rw [← hT] at hyo hpl
  obtain ⟨ra, rc, rfl, -, -⟩ := id h1
  have HB := Lib.hid hB1
  have HW := Lib.hid hW1
  have HY := Lib.hid hyw
  clear hB1 hW1 h1 h hR hP hok hln h36 hform hT hyw
  go_enter Tryz.func39, Tryz.ntmps39
  go_wp2_with fail
  rw [← HW.out]
  go_wp2_with fail
  refine hck.mono ?_
  rintro e w2 ⟨rfl, hB2⟩
  have e0 := (hB2.cell (p := ⟨w.heap.size, 0, none⟩) hl0).trans c0
  have e0' := (hB2.cell (p := ⟨w.heap.size, 1, none⟩) hl0).trans c0'
  have s0 := (hB2.cell (p := ⟨w.heap.size + 1, 0, none⟩) hl1).trans r0
  have s1 := (hB2.cell (p := ⟨w.heap.size + 1, 1, none⟩) hl1).trans r1
  have t0 := (hB2.frozen (p := ⟨w.heap.size + 1, 0, none⟩) hl1).trans q0
  have t1 := (hB2.frozen (p := ⟨w.heap.size + 1, 1, none⟩) hl1).trans q1
  have hl3 : w.heap.size < w2.heap.size := Nat.lt_of_lt_of_le hl0 hB2.size
  have hl2 : w.heap.size + 1 < w2.heap.size := Nat.lt_of_lt_of_le hl1 hB2.size
  have HA := Lib.hid (⟨hpl, hyo, hB2⟩ : _ ∧ _ ∧ _)
  clear hB2 hck c0 c0' r0 r1 q0 q1 hpl hyo
  go_upto_region 4 with (fail)
  go_cut [6, 7] (fun x6 x7 wx => ∃ g, x6 = .pointer (some ⟨g, 0, none⟩) ∧ w2.heap.size ≤ g ∧ wx.cell? ⟨g, 0, none⟩ = some (.int .i64 x) ∧ wx.cell? ⟨g, 1, none⟩ = some (.int .i64 y) ∧ x7 = .bool q ∧ Below w2.heap.size w2 wx)
  case first =>
    have hpl2 := fun X (hX : Below w2.heap.size w2 X) => HA.out.1 X (HA.out.2.2.trans (hX.mono HA.out.2.2.size))
    have hyo2 := fun X u (hX : Below w2.heap.size w2 X) hu => HA.out.2.1 X u (HA.out.2.2.trans (hX.mono HA.out.2.2.size)) hu
    refine wp_region_held_drew (S := (fun W' => W'.cell? ⟨w.heap.size, 0, none⟩ = some (.slice ra R.length rc) ∧ W'.cell? ⟨w.heap.size, 1, none⟩ = some (.string P))) (by kernel_rfl) (by first | exact ⟨e0, e0'⟩ | exact ⟨d0, d1⟩ | exact ⟨e3, e4⟩ | exact ⟨(World.cell?_alloc_lt _ _ _ hl3).trans e0, (World.cell?_alloc_lt _ _ _ hl3).trans e0'⟩ | exact ⟨(World.cell?_alloc_lt _ _ _ (Nat.lt_of_lt_of_le hl3 hA3.size)).trans d0, (World.cell?_alloc_lt _ _ _ (Nat.lt_of_lt_of_le hl3 hA3.size)).trans d1⟩ | exact ⟨(World.cell?_alloc_lt _ _ _ (Nat.lt_of_lt_of_le hl3 hA4.size)).trans e3, (World.cell?_alloc_lt _ _ _ (Nat.lt_of_lt_of_le hl3 hA4.size)).trans e4⟩ | (refine ⟨?_, ?_⟩ <;> (rw [World.cell?_setCell_other _ _ _ _ (by intro hh; have := congrArg Addr.block hh; dsimp only at this; omega), World.cell?_setCell_other _ _ _ _ (by intro hh; have := congrArg Addr.block hh; dsimp only at this; omega)]; first | exact e3 | exact e4))) (fun hHeld => ?_)
    refine wpAnyH_take (i := 0) (v := ?_) rfl (by kernel_rfl) (by kernel_rfl) (by kernel_rfl) (fun _ _ _ h => h) (Or.inl ⟨by rfl, ?_⟩) (by assumption) ?_
    rotate_left
    focus (intro w hSw; (try dsimp only at hSw); go_simp; first | done | with_reducible rfl)
    go_simp
    refine wpAnyH_take (i := 1) (v := ?_) rfl (by kernel_rfl) (by kernel_rfl) (by kernel_rfl) (fun _ _ _ h => h) (Or.inl ⟨by rfl, ?_⟩) (by assumption) ?_
    rotate_left
    focus (intro w hSw; (try dsimp only at hSw); go_simp; first | done | with_reducible rfl)
    go_simp
    refine wpAnyH_ready (rs := [2, 7]) (by kernel_rfl) (by simp) (AllReadyH.cons rfl (fun K hK => ?_) (AllReadyH.cons rfl (fun K hK => ?_) AllReadyH.nil))
    ·
      go_simp
      go_at_call 73
      refine (hpl2 w2.drew ((Below.refl _ _).drew)).mono ?_
      rintro e w3 ⟨u, rfl, hu, hB3⟩
      have hA3 : Below w2.heap.size w2 w3 := Below.trans ((Below.refl _ _).drew) hB3
      have d0 := (hA3.cell (p := ⟨w.heap.size, 0, none⟩) hl3).trans e0
      have d1 := (hA3.cell (p := ⟨w.heap.size, 1, none⟩) hl3).trans e0'
      have z3 : w2.heap.size ≤ w3.heap.size := hA3.size
      refine hK.out _ _ ?_ (fun hHeld => ?_)
      focus (first | exact ⟨e0, e0'⟩ | exact ⟨d0, d1⟩ | exact ⟨e3, e4⟩ | exact ⟨(World.cell?_alloc_lt _ _ _ hl3).trans e0, (World.cell?_alloc_lt _ _ _ hl3).trans e0'⟩ | exact ⟨(World.cell?_alloc_lt _ _ _ (Nat.lt_of_lt_of_le hl3 hA3.size)).trans d0, (World.cell?_alloc_lt _ _ _ (Nat.lt_of_lt_of_le hl3 hA3.size)).trans d1⟩ | exact ⟨(World.cell?_alloc_lt _ _ _ (Nat.lt_of_lt_of_le hl3 hA4.size)).trans e3, (World.cell?_alloc_lt _ _ _ (Nat.lt_of_lt_of_le hl3 hA4.size)).trans e4⟩ | (refine ⟨?_, ?_⟩ <;> (rw [World.cell?_setCell_other _ _ _ _ (by intro hh; have := congrArg Addr.block hh; dsimp only at this; omega), World.cell?_setCell_other _ _ _ _ (by intro hh; have := congrArg Addr.block hh; dsimp only at this; omega)]; first | exact e3 | exact e4)))
      clear hK K
      go_simp
      refine wpAnyH_ready (rs := [3, 7]) (by kernel_rfl) (by simp) (AllReadyH.cons rfl (fun K hK => ?_) (AllReadyH.cons rfl (fun K hK => ?_) AllReadyH.nil))
      ·
        go_simp
        go_at_call 72
        refine (hyo2 w3 _ hA3 hu).mono ?_
        rintro e w4 ⟨rfl, hB4⟩
        have hA4 := Below.trans hA3 (Below.mono hB4 hA3.size)
        have e3 := (hA4.cell (p := ⟨w.heap.size, 0, none⟩) hl3).trans e0
        have e4 := (hA4.cell (p := ⟨w.heap.size, 1, none⟩) hl3).trans e0'
        have z4 : w2.heap.size ≤ w4.heap.size := hA4.size
        refine hK.out _ _ ?_ (fun hHeld => ?_)
        focus (first | exact ⟨e0, e0'⟩ | exact ⟨d0, d1⟩ | exact ⟨e3, e4⟩ | exact ⟨(World.cell?_alloc_lt _ _ _ hl3).trans e0, (World.cell?_alloc_lt _ _ _ hl3).trans e0'⟩ | exact ⟨(World.cell?_alloc_lt _ _ _ (Nat.lt_of_lt_of_le hl3 hA3.size)).trans d0, (World.cell?_alloc_lt _ _ _ (Nat.lt_of_lt_of_le hl3 hA3.size)).trans d1⟩ | exact ⟨(World.cell?_alloc_lt _ _ _ (Nat.lt_of_lt_of_le hl3 hA4.size)).trans e3, (World.cell?_alloc_lt _ _ _ (Nat.lt_of_lt_of_le hl3 hA4.size)).trans e4⟩ | (refine ⟨?_, ?_⟩ <;> (rw [World.cell?_setCell_other _ _ _ _ (by intro hh; have := congrArg Addr.block hh; dsimp only at this; omega), World.cell?_setCell_other _ _ _ _ (by intro hh; have := congrArg Addr.block hh; dsimp only at this; omega)]; first | exact e3 | exact e4)))
        clear hK K
        go_simp
        refine wpAnyH_take (i := 4) (v := ?_) rfl (by kernel_rfl) (by kernel_rfl) (by kernel_rfl) (fun _ _ _ h => h) (Or.inl ⟨by rfl, ?_⟩) (by assumption) ?_
        rotate_left
        focus (intro w hSw; (try dsimp only at hSw); go_simp; first | done | with_reducible rfl)
        go_simp
        refine wpAnyH_take (i := 5) (v := ?_) rfl (by kernel_rfl) (by kernel_rfl) (by kernel_rfl) (fun _ _ _ h => h) (Or.inl ⟨by rfl, ?_⟩) (by assumption) ?_
        rotate_left
        focus (intro w hSw; (try dsimp only at hSw); go_simp; first | done | with_reducible rfl)
        go_simp
        refine wpAnyH_take (i := 6) (v := ?_) rfl (by kernel_rfl) (by kernel_rfl) (by kernel_rfl) (fun _ _ _ h => h) (Or.inl ⟨by rfl, ?_⟩) (by assumption) ?_
        rotate_left
        focus (intro w hSw; (try dsimp only at hSw); go_simp; first | done | with_reducible rfl)
        go_simp
        refine wpAnyH_ready (rs := [7]) (by kernel_rfl) (by simp) (AllReadyH.cons rfl (fun K hK => ?_) AllReadyH.nil)
        go_simp
        refine hK.out _ _ ?_ (fun hHeld => ?_)
        focus (first | exact ⟨e0, e0'⟩ | exact ⟨d0, d1⟩ | exact ⟨e3, e4⟩ | exact ⟨(World.cell?_alloc_lt _ _ _ hl3).trans e0, (World.cell?_alloc_lt _ _ _ hl3).trans e0'⟩ | exact ⟨(World.cell?_alloc_lt _ _ _ (Nat.lt_of_lt_of_le hl3 hA3.size)).trans d0, (World.cell?_alloc_lt _ _ _ (Nat.lt_of_lt_of_le hl3 hA3.size)).trans d1⟩ | exact ⟨(World.cell?_alloc_lt _ _ _ (Nat.lt_of_lt_of_le hl3 hA4.size)).trans e3, (World.cell?_alloc_lt _ _ _ (Nat.lt_of_lt_of_le hl3 hA4.size)).trans e4⟩ | (refine ⟨?_, ?_⟩ <;> (rw [World.cell?_setCell_other _ _ _ _ (by intro hh; have := congrArg Addr.block hh; dsimp only at this; omega), World.cell?_setCell_other _ _ _ _ (by intro hh; have := congrArg Addr.block hh; dsimp only at this; omega)]; first | exact e3 | exact e4)))
        clear hK K
        go_simp
        refine wpAnyH_ready (rs := [8]) (by kernel_rfl) (by simp) (AllReadyH.cons rfl (fun K hK => ?_) AllReadyH.nil)
        go_simp
        refine hK.out _ _ ?_ (fun hHeld => ?_)
        focus (first | exact ⟨e0, e0'⟩ | exact ⟨d0, d1⟩ | exact ⟨e3, e4⟩ | exact ⟨(World.cell?_alloc_lt _ _ _ hl3).trans e0, (World.cell?_alloc_lt _ _ _ hl3).trans e0'⟩ | exact ⟨(World.cell?_alloc_lt _ _ _ (Nat.lt_of_lt_of_le hl3 hA3.size)).trans d0, (World.cell?_alloc_lt _ _ _ (Nat.lt_of_lt_of_le hl3 hA3.size)).trans d1⟩ | exact ⟨(World.cell?_alloc_lt _ _ _ (Nat.lt_of_lt_of_le hl3 hA4.size)).trans e3, (World.cell?_alloc_lt _ _ _ (Nat.lt_of_lt_of_le hl3 hA4.size)).trans e4⟩ | (refine ⟨?_, ?_⟩ <;> (rw [World.cell?_setCell_other _ _ _ _ (by intro hh; have := congrArg Addr.block hh; dsimp only at this; omega), World.cell?_setCell_other _ _ _ _ (by intro hh; have := congrArg Addr.block hh; dsimp only at this; omega)]; first | exact e3 | exact e4)))
        clear hK K
        go_simp
        refine wpAnyH_take (i := 9) (v := ?_) rfl (by kernel_rfl) (by kernel_rfl) (by kernel_rfl) (fun _ _ _ h => h) (Or.inl ⟨by rfl, ?_⟩) (by assumption) ?_
        rotate_left
        focus (intro w hSw; (try dsimp only at hSw); go_simp; first | done | with_reducible rfl)
        go_simp
        refine wpAnyH_done (by kernel_rfl) ?_ _
        have p0 : (w4.alloc (.cells #[.int .i64 x, .int .i64 y] 80)).cell? ⟨w4.heap.size, 0, none⟩ = some (.int .i64 x) := by simp
        have p1 : (w4.alloc (.cells #[.int .i64 x, .int .i64 y] 80)).cell? ⟨w4.heap.size, 1, none⟩ = some (.int .i64 y) := by simp
        have HZ := Lib.hid (hA4.alloc hA4.size (.cells #[.int .i64 x, .int .i64 y] 80))
        clear hA3 hA4 hB3 hB4 hu
        go_wp2_with fail
        go_meet
        exact ⟨_, rfl, by omega, p0, p1, rfl, HZ.out⟩
      ·
        go_simp
        refine hK.out _ _ ?_ (fun hHeld => ?_)
        focus (first | exact ⟨e0, e0'⟩ | exact ⟨d0, d1⟩ | exact ⟨e3, e4⟩ | exact ⟨(World.cell?_alloc_lt _ _ _ hl3).trans e0, (World.cell?_alloc_lt _ _ _ hl3).trans e0'⟩ | exact ⟨(World.cell?_alloc_lt _ _ _ (Nat.lt_of_lt_of_le hl3 hA3.size)).trans d0, (World.cell?_alloc_lt _ _ _ (Nat.lt_of_lt_of_le hl3 hA3.size)).trans d1⟩ | exact ⟨(World.cell?_alloc_lt _ _ _ (Nat.lt_of_lt_of_le hl3 hA4.size)).trans e3, (World.cell?_alloc_lt _ _ _ (Nat.lt_of_lt_of_le hl3 hA4.size)).trans e4⟩ | (refine ⟨?_, ?_⟩ <;> (rw [World.cell?_setCell_other _ _ _ _ (by intro hh; have := congrArg Addr.block hh; dsimp only at this; omega), World.cell?_setCell_other _ _ _ _ (by intro hh; have := congrArg Addr.block hh; dsimp only at this; omega)]; first | exact e3 | exact e4)))
        clear hK K
        go_simp
        refine wpAnyH_ready (rs := [3]) (by kernel_rfl) (by simp) (AllReadyH.cons rfl (fun K hK => ?_) AllReadyH.nil)
        go_simp
        go_at_call 72
        refine (hyo2 (w3.alloc (.cells #[.int .i64 0, .int .i64 0] 80)) _ (hA3.alloc hA3.size _) (hu.later ((Below.refl _ _).alloc (Nat.le_refl _) _))).mono ?_
        rintro e w4 ⟨rfl, hB4⟩
        have hA4 := Below.trans (hA3.alloc hA3.size _) (Below.mono hB4 (hA3.alloc hA3.size _).size)
        obtain ⟨k0, k1, k2, k3, k4⟩ := new_kept hB4
        have e3 := (hA4.cell (p := ⟨w.heap.size, 0, none⟩) hl3).trans e0
        have e4 := (hA4.cell (p := ⟨w.heap.size, 1, none⟩) hl3).trans e0'
        have z4 : w2.heap.size ≤ w4.heap.size := hA4.size
        refine hK.out _ _ ?_ (fun hHeld => ?_)
        focus (first | exact ⟨e0, e0'⟩ | exact ⟨d0, d1⟩ | exact ⟨e3, e4⟩ | exact ⟨(World.cell?_alloc_lt _ _ _ hl3).trans e0, (World.cell?_alloc_lt _ _ _ hl3).trans e0'⟩ | exact ⟨(World.cell?_alloc_lt _ _ _ (Nat.lt_of_lt_of_le hl3 hA3.size)).trans d0, (World.cell?_alloc_lt _ _ _ (Nat.lt_of_lt_of_le hl3 hA3.size)).trans d1⟩ | exact ⟨(World.cell?_alloc_lt _ _ _ (Nat.lt_of_lt_of_le hl3 hA4.size)).trans e3, (World.cell?_alloc_lt _ _ _ (Nat.lt_of_lt_of_le hl3 hA4.size)).trans e4⟩ | (refine ⟨?_, ?_⟩ <;> (rw [World.cell?_setCell_other _ _ _ _ (by intro hh; have := congrArg Addr.block hh; dsimp only at this; omega), World.cell?_setCell_other _ _ _ _ (by intro hh; have := congrArg Addr.block hh; dsimp only at this; omega)]; first | exact e3 | exact e4)))
        clear hK K
        go_simp
        refine wpAnyH_take (i := 4) (v := ?_) rfl (by kernel_rfl) (by kernel_rfl) (by kernel_rfl) (fun _ _ _ h => h) (Or.inl ⟨by rfl, ?_⟩) (by assumption) ?_
        rotate_left
        focus (intro w hSw; (try dsimp only at hSw); go_simp; first | done | with_reducible rfl)
        go_simp
        refine wpAnyH_take (i := 5) (v := ?_) rfl (by kernel_rfl) (by kernel_rfl) (by kernel_rfl) (fun _ _ _ h => h) (Or.inl ⟨by rfl, ?_⟩) (by assumption) ?_
        rotate_left
        focus (intro w hSw; (try dsimp only at hSw); go_simp; first | done | with_reducible rfl)
        go_simp
        refine wpAnyH_take (i := 6) (v := ?_) rfl (by kernel_rfl) (by kernel_rfl) (by kernel_rfl) (fun _ _ _ h => h) (Or.inl ⟨by rfl, ?_⟩) (by assumption) ?_
        rotate_left
        focus (intro w hSw; (try dsimp only at hSw); go_simp; first | done | with_reducible rfl)
        go_simp
        refine wpAnyH_ready (rs := [8]) (by kernel_rfl) (by simp) (AllReadyH.cons rfl (fun K hK => ?_) AllReadyH.nil)
        go_simp
        refine hK.out _ _ ?_ (fun hHeld => ?_)
        focus (first | exact ⟨e0, e0'⟩ | exact ⟨d0, d1⟩ | exact ⟨e3, e4⟩ | exact ⟨(World.cell?_alloc_lt _ _ _ hl3).trans e0, (World.cell?_alloc_lt _ _ _ hl3).trans e0'⟩ | exact ⟨(World.cell?_alloc_lt _ _ _ (Nat.lt_of_lt_of_le hl3 hA3.size)).trans d0, (World.cell?_alloc_lt _ _ _ (Nat.lt_of_lt_of_le hl3 hA3.size)).trans d1⟩ | exact ⟨(World.cell?_alloc_lt _ _ _ (Nat.lt_of_lt_of_le hl3 hA4.size)).trans e3, (World.cell?_alloc_lt _ _ _ (Nat.lt_of_lt_of_le hl3 hA4.size)).trans e4⟩ | (refine ⟨?_, ?_⟩ <;> (rw [World.cell?_setCell_other _ _ _ _ (by intro hh; have := congrArg Addr.block hh; dsimp only at this; omega), World.cell?_setCell_other _ _ _ _ (by intro hh; have := congrArg Addr.block hh; dsimp only at this; omega)]; first | exact e3 | exact e4)))
        clear hK K
        go_simp
        refine wpAnyH_take (i := 9) (v := ?_) rfl (by kernel_rfl) (by kernel_rfl) (by kernel_rfl) (fun _ _ _ h => h) (Or.inl ⟨by rfl, ?_⟩) (by assumption) ?_
        rotate_left
        focus (intro w hSw; (try dsimp only at hSw); go_simp; first | done | with_reducible rfl)
        go_simp
        refine wpAnyH_done (by kernel_rfl) ?_ _
        have HZ := Lib.hid ((hA4.setCell (p := ⟨w3.heap.size, 0, none⟩) (by show w2.heap.size ≤ w3.heap.size; omega) (.int .i64 x)).setCell (p := ⟨w3.heap.size, 1, none⟩) (by show w2.heap.size ≤ w3.heap.size; omega) (.int .i64 y))
        have p0 : ((w4.setCell ⟨w3.heap.size, 0, none⟩ (.int .i64 x)).setCell ⟨w3.heap.size, 1, none⟩ (.int .i64 y)).cell? ⟨w3.heap.size, 0, none⟩ = some (.int .i64 x) := by rw [World.cell?_setCell_other _ _ _ _ (by simp)]; exact World.cell?_setCell_same _ _ _ k0
        have p1 : ((w4.setCell ⟨w3.heap.size, 0, none⟩ (.int .i64 x)).setCell ⟨w3.heap.size, 1, none⟩ (.int .i64 y)).cell? ⟨w3.heap.size, 1, none⟩ = some (.int .i64 y) := World.cell?_setCell_same _ _ _ ((World.cell?_setCell_other _ _ _ _ (by simp)).trans k1)
        clear hA3 hA4 hB3 hB4 hu
        go_wp2_with fail
        go_meet
        exact ⟨_, rfl, by omega, p0, p1, rfl, HZ.out⟩
    ·
      go_simp
      refine hK.out _ _ ?_ (fun hHeld => ?_)
      focus (first | exact ⟨e0, e0'⟩ | exact ⟨d0, d1⟩ | exact ⟨e3, e4⟩ | exact ⟨(World.cell?_alloc_lt _ _ _ hl3).trans e0, (World.cell?_alloc_lt _ _ _ hl3).trans e0'⟩ | exact ⟨(World.cell?_alloc_lt _ _ _ (Nat.lt_of_lt_of_le hl3 hA3.size)).trans d0, (World.cell?_alloc_lt _ _ _ (Nat.lt_of_lt_of_le hl3 hA3.size)).trans d1⟩ | exact ⟨(World.cell?_alloc_lt _ _ _ (Nat.lt_of_lt_of_le hl3 hA4.size)).trans e3, (World.cell?_alloc_lt _ _ _ (Nat.lt_of_lt_of_le hl3 hA4.size)).trans e4⟩ | (refine ⟨?_, ?_⟩ <;> (rw [World.cell?_setCell_other _ _ _ _ (by intro hh; have := congrArg Addr.block hh; dsimp only at this; omega), World.cell?_setCell_other _ _ _ _ (by intro hh; have := congrArg Addr.block hh; dsimp only at this; omega)]; first | exact e3 | exact e4)))
      clear hK K
      go_simp
      refine wpAnyH_ready (rs := [2]) (by kernel_rfl) (by simp) (AllReadyH.cons rfl (fun K hK => ?_) AllReadyH.nil)
      go_simp
      go_at_call 73
      refine (hpl2 (w2.drew.alloc (.cells #[.int .i64 0, .int .i64 0] 80)) (((Below.refl _ _).drew).alloc (Nat.le_refl _) _)).mono ?_
      rintro e w3 ⟨u, rfl, hu, hB3⟩
      have hA3 : Below w2.heap.size w2 w3 := Below.trans (((Below.refl _ _).drew).alloc (Nat.le_refl _) _) (Below.mono hB3 (Nat.le_of_lt (alloc_lt _ _)))
      obtain ⟨f0, f1, f2, f3, f4⟩ := new_kept_drew hB3
      have d0 := (hA3.cell (p := ⟨w.heap.size, 0, none⟩) hl3).trans e0
      have d1 := (hA3.cell (p := ⟨w.heap.size, 1, none⟩) hl3).trans e0'
      have z3 : w2.heap.size ≤ w3.heap.size := hA3.size
      refine hK.out _ _ ?_ (fun hHeld => ?_)
      focus (first | exact ⟨e0, e0'⟩ | exact ⟨d0, d1⟩ | exact ⟨e3, e4⟩ | exact ⟨(World.cell?_alloc_lt _ _ _ hl3).trans e0, (World.cell?_alloc_lt _ _ _ hl3).trans e0'⟩ | exact ⟨(World.cell?_alloc_lt _ _ _ (Nat.lt_of_lt_of_le hl3 hA3.size)).trans d0, (World.cell?_alloc_lt _ _ _ (Nat.lt_of_lt_of_le hl3 hA3.size)).trans d1⟩ | exact ⟨(World.cell?_alloc_lt _ _ _ (Nat.lt_of_lt_of_le hl3 hA4.size)).trans e3, (World.cell?_alloc_lt _ _ _ (Nat.lt_of_lt_of_le hl3 hA4.size)).trans e4⟩ | (refine ⟨?_, ?_⟩ <;> (rw [World.cell?_setCell_other _ _ _ _ (by intro hh; have := congrArg Addr.block hh; dsimp only at this; omega), World.cell?_setCell_other _ _ _ _ (by intro hh; have := congrArg Addr.block hh; dsimp only at this; omega)]; first | exact e3 | exact e4)))
      clear hK K
      go_simp
      refine wpAnyH_ready (rs := [3]) (by kernel_rfl) (by simp) (AllReadyH.cons rfl (fun K hK => ?_) AllReadyH.nil)
      go_simp
      go_at_call 72
      refine (hyo2 w3 _ hA3 hu).mono ?_
      rintro e w4 ⟨rfl, hB4⟩
      have hA4 := Below.trans hA3 (Below.mono hB4 hA3.size)
      obtain ⟨k0, k1, k2, k3⟩ := far_kept hB4 f0 f1 f2 f3 f4
      have e3 := (hA4.cell (p := ⟨w.heap.size, 0, none⟩) hl3).trans e0
      have e4 := (hA4.cell (p := ⟨w.heap.size, 1, none⟩) hl3).trans e0'
      have z4 : w2.heap.size ≤ w4.heap.size := hA4.size
      refine hK.out _ _ ?_ (fun hHeld => ?_)
      focus (first | exact ⟨e0, e0'⟩ | exact ⟨d0, d1⟩ | exact ⟨e3, e4⟩ | exact ⟨(World.cell?_alloc_lt _ _ _ hl3).trans e0, (World.cell?_alloc_lt _ _ _ hl3).trans e0'⟩ | exact ⟨(World.cell?_alloc_lt _ _ _ (Nat.lt_of_lt_of_le hl3 hA3.size)).trans d0, (World.cell?_alloc_lt _ _ _ (Nat.lt_of_lt_of_le hl3 hA3.size)).trans d1⟩ | exact ⟨(World.cell?_alloc_lt _ _ _ (Nat.lt_of_lt_of_le hl3 hA4.size)).trans e3, (World.cell?_alloc_lt _ _ _ (Nat.lt_of_lt_of_le hl3 hA4.size)).trans e4⟩ | (refine ⟨?_, ?_⟩ <;> (rw [World.cell?_setCell_other _ _ _ _ (by intro hh; have := congrArg Addr.block hh; dsimp only at this; omega), World.cell?_setCell_other _ _ _ _ (by intro hh; have := congrArg Addr.block hh; dsimp only at this; omega)]; first | exact e3 | exact e4)))
      clear hK K
      go_simp
      refine wpAnyH_take (i := 4) (v := ?_) rfl (by kernel_rfl) (by kernel_rfl) (by kernel_rfl) (fun _ _ _ h => h) (Or.inl ⟨by rfl, ?_⟩) (by assumption) ?_
      rotate_left
      focus (intro w hSw; (try dsimp only at hSw); go_simp; first | done | with_reducible rfl)
      go_simp
      refine wpAnyH_take (i := 5) (v := ?_) rfl (by kernel_rfl) (by kernel_rfl) (by kernel_rfl) (fun _ _ _ h => h) (Or.inl ⟨by rfl, ?_⟩) (by assumption) ?_
      rotate_left
      focus (intro w hSw; (try dsimp only at hSw); go_simp; first | done | with_reducible rfl)
      go_simp
      refine wpAnyH_take (i := 6) (v := ?_) rfl (by kernel_rfl) (by kernel_rfl) (by kernel_rfl) (fun _ _ _ h => h) (Or.inl ⟨by rfl, ?_⟩) (by assumption) ?_
      rotate_left
      focus (intro w hSw; (try dsimp only at hSw); go_simp; first | done | with_reducible rfl)
      go_simp
      refine wpAnyH_ready (rs := [8]) (by kernel_rfl) (by simp) (AllReadyH.cons rfl (fun K hK => ?_) AllReadyH.nil)
      go_simp
      refine hK.out _ _ ?_ (fun hHeld => ?_)
      focus (first | exact ⟨e0, e0'⟩ | exact ⟨d0, d1⟩ | exact ⟨e3, e4⟩ | exact ⟨(World.cell?_alloc_lt _ _ _ hl3).trans e0, (World.cell?_alloc_lt _ _ _ hl3).trans e0'⟩ | exact ⟨(World.cell?_alloc_lt _ _ _ (Nat.lt_of_lt_of_le hl3 hA3.size)).trans d0, (World.cell?_alloc_lt _ _ _ (Nat.lt_of_lt_of_le hl3 hA3.size)).trans d1⟩ | exact ⟨(World.cell?_alloc_lt _ _ _ (Nat.lt_of_lt_of_le hl3 hA4.size)).trans e3, (World.cell?_alloc_lt _ _ _ (Nat.lt_of_lt_of_le hl3 hA4.size)).trans e4⟩ | (refine ⟨?_, ?_⟩ <;> (rw [World.cell?_setCell_other _ _ _ _ (by intro hh; have := congrArg Addr.block hh; dsimp only at this; omega), World.cell?_setCell_other _ _ _ _ (by intro hh; have := congrArg Addr.block hh; dsimp only at this; omega)]; first | exact e3 | exact e4)))
      clear hK K
      go_simp
      refine wpAnyH_take (i := 9) (v := ?_) rfl (by kernel_rfl) (by kernel_rfl) (by kernel_rfl) (fun _ _ _ h => h) (Or.inl ⟨by rfl, ?_⟩) (by assumption) ?_
      rotate_left
      focus (intro w hSw; (try dsimp only at hSw); go_simp; first | done | with_reducible rfl)
      go_simp
      refine wpAnyH_done (by kernel_rfl) ?_ _
      have HZ := Lib.hid ((hA4.setCell (p := ⟨w2.heap.size, 0, none⟩) (by show w2.heap.size ≤ w2.heap.size; omega) (.int .i64 x)).setCell (p := ⟨w2.heap.size, 1, none⟩) (by show w2.heap.size ≤ w2.heap.size; omega) (.int .i64 y))
      have p0 : ((w4.setCell ⟨w2.heap.size, 0, none⟩ (.int .i64 x)).setCell ⟨w2.heap.size, 1, none⟩ (.int .i64 y)).cell? ⟨w2.heap.size, 0, none⟩ = some (.int .i64 x) := by rw [World.cell?_setCell_other _ _ _ _ (by simp)]; exact World.cell?_setCell_same _ _ _ k0
      have p1 : ((w4.setCell ⟨w2.heap.size, 0, none⟩ (.int .i64 x)).setCell ⟨w2.heap.size, 1, none⟩ (.int .i64 y)).cell? ⟨w2.heap.size, 1, none⟩ = some (.int .i64 y) := World.cell?_setCell_same _ _ _ ((World.cell?_setCell_other _ _ _ _ (by simp)).trans k1)
      clear hA3 hA4 hB3 hB4 hu
      go_wp2_with fail
      go_meet
      exact ⟨_, rfl, by omega, p0, p1, rfl, HZ.out⟩
  case rest =>
    obtain ⟨g, rfl, hg, p0, p1, rfl, hBc⟩ := hcut
    obtain ⟨wo, rfl⟩ : ∃ wo : World, wo = wc := ⟨_, rfl⟩
    have hq0 := (hBc.cell (p := ⟨w.heap.size + 1, 0, none⟩) hl2).trans s0
    have hq1 := (hBc.cell (p := ⟨w.heap.size + 1, 1, none⟩) hl2).trans s1
    have hr0 := (hBc.frozen (p := ⟨w.heap.size + 1, 0, none⟩) hl2).trans t0
    have hr1 := (hBc.frozen (p := ⟨w.heap.size + 1, 1, none⟩) hl2).trans t1
    have HZ := Lib.hid (HB.out.trans ((HA.out.2.2.trans (hBc.mono HA.out.2.2.size)).mono HB.out.size))
    have gne : g ≠ w.heap.size + 1 := by omega
    clear hBc HA s0 s1 t0 t1 e0 e0'
    go_wp2_with fail
    refine bodyPost_ret (v := .tuple #[.agg #[.int .i64 x, .int .i64 y], .bool q, .int .i64 0]) ?_ rfl ⟨⟨x, y, q, HY.out, rfl⟩, ?_⟩
    · simp [results, Tryz.f39, go_sem, hq0, hq1]
    · exact (HZ.out.setCell (p := ⟨w.heap.size + 1, 0, none⟩) (by simp) _).setCell (p := ⟨w.heap.size + 1, 1, none⟩) (by simp) _
end Go.Proofs.YtoipgliokelcfaaGreatDoor
