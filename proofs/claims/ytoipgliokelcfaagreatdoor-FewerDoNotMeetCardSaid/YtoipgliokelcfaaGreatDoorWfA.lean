/- Package wafer: a wafer in memory, what is at a place, tested and passed dies. -/
import Derived.Test.YtoipgliokelcfaaGreatDoorVgCnt
import Derived.Test.YtoipgliokelcfaaGreatDoorTapped
import Derived.BigQuiet
namespace Go.Proofs.YtoipgliokelcfaaGreatDoor
open Go.RowKit

/-- The slice value reads as these strings. -/
def RowsIn (w : World) (v : Value) (S : List (List UInt8)) : Prop :=
  ∃ a c, v = .slice a S.length c ∧ S.length ≤ c ∧ (0 < S.length → ∃ g o, a = some ⟨g, o, none⟩ ∧ g < w.heap.size ∧ ∀ j, j < S.length → w.cell? ⟨g, o + j, none⟩ = some (.string ⟨(S.getD j []).toArray⟩))
theorem RowsIn.later {w w' : World} {v : Value} {S : List (List UInt8)} (h : RowsIn w v S) (hB : Below w.heap.size w w') : RowsIn w' v S := by
  obtain ⟨a, c, h1, h2, h3⟩ := h
  refine ⟨a, c, h1, h2, fun h0 => ?_⟩
  obtain ⟨g, o, h4, h5, h6⟩ := h3 h0
  exact ⟨g, o, h4, Nat.lt_of_lt_of_le h5 hB.size, fun j hj => (hB.cell (p := ⟨g, o + j, none⟩) h5).trans (h6 j hj)⟩
/-- Is a place one of the map? -/
def isPl (R : List (List UInt8)) (x y : Int) : Bool := decide (0 ≤ y) && (decide (y < (R.length : Int)) && (decide (0 ≤ x) && decide (x < ((R.getD 0 []).length : Int))))
/-- What is at a place. -/
def dieN (R : List (List UInt8)) (x y : Int) : UInt8 := if isPl R x y = true then (R.getD y.toNat []).getD x.toNat 46 else 46
/-- All rows are as long as the first one; none is too long. -/
structure WafRight (R : List (List UInt8)) : Prop where
  n60 : R.length ≤ 60
  m60 : (R.getD 0 []).length ≤ 60
  same : ∀ j, j < R.length → (R.getD j []).length = (R.getD 0 []).length
set_option maxHeartbeats 800000 in
set_option maxRecDepth 100000 in
theorem wfIsPlace_any (R : List (List UInt8)) (P : ByteArray) (x y : Int) (hx : -9223372036854775808 ≤ x ∧ x ≤ 9223372036854775807) (hy : -9223372036854775808 ≤ y ∧ y ≤ 9223372036854775807) (w : World) (v : Value) (h : RowsIn w v R) :
    Calls Tryz.prog 146 #[.agg #[v, .string P], .agg #[.int .i64 x, .int .i64 y]] w fun e w' => e = .returned (.bool (isPl R x y)) ∧ Below w.heap.size w w' := by
  obtain ⟨W1, hW1⟩ : ∃ X : World, X = (w.alloc (.cells #[v, .string P] 84)).alloc (.cells #[.int .i64 x, .int .i64 y] 152) := ⟨_, rfl⟩
  have hB1 : Below w.heap.size w W1 := by rw [hW1]; exact ((Below.refl _ _).alloc (Nat.le_refl _) _).alloc (by simp) _
  have h1 := h.later hB1
  have c0 : W1.cell? ⟨w.heap.size, 0, none⟩ = some v := by rw [hW1]; simp
  have c1 : W1.cell? ⟨w.heap.size + 1, 0, none⟩ = some (.int .i64 x) := by rw [hW1]; simp
  have c2 : W1.cell? ⟨w.heap.size + 1, 1, none⟩ = some (.int .i64 y) := by rw [hW1]; simp
  obtain ⟨a, c, rfl, -, hop⟩ := id h1
  unfold isPl
  obtain ⟨n, hn⟩ : ∃ n, n = R.length := ⟨_, rfl⟩
  obtain ⟨m, hm⟩ : ∃ m, m = (R.getD 0 []).length := ⟨_, rfl⟩
  rw [← hn, ← hm]
  rw [← hn] at hop hW1 c0
  have HB := Lib.hid hB1
  have HW := Lib.hid hW1
  have HX := Lib.hid (⟨hx, hy, hop⟩ : _ ∧ _ ∧ _)
  clear hB1 hW1 h1 h hx hy hop hn
  cases d1 : decide (0 ≤ y) with
  | false =>
    rw [Bool.false_and]
    go_enter Tryz.func146, Tryz.ntmps146
    go_wp2_with fail
    rw [← HW.out]
    go_quiet (fail)
    go_wp2_with fail
    go_ret
    exact ⟨rfl, HB.out.trans ((drewN_below _ _).mono HB.out.size)⟩
  | true =>
    cases d2 : decide (y < (n : Int)) with
    | false =>
      rw [Bool.true_and, Bool.false_and]
      go_enter Tryz.func146, Tryz.ntmps146
      go_wp2_with fail
      rw [← HW.out]
      go_quiet (fail)
      go_wp2_with fail
      go_ret
      exact ⟨rfl, HB.out.trans ((drewN_below _ _).mono HB.out.size)⟩
    | true =>
      have k0 := of_decide_eq_true d1
      have k1 := of_decide_eq_true d2
      have n0 : 0 < n := by omega
      obtain ⟨g, o, rfl, hg, hc⟩ := HX.out.2.2 n0
      have r0 := hc 0 n0
      have HM := Lib.hid hm
      obtain ⟨s0, hs0⟩ : ∃ s0 : ByteArray, s0 = ⟨(R.getD 0 []).toArray⟩ := ⟨_, rfl⟩
      rw [← hs0, Nat.add_zero] at r0
      have hz0 : s0.size = m := by rw [hs0, hm]; rfl
      obtain rfl : m = s0.size := hz0.symm
      clear k0 k1 hc hm hs0 hz0
      cases d3 : decide (0 ≤ x) with
      | false =>
        rw [Bool.true_and, Bool.true_and, Bool.false_and]
        go_enter Tryz.func146, Tryz.ntmps146
        go_wp2_with fail
        rw [← HW.out]
        go_quiet (fail)
        go_wp2_with fail
        go_ret
        exact ⟨rfl, HB.out.trans ((drewN_below _ _).mono HB.out.size)⟩
      | true =>
        rw [Bool.true_and, Bool.true_and, Bool.true_and]
        go_enter Tryz.func146, Tryz.ntmps146
        go_wp2_with fail
        rw [← HW.out]
        go_quiet (fail)
        go_wp2_with fail
        go_ret
        exact ⟨rfl, HB.out.trans ((drewN_below _ _).mono HB.out.size)⟩
theorem isPl_yes {R : List (List UInt8)} {x y : Int} (h : isPl R x y = true) : ∃ i j : Nat, x = (i : Int) ∧ y = (j : Int) ∧ j < R.length ∧ i < (R.getD 0 []).length := by
  unfold isPl at h
  simp only [Bool.and_eq_true, decide_eq_true_eq] at h
  exact ⟨x.toNat, y.toNat, by omega, by omega, by omega, by omega⟩
set_option maxHeartbeats 800000 in
set_option maxRecDepth 100000 in
theorem wfDieAt_any (R : List (List UInt8)) (hR : WafRight R) (P : ByteArray) (x y : Int) (hx : -9223372036854775808 ≤ x ∧ x ≤ 9223372036854775807) (hy : -9223372036854775808 ≤ y ∧ y ≤ 9223372036854775807) (w : World) (v : Value) (h : RowsIn w v R) :
    Calls Tryz.prog 133 #[.agg #[v, .string P], .agg #[.int .i64 x, .int .i64 y]] w fun e w' => e = .returned (.int .u8 ((dieN R x y).toNat : Int)) ∧ Below w.heap.size w w' := by
  obtain ⟨W1, hW1⟩ : ∃ X : World, X = (w.alloc (.cells #[v, .string P] 84)).alloc (.cells #[.int .i64 x, .int .i64 y] 152) := ⟨_, rfl⟩
  have hB1 : Below w.heap.size w W1 := by rw [hW1]; exact ((Below.refl _ _).alloc (Nat.le_refl _) _).alloc (by simp) _
  have h1 := h.later hB1
  have c0 : W1.cell? ⟨w.heap.size, 0, none⟩ = some v := by rw [hW1]; simp
  have c0' : W1.cell? ⟨w.heap.size, 1, none⟩ = some (.string P) := by rw [hW1]; simp
  have c1 : W1.cell? ⟨w.heap.size + 1, 0, none⟩ = some (.int .i64 x) := by rw [hW1]; simp
  have c2 : W1.cell? ⟨w.heap.size + 1, 1, none⟩ = some (.int .i64 y) := by rw [hW1]; simp
  have hp := wfIsPlace_any R P x y hx hy W1 v h1
  obtain ⟨a, c, rfl, -, hop⟩ := id h1
  have HB := Lib.hid hB1
  have HW := Lib.hid hW1
  cases hq : isPl R x y with
  | false =>
    have hd : dieN R x y = 46 := by unfold dieN; rw [hq]; rfl
    rw [hq] at hp
    rw [hd]
    clear hB1 hW1 h1 h hx hy hop hd hq
    go_enter Tryz.func133, Tryz.ntmps133
    go_wp2_with fail
    rw [← HW.out]
    go_wp2_with fail
    refine hp.mono ?_
    rintro e w2 ⟨rfl, hB2⟩
    go_wp2_with fail
    go_ret
    exact ⟨rfl, HB.out.trans (hB2.mono HB.out.size)⟩
  | true =>
    obtain ⟨i, j, rfl, rfl, hj, hi⟩ := isPl_yes hq
    have hs := hR.same j hj
    have hd : dieN R (i : Int) (j : Int) = (R.getD j []).getD i 46 := by unfold dieN; rw [if_pos hq, Int.toNat_natCast, Int.toNat_natCast]
    rw [hq] at hp
    rw [hd]
    obtain ⟨g, o, rfl, hg, hc⟩ := hop (by omega)
    have r0 := hc j (by omega)
    obtain ⟨s0, hs0⟩ : ∃ s0 : ByteArray, s0 = ⟨(R.getD j []).toArray⟩ := ⟨_, rfl⟩
    rw [← hs0] at r0
    have hi2 : i < s0.size := by rw [hs0]; show i < (R.getD j []).toArray.size; rw [List.size_toArray]; omega
    have hv : (R.getD j []).getD i 46 = s0[i] := by
      have h3 : i < (R.getD j []).length := by omega
      rw [List.getD_eq_getElem?_getD, List.getElem?_eq_getElem h3, Option.getD_some]
      subst hs0
      rfl
    rw [hv]
    have j0 : (0 : Int) ≤ (j : Int) := by omega
    have j1 : (j : Int) < (R.length : Int) := by omega
    have i0 : (0 : Int) ≤ (i : Int) := by omega
    have i1 : (i : Int) < (s0.size : Int) := by omega
    have HG := Lib.hid (⟨hg, r0⟩ : _ ∧ _)
    clear hB1 hW1 h1 h hx hy hop hd hq hc hs0 hv hs hi hj r0 hg
    go_enter Tryz.func133, Tryz.ntmps133
    go_wp2_with fail
    rw [← HW.out]
    go_wp2_with fail
    refine hp.mono ?_
    rintro e w2 ⟨rfl, hB2⟩
    have d0 := (hB2.cell (p := ⟨w.heap.size, 0, none⟩) (World.block_lt_of_cell? W1 _ c0)).trans c0
    have d1 := (hB2.cell (p := ⟨w.heap.size + 1, 0, none⟩) (World.block_lt_of_cell? W1 ⟨w.heap.size + 1, 0, none⟩ c1)).trans c1
    have d2 := (hB2.cell (p := ⟨w.heap.size + 1, 1, none⟩) (World.block_lt_of_cell? W1 ⟨w.heap.size + 1, 1, none⟩ c2)).trans c2
    have d3 := (hB2.cell (p := ⟨g, o + j, none⟩) HG.out.1).trans HG.out.2
    have HB2 := Lib.hid (HB.out.trans (hB2.mono HB.out.size))
    clear hB2 hp c0 c1 c2
    go_wp2_with fail
    go_quiet (fail)
    go_wp2_with fail
    go_ret
    exact ⟨rfl, HB2.out.trans ((drewN_below _ _).mono HB2.out.size)⟩
def dieB (c : UInt8) : Bool := c != 46
def untB (c : UInt8) : Bool := c == 63
def tstB (c : UInt8) : Bool := dieB c && !untB c
theorem u8_ne (c : UInt8) (k : UInt8) : (!decide ((c.toNat : Int) = (k.toNat : Int))) = (c != k) := by
  by_cases h : c = k
  · subst h; simp
  · have h2 : ¬ ((c.toNat : Int) = (k.toNat : Int)) := fun e => h (UInt8.toNat_inj.mp (by omega))
    rw [decide_eq_false h2]
    simp [h]
set_option maxRecDepth 100000 in
theorem wfIsDie_any (R : List (List UInt8)) (hR : WafRight R) (P : ByteArray) (x y : Int) (hx : -9223372036854775808 ≤ x ∧ x ≤ 9223372036854775807) (hy : -9223372036854775808 ≤ y ∧ y ≤ 9223372036854775807) (w : World) (v : Value) (h : RowsIn w v R) :
    Calls Tryz.prog 110 #[.agg #[v, .string P], .agg #[.int .i64 x, .int .i64 y]] w fun e w' => e = .returned (.bool (dieB (dieN R x y))) ∧ Below w.heap.size w w' := by
  obtain ⟨W1, hW1⟩ : ∃ X : World, X = (w.alloc (.cells #[v, .string P] 84)).alloc (.cells #[.int .i64 x, .int .i64 y] 152) := ⟨_, rfl⟩
  have hB1 : Below w.heap.size w W1 := by rw [hW1]; exact ((Below.refl _ _).alloc (Nat.le_refl _) _).alloc (by simp) _
  have h1 := h.later hB1
  have c0 : W1.cell? ⟨w.heap.size, 0, none⟩ = some v := by rw [hW1]; simp
  have c0' : W1.cell? ⟨w.heap.size, 1, none⟩ = some (.string P) := by rw [hW1]; simp
  have c1 : W1.cell? ⟨w.heap.size + 1, 0, none⟩ = some (.int .i64 x) := by rw [hW1]; simp
  have c2 : W1.cell? ⟨w.heap.size + 1, 1, none⟩ = some (.int .i64 y) := by rw [hW1]; simp
  have hl0 : w.heap.size < W1.heap.size := World.block_lt_of_cell? W1 ⟨w.heap.size, 0, none⟩ c0
  have hl1 : w.heap.size + 1 < W1.heap.size := World.block_lt_of_cell? W1 ⟨w.heap.size + 1, 0, none⟩ c1
  obtain ⟨a, c, rfl, -, -⟩ := id h1
  obtain ⟨q, hqd⟩ : ∃ q, q = dieN R x y := ⟨_, rfl⟩
  rw [← hqd]
  have hd := wfDieAt_any R hR P x y hx hy W1 _ h1
  rw [← hqd] at hd
  have HB := Lib.hid hB1
  have HW := Lib.hid hW1
  clear hB1 hW1 h1 h hx hy hqd hl0 hl1
  have hall : ∀ q : Nat, q < 256 → ((q : Int) != 46) = dieB (UInt8.ofNat q) := by decide +kernel
  have hq2 := hall q.toNat q.toNat_lt
  rw [UInt8.ofNat_toNat] at hq2
  clear hall
  go_enter Tryz.func110, Tryz.ntmps110
  go_wp2_with fail
  rw [← HW.out]
  go_wp2_with fail
  refine hd.mono ?_
  rintro e w2 ⟨rfl, hB2⟩
  go_wp2_with fail
  go_ret
  exact ⟨by rw [← hq2]; rfl, HB.out.trans (hB2.mono HB.out.size)⟩
set_option maxRecDepth 100000 in
theorem wfIsUntested_any (R : List (List UInt8)) (hR : WafRight R) (P : ByteArray) (x y : Int) (hx : -9223372036854775808 ≤ x ∧ x ≤ 9223372036854775807) (hy : -9223372036854775808 ≤ y ∧ y ≤ 9223372036854775807) (w : World) (v : Value) (h : RowsIn w v R) :
    Calls Tryz.prog 111 #[.agg #[v, .string P], .agg #[.int .i64 x, .int .i64 y]] w fun e w' => e = .returned (.bool (untB (dieN R x y))) ∧ Below w.heap.size w w' := by
  obtain ⟨W1, hW1⟩ : ∃ X : World, X = (w.alloc (.cells #[v, .string P] 84)).alloc (.cells #[.int .i64 x, .int .i64 y] 152) := ⟨_, rfl⟩
  have hB1 : Below w.heap.size w W1 := by rw [hW1]; exact ((Below.refl _ _).alloc (Nat.le_refl _) _).alloc (by simp) _
  have h1 := h.later hB1
  have c0 : W1.cell? ⟨w.heap.size, 0, none⟩ = some v := by rw [hW1]; simp
  have c0' : W1.cell? ⟨w.heap.size, 1, none⟩ = some (.string P) := by rw [hW1]; simp
  have c1 : W1.cell? ⟨w.heap.size + 1, 0, none⟩ = some (.int .i64 x) := by rw [hW1]; simp
  have c2 : W1.cell? ⟨w.heap.size + 1, 1, none⟩ = some (.int .i64 y) := by rw [hW1]; simp
  have hl0 : w.heap.size < W1.heap.size := World.block_lt_of_cell? W1 ⟨w.heap.size, 0, none⟩ c0
  have hl1 : w.heap.size + 1 < W1.heap.size := World.block_lt_of_cell? W1 ⟨w.heap.size + 1, 0, none⟩ c1
  obtain ⟨a, c, rfl, -, -⟩ := id h1
  obtain ⟨q, hqd⟩ : ∃ q, q = dieN R x y := ⟨_, rfl⟩
  rw [← hqd]
  have hd := wfDieAt_any R hR P x y hx hy W1 _ h1
  rw [← hqd] at hd
  have HB := Lib.hid hB1
  have HW := Lib.hid hW1
  clear hB1 hW1 h1 h hx hy hqd hl0 hl1
  have hall : ∀ q : Nat, q < 256 → ((q : Int) == 63) = untB (UInt8.ofNat q) := by decide +kernel
  have hq2 := hall q.toNat q.toNat_lt
  rw [UInt8.ofNat_toNat] at hq2
  clear hall
  go_enter Tryz.func111, Tryz.ntmps111
  go_wp2_with fail
  rw [← HW.out]
  go_wp2_with fail
  refine hd.mono ?_
  rintro e w2 ⟨rfl, hB2⟩
  go_wp2_with fail
  go_ret
  exact ⟨by rw [← hq2]; rfl, HB.out.trans (hB2.mono HB.out.size)⟩
set_option maxRecDepth 100000 in
theorem wfIsTested_any (R : List (List UInt8)) (hR : WafRight R) (P : ByteArray) (x y : Int) (hx : -9223372036854775808 ≤ x ∧ x ≤ 9223372036854775807) (hy : -9223372036854775808 ≤ y ∧ y ≤ 9223372036854775807) (w : World) (v : Value) (h : RowsIn w v R) :
    Calls Tryz.prog 74 #[.agg #[v, .string P], .agg #[.int .i64 x, .int .i64 y]] w fun e w' => e = .returned (.bool (tstB (dieN R x y))) ∧ Below w.heap.size w w' := by
  obtain ⟨W1, hW1⟩ : ∃ X : World, X = (w.alloc (.cells #[v, .string P] 84)).alloc (.cells #[.int .i64 x, .int .i64 y] 152) := ⟨_, rfl⟩
  have hB1 : Below w.heap.size w W1 := by rw [hW1]; exact ((Below.refl _ _).alloc (Nat.le_refl _) _).alloc (by simp) _
  have h1 := h.later hB1
  have c0 : W1.cell? ⟨w.heap.size, 0, none⟩ = some v := by rw [hW1]; simp
  have c0' : W1.cell? ⟨w.heap.size, 1, none⟩ = some (.string P) := by rw [hW1]; simp
  have c1 : W1.cell? ⟨w.heap.size + 1, 0, none⟩ = some (.int .i64 x) := by rw [hW1]; simp
  have c2 : W1.cell? ⟨w.heap.size + 1, 1, none⟩ = some (.int .i64 y) := by rw [hW1]; simp
  have hl0 : w.heap.size < W1.heap.size := World.block_lt_of_cell? W1 ⟨w.heap.size, 0, none⟩ c0
  have hl1 : w.heap.size + 1 < W1.heap.size := World.block_lt_of_cell? W1 ⟨w.heap.size + 1, 0, none⟩ c1
  obtain ⟨a, c, rfl, -, -⟩ := id h1
  obtain ⟨q, hqd⟩ : ∃ q, q = dieN R x y := ⟨_, rfl⟩
  rw [← hqd]
  have hd := wfIsDie_any R hR P x y hx hy W1 _ h1
  have hu := fun X hB => wfIsUntested_any R hR P x y hx hy X _ (h1.later (w' := X) hB)
  rw [← hqd] at hd hu
  have HB := Lib.hid hB1
  have HW := Lib.hid hW1
  unfold tstB
  clear hB1 hW1 h1 h hx hy hqd
  cases hb : dieB q with
  | false =>
    rw [hb] at hd
    rw [Bool.false_and]
    clear hb hu
    go_enter Tryz.func74, Tryz.ntmps74
    go_wp2_with fail
    rw [← HW.out]
    go_wp2_with fail
    refine hd.mono ?_
    rintro e w2 ⟨rfl, hB2⟩
    go_wp2_with fail
    go_ret
    exact ⟨rfl, HB.out.trans (hB2.mono HB.out.size)⟩
  | true =>
    rw [hb] at hd
    rw [Bool.true_and]
    clear hb
    go_enter Tryz.func74, Tryz.ntmps74
    go_wp2_with fail
    rw [← HW.out]
    go_wp2_with fail
    refine hd.mono ?_
    rintro e w2 ⟨rfl, hB2⟩
    have e0 := (hB2.cell (p := ⟨w.heap.size, 0, none⟩) hl0).trans c0
    have e0' := (hB2.cell (p := ⟨w.heap.size, 1, none⟩) hl0).trans c0'
    have e1 := (hB2.cell (p := ⟨w.heap.size + 1, 0, none⟩) hl1).trans c1
    have e2 := (hB2.cell (p := ⟨w.heap.size + 1, 1, none⟩) hl1).trans c2
    have hu2 := hu w2 hB2
    have HB2 := Lib.hid (HB.out.trans (hB2.mono HB.out.size))
    clear hB2 hd hu c0 c0' c1 c2 hl0 hl1
    go_wp2_with fail
    refine hu2.mono ?_
    rintro e w3 ⟨rfl, hB3⟩
    have HB3 := Lib.hid (HB2.out.trans (hB3.mono HB2.out.size))
    clear hB3 hu2
    cases hub : untB q with
    | false =>
      go_wp2_with fail
      go_ret
      exact ⟨by rw [hub]; rfl, HB3.out⟩
    | true =>
      go_wp2_with fail
      go_ret
      exact ⟨by rw [hub]; rfl, HB3.out⟩
def inS (s : ByteArray) (c : UInt8) : Bool := decide (0 ≤ Lib.indexByte s.data.toList c)
set_option maxRecDepth 100000 in
theorem wfIsOneOf_any (s : ByteArray) (c : UInt8) (w : World) :
    Calls Tryz.prog 132 #[.string s, .int .u8 (c.toNat : Int)] w fun e w' => e = .returned (.bool (inS s c)) ∧ w = w' := by
  have hcon := Tryz.strings_IndexByte s (c.toNat : Int) w
  have e : ((c.toNat : Int)).toNat.toUInt8 = c := by simp
  rw [e] at hcon
  unfold inS
  generalize Lib.indexByte s.data.toList c = r at hcon ⊢
  clear e
  go_enter Tryz.func132, Tryz.ntmps132
  go_wp2_with fail
  refine hcon.mono ?_
  rintro e w' ⟨rfl, rfl⟩
  go_wp2_with fail
  go_ret
  exact ⟨rfl, rfl⟩
set_option maxRecDepth 100000 in
theorem wfHasPassed_any (R : List (List UInt8)) (hR : WafRight R) (P : ByteArray) (x y : Int) (hx : -9223372036854775808 ≤ x ∧ x ≤ 9223372036854775807) (hy : -9223372036854775808 ≤ y ∧ y ≤ 9223372036854775807) (w : World) (v : Value) (h : RowsIn w v R) :
    Calls Tryz.prog 109 #[.agg #[v, .string P], .agg #[.int .i64 x, .int .i64 y]] w fun e w' => e = .returned (.bool (inS P (dieN R x y))) ∧ Below w.heap.size w w' := by
  obtain ⟨W1, hW1⟩ : ∃ X : World, X = (w.alloc (.cells #[v, .string P] 84)).alloc (.cells #[.int .i64 x, .int .i64 y] 152) := ⟨_, rfl⟩
  have hB1 : Below w.heap.size w W1 := by rw [hW1]; exact ((Below.refl _ _).alloc (Nat.le_refl _) _).alloc (by simp) _
  have h1 := h.later hB1
  have c0 : W1.cell? ⟨w.heap.size, 0, none⟩ = some v := by rw [hW1]; simp
  have c0' : W1.cell? ⟨w.heap.size, 1, none⟩ = some (.string P) := by rw [hW1]; simp
  have c1 : W1.cell? ⟨w.heap.size + 1, 0, none⟩ = some (.int .i64 x) := by rw [hW1]; simp
  have c2 : W1.cell? ⟨w.heap.size + 1, 1, none⟩ = some (.int .i64 y) := by rw [hW1]; simp
  have hl0 : w.heap.size < W1.heap.size := World.block_lt_of_cell? W1 ⟨w.heap.size, 0, none⟩ c0
  have hl1 : w.heap.size + 1 < W1.heap.size := World.block_lt_of_cell? W1 ⟨w.heap.size + 1, 0, none⟩ c1
  obtain ⟨a, c, rfl, -, -⟩ := id h1
  obtain ⟨q, hqd⟩ : ∃ q, q = dieN R x y := ⟨_, rfl⟩
  rw [← hqd]
  have hd := fun X hB => wfDieAt_any R hR P x y hx hy X _ (h1.later (w' := X) hB)
  rw [← hqd] at hd
  have ho := fun X => wfIsOneOf_any P q X
  obtain ⟨b, hb⟩ : ∃ b, b = inS P q := ⟨_, rfl⟩
  rw [← hb] at ho ⊢
  have HB := Lib.hid hB1
  have HW := Lib.hid hW1
  clear hB1 hW1 h1 h hx hy hqd hb
  go_enter Tryz.func109, Tryz.ntmps109
  go_wp2_with fail
  rw [← HW.out]
  go_region_law (first | (go_simp; go_at_call 133; refine (hd W1.drew (Below.refl _ _).drew).mono ?_; rintro e w2 ⟨rfl, hB2⟩; have e0' : w2.cell? ⟨w.heap.size, 1, none⟩ = some (.string P) := (Below.cell hB2 (p := ⟨w.heap.size, 1, none⟩) hl0).trans c0'; have HB2 := Lib.hid ((HB.out.drew).trans (Below.mono hB2 HB.out.size)); clear hB2) | (go_simp; go_at_call 132; refine (ho _).mono ?_; rintro e w3 ⟨rfl, rfl⟩))
  all_goals
    go_wp2_with fail
    go_ret
    exact ⟨rfl, HB2.out⟩
end Go.Proofs.YtoipgliokelcfaaGreatDoor
