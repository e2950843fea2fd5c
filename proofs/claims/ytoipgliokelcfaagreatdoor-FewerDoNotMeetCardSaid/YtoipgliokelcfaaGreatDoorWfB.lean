/- Package wafer: points in memory; count and places, for each function that is handed in. Made by gens/wfb.py. -/
import Derived.Test.YtoipgliokelcfaaGreatDoorWfA
import Derived.Deep.AppendLies
namespace Go.Proofs.YtoipgliokelcfaaGreatDoor
open Go.RowKit

abbrev Pt := Int × Int
/-- The slice value reads as these points. -/
def PtsAt (w : World) (v : Value) (L : List Pt) : Prop :=
  ∃ a c, v = .slice a L.length c ∧ L.length ≤ c ∧ (0 < L.length → ∃ g o, a = some ⟨g, o, none⟩ ∧ g < w.heap.size ∧ ∀ j, j < L.length → w.cell? ⟨g, o + j * 2, none⟩ = some (.int .i64 (L.getD j (0, 0)).1) ∧ w.cell? ⟨g, o + j * 2 + 1, none⟩ = some (.int .i64 (L.getD j (0, 0)).2))
theorem PtsAt.later {w w' : World} {v : Value} {L : List Pt} (h : PtsAt w v L) (hB : Below w.heap.size w w') : PtsAt w' v L := by
  obtain ⟨a, c, h1, h2, h3⟩ := h
  refine ⟨a, c, h1, h2, fun h0 => ?_⟩
  obtain ⟨g, o, h4, h5, h6⟩ := h3 h0
  exact ⟨g, o, h4, Nat.lt_of_lt_of_le h5 hB.size, fun j hj => ⟨(hB.cell (p := ⟨g, o + j * 2, none⟩) h5).trans (h6 j hj).1, (hB.cell (p := ⟨g, o + j * 2 + 1, none⟩) h5).trans (h6 j hj).2⟩⟩
def PtOk (p : Pt) : Prop := (-9223372036854775808 ≤ p.1 ∧ p.1 ≤ 9223372036854775807) ∧ (-9223372036854775808 ≤ p.2 ∧ p.2 ≤ 9223372036854775807)
/-- How many of the first k points a predicate accepts. -/
def cntTo (f : Pt → Bool) (L : List Pt) : Nat → Nat
  | 0 => 0
  | k + 1 => cntTo f L k + (if f (L.getD k (0, 0)) = true then 1 else 0)
theorem cntTo_le (f : Pt → Bool) (L : List Pt) : ∀ k, cntTo f L k ≤ k
  | 0 => Nat.le_refl _
  | k + 1 => by
    have h := cntTo_le f L k
    unfold cntTo
    split <;> omega
set_option maxHeartbeats 800000 in
set_option maxRecDepth 100000 in
theorem wfCount_IsTested (R : List (List UInt8)) (hR : WafRight R) (P : ByteArray) (L : List Pt) (hz : L.length ≤ 1000000) (hL : ∀ j, j < L.length → PtOk (L.getD j (0, 0))) (w : World) (v u : Value) (h : RowsIn w v R) (hu : PtsAt w u L) :
    Calls Tryz.prog 107 #[.agg #[v, .string P], u, .func (.func 74) #[] #[]] w fun e w' => e = .returned (.int .i64 (cntTo (fun p => tstB (dieN R p.1 p.2)) L L.length : Int)) ∧ Below w.heap.size w w' := by
  obtain ⟨W1, hW1⟩ : ∃ X : World, X = w.alloc (.cells #[v, .string P] 84) := ⟨_, rfl⟩
  have hB1 : Below w.heap.size w W1 := by rw [hW1]; exact (Below.refl _ _).alloc (Nat.le_refl _) _
  have h1 := h.later hB1
  have hu1 := hu.later hB1
  have c0 : W1.cell? ⟨w.heap.size, 0, none⟩ = some v := by rw [hW1]; simp
  have c0' : W1.cell? ⟨w.heap.size, 1, none⟩ = some (.string P) := by rw [hW1]; simp
  have hl0 : w.heap.size < W1.heap.size := World.block_lt_of_cell? W1 ⟨w.heap.size, 0, none⟩ c0
  obtain ⟨a, c, rfl, -, -⟩ := id h1
  obtain ⟨a2, c2, rfl, -, hop⟩ := id hu1
  obtain ⟨n, hn⟩ : ∃ n, n = L.length := ⟨_, rfl⟩
  have hcon := fun (k : Nat) (hk : k < n) (X : World) (hX : Below W1.heap.size W1 X) => wfIsTested_any R hR P (L.getD k (0, 0)).1 (L.getD k (0, 0)).2 (hL k (by omega)).1 (hL k (by omega)).2 X _ (h1.later hX)
  rw [← hn] at hop hz ⊢
  obtain ⟨f, hf⟩ : ∃ f : Pt → Bool, f = fun p => tstB (dieN R p.1 p.2) := ⟨_, rfl⟩
  have hcon2 : ∀ (k : Nat) (hk : k < n) (X : World) (hX : Below W1.heap.size W1 X), Calls Tryz.prog 74 #[.agg #[.slice a R.length c, .string P], .agg #[.int .i64 (L.getD k (0, 0)).1, .int .i64 (L.getD k (0, 0)).2]] X fun e w' => e = .returned (.bool (f (L.getD k (0, 0)))) ∧ Below X.heap.size X w' := fun k hk X hX => by rw [hf]; exact hcon k hk X hX
  rw [← hf]
  have hle := cntTo_le f L
  have hst : ∀ k, cntTo f L (k + 1) = cntTo f L k + (if f (L.getD k (0, 0)) = true then 1 else 0) := fun k => rfl
  have HH := Lib.hid (⟨hop, hcon2, hB1, hle, hst⟩ : _ ∧ _ ∧ _ ∧ _ ∧ _)
  have HW := Lib.hid hW1
  clear hcon hcon2 hop hn hB1 h1 hu1 h hu hL hf hW1 hle hst
  go_enter Tryz.func107, Tryz.ntmps107
  go_wp2_with fail
  rw [← HW.out]
  go_loopw [7, 12] (fun x i wr => ∃ (k : Nat), k ≤ n ∧ i = .int .i64 (k : Int) ∧ x = .int .i64 (cntTo f L k : Int) ∧ Below W1.heap.size W1 wr) (fun _ i _ => n - (intOf i).toNat)
  case atStart => exact ⟨0, by omega, rfl, rfl, Below.refl _ _⟩
  case round =>
    obtain ⟨k, hk, rfl, rfl, hB⟩ := hrel
    by_cases hlt : k < n
    · obtain ⟨g, o, rfl, hg, hcell⟩ := HH.out.1 (by omega)
      have hc := (hB.cell (p := ⟨g, o + k * 2, none⟩) hg).trans (hcell k hlt).1
      have hc' := (hB.cell (p := ⟨g, o + k * 2 + 1, none⟩) hg).trans (hcell k hlt).2
      have b0 := (hB.cell (p := ⟨w.heap.size, 0, none⟩) hl0).trans c0
      have b1 := (hB.cell (p := ⟨w.heap.size, 1, none⟩) hl0).trans c0'
      have hq := HH.out.2.1 k hlt
      have hst := HH.out.2.2.2.2 k
      have hle1 := HH.out.2.2.2.1 k
      obtain ⟨x, y, hy⟩ : ∃ x y, L.getD k (0, 0) = (x, y) := ⟨_, _, rfl⟩
      rw [hy] at hc hc' hq hst
      dsimp only at hc hc' hq
      obtain ⟨q, hqd⟩ : ∃ q, q = f (x, y) := ⟨_, rfl⟩
      rw [← hqd] at hq hst
      obtain ⟨m, hm⟩ : ∃ m, m = cntTo f L k := ⟨_, rfl⟩
      rw [← hm] at hst hle1 ⊢
      have k0 : (0 : Int) ≤ (k : Int) := by omega
      have k1 : (k : Int) < (n : Int) := by omega
      have hlr : w.heap.size < wr.heap.size := Nat.lt_of_lt_of_le hl0 hB.size
      have hqA := hq (wr.alloc (.cells #[.int .i64 x, .int .i64 y] 152)) (hB.alloc hB.size _)
      have HB := Lib.hid (hB.alloc hB.size (.cells #[.int .i64 x, .int .i64 y] 152))
      have HST := Lib.hid hst
      clear hB hcell hy hqd hm hq hst
      go_wp2_with fail
      refine hqA.mono ?_
      rintro e w3 ⟨rfl, hB3⟩
      have HB3 := Lib.hid (HB.out.trans (hB3.mono HB.out.size))
      clear hB3 hqA hc hc' b0 b1
      cases q with
      | false =>
        go_wp2_with fail
        go_roundw
        case rel => exact ⟨k + 1, by omega, by go_num, by rw [HST.out]; simp, HB3.out⟩
        case measure => simp [intOf]; omega
      | true =>
        go_wp2_with fail
        go_roundw
        case rel => exact ⟨k + 1, by omega, by go_num, by rw [HST.out]; simp, HB3.out⟩
        case measure => simp [intOf]; omega
    · obtain rfl : k = n := by omega
      have HB := Lib.hid hB
      clear hB
      go_wp2_with fail
      go_ret
      exact ⟨rfl, HH.out.2.2.1.trans (HB.out.mono HH.out.2.2.1.size)⟩
set_option maxHeartbeats 800000 in
set_option maxRecDepth 100000 in
theorem wfCount_HasPassed (R : List (List UInt8)) (hR : WafRight R) (P : ByteArray) (L : List Pt) (hz : L.length ≤ 1000000) (hL : ∀ j, j < L.length → PtOk (L.getD j (0, 0))) (w : World) (v u : Value) (h : RowsIn w v R) (hu : PtsAt w u L) :
    Calls Tryz.prog 107 #[.agg #[v, .string P], u, .func (.func 109) #[] #[]] w fun e w' => e = .returned (.int .i64 (cntTo (fun p => inS P (dieN R p.1 p.2)) L L.length : Int)) ∧ Below w.heap.size w w' := by
  obtain ⟨W1, hW1⟩ : ∃ X : World, X = w.alloc (.cells #[v, .string P] 84) := ⟨_, rfl⟩
  have hB1 : Below w.heap.size w W1 := by rw [hW1]; exact (Below.refl _ _).alloc (Nat.le_refl _) _
  have h1 := h.later hB1
  have hu1 := hu.later hB1
  have c0 : W1.cell? ⟨w.heap.size, 0, none⟩ = some v := by rw [hW1]; simp
  have c0' : W1.cell? ⟨w.heap.size, 1, none⟩ = some (.string P) := by rw [hW1]; simp
  have hl0 : w.heap.size < W1.heap.size := World.block_lt_of_cell? W1 ⟨w.heap.size, 0, none⟩ c0
  obtain ⟨a, c, rfl, -, -⟩ := id h1
  obtain ⟨a2, c2, rfl, -, hop⟩ := id hu1
  obtain ⟨n, hn⟩ : ∃ n, n = L.length := ⟨_, rfl⟩
  have hcon := fun (k : Nat) (hk : k < n) (X : World) (hX : Below W1.heap.size W1 X) => wfHasPassed_any R hR P (L.getD k (0, 0)).1 (L.getD k (0, 0)).2 (hL k (by omega)).1 (hL k (by omega)).2 X _ (h1.later hX)
  rw [← hn] at hop hz ⊢
  obtain ⟨f, hf⟩ : ∃ f : Pt → Bool, f = fun p => inS P (dieN R p.1 p.2) := ⟨_, rfl⟩
  have hcon2 : ∀ (k : Nat) (hk : k < n) (X : World) (hX : Below W1.heap.size W1 X), Calls Tryz.prog 109 #[.agg #[.slice a R.length c, .string P], .agg #[.int .i64 (L.getD k (0, 0)).1, .int .i64 (L.getD k (0, 0)).2]] X fun e w' => e = .returned (.bool (f (L.getD k (0, 0)))) ∧ Below X.heap.size X w' := fun k hk X hX => by rw [hf]; exact hcon k hk X hX
  rw [← hf]
  have hle := cntTo_le f L
  have hst : ∀ k, cntTo f L (k + 1) = cntTo f L k + (if f (L.getD k (0, 0)) = true then 1 else 0) := fun k => rfl
  have HH := Lib.hid (⟨hop, hcon2, hB1, hle, hst⟩ : _ ∧ _ ∧ _ ∧ _ ∧ _)
  have HW := Lib.hid hW1
  clear hcon hcon2 hop hn hB1 h1 hu1 h hu hL hf hW1 hle hst
  go_enter Tryz.func107, Tryz.ntmps107
  go_wp2_with fail
  rw [← HW.out]
  go_loopw [7, 12] (fun x i wr => ∃ (k : Nat), k ≤ n ∧ i = .int .i64 (k : Int) ∧ x = .int .i64 (cntTo f L k : Int) ∧ Below W1.heap.size W1 wr) (fun _ i _ => n - (intOf i).toNat)
  case atStart => exact ⟨0, by omega, rfl, rfl, Below.refl _ _⟩
  case round =>
    obtain ⟨k, hk, rfl, rfl, hB⟩ := hrel
    by_cases hlt : k < n
    · obtain ⟨g, o, rfl, hg, hcell⟩ := HH.out.1 (by omega)
      have hc := (hB.cell (p := ⟨g, o + k * 2, none⟩) hg).trans (hcell k hlt).1
      have hc' := (hB.cell (p := ⟨g, o + k * 2 + 1, none⟩) hg).trans (hcell k hlt).2
      have b0 := (hB.cell (p := ⟨w.heap.size, 0, none⟩) hl0).trans c0
      have b1 := (hB.cell (p := ⟨w.heap.size, 1, none⟩) hl0).trans c0'
      have hq := HH.out.2.1 k hlt
      have hst := HH.out.2.2.2.2 k
      have hle1 := HH.out.2.2.2.1 k
      obtain ⟨x, y, hy⟩ : ∃ x y, L.getD k (0, 0) = (x, y) := ⟨_, _, rfl⟩
      rw [hy] at hc hc' hq hst
      dsimp only at hc hc' hq
      obtain ⟨q, hqd⟩ : ∃ q, q = f (x, y) := ⟨_, rfl⟩
      rw [← hqd] at hq hst
      obtain ⟨m, hm⟩ : ∃ m, m = cntTo f L k := ⟨_, rfl⟩
      rw [← hm] at hst hle1 ⊢
      have k0 : (0 : Int) ≤ (k : Int) := by omega
      have k1 : (k : Int) < (n : Int) := by omega
      have hlr : w.heap.size < wr.heap.size := Nat.lt_of_lt_of_le hl0 hB.size
      have hqA := hq (wr.alloc (.cells #[.int .i64 x, .int .i64 y] 152)) (hB.alloc hB.size _)
      have HB := Lib.hid (hB.alloc hB.size (.cells #[.int .i64 x, .int .i64 y] 152))
      have HST := Lib.hid hst
      clear hB hcell hy hqd hm hq hst
      go_wp2_with fail
      refine hqA.mono ?_
      rintro e w3 ⟨rfl, hB3⟩
      have HB3 := Lib.hid (HB.out.trans (hB3.mono HB.out.size))
      clear hB3 hqA hc hc' b0 b1
      cases q with
      | false =>
        go_wp2_with fail
        go_roundw
        case rel => exact ⟨k + 1, by omega, by go_num, by rw [HST.out]; simp, HB3.out⟩
        case measure => simp [intOf]; omega
      | true =>
        go_wp2_with fail
        go_roundw
        case rel => exact ⟨k + 1, by omega, by go_num, by rw [HST.out]; simp, HB3.out⟩
        case measure => simp [intOf]; omega
    · obtain rfl : k = n := by omega
      have HB := Lib.hid hB
      clear hB
      go_wp2_with fail
      go_ret
      exact ⟨rfl, HH.out.2.2.1.trans (HB.out.mono HH.out.2.2.1.size)⟩
def ptCells (L : List Pt) : List Value := L.flatMap fun p => [.int .i64 p.1, .int .i64 p.2]
def PtsOwn (B : Nat) (w : World) (v : Value) (L : List Pt) : Prop := w.ownsRow B 152 2 v L.length (ptCells L)
theorem Tryz.infoPt : (Tryz.prog.info? 152).map (fun i => (i.zero, i.size, i.bytes)) = some (some (.agg #[.int .i64 0, .int .i64 0]), 2, 16) := by kernel_rfl
theorem PtsOwn.form {B : Nat} {w : World} {v : Value} {L : List Pt} (h : PtsOwn B w v L) : ∃ a c, v = .slice a L.length c := by
  obtain ⟨-, ⟨e, h0⟩ | ⟨g, cap, cur, e, -⟩⟩ := h
  · exact ⟨none, 0, by rw [e, h0]⟩
  · exact ⟨_, _, e⟩
theorem ptCells_at : ∀ (C : List Pt) (j : Nat), j < C.length → (ptCells C)[j * 2]? = some (.int .i64 (C.getD j (0, 0)).1) ∧ (ptCells C)[j * 2 + 1]? = some (.int .i64 (C.getD j (0, 0)).2)
  | [], j, h => by simp at h
  | c :: C, 0, _ => ⟨rfl, rfl⟩
  | c :: C, j + 1, h => by
    have h1 := ptCells_at C j (by simpa using h)
    have e : ptCells (c :: C) = .int .i64 c.1 :: .int .i64 c.2 :: ptCells C := rfl
    rw [e, show (j + 1) * 2 = j * 2 + 1 + 1 by omega]
    simpa using h1
theorem ptCells_len : ∀ C : List Pt, (ptCells C).length = C.length * 2
  | [] => rfl
  | c :: C => by
    show (ptCells C).length + 1 + 1 = _
    rw [ptCells_len C, List.length_cons]
    omega
theorem PtsOwn.snoc {B : Nat} {w : World} {v : Value} {L : List Pt} (x y : Int) (h : w.ownsRow B 152 2 v (L.length + 1) (ptCells L ++ [.int .i64 x, .int .i64 y])) : PtsOwn B w v (L ++ [(x, y)]) := by
  unfold PtsOwn
  have e : ptCells (L ++ [(x, y)]) = ptCells L ++ [.int .i64 x, .int .i64 y] := by
    unfold ptCells
    rw [List.flatMap_append]
    rfl
  rw [e, List.length_append]
  exact h
theorem PtsOwn.at {B : Nat} {w : World} {v : Value} {L : List Pt} (h : PtsOwn B w v L) : PtsAt w v L := by
  obtain ⟨-, ⟨hv, h0⟩ | ⟨g, cap, cur, hv, hg, hh, hnc, hcm, hcs, ht⟩⟩ := h
  · exact ⟨none, 0, by rw [hv, h0], by omega, fun h => by omega⟩
  · have hl := ptCells_len L
    have hcl : ∀ i u, (ptCells L)[i]? = some u → w.cell? ⟨g, 0 + i, none⟩ = some u := fun i u hi => by
      have hi2 : i < L.length * 2 := by
        rw [← hl]
        exact (List.getElem?_eq_some_iff.1 hi).1
      rw [← ht, List.getElem?_take_of_lt (by omega)] at hi
      have h2 : cur[i]? = some u := by simpa using hi
      rw [Nat.zero_add]
      unfold World.cell?
      simp only [hh]
      simp [h2]
    refine ⟨_, cap, hv, hnc, fun _ => ⟨g, 0, rfl, (Array.getElem?_eq_some_iff.1 hh).1, fun j hj => ?_⟩⟩
    exact ⟨hcl _ _ (ptCells_at L j hj).1, by rw [Nat.add_assoc]; exact hcl _ _ (ptCells_at L j hj).2⟩
def rowP (f : Pt → Bool) (y : Nat) : Nat → List Pt
  | 0 => []
  | x + 1 => rowP f y x ++ (if f ((x : Int), (y : Int)) = true then [((x : Int), (y : Int))] else [])
def allP (f : Pt → Bool) (m : Nat) : Nat → List Pt
  | 0 => []
  | y + 1 => allP f m y ++ rowP f y m
theorem rowP_len (f : Pt → Bool) (y : Nat) : ∀ x, (rowP f y x).length ≤ x
  | 0 => Nat.le_refl _
  | x + 1 => by
    have h := rowP_len f y x
    unfold rowP
    rw [List.length_append]
    split <;> simp <;> omega
theorem allP_len (f : Pt → Bool) (m : Nat) : ∀ y, (allP f m y).length ≤ y * m
  | 0 => by simp [allP]
  | y + 1 => by
    have h := allP_len f m y
    have h2 := rowP_len f y m
    unfold allP
    rw [List.length_append, Nat.add_mul]
    omega
set_option maxHeartbeats 1200000 in
set_option maxRecDepth 100000 in
theorem wfPlaces_IsTested (R : List (List UInt8)) (hR : WafRight R) (P : ByteArray) (w : World) (v : Value) (h : RowsIn w v R) :
    Calls Tryz.prog 73 #[.agg #[v, .string P], .func (.func 74) #[] #[]] w fun e w' => ∃ u, e = .returned u ∧ PtsAt w' u (allP (fun p => tstB (dieN R p.1 p.2)) (R.getD 0 []).length R.length) ∧ Below w.heap.size w w' := by
  obtain ⟨W1, hW1⟩ : ∃ X : World, X = w.alloc (.cells #[v, .string P] 84) := ⟨_, rfl⟩
  have hB1 : Below w.heap.size w W1 := by rw [hW1]; exact (Below.refl _ _).alloc (Nat.le_refl _) _
  have h1 := h.later hB1
  have c0 : W1.cell? ⟨w.heap.size, 0, none⟩ = some v := by rw [hW1]; simp
  have c0' : W1.cell? ⟨w.heap.size, 1, none⟩ = some (.string P) := by rw [hW1]; simp
  have hl0 : w.heap.size < W1.heap.size := World.block_lt_of_cell? W1 ⟨w.heap.size, 0, none⟩ c0
  obtain ⟨i0, hi, hz0, hz1, hz2⟩ := info_parts Tryz.infoPt
  obtain ⟨a, c, rfl, -, hop⟩ := id h1
  obtain ⟨n, hn⟩ : ∃ n, n = R.length := ⟨_, rfl⟩
  obtain ⟨m, hm⟩ : ∃ m, m = (R.getD 0 []).length := ⟨_, rfl⟩
  have hn60 := hR.n60
  have hm60 := hR.m60
  have hsm := hR.same
  obtain ⟨f, hf⟩ : ∃ f : Pt → Bool, f = fun p => tstB (dieN R p.1 p.2) := ⟨_, rfl⟩
  have hcon : ∀ (x y : Nat) (_ : x < m) (_ : y < n) (X : World) (_ : Below W1.heap.size W1 X), Calls Tryz.prog 74 #[.agg #[.slice a n c, .string P], .agg #[.int .i64 (x : Int), .int .i64 (y : Int)]] X fun e w' => e = .returned (.bool (f ((x : Int), (y : Int)))) ∧ Below X.heap.size X w' := fun x y hx hy X hX => by
    rw [hf, hn]
    exact wfIsTested_any R hR P (x : Int) (y : Int) (by omega) (by omega) X _ (h1.later hX)
  rw [← hn] at hop hn60 hsm c0 hW1
  rw [← hm] at hm60 hsm
  rw [← hf, ← hn, ← hm]
  have hop2 : 0 < n → ∃ g o, a = some ⟨g, o, none⟩ ∧ g < W1.heap.size ∧ ∀ j, j < n → ∃ s : ByteArray, s.size = m ∧ W1.cell? ⟨g, o + j, none⟩ = some (.string s) := fun h0 => by
    obtain ⟨g, o, e, hg, hc⟩ := hop h0
    exact ⟨g, o, e, hg, fun j hj => ⟨_, by show (R.getD j []).toArray.size = m; rw [List.size_toArray]; exact hsm j hj, hc j hj⟩⟩
  have hal := allP_len f m
  have hrl := rowP_len f
  have hr1 : ∀ y x, rowP f y (x + 1) = rowP f y x ++ (if f ((x : Int), (y : Int)) = true then [((x : Int), (y : Int))] else []) := fun y x => rfl
  have ha1 : ∀ y, allP f m (y + 1) = allP f m y ++ rowP f y m := fun y => rfl
  have HH := Lib.hid (⟨hcon, hop2, hB1, hal, hrl, hr1, ha1⟩ : _ ∧ _ ∧ _ ∧ _ ∧ _ ∧ _ ∧ _)
  have HW := Lib.hid hW1
  clear hcon hop hop2 hn hm hB1 h1 h hf hW1 hsm hal hrl hR hr1 ha1
  go_enter Tryz.func73, Tryz.ntmps73
  go_wp2_with fail
  rw [← HW.out]
  go_wp2_with fail
  go_loopw [5, 13] (fun v i wr => ∃ (y : Nat), y ≤ n ∧ i = .int .i64 (y : Int) ∧ PtsOwn W1.heap.size wr v (allP f m y) ∧ Below W1.heap.size W1 wr) (fun _ i _ => n - (intOf i).toNat)
  case atStart => exact ⟨0, by omega, rfl, World.ownsRow_nil _ _ _ _, Below.refl _ _⟩
  case round =>
    obtain ⟨y, hy, rfl, hown, hB⟩ := hrel
    obtain ⟨a3, c3, rfl⟩ := hown.form
    by_cases hlt : y < n
    · obtain ⟨g, o, rfl, hg, hcell⟩ := HH.out.2.1 (by omega)
      obtain ⟨s, hs, hcs⟩ := hcell y hlt
      have hc := (hB.cell (p := ⟨g, o + y, none⟩) hg).trans hcs
      obtain rfl : m = s.size := hs.symm
      have y0 : (0 : Int) ≤ (y : Int) := by omega
      have y1 : (y : Int) < (n : Int) := by omega
      have HN := Lib.hid (⟨hown, hB⟩ : _ ∧ _)
      clear hown hB hcell hcs hs
      go_wp2_with fail
      go_loopw [5, 20] (fun v i wr => ∃ (x : Nat), x ≤ s.size ∧ i = .int .i64 (x : Int) ∧ PtsOwn W1.heap.size wr v (allP f s.size y ++ rowP f y x) ∧ Below W1.heap.size W1 wr) (fun _ i _ => s.size - (intOf i).toNat)
      case atStart => exact ⟨0, by omega, rfl, by rw [show rowP f y 0 = [] from rfl, List.append_nil]; exact HN.out.1, HN.out.2⟩
      case round =>
        obtain ⟨x, hx, rfl, hown, hB⟩ := hrel
        obtain ⟨a4, c4, rfl⟩ := hown.form
        by_cases hltx : x < s.size
        · have b0 := (hB.cell (p := ⟨w.heap.size, 0, none⟩) hl0).trans c0
          have b1 := (hB.cell (p := ⟨w.heap.size, 1, none⟩) hl0).trans c0'
          have hlr : w.heap.size < wr.heap.size := Nat.lt_of_lt_of_le hl0 hB.size
          have hq := HH.out.1 x y hltx hlt (wr.alloc (.cells #[.int .i64 (x : Int), .int .i64 (y : Int)] 152)) (hB.alloc hB.size _)
          have hst := HH.out.2.2.2.2.2.1 y x
          have hl1 := HH.out.2.2.2.1 y
          have hl2 := HH.out.2.2.2.2.1 y x
          have hl3 : y * s.size ≤ 60 * 60 := Nat.mul_le_mul (by omega) hm60
          obtain ⟨q, hqd⟩ : ∃ q, q = f ((x : Int), (y : Int)) := ⟨_, rfl⟩
          rw [← hqd] at hq hst
          obtain ⟨F, hF⟩ : ∃ F, F = allP f s.size y ++ rowP f y x := ⟨_, rfl⟩
          have hFl : F.length ≤ 3660 := by rw [hF, List.length_append]; omega
          have hst2 : allP f s.size y ++ rowP f y (x + 1) = if q = true then F ++ [((x : Int), (y : Int))] else F := by
            rw [hst, ← List.append_assoc, ← hF]
            cases q <;> simp
          rw [← hF] at hown ⊢
          have x0 : (0 : Int) ≤ (x : Int) := by omega
          have x1 : (x : Int) < (s.size : Int) := by omega
          have hp0 : (wr.alloc (.cells #[.int .i64 (x : Int), .int .i64 (y : Int)] 152)).cell? ⟨wr.heap.size, 0, none⟩ = some (.int .i64 (x : Int)) := by simp
          have hp1 : (wr.alloc (.cells #[.int .i64 (x : Int), .int .i64 (y : Int)] 152)).cell? ⟨wr.heap.size, 1, none⟩ = some (.int .i64 (y : Int)) := by simp
          have HB := Lib.hid (hB.alloc hB.size (.cells #[.int .i64 (x : Int), .int .i64 (y : Int)] 152))
          have HST := Lib.hid (⟨hst2, hown⟩ : _ ∧ _)
          have hbz : W1.heap.size ≤ wr.heap.size := hB.size
          clear hB hF hqd hst hst2 hl1 hl2 hl3 hown
          go_wp2_with fail
          refine hq.mono ?_
          rintro e w3 ⟨rfl, hB3⟩
          have HB3 := Lib.hid (HB.out.trans (hB3.mono HB.out.size))
          have hz3 : W1.heap.size ≤ w3.heap.size := HB3.out.size
          have hz4 : wr.heap.size < w3.heap.size := Nat.lt_of_lt_of_le (by simp) hB3.size
          have hown3 : w3.ownsRow W1.heap.size 152 2 (.slice a4 F.length c4) F.length (ptCells F) := row_later HST.out.2 (Below.trans ((Below.refl _ wr).alloc (Nat.le_refl _) _) (hB3.mono (by simp)))
          have e0 := (hB3.cell (p := ⟨wr.heap.size, 0, none⟩) (by simp)).trans hp0
          have e1 := (hB3.cell (p := ⟨wr.heap.size, 1, none⟩) (by simp)).trans hp1
          clear hB3 hq hc b0 b1 hp0 hp1
          cases q with
          | false =>
            have HR := Lib.hid (⟨HST.out.1, hown3⟩ : _ ∧ _)
            clear hown3
            go_wp2_with fail
            go_roundw
            case rel => exact ⟨x + 1, by omega, by go_num, by rw [HR.out.1, if_neg (by decide)]; exact HR.out.2, HB3.out⟩
            case measure => simp [intOf]; omega
          | true =>
            go_wp2_with (at_builtin; refine wpList_append_own _ rfl _ _ 117 rfl W1.heap.size 152 i0 (.agg #[.int .i64 0, .int .i64 0]) 2 16 Tryz.underlying117 hi hz0 hz1 hz2 rfl (by decide) _ _ _ rfl (hown3.alloc _) ⟨w3.heap.size, 0, none⟩ 1 1 [.int .i64 (x : Int), .int .i64 (y : Int)] rfl rfl ?c1 ?c2 ?c3 ?c4 ?c5 ?_)
            case c1 =>
              intro j u hj
              match j, hj with
              | 0, hj => cases hj; simp [Addr.add]
              | 1, hj => cases hj; simp [Addr.add]
            case c2 =>
              intro u hu
              simp at hu
              rcases hu with rfl | rfl <;> rfl
            case c3 => unfold maxLen; omega
            case c4 => omega
            case c5 => simp; omega
            intro v7 w7 hown7 hg7 hlt7
            have hB7 : Below W1.heap.size W1 w7 := ((HB3.out.alloc HB3.out.size _).grown hg7 (Nat.le_trans hz3 (by simp)) (fun k hk => (hown3.lt k hk).1))
            have hP := PtsOwn.snoc _ _ hown7
            obtain ⟨a7, c7, rfl⟩ := hP.form
            have hln : (F ++ [((x : Int), (y : Int))]).length = F.length + 1 := by simp
            rw [hln] at hP hown7 ⊢
            have HR := Lib.hid (⟨HST.out.1, hP, hB7⟩ : _ ∧ _ ∧ _)
            clear hown7 hP hB7 hg7 hown3 hln
            go_wp2_with fail
            go_roundw
            case rel => exact ⟨x + 1, by omega, by go_num, by rw [HR.out.1, if_pos trivial]; exact HR.out.2.1, HR.out.2.2⟩
            case measure => simp [intOf]; omega
        · obtain rfl : x = s.size := by omega
          rw [← HH.out.2.2.2.2.2.2 y] at hown ⊢
          have HR := Lib.hid (⟨hown, hB⟩ : _ ∧ _)
          clear hown hB
          go_wp2_with fail
          go_roundw
          case rel => exact ⟨y + 1, by omega, by go_num, HR.out.1, HR.out.2⟩
          case measure => simp [intOf]; omega
    · obtain rfl : y = n := by omega
      have HR := Lib.hid (⟨hown, hB⟩ : _ ∧ _)
      clear hown hB
      go_wp2_with fail
      go_ret
      exact ⟨_, rfl, HR.out.1.at, HH.out.2.2.1.trans (HR.out.2.mono HH.out.2.2.1.size)⟩
end Go.Proofs.YtoipgliokelcfaaGreatDoor
