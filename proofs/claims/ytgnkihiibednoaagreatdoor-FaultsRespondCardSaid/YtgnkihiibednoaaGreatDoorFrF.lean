/- What is wrong with faults, and with a test and faults: both sides. Made by gens/frf.py. -/
import Derived.Test.YtgnkihiibednoaaGreatDoorFrE
namespace Go.Proofs.YtgnkihiibednoaaGreatDoor
open Go.RowKit

def fltsFirst (n : Int) : List Flt → Int
  | [] => 0
  | f :: L => if fltErr n f = 0 then fltsFirst n L else fltErr n f
theorem fltsFirst_at (n : Int) : ∀ (L : List Flt) (k : Nat), k < L.length → fltsFirst n (L.drop k) = if fltErr n (L.getD k (0, [])) = 0 then fltsFirst n (L.drop (k + 1)) else fltErr n (L.getD k (0, []))
  | [], k, h => absurd h (Nat.not_lt_zero _)
  | f :: L, 0, _ => rfl
  | f :: L, k + 1, h => fltsFirst_at n L k (by simpa using h)
/-- What is wrong with a list of faults; with a test and a list of faults. -/
def fltsErr (n : Int) (L : List Flt) : Int := if 20000 < L.length then 2 else fltsFirst n L
def listErr (T : List (List UInt8)) (L : List Flt) : Int := if testErr T = 0 then fltsErr (T.length : Int) L else testErr T

set_option maxHeartbeats 4000000 in
set_option maxRecDepth 100000 in
theorem checkFaults_any (n : Int) (L : List Flt) (hz : L.length ≤ 1000000) (hL : ∀ i, i < L.length → (L.getD i (0, [])).2.length ≤ 1000) (w : World) (v : Value) (h : FltsAt w v L) :
    Calls Tryz.prog 62 #[.int .i64 n, v] w fun e w' => e = .returned (.int .i64 (fltsErr n L)) ∧ Below w.heap.size w w' := by
  obtain ⟨a, c, rfl, hop⟩ := h
  obtain ⟨E, hE⟩ : ∃ E, E = fltsErr n L := ⟨_, rfl⟩
  rw [← hE]
  unfold fltsErr at hE
  obtain ⟨M, hM⟩ : ∃ M, M = L.length := ⟨_, rfl⟩
  by_cases h1 : 20000 < L.length
  · rw [if_pos h1] at hE
    rw [← hM] at h1 ⊢
    subst hE
    have z1 : (M : Int) > 20000 := by omega
    clear hop hL hM hz h1
    go_enter Tryz.func62, Tryz.ntmps62
    go_wp2_with fail
    go_ret
    exact ⟨rfl, Below.refl _ _⟩
  rw [if_neg h1] at hE
  have hst : fltsFirst n (L.drop 0) = E := by rw [hE]; rfl
  have hzI : (M : Int) ≤ 20000 := by omega
  rw [← hM] at hL hop hz ⊢
  have HS0 := Lib.hid hst
  have HH := Lib.hid (⟨hop, hL, hM⟩ : _ ∧ _ ∧ _)
  clear hop hL hM hE hst h1
  go_enter Tryz.func62, Tryz.ntmps62
  go_wp2_with fail
  go_loopw [13] (fun i wr => ∃ (k : Nat), k ≤ M ∧ i = .int .i64 (k : Int) ∧ fltsFirst n (L.drop k) = E ∧ Below w.heap.size w wr) (fun i _ => M - (intOf i).toNat)
  case atStart => exact ⟨0, by omega, rfl, HS0.out, Below.refl _ _⟩
  case round =>
    clear HS0
    obtain ⟨k, hk, rfl, hE, hB⟩ := hrel
    by_cases hlt : k < M
    · obtain ⟨g, rfl, hg, hcell⟩ := HH.out.1 (by omega)
      obtain ⟨c0, nv, c1, hN⟩ := hcell k hlt
      rw [fltsFirst_at _ _ _ (by rw [← HH.out.2.2]; exact hlt)] at hE
      have hB1 : Below w.heap.size w (wr.alloc (.cells #[.int .i64 (L.getD k (0, [])).1, nv] 30)) := hB.alloc hB.size _
      have hcf := checkFault_any n (L.getD k (0, [])).1 (L.getD k (0, [])).2 (HH.out.2.1 k hlt) _ nv (hN.later hB1)
      change Calls _ _ _ _ (fun e w' => e = .returned (.int .i64 (fltErr n (L.getD k (0, [])))) ∧ _) at hcf
      have c0' := (hB.cell (p := ⟨g, k * 2, none⟩) hg).trans c0
      have c1' := (hB.cell (p := ⟨g, k * 2 + 1, none⟩) hg).trans c1
      obtain ⟨nk, hnk⟩ : ∃ x, x = (L.getD k (0, [])).1 := ⟨_, rfl⟩
      obtain ⟨fe, hfe⟩ : ∃ x, x = fltErr n (L.getD k (0, [])) := ⟨_, rfl⟩
      rw [← hfe] at hcf hE
      rw [← hnk] at hcf c0' hB1
      obtain ⟨na, nc, hform, -⟩ := hN
      rw [hform] at hcf c1' hB1
      generalize (L.getD k (0, [])).2.length = nl at hcf c1' hB1
      have k0 : (0 : Int) ≤ (k : Int) := by omega
      have k1 : (k : Int) < (M : Int) := by omega
      have HB := Lib.hid hB1
      clear hB hB1 hcell c0 c1 hnk hform hfe
      by_cases hf0 : fe = 0
      · subst hf0
        rw [if_pos rfl] at hE
        have HE := Lib.hid hE
        clear hE
        go_wp2_with fail
        refine hcf.mono ?_
        rintro e w2 ⟨rfl, hB2⟩
        have HB2 := Lib.hid (HB.out.trans (hB2.mono HB.out.size))
        clear hcf hB2
        go_wp2_with fail
        go_roundw
        case rel => exact ⟨k + 1, by omega, by go_num, HE.out, HB2.out⟩
        case measure => simp [intOf]; omega
      · rw [if_neg hf0] at hE
        have n0 : (fe != 0) = true := by simpa using hf0
        have n1 : (fe == 0) = false := by simpa using hf0
        have HE := Lib.hid hE
        clear hE hf0
        go_wp2_with fail
        refine hcf.mono ?_
        rintro e w2 ⟨rfl, hB2⟩
        have HB2 := Lib.hid (HB.out.trans (hB2.mono HB.out.size))
        clear hcf hB2
        go_wp2_with fail
        go_ret
        exact ⟨by rw [← HE.out]; rfl, HB2.out⟩
    · have hkn : L.drop k = [] := List.drop_eq_nil_of_le (by rw [← HH.out.2.2]; omega)
      rw [hkn] at hE
      obtain rfl : k = M := by omega
      have HE := Lib.hid hE
      have HB := Lib.hid hB
      clear hB hE hkn
      go_wp2_with fail
      go_ret
      exact ⟨by rw [← HE.out]; rfl, HB.out⟩

set_option maxHeartbeats 4000000 in
set_option maxRecDepth 100000 in
theorem faultsFault_any (n : Int) (L : List Flt) (hz : L.length ≤ 1000000) (hL : ∀ i, i < L.length → (L.getD i (0, [])).2.length ≤ 1000) (w : World) (v : Value) (h : FltsAt w v L) :
    Calls Tryz.prog 37 #[.int .i64 n, v] w fun e w' => e = .returned (.int .i64 (fltsErr n L)) ∧ Below w.heap.size w w' := by
  obtain ⟨a, c, rfl, hop⟩ := h
  obtain ⟨E, hE⟩ : ∃ E, E = fltsErr n L := ⟨_, rfl⟩
  rw [← hE]
  unfold fltsErr at hE
  obtain ⟨M, hM⟩ : ∃ M, M = L.length := ⟨_, rfl⟩
  by_cases h1 : 20000 < L.length
  · rw [if_pos h1] at hE
    rw [← hM] at h1 ⊢
    subst hE
    have z1 : (M : Int) > 20000 := by omega
    clear hop hL hM hz h1
    go_enter Tryz.func37, Tryz.ntmps37
    go_wp2_with fail
    go_ret
    exact ⟨rfl, Below.refl _ _⟩
  rw [if_neg h1] at hE
  have hst : fltsFirst n (L.drop 0) = E := by rw [hE]; rfl
  have hzI : (M : Int) ≤ 20000 := by omega
  rw [← hM] at hL hop hz ⊢
  have HS0 := Lib.hid hst
  have HH := Lib.hid (⟨hop, hL, hM⟩ : _ ∧ _ ∧ _)
  clear hop hL hM hE hst h1
  go_enter Tryz.func37, Tryz.ntmps37
  go_wp2_with fail
  go_loopw [13] (fun i wr => ∃ (k : Nat), k ≤ M ∧ i = .int .i64 (k : Int) ∧ fltsFirst n (L.drop k) = E ∧ Below w.heap.size w wr) (fun i _ => M - (intOf i).toNat)
  case atStart => exact ⟨0, by omega, rfl, HS0.out, Below.refl _ _⟩
  case round =>
    clear HS0
    obtain ⟨k, hk, rfl, hE, hB⟩ := hrel
    by_cases hlt : k < M
    · obtain ⟨g, rfl, hg, hcell⟩ := HH.out.1 (by omega)
      obtain ⟨c0, nv, c1, hN⟩ := hcell k hlt
      rw [fltsFirst_at _ _ _ (by rw [← HH.out.2.2]; exact hlt)] at hE
      have hB1 : Below w.heap.size w (wr.alloc (.cells #[.int .i64 (L.getD k (0, [])).1, nv] 30)) := hB.alloc hB.size _
      have hcf := faultFault_any n (L.getD k (0, [])).1 (L.getD k (0, [])).2 (HH.out.2.1 k hlt) _ nv (hN.later hB1)
      change Calls _ _ _ _ (fun e w' => e = .returned (.int .i64 (fltErr n (L.getD k (0, [])))) ∧ _) at hcf
      have c0' := (hB.cell (p := ⟨g, k * 2, none⟩) hg).trans c0
      have c1' := (hB.cell (p := ⟨g, k * 2 + 1, none⟩) hg).trans c1
      obtain ⟨nk, hnk⟩ : ∃ x, x = (L.getD k (0, [])).1 := ⟨_, rfl⟩
      obtain ⟨fe, hfe⟩ : ∃ x, x = fltErr n (L.getD k (0, [])) := ⟨_, rfl⟩
      rw [← hfe] at hcf hE
      rw [← hnk] at hcf c0' hB1
      obtain ⟨na, nc, hform, -⟩ := hN
      rw [hform] at hcf c1' hB1
      generalize (L.getD k (0, [])).2.length = nl at hcf c1' hB1
      have k0 : (0 : Int) ≤ (k : Int) := by omega
      have k1 : (k : Int) < (M : Int) := by omega
      have HB := Lib.hid hB1
      clear hB hB1 hcell c0 c1 hnk hform hfe
      by_cases hf0 : fe = 0
      · subst hf0
        rw [if_pos rfl] at hE
        have HE := Lib.hid hE
        clear hE
        go_wp2_with fail
        refine hcf.mono ?_
        rintro e w2 ⟨rfl, hB2⟩
        have HB2 := Lib.hid (HB.out.trans (hB2.mono HB.out.size))
        clear hcf hB2
        go_wp2_with fail
        go_roundw
        case rel => exact ⟨k + 1, by omega, by go_num, HE.out, HB2.out⟩
        case measure => simp [intOf]; omega
      · rw [if_neg hf0] at hE
        have n0 : (fe != 0) = true := by simpa using hf0
        have n1 : (fe == 0) = false := by simpa using hf0
        have HE := Lib.hid hE
        clear hE hf0
        go_wp2_with fail
        refine hcf.mono ?_
        rintro e w2 ⟨rfl, hB2⟩
        have HB2 := Lib.hid (HB.out.trans (hB2.mono HB.out.size))
        clear hcf hB2
        go_wp2_with fail
        go_ret
        exact ⟨by rw [← HE.out]; rfl, HB2.out⟩
    · have hkn : L.drop k = [] := List.drop_eq_nil_of_le (by rw [← HH.out.2.2]; omega)
      rw [hkn] at hE
      obtain rfl : k = M := by omega
      have HE := Lib.hid hE
      have HB := Lib.hid hB
      clear hB hE hkn
      go_wp2_with fail
      go_ret
      exact ⟨by rw [← HE.out]; rfl, HB.out⟩

theorem fcheck_any (T : List (List UInt8)) (hT : T.length ≤ 1000000) (hTb : ∀ k, k < T.length → (T.getD k []).length ≤ 1000000) (L : List Flt) (hz : L.length ≤ 1000000) (hL : ∀ i, i < L.length → (L.getD i (0, [])).2.length ≤ 1000) (B : Nat) (w : World) (v v2 : Value) (h : StrsAt B w v T) (h2 : FltsAt w v2 L) :
    Calls Tryz.prog 31 #[v, v2] w fun e w' => e = .returned (.int .i64 (listErr T L)) ∧ Below w.heap.size w w' := by
  have hc1 := checkTestG_any T hT hTb B w v h
  have hc2 := fun W (hB : Below w.heap.size w W) => checkFaults_any (T.length : Int) L hz hL W v2 (h2.later hB)
  obtain ⟨a, c, rfl, -⟩ := strs_open h
  obtain ⟨fa, fc, rfl⟩ := h2.open
  obtain ⟨te, hte⟩ : ∃ x, x = testErr T := ⟨_, rfl⟩
  obtain ⟨E, hE⟩ : ∃ E, E = listErr T L := ⟨_, rfl⟩
  rw [← hE]
  unfold listErr at hE
  rw [← hte] at hc1 hE
  obtain ⟨fe, hfe⟩ : ∃ x, x = fltsErr (T.length : Int) L := ⟨_, rfl⟩
  rw [← hfe] at hc2 hE
  have HH := Lib.hid hc2
  clear hc2 h h2 hL hT hte hfe hTb hz
  generalize T.length = n at hc1 HH ⊢
  generalize L.length = m at HH ⊢
  by_cases h0 : te = 0
  · rw [if_pos h0] at hE
    subst h0
    have HE := Lib.hid hE
    clear hE
    go_enter Tryz.func31, Tryz.ntmps31
    go_wp2_with fail
    refine hc1.mono ?_
    rintro e w2 ⟨rfl, hB2⟩
    have HB2 := Lib.hid hB2
    clear hc1 hB2
    go_wp2_with fail
    refine (HH.out _ HB2.out).mono ?_
    rintro e w3 ⟨rfl, hB3⟩
    have HB3 := Lib.hid (HB2.out.trans (hB3.mono HB2.out.size))
    clear hB3
    go_wp2_with fail
    go_ret
    exact ⟨by rw [HE.out]; rfl, HB3.out⟩
  · rw [if_neg h0] at hE
    have n0 : (te != 0) = true := by simpa using h0
    have n1 : (te == 0) = false := by simpa using h0
    have HE := Lib.hid hE
    clear hE h0
    go_enter Tryz.func31, Tryz.ntmps31
    go_wp2_with fail
    refine hc1.mono ?_
    rintro e w2 ⟨rfl, hB2⟩
    have HB2 := Lib.hid hB2
    clear hc1 hB2
    go_wp2_with fail
    go_ret
    exact ⟨by rw [HE.out]; rfl, HB2.out⟩

theorem listFault_any (T : List (List UInt8)) (hT : T.length ≤ 1000000) (hTb : ∀ k, k < T.length → (T.getD k []).length ≤ 1000000) (L : List Flt) (hz : L.length ≤ 1000000) (hL : ∀ i, i < L.length → (L.getD i (0, [])).2.length ≤ 1000) (B : Nat) (w : World) (v v2 : Value) (h : StrsAt B w v T) (h2 : FltsAt w v2 L) :
    Calls Tryz.prog 12 #[v, v2] w fun e w' => e = .returned (.int .i64 (listErr T L)) ∧ Below w.heap.size w w' := by
  have hc1 := testFaultG_any T hT hTb B w v h
  have hc2 := fun W (hB : Below w.heap.size w W) => faultsFault_any (T.length : Int) L hz hL W v2 (h2.later hB)
  obtain ⟨a, c, rfl, -⟩ := strs_open h
  obtain ⟨fa, fc, rfl⟩ := h2.open
  obtain ⟨te, hte⟩ : ∃ x, x = testErr T := ⟨_, rfl⟩
  obtain ⟨E, hE⟩ : ∃ E, E = listErr T L := ⟨_, rfl⟩
  rw [← hE]
  unfold listErr at hE
  rw [← hte] at hc1 hE
  obtain ⟨fe, hfe⟩ : ∃ x, x = fltsErr (T.length : Int) L := ⟨_, rfl⟩
  rw [← hfe] at hc2 hE
  have HH := Lib.hid hc2
  clear hc2 h h2 hL hT hte hfe hTb hz
  generalize T.length = n at hc1 HH ⊢
  generalize L.length = m at HH ⊢
  by_cases h0 : te = 0
  · rw [if_pos h0] at hE
    subst h0
    have HE := Lib.hid hE
    clear hE
    go_enter Tryz.func12, Tryz.ntmps12
    go_wp2_with fail
    refine hc1.mono ?_
    rintro e w2 ⟨rfl, hB2⟩
    have HB2 := Lib.hid hB2
    clear hc1 hB2
    go_wp2_with fail
    refine (HH.out _ HB2.out).mono ?_
    rintro e w3 ⟨rfl, hB3⟩
    have HB3 := Lib.hid (HB2.out.trans (hB3.mono HB2.out.size))
    clear hB3
    go_wp2_with fail
    go_ret
    exact ⟨by rw [HE.out]; rfl, HB3.out⟩
  · rw [if_neg h0] at hE
    have n0 : (te != 0) = true := by simpa using h0
    have n1 : (te == 0) = false := by simpa using h0
    have HE := Lib.hid hE
    clear hE h0
    go_enter Tryz.func12, Tryz.ntmps12
    go_wp2_with fail
    refine hc1.mono ?_
    rintro e w2 ⟨rfl, hB2⟩
    have HB2 := Lib.hid hB2
    clear hc1 hB2
    go_wp2_with fail
    go_ret
    exact ⟨by rw [HE.out]; rfl, HB2.out⟩
end Go.Proofs.YtgnkihiibednoaaGreatDoor
