/- Package fault: First. -/
import Derived.Test.YtgnkihiibednoaaGreatDoorFrO
import Derived.Deep.RegionLaw
namespace Go.Proofs.YtgnkihiibednoaaGreatDoor
open Go.RowKit

theorem det_say {T : List (List UInt8)} {n m : Nat} (hT : TestRight T n m) {f : Flt} (hf : FltRight n f) :
    (detN m (T.map setL) f = 0 → firstN T f m = 0 ∧ anyN T f m = false) ∧ (detN m (T.map setL) f ≠ 0 → 64 - (Lib.bitLen (detN m (T.map setL) f) : Int) = (firstN T f m : Int) ∧ anyN T f m = true) := by
  constructor
  · intro h
    have e := det_zero hT hf h
    unfold firstN anyN
    rw [e]
    exact ⟨rfl, rfl⟩
  · intro h
    obtain ⟨v, r, e1, e2⟩ := det_first hT hf h
    unfold firstN anyN
    rw [e1]
    exact ⟨e2, by simp⟩
theorem listErr_one {T : List (List UInt8)} {f : Flt} (h : listErr T [f] = 0) : TestRight T T.length (T.getD 0 []).length ∧ FltRight T.length f := by
  unfold listErr at h
  by_cases h0 : testErr T = 0
  · rw [if_pos h0] at h
    refine ⟨testErr_right T h0, fltErr_right _ _ ?_⟩
    unfold fltsErr at h
    rw [if_neg (by simp)] at h
    unfold fltsFirst at h
    split at h
    · assumption
    · exact h
  · rw [if_neg h0] at h
    exact absurd h h0
theorem flts_one {w : World} {k : Int} {l : List Int} {nv : Value} (hN : NetsAt w nv l) : FltsAt (w.alloc (.cells #[.int .i64 k, nv] 30)) (.slice (some ⟨w.heap.size, 0, none⟩) 1 1) [(k, l)] := by
  refine ⟨_, _, rfl, fun _ => ⟨w.heap.size, rfl, by simp, fun i hi => ?_⟩⟩
  have : i = 0 := by simpa using hi
  subst this
  refine ⟨by simp, nv, by simp, ?_⟩
  exact hN.later ((Below.refl _ _).alloc (Nat.le_refl _) _)
set_option maxHeartbeats 8000000 in
set_option maxRecDepth 100000 in
theorem flFirst_any (T : List (List UInt8)) (hTz : T.length ≤ 1000000) (hTb : ∀ k, k < T.length → (T.getD k []).length ≤ 1000000) (k : Int) (l : List Int) (hl : l.length ≤ 1000) (B : Nat) (w : World) (tv nv : Value) (h : StrsAt B w tv T) (hN : NetsAt w nv l) :
    Calls Tryz.prog 11 #[tv, .agg #[.int .i64 k, nv]] w fun e w' => e = .returned (.tuple #[.int .i64 (if listErr T [(k, l)] = 0 then (firstN T (k, l) (T.getD 0 []).length : Int) else 0), .bool (if listErr T [(k, l)] = 0 then anyN T (k, l) (T.getD 0 []).length else false), .int .i64 (listErr T [(k, l)])]) ∧ Below w.heap.size w w' := by
  have hBa : Below w.heap.size w (w.alloc (.cells #[.int .i64 k, nv] 30)) := (Below.refl _ _).alloc (Nat.le_refl _) _
  have hBb : Below w.heap.size w ((w.alloc (.cells #[.int .i64 k, nv] 30)).alloc (.cells #[.int .i64 k, nv] 30)) := hBa.alloc (by simp) _
  have hfo := flts_one (k := k) (hN.later hBa)
  have hck := fcheck_any T hTz hTb [(k, l)] (by simp) (fun i hi => by
    have : i = 0 := by simpa using hi
    subst this
    exact hl) B _ tv _ (row_later h hBb) hfo
  have hsz1 : (w.alloc (.cells #[.int .i64 k, nv] 30)).heap.size = w.heap.size + 1 := by simp
  rw [hsz1] at hck
  obtain ⟨E, hE⟩ : ∃ E, E = listErr T [(k, l)] := ⟨_, rfl⟩
  rw [← hE] at hck ⊢
  by_cases h0 : E = 0
  · rw [if_pos h0, if_pos h0]
    rw [h0] at hE
    obtain ⟨hT, hf⟩ := listErr_one hE.symm
    have hdet := det_say hT hf
    have hdl := detN_lt (long := (T.getD 0 []).length) (f := (k, l)) (on := T.map setL) (fun j => by rw [onGet]; exact setL_lt _)
    have hwi := fun W (hB : Below w.heap.size w W) => wire_any T _ _ hT B W tv (row_later h hB)
    have hm2 := hT.m2
    have hn1 := hT.n1
    obtain ⟨m, hm⟩ : ∃ m, m = (T.getD 0 []).length := ⟨_, rfl⟩
    obtain ⟨n, hn⟩ : ∃ n, n = T.length := ⟨_, rfl⟩
    have hol : (T.map setL).length = n := by rw [List.length_map, hn]
    have hdet2 := fun W g o fc gs sc (hg : g < W.heap.size) (hgs : gs < W.heap.size) (hfl : l.length ≤ fc) hfc hsc => detects_any n m (by omega) (T.map setL) hol (fun j => by rw [onGet]; exact setL_lt _) (k, l) (hn ▸ hf) W g o fc gs sc hg hgs hfl hfc hsc
    rw [← hm] at hdet hdl hwi hm2 ⊢
    rw [← hn] at hn1
    have hfi := fun W => setFirst_any (detN m (T.map setL) (k, l)) hdl W
    have hl1 := hf.l1
    dsimp only at hl1
    dsimp only at hdet2
    obtain ⟨na, nc, rfl, hnc, hnop⟩ := hN
    obtain ⟨g, o, rfl, hg, hnet⟩ := hnop (by omega)
    obtain ⟨ta, tc, rfl, -⟩ := strs_open h
    rw [← hn] at hck hwi ⊢
    subst h0
    generalize detN m (T.map setL) (k, l) = dv at hdet hdet2 hfi hdl
    obtain ⟨M, hM⟩ : ∃ M, M = l.length := ⟨_, rfl⟩
    rw [← hM] at hdet2 hck hBa hBb hnet hnc ⊢
    have HH := Lib.hid (⟨hdet, hwi, hdet2, hfi, hnet, hBb, hol⟩ : _ ∧ _ ∧ _ ∧ _ ∧ _ ∧ _ ∧ _)
    clear hdet hwi hdet2 hfi hnet hBa hBb hol hE hT hf h hnop hfo hM hm hn
    go_enter Tryz.func11, Tryz.ntmps11
    go_wp2_with fail
    refine hck.mono ?_
    rintro e w3 ⟨rfl, hB3⟩
    have f0 := (hB3.cell (p := ⟨w.heap.size, 0, none⟩) (by simp; try omega)).trans (show _ = some (Value.int .i64 k) by simp)
    have f1 := (hB3.cell (p := ⟨w.heap.size, 1, none⟩) (by simp; try omega)).trans (show _ = some (Value.slice (some ⟨g, o, none⟩) M nc) by simp)
    have hb3l : w.heap.size < w3.heap.size := by have := hB3.size; simp at this; omega
    have HB3 := Lib.hid (HH.out.2.2.2.2.2.1.trans (hB3.mono HH.out.2.2.2.2.2.1.size))
    clear hck hB3
    go_wp2_with fail
    go_region_law (first
      | (go_simp; go_at_call 32; refine (HH.out.2.1 _ (by first | exact HB3.out | exact HB3.out.drew)).mono ?_; rintro e w4 ⟨sv, rfl, hsv, hB4⟩; have hB4' : Below w3.heap.size w3 w4 := below_drewE hB4; have f0' := (hB4'.cell (p := ⟨w.heap.size, 0, none⟩) hb3l).trans f0; have f1' := (hB4'.cell (p := ⟨w.heap.size, 1, none⟩) hb3l).trans f1; have hsa := hsv.at; obtain ⟨sa, sc, rfl, hsop⟩ := hsa; rw [HH.out.2.2.2.2.2.2] at hsop ⊢; obtain ⟨gs, rfl, hgs, hsc⟩ := hsop (by omega))
      | (go_simp; go_at_call 35; refine (HH.out.2.2.1 _ g o nc gs sc (by have := HB3.out.size; have := hB4'.size; simp; omega) (by simpa using hgs) hnc (fun j hj => (((HB3.out.trans (hB4'.mono HB3.out.size)).cell (p := ⟨g, o + j, none⟩) hg).trans (HH.out.2.2.2.2.1 j hj))) (fun j hj => hsc j (by first | exact hj | (rw [HH.out.2.2.2.2.2.2]; exact hj)))).mono ?_; rintro e w5 ⟨rfl, hB5⟩; have hB5' : Below w4.heap.size w4 w5 := by first | exact hB5 | exact below_drewE hB5))
    all_goals (
      have hB34 := HB3.out.trans (hB4'.mono HB3.out.size)
      have HB5 := Lib.hid (hB34.trans (hB5'.mono hB34.size))
      clear hB34 hB4 hB4' hB5 hB5' hsv hsop hsc f0 f1 f0' f1'
      go_simp
      by_cases hd : dv = 0
      · have HE := Lib.hid (HH.out.1.1 hd)
        have d0 : ((dv : Int) == 0) = true := by rw [beq_iff_eq]; omega
        clear hd
        go_wp2_with fail
        go_ret3
        exact ⟨by rw [HE.out.1, HE.out.2]; rfl, HB5.out⟩
      · have HE := Lib.hid (HH.out.1.2 hd)
        have d0 : ((dv : Int) == 0) = false := by rw [beq_eq_false_iff_ne]; omega
        clear hd
        go_wp2_with fail
        refine (HH.out.2.2.2.1 _).mono ?_
        rintro e w' ⟨rfl, rfl⟩
        go_wp2_with fail
        go_ret3
        exact ⟨by rw [← HE.out.1, HE.out.2]; rfl, HB5.out⟩)
  · rw [if_neg h0, if_neg h0]
    obtain ⟨ta, tc, rfl, -⟩ := strs_open h
    obtain ⟨na, nc, rfl, -⟩ := hN
    generalize T.length = tl at hck ⊢
    generalize l.length = nl at hck hBb ⊢
    have d0 : (E != 0) = true := by simpa using h0
    have HB := Lib.hid hBb
    clear hBa hBb hfo h hE h0 hsz1
    go_enter Tryz.func11, Tryz.ntmps11
    go_wp2_with fail
    refine hck.mono ?_
    rintro e w3 ⟨rfl, hB3⟩
    have HB3 := Lib.hid (HB.out.trans (hB3.mono HB.out.size))
    clear hck hB3
    go_wp2_with fail
    go_ret3
    exact ⟨rfl, HB3.out⟩
end Go.Proofs.YtgnkihiibednoaaGreatDoor
