/- Package flash: CheckOps. -/
import Derived.Test.YtfoocnhfppjbbaaGreatDoorM3
import Derived.Deep.RegionHeld3
namespace Go.Proofs.YtfoocnhfppjbbaaGreatDoor
open Go.RowKit

/-- The slice value reads as these operations. -/
def OpsAt (w : World) (v : Value) (l : List Opn) : Prop :=
  ∃ a c, v = .slice a l.length c ∧ l.length ≤ c ∧ (0 < l.length → ∃ g o, a = some ⟨g, o, none⟩ ∧ g < w.heap.size ∧ ∀ j, j < l.length → w.cell? ⟨g, o + j * 3, none⟩ = some (.int .i64 (l.getD j (0, 0, 0)).1) ∧ w.cell? ⟨g, o + j * 3 + 1, none⟩ = some (.int .i64 (l.getD j (0, 0, 0)).2.1) ∧ w.cell? ⟨g, o + j * 3 + 2, none⟩ = some (.int .i64 (l.getD j (0, 0, 0)).2.2))
theorem OpsAt.later {w w' : World} {v : Value} {l : List Opn} (h : OpsAt w v l) (hB : Below w.heap.size w w') : OpsAt w' v l := by
  obtain ⟨a, c, h1, h2, h3⟩ := h
  refine ⟨a, c, h1, h2, fun h0 => ?_⟩
  obtain ⟨g, o, h4, h5, h6⟩ := h3 h0
  exact ⟨g, o, h4, Nat.lt_of_lt_of_le h5 hB.size, fun j hj => ⟨(hB.cell (p := ⟨g, o + j * 3, none⟩) h5).trans (h6 j hj).1, (hB.cell (p := ⟨g, o + j * 3 + 1, none⟩) h5).trans (h6 j hj).2.1, (hB.cell (p := ⟨g, o + j * 3 + 2, none⟩) h5).trans (h6 j hj).2.2⟩⟩
/-- What is wrong with operations, or with the memory. -/
def coErr (S : List Int) (O : List Opn) : Int := if flErr S = 0 then opsErr S O else flErr S
theorem opsFirst_app (x y : Int) : ∀ (A B : List Opn), opsFirst x y (A ++ B) = if opsFirst x y A = 0 then opsFirst x y B else opsFirst x y A
  | [], B => by simp [opsFirst]
  | o :: A, B => by
    have h := opsFirst_app x y A B
    show (if opErr x y o = 0 then opsFirst x y (A ++ B) else opErr x y o) = if (if opErr x y o = 0 then opsFirst x y A else opErr x y o) = 0 then opsFirst x y B else (if opErr x y o = 0 then opsFirst x y A else opErr x y o)
    by_cases h0 : opErr x y o = 0
    · simp only [if_pos h0]; exact h
    · simp only [if_neg h0]
theorem opsFirst_take (x y : Int) (O : List Opn) (k : Nat) (hk : k < O.length) (h : opsFirst x y (O.take k) = 0) : opsFirst x y (O.take (k + 1)) = opErr x y (O.getD k (0, 0, 0)) := by
  have e : O.getD k (0, 0, 0) = O[k] := by simp [hk]
  rw [List.take_succ_eq_append_getElem hk, opsFirst_app, if_pos h, e]
  show (if opErr x y O[k] = 0 then opsFirst x y [] else opErr x y O[k]) = _
  by_cases h0 : opErr x y O[k] = 0
  · rw [if_pos h0, h0]; rfl
  · rw [if_neg h0]
theorem opsFirst_no (x y : Int) (O : List Opn) (k : Nat) (h : opsFirst x y (O.take k) ≠ 0) : opsFirst x y O = opsFirst x y (O.take k) := by
  have e := opsFirst_app x y (O.take k) (O.drop k)
  rw [List.take_append_drop, if_neg h] at e
  exact e
theorem flSum_pos {S : List Int} (hr : FlashRight S) : 0 ≤ sumS S := by
  have := preS_mono hr.low S.length (Nat.le_refl _) 0 (Nat.zero_le _)
  have e : preS S 0 = 0 := rfl
  have e2 : sumS S = preS S S.length := rfl
  omega
set_option maxHeartbeats 1600000 in
set_option maxRecDepth 100000 in
theorem checkOps_any (S : List Int) (O : List Opn) (hz : S.length ≤ 1000000) (hzO : O.length ≤ 1000000) (w : World) (v u : Value) (h : NumsAt w v S) (hO : OpsAt w u O) :
    Calls Tryz.prog 36 #[.agg #[v], u] w fun e w' => e = .returned (.int .i64 (coErr S O)) ∧ Below w.heap.size w w' := by
  obtain ⟨W1, hW1⟩ : ∃ W1 : World, W1 = w.alloc (.cells #[v] 27) := ⟨_, rfl⟩
  have hB1 : Below w.heap.size w W1 := by rw [hW1]; exact (Below.refl _ _).alloc (Nat.le_refl _) _
  have hc0 : W1.cell? ⟨w.heap.size, 0, none⟩ = some v := by rw [hW1]; simp
  have hl1 : w.heap.size < W1.heap.size := World.block_lt_of_cell? W1 ⟨w.heap.size, 0, none⟩ hc0
  have h1 := h.later hB1
  have hO1 := hO.later hB1
  have hcf := checkFlash_any S hz W1 v h1
  have hlo := fun hS W hB => longOf_any S hS W v (h1.later hB)
  obtain ⟨a, c, rfl, -, -⟩ := h
  obtain ⟨a2, c2, rfl, -, hop⟩ := hO1
  clear hO
  obtain ⟨E, hE⟩ : ∃ E, E = coErr S O := ⟨_, rfl⟩
  rw [← hE]
  unfold coErr at hE
  have HW := Lib.hid hW1
  have HB1 := Lib.hid hB1
  by_cases h0 : flErr S = 0
  · rw [if_pos h0] at hE
    have hr := flErr_right h0
    have hlo2 := hlo hr.small
    have hsu := hr.sum
    have hs0 := flSum_pos hr
    rw [h0] at hcf
    unfold opsErr at hE
    obtain ⟨su, hsu2⟩ : ∃ x, x = sumS S := ⟨_, rfl⟩
    rw [← hsu2] at hE hsu hs0 hlo2
    have hn20 := hr.l2
    obtain ⟨n, hn⟩ : ∃ n, n = S.length := ⟨_, rfl⟩
    obtain ⟨m, hm⟩ : ∃ m, m = O.length := ⟨_, rfl⟩
    rw [← hn] at hcf hlo2 HW hc0 hE hn20
    rw [← hm] at hE hzO hop
    rw [← hn, ← hm]
    have HC := Lib.hid (⟨hlo2, hop, hm⟩ : _ ∧ _ ∧ _)
    clear hlo hlo2 hop hr h1 hW1 hB1 hsu2 hn hm h0 hz
    by_cases h5 : 50000 < m
    · rw [if_pos h5] at hE
      have n5 : (50000 : Int) < (m : Int) := by omega
      clear h5
      subst hE
      go_enter Tryz.func36, Tryz.ntmps36
      go_wp2_with fail
      rw [← HW.out]
      refine hcf.mono ?_
      rintro e w2 ⟨rfl, hB2⟩
      have HB2 := Lib.hid (HB1.out.trans (hB2.mono HB1.out.size))
      clear hcf hB2
      go_wp2_with fail
      go_ret
      exact ⟨rfl, HB2.out⟩
    · rw [if_neg h5] at hE
      have n5 : (m : Int) ≤ 50000 := by omega
      have HE := Lib.hid hE
      clear h5 hE
      go_enter Tryz.func36, Tryz.ntmps36
      go_wp2_with fail
      rw [← HW.out]
      refine hcf.mono ?_
      rintro e w2 ⟨rfl, hB2⟩
      have hlo := fun W hB => HC.out.1 W (hB2.trans hB)
      have c2' := (hB2.cell (p := ⟨w.heap.size, 0, none⟩) hl1).trans hc0
      have HB2 := Lib.hid hB2
      clear hcf hB2
      go_wp2_with fail
      go_region_held3 (fun w' => w'.cell? ⟨w.heap.size, 0, none⟩ = some (.slice a n c)) (first | exact c2' | assumption)
        ((go_at_call 52; refine (hlo w2.drew ((Below.refl w2.heap.size w2).drew.mono HB2.out.size)).mono ?_; rintro e w3 ⟨rfl, hB3⟩; have c3' : w3.cell? ⟨w.heap.size, 0, none⟩ = some (.slice a n c) := ((hB3.cell (p := ⟨w.heap.size, 0, none⟩) (Nat.lt_of_lt_of_le hl1 HB2.out.size)).trans c2')))
      have HB3 := Lib.hid (HB2.out.drew.trans (hB3.mono (show W1.heap.size ≤ w2.heap.size from HB2.out.size)))
      clear hB3 c3' c2' hlo
      go_wp2_with fail
      go_loopw [26] (fun i wr => ∃ (k : Nat), k ≤ m ∧ i = .int .i64 (k : Int) ∧ opsFirst (n : Int) su (O.take k) = 0 ∧ Below W1.heap.size W1 wr) (fun i _ => m - (intOf i).toNat)
      case atStart => exact ⟨0, by omega, rfl, by rfl, HB3.out⟩
      case round =>
        obtain ⟨k, hk, rfl, hW, hB⟩ := hrel
        by_cases hlt : k < m
        · obtain ⟨g, o, rfl, hg, hcell⟩ := HC.out.2.1 (by omega)
          obtain ⟨d1, d2, d3⟩ := hcell k hlt
          have hc1 := (hB.cell (p := ⟨g, o + k * 3, none⟩) hg).trans d1
          have hc2 := (hB.cell (p := ⟨g, o + k * 3 + 1, none⟩) hg).trans d2
          have hc3 := (hB.cell (p := ⟨g, o + k * 3 + 2, none⟩) hg).trans d3
          clear d1 d2 d3
          have hst := opsFirst_take (n : Int) su O k (by rw [← HC.out.2.2]; exact hlt) hW
          have hno := opsFirst_no (n : Int) su O (k + 1)
          rw [hst] at hno
          obtain ⟨x, y, z, hy⟩ : ∃ x y z, O.getD k (0, 0, 0) = (x, y, z) := ⟨_, _, _, rfl⟩
          rw [hy] at hc1 hc2 hc3 hst hno
          have hq := fun W => checkOp_any (n : Int) su x y z (by omega) (by omega) W
          obtain ⟨q, hq2⟩ : ∃ q, q = opErr (n : Int) su (x, y, z) := ⟨_, rfl⟩
          rw [← hq2] at hq hst hno
          dsimp only at hc1 hc2 hc3
          have k0 : (0 : Int) ≤ (k : Int) := by omega
          have k1 : (k : Int) < (m : Int) := by omega
          by_cases hqz : q = 0
          · subst hqz
            have HB := Lib.hid (⟨hB, hst⟩ : _ ∧ _)
            clear hB hcell hy hst hW hq2 hno
            go_wp2_with fail
            refine (hq _).mono ?_
            rintro e w4 ⟨rfl, hB4⟩
            have HB4 := Lib.hid ((HB.out.1.alloc HB.out.1.size _).trans (hB4.mono (by simp; have := HB.out.1.size; omega)))
            clear hq hB4
            go_wp2_with fail
            go_roundw
            case rel => exact ⟨k + 1, by omega, by go_num, HB.out.2, HB4.out⟩
            case measure => simp [intOf]; omega
          · have hE := HE.out
            rw [hno hqz] at hE
            subst hE
            have n0 : (E != 0) = true := by simpa using hqz
            have HB := Lib.hid hB
            clear hB hcell hy hst hW hq2 hno hqz
            go_wp2_with fail
            refine (hq _).mono ?_
            rintro e w4 ⟨rfl, hB4⟩
            have HB4 := Lib.hid ((HB.out.alloc HB.out.size _).trans (hB4.mono (by simp; have := HB.out.size; omega)))
            clear hq hB4
            go_wp2_with fail
            go_ret
            exact ⟨rfl, HB1.out.trans (HB4.out.mono HB1.out.size)⟩
        · obtain rfl : k = m := by omega
          have hE := HE.out
          rw [HC.out.2.2, List.take_length] at hW
          rw [hW] at hE
          subst hE
          have HB := Lib.hid hB
          clear hB hW
          go_wp2_with fail
          go_ret
          exact ⟨rfl, HB1.out.trans (HB.out.mono HB1.out.size)⟩
  · rw [if_neg h0] at hE
    obtain ⟨F, hF⟩ : ∃ F, F = flErr S := ⟨_, rfl⟩
    rw [← hF] at hcf h0 hE
    subst hE
    have n0 : (E != 0) = true := by simpa using h0
    obtain ⟨n, hn⟩ : ∃ n, n = S.length := ⟨_, rfl⟩
    obtain ⟨m, hm⟩ : ∃ m, m = O.length := ⟨_, rfl⟩
    rw [← hn] at hcf HW hc0
    rw [← hn, ← hm]
    clear hlo hop h1 hW1 hB1 h0 hz hn hm hF
    go_enter Tryz.func36, Tryz.ntmps36
    go_wp2_with fail
    rw [← HW.out]
    refine hcf.mono ?_
    rintro e w2 ⟨rfl, hB2⟩
    have HB2 := Lib.hid (HB1.out.trans (hB2.mono HB1.out.size))
    clear hcf hB2
    go_wp2_with fail
    go_ret
    exact ⟨rfl, HB2.out⟩
end Go.Proofs.YtfoocnhfppjbbaaGreatDoor
