/- Package flash: SectorOf. -/
import Derived.Test.YtdejjplkignaoaaMcO
import Derived.BigQuiet
namespace Go.Proofs.Ytdejjplkignaoaa
open Go.RowKit

theorem drewN_below (w : World) (q : Nat) : Below w.heap.size w (w.drewN q) := ⟨rfl, rfl, rfl, Nat.le_refl _, fun _ _ => rfl⟩
/-- What SectorOf answers. -/
def sofTup (S : List Int) (a : Int) : Value :=
  if flErr S = 0 then (match secAt S a with | some k => .tuple #[.int .i64 (k : Int), .int .i64 (preS S k), .int .i64 0] | none => .tuple #[.int .i64 0, .int .i64 0, .int .i64 1])
  else .tuple #[.int .i64 0, .int .i64 0, .int .i64 (flErr S)]
set_option maxHeartbeats 800000 in
set_option maxRecDepth 100000 in
theorem sectorOf_any (S : List Int) (hz : S.length ≤ 1000000) (x : Int) (w : World) (v : Value) (h : NumsAt w v S) :
    Calls Try.prog 16 #[.agg #[v], .int .i64 x] w fun e w' => e = .returned (sofTup S x) ∧ Below w.heap.size w w' := by
  obtain ⟨W1, hW1⟩ : ∃ W1 : World, W1 = w.alloc (.cells #[v] 27) := ⟨_, rfl⟩
  have hB1 : Below w.heap.size w W1 := by rw [hW1]; exact (Below.refl _ _).alloc (Nat.le_refl _) _
  have hc0 : W1.cell? ⟨w.heap.size, 0, none⟩ = some v := by rw [hW1]; simp
  have hl1 : w.heap.size < W1.heap.size := World.block_lt_of_cell? W1 ⟨w.heap.size, 0, none⟩ hc0
  have h1 := h.later hB1
  have hcf := checkFlash_any S hz W1 v h1
  have hsp := fun hS W hB => spansOf_any S hS W v (h1.later hB)
  obtain ⟨a, c, rfl, -, -⟩ := h
  obtain ⟨E, hE⟩ : ∃ E, E = sofTup S x := ⟨_, rfl⟩
  rw [← hE]
  unfold sofTup at hE
  obtain ⟨F, hF⟩ : ∃ F, F = flErr S := ⟨_, rfl⟩
  have hr := fun h0 => flErr_right (S := S) h0
  rw [← hF] at hcf hE hr
  have HW := Lib.hid hW1
  have HB1 := Lib.hid hB1
  have HP := Lib.hid (⟨hsp, hE, hr⟩ : _ ∧ _ ∧ _)
  clear hW1 hB1 h1 hsp hE hF hr
  go_enter Try.func16, Try.ntmps16
  go_wp2_with fail
  rw [← HW.out]
  refine hcf.mono ?_
  rintro e w2 ⟨rfl, hB2⟩
  have g0 := (hB2.cell (p := ⟨w.heap.size, 0, none⟩) hl1).trans hc0
  have HB2 := Lib.hid hB2
  clear hcf hB2
  by_cases h0 : F = 0
  · obtain ⟨hsp, hE, hr⟩ := HP.out
    have hr := hr h0
    rw [if_pos h0] at hE
    have hq := hsp hr w2 HB2.out
    have HQ := Lib.hid (⟨hE, hr⟩ : _ ∧ _)
    subst h0
    clear hsp hE hr HP
    go_wp2_with fail
    refine hq.mono ?_
    rintro e w3 ⟨z, rfl, hz3, -, hB3⟩
    have hs := sectorAt_any S HQ.out.2 x w3 z hz3
    have HB3 := Lib.hid (HB2.out.trans (hB3.mono HB2.out.size))
    have HZ := Lib.hid hz3
    clear hq hB3 hz3
    go_wp2_with fail
    refine hs.mono ?_
    rintro e w4 ⟨rfl, hB4⟩
    have hz4 := HZ.out.later hB4
    have HB4 := Lib.hid (HB1.out.trans ((HB3.out.trans (hB4.mono HB3.out.size)).mono HB1.out.size))
    clear hs hB4
    have hE := HQ.out.1
    cases hk : secAt S x with
    | none =>
      rw [hk] at hE
      dsimp only at hE
      subst hE
      have hi : secI S x = -1 := by unfold secI; rw [hk]
      rw [hi]
      clear hi hz4 hk
      go_wp2_with fail
      go_ret3
      exact ⟨rfl, HB4.out⟩
    | some k =>
      rw [hk] at hE
      dsimp only at hE
      have hkn := (secAt_some hk).1
      have hi : secI S x = (k : Int) := by unfold secI; rw [hk]
      rw [hi]
      obtain ⟨a2, c2, rfl, -, hop⟩ := hz4
      obtain ⟨g, o, rfl, hg, hcell⟩ := hop (by omega)
      have hc := (hcell k hkn).1
      have hn20 := HQ.out.2.l2
      obtain ⟨n, hn⟩ : ∃ n, n = S.length := ⟨_, rfl⟩
      rw [← hn] at hkn hn20
      obtain ⟨p, hp⟩ : ∃ p, p = preS S k := ⟨_, rfl⟩
      rw [← hp] at hc hE
      rw [← hn]
      have k0 : (0 : Int) ≤ (k : Int) := by omega
      have k1 : (k : Int) < (n : Int) := by omega
      have HE := Lib.hid hE
      clear hi hk hcell hop hn hp hE
      go_wp2_with fail
      go_quiet (fail)
      go_wp2_with fail
      go_ret3
      exact ⟨by rw [HE.out]; rfl, HB4.out.trans ((drewN_below _ _).mono HB4.out.size)⟩
  · obtain ⟨-, hE, -⟩ := HP.out
    rw [if_neg h0] at hE
    have n0 : (F != 0) = true := by simpa using h0
    have HE := Lib.hid hE
    clear hE HP h0
    go_wp2_with fail
    go_ret3
    exact ⟨by rw [HE.out]; rfl, HB1.out.trans (HB2.out.mono HB1.out.size)⟩
end Go.Proofs.Ytdejjplkignaoaa
