/- The makers of right vectors, of texts of vectors, of sequences. -/
import Derived.Test.YtoipgliokelcfaaGreatDoorPvMk
namespace Go.Proofs.YtoipgliokelcfaaGreatDoor
open Go.RowKit

set_option maxHeartbeats 2000000 in
set_option maxRecDepth 100000 in
theorem rightPatterns_any (sb t most : Nat) (w : World) (hs : Strm w sb t) (ht : t ≤ 800000) (hm : most ≤ 10) :
    Calls Tryz.prog 20 #[.pointer (some ⟨sb, 0, none⟩), .int .i64 (most : Int)] w fun e w' => ∃ (z : Int) (v : Value), e = .returned (.tuple #[.int .i64 z, v]) ∧ PatSt sb t 600 w 11 12 v w' := by
  have hsb := hs.lt
  have hR0 : Ran sb t (100 * 0) w w := Ran.refl hs
  have HR0 := Lib.hid hR0
  clear hR0 hs
  go_enter Tryz.func20, Tryz.ntmps20
  go_wp2_with fail
  go_loopw [8] (fun c wr => ∃ k : Nat, k ≤ 6 ∧ c = .int .i64 (k : Int) ∧ Ran sb t (100 * k) w wr) (fun c _ => 6 - (intOf c).toNat)
  case atStart => exact ⟨0, by omega, rfl, HR0.out⟩
  case round =>
    clear HR0
    obtain ⟨k, hk, rfl, hr⟩ := hrel
    by_cases hlt : k < 6
    · obtain ⟨t1, ht1, ht1', hs1⟩ := hr.strm
      have HR := Lib.hid hr
      have hgl : w.heap.size ≤ wr.heap.size := hr.1.size
      clear hr
      go_wp2_with fail
      refine (patterns_any sb t1 most _ hs1 (by omega) hm).mono ?_
      rintro e w2 ⟨z, v, rfl, S, hS, hl, hz, hr2⟩
      have hr3 : Ran sb t (100 * (k + 1)) w w2 := (HR.out.then ht1 ht1' hr2).mono (by omega)
      have hS3 := row_base hS hgl
      obtain ⟨a, c, rfl, -⟩ := strs_open hS
      have hpf := patternsFault_any S z (by omega) (fun k hk => by have := hz k hk; omega) _ w2 _ hS
      have H := Lib.hid (⟨hS3, hl, hz, hr3⟩ : _ ∧ _ ∧ _ ∧ _)
      clear hS hS3 hz hr2 hr3 HR hs1
      by_cases hE : vecErr z S = 0
      · rw [hE] at hpf
        clear hE
        go_wp2_with fail
        refine hpf.mono ?_
        rintro e w3 ⟨rfl, hB3⟩
        clear hpf
        have HF := Lib.hid (⟨row_later H.out.1 hB3, H.out.2.2.2.then_below hB3⟩ : _ ∧ _)
        clear hB3
        go_wp2_with fail
        go_ret2
        exact ⟨_, _, rfl, S, HF.out.1, H.out.2.1, H.out.2.2.1, HF.out.2.mono (by omega)⟩
      · generalize vecErr z S = E at hpf hE
        have hne : (E != 0) = true := by simpa using hE
        have hne2 : (E == 0) = false := by simpa using hE
        clear hE
        go_wp2_with fail
        refine hpf.mono ?_
        rintro e w3 ⟨rfl, hB3⟩
        clear hpf
        have HF := Lib.hid (H.out.2.2.2.then_below hB3)
        clear hB3
        go_wp2_with fail
        go_roundw
        case rel => exact ⟨k + 1, by omega, by go_num, HF.out⟩
        case measure => simp [intOf]; omega
    · obtain rfl : k = 6 := by omega
      have HR := Lib.hid hr
      clear hr
      go_wp2_with fail
      go_ret2
      exact ⟨_, _, rfl, [], World.ownsRow_nil _ _ _ _, by decide, (fun k hk => by cases hk), HR.out⟩

end Go.Proofs.YtoipgliokelcfaaGreatDoor
