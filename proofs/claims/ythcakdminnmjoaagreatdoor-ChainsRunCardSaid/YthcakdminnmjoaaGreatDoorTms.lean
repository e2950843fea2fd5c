/- The contract of Tms: a sequence that is not long. -/
import Derived.Test.YthcakdminnmjoaaGreatDoorChanged
import Derived.Deep.CutBlock
import Derived.Deep.DeepCutAuto
namespace Go.Proofs.YthcakdminnmjoaaGreatDoor
open Go.RowKit

def strLen : Value → Nat
  | .string s => s.size
  | _ => 0
/-- The pieces of which a sequence is made. -/
def pieces (b : ByteArray) : List ByteArray := [⟨#[48]⟩, ⟨#[49]⟩, ⟨#[48, 48]⟩, ⟨#[48, 49, 49, 48, 48]⟩, ⟨#[48, 49, 48, 48]⟩, ⟨#[49, 49, 49, 49, 49]⟩, ⟨#[48, 48, 48, 48]⟩, b]
theorem pieces_size (b : ByteArray) (hb : b.size = 3) (j : Nat) (hj : j < 8) : 1 ≤ ((pieces b).getD j ⟨#[]⟩).size ∧ ((pieces b).getD j ⟨#[]⟩).size ≤ 5 := by
  have : j = 0 ∨ j = 1 ∨ j = 2 ∨ j = 3 ∨ j = 4 ∨ j = 5 ∨ j = 6 ∨ j = 7 := by omega
  rcases this with rfl | rfl | rfl | rfl | rfl | rfl | rfl | rfl
  · show 1 ≤ (⟨#[48]⟩ : ByteArray).size ∧ (⟨#[48]⟩ : ByteArray).size ≤ 5; decide
  · show 1 ≤ (⟨#[49]⟩ : ByteArray).size ∧ (⟨#[49]⟩ : ByteArray).size ≤ 5; decide
  · show 1 ≤ (⟨#[48, 48]⟩ : ByteArray).size ∧ (⟨#[48, 48]⟩ : ByteArray).size ≤ 5; decide
  · show 1 ≤ (⟨#[48, 49, 49, 48, 48]⟩ : ByteArray).size ∧ (⟨#[48, 49, 49, 48, 48]⟩ : ByteArray).size ≤ 5; decide
  · show 1 ≤ (⟨#[48, 49, 48, 48]⟩ : ByteArray).size ∧ (⟨#[48, 49, 48, 48]⟩ : ByteArray).size ≤ 5; decide
  · show 1 ≤ (⟨#[49, 49, 49, 49, 49]⟩ : ByteArray).size ∧ (⟨#[49, 49, 49, 49, 49]⟩ : ByteArray).size ≤ 5; decide
  · show 1 ≤ (⟨#[48, 48, 48, 48]⟩ : ByteArray).size ∧ (⟨#[48, 48, 48, 48]⟩ : ByteArray).size ≤ 5; decide
  · show 1 ≤ b.size ∧ b.size ≤ 5; omega

/-- What stands behind the loop. -/
def TmsMid (sb t most : Nat) (w : World) (v : Value) (wx : World) : Prop := ∃ s : ByteArray, v = .string s ∧ s.size ≤ most + 5 ∧ ∃ K, K ≤ 5 * (most + 5) ∧ Ran sb t K w wx

theorem tms_any (sb t most : Nat) (w : World) (hs : Strm w sb t) (ht : t ≤ 100000) (hm : most ≤ 1000) :
    Calls Tryz.prog 5 #[.pointer (some ⟨sb, 0, none⟩), .int .i64 (most : Int)] w fun e w' => (∃ s : ByteArray, s.size ≤ most + 10 ∧ e = .returned (.string s)) ∧ Ran sb t (5 * (most + 5) + 4) w w' := by
  go_enter Tryz.func5, Tryz.ntmps5
  go_upto_block 0 with (fail)
  go_cut [5] (fun v wx => TmsMid sb t most w v wx)
  case first =>
    go_wp2_with fail
    go_loopw [5] (fun v wr => ∃ s : ByteArray, v = .string s ∧ s.size ≤ most + 5 ∧ Ran sb t (5 * s.size) w wr) (fun v _ => most - strLen v)
    case atStart => exact ⟨⟨#[]⟩, rfl, Nat.zero_le _, Ran.refl hs⟩
    case round =>
      obtain ⟨s, rfl, hsz, hr⟩ := hrel
      obtain ⟨t1, ht1, ht1', hs1⟩ := hr.strm
      by_cases hlt : s.size < most
      · go_wp2_with fail
        refine (bits_any sb t1 3 _ hs1 (by omega)).mono ?_
        rintro e w2 ⟨⟨b, hb, _, rfl⟩, hr2⟩
        obtain ⟨t2, ht2, ht2', hs2⟩ := hr2.strm
        have hlt2 := hs2.lt
        go_wp2_with fail
        refine (some_any sb t2 w2.heap.size 0 8 8 (fun k => (pieces b).getD k ⟨#[]⟩) _ (hs2.alloc _) (by omega) (by decide) (by decide) (by omega) (strs_fresh w2 (pieces b) _)).mono ?_
        rintro e w3 ⟨⟨j, hj, rfl⟩, hr3⟩
        have hx := pieces_size b hb j hj
        have hr3' := hr3.after_alloc
        obtain ⟨t3, ht3, ht3', hs3⟩ := hr3'.strm
        have hrr := hr2.then ht2 ht2' hr3'
        clear hr2 hr3 hr3' hb
        generalize (pieces b).getD j ⟨#[]⟩ = x at hx ⊢
        obtain ⟨hx1, hx2⟩ := hx
        have hcat : ¬ 9223372036854775807 < s.size + x.size := by omega
        have hsx : (s ++ x).size = s.size + x.size := ByteArray.size_append
        have HS := Lib.hid hsx
        clear hsx
        go_wp2_with fail
        clear hcat
        refine (flip_any sb t3 _ _ hs3 (by omega) (by decide) (by decide)).mono ?_
        rintro e w4 ⟨⟨fl, rfl⟩, hr4⟩
        have hall : Ran sb t (5 * (s ++ x).size) w w4 := by
          have h1 := hr.then ht1 ht1' (hrr.then (by omega) (by omega) hr4)
          refine h1.mono ?_
          rw [HS.out]; omega
        have hsz2 : (s ++ x).size ≤ most + 5 := by rw [HS.out]; omega
        have hsz3 : s.size < (s ++ x).size := by rw [HS.out]; omega
        clear hr4 hrr hr
        generalize s ++ x = y at hall hsz2 hsz3 ⊢
        clear HS
        cases fl with
        | true =>
          go_wp2_with fail
          go_meet
          exact ⟨y, rfl, hsz2, _, by omega, hall⟩
        | false =>
          go_wp2_with fail
          go_roundw
          case rel => exact ⟨y, rfl, hsz2, hall⟩
          case measure => simp [strLen]; omega
      · go_wp2_with fail
        go_meet
        exact ⟨s, rfl, hsz, _, by omega, hr⟩
  case rest =>
    obtain ⟨s, rfl, hsz, K, hK, hr⟩ := hcut
    obtain ⟨t1, ht1, ht1', hs1⟩ := hr.strm
    go_wp2_with fail
    refine (flip_any sb t1 _ _ hs1 (by omega) (by decide) (by decide)).mono ?_
    rintro e w2 ⟨⟨fl, rfl⟩, hr2⟩
    obtain ⟨t2, ht2, ht2', hs2⟩ := hr2.strm
    cases fl with
    | true =>
      go_wp2_with fail
      refine (changed_any sb t2 s ⟨#[50]⟩ _ hs2 (by omega) (by omega) (by decide) (by decide)).mono ?_
      rintro e w3 ⟨⟨r, hrs, rfl⟩, hr3⟩
      go_wp2_with fail
      go_ret
      exact ⟨⟨r, by have : (⟨#[50]⟩ : ByteArray).size = 1 := rfl; omega, rfl⟩, (hr.then ht1 ht1' (hr2.then ht2 ht2' hr3)).mono (by omega)⟩
    | false =>
      go_wp2_with fail
      go_ret
      exact ⟨⟨s, by omega, rfl⟩, (hr.then ht1 ht1' hr2).mono (by omega)⟩
end Go.Proofs.YthcakdminnmjoaaGreatDoor
