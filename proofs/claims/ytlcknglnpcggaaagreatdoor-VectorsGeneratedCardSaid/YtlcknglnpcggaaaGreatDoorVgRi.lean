/- The reference's inverted. -/
import Derived.Test.YtlcknglnpcggaaaGreatDoorVgDg
namespace Go.Proofs.YtlcknglnpcggaaaGreatDoor
open Go.RowKit

theorem rinverted1_any (x : Nat) (hx : x ≤ 1114111) (W : World) : Calls Tryz.prog 59 #[.int .i32 (x : Int)] W fun e w' => e = .returned (.int .i32 (invR (x : Int))) ∧ Below W.heap.size W w' := by
  have hw : IntKind.i32.wrap (97 - (x : Int)) = 97 - (x : Int) := IntWalk.i32_in _ (by omega)
  go_enter Tryz.func59, Tryz.ntmps59
  go_wp2_with fail
  go_ret
  exact ⟨rfl, Below.refl _ _⟩
theorem rmap_any (n long : Nat) (hl : long < 8) (hn : n < 128) (w : World) (hU : U8T w) : Calls Tryz.prog 29 #[.func (.func 59) #[] #[], .string ⟨(digL n long).toArray⟩] w fun e w' => e = .returned (strV (invL n long)) ∧ Below w.heap.size w w' := by
  have h := Tryz.strings_Map_grows 59 #[] (enters_of Tryz.func59 (by kernel_rfl) rfl) invR ⟨(digL n long).toArray⟩ w (by
    show (digL n long).toArray.size < _
    rw [List.size_toArray, digL_len]
    omega) (fun W x hx _ => rinverted1_any x hx W) (fun x hx => by unfold invR; omega) hU
  have e : (⟨(digL n long).toArray⟩ : ByteArray).data.toList = digL n long := by simp
  rw [e, map_inv long hl n hn] at h
  exact h
theorem rinverted_any (n long : Nat) (hl : long < 8) (hn : n < 128) (w : World) (hU : U8T w) : Calls Tryz.prog 36 #[strV (digL n long)] w fun e w' => e = .returned (strV (invL n long)) ∧ Below w.heap.size w w' := by
  have h := rmap_any n long hl hn w hU
  unfold strV at h ⊢
  obtain ⟨r, hr⟩ : ∃ r, r = (⟨(digL n long).toArray⟩ : ByteArray) := ⟨_, rfl⟩
  obtain ⟨s, hs⟩ : ∃ s, s = (⟨(invL n long).toArray⟩ : ByteArray) := ⟨_, rfl⟩
  rw [← hr, ← hs] at h
  rw [← hr, ← hs]
  clear hr hs
  go_enter Tryz.func36, Tryz.ntmps36
  go_wp2_with fail
  refine h.mono ?_
  rintro e w' ⟨rfl, hB⟩
  go_wp2_with fail
  go_ret
  exact ⟨rfl, hB⟩
end Go.Proofs.YtlcknglnpcggaaaGreatDoor
