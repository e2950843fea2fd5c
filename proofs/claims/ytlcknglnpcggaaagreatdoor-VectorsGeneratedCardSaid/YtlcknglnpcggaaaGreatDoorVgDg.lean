/- The reference's digits. -/
import Derived.Test.YtlcknglnpcggaaaGreatDoorVgFmt
import Derived.Test.YtlcknglnpcggaaaGreatDoorVgRf
import Derived.Test.YtlcknglnpcggaaaGreatDoorVgWlk
namespace Go.Proofs.YtlcknglnpcggaaaGreatDoor
open Go.RowKit

theorem bin_dig : ∀ k, k < 10 → ∀ n, n < 2 ^ k → 1 ≤ k → (binF 10 n).length ≤ k ∧ List.replicate (k - (binF 10 n).length) 48 ++ binF 10 n = digL n k := by decide +kernel
theorem digitsOf_any (n k : Nat) (hk : k ≤ 9) (hn : n < 2 ^ k) (w : World) (h : Tz w) : Calls Tryz.prog 35 #[.int .i64 (n : Int), .int .i64 (k : Int)] w fun e w' => e = .returned (strV (digL n k)) ∧ Below w.heap.size w w' := by
  by_cases h0 : k = 0
  · subst h0
    go_enter Tryz.func35, Tryz.ntmps35
    go_wp2_with fail
    go_ret
    exact ⟨rfl, Below.refl _ _⟩
  · have hn2 : n < 1024 := Nat.lt_of_lt_of_le hn (Nat.pow_le_pow_right (n := 2) (by decide) (by omega : k ≤ 10))
    obtain ⟨b1, b2⟩ := bin_dig k (by omega) n hn (by omega)
    have hf := formatInt_any n hn2 w h
    obtain ⟨s, hs⟩ : ∃ s, s = (⟨(binF 10 n).toArray⟩ : ByteArray) := ⟨_, rfl⟩
    have hsz : s.size = (binF 10 n).length := by rw [hs]; show (binF 10 n).toArray.size = _; simp
    have hr := fun W => repeat_one 48 (k - s.size) (by omega) W
    obtain ⟨r, hr2⟩ : ∃ r, r = (⟨(List.replicate (k - s.size) (48 : UInt8)).toArray⟩ : ByteArray) := ⟨_, rfl⟩
    have hrz : r.size = k - s.size := by rw [hr2]; show (List.replicate (k - s.size) (48 : UInt8)).toArray.size = _; simp
    have hres : strV (digL n k) = .string (r ++ s) := by
      rw [hr2, hs, strs_append, ← b2]
      have : (⟨(binF 10 n).toArray⟩ : ByteArray).size = (binF 10 n).length := by rw [← hs]; exact hsz
      rw [this]
    rw [← hs] at hf
    rw [← hr2] at hr
    rw [hres]
    have hz : IntKind.i64.wrap ((k : Int) - (s.size : Int)) = ((k - s.size : Nat) : Int) := by
      rw [IntWalk.i64_in _ (by omega)]
      omega
    have hk0 : ((k : Int) == 0) = false := by simpa using h0
    have hk1 : ¬ k = 0 := h0
    have hc1 : ¬ 9223372036854775807 < r.size + s.size := by omega
    clear hres hr2 hs b1 b2 hsz hrz h0
    go_enter Tryz.func35, Tryz.ntmps35
    go_wp2_with fail
    refine hf.mono ?_
    rintro e w' ⟨rfl, hB⟩
    go_wp2_with fail
    refine (hr w').mono ?_
    rintro e w2 ⟨rfl, hB2⟩
    go_wp2_with fail
    go_ret
    exact ⟨rfl, hB.trans (hB2.mono hB.size)⟩
end Go.Proofs.YtlcknglnpcggaaaGreatDoor
