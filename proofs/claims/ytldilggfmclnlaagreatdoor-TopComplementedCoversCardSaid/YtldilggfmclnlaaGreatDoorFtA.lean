/- Small functions of packages sets, fault and ratio. -/
import Derived.Test.YtldilggfmclnlaaGreatDoorFtM
import Derived.Test.YtldilggfmclnlaaGreatDoorPvSeq
import Derived.Lib.OthersKept
import Derived.Laws.BitsAllLaws
import Derived.Lib.Hide
namespace Go.Proofs.YtldilggfmclnlaaGreatDoor
open Go.RowKit

theorem fcheckNets_any (n : Int) (w : World) : Calls Tryz.prog 21 #[.int .i64 n] w fun e w' => e = .returned (.int .i64 (if n < 1 ∨ 100 < n then 1 else 0)) ∧ w = w' := by
  by_cases h1 : n < 1
  · rw [if_pos (.inl h1)]
    go_enter Tryz.func21, Tryz.ntmps21
    go_wp2
    go_ret
    exact ⟨rfl, rfl⟩
  · by_cases h2 : 100 < n
    · rw [if_pos (.inr h2)]
      go_enter Tryz.func21, Tryz.ntmps21
      go_wp2
      go_ret
      exact ⟨rfl, rfl⟩
    · rw [if_neg (by omega)]
      have h3 : 1 ≤ n := by omega
      have h4 : n ≤ 100 := by omega
      clear h1 h2
      go_enter Tryz.func21, Tryz.ntmps21
      go_wp2
      go_ret
      exact ⟨rfl, rfl⟩
theorem fisKind_any (k : Int) (w : World) : Calls Tryz.prog 44 #[.int .i64 k] w fun e w' => e = .returned (.bool (decide (1 ≤ k ∧ k ≤ 6))) ∧ w = w' := by
  by_cases h1 : 1 ≤ k
  · by_cases h2 : k ≤ 6
    · rw [decide_eq_true ⟨h1, h2⟩]
      go_enter Tryz.func44, Tryz.ntmps44
      go_wp2
      go_ret
      exact ⟨rfl, rfl⟩
    · rw [decide_eq_false (by omega)]
      have h3 : 6 < k := by omega
      have h4 : decide (k ≤ 6) = false := decide_eq_false h2
      clear h2
      go_enter Tryz.func44, Tryz.ntmps44
      go_wp2
      go_ret
      exact ⟨rfl, rfl⟩
  · rw [decide_eq_false (by omega)]
    have h3 : k < 1 := by omega
    clear h1
    go_enter Tryz.func44, Tryz.ntmps44
    go_wp2
    go_ret
    exact ⟨rfl, rfl⟩
theorem isShort_any (k : Int) (w : World) : Calls Tryz.prog 46 #[.int .i64 k] w fun e w' => e = .returned (.bool (shortK k)) ∧ w = w' := by
  by_cases h3 : k = 3
  · subst h3
    go_enter Tryz.func46, Tryz.ntmps46
    go_wp2
    go_ret
    exact ⟨rfl, rfl⟩
  · by_cases h4 : k = 4
    · subst h4
      go_enter Tryz.func46, Tryz.ntmps46
      go_wp2
      go_ret
      exact ⟨rfl, rfl⟩
    · by_cases h5 : k = 5
      · subst h5
        go_enter Tryz.func46, Tryz.ntmps46
        go_wp2
        go_ret
        exact ⟨rfl, rfl⟩
      · have e : shortK k = false := by simp [shortK, h3, h4, h5]
        rw [e]
        have n3 : (k == 3) = false := by simpa using h3
        have n4 : (k == 4) = false := by simpa using h4
        have n5 : (k == 5) = false := by simpa using h5
        clear h3 h4 h5 e
        go_enter Tryz.func46, Tryz.ntmps46
        go_wp2
        go_ret
        exact ⟨rfl, rfl⟩

theorem only_wrap : ∀ k : Nat, k < 64 → IntKind.u64.wrap ((2 : Int) ^ (63 - k)) = ((2 ^ (63 - k) : Nat) : Int) := by decide +kernel
theorem before_wrap : ∀ k : Nat, k < 65 → IntKind.u64.wrap (18446744073709551615 * (2 : Int) ^ (64 - k)) = (beforeN k : Int) := by decide +kernel
theorem setsOnly_any (k : Nat) (hk : k < 64) (w : World) : Calls Tryz.prog 71 #[.int .i64 (k : Int)] w fun e w' => e = .returned (.int .u64 ((2 ^ (63 - k) : Nat) : Int)) ∧ w = w' := by
  have h := Lib.hid (only_wrap k hk)
  go_enter Tryz.func71, Tryz.ntmps71
  go_wp2
  go_ret
  exact ⟨congrArg (fun x => Ending.returned (.int .u64 x)) h.out, rfl⟩
theorem setsBefore_any (k : Nat) (hk : k ≤ 64) (w : World) : Calls Tryz.prog 27 #[.int .i64 (k : Int)] w fun e w' => e = .returned (.int .u64 (beforeN k : Int)) ∧ w = w' := by
  have h := Lib.hid (before_wrap k (by omega))
  go_enter Tryz.func27, Tryz.ntmps27
  go_wp2
  go_ret
  exact ⟨congrArg (fun x => Ending.returned (.int .u64 x)) h.out, rfl⟩

set_option maxHeartbeats 2000000 in
theorem setsOf_any (s : List UInt8) (hl : s.length ≤ 64) (hb : s.all bitB = true) (w : World) :
    Calls Tryz.prog 61 #[.string ⟨s.toArray⟩] w fun e w' => e = .returned (.int .u64 (setL s : Int)) ∧ Below w.heap.size w w' := by
  obtain ⟨S, hS⟩ : ∃ S : ByteArray, S = ⟨s.toArray⟩ := ⟨_, rfl⟩
  have hsz : S.size = s.length := by rw [hS]; show s.toArray.size = _; simp
  have hat : ∀ k (h : k < S.size), S[k]'h = s.getD k 0 := fun k h => by
    subst hS
    have h2 : k < s.length := by omega
    rw [List.getD_eq_getElem?_getD, List.getElem?_eq_getElem h2]
    rfl
  have hbit : ∀ k, k < s.length → s.getD k 0 = 48 ∨ s.getD k 0 = 49 := fun k h => by
    have e : s.getD k 0 = s[k] := by simp [h]
    have h2 := List.all_eq_true.1 hb s[k] (List.getElem_mem h)
    rw [e]
    simpa [bitB] using h2
  rw [← hS]
  have HS := Lib.hid (⟨hS, hat, hbit⟩ : _ ∧ _ ∧ _)
  have HZ := Lib.hid hsz
  clear hS hat hbit hsz hb
  go_enter Tryz.func61, Tryz.ntmps61
  go_wp2_with fail
  go_loopw [3] (fun x wr => ∃ k : Nat, k ≤ s.length ∧ x = .int .u64 (setTo s k : Int) ∧ wr.heap[w.heap.size]? = some (.stringIter S k) ∧ Below w.heap.size w wr) (fun _ wr => s.length - wr.iterPos w.heap.size)
  case atStart =>
    refine ⟨0, Nat.zero_le _, rfl, ?_, (Below.refl _ _).alloc (Nat.le_refl _) _⟩
    have := World.iter_heap w S 0
    simpa using this
  case round =>
    obtain ⟨k, hk, rfl, hit, hB⟩ := hrel
    by_cases hlt : k < s.length
    · have hp : k < S.size := by rw [HZ.out]; exact hlt
      have hc := HS.out.2.2 k hlt
      have hck := HS.out.2.1 k hp
      have hasc : (S[k]'hp).toNat < 128 := by rw [hck]; rcases hc with h | h <;> rw [h] <;> decide
      have hnx : ∀ ty, (Instr.next (.pointer (some ⟨w.heap.size, 0, none⟩)) true ty).run Tryz.prog wr = _ := fun ty => Lib.run_next_ascii_at wr w.heap.size S k ty hit hp hasc
      have hit2 := Lib.iterAt_heap wr w.heap.size S k (k + 1) hit
      have hB2 := Lib.below_iterAt hB (k := w.heap.size) (Nat.le_refl _) S (k + 1)
      have HI := Lib.hid (⟨hit, hit2, hB2⟩ : _ ∧ _ ∧ _)
      have hon := fun W => setsOnly_any k (by omega) W
      have hsl := setTo_lt s k
      have hpl := pow_lt64 k
      have hstep : setTo s (k + 1) = if s.getD k 0 = 49 then setTo s k ||| 2 ^ (63 - k) else setTo s k := rfl
      generalize 2 ^ (63 - k) = pv at hon hpl hstep
      have HST := Lib.hid hstep
      rw [hck] at hnx
      clear hit hit2 hB2 hstep hck hasc
      rcases hc with hc | hc
      · rw [hc] at hnx
        have HCC := Lib.hid hc
        clear hc
        go_wp2_with fail
        go_roundw
        case rel => exact ⟨k + 1, by omega, by rw [HST.out, HCC.out, if_neg (by decide)], HI.out.2⟩
        case measure => simp only [World.iterPos, HI.out.2.1, HI.out.1]; omega
      · rw [hc] at hnx
        have HCC := Lib.hid hc
        have hor := u64_or_nat (setTo s k) pv hsl hpl
        clear hc
        go_wp2_with fail
        refine (hon _).mono ?_
        rintro e w' ⟨rfl, rfl⟩
        go_wp2_with fail
        go_roundw
        case rel => exact ⟨k + 1, by omega, by rw [HST.out, HCC.out, if_pos rfl], HI.out.2⟩
        case measure => simp only [World.iterPos, HI.out.2.1, HI.out.1]; omega
    · obtain rfl : k = s.length := by omega
      have hnx : ∀ ty, (Instr.next (.pointer (some ⟨w.heap.size, 0, none⟩)) true ty).run Tryz.prog wr = _ := fun ty => Lib.run_next_end_at wr w.heap.size S s.length ty hit (by rw [HZ.out]; omega)
      have HB := Lib.hid hB
      clear hB hit
      go_wp2_with fail
      go_ret
      exact ⟨rfl, HB.out⟩
end Go.Proofs.YtldilggfmclnlaaGreatDoor
