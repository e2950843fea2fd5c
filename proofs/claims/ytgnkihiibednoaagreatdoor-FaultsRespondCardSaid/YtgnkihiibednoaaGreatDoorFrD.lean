/- What is wrong with a fault: CheckFault and the reference's FaultFault. Made by gens/frd.py. -/
import Derived.Test.YtgnkihiibednoaaGreatDoorFrC
namespace Go.Proofs.YtgnkihiibednoaaGreatDoor
open Go.RowKit

def ordErr (k : Int) (l : List Int) : Int := if riseTo (if k = 5 then l.tail else l) (if k = 5 then l.tail else l).length = false then 7 else if k = 5 ∧ l.getD 0 0 ∈ l.tail then 6 else 0
theorem riseTo_false (l : List Int) (k : Nat) (h : riseTo l k = false) : ∀ M, k ≤ M → riseTo l M = false
  | 0, hM => by
    obtain rfl : k = 0 := by omega
    exact h
  | M + 1, hM => by
    rcases Nat.lt_or_ge M k with h1 | h1
    · obtain rfl : k = M + 1 := by omega
      exact h
    · have h2 := riseTo_false l k h M h1
      cases M with
      | zero => cases h2
      | succ M =>
        show (riseTo l (M + 1) && _) = false
        rw [h2]
        rfl
theorem riseTo_end (l : List Int) (M q : Nat) (hM : M ≤ q + 1) (hq : q + 1 ≤ max M 1) (h : riseTo l (q + 1) = true) : riseTo l M = true := by
  rcases Nat.eq_zero_or_pos M with h0 | h0
  · subst h0; rfl
  · obtain rfl : M = q + 1 := by omega
    exact h
theorem riseTo_down (l : List Int) (M q : Nat) (hM : q + 1 < M) (h : l.getD (q + 1) 0 ≤ l.getD q 0) : riseTo l M = false := by
  refine riseTo_false l (q + 2) ?_ M (by omega)
  show (riseTo l (q + 1) && decide (l.getD q 0 < l.getD (q + 1) 0)) = false
  rw [decide_eq_false (by omega), Bool.and_false]
theorem riseTo_up (l : List Int) (q : Nat) (h : riseTo l (q + 1) = true) (h2 : l.getD q 0 < l.getD (q + 1) 0) : riseTo l (q + 1 + 1) = true := by
  show (riseTo l (q + 1) && decide (l.getD q 0 < l.getD (q + 1) 0)) = true
  rw [h, decide_eq_true h2]
  rfl

set_option maxHeartbeats 4000000 in
set_option maxRecDepth 100000 in
theorem checkOrder_any (k : Int) (l : List Int) (hl1 : 1 ≤ l.length) (hl2 : l.length ≤ 1000) (h5 : k = 5 → 2 ≤ l.length) (w : World) (v : Value) (h : NetsAt w v l) :
    Calls Tryz.prog 52 #[.agg #[.int .i64 k, v]] w fun e w' => e = .returned (.int .i64 (ordErr k l)) ∧ Below w.heap.size w w' := by
  have hN := h
  obtain ⟨a, c, rfl, hcc, hop⟩ := h
  obtain ⟨E, hE⟩ : ∃ E, E = ordErr k l := ⟨_, rfl⟩
  rw [← hE]
  by_cases hk5 : k = 5
  · have n5 : (k == 5) = true := by simp [hk5]
    have hm2 : 2 ≤ l.length := h5 hk5
    obtain ⟨x, l', rfl⟩ : ∃ x l', l = x :: l' := by
      cases l with
      | nil => simp at hm2
      | cons x l' => exact ⟨x, l', rfl⟩
    have hE5 : E = if riseTo l' l'.length = false then 7 else if x ∈ l' then 6 else 0 := by
      rw [hE]
      unfold ordErr
      rw [if_pos hk5]
      simp [hk5]
    obtain ⟨g, o, rfl, hg, hcell⟩ := hop (by simp)
    have hcont := fun (W : World) (hB : Below w.heap.size w W) => contInt_any l' (by simp at hl2; omega) x W _ ((hN.tail g o rfl (c - 1) (by simp at hcc; omega)).later hB)
    have hx := hcell 0 (by simp)
    change _ = some (Value.int .i64 x) at hx
    rw [Nat.add_zero] at hx
    have hce : ∀ j, j < l'.length → w.cell? ⟨g, o + 1 + j, none⟩ = some (.int .i64 (l'.getD j 0)) := fun j hj => by
      have := hcell (j + 1) (by simp; omega)
      rw [Nat.add_assoc, Nat.add_comm 1 j]
      exact this
    have hlen : (x :: l').length = l'.length + 1 := rfl
    rw [hlen] at hcc hm2 hl2 ⊢
    have hne1 : ¬ c = 1 := by omega
    obtain ⟨M, hM⟩ : ∃ M, M = l'.length := ⟨_, rfl⟩
    rw [← hM] at hcont hce hcc hm2 hl2 hE5 ⊢
    have HH := Lib.hid (⟨hcont, hce⟩ : _ ∧ _)
    have HE := Lib.hid hE5
    clear hcont hce hcell hop hN hM hk5 hlen hE hE5 h5
    have e1 : ((M + 1 : Nat) : Int) - 1 = (M : Int) := by omega
    go_enter Tryz.func52, Tryz.ntmps52
    go_wp2_with fail
    go_loopw [4] (fun i wr => ∃ q : Nat, q + 1 ≤ max M 1 ∧ i = .int .i64 ((q : Int) + 1) ∧ riseTo l' (q + 1) = true ∧ Below w.heap.size w wr ∧ wr.cell? ⟨w.heap.size, 0, none⟩ = some (.int .i64 k) ∧ wr.cell? ⟨w.heap.size, 1, none⟩ = some (.slice (some ⟨g, o, none⟩) (M + 1) c)) (fun i _ => M - (intOf i).toNat)
    case atStart => exact ⟨0, by omega, by rfl, rfl, ((Below.refl _ _).alloc (Nat.le_refl _) _), by simp, by simp⟩
    case round =>
      obtain ⟨q, hq, rfl, hE, hB, b0, b1⟩ := hrel
      by_cases hlt : q + 1 < M
      · have cA := (hB.cell (p := ⟨g, o + 1 + q, none⟩) hg).trans (HH.out.2 q (by omega))
        have cB := (hB.cell (p := ⟨g, o + 1 + (q + 1), none⟩) hg).trans (HH.out.2 (q + 1) hlt)
        have hdn := riseTo_down l' M q hlt
        have hup := riseTo_up l' q hE
        obtain ⟨y0, hy0⟩ : ∃ y, y = l'.getD q 0 := ⟨_, rfl⟩
        obtain ⟨y1, hy1⟩ : ∃ y, y = l'.getD (q + 1) 0 := ⟨_, rfl⟩
        rw [← hy0] at cA hdn hup
        rw [← hy1] at cB hdn hup
        have q0 : (0 : Int) ≤ (q : Int) := by omega
        have q1 : (q : Int) < (M : Int) := by omega
        have q2 : (q : Int) + 1 < (M : Int) := by omega
        have q3 : (0 : Int) ≤ (q : Int) + 1 := by omega
        have hw1 : IntKind.i64.wrap ((q : Int)) = (q : Int) := IntWalk.i64_in _ (by omega)
        have ht1 : ((q : Int) + 1).toNat = q + 1 := by omega
        have HB := Lib.hid (⟨hB, b0, b1⟩ : _ ∧ _ ∧ _)
        by_cases hle : y1 ≤ y0
        · have dd : decide (y1 ≤ y0) = true := decide_eq_true hle
          have hE7 := (HE.out).trans (if_pos (hdn hle))
          have H7 := Lib.hid hE7
          clear hB hy0 hy1 b0 b1 hdn hup hE hle hE7
          go_wp2_with fail
          go_quiet (fail)
          clear hw1 ht1
          go_wp2_with fail
          go_ret
          exact ⟨by rw [H7.out]; rfl, HB.out.1.trans ((drewN_below _ _).mono HB.out.1.size)⟩
        · have dd : decide (y1 ≤ y0) = false := decide_eq_false hle
          have HU := Lib.hid (hup (by omega))
          clear hB hy0 hy1 b0 b1 hdn hup hE hle
          go_wp2_with fail
          go_quiet (fail)
          clear hw1 ht1
          go_wp2_with fail
          go_roundw
          case rel => exact ⟨q + 1, by omega, by go_num, HU.out, HB.out.1.trans ((drewN_below _ _).mono HB.out.1.size), HB.out.2⟩
          case measure => simp [intOf]; omega
      · have hri := riseTo_end l' M q (by omega) hq hE
        have hE6 := (HE.out).trans (if_neg (by rw [hri]; decide))
        have HB := Lib.hid hB
        have q2 : ¬ (q : Int) + 1 < (M : Int) := by omega
        have hx' := (hB.cell (p := ⟨g, o, none⟩) hg).trans hx
        have hq2 := HH.out.1 wr hB
        clear hB hri hE
        by_cases hm : x ∈ l'
        · rw [decide_eq_true hm] at hq2
          rw [if_pos hm] at hE6
          have H6 := Lib.hid hE6
          clear hE6 hm
          go_wp2_with fail
          refine hq2.mono ?_
          rintro e w' ⟨rfl, hB2⟩
          have HB2 := Lib.hid (HB.out.trans (hB2.mono HB.out.size))
          clear hq2 hB2
          go_wp2_with fail
          go_ret
          exact ⟨by rw [H6.out]; rfl, HB2.out⟩
        · rw [decide_eq_false hm] at hq2
          rw [if_neg hm] at hE6
          have H6 := Lib.hid hE6
          clear hE6 hm
          go_wp2_with fail
          refine hq2.mono ?_
          rintro e w' ⟨rfl, hB2⟩
          have HB2 := Lib.hid (HB.out.trans (hB2.mono HB.out.size))
          clear hq2 hB2
          go_wp2_with fail
          go_ret
          exact ⟨by rw [H6.out]; rfl, HB2.out⟩
  · have n5 : (k == 5) = false := by simpa using hk5
    have hE5 : E = if riseTo l l.length = false then 7 else 0 := by
      rw [hE]
      unfold ordErr
      rw [if_neg hk5]
      simp [hk5]
    obtain ⟨g, o, rfl, hg, hcell⟩ := hop (by omega)
    obtain ⟨M, hM⟩ : ∃ M, M = l.length := ⟨_, rfl⟩
    rw [← hM] at hcell hcc hl1 hl2 hE5 ⊢
    have HH := Lib.hid hcell
    have HE := Lib.hid hE5
    clear hcell hop hN hM hk5 hE hE5 h5
    go_enter Tryz.func52, Tryz.ntmps52
    go_wp2_with fail
    go_loopw [4] (fun i wr => ∃ q : Nat, q + 1 ≤ max M 1 ∧ i = .int .i64 ((q : Int) + 1) ∧ riseTo l (q + 1) = true ∧ Below w.heap.size w wr ∧ wr.cell? ⟨w.heap.size, 0, none⟩ = some (.int .i64 k) ∧ wr.cell? ⟨w.heap.size, 1, none⟩ = some (.slice (some ⟨g, o, none⟩) M c)) (fun i _ => M - (intOf i).toNat)
    case atStart => exact ⟨0, by omega, by rfl, rfl, ((Below.refl _ _).alloc (Nat.le_refl _) _), by simp, by simp⟩
    case round =>
      obtain ⟨q, hq, rfl, hE, hB, b0, b1⟩ := hrel
      by_cases hlt : q + 1 < M
      · have cA := (hB.cell (p := ⟨g, o + q, none⟩) hg).trans (HH.out q (by omega))
        have cB := (hB.cell (p := ⟨g, o + (q + 1), none⟩) hg).trans (HH.out (q + 1) hlt)
        have hdn := riseTo_down l M q hlt
        have hup := riseTo_up l q hE
        obtain ⟨y0, hy0⟩ : ∃ y, y = l.getD q 0 := ⟨_, rfl⟩
        obtain ⟨y1, hy1⟩ : ∃ y, y = l.getD (q + 1) 0 := ⟨_, rfl⟩
        rw [← hy0] at cA hdn hup
        rw [← hy1] at cB hdn hup
        have q0 : (0 : Int) ≤ (q : Int) := by omega
        have q1 : (q : Int) < (M : Int) := by omega
        have q2 : (q : Int) + 1 < (M : Int) := by omega
        have q3 : (0 : Int) ≤ (q : Int) + 1 := by omega
        have hw1 : IntKind.i64.wrap ((q : Int)) = (q : Int) := IntWalk.i64_in _ (by omega)
        have ht1 : ((q : Int) + 1).toNat = q + 1 := by omega
        have HB := Lib.hid (⟨hB, b0, b1⟩ : _ ∧ _ ∧ _)
        by_cases hle : y1 ≤ y0
        · have dd : decide (y1 ≤ y0) = true := decide_eq_true hle
          have hE7 := (HE.out).trans (if_pos (hdn hle))
          have H7 := Lib.hid hE7
          clear hB hy0 hy1 b0 b1 hdn hup hE hle hE7
          go_wp2_with fail
          go_quiet (fail)
          clear hw1 ht1
          go_wp2_with fail
          go_ret
          exact ⟨by rw [H7.out]; rfl, HB.out.1.trans ((drewN_below _ _).mono HB.out.1.size)⟩
        · have dd : decide (y1 ≤ y0) = false := decide_eq_false hle
          have HU := Lib.hid (hup (by omega))
          clear hB hy0 hy1 b0 b1 hdn hup hE hle
          go_wp2_with fail
          go_quiet (fail)
          clear hw1 ht1
          go_wp2_with fail
          go_roundw
          case rel => exact ⟨q + 1, by omega, by go_num, HU.out, HB.out.1.trans ((drewN_below _ _).mono HB.out.1.size), HB.out.2⟩
          case measure => simp [intOf]; omega
      · have hri := riseTo_end l M q (by omega) hq hE
        have hE6 := (HE.out).trans (if_neg (by rw [hri]; decide))
        have H6 := Lib.hid hE6
        have HB := Lib.hid hB
        have q2 : ¬ (q : Int) + 1 < (M : Int) := by omega
        clear hB hri hE hE6
        go_wp2_with fail
        go_ret
        exact ⟨by rw [H6.out]; rfl, HB.out⟩
end Go.Proofs.YtgnkihiibednoaaGreatDoor
