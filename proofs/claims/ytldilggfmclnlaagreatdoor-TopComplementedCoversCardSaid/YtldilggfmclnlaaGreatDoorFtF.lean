/- Package fault: what all nets of a fault have: common. -/
import Derived.Test.YtldilggfmclnlaaGreatDoorFtE
namespace Go.Proofs.YtldilggfmclnlaaGreatDoor
open Go.RowKit

theorem comTo_succ (long : Nat) (on : List Nat) (f : Flt) (k : Nat) : comTo long on f (k + 1) = if f.1 = 1 then 0
    else if f.1 = 2 ∨ f.1 = 6 then beforeN long
    else if f.1 = 3 then comTo long on f k &&& on.getD (f.2.getD k 0).toNat 0
    else if f.1 = 4 then comTo long on f k ||| on.getD (f.2.getD k 0).toNat 0
    else comTo long on f k := rfl

set_option maxHeartbeats 8000000 in
set_option maxRecDepth 100000 in
theorem common_ok (n m : Nat) (hm : m ≤ 64) (on : List Nat) (hol : on.length = n) (ho : On64 on) (f : Flt) (hf : FltRight n f) (w : World) (sv fv : Value) (hs : SetsAt w sv on) (h : NetsAt w fv f.2) :
    Calls Tryz.prog 72 #[.agg #[.int .i64 (m : Int), sv], .agg #[.int .i64 f.1, fv]] w fun e w' => e = .returned (.int .u64 (comL m on f : Int)) ∧ Below w.heap.size w w' := by
  have hl1 := hf.l1
  have hl2 := hf.l2
  have hn1 := hf.n1
  have hn2 := hf.n2
  obtain ⟨sa, sc, rfl, hop⟩ := hs
  obtain ⟨fa, fc, rfl, -, hfop⟩ := h
  rw [hol] at hop ⊢
  obtain ⟨gs, rfl, hgs, hsc⟩ := hop (by omega)
  obtain ⟨g, o, rfl, hg, hfc⟩ := hfop (by omega)
  have hq : ∀ k, k < f.2.length → ∃ q : Nat, q < n ∧ f.2.getD k 0 = (q : Int) ∧ (f.2.getD k 0).toNat = q := fun k hk => by
    have h1 := hf.low k hk
    have h2 := hf.high k hk
    exact ⟨(f.2.getD k 0).toNat, by omega, by omega, rfl⟩
  have hk1 := hf.k1
  have hk2 := hf.k2
  obtain ⟨kd, hkd⟩ : ∃ x, x = f.1 := ⟨_, rfl⟩
  obtain ⟨M, hM⟩ : ∃ x, x = f.2.length := ⟨_, rfl⟩
  have hcl : comL m on f = comTo m on f M := by rw [hM]; rfl
  rw [hcl, ← hkd, ← hM]
  rw [← hkd] at hk1 hk2
  rw [← hM] at hl1 hl2 hfc hq
  have hsu := comTo_succ m on f
  have hlt := fun k => comTo_lt (long := m) (f := f) ho k
  have hlo := fun q => ho q
  have h0 : comTo m on f 0 = on.getD (f.2.getD 0 0).toNat 0 := rfl
  rw [← hkd] at hsu
  have HH := Lib.hid (⟨hsc, hfc, hq, hsu, hlt, hlo, h0⟩ : _ ∧ _ ∧ _ ∧ _ ∧ _ ∧ _ ∧ _)
  obtain ⟨q0, hq0, e0, e0'⟩ := hq 0 (by omega)
  have cf0 := hfc 0 (by omega)
  have cs0 := hsc q0 (by omega)
  rw [e0] at cf0
  rw [Nat.add_zero] at cf0
  rw [e0'] at h0
  obtain ⟨v0, hv0⟩ : ∃ x, x = on.getD q0 0 := ⟨_, rfl⟩
  rw [← hv0] at cs0 h0
  have H0 := Lib.hid h0
  have hBw : Below w.heap.size w ((w.alloc (.cells #[.int .i64 (m : Int), .slice (some ⟨gs, 0, none⟩) n sc] 96)).alloc (.cells #[.int .i64 kd, .slice (some ⟨g, o, none⟩) M fc] 92)) := ((Below.refl _ _).alloc (Nat.le_refl _) _).alloc (by simp) _
  have HBW := Lib.hid hBw
  have i0 : (0 : Int) ≤ (q0 : Int) := by omega
  have i1 : (q0 : Int) < (n : Int) := by omega
  have i2 : (0 : Int) < (M : Int) := by omega
  clear hsc hfc hq hsu hlt hlo h0 hBw hcl hkd hM hv0 e0 e0' hf ho hop hfop hol
  go_enter Tryz.func72, Tryz.ntmps72
  go_wp2_with fail
  go_quiet (fail)
  go_wp2_with fail
  go_loopw [5, 19] (fun x i wr => ∃ (k : Nat), k ≤ M ∧ x = .int .u64 (comTo m on f k : Int) ∧ i = .int .i64 (k : Int) ∧ Below w.heap.size w wr ∧ wr.cell? ⟨w.heap.size, 0, none⟩ = some (.int .i64 (m : Int)) ∧ wr.cell? ⟨w.heap.size, 1, none⟩ = some (.slice (some ⟨gs, 0, none⟩) n sc) ∧ wr.cell? ⟨w.heap.size + 1, 0, none⟩ = some (.int .i64 kd) ∧ wr.cell? ⟨w.heap.size + 1, 1, none⟩ = some (.slice (some ⟨g, o, none⟩) M fc)) (fun _ i _ => M - (intOf i).toNat)
  case atStart => exact ⟨0, by omega, by rw [H0.out], by rfl, HBW.out.trans ((drewN_below _ _).mono HBW.out.size), by simp, by simp, by simp, by simp⟩
  case round =>
    obtain ⟨k, hk, rfl, rfl, hB, b0, b1, b2, b3⟩ := hrel
    have HB := Lib.hid (⟨hB, b0, b1, b2, b3⟩ : _ ∧ _ ∧ _ ∧ _ ∧ _)
    by_cases hlt : k < M
    · obtain ⟨q, hq, hqe, hqq⟩ := HH.out.2.2.1 k hlt
      have cf := (hB.cell (p := ⟨g, o + k, none⟩) hg).trans (HH.out.2.1 k hlt)
      have cs := (hB.cell (p := ⟨gs, q, none⟩) hgs).trans (HH.out.1 q hq)
      rw [hqe] at cf
      have hp := HH.out.2.2.2.2.1 k
      have hx := HH.out.2.2.2.2.2.1 q
      obtain ⟨pv, hpv⟩ : ∃ x, x = comTo m on f k := ⟨_, rfl⟩
      obtain ⟨xv, hxv⟩ : ∃ x, x = on.getD q 0 := ⟨_, rfl⟩
      rw [← hxv] at cs hx
      rw [← hpv] at hp ⊢
      have k0 : (0 : Int) ≤ (k : Int) := by omega
      have k1 : (k : Int) < (M : Int) := by omega
      have j0 : (0 : Int) ≤ (q : Int) := by omega
      have j1 : (q : Int) < (n : Int) := by omega
      have h6 : kd = 1 ∨ kd = 2 ∨ kd = 3 ∨ kd = 4 ∨ kd = 5 ∨ kd = 6 := by omega
      have hcs := HH.out.2.2.2.1 k
      rw [hqq, ← hpv, ← hxv] at hcs
      have HCS := Lib.hid hcs
      clear hB hqe hpv hxv hcs hqq
      rcases h6 with rfl | rfl | rfl | rfl | rfl | rfl
      · have hst : comTo m on f (k + 1) = 0 := HCS.out.trans (by simp)
        have HST := Lib.hid hst
        clear hst
        go_wp2_with fail
        go_roundw
        case rel => exact ⟨k + 1, by omega, by rw [HST.out]; rfl, by go_num, HB.out⟩
        case measure => simp [intOf]; omega
      · have hst : comTo m on f (k + 1) = beforeN m := HCS.out.trans (by simp)
        have HST := Lib.hid hst
        clear hst
        have hbe := fun W => setsBefore_any m hm W
        go_wp2_with fail
        refine (hbe _).mono ?_
        rintro e w' ⟨rfl, rfl⟩
        clear hbe
        go_wp2_with fail
        go_roundw
        case rel => exact ⟨k + 1, by omega, by rw [HST.out], by go_num, HB.out⟩
        case measure => simp [intOf]; omega
      · have hst : comTo m on f (k + 1) = pv &&& xv := HCS.out.trans (by simp)
        have HST := Lib.hid hst
        clear hst
        have hand := u64_and_nat pv xv hp hx
        go_wp2_with fail
        go_roundw
        case rel => exact ⟨k + 1, by omega, by rw [HST.out], by go_num, HB.out⟩
        case measure => simp [intOf]; omega
      · have hst : comTo m on f (k + 1) = pv ||| xv := HCS.out.trans (by simp)
        have HST := Lib.hid hst
        clear hst
        have hor := u64_or_nat pv xv hp hx
        go_wp2_with fail
        go_roundw
        case rel => exact ⟨k + 1, by omega, by rw [HST.out], by go_num, HB.out⟩
        case measure => simp [intOf]; omega
      · have hst : comTo m on f (k + 1) = pv := HCS.out.trans (by simp)
        have HST := Lib.hid hst
        clear hst
        go_wp2_with fail
        go_roundw
        case rel => exact ⟨k + 1, by omega, by rw [HST.out], by go_num, HB.out⟩
        case measure => simp [intOf]; omega
      · have hst : comTo m on f (k + 1) = beforeN m := HCS.out.trans (by simp)
        have HST := Lib.hid hst
        clear hst
        have hbe := fun W => setsBefore_any m hm W
        go_wp2_with fail
        refine (hbe _).mono ?_
        rintro e w' ⟨rfl, rfl⟩
        clear hbe
        go_wp2_with fail
        go_roundw
        case rel => exact ⟨k + 1, by omega, by rw [HST.out], by go_num, HB.out⟩
        case measure => simp [intOf]; omega
    · obtain rfl : k = M := by omega
      clear hB
      go_wp2_with fail
      go_ret
      exact ⟨rfl, HB.out.1⟩
end Go.Proofs.YtldilggfmclnlaaGreatDoor
