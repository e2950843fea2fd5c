/- What is wrong with a fault: CheckFault and the reference's FaultFault, at any arguments. Made by gens/fre.py. -/
import Derived.Test.YtgnkihiibednoaaGreatDoorFrD
namespace Go.Proofs.YtgnkihiibednoaaGreatDoor
open Go.RowKit

theorem fltErr_at (nets k : Int) (l : List Int) : fltErr nets (k, l) =
    if nets < 1 ∨ 100 < nets then 1
    else if k < 1 ∨ 6 < k then 4
    else if l.length = 0 then 8
    else if 6 < l.length then 2
    else if l.any (fun x => decide (x < 0) || decide (nets ≤ x)) = true then 1
    else if shortK k ≠ decide (1 < l.length) then 3
    else ordErr k l := rfl
theorem inB_nets (n : Int) (h : n < 1 ∨ 100 < n) : inB n 1 100 = false := by simp [inB]; omega
theorem inB_nets2 (n : Int) (h : ¬ (n < 1 ∨ 100 < n)) : inB n 1 100 = true := by simp [inB]; omega
theorem inB_kind (n : Int) (h : n < 1 ∨ 6 < n) : inB n 1 6 = false := by simp [inB]; omega
theorem inB_kind2 (n : Int) (h : ¬ (n < 1 ∨ 6 < n)) : inB n 1 6 = true := by simp [inB]; omega

set_option maxHeartbeats 8000000 in
set_option maxRecDepth 100000 in
theorem checkFault_any (nets k : Int) (l : List Int) (hz : l.length ≤ 1000) (w : World) (v : Value) (h : NetsAt w v l) :
    Calls Tryz.prog 19 #[.int .i64 nets, .agg #[.int .i64 k, v]] w fun e w' => e = .returned (.int .i64 (fltErr nets (k, l))) ∧ Below w.heap.size w w' := by
  have hN := h
  obtain ⟨a, c, rfl, hcc, hop⟩ := h
  obtain ⟨E, hE⟩ : ∃ E, E = fltErr nets (k, l) := ⟨_, rfl⟩
  rw [← hE]
  rw [fltErr_at] at hE
  have hn := fun W => fcheckNets_any nets W
  have hk := fun W => fisKind_any k W
  have hsh := fun W => isShort_any k W
  by_cases c1 : nets < 1 ∨ 100 < nets
  · rw [if_pos c1] at hE hn
    have HE := Lib.hid hE
    have HH := Lib.hid (⟨hn, trivial⟩ : _ ∧ True)
    clear hE hn hk hsh hN hcc hop c1
    generalize l.length = M at hz ⊢
    go_enter Tryz.func19, Tryz.ntmps19
    go_wp2_with fail
    refine (HH.out.1 _).mono ?_
    rintro e w' ⟨rfl, rfl⟩
    go_wp2_with fail
    go_ret
    exact ⟨by rw [HE.out]; rfl, ((Below.refl _ _).alloc (Nat.le_refl _) _).alloc (by simp) _⟩
  rw [if_neg c1] at hE hn
  by_cases c2 : k < 1 ∨ 6 < k
  · rw [if_pos c2] at hE
    rw [decide_eq_false (by omega)] at hk
    have HE := Lib.hid hE
    have HH := Lib.hid (⟨hn, hk, trivial⟩ : _ ∧ _ ∧ True)
    clear hE hn hk hsh hN hcc hop c1 c2
    generalize l.length = M at hz ⊢
    go_enter Tryz.func19, Tryz.ntmps19
    go_wp2_with fail
    refine (HH.out.1 _).mono ?_
    rintro e w' ⟨rfl, rfl⟩
    go_wp2_with fail
    refine (HH.out.2.1 _).mono ?_
    rintro e w' ⟨rfl, rfl⟩
    go_wp2_with fail
    go_ret
    exact ⟨by rw [HE.out]; rfl, ((Below.refl _ _).alloc (Nat.le_refl _) _).alloc (by simp) _⟩
  rw [if_neg c2] at hE
  rw [decide_eq_true (by omega)] at hk
  by_cases c3 : l.length = 0
  · rw [if_pos c3] at hE
    have HE := Lib.hid hE
    have HH := Lib.hid (⟨hn, hk, trivial⟩ : _ ∧ _ ∧ True)
    rw [c3]
    clear hE hn hk hsh hN hcc hop c1 c2 c3 hz
    go_enter Tryz.func19, Tryz.ntmps19
    go_wp2_with fail
    refine (HH.out.1 _).mono ?_
    rintro e w' ⟨rfl, rfl⟩
    go_wp2_with fail
    refine (HH.out.2.1 _).mono ?_
    rintro e w' ⟨rfl, rfl⟩
    go_wp2_with fail
    go_ret
    exact ⟨by rw [HE.out]; rfl, ((Below.refl _ _).alloc (Nat.le_refl _) _).alloc (by simp) _⟩
  rw [if_neg c3] at hE
  have n0 : ((l.length : Int) == 0) = false := by rw [beq_eq_false_iff_ne]; omega
  by_cases c4 : 6 < l.length
  · rw [if_pos c4] at hE
    have HE := Lib.hid hE
    have HH := Lib.hid (⟨hn, hk, trivial⟩ : _ ∧ _ ∧ True)
    have n6 : decide ((l.length : Int) > 6) = true := decide_eq_true (by omega)
    clear hE hn hk hsh hN hcc hop c1 c2 c3 c4 hz
    generalize l.length = M at n0 n6 ⊢
    go_enter Tryz.func19, Tryz.ntmps19
    go_wp2_with fail
    refine (HH.out.1 _).mono ?_
    rintro e w' ⟨rfl, rfl⟩
    go_wp2_with fail
    refine (HH.out.2.1 _).mono ?_
    rintro e w' ⟨rfl, rfl⟩
    go_wp2_with fail
    go_ret
    exact ⟨by rw [HE.out]; rfl, ((Below.refl _ _).alloc (Nat.le_refl _) _).alloc (by simp) _⟩
  rw [if_neg c4] at hE
  have n6 : decide ((l.length : Int) > 6) = false := decide_eq_false (by omega)
  have hci := fun W b (hB : Below w.heap.size w W) hb => pcontIntF_any l hz nets b W hb _ (hN.later (w' := W) hB)
  cases c5 : l.any (fun x => decide (x < 0) || decide (nets ≤ x)) with
  | true =>
    rw [c5] at hE hci
    rw [if_pos rfl] at hE
    have HE := Lib.hid hE
    have HH := Lib.hid (⟨hn, hk, trivial, hci⟩ : _ ∧ _ ∧ True ∧ _)
    clear hE hn hk hsh hN hcc hop c1 c2 c3 c4 c5 hz hci
    generalize l.length = M at n0 n6 HH ⊢
    have hBw : Below w.heap.size w ((w.alloc (.cells #[.int .i64 nets] 3)).alloc (.cells #[.int .i64 k, .slice a M c] 30)) := ((Below.refl _ _).alloc (Nat.le_refl _) _).alloc (by simp) _
    have HBW := Lib.hid hBw
    clear hBw
    go_enter Tryz.func19, Tryz.ntmps19
    go_wp2_with fail
    refine (HH.out.1 _).mono ?_
    rintro e w' ⟨rfl, rfl⟩
    go_wp2_with fail
    refine (HH.out.2.1 _).mono ?_
    rintro e w' ⟨rfl, rfl⟩
    go_wp2_with fail
    refine (HH.out.2.2.2 _ _ HBW.out (by simp; try omega)).mono ?_
    rintro e w2 ⟨rfl, hB⟩
    have f0 := (hB.cell (p := ⟨w.heap.size, 0, none⟩) (by simp; try omega)).trans (show _ = some (Value.int .i64 nets) by simp; try omega)
    have f1 := (hB.cell (p := ⟨w.heap.size + 1, 0, none⟩) (by simp)).trans (show _ = some (Value.int .i64 k) by simp)
    have f2 := (hB.cell (p := ⟨w.heap.size + 1, 1, none⟩) (by simp)).trans (show _ = some (Value.slice a M c) by simp)
    have HB := Lib.hid (HBW.out.trans (hB.mono (by simp; omega)))
    clear hB HBW
    go_wp2_with fail
    go_ret
    exact ⟨by rw [HE.out]; rfl, HB.out⟩
  | false =>
    rw [c5] at hE hci
    rw [if_neg (by decide)] at hE
    by_cases c6 : shortK k = decide (1 < l.length)
    · rw [if_neg (by rw [c6]; simp)] at hE
      have hl1 : 1 ≤ l.length := by omega
      have hl2 : l.length ≤ 1000 := hz
      have h5 : k = 5 → 2 ≤ l.length := fun hk5 => by
        rw [hk5] at c6
        have h2 : decide (1 < l.length) = true := c6.symm
        have := of_decide_eq_true h2
        omega
      rw [c6] at hsh
      obtain ⟨sb, hsb⟩ : ∃ b, b = decide (1 < l.length) := ⟨_, rfl⟩
      rw [← hsb] at hsh
      have hd : decide ((1 : Int) < (l.length : Int)) = sb := by rw [hsb, decide_eq_decide]; omega
      have hco := fun W (hB : Below w.heap.size w W) => checkOrder_any k l hl1 hl2 h5 W _ (hN.later (w' := W) hB)
      rw [← hE] at hco
      have HD := Lib.hid hd
      have HO := Lib.hid hco
      have HH := Lib.hid (⟨hn, hk, hsh, hci⟩ : _ ∧ _ ∧ _ ∧ _)
      clear hE hn hk hsh hN hcc hop c1 c2 c3 c4 c5 c6 hz hci hco hsb hd h5
      generalize l.length = M at n0 n6 HH HD HO hl1 hl2 ⊢
      have hBw : Below w.heap.size w ((w.alloc (.cells #[.int .i64 nets] 3)).alloc (.cells #[.int .i64 k, .slice a M c] 30)) := ((Below.refl _ _).alloc (Nat.le_refl _) _).alloc (by simp) _
      have HBW := Lib.hid hBw
      clear hBw
      go_enter Tryz.func19, Tryz.ntmps19
      go_wp2_with fail
      refine (HH.out.1 _).mono ?_
      rintro e w' ⟨rfl, rfl⟩
      go_wp2_with fail
      refine (HH.out.2.1 _).mono ?_
      rintro e w' ⟨rfl, rfl⟩
      go_wp2_with fail
      refine (HH.out.2.2.2 _ _ HBW.out (by simp; try omega)).mono ?_
      rintro e w2 ⟨rfl, hB⟩
      have f0 := (hB.cell (p := ⟨w.heap.size, 0, none⟩) (by simp; try omega)).trans (show _ = some (Value.int .i64 nets) by simp; try omega)
      have f1 := (hB.cell (p := ⟨w.heap.size + 1, 0, none⟩) (by simp)).trans (show _ = some (Value.int .i64 k) by simp)
      have f2 := (hB.cell (p := ⟨w.heap.size + 1, 1, none⟩) (by simp)).trans (show _ = some (Value.slice a M c) by simp)
      have HB := Lib.hid (HBW.out.trans (hB.mono (by simp; omega)))
      clear hB HBW
      go_wp2_with fail
      have hd := HD.out
      go_quiet ((go_at_call 51; exact Calls.quiet_of_same ((HH.out.2.2.1 _).mono fun _ _ h => ⟨h.1, h.2.symm⟩)))
      clear hd
      go_wp2_with fail
      refine (HO.out _ (HB.out.trans ((drewN_below _ _).mono HB.out.size))).mono ?_
      rintro e w3 ⟨rfl, hB⟩
      have hB3 : Below w.heap.size w w3 := (HB.out.trans ((drewN_below _ _).mono HB.out.size)).trans (hB.mono HB.out.size)
      have HB3 := Lib.hid hB3
      clear hB hB3
      go_wp2_with fail
      go_ret
      exact ⟨rfl, HB3.out⟩
    · rw [if_pos c6] at hE
      have HE := Lib.hid hE
      obtain ⟨sb, hsb⟩ : ∃ b, b = shortK k := ⟨_, rfl⟩
      rw [← hsb] at hsh c6
      have hd : decide ((1 : Int) < (l.length : Int)) = !sb := by
        have e : decide ((1 : Int) < (l.length : Int)) = decide (1 < l.length) := by rw [decide_eq_decide]; omega
        rw [e]
        revert c6
        cases sb <;> cases decide (1 < l.length) <;> simp
      have hne : (sb != !sb) = true := by cases sb <;> rfl
      have HD := Lib.hid hd
      have HH := Lib.hid (⟨hn, hk, hsh, hci⟩ : _ ∧ _ ∧ _ ∧ _)
      clear hE hn hk hsh hN hcc hop c1 c2 c3 c4 c5 c6 hz hci hsb hd
      generalize l.length = M at n0 n6 HH HD ⊢
      have hBw : Below w.heap.size w ((w.alloc (.cells #[.int .i64 nets] 3)).alloc (.cells #[.int .i64 k, .slice a M c] 30)) := ((Below.refl _ _).alloc (Nat.le_refl _) _).alloc (by simp) _
      have HBW := Lib.hid hBw
      clear hBw
      go_enter Tryz.func19, Tryz.ntmps19
      go_wp2_with fail
      refine (HH.out.1 _).mono ?_
      rintro e w' ⟨rfl, rfl⟩
      go_wp2_with fail
      refine (HH.out.2.1 _).mono ?_
      rintro e w' ⟨rfl, rfl⟩
      go_wp2_with fail
      refine (HH.out.2.2.2 _ _ HBW.out (by simp; try omega)).mono ?_
      rintro e w2 ⟨rfl, hB⟩
      have f0 := (hB.cell (p := ⟨w.heap.size, 0, none⟩) (by simp; try omega)).trans (show _ = some (Value.int .i64 nets) by simp; try omega)
      have f1 := (hB.cell (p := ⟨w.heap.size + 1, 0, none⟩) (by simp)).trans (show _ = some (Value.int .i64 k) by simp)
      have f2 := (hB.cell (p := ⟨w.heap.size + 1, 1, none⟩) (by simp)).trans (show _ = some (Value.slice a M c) by simp)
      have HB := Lib.hid (HBW.out.trans (hB.mono (by simp; omega)))
      clear hB HBW
      go_wp2_with fail
      have hd := HD.out
      go_quiet ((go_at_call 51; exact Calls.quiet_of_same ((HH.out.2.2.1 _).mono fun _ _ h => ⟨h.1, h.2.symm⟩)))
      clear hd
      go_wp2_with fail
      go_ret
      exact ⟨by rw [HE.out]; rfl, HB.out.trans ((drewN_below _ _).mono HB.out.size)⟩

set_option maxHeartbeats 8000000 in
set_option maxRecDepth 100000 in
theorem faultFault_any (nets k : Int) (l : List Int) (hz : l.length ≤ 1000) (w : World) (v : Value) (h : NetsAt w v l) :
    Calls Tryz.prog 14 #[.int .i64 nets, .agg #[.int .i64 k, v]] w fun e w' => e = .returned (.int .i64 (fltErr nets (k, l))) ∧ Below w.heap.size w w' := by
  have hN := h
  obtain ⟨a, c, rfl, hcc, hop⟩ := h
  obtain ⟨E, hE⟩ : ∃ E, E = fltErr nets (k, l) := ⟨_, rfl⟩
  rw [← hE]
  rw [fltErr_at] at hE
  have hn := fun W => rin2_any nets 1 100 W
  have hk := fun W => rin2_any k 1 6 W
  have hsh := fun W => rshort2_any k W
  by_cases c1 : nets < 1 ∨ 100 < nets
  · rw [if_pos c1] at hE
    rw [inB_nets _ c1] at hn
    have HE := Lib.hid hE
    have HH := Lib.hid (⟨hn, trivial⟩ : _ ∧ True)
    clear hE hn hk hsh hN hcc hop c1
    generalize l.length = M at hz ⊢
    go_enter Tryz.func14, Tryz.ntmps14
    go_wp2_with fail
    refine (HH.out.1 _).mono ?_
    rintro e w' ⟨rfl, rfl⟩
    go_wp2_with fail
    go_ret
    exact ⟨by rw [HE.out]; rfl, ((Below.refl _ _).alloc (Nat.le_refl _) _).alloc (by simp) _⟩
  rw [if_neg c1] at hE
  rw [inB_nets2 _ c1] at hn
  by_cases c2 : k < 1 ∨ 6 < k
  · rw [if_pos c2] at hE
    rw [inB_kind _ c2] at hk
    have HE := Lib.hid hE
    have HH := Lib.hid (⟨hn, hk, trivial⟩ : _ ∧ _ ∧ True)
    clear hE hn hk hsh hN hcc hop c1 c2
    generalize l.length = M at hz ⊢
    go_enter Tryz.func14, Tryz.ntmps14
    go_wp2_with fail
    refine (HH.out.1 _).mono ?_
    rintro e w' ⟨rfl, rfl⟩
    go_wp2_with fail
    refine (HH.out.2.1 _).mono ?_
    rintro e w' ⟨rfl, rfl⟩
    go_wp2_with fail
    go_ret
    exact ⟨by rw [HE.out]; rfl, ((Below.refl _ _).alloc (Nat.le_refl _) _).alloc (by simp) _⟩
  rw [if_neg c2] at hE
  rw [inB_kind2 _ c2] at hk
  by_cases c3 : l.length = 0
  · rw [if_pos c3] at hE
    have HE := Lib.hid hE
    have HH := Lib.hid (⟨hn, hk, trivial⟩ : _ ∧ _ ∧ True)
    rw [c3]
    clear hE hn hk hsh hN hcc hop c1 c2 c3 hz
    go_enter Tryz.func14, Tryz.ntmps14
    go_wp2_with fail
    refine (HH.out.1 _).mono ?_
    rintro e w' ⟨rfl, rfl⟩
    go_wp2_with fail
    refine (HH.out.2.1 _).mono ?_
    rintro e w' ⟨rfl, rfl⟩
    go_wp2_with fail
    go_ret
    exact ⟨by rw [HE.out]; rfl, ((Below.refl _ _).alloc (Nat.le_refl _) _).alloc (by simp) _⟩
  rw [if_neg c3] at hE
  have n0 : ((l.length : Int) == 0) = false := by rw [beq_eq_false_iff_ne]; omega
  by_cases c4 : 6 < l.length
  · rw [if_pos c4] at hE
    have HE := Lib.hid hE
    have HH := Lib.hid (⟨hn, hk, trivial⟩ : _ ∧ _ ∧ True)
    have n6 : decide ((l.length : Int) > 6) = true := decide_eq_true (by omega)
    clear hE hn hk hsh hN hcc hop c1 c2 c3 c4 hz
    generalize l.length = M at n0 n6 ⊢
    go_enter Tryz.func14, Tryz.ntmps14
    go_wp2_with fail
    refine (HH.out.1 _).mono ?_
    rintro e w' ⟨rfl, rfl⟩
    go_wp2_with fail
    refine (HH.out.2.1 _).mono ?_
    rintro e w' ⟨rfl, rfl⟩
    go_wp2_with fail
    go_ret
    exact ⟨by rw [HE.out]; rfl, ((Below.refl _ _).alloc (Nat.le_refl _) _).alloc (by simp) _⟩
  rw [if_neg c4] at hE
  have n6 : decide ((l.length : Int) > 6) = false := decide_eq_false (by omega)
  have hci := fun W b (hB : Below w.heap.size w W) hb => qcontIntF_any l hz nets (by omega) (by omega) b W hb _ (hN.later (w' := W) hB)
  cases c5 : l.any (fun x => decide (x < 0) || decide (nets ≤ x)) with
  | true =>
    rw [c5] at hE hci
    rw [if_pos rfl] at hE
    have HE := Lib.hid hE
    have HH := Lib.hid (⟨hn, hk, trivial, hci⟩ : _ ∧ _ ∧ True ∧ _)
    clear hE hn hk hsh hN hcc hop c1 c2 c3 c4 c5 hz hci
    generalize l.length = M at n0 n6 HH ⊢
    have hBw : Below w.heap.size w ((w.alloc (.cells #[.int .i64 nets] 3)).alloc (.cells #[.int .i64 k, .slice a M c] 30)) := ((Below.refl _ _).alloc (Nat.le_refl _) _).alloc (by simp) _
    have HBW := Lib.hid hBw
    clear hBw
    go_enter Tryz.func14, Tryz.ntmps14
    go_wp2_with fail
    refine (HH.out.1 _).mono ?_
    rintro e w' ⟨rfl, rfl⟩
    go_wp2_with fail
    refine (HH.out.2.1 _).mono ?_
    rintro e w' ⟨rfl, rfl⟩
    go_wp2_with fail
    refine (HH.out.2.2.2 _ _ HBW.out (by simp; try omega)).mono ?_
    rintro e w2 ⟨rfl, hB⟩
    have f0 := (hB.cell (p := ⟨w.heap.size, 0, none⟩) (by simp; try omega)).trans (show _ = some (Value.int .i64 nets) by simp; try omega)
    have f1 := (hB.cell (p := ⟨w.heap.size + 1, 0, none⟩) (by simp)).trans (show _ = some (Value.int .i64 k) by simp)
    have f2 := (hB.cell (p := ⟨w.heap.size + 1, 1, none⟩) (by simp)).trans (show _ = some (Value.slice a M c) by simp)
    have HB := Lib.hid (HBW.out.trans (hB.mono (by simp; omega)))
    clear hB HBW
    go_wp2_with fail
    go_ret
    exact ⟨by rw [HE.out]; rfl, HB.out⟩
  | false =>
    rw [c5] at hE hci
    rw [if_neg (by decide)] at hE
    by_cases c6 : shortK k = decide (1 < l.length)
    · rw [if_neg (by rw [c6]; simp)] at hE
      have hl1 : 1 ≤ l.length := by omega
      have hl2 : l.length ≤ 1000 := hz
      have h5 : k = 5 → 2 ≤ l.length := fun hk5 => by
        rw [hk5] at c6
        have h2 : decide (1 < l.length) = true := c6.symm
        have := of_decide_eq_true h2
        omega
      rw [c6] at hsh
      obtain ⟨sb, hsb⟩ : ∃ b, b = decide (1 < l.length) := ⟨_, rfl⟩
      rw [← hsb] at hsh
      have hd : decide ((1 : Int) < (l.length : Int)) = sb := by rw [hsb, decide_eq_decide]; omega
      clear hsb c6 c1 c2 c3 c4 c5 hz
      by_cases hk5 : k = 5
      · have n5 : (k == 5) = true := by simp [hk5]
        have hm2 : 2 ≤ l.length := h5 hk5
        obtain ⟨x, l', rfl⟩ : ∃ x l', l = x :: l' := by
          cases l with
          | nil => simp at hm2
          | cons x l' => exact ⟨x, l', rfl⟩
        have hE5 : E = if riseTo l' l'.length = false then 7 else if x ∈ l' then 6 else 0 := by
          rw [hE]
          unfold ordErr
          rw [if_pos hk5]
          simp [hk5]
        obtain ⟨g, o, rfl, hg, hcell⟩ := hop (by simp)
        have hcont := fun (W : World) (hB : Below w.heap.size w W) => contInt_any l' (by simp at hl2; omega) x W _ ((hN.tail g o rfl (c - 1) (by simp at hcc; omega)).later hB)
        have hx := hcell 0 (by simp)
        change _ = some (Value.int .i64 x) at hx
        rw [Nat.add_zero] at hx
        have hce : ∀ j, j < l'.length → w.cell? ⟨g, o + 1 + j, none⟩ = some (.int .i64 (l'.getD j 0)) := fun j hj => by
          have := hcell (j + 1) (by simp; omega)
          rw [Nat.add_assoc, Nat.add_comm 1 j]
          exact this
        have hlen : (x :: l').length = l'.length + 1 := rfl
        rw [hlen] at hcc hm2 hl2 n0 n6 hd hci ⊢
        have hne1 : ¬ c = 1 := by omega
        obtain ⟨M, hM⟩ : ∃ M, M = l'.length := ⟨_, rfl⟩
        rw [← hM] at hcont hce hcc hm2 hl2 hE5 n0 n6 hd hci ⊢
        obtain ⟨Z, hZ⟩ : ∃ Z, Z = M + 1 := ⟨_, rfl⟩
        rw [← hZ] at hcc hm2 hl2 n0 n6 hd hci ⊢
        have HH := Lib.hid (⟨hcont, hce⟩ : _ ∧ _)
        have HE := Lib.hid hE5
        clear hcont hce hcell hop hN hM hk5 hlen hE hE5 h5
        have e1 : (Z : Int) - 1 = (M : Int) := by omega
        have hl2' : M ≤ 1000 := by omega
        have EZ := Lib.hid (show M = Z - 1 by omega)
        clear hZ
        have HD := Lib.hid hd
        have HO := HH
        clear HH
        have HH := Lib.hid (⟨hn, hk, hsh, hci⟩ : _ ∧ _ ∧ _ ∧ _)
        clear hn hk hsh hci hd
        have hBw : Below w.heap.size w ((w.alloc (.cells #[.int .i64 nets] 3)).alloc (.cells #[.int .i64 k, .slice (some ⟨g, o, none⟩) Z c] 30)) := ((Below.refl _ _).alloc (Nat.le_refl _) _).alloc (by simp) _
        have HBW := Lib.hid hBw
        clear hBw
        go_enter Tryz.func14, Tryz.ntmps14
        go_wp2_with fail
        refine (HH.out.1 _).mono ?_
        rintro e w' ⟨rfl, rfl⟩
        go_wp2_with fail
        refine (HH.out.2.1 _).mono ?_
        rintro e w' ⟨rfl, rfl⟩
        go_wp2_with fail
        refine (HH.out.2.2.2 _ _ HBW.out (by simp; try omega)).mono ?_
        rintro e w2 ⟨rfl, hB⟩
        have f0 := (hB.cell (p := ⟨w.heap.size, 0, none⟩) (by simp; try omega)).trans (show _ = some (Value.int .i64 nets) by simp; try omega)
        have f1 := (hB.cell (p := ⟨w.heap.size + 1, 0, none⟩) (by simp)).trans (show _ = some (Value.int .i64 k) by simp)
        have f2 := (hB.cell (p := ⟨w.heap.size + 1, 1, none⟩) (by simp)).trans (show _ = some (Value.slice (some ⟨g, o, none⟩) Z c) by simp)
        have HB := Lib.hid (HBW.out.trans (hB.mono (by simp; omega)))
        clear hB HBW
        go_wp2_with fail
        have hd := HD.out
        go_quiet ((go_at_call 42; exact Calls.quiet_of_same ((HH.out.2.2.1 _).mono fun _ _ h => ⟨h.1, h.2.symm⟩)))
        clear hd
        go_wp2_with fail
        clear HH HD
        have HH := HO
        clear HO
        go_loopw [6] (fun i wr => ∃ q : Nat, q + 1 ≤ max M 1 ∧ i = .int .i64 ((q : Int) + 1) ∧ riseTo l' (q + 1) = true ∧ Below w.heap.size w wr ∧ wr.cell? ⟨w.heap.size + 1, 0, none⟩ = some (.int .i64 k) ∧ wr.cell? ⟨w.heap.size + 1, 1, none⟩ = some (.slice (some ⟨g, o, none⟩) Z c)) (fun i _ => M - (intOf i).toNat)
        case atStart => exact ⟨0, by omega, by rfl, rfl, HB.out.trans ((drewN_below _ _).mono HB.out.size), by simpa using f1, by simpa using f2⟩
        case round =>
          obtain ⟨q, hq, rfl, hE, hB, b0, b1⟩ := hrel
          by_cases hlt : q + 1 < M
          · have cA := (hB.cell (p := ⟨g, o + 1 + q, none⟩) hg).trans (HH.out.2 q (by omega))
            have cB := (hB.cell (p := ⟨g, o + 1 + (q + 1), none⟩) hg).trans (HH.out.2 (q + 1) hlt)
            have hdn := riseTo_down l' M q hlt
            have hup := riseTo_up l' q hE
            obtain ⟨y0, hy0⟩ : ∃ y, y = l'.getD q 0 := ⟨_, rfl⟩
            obtain ⟨y1, hy1⟩ : ∃ y, y = l'.getD (q + 1) 0 := ⟨_, rfl⟩
            rw [← hy0] at cA hdn hup
            rw [← hy1] at cB hdn hup
            have q0 : (0 : Int) ≤ (q : Int) := by omega
            have q1 : (q : Int) < (M : Int) := by omega
            have q2 : (q : Int) + 1 < (M : Int) := by omega
            have q3 : (0 : Int) ≤ (q : Int) + 1 := by omega
            have hw1 : IntKind.i64.wrap ((q : Int)) = (q : Int) := IntWalk.i64_in _ (by omega)
            have ht1 : ((q : Int) + 1).toNat = q + 1 := by omega
            have HB := Lib.hid (⟨hB, b0, b1⟩ : _ ∧ _ ∧ _)
            by_cases hle : y1 ≤ y0
            · have dd : decide (y1 ≤ y0) = true := decide_eq_true hle
              have hE7 := (HE.out).trans (if_pos (hdn hle))
              have H7 := Lib.hid hE7
              clear hB hy0 hy1 b0 b1 hdn hup hE hle hE7
              go_wp2_with fail
              go_quiet (fail)
              clear hw1 ht1
              go_wp2_with fail
              go_ret
              exact ⟨by rw [H7.out]; rfl, HB.out.1.trans ((drewN_below _ _).mono HB.out.1.size)⟩
            · have dd : decide (y1 ≤ y0) = false := decide_eq_false hle
              have HU := Lib.hid (hup (by omega))
              clear hB hy0 hy1 b0 b1 hdn hup hE hle
              go_wp2_with fail
              go_quiet (fail)
              clear hw1 ht1
              go_wp2_with fail
              go_roundw
              case rel => exact ⟨q + 1, by omega, by go_num, HU.out, HB.out.1.trans ((drewN_below _ _).mono HB.out.1.size), HB.out.2⟩
              case measure => simp [intOf]; omega
          · have hri := riseTo_end l' M q (by omega) hq hE
            have hE6 := (HE.out).trans (if_neg (by rw [hri]; decide))
            have HB := Lib.hid hB
            have q2 : ¬ (q : Int) + 1 < (M : Int) := by omega
            have hx' := (hB.cell (p := ⟨g, o, none⟩) hg).trans hx
            have hq2 := HH.out.1 wr hB
            rw [EZ.out] at hq2
            clear hB hri hE
            by_cases hm : x ∈ l'
            · rw [decide_eq_true hm] at hq2
              rw [if_pos hm] at hE6
              have H6 := Lib.hid hE6
              clear hE6 hm
              go_wp2_with fail
              refine hq2.mono ?_
              rintro e w' ⟨rfl, hB2⟩
              have HB2 := Lib.hid (HB.out.trans (hB2.mono HB.out.size))
              clear hq2 hB2
              go_wp2_with fail
              go_ret
              exact ⟨by rw [H6.out]; rfl, HB2.out⟩
            · rw [decide_eq_false hm] at hq2
              rw [if_neg hm] at hE6
              have H6 := Lib.hid hE6
              clear hE6 hm
              go_wp2_with fail
              refine hq2.mono ?_
              rintro e w' ⟨rfl, hB2⟩
              have HB2 := Lib.hid (HB.out.trans (hB2.mono HB.out.size))
              clear hq2 hB2
              go_wp2_with fail
              go_ret
              exact ⟨by rw [H6.out]; rfl, HB2.out⟩
      · have n5 : (k == 5) = false := by simpa using hk5
        have hE5 : E = if riseTo l l.length = false then 7 else 0 := by
          rw [hE]
          unfold ordErr
          rw [if_neg hk5]
          simp [hk5]
        obtain ⟨g, o, rfl, hg, hcell⟩ := hop (by omega)
        obtain ⟨M, hM⟩ : ∃ M, M = l.length := ⟨_, rfl⟩
        rw [← hM] at hcell hcc hl1 hl2 hE5 n0 n6 hd hci ⊢
        have HH := Lib.hid hcell
        have HE := Lib.hid hE5
        clear hcell hop hN hM hk5 hE hE5 h5
        have HD := Lib.hid hd
        have HO := HH
        clear HH
        have HH := Lib.hid (⟨hn, hk, hsh, hci⟩ : _ ∧ _ ∧ _ ∧ _)
        clear hn hk hsh hci hd
        have hBw : Below w.heap.size w ((w.alloc (.cells #[.int .i64 nets] 3)).alloc (.cells #[.int .i64 k, .slice (some ⟨g, o, none⟩) M c] 30)) := ((Below.refl _ _).alloc (Nat.le_refl _) _).alloc (by simp) _
        have HBW := Lib.hid hBw
        clear hBw
        go_enter Tryz.func14, Tryz.ntmps14
        go_wp2_with fail
        refine (HH.out.1 _).mono ?_
        rintro e w' ⟨rfl, rfl⟩
        go_wp2_with fail
        refine (HH.out.2.1 _).mono ?_
        rintro e w' ⟨rfl, rfl⟩
        go_wp2_with fail
        refine (HH.out.2.2.2 _ _ HBW.out (by simp; try omega)).mono ?_
        rintro e w2 ⟨rfl, hB⟩
        have f0 := (hB.cell (p := ⟨w.heap.size, 0, none⟩) (by simp; try omega)).trans (show _ = some (Value.int .i64 nets) by simp; try omega)
        have f1 := (hB.cell (p := ⟨w.heap.size + 1, 0, none⟩) (by simp)).trans (show _ = some (Value.int .i64 k) by simp)
        have f2 := (hB.cell (p := ⟨w.heap.size + 1, 1, none⟩) (by simp)).trans (show _ = some (Value.slice (some ⟨g, o, none⟩) M c) by simp)
        have HB := Lib.hid (HBW.out.trans (hB.mono (by simp; omega)))
        clear hB HBW
        go_wp2_with fail
        have hd := HD.out
        go_quiet ((go_at_call 42; exact Calls.quiet_of_same ((HH.out.2.2.1 _).mono fun _ _ h => ⟨h.1, h.2.symm⟩)))
        clear hd
        go_wp2_with fail
        clear HH HD
        have HH := HO
        clear HO
        go_loopw [6] (fun i wr => ∃ q : Nat, q + 1 ≤ max M 1 ∧ i = .int .i64 ((q : Int) + 1) ∧ riseTo l (q + 1) = true ∧ Below w.heap.size w wr ∧ wr.cell? ⟨w.heap.size + 1, 0, none⟩ = some (.int .i64 k) ∧ wr.cell? ⟨w.heap.size + 1, 1, none⟩ = some (.slice (some ⟨g, o, none⟩) M c)) (fun i _ => M - (intOf i).toNat)
        case atStart => exact ⟨0, by omega, by rfl, rfl, HB.out.trans ((drewN_below _ _).mono HB.out.size), by simpa using f1, by simpa using f2⟩
        case round =>
          obtain ⟨q, hq, rfl, hE, hB, b0, b1⟩ := hrel
          by_cases hlt : q + 1 < M
          · have cA := (hB.cell (p := ⟨g, o + q, none⟩) hg).trans (HH.out q (by omega))
            have cB := (hB.cell (p := ⟨g, o + (q + 1), none⟩) hg).trans (HH.out (q + 1) hlt)
            have hdn := riseTo_down l M q hlt
            have hup := riseTo_up l q hE
            obtain ⟨y0, hy0⟩ : ∃ y, y = l.getD q 0 := ⟨_, rfl⟩
            obtain ⟨y1, hy1⟩ : ∃ y, y = l.getD (q + 1) 0 := ⟨_, rfl⟩
            rw [← hy0] at cA hdn hup
            rw [← hy1] at cB hdn hup
            have q0 : (0 : Int) ≤ (q : Int) := by omega
            have q1 : (q : Int) < (M : Int) := by omega
            have q2 : (q : Int) + 1 < (M : Int) := by omega
            have q3 : (0 : Int) ≤ (q : Int) + 1 := by omega
            have hw1 : IntKind.i64.wrap ((q : Int)) = (q : Int) := IntWalk.i64_in _ (by omega)
            have ht1 : ((q : Int) + 1).toNat = q + 1 := by omega
            have HB := Lib.hid (⟨hB, b0, b1⟩ : _ ∧ _ ∧ _)
            by_cases hle : y1 ≤ y0
            · have dd : decide (y1 ≤ y0) = true := decide_eq_true hle
              have hE7 := (HE.out).trans (if_pos (hdn hle))
              have H7 := Lib.hid hE7
              clear hB hy0 hy1 b0 b1 hdn hup hE hle hE7
              go_wp2_with fail
              go_quiet (fail)
              clear hw1 ht1
              go_wp2_with fail
              go_ret
              exact ⟨by rw [H7.out]; rfl, HB.out.1.trans ((drewN_below _ _).mono HB.out.1.size)⟩
            · have dd : decide (y1 ≤ y0) = false := decide_eq_false hle
              have HU := Lib.hid (hup (by omega))
              clear hB hy0 hy1 b0 b1 hdn hup hE hle
              go_wp2_with fail
              go_quiet (fail)
              clear hw1 ht1
              go_wp2_with fail
              go_roundw
              case rel => exact ⟨q + 1, by omega, by go_num, HU.out, HB.out.1.trans ((drewN_below _ _).mono HB.out.1.size), HB.out.2⟩
              case measure => simp [intOf]; omega
          · have hri := riseTo_end l M q (by omega) hq hE
            have hE6 := (HE.out).trans (if_neg (by rw [hri]; decide))
            have H6 := Lib.hid hE6
            have HB := Lib.hid hB
            have q2 : ¬ (q : Int) + 1 < (M : Int) := by omega
            clear hB hri hE hE6
            go_wp2_with fail
            go_ret
            exact ⟨by rw [H6.out]; rfl, HB.out⟩
    · rw [if_pos c6] at hE
      have HE := Lib.hid hE
      obtain ⟨sb, hsb⟩ : ∃ b, b = shortK k := ⟨_, rfl⟩
      rw [← hsb] at hsh c6
      have hd : decide ((1 : Int) < (l.length : Int)) = !sb := by
        have e : decide ((1 : Int) < (l.length : Int)) = decide (1 < l.length) := by rw [decide_eq_decide]; omega
        rw [e]
        revert c6
        cases sb <;> cases decide (1 < l.length) <;> simp
      have hne : (sb != !sb) = true := by cases sb <;> rfl
      have HD := Lib.hid hd
      have HH := Lib.hid (⟨hn, hk, hsh, hci⟩ : _ ∧ _ ∧ _ ∧ _)
      clear hE hn hk hsh hN hcc hop c1 c2 c3 c4 c5 c6 hz hci hsb hd
      generalize l.length = M at n0 n6 HH HD ⊢
      have hBw : Below w.heap.size w ((w.alloc (.cells #[.int .i64 nets] 3)).alloc (.cells #[.int .i64 k, .slice a M c] 30)) := ((Below.refl _ _).alloc (Nat.le_refl _) _).alloc (by simp) _
      have HBW := Lib.hid hBw
      clear hBw
      go_enter Tryz.func14, Tryz.ntmps14
      go_wp2_with fail
      refine (HH.out.1 _).mono ?_
      rintro e w' ⟨rfl, rfl⟩
      go_wp2_with fail
      refine (HH.out.2.1 _).mono ?_
      rintro e w' ⟨rfl, rfl⟩
      go_wp2_with fail
      refine (HH.out.2.2.2 _ _ HBW.out (by simp; try omega)).mono ?_
      rintro e w2 ⟨rfl, hB⟩
      have f0 := (hB.cell (p := ⟨w.heap.size, 0, none⟩) (by simp; try omega)).trans (show _ = some (Value.int .i64 nets) by simp; try omega)
      have f1 := (hB.cell (p := ⟨w.heap.size + 1, 0, none⟩) (by simp)).trans (show _ = some (Value.int .i64 k) by simp)
      have f2 := (hB.cell (p := ⟨w.heap.size + 1, 1, none⟩) (by simp)).trans (show _ = some (Value.slice a M c) by simp)
      have HB := Lib.hid (HBW.out.trans (hB.mono (by simp; omega)))
      clear hB HBW
      go_wp2_with fail
      have hd := HD.out
      go_quiet ((go_at_call 42; exact Calls.quiet_of_same ((HH.out.2.2.1 _).mono fun _ _ h => ⟨h.1, h.2.symm⟩)))
      clear hd
      go_wp2_with fail
      go_ret
      exact ⟨by rw [HE.out]; rfl, HB.out.trans ((drewN_below _ _).mono HB.out.size)⟩
end Go.Proofs.YtgnkihiibednoaaGreatDoor
