/- The reference's codes. -/
import Derived.Test.YtlcknglnpcggaaaGreatDoorVgVo
namespace Go.Proofs.YtlcknglnpcggaaaGreatDoor
open Go.RowKit

theorem ones_serv : ∀ k, k < 10 → ∀ n, n < 2 ^ k → (decide (Lib.countByte (digL n k) 49 = 0 ∨ Lib.countByte (digL n k) 49 = k) = !servB 2 k n) ∧ (decide (Lib.countByte (digL n k) 49 = k / 2) = servB 3 k n) := by decide +kernel
theorem codesTo_pre (goal long : Nat) : ∀ j m, j ≤ m → ∃ R, codesTo goal long m = codesTo goal long j ++ R := by
  intro j m h
  induction m with
  | zero =>
    obtain rfl : j = 0 := by omega
    exact ⟨[], by simp⟩
  | succ m ih =>
    by_cases e : j = m + 1
    · subst e
      exact ⟨[], by simp⟩
    · obtain ⟨R, hR⟩ := ih (by omega)
      exact ⟨R ++ if servB goal long m = true then [m] else [], by rw [codesTo_succ, hR, List.append_assoc]⟩
theorem codes_take {goal long nets j : Nat} (h : (codesTo goal long j).length = nets) (hj : j ≤ 2 ^ long) : (codesL goal long).take nets = codesTo goal long j := by
  obtain ⟨R, hR⟩ := codesTo_pre goal long j _ hj
  unfold codesL
  rw [hR, ← h, List.take_left']
  rfl

set_option maxHeartbeats 2000000 in
set_option maxRecDepth 100000 in
theorem rcodes1_any (long nets : Nat) (hl : long ≤ 9) (hn1 : 1 ≤ nets) (hn2 : nets ≤ 100) (w : World) (hT : Tz w) : Calls Tryz.prog 39 #[.int .i64 (long : Int), .int .i64 1, .int .i64 (nets : Int)] w fun e w' => ∃ v, e = .returned v ∧ NatsAt w.heap.size w' v ((codesL 1 long).take nets) ∧ Below w.heap.size w w' := by
  obtain ⟨i0, hi, hz0, hz1, hz2⟩ := info_parts Tryz.infoIntc
  have hp9 := pow_nine long hl
  obtain ⟨m, hm⟩ : ∃ m, m = 2 ^ long := ⟨_, rfl⟩
  have hsh : IntKind.i64.wrap (2 ^ long) = (m : Int) := by
    have : ((2 : Int) ^ long) = ((2 ^ long : Nat) : Int) := by simp
    rw [this, ← hm, IntWalk.i64_in _ (by omega)]
  have hos := ones_serv long (by omega)
  have hdg := fun k (hk : k < 2 ^ long) W hW => digitsOf_any k long hl hk W hW
  have hfin : ∀ j, j ≤ m → (codesTo 1 long j).length = nets → (codesL 1 long).take nets = codesTo 1 long j := fun j hj h => codes_take h (by omega)
  have hall : (codesTo 1 long m).length < nets → (codesL 1 long).take nets = codesTo 1 long m := fun h => by
    have : codesL 1 long = codesTo 1 long m := by unfold codesL; rw [hm]
    rw [this, List.take_of_length_le (by omega)]
  rw [← hm] at hp9 hos hdg
  have HT := Lib.hid hT
  have HD := Lib.hid hdg
  have HS0 := Lib.hid hos
  have HF := Lib.hid hfin
  have HA := Lib.hid hall
  have hl0 : (0 : Int) ≤ (long : Int) := by omega
  have hl9 : (long : Int) ≤ 9 := by omega
  clear hm hT hdg hos hfin hall
  obtain ⟨want, hwant⟩ : ∃ want, want = (codesL 1 long).take nets := ⟨_, rfl⟩
  rw [← hwant] at HF HA ⊢
  clear hwant
  go_enter Tryz.func39, Tryz.ntmps39
  go_wp2_with fail
  go_loopw [7, 12] (fun v i wr => ∃ k : Nat, k ≤ m ∧ i = .int .i64 (k : Int) ∧ NatsAt w.heap.size wr v (codesTo 1 long k) ∧ Below w.heap.size w wr ∧ (codesTo 1 long k).length < nets) (fun _ i _ => m - (intOf i).toNat)
  case atStart => exact ⟨0, by omega, rfl, World.ownsRow_nil _ _ _ _, Below.refl _ _, by show 0 < nets; omega⟩
  case round =>
    obtain ⟨k, hk, rfl, hown, hB, hcn⟩ := hrel
    have hsucc := codesTo_succ 1 long k
    by_cases hlt : k < m
    · have hd := HD.out k hlt wr (HT.out.below hB HT.out.lt)
      have hcount := fun W => (Tryz.strings_Count_one ⟨(digL k long).toArray⟩ 49 W)
      have ho := HS0.out k hlt
      have e0 : (⟨(digL k long).toArray⟩ : ByteArray).data.toList = digL k long := by simp
      rw [e0] at hcount
      generalize Lib.countByte (digL k long) 49 = o at hcount ho
      unfold strV at hd
      generalize (⟨(digL k long).toArray⟩ : ByteArray) = sd at hd hcount
      clear e0
      unfold NatsAt at hown
      have hb1 := hB.size
      have hki0 : (0 : Int) ≤ (k : Int) := by omega
      have hki1 : (k : Int) < (m : Int) := by omega
      · have hb : servB 1 long k = true := rfl
        rw [hb] at hsucc
        rw [if_pos rfl] at hsucc
        have HS := Lib.hid hsucc
        clear hsucc hb ho

        go_wp2_with fail
        refine hd.mono ?_
        rintro e w2 ⟨rfl, hB2⟩
        clear hd
        go_wp2_with fail
        refine (hcount _).mono ?_
        rintro e w' ⟨rfl, rfl⟩
        clear hcount
        have hB3 : Below w.heap.size w w' := hB.trans (hB2.mono hb1)
        have hown2 := row_later hown hB2
        have hb3 := hB3.size
        clear hown hB hB2 hb1
        have HJ := Lib.hid (HF.out (k + 1) hlt)
        generalize codesTo 1 long k = cs at hown2 hcn HS
        go_wp2_with (at_builtin; refine wpList_append_own _ rfl _ _ 22 rfl w.heap.size 3 i0 (.int .i64 0) 1 8 Tryz.underlying22 hi hz0 hz1 hz2 rfl (by decide) _ _ _ rfl (hown2.alloc _) ⟨w'.heap.size, 0, none⟩ 1 1 [.int .i64 (k : Int)] rfl rfl ?c1 ?c2 ?c3 ?c4 ?c5 ?_)
        case c1 => exact cell_one_new _ _ _
        case c2 => exact ints_oneCell .i64 [(k : Int)]
        case c3 => unfold maxLen; omega
        case c4 => omega
        case c5 => simp; omega
        intro v' w4 hown' hg4 _
        have hB4 : Below w.heap.size w w4 := (hB3.alloc hb3 _).grown hg4 (by simp; omega) (fun j hj => (hown2.lt j hj).1)
        clear hown2
        have HO := Lib.hid hown'
        obtain ⟨-, ⟨rfl, h0⟩ | ⟨g2, cap2, cur2, rfl, -⟩⟩ := hown'
        · exact absurd h0 (by omega)
        by_cases hq : cs.length + 1 = nets
        · have hw := HJ.out (by rw [HS.out]; simpa using hq)
          have HW := Lib.hid hw
          have hq2 : (((cs.length + 1 : Nat) : Int) == (nets : Int)) = true := by rw [hq]; simp
          have hq3 : (((cs.length : Nat) : Int) + 1 == (nets : Int)) = true := by simp; omega
          clear hq hw
          go_wp2_with fail
          go_ret
          exact ⟨_, rfl, by rw [HW.out, HS.out]; unfold NatsAt; simpa [natV] using HO.out, hB4⟩
        · have hq1 : cs.length + 1 < nets := by omega
          have hq2 : (((cs.length + 1 : Nat) : Int) == (nets : Int)) = false := by simp; omega
          have hq3 : (((cs.length : Nat) : Int) + 1 == (nets : Int)) = false := by simp; omega
          clear hq
          go_wp2_with fail
          go_roundw
          case rel => exact ⟨k + 1, by omega, by go_num, by rw [HS.out]; unfold NatsAt; simpa [natV] using HO.out, hB4, by rw [HS.out]; simpa using hq1⟩
          case measure => simp [intOf]; omega

    · obtain rfl : k = m := by omega
      have HO := Lib.hid hown
      have hw := HA.out hcn
      have HW := Lib.hid hw
      clear hown hsucc hw
      go_wp2_with fail
      go_ret
      exact ⟨_, rfl, by rw [HW.out]; exact HO.out, hB⟩

set_option maxHeartbeats 2000000 in
set_option maxRecDepth 100000 in
theorem rcodes2_any (long nets : Nat) (hl : long ≤ 9) (hn1 : 1 ≤ nets) (hn2 : nets ≤ 100) (w : World) (hT : Tz w) : Calls Tryz.prog 39 #[.int .i64 (long : Int), .int .i64 2, .int .i64 (nets : Int)] w fun e w' => ∃ v, e = .returned v ∧ NatsAt w.heap.size w' v ((codesL 2 long).take nets) ∧ Below w.heap.size w w' := by
  obtain ⟨i0, hi, hz0, hz1, hz2⟩ := info_parts Tryz.infoIntc
  have hp9 := pow_nine long hl
  obtain ⟨m, hm⟩ : ∃ m, m = 2 ^ long := ⟨_, rfl⟩
  have hsh : IntKind.i64.wrap (2 ^ long) = (m : Int) := by
    have : ((2 : Int) ^ long) = ((2 ^ long : Nat) : Int) := by simp
    rw [this, ← hm, IntWalk.i64_in _ (by omega)]
  have hos := ones_serv long (by omega)
  have hdg := fun k (hk : k < 2 ^ long) W hW => digitsOf_any k long hl hk W hW
  have hfin : ∀ j, j ≤ m → (codesTo 2 long j).length = nets → (codesL 2 long).take nets = codesTo 2 long j := fun j hj h => codes_take h (by omega)
  have hall : (codesTo 2 long m).length < nets → (codesL 2 long).take nets = codesTo 2 long m := fun h => by
    have : codesL 2 long = codesTo 2 long m := by unfold codesL; rw [hm]
    rw [this, List.take_of_length_le (by omega)]
  rw [← hm] at hp9 hos hdg
  have HT := Lib.hid hT
  have HD := Lib.hid hdg
  have HS0 := Lib.hid hos
  have HF := Lib.hid hfin
  have HA := Lib.hid hall
  have hl0 : (0 : Int) ≤ (long : Int) := by omega
  have hl9 : (long : Int) ≤ 9 := by omega
  clear hm hT hdg hos hfin hall
  obtain ⟨want, hwant⟩ : ∃ want, want = (codesL 2 long).take nets := ⟨_, rfl⟩
  rw [← hwant] at HF HA ⊢
  clear hwant
  go_enter Tryz.func39, Tryz.ntmps39
  go_wp2_with fail
  go_loopw [7, 12] (fun v i wr => ∃ k : Nat, k ≤ m ∧ i = .int .i64 (k : Int) ∧ NatsAt w.heap.size wr v (codesTo 2 long k) ∧ Below w.heap.size w wr ∧ (codesTo 2 long k).length < nets) (fun _ i _ => m - (intOf i).toNat)
  case atStart => exact ⟨0, by omega, rfl, World.ownsRow_nil _ _ _ _, Below.refl _ _, by show 0 < nets; omega⟩
  case round =>
    obtain ⟨k, hk, rfl, hown, hB, hcn⟩ := hrel
    have hsucc := codesTo_succ 2 long k
    by_cases hlt : k < m
    · have hd := HD.out k hlt wr (HT.out.below hB HT.out.lt)
      have hcount := fun W => (Tryz.strings_Count_one ⟨(digL k long).toArray⟩ 49 W)
      have ho := HS0.out k hlt
      have e0 : (⟨(digL k long).toArray⟩ : ByteArray).data.toList = digL k long := by simp
      rw [e0] at hcount
      generalize Lib.countByte (digL k long) 49 = o at hcount ho
      unfold strV at hd
      generalize (⟨(digL k long).toArray⟩ : ByteArray) = sd at hd hcount
      clear e0
      unfold NatsAt at hown
      have hb1 := hB.size
      have hki0 : (0 : Int) ≤ (k : Int) := by omega
      have hki1 : (k : Int) < (m : Int) := by omega
      · by_cases ho0 : o = 0
        · have hb : servB 2 long k = false := by
            have := ho.1
            rw [decide_eq_true (Or.inl ho0)] at this
            cases h : servB 2 long k <;> simp [h] at this ⊢
          subst ho0
          rw [hb] at hsucc
          rw [if_neg (by decide), List.append_nil] at hsucc
          have HS := Lib.hid hsucc
          clear hsucc hb ho
          have HJ := Lib.hid (HF.out (k + 1) hlt)
          generalize codesTo 2 long k = cs at hown hcn HS
          have HO := Lib.hid (⟨hown, hcn⟩ : _ ∧ _)
          have hlq : ((cs.length : Int) == (nets : Int)) = false := by simp; omega
          have hlz : ((0 : Int) == (nets : Int)) = false := by simp; omega
          obtain ⟨-, ⟨rfl, -⟩ | ⟨g2, cap2, cur2, rfl, -⟩⟩ := hown
          all_goals

            go_wp2_with fail
            refine hd.mono ?_
            rintro e w2 ⟨rfl, hB2⟩
            clear hd
            go_wp2_with fail
            refine (hcount _).mono ?_
            rintro e w' ⟨rfl, rfl⟩
            clear hcount
            have hB3 : Below w.heap.size w w' := hB.trans (hB2.mono hb1)
            have hown2 := row_later HO.out.1 hB2
            have HB := Lib.hid (⟨hown2, hB3⟩ : _ ∧ _)
            clear hown2 hB3 hB hB2 hb1 hcn
            go_wp2_with fail
            go_roundw
            case rel => exact ⟨k + 1, by omega, by go_num, by rw [HS.out]; exact HB.out.1, HB.out.2, by rw [HS.out]; exact HO.out.2⟩
            case measure => simp [intOf]; omega
        · by_cases ho1 : o = long
          · have hb : servB 2 long k = false := by
              have := ho.1
              rw [decide_eq_true (Or.inr ho1)] at this
              cases h : servB 2 long k <;> simp [h] at this ⊢
            have hx0 : ((o : Int) == 0) = false := by simpa using ho0
            have hx1 : ((o : Int) == (long : Int)) = true := by rw [ho1]; simp
            clear ho0 ho1
            rw [hb] at hsucc
            rw [if_neg (by decide), List.append_nil] at hsucc
            have HS := Lib.hid hsucc
            clear hsucc hb ho
            have HJ := Lib.hid (HF.out (k + 1) hlt)
            generalize codesTo 2 long k = cs at hown hcn HS
            have HO := Lib.hid (⟨hown, hcn⟩ : _ ∧ _)
            have hlq : ((cs.length : Int) == (nets : Int)) = false := by simp; omega
            have hlz : ((0 : Int) == (nets : Int)) = false := by simp; omega
            obtain ⟨-, ⟨rfl, -⟩ | ⟨g2, cap2, cur2, rfl, -⟩⟩ := hown
            all_goals

              go_wp2_with fail
              refine hd.mono ?_
              rintro e w2 ⟨rfl, hB2⟩
              clear hd
              go_wp2_with fail
              refine (hcount _).mono ?_
              rintro e w' ⟨rfl, rfl⟩
              clear hcount
              have hB3 : Below w.heap.size w w' := hB.trans (hB2.mono hb1)
              have hown2 := row_later HO.out.1 hB2
              have HB := Lib.hid (⟨hown2, hB3⟩ : _ ∧ _)
              clear hown2 hB3 hB hB2 hb1 hcn
              go_wp2_with fail
              go_roundw
              case rel => exact ⟨k + 1, by omega, by go_num, by rw [HS.out]; exact HB.out.1, HB.out.2, by rw [HS.out]; exact HO.out.2⟩
              case measure => simp [intOf]; omega
          · have hb : servB 2 long k = true := by
              have := ho.1
              rw [decide_eq_false (by rintro (h | h); exact ho0 h; exact ho1 h)] at this
              cases h : servB 2 long k <;> simp [h] at this ⊢
            have hx0 : ((o : Int) == 0) = false := by simpa using ho0
            have hx1 : ((o : Int) == (long : Int)) = false := by simp; omega
            clear ho0 ho1
            rw [hb] at hsucc
            rw [if_pos rfl] at hsucc
            have HS := Lib.hid hsucc
            clear hsucc hb ho

            go_wp2_with fail
            refine hd.mono ?_
            rintro e w2 ⟨rfl, hB2⟩
            clear hd
            go_wp2_with fail
            refine (hcount _).mono ?_
            rintro e w' ⟨rfl, rfl⟩
            clear hcount
            have hB3 : Below w.heap.size w w' := hB.trans (hB2.mono hb1)
            have hown2 := row_later hown hB2
            have hb3 := hB3.size
            clear hown hB hB2 hb1
            have HJ := Lib.hid (HF.out (k + 1) hlt)
            generalize codesTo 2 long k = cs at hown2 hcn HS
            go_wp2_with (at_builtin; refine wpList_append_own _ rfl _ _ 22 rfl w.heap.size 3 i0 (.int .i64 0) 1 8 Tryz.underlying22 hi hz0 hz1 hz2 rfl (by decide) _ _ _ rfl (hown2.alloc _) ⟨w'.heap.size, 0, none⟩ 1 1 [.int .i64 (k : Int)] rfl rfl ?c1 ?c2 ?c3 ?c4 ?c5 ?_)
            case c1 => exact cell_one_new _ _ _
            case c2 => exact ints_oneCell .i64 [(k : Int)]
            case c3 => unfold maxLen; omega
            case c4 => omega
            case c5 => simp; omega
            intro v' w4 hown' hg4 _
            have hB4 : Below w.heap.size w w4 := (hB3.alloc hb3 _).grown hg4 (by simp; omega) (fun j hj => (hown2.lt j hj).1)
            clear hown2
            have HO := Lib.hid hown'
            obtain ⟨-, ⟨rfl, h0⟩ | ⟨g2, cap2, cur2, rfl, -⟩⟩ := hown'
            · exact absurd h0 (by omega)
            by_cases hq : cs.length + 1 = nets
            · have hw := HJ.out (by rw [HS.out]; simpa using hq)
              have HW := Lib.hid hw
              have hq2 : (((cs.length + 1 : Nat) : Int) == (nets : Int)) = true := by rw [hq]; simp
              have hq3 : (((cs.length : Nat) : Int) + 1 == (nets : Int)) = true := by simp; omega
              clear hq hw
              go_wp2_with fail
              go_ret
              exact ⟨_, rfl, by rw [HW.out, HS.out]; unfold NatsAt; simpa [natV] using HO.out, hB4⟩
            · have hq1 : cs.length + 1 < nets := by omega
              have hq2 : (((cs.length + 1 : Nat) : Int) == (nets : Int)) = false := by simp; omega
              have hq3 : (((cs.length : Nat) : Int) + 1 == (nets : Int)) = false := by simp; omega
              clear hq
              go_wp2_with fail
              go_roundw
              case rel => exact ⟨k + 1, by omega, by go_num, by rw [HS.out]; unfold NatsAt; simpa [natV] using HO.out, hB4, by rw [HS.out]; simpa using hq1⟩
              case measure => simp [intOf]; omega

    · obtain rfl : k = m := by omega
      have HO := Lib.hid hown
      have hw := HA.out hcn
      have HW := Lib.hid hw
      clear hown hsucc hw
      go_wp2_with fail
      go_ret
      exact ⟨_, rfl, by rw [HW.out]; exact HO.out, hB⟩

set_option maxHeartbeats 2000000 in
set_option maxRecDepth 100000 in
theorem rcodes3_any (long nets : Nat) (hl : long ≤ 9) (hn1 : 1 ≤ nets) (hn2 : nets ≤ 100) (w : World) (hT : Tz w) : Calls Tryz.prog 39 #[.int .i64 (long : Int), .int .i64 3, .int .i64 (nets : Int)] w fun e w' => ∃ v, e = .returned v ∧ NatsAt w.heap.size w' v ((codesL 3 long).take nets) ∧ Below w.heap.size w w' := by
  obtain ⟨i0, hi, hz0, hz1, hz2⟩ := info_parts Tryz.infoIntc
  have hp9 := pow_nine long hl
  obtain ⟨m, hm⟩ : ∃ m, m = 2 ^ long := ⟨_, rfl⟩
  have hsh : IntKind.i64.wrap (2 ^ long) = (m : Int) := by
    have : ((2 : Int) ^ long) = ((2 ^ long : Nat) : Int) := by simp
    rw [this, ← hm, IntWalk.i64_in _ (by omega)]
  have hos := ones_serv long (by omega)
  have hdg := fun k (hk : k < 2 ^ long) W hW => digitsOf_any k long hl hk W hW
  have hfin : ∀ j, j ≤ m → (codesTo 3 long j).length = nets → (codesL 3 long).take nets = codesTo 3 long j := fun j hj h => codes_take h (by omega)
  have hall : (codesTo 3 long m).length < nets → (codesL 3 long).take nets = codesTo 3 long m := fun h => by
    have : codesL 3 long = codesTo 3 long m := by unfold codesL; rw [hm]
    rw [this, List.take_of_length_le (by omega)]
  rw [← hm] at hp9 hos hdg
  have HT := Lib.hid hT
  have HD := Lib.hid hdg
  have HS0 := Lib.hid hos
  have HF := Lib.hid hfin
  have HA := Lib.hid hall
  have hl0 : (0 : Int) ≤ (long : Int) := by omega
  have hl9 : (long : Int) ≤ 9 := by omega
  clear hm hT hdg hos hfin hall
  obtain ⟨want, hwant⟩ : ∃ want, want = (codesL 3 long).take nets := ⟨_, rfl⟩
  rw [← hwant] at HF HA ⊢
  clear hwant
  go_enter Tryz.func39, Tryz.ntmps39
  go_wp2_with fail
  go_loopw [7, 12] (fun v i wr => ∃ k : Nat, k ≤ m ∧ i = .int .i64 (k : Int) ∧ NatsAt w.heap.size wr v (codesTo 3 long k) ∧ Below w.heap.size w wr ∧ (codesTo 3 long k).length < nets) (fun _ i _ => m - (intOf i).toNat)
  case atStart => exact ⟨0, by omega, rfl, World.ownsRow_nil _ _ _ _, Below.refl _ _, by show 0 < nets; omega⟩
  case round =>
    obtain ⟨k, hk, rfl, hown, hB, hcn⟩ := hrel
    have hsucc := codesTo_succ 3 long k
    by_cases hlt : k < m
    · have hd := HD.out k hlt wr (HT.out.below hB HT.out.lt)
      have hcount := fun W => (Tryz.strings_Count_one ⟨(digL k long).toArray⟩ 49 W)
      have ho := HS0.out k hlt
      have e0 : (⟨(digL k long).toArray⟩ : ByteArray).data.toList = digL k long := by simp
      rw [e0] at hcount
      generalize Lib.countByte (digL k long) 49 = o at hcount ho
      unfold strV at hd
      generalize (⟨(digL k long).toArray⟩ : ByteArray) = sd at hd hcount
      clear e0
      unfold NatsAt at hown
      have hb1 := hB.size
      have hki0 : (0 : Int) ≤ (k : Int) := by omega
      have hki1 : (k : Int) < (m : Int) := by omega
      · by_cases ho1 : o = long / 2
        · have hb : servB 3 long k = true := by rw [← ho.2]; exact decide_eq_true ho1
          have hx1 : ((o : Int) != (long : Int) / 2) = false := by
            have : (o : Int) = (long : Int) / 2 := by omega
            rw [this]; simp
          clear ho1
          rw [hb] at hsucc
          rw [if_pos rfl] at hsucc
          have HS := Lib.hid hsucc
          clear hsucc hb ho

          go_wp2_with fail
          refine hd.mono ?_
          rintro e w2 ⟨rfl, hB2⟩
          clear hd
          go_wp2_with fail
          refine (hcount _).mono ?_
          rintro e w' ⟨rfl, rfl⟩
          clear hcount
          have hB3 : Below w.heap.size w w' := hB.trans (hB2.mono hb1)
          have hown2 := row_later hown hB2
          have hb3 := hB3.size
          clear hown hB hB2 hb1
          have HJ := Lib.hid (HF.out (k + 1) hlt)
          generalize codesTo 3 long k = cs at hown2 hcn HS
          go_wp2_with (at_builtin; refine wpList_append_own _ rfl _ _ 22 rfl w.heap.size 3 i0 (.int .i64 0) 1 8 Tryz.underlying22 hi hz0 hz1 hz2 rfl (by decide) _ _ _ rfl (hown2.alloc _) ⟨w'.heap.size, 0, none⟩ 1 1 [.int .i64 (k : Int)] rfl rfl ?c1 ?c2 ?c3 ?c4 ?c5 ?_)
          case c1 => exact cell_one_new _ _ _
          case c2 => exact ints_oneCell .i64 [(k : Int)]
          case c3 => unfold maxLen; omega
          case c4 => omega
          case c5 => simp; omega
          intro v' w4 hown' hg4 _
          have hB4 : Below w.heap.size w w4 := (hB3.alloc hb3 _).grown hg4 (by simp; omega) (fun j hj => (hown2.lt j hj).1)
          clear hown2
          have HO := Lib.hid hown'
          obtain ⟨-, ⟨rfl, h0⟩ | ⟨g2, cap2, cur2, rfl, -⟩⟩ := hown'
          · exact absurd h0 (by omega)
          by_cases hq : cs.length + 1 = nets
          · have hw := HJ.out (by rw [HS.out]; simpa using hq)
            have HW := Lib.hid hw
            have hq2 : (((cs.length + 1 : Nat) : Int) == (nets : Int)) = true := by rw [hq]; simp
            have hq3 : (((cs.length : Nat) : Int) + 1 == (nets : Int)) = true := by simp; omega
            clear hq hw
            go_wp2_with fail
            go_ret
            exact ⟨_, rfl, by rw [HW.out, HS.out]; unfold NatsAt; simpa [natV] using HO.out, hB4⟩
          · have hq1 : cs.length + 1 < nets := by omega
            have hq2 : (((cs.length + 1 : Nat) : Int) == (nets : Int)) = false := by simp; omega
            have hq3 : (((cs.length : Nat) : Int) + 1 == (nets : Int)) = false := by simp; omega
            clear hq
            go_wp2_with fail
            go_roundw
            case rel => exact ⟨k + 1, by omega, by go_num, by rw [HS.out]; unfold NatsAt; simpa [natV] using HO.out, hB4, by rw [HS.out]; simpa using hq1⟩
            case measure => simp [intOf]; omega
        · have hb : servB 3 long k = false := by rw [← ho.2]; exact decide_eq_false ho1
          have hx1 : ((o : Int) != (long : Int) / 2) = true := by
            have : (o : Int) ≠ (long : Int) / 2 := by omega
            simpa using this
          clear ho1
          rw [hb] at hsucc
          rw [if_neg (by decide), List.append_nil] at hsucc
          have HS := Lib.hid hsucc
          clear hsucc hb ho
          have HJ := Lib.hid (HF.out (k + 1) hlt)
          generalize codesTo 3 long k = cs at hown hcn HS
          have HO := Lib.hid (⟨hown, hcn⟩ : _ ∧ _)
          have hlq : ((cs.length : Int) == (nets : Int)) = false := by simp; omega
          have hlz : ((0 : Int) == (nets : Int)) = false := by simp; omega
          obtain ⟨-, ⟨rfl, -⟩ | ⟨g2, cap2, cur2, rfl, -⟩⟩ := hown
          all_goals

            go_wp2_with fail
            refine hd.mono ?_
            rintro e w2 ⟨rfl, hB2⟩
            clear hd
            go_wp2_with fail
            refine (hcount _).mono ?_
            rintro e w' ⟨rfl, rfl⟩
            clear hcount
            have hB3 : Below w.heap.size w w' := hB.trans (hB2.mono hb1)
            have hown2 := row_later HO.out.1 hB2
            have HB := Lib.hid (⟨hown2, hB3⟩ : _ ∧ _)
            clear hown2 hB3 hB hB2 hb1 hcn
            go_wp2_with fail
            go_roundw
            case rel => exact ⟨k + 1, by omega, by go_num, by rw [HS.out]; exact HB.out.1, HB.out.2, by rw [HS.out]; exact HO.out.2⟩
            case measure => simp [intOf]; omega

    · obtain rfl : k = m := by omega
      have HO := Lib.hid hown
      have hw := HA.out hcn
      have HW := Lib.hid hw
      clear hown hsucc hw
      go_wp2_with fail
      go_ret
      exact ⟨_, rfl, by rw [HW.out]; exact HO.out, hB⟩
end Go.Proofs.YtlcknglnpcggaaaGreatDoor
