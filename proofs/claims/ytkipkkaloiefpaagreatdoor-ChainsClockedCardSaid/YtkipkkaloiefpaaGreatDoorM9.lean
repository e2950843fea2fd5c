/- The reference's act in whatever state; its Clock. -/
import Derived.Test.YtkipkkaloiefpaaGreatDoorM8
import Derived.Test.YtkipkkaloiefpaaGreatDoorM6
import Derived.Test.YtkipkkaloiefpaaGreatDoorM7
import Derived.Laws.MakeOwn
import Derived.Laws.OwnMore
namespace Go.Proofs.YtkipkkaloiefpaaGreatDoor
open Go.RowKit Go.Maps

theorem RefDid.more {B N N' : Nat} {w w' : World} {rb gc gs mi mo : Nat} {da : Option Addr} {dcap st : Nat} {r : Devs} {ps : Nat → PS} (h : RefDid B N w rb gc gs mi mo da dcap st r ps w') (hN : N ≤ N') : RefDid B N' w rb gc gs mi mo da dcap st r ps w' := ⟨h.1.more hN, h.2⟩

/-- act. -/
theorem refAct_any (B N : Nat) (w : World) (rb gc gs mi mo : Nat) (da : Option Addr) (dcap st : Nat) (r : Devs) (ps : Nat → PS) (h : RefAt B N w rb gc gs mi mo da dcap st r ps) (k : Nat) (hk : k < r.n) (hN : N < 900000) :
    Calls Tryz.prog 32 #[.pointer (some ⟨rb, 0, none⟩), .int .i64 (k : Int)] w fun e w' => e = .returned (.tuple #[]) ∧ RefDid B (N + 1) w rb gc gs mi mo da dcap st r (updP ps k (actS st (r.dev k) (ps k))) w' := by
  by_cases e0 : st = 0
  · subst e0
    exact (refAct_reset B N w rb gc gs mi mo da dcap r ps h k hk).mono fun e w' hh => ⟨hh.1, hh.2.more (Nat.le_succ N)⟩
  by_cases e3 : st = 3
  · subst e3
    exact (refAct_capDR B N w rb gc gs mi mo da dcap r ps h k hk).mono fun e w' hh => ⟨hh.1, hh.2.more (Nat.le_succ N)⟩
  by_cases e8 : st = 8
  · subst e8
    exact refAct_upDR B N w rb gc gs mi mo da dcap r ps h k hk hN
  by_cases e10 : st = 10
  · subst e10
    exact (refAct_capIR B N w rb gc gs mi mo da dcap r ps h k hk).mono fun e w' hh => ⟨hh.1, hh.2.more (Nat.le_succ N)⟩
  by_cases e15 : st = 15
  · subst e15
    exact (refAct_upIR B N w rb gc gs mi mo da dcap r ps h k hk).mono fun e w' hh => ⟨hh.1, hh.2.more (Nat.le_succ N)⟩
  have hact : actS st (r.dev k) (ps k) = ps k := by
    unfold actS
    rw [if_neg e0, if_neg e3, if_neg e8, if_neg e10, if_neg e15]
  have hsame : updP ps k (actS st (r.dev k) (ps k)) = ps := by
    funext j
    by_cases e : j = k
    · rw [e, updP_at, hact]
    · rw [updP_ne _ _ e]
  rw [hsame]
  exact (refAct_idle B N w rb gc gs mi mo da dcap st r ps h k hk e0 e3 e8 e10 e15).mono fun e w' hh => ⟨hh.1, hh.2.more (Nat.le_succ N)⟩

/-- A bit as a number. -/
def bitv (c : UInt8) : Int := (c.toNat : Int) - 48
/-- The ports when the bit has gone through the first k. -/
def shiftUpTo (ps : Nat → PS) (c : UInt8) (k j : Nat) : PS := if j < k then shiftS (ps j) (carry ps c j) else ps j
/-- The ports when the first k have acted. -/
def actUpTo (dev : Nat → Dev) (st : Nat) (ps : Nat → PS) (k j : Nat) : PS := if j < k then actS st (dev j) (ps j) else ps j
theorem shiftUpTo_succ (ps : Nat → PS) (c : UInt8) (k : Nat) : shiftUpTo ps c (k + 1) = updP (shiftUpTo ps c k) k (shiftS (ps k) (carry ps c k)) := by
  funext j
  unfold shiftUpTo
  by_cases e : j = k
  · rw [e, updP_at, if_pos (by omega)]
  · rw [updP_ne _ _ e]
    by_cases h : j < k
    · rw [if_pos (by omega), if_pos h]
    · rw [if_neg (by omega), if_neg h]
theorem actUpTo_succ (dev : Nat → Dev) (st : Nat) (ps : Nat → PS) (k : Nat) : actUpTo dev st ps (k + 1) = updP (actUpTo dev st ps k) k (actS st (dev k) (ps k)) := by
  funext j
  unfold actUpTo
  by_cases e : j = k
  · rw [e, updP_at, if_pos (by omega)]
  · rw [updP_ne _ _ e]
    by_cases h : j < k
    · rw [if_pos (by omega), if_pos h]
    · rw [if_neg (by omega), if_neg h]
theorem shiftUpTo_at (ps : Nat → PS) (c : UInt8) (k : Nat) : shiftUpTo ps c k k = ps k := if_neg (Nat.lt_irrefl k)
theorem actUpTo_at (dev : Nat → Dev) (st : Nat) (ps : Nat → PS) (k : Nat) : actUpTo dev st ps k k = ps k := if_neg (Nat.lt_irrefl k)

theorem itoa_bit (c : UInt8) (hc : bitB c = true) (W : World) : Calls Tryz.prog 31 #[.int .i64 (bitv c)] W fun e w' => e = .returned (.string (bs [c])) ∧ w' = W := by
  have h : c = 48 ∨ c = 49 := by simpa [bitB] using hc
  rcases h with rfl | rfl
  · refine (Tryz.strconv_Itoa_small 0 (by decide) W).mono ?_
    rintro e w' ⟨rfl, rfl⟩
    exact ⟨by simp [Lib.decDigits], rfl⟩
  · refine (Tryz.strconv_Itoa_small 1 (by decide) W).mono ?_
    rintro e w' ⟨rfl, rfl⟩
    exact ⟨by simp [Lib.decDigits], rfl⟩
end Go.Proofs.YtkipkkaloiefpaaGreatDoor
/- The reference's Clock. -/
namespace Go.Proofs.YtkipkkaloiefpaaGreatDoor
open Go.RowKit Go.Maps

/-- The state is set. -/
theorem RefAt.state {B N : Nat} {w : World} {rb gc gs mi mo : Nat} {da : Option Addr} {dcap st st' : Nat} {r : Devs} {ps : Nat → PS} (h : RefAt B N w rb gc gs mi mo da dcap st r ps) (hst : st' < 16) : RefAt B N (w.setCell ⟨rb, 1, none⟩ (.int .i64 (st' : Int))) rb gc gs mi mo da dcap st' r ps := by
  obtain ⟨n1, n2, n3, n4, n5, n6, n7, n8, n9, n10⟩ := h.far
  obtain ⟨u1, u2, u3, u4, u5⟩ := h.up
  have hb : ∀ x, x ≠ rb → (w.setCell ⟨rb, 1, none⟩ (.int .i64 (st' : Int))).heap[x]? = w.heap[x]? := fun x hx => Below.heap_setCell _ _ _ x hx
  have hc : ∀ j, j ≠ 1 → (w.setCell ⟨rb, 1, none⟩ (.int .i64 (st' : Int))).cell? ⟨rb, j, none⟩ = w.cell? ⟨rb, j, none⟩ := fun j hj => World.cell?_setCell_other _ _ _ _ (by simp; try omega)
  have hB : Below B w (w.setCell ⟨rb, 1, none⟩ (.int .i64 (st' : Int))) := (Below.refl B w).setCell (by show B ≤ rb; exact u1) _
  obtain ⟨p2, h2⟩ := h.c2
  obtain ⟨p3, h3⟩ := h.c3
  obtain ⟨M, hM, hM2⟩ := h.inM
  obtain ⟨M', hM', hM2'⟩ := h.outM
  exact { h with
    st16 := hst
    devs := h.devs.below hB (Nat.le_refl _)
    c0 := (hc 0 (by decide)).trans h.c0
    c1 := World.cell?_setCell_same _ _ _ h.c1
    f1 := by rw [World.frozen?_setCell]; exact h.f1
    c2 := ⟨p2, (hc 2 (by decide)).trans h2⟩
    c3 := ⟨p3, (hc 3 (by decide)).trans h3⟩
    c4 := (hc 4 (by decide)).trans h.c4
    c5 := (hc 5 (by decide)).trans h.c5
    codes := fun k hk => ⟨(World.cell?_of_block (a := ⟨gc, k, none⟩) (hb gc (Ne.symm n1))).trans (h.codes k hk).1, (World.frozen?_of_block (a := ⟨gc, k, none⟩) (hb gc (Ne.symm n1))).trans (h.codes k hk).2⟩
    shift := fun k hk => ⟨(World.cell?_of_block (a := ⟨gs, k, none⟩) (hb gs (Ne.symm n2))).trans (h.shift k hk).1, (World.frozen?_of_block (a := ⟨gs, k, none⟩) (hb gs (Ne.symm n2))).trans (h.shift k hk).2⟩
    inM := ⟨M, hM.block (hb mi (Ne.symm n3)), hM2⟩
    outM := ⟨M', hM'.block (hb mo (Ne.symm n4)), hM2'⟩ }

theorem tail_bytes (l : List UInt8) (c : UInt8) : (bs l).extract 1 (bs l).size ++ bs [c] = bs (l.tail ++ [c]) := by
  apply ByteArray.ext
  rw [ByteArray.data_append]
  apply Array.ext'
  rw [Array.toList_append, extract_bytes, bs_list, bs_size, List.take_of_length_le (by simp)]
  simp
theorem first_byte {l : List UInt8} (h : 0 < (bs l).size) : (bs l)[0] = l.headD 48 := by
  cases l with
  | nil => simp [bs_size] at h
  | cons x l => rfl

/-- Only the first n ports matter. -/
theorem RefAt.congr {B N : Nat} {w : World} {rb gc gs mi mo : Nat} {da : Option Addr} {dcap st : Nat} {r : Devs} {ps ps' : Nat → PS} (h : RefAt B N w rb gc gs mi mo da dcap st r ps) (hp : ∀ k, k < r.n → ps k = ps' k) : RefAt B N w rb gc gs mi mo da dcap st r ps' := by
  obtain ⟨M, hM, hM2⟩ := h.inM
  obtain ⟨M', hM', hM2'⟩ := h.outM
  exact { h with
    codes := fun k hk => by rw [← hp k hk]; exact h.codes k hk
    shift := fun k hk => by rw [← hp k hk]; exact h.shift k hk
    inM := ⟨M, hM, fun k hk => by rw [← hp k hk]; exact hM2.1 k hk, hM2.2⟩
    outM := ⟨M', hM', fun k hk => by rw [← hp k hk]; exact hM2'.1 k hk, hM2'.2⟩
    byp := fun k hk => by rw [← hp k hk]; exact h.byp k hk
    idc := fun k hk => by rw [← hp k hk]; exact h.idc k hk
    good := fun k hk => by rw [← hp k hk]; exact h.good k hk }
theorem acts_step (dev : Nat → Dev) (st : Nat) (c : UInt8) (ps : Nat → PS) {n j : Nat} (hj : j < n) : actUpTo dev st (if shifts st = true then shiftUpTo ps c n else ps) n j = stepS dev st c ps j := by
  unfold actUpTo stepS
  rw [if_pos hj]
  cases hs : shifts st with
  | false => simp
  | true =>
    have h : st = 4 ∨ st = 11 := by simpa [shifts] using hs
    simp only [if_true]
    unfold shiftUpTo
    rw [if_pos hj]
    rcases h with rfl | rfl <;> rfl

/-- What Clock gives. -/
def clockV (n st : Nat) (c : UInt8) (ps : Nat → PS) : Int := if shifts st = true then bitv (carry ps c n) else -1

set_option maxHeartbeats 1000000 in
set_option maxRecDepth 100000 in
theorem refClock_any (B N : Nat) (w : World) (rb gc gs mi mo : Nat) (da : Option Addr) (dcap st : Nat) (r : Devs) (ps : Nat → PS) (h : RefAt B N w rb gc gs mi mo da dcap st r ps) (t c : UInt8) (ht : bitB t = true) (hc : bitB c = true) (hN : N < 800000) :
    Calls Tryz.prog 12 #[.pointer (some ⟨rb, 0, none⟩), .int .i64 (bitv t), .int .i64 (bitv c)] w fun e w' => e = .returned (.int .i64 (clockV r.n st c ps)) ∧ RefAt B (N + 30) w' rb gc gs mi mo da dcap (nx st t) r (stepS r.dev st c ps) ∧ Touch (fun b => b = rb ∨ b = gc ∨ b = gs ∨ b = mo) w w' := by
  have c1 := h.c1
  obtain ⟨p3, c3⟩ := h.c3
  have c0 := h.c0
  have hn1 := h.n1
  have hn20 := h.n20
  go_enter Tryz.func12, Tryz.ntmps12
  go_upto_region 2 with (fail)
  go_cut [22] (fun v wx => v = .bool (shifts st) ∧ w = wx)
  case first =>
    by_cases e4 : st = 4
    · subst e4
      clear h
      go_wp2_with fail
      go_meet
      exact ⟨rfl, rfl⟩
    · by_cases e11 : st = 11
      · subst e11
        clear h
        go_wp2_with fail
        go_meet
        exact ⟨rfl, rfl⟩
      · have b4 : ((st : Int) == 4) = false := by simp; omega
        have b11 : ((st : Int) == 11) = false := by simp; omega
        have e : shifts st = false := by simp [shifts, e4, e11]
        have E := Lib.hid e
        clear h e e4 e11
        go_wp2_with fail
        go_meet
        exact ⟨by rw [E.out], rfl⟩
  case rest =>
    obtain ⟨rfl, rfl⟩ := hcut
    go_upto_if 22 with (fail)
    go_cut [7] (fun v wx => v = .int .i64 (clockV r.n st c ps) ∧ RefAt B N wx rb gc gs mi mo da dcap st r (if shifts st = true then shiftUpTo ps c r.n else ps) ∧ Touch (fun b => b = gc ∨ b = gs ∨ b = mo) w wx)
    case first =>
      cases hs : shifts st with
      | false =>
        have e1 : clockV r.n st c ps = -1 := if_neg (by rw [hs]; decide)
        have HE := Lib.hid e1
        have H := Lib.hid h
        have HS := Lib.hid hs
        clear e1 h hs
        go_wp2_with fail
        go_meet
        rw [HS.out]
        exact ⟨by rw [HE.out], H.out, Touch.refl _ _⟩
      | true =>
        have hgood := h.good
        have hsure := h.sure
        have hst0 : shiftUpTo ps c 0 = ps := by
          funext j
          exact if_neg (by omega)
        have hR0 : RefAt B N w rb gc gs mi mo da dcap st r (shiftUpTo ps c 0) := by rw [hst0]; exact h
        have e1 : clockV r.n st c ps = bitv (carry ps c r.n) := if_pos hs
        have HE := Lib.hid e1
        have HS := Lib.hid hs
        clear e1 hs hst0 h c0 c1
        go_wp2_with fail
        go_loopw [7, 29] (fun v i wr => ∃ k : Nat, k ≤ r.n ∧ i = .int .i64 (k : Int) ∧ v = .int .i64 (bitv (carry ps c k)) ∧ RefAt B N wr rb gc gs mi mo da dcap st r (shiftUpTo ps c k) ∧ Touch (fun b => b = gc ∨ b = gs ∨ b = mo) w wr) (fun _ i _ => r.n - (intOf i).toNat)
        case atStart => exact ⟨0, by omega, rfl, rfl, hR0, Touch.refl _ _⟩
        case round =>
          clear hR0 c3
          obtain ⟨k, hk, rfl, rfl, hR, hT⟩ := hrel
          by_cases hlt : k < r.n
          · obtain ⟨p3', q3⟩ := hR.c3
            have rsh := (hR.shift k hlt).1
            have rsf := (hR.shift k hlt).2
            rw [shiftUpTo_at] at rsh
            have hgk := hgood k hlt
            have hcb := carry_bit hgood hc k hk
            have hfin := hR.setShift hlt ((ps k).sh.tail ++ [carry ps c k]) (by
              rw [shiftUpTo_at]
              exact hgk.shift hcb)
            rw [shiftUpTo_at] at hfin
            have hsucc : shiftUpTo ps c (k + 1) = updP (shiftUpTo ps c k) k { ps k with sh := (ps k).sh.tail ++ [carry ps c k] } := shiftUpTo_succ ps c k
            have hnext : carry ps c (k + 1) = (ps k).sh.headD 48 := rfl
            have htail := tail_bytes (ps k).sh (carry ps c k)
            have hsz : 1 ≤ (bs (ps k).sh).size := by
              rw [bs_size]
              have : (ps k).sh.length ≠ 0 := fun e => hgk.sh0 (List.length_eq_zero_iff.1 e)
              omega
            have hsz2 : (bs (ps k).sh).size ≤ 1000 := by rw [bs_size]; exact hgk.shL
            have hfirst := first_byte (l := (ps k).sh) hsz
            have hhead := hgk.head
            have hitoa := fun W => itoa_bit (carry ps c k) hcb W
            have hk0 : (0 : Int) ≤ (k : Int) := by omega
            have hk1 : (k : Int) < (r.n : Int) := by omega
            rw [← hsucc] at hfin
            rw [← htail] at hfin
            rw [← hfirst] at hnext hhead
            have HF := Lib.hid hfin
            have HN := Lib.hid hnext
            have HT := Lib.hid hT
            clear hfin hnext hsucc htail hfirst hR hT hgk hcb hgood hsure
            obtain ⟨bt, hbt⟩ : ∃ bt, bt = bitv (carry ps c k) := ⟨_, rfl⟩
            rw [← hbt] at hitoa ⊢
            have hcs : (bs [carry ps c k]).size = 1 := by rw [bs_size]; rfl
            generalize bs [carry ps c k] = cs at hitoa HF hcs
            generalize bs (ps k).sh = s at rsh hsz hsz2 HF HN hhead
            have hs0 : (1 : Int) ≤ (s.size : Int) := by omega
            have hcat : ¬ 9223372036854775807 < s.size := by omega
            clear hbt
            go_wp2_with fail
            go_still_tail 11, (by kernel_rfl)
            refine wpStill_step (fun K hK => ?_)
            go_simp
            refine ⟨_, hitoa _, hK _ ?_⟩
            clear hK K
            repeat still_step
            refine wpStill_nil ?_
            change wpList _ _ _ _ _ wr.drew
            go_wp2_with fail
            refine ⟨⟨k + 1, by omega, rfl, ?_, HF.out.drew, (HT.out.setCell (fun _ => Or.inr (Or.inl rfl)) _).drew⟩, ?_⟩
            · rw [HN.out]
              have h48 : s[0] = 48 ∨ s[0] = 49 := by simpa [bitB] using hhead
              rcases h48 with e | e
              · rw [e]; rfl
              · rw [e]; rfl
            · simp only [intOf]
              omega
          · obtain rfl : k = r.n := by omega
            clear hgood hsure
            go_wp2_with fail
            go_meet
            rw [HS.out]
            exact ⟨by rw [HE.out], hR, hT⟩
    case rest =>
      obtain ⟨rfl, hR, hT⟩ := hcut
      clear h c0 c1 c3
      have c0 := hR.c0
      have hp0 : (if shifts st = true then shiftUpTo ps c r.n else ps) = actUpTo r.dev st (if shifts st = true then shiftUpTo ps c r.n else ps) 0 := by
        funext j
        exact (if_neg (by omega)).symm
      rw [hp0] at hR
      obtain ⟨qs, hqs⟩ : ∃ qs, qs = (if shifts st = true then shiftUpTo ps c r.n else ps) := ⟨_, rfl⟩
      rw [← hqs] at hR
      clear hp0
      obtain ⟨cv, hcv⟩ : ∃ cv, cv = clockV r.n st c ps := ⟨_, rfl⟩
      rw [← hcv]
      have HQ := Lib.hid hqs
      have HV := Lib.hid hcv
      clear hqs hcv
      go_wp2_with fail
      go_loopw [55] (fun i wr => ∃ k : Nat, k ≤ r.n ∧ i = .int .i64 (k : Int) ∧ RefAt B (N + k) wr rb gc gs mi mo da dcap st r (actUpTo r.dev st qs k) ∧ Touch (fun b => b = gc ∨ b = gs ∨ b = mo) w wr) (fun i _ => r.n - (intOf i).toNat)
      case atStart => exact ⟨0, by omega, rfl, hR, hT⟩
      case round =>
        clear c0 hR hT
        obtain ⟨k, hk, rfl, hR, hT⟩ := hrel
        by_cases hlt : k < r.n
        · have hk0 : (0 : Int) ≤ (k : Int) := by omega
          have hk1 : (k : Int) < (r.n : Int) := by omega
          have hact := refAct_any B (N + k) wr rb gc gs mi mo da dcap st r (actUpTo r.dev st qs k) hR k hlt (by omega)
          rw [actUpTo_at, ← actUpTo_succ] at hact
          have HT := Lib.hid hT
          clear hR hT
          go_wp2_with fail
          refine hact.mono ?_
          rintro e w' ⟨rfl, hD⟩
          clear hact
          go_wp2_with fail
          refine ⟨⟨k + 1, by omega, by go_num, ?_, ?_⟩, ?_⟩
          · exact hD.1
          · exact HT.out.trans hD.2
          · simp only [intOf]
            omega
        · obtain rfl : k = r.n := by omega
          have c1 := hR.c1
          have f1 := hR.f1
          have st16 := hR.st16
          have hqn : ∀ j, j < r.n → actUpTo r.dev st qs r.n j = stepS r.dev st c ps j := fun j hj => by
            rw [HQ.out]
            exact acts_step r.dev st c ps hj
          have hfin := fun s' (hs' : s' < 16) => ((hR.congr hqn).more (Nat.add_le_add_left (Nat.le_trans hn20 (by decide : 20 ≤ 30)) N)).state (st' := s') hs'
          have HT := (Lib.hid (hT.mono (T := fun b => b = rb ∨ b = gc ∨ b = gs ∨ b = mo) fun x _ hx => Or.inr hx))
          have h48 : t = 48 ∨ t = 49 := by simpa [bitB] using ht
          have hnx := nx_lt st st16 t ht
          clear hqn hR hT
          have HF := Lib.hid hfin
          clear hfin
          rcases h48 with rfl | rfl
          · have hcon := fun W => rafter_zero st W st16
            have htt : bitv 48 = 0 := rfl
            rw [htt]
            obtain ⟨st', hst'⟩ : ∃ st', st' = nx st 48 := ⟨_, rfl⟩
            rw [← hst'] at hcon hnx
            have HS := Lib.hid hst'
            clear hst'
            go_wp2_with fail
            refine (hcon _).mono ?_
            rintro e w' ⟨rfl, rfl⟩
            clear hcon
            go_wp2_with fail
            go_ret
            refine ⟨by rw [HV.out]; rfl, ?_, HT.out.setCell (fun _ => Or.inl rfl) _⟩
            rw [← HS.out]
            exact HF.out st' hnx
          · have hcon := fun W => rafter_one st W st16
            have htt : bitv 49 = 1 := rfl
            rw [htt]
            obtain ⟨st', hst'⟩ : ∃ st', st' = nx st 49 := ⟨_, rfl⟩
            rw [← hst'] at hcon hnx
            have HS := Lib.hid hst'
            clear hst'
            go_wp2_with fail
            refine (hcon _).mono ?_
            rintro e w' ⟨rfl, rfl⟩
            clear hcon
            go_wp2_with fail
            go_ret
            refine ⟨by rw [HV.out]; rfl, ?_, HT.out.setCell (fun _ => Or.inl rfl) _⟩
            rw [← HS.out]
            exact HF.out st' hnx
end Go.Proofs.YtkipkkaloiefpaaGreatDoor
/- The reference's RunOf, of a NewPort that does as it should. -/
namespace Go.Proofs.YtkipkkaloiefpaaGreatDoor
open Go.RowKit Go.Maps

theorem bitv_mod {c : UInt8} (h : bitB c = true) : IntKind.i64.wrap (IntKind.u8.wrap ((c.toNat : Int) - 48)) = bitv c := by
  have h48 : c = 48 ∨ c = 49 := by simpa [bitB] using h
  rcases h48 with rfl | rfl <;> rfl
theorem bitv_pos {c : UInt8} (h : bitB c = true) : 0 ≤ bitv c := by
  have h48 : c = 48 ∨ c = 49 := by simpa [bitB] using h
  rcases h48 with rfl | rfl <;> decide

/-- What a new port of the reference is. -/
def PortMade (w : World) (da : Option Addr) (dcap : Nat) (r : Devs) : Prop :=
  Calls Tryz.prog 8 #[.slice da r.n dcap] w fun e w' => ∃ rb gc gs mi mo : Nat, e = .returned (.pointer (some ⟨rb, 0, none⟩)) ∧ Below w.heap.size w w' ∧ w.heap.size ≤ rb ∧ w.heap.size ≤ gc ∧ w.heap.size ≤ gs ∧ w.heap.size ≤ mi ∧ w.heap.size ≤ mo ∧ RefAt w.heap.size 1000 w' rb gc gs mi mo da dcap 0 r (fun k => newPS (r.dev k))

/-- What holds behind k clocks. -/
def RefI (w : World) (rb gc gs mi mo : Nat) (da : Option Addr) (dcap : Nat) (r : Devs) (tms tdi : List UInt8) (k : Nat) (wr : World) : Prop :=
  RefAt w.heap.size (1000 + 30 * k) wr rb gc gs mi mo da dcap (stAt tms k) r (psAt r.dev tms tdi k) ∧ Below w.heap.size w wr

/-- The text behind k clocks. -/
def outTo (r : Devs) (tms tdi : List UInt8) (k : Nat) : ByteArray := bs ((List.range k).map (outAt r.dev r.n tms tdi))
theorem outTo_succ (r : Devs) (tms tdi : List UInt8) (k : Nat) : outTo r tms tdi (k + 1) = outTo r tms tdi k ++ bs [outAt r.dev r.n tms tdi k] := by
  unfold outTo
  rw [List.range_succ, List.map_append]
  apply ByteArray.ext
  rw [ByteArray.data_append]
  apply Array.ext'
  rw [Array.toList_append, bs_list, bs_list, bs_list]
  rfl
theorem outTo_size (r : Devs) (tms tdi : List UInt8) (k : Nat) : (outTo r tms tdi k).size = k := by
  unfold outTo
  rw [bs_size, List.length_map, List.length_range]

theorem ref_clock {w wr : World} {rb gc gs mi mo : Nat} {da : Option Addr} {dcap : Nat} {r : Devs} {tms tdi : ByteArray} {k : Nat} (h : RefI w rb gc gs mi mo da dcap r tms.data.toList tdi.data.toList k wr) (z1 : tms.size ≤ 20000) (b1 : tms.data.toList.all bitB = true) (b2 : tdi.data.toList.all bitB = true) (hk : k < tms.size) (hk2 : k < tdi.size) :
    Calls Tryz.prog 12 #[.pointer (some ⟨rb, 0, none⟩), .int .i64 (IntKind.i64.wrap (IntKind.u8.wrap ((tms[k].toNat : Int) - 48))), .int .i64 (IntKind.i64.wrap (IntKind.u8.wrap ((tdi[k].toNat : Int) - 48)))] wr fun e w' => e = .returned (.int .i64 (clockV r.n (stAt tms.data.toList k) tdi[k] (psAt r.dev tms.data.toList tdi.data.toList k))) ∧ RefI w rb gc gs mi mo da dcap r tms.data.toList tdi.data.toList (k + 1) w' := by
  obtain ⟨h1, h2⟩ := h
  have e1 : bitB tms[k] = true := List.all_eq_true.1 b1 _ (by simp [ByteArray.getElem_eq_getElem_data])
  have e2 : bitB tdi[k] = true := List.all_eq_true.1 b2 _ (by simp [ByteArray.getElem_eq_getElem_data])
  rw [bitv_mod e1, bitv_mod e2]
  have hu := h1.up
  refine (refClock_any w.heap.size (1000 + 30 * k) wr rb gc gs mi mo da dcap _ r _ h1 tms[k] tdi[k] e1 e2 (by omega)).mono ?_
  rintro e w' ⟨rfl, hR, hT⟩
  refine ⟨rfl, ?_, hT.under h2 h2.size ?_⟩
  · have hst : stAt tms.data.toList (k + 1) = nx (stAt tms.data.toList k) tms[k] := stAt_succ tms k hk
    have hps : psAt r.dev tms.data.toList tdi.data.toList (k + 1) = stepS r.dev (stAt tms.data.toList k) tdi[k] (psAt r.dev tms.data.toList tdi.data.toList k) := by
      rw [← getD_at tdi k hk2]
      rfl
    rw [hst, hps]
    exact hR
  · intro b hb hS
    rcases hS with e | e | e | e <;> omega
theorem RefI.drew {w wr : World} {rb gc gs mi mo : Nat} {da : Option Addr} {dcap : Nat} {r : Devs} {tms tdi : List UInt8} {k : Nat} (h : RefI w rb gc gs mi mo da dcap r tms tdi k wr) : RefI w rb gc gs mi mo da dcap r tms tdi k wr.drew := ⟨h.1.drew, h.2.drew⟩

end Go.Proofs.YtkipkkaloiefpaaGreatDoor
/- The reference's NewPort: what holds of a port that is being made. -/
namespace Go.Proofs.YtkipkkaloiefpaaGreatDoor
open Go.RowKit Go.Maps

/-- An entry and the store through it, in whatever world has the map's block as it is here. -/
theorem LMap.entries {P : Program} {k e : TypeId} {R : Value → Option (DataW Unit × List MemPlace)} {w : World} {b n : Nat} {M : Lit → Option Lit} (h : LMap P k R w b n M) (K : Go.WideMaps.KeyLaw P k) {t : TypeId} (ht : P.underlying t = some (.map k e)) (hn : n < 1000000) {z : Value} (hz : ∀ u : World, (zeroValue e).run P u = .ok z u) (key : Value) (kl : Lit) (hkey : keyOf P k key = some kl) (l : Lit) (val : Value) (hl : R val = some (.lit l, [])) :
    ∃ (v0 : World → Value) (st : World → Nat) (o1 : World → Obj) (o2 : World → World → Obj),
      (∀ u : World, u.heap[b]? = w.heap[b]? → (Instr.mapEntry t (.map (some b)) key).run P u = .ok (.tuple #[v0 u, .int .i64 (st u : Int)]) (Go.ChangeMaps.setBlock u b (o1 u))) ∧
      (∀ u x : World, u.heap[b]? = w.heap[b]? → x.heap[b]? = some (o1 u) → (Instr.entryStore t (.map (some b)) (.int .i64 (st u : Int)) val).run P x = .ok () (Go.ChangeMaps.setBlock x b (o2 u x))) ∧
      ∀ u x y : World, u.heap[b]? = w.heap[b]? → x.heap[b]? = some (o1 u) → y.heap[b]? = some (o2 u x) → LMap P k R y b (n + 1) (putL M kl l) := by
  have H : ∀ u : World, ∃ p : Value × Nat × Obj, u.heap[b]? = w.heap[b]? → (Instr.mapEntry t (.map (some b)) key).run P u = .ok (.tuple #[p.1, .int .i64 (p.2.1 : Int)]) (Go.ChangeMaps.setBlock u b p.2.2) ∧
      ∀ x : World, x.heap[b]? = some p.2.2 → ∃ o2, (Instr.entryStore t (.map (some b)) (.int .i64 (p.2.1 : Int)) val).run P x = .ok () (Go.ChangeMaps.setBlock x b o2) ∧ ∀ y : World, y.heap[b]? = some o2 → LMap P k R y b (n + 1) (putL M kl l) := by
    intro u
    by_cases hu : u.heap[b]? = w.heap[b]?
    · obtain ⟨v0, st, o1, h1, h2⟩ := LMap.entry (h.block hu) K ht hn hz key kl hkey
      exact ⟨(v0, st, o1), fun _ => ⟨h1, fun x hx => h2 x l val hl hx⟩⟩
    · exact ⟨(key, 0, .map #[] 0), fun hc => absurd hc hu⟩
  obtain ⟨p, hp⟩ := Classical.axiomOfChoice H
  have H2 : ∀ q : World × World, ∃ o2, q.1.heap[b]? = w.heap[b]? → q.2.heap[b]? = some (p q.1).2.2 → (Instr.entryStore t (.map (some b)) (.int .i64 ((p q.1).2.1 : Int)) val).run P q.2 = .ok () (Go.ChangeMaps.setBlock q.2 b o2) ∧ ∀ y : World, y.heap[b]? = some o2 → LMap P k R y b (n + 1) (putL M kl l) := by
    intro q
    by_cases hu : q.1.heap[b]? = w.heap[b]?
    · by_cases hx : q.2.heap[b]? = some (p q.1).2.2
      · obtain ⟨o2, h1⟩ := (hp q.1 hu).2 q.2 hx
        exact ⟨o2, fun _ _ => h1⟩
      · exact ⟨.map #[] 0, fun _ hc => absurd hc hx⟩
    · exact ⟨.map #[] 0, fun hc => absurd hc hu⟩
  obtain ⟨o2, ho2⟩ := Classical.axiomOfChoice H2
  exact ⟨fun u => (p u).1, fun u => (p u).2.1, fun u => (p u).2.2, fun u x => o2 (u, x), fun u hu => (hp u hu).1, fun u x hu hx => (ho2 (u, x) hu hx).1, fun u x y hu hx hy => (ho2 (u, x) hu hx).2 y hy⟩

/-- A port of the reference that is being made: q registers' rows, k devices whole and m registers of the next one; the entries of a map are at most N. -/
structure PortI (B : Nat) (w0 : World) (gc mi mo rb : Nat) (da : Option Addr) (dcap : Nat) (r : Devs) (v : Value) (q k m N : Nat) (w : World) : Prop where
  c0 : w.cell? ⟨rb, 0, none⟩ = some (.slice da r.n dcap)
  c1 : w.cell? ⟨rb, 1, none⟩ = some (.int .i64 0)
  fr : ∀ j, j < 6 → w.frozen? ⟨rb, j, none⟩ = false
  c2 : w.cell? ⟨rb, 2, none⟩ = some (.slice (some ⟨gc, 0, none⟩) r.n r.n)
  c3 : w.cell? ⟨rb, 3, none⟩ = some v
  c4 : w.cell? ⟨rb, 4, none⟩ = some (.map (some mi))
  c5 : w.cell? ⟨rb, 5, none⟩ = some (.map (some mo))
  codes : ∀ j, j < r.n → w.cell? ⟨gc, j, none⟩ = some (.string ⟨#[]⟩) ∧ w.frozen? ⟨gc, j, none⟩ = false
  row : w.ownsRow (B + 4) 9 1 v q (List.replicate q (.string ⟨#[48]⟩))
  inM : ∃ M, LMap Tryz.prog 75 (plainElem Tryz.prog 9) w mi N M ∧ NewPairs r M k m
  outM : ∃ M, LMap Tryz.prog 75 (plainElem Tryz.prog 9) w mo N M ∧ NewPairs r M k m
  below : Below B w0 w
  size : B + 4 ≤ w.heap.size
  at4 : gc = B ∧ mi = B + 1 ∧ mo = B + 2 ∧ rb = B + 3

/-- Other blocks than the row's, the maps' and the struct's may be new; what the port holds stays. -/
theorem PortI.kept {B : Nat} {w0 : World} {gc mi mo rb : Nat} {da : Option Addr} {dcap : Nat} {r : Devs} {v : Value} {q k m N : Nat} {w w' : World} (h : PortI B w0 gc mi mo rb da dcap r v q k m N w) (hB : Below w.heap.size w w') : PortI B w0 gc mi mo rb da dcap r v q k m N w' := by
  obtain ⟨e1, e2, e3, e4⟩ := h.at4
  have hs := h.size
  have hc : ∀ b j, b < B + 4 → w'.cell? ⟨b, j, none⟩ = w.cell? ⟨b, j, none⟩ := fun b j hb => World.cell?_of_block (a := ⟨b, j, none⟩) (hB.block b (by omega))
  have hf : ∀ b j, b < B + 4 → w'.frozen? ⟨b, j, none⟩ = w.frozen? ⟨b, j, none⟩ := fun b j hb => World.frozen?_of_block (a := ⟨b, j, none⟩) (hB.block b (by omega))
  obtain ⟨M, hM, hM2⟩ := h.inM
  obtain ⟨M', hM', hM2'⟩ := h.outM
  exact {
    c0 := (hc _ _ (by omega)).trans h.c0
    c1 := (hc _ _ (by omega)).trans h.c1
    fr := fun j hj => (hf _ _ (by omega)).trans (h.fr j hj)
    c2 := (hc _ _ (by omega)).trans h.c2
    c3 := (hc _ _ (by omega)).trans h.c3
    c4 := (hc _ _ (by omega)).trans h.c4
    c5 := (hc _ _ (by omega)).trans h.c5
    codes := fun j hj => ⟨(hc _ _ (by omega)).trans (h.codes j hj).1, (hf _ _ (by omega)).trans (h.codes j hj).2⟩
    row := row_below h.row hB
    inM := ⟨M, hM.block (hB.block mi (by omega)), hM2⟩
    outM := ⟨M', hM'.block (hB.block mo (by omega)), hM2'⟩
    below := h.below.trans (hB.mono (by omega))
    size := Nat.le_trans hs hB.size
    at4 := h.at4 }

/-- A register more. -/
theorem PortI.put {B : Nat} {w0 : World} {gc mi mo rb : Nat} {da : Option Addr} {dcap : Nat} {r : Devs} {v : Value} {q k m N : Nat} {w y : World} (h : PortI B w0 gc mi mo rb da dcap r v q k m N w) (hb : ∀ b, b ≠ mi → b ≠ mo → y.heap[b]? = w.heap[b]?) (e1 : y.os = w.os) (e2 : y.tape = w.tape) (e3 : y.output = w.output) (e4 : y.heap.size = w.heap.size)
    (h1 : ∃ M, LMap Tryz.prog 75 (plainElem Tryz.prog 9) y mi (N + 1) M ∧ NewPairs r M k (m + 1)) (h2 : ∃ M, LMap Tryz.prog 75 (plainElem Tryz.prog 9) y mo (N + 1) M ∧ NewPairs r M k (m + 1)) : PortI B w0 gc mi mo rb da dcap r v q k (m + 1) (N + 1) y := by
  obtain ⟨a1, a2, a3, a4⟩ := h.at4
  have hc : ∀ b j, b ≠ mi → b ≠ mo → y.cell? ⟨b, j, none⟩ = w.cell? ⟨b, j, none⟩ := fun b j n1 n2 => World.cell?_of_block (a := ⟨b, j, none⟩) (hb b n1 n2)
  have hf : ∀ b j, b ≠ mi → b ≠ mo → y.frozen? ⟨b, j, none⟩ = w.frozen? ⟨b, j, none⟩ := fun b j n1 n2 => World.frozen?_of_block (a := ⟨b, j, none⟩) (hb b n1 n2)
  exact {
    c0 := (hc _ _ (by omega) (by omega)).trans h.c0
    c1 := (hc _ _ (by omega) (by omega)).trans h.c1
    fr := fun j hj => (hf _ _ (by omega) (by omega)).trans (h.fr j hj)
    c2 := (hc _ _ (by omega) (by omega)).trans h.c2
    c3 := (hc _ _ (by omega) (by omega)).trans h.c3
    c4 := (hc _ _ (by omega) (by omega)).trans h.c4
    c5 := (hc _ _ (by omega) (by omega)).trans h.c5
    codes := fun j hj => ⟨(hc _ _ (by omega) (by omega)).trans (h.codes j hj).1, (hf _ _ (by omega) (by omega)).trans (h.codes j hj).2⟩
    row := row_block h.row (fun g hg => hb g (by have := (h.row.lt g hg).1; omega) (by have := (h.row.lt g hg).1; omega))
    inM := h1
    outM := h2
    below := ⟨e1.trans h.below.os, e2.trans h.below.tape, e3.trans h.below.output, by rw [e4]; exact h.below.size, fun b hb' => (hb b (by omega) (by omega)).trans (h.below.block b hb')⟩
    size := by rw [e4]; exact h.size
    at4 := h.at4 }

/-- A row's element more: the struct has it. -/
theorem PortI.push {B : Nat} {w0 : World} {gc mi mo rb : Nat} {da : Option Addr} {dcap : Nat} {r : Devs} {v : Value} {q k N : Nat} {w w4 : World} {g cap : Nat} (h : PortI B w0 gc mi mo rb da dcap r v q k 0 N w) (hb : ∀ b, b < w.heap.size → some b ≠ v.ownBlock → w4.heap[b]? = w.heap[b]?) (hrow : w4.ownsRow (B + 4) 9 1 (.slice (some ⟨g, 0, none⟩) (q + 1) cap) (q + 1) (List.replicate q (.string ⟨#[48]⟩) ++ [.string ⟨#[48]⟩])) (hBel : Below B w0 w4) (hs : w.heap.size ≤ w4.heap.size) :
    PortI B w0 gc mi mo rb da dcap r (.slice (some ⟨g, 0, none⟩) (q + 1) cap) (q + 1) k 0 N (w4.setCell ⟨rb, 3, none⟩ (.slice (some ⟨g, 0, none⟩) (q + 1) cap)) := by
  obtain ⟨a1, a2, a3, a4⟩ := h.at4
  have hsz := h.size
  have hv : ∀ g, v.ownBlock = some g → B + 4 ≤ g := fun g hg => (h.row.lt g hg).1
  have hb4 : ∀ b, b < B + 4 → w4.heap[b]? = w.heap[b]? := fun b hlt => hb b (by omega) (fun e => by have := hv b e.symm; omega)
  have hc : ∀ b j, b < B + 4 → w4.cell? ⟨b, j, none⟩ = w.cell? ⟨b, j, none⟩ := fun b j hlt => World.cell?_of_block (a := ⟨b, j, none⟩) (hb4 b hlt)
  have hf : ∀ b j, b < B + 4 → w4.frozen? ⟨b, j, none⟩ = w.frozen? ⟨b, j, none⟩ := fun b j hlt => World.frozen?_of_block (a := ⟨b, j, none⟩) (hb4 b hlt)
  have hs5 : (w4.setCell ⟨rb, 3, none⟩ (.slice (some ⟨g, 0, none⟩) (q + 1) cap)).heap.size = w4.heap.size := by simp [World.setCell]
  have hb5 : ∀ b, b ≠ rb → (w4.setCell ⟨rb, 3, none⟩ (.slice (some ⟨g, 0, none⟩) (q + 1) cap)).heap[b]? = w4.heap[b]? := fun b hne => Below.heap_setCell _ _ _ b hne
  have hc5 : ∀ b j, (b ≠ rb ∨ j ≠ 3) → b < B + 4 → (w4.setCell ⟨rb, 3, none⟩ (.slice (some ⟨g, 0, none⟩) (q + 1) cap)).cell? ⟨b, j, none⟩ = w.cell? ⟨b, j, none⟩ := fun b j hne hlt => by
    rw [World.cell?_setCell_other _ _ _ _ (by simp; omega)]
    exact hc b j hlt
  obtain ⟨M, hM, hM2⟩ := h.inM
  obtain ⟨M', hM', hM2'⟩ := h.outM
  exact {
    c0 := (hc5 _ _ (.inr (by decide)) (by omega)).trans h.c0
    c1 := (hc5 _ _ (.inr (by decide)) (by omega)).trans h.c1
    fr := fun j hj => by rw [World.frozen?_setCell]; exact (hf _ _ (by omega)).trans (h.fr j hj)
    c2 := (hc5 _ _ (.inr (by decide)) (by omega)).trans h.c2
    c3 := World.cell?_setCell_same _ _ _ ((hc _ _ (by omega)).trans h.c3)
    c4 := (hc5 _ _ (.inr (by decide)) (by omega)).trans h.c4
    c5 := (hc5 _ _ (.inr (by decide)) (by omega)).trans h.c5
    codes := fun j hj => ⟨(hc5 _ _ (.inl (by omega)) (by omega)).trans (h.codes j hj).1, by rw [World.frozen?_setCell]; exact (hf _ _ (by omega)).trans (h.codes j hj).2⟩
    row := by
      rw [List.replicate_succ']
      exact row_block hrow (fun g' hg' => hb5 g' (by have := (hrow.lt g' hg').1; omega))
    inM := ⟨M, hM.block ((hb5 mi (by omega)).trans (hb4 mi (by omega))), hM2⟩
    outM := ⟨M', hM'.block ((hb5 mo (by omega)).trans (hb4 mo (by omega))), hM2'⟩
    below := hBel.setCell (by show B ≤ rb; omega) _
    size := by rw [hs5]; omega
    at4 := h.at4 }

/-- At the end it is a new port. -/
theorem PortI.done {w0 : World} {gc mi mo rb : Nat} {da : Option Addr} {dcap : Nat} {r : Devs} {v : Value} {N : Nat} {w : World} (h : PortI w0.heap.size w0 gc mi mo rb da dcap r v r.n r.n 0 N w) (hN : N ≤ 1000) (hat : DevsAt w0.heap.size w0 da r) (he : devsErr r = 0) :
    ∃ gs, w0.heap.size ≤ gs ∧ RefAt w0.heap.size 1000 w rb gc gs mi mo da dcap 0 r (fun k => newPS (r.dev k)) := by
  obtain ⟨hn, hsure⟩ := devs_sure hat he
  obtain ⟨a1, a2, a3, a4⟩ := h.at4
  obtain ⟨M, hM, hM2⟩ := h.inM
  obtain ⟨M', hM', hM2'⟩ := h.outM
  have c3 := h.c3
  obtain ⟨hl, ⟨_, h0⟩ | ⟨g, cp, cur, rfl, hg, hgb, hcn, hc, hcs, ht⟩⟩ := h.row
  · omega
  have hregs : ∀ k, k < r.n → ∀ m, m < (r.dev k).regs.n → ((r.dev k).regs.name m).size ≤ 1048576 := fun k hk m hm => by
    obtain ⟨b, off, _, _, hcc⟩ := (hat.ok hk).regs.cells (by omega)
    exact (hcc m hm).2.2
  have hshift : ∀ k, k < r.n → w.cell? ⟨g, k, none⟩ = some (.string ⟨#[48]⟩) ∧ w.frozen? ⟨g, k, none⟩ = false := fun j hj => by
    have h6 : cur[j]? = some (.string ⟨#[48]⟩) := by
      have h7 : (cur.toList.take (r.n * 1))[j]? = (List.replicate r.n (Value.string ⟨#[48]⟩))[j]? := by rw [ht]
      rw [List.getElem?_take_of_lt (by omega)] at h7
      simp only [Array.getElem?_toList] at h7
      rw [h7]
      simp [hj]
    refine ⟨?_, ?_⟩
    · unfold World.cell?
      simp only [hgb]
      simpa using h6
    · unfold World.frozen?
      simp only [hgb]
      simp
  have hnames : ∀ i j, i < r.n → j < r.n → i ≠ j → (r.dev i).name ≠ (r.dev j).name := fun i j hi hj hij e => by
    rcases Nat.lt_or_gt_of_ne hij with hlt | hlt
    · have h1 := (hsure j hj).2
      have h2 := hasName_hit (xs := r.name) (s := r.name j) (k := i) (by show ((r.dev i).name.toList == (r.dev j).name.toList) = true; rw [e]; simp) j hlt
      rw [h1] at h2
      cases h2
    · have h1 := (hsure i hi).2
      have h2 := hasName_hit (xs := r.name) (s := r.name i) (k := j) (by show ((r.dev j).name.toList == (r.dev i).name.toList) = true; rw [e]; simp) i hlt
      rw [h1] at h2
      cases h2
  exact ⟨g, by omega, RefAt.fresh hn (hat.below h.below (Nat.le_refl _)) (fun k hk => (hsure k hk).1) hnames hregs h.c0 h.c1 (h.fr 1 (by decide)) ⟨_, h.c2⟩ ⟨_, c3⟩ h.c4 h.c5 h.codes hshift ⟨M, hM.up hN, hM2⟩ ⟨M', hM'.up hN, hM2'⟩ (by omega) (by omega)⟩
end Go.Proofs.YtkipkkaloiefpaaGreatDoor
