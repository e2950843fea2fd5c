/- The walk of ChainsClocked: it returns true, and turns nothing that was there. -/
import Derived.Test.YtkipkkaloiefpaaGreatDoorM17
import Derived.Test.YtkipkkaloiefpaaGreatDoorDvsF
import Derived.Test.YtkipkkaloiefpaaGreatDoorTapped
import Derived.Test.YtkipkkaloiefpaaGreatDoorM1
namespace Go.Proofs.YtkipkkaloiefpaaGreatDoor
open Go.RowKit Go.Maps

/-- The reference's port, above a lower block. -/
theorem RefAt.lower {B B' N : Nat} {w : World} {rb gc gs mi mo : Nat} {da : Option Addr} {dcap st : Nat} {r : Devs} {ps : Nat → PS} (h : RefAt B N w rb gc gs mi mo da dcap st r ps) (hd : DevsAt B' w da r) (hB : B' ≤ B) : RefAt B' N w rb gc gs mi mo da dcap st r ps := by
  obtain ⟨u1, u2, u3, u4, u5⟩ := h.up
  exact { h with devs := hd, up := ⟨by omega, by omega, by omega, by omega, by omega⟩ }

/-- Both are new. -/
theorem Two.new {r : Devs} {w1 w2 w3 w4 : World} {o : Nat → Nat} {cb g cap mb : Nat} {pbs : Nat → Nat} {rb gc gs mi mo : Nat} {da : Option Addr} {dcap : Nat} (he : devsErr r = 0) (hat : DevsAt w1.heap.size w1 da r) (hT : Tab w1) (hTl : 0 < w1.heap.size)
    (hB12 : Below w1.heap.size w1 w2) (ho : ∀ b, b < w1.heap.size → o b = r.n + 1) (hC : ChainAt o r.n 100 w2 cb g cap mb pbs 0 r.dev (fun k => newPS (r.dev k))) (hB23 : Below w2.heap.size w2 w3) (hB34 : Below w3.heap.size w3 w4)
    (hup : w3.heap.size ≤ rb ∧ w3.heap.size ≤ gc ∧ w3.heap.size ≤ gs ∧ w3.heap.size ≤ mi ∧ w3.heap.size ≤ mo) (hR : RefAt w3.heap.size 1000 w4 rb gc gs mi mo da dcap 0 r (fun k => newPS (r.dev k))) :
    Two ⟨cb, g, cap, mb, pbs, rb, gc, gs, mi, mo, da, dcap, r⟩ w1.heap.size rb 1000 w4 0 0 (fun k => newPS (r.dev k)) (fun k => newPS (r.dev k)) := by
  obtain ⟨hn, hsure⟩ := devs_sure hat he
  obtain ⟨u1, u2, u3, u4, u5⟩ := hup
  have s12 := hB12.size
  have s23 := hB23.size
  have hB14 : Below w1.heap.size w1 w4 := (hB12.trans (hB23.mono s12)).trans (hB34.mono (by omega))
  have hrb := hR.lt.1
  refine ⟨fun b => if b < w3.heap.size then o b else r.n + 1, fun b hb => (if_pos (by omega)).trans (ho b hb), ⟨if_neg (by show ¬ rb < _; omega), if_neg (by show ¬ gc < _; omega), if_neg (by show ¬ gs < _; omega), if_neg (by show ¬ mi < _; omega), if_neg (by show ¬ mo < _; omega)⟩, ⟨if_neg (by omega), hrb⟩, ?_, hR.lower (hat.below hB14 (Nat.le_refl _)) (by omega), fun k hk => newPS_good (r.dev k) (hsure k hk).1.longs, hT.below hB14 hTl, hTl⟩
  exact ((hC.later (fun _ _ => rfl) hB23).later (fun b hb => if_pos hb) hB34).up (by omega)

section
variable {q : Tw} {B sb : Nat} {w0 : World} {N t st : Nat} {ps : Nat → PS} {W : World}
/-- A clock of both, with TDI 0: the chain. -/
theorem Jay.clock (h : Jay q B sb w0 N t st ps W) (c : UInt8) (hc : bitB c = true) (hN : N < 600000) :
    Calls Tryz.prog 11 #[.pointer (some ⟨q.cb, 0, none⟩), .int .i64 (bitv c), .int .i64 0] W fun e w' => (∃ v, e = .returned v) ∧ Two q B q.rb (N + 1) w' (clk q.r.dev (st, ps) c 48).1 st (clk q.r.dev (st, ps) c 48).2 ps ∧ Below B W w' := by
  refine (two_clock h.two c 48 hc rfl (by omega)).mono ?_
  rintro e w' ⟨rfl, h1, h2⟩
  exact ⟨⟨_, rfl⟩, h1, h2⟩
/-- .. and the reference. -/
theorem Jay.clock2 {W' : World} (h : Jay q B sb w0 N t st ps W) (hf : Far q B sb) (c : UInt8) (hc : bitB c = true) (hN : N < 600000) (h1 : Two q B q.rb (N + 1) W' (clk q.r.dev (st, ps) c 48).1 st (clk q.r.dev (st, ps) c 48).2 ps) (h2 : Below B W W') :
    Calls Tryz.prog 12 #[.pointer (some ⟨q.rb, 0, none⟩), .int .i64 (bitv c), .int .i64 0] W' fun e w' => (∃ v, e = .returned v) ∧ Jay q B sb w0 (N + 40) t (clk q.r.dev (st, ps) c 48).1 (clk q.r.dev (st, ps) c 48).2 w' := by
  refine (two_refClock h1 c 48 hc rfl (by omega)).mono ?_
  rintro e w' ⟨rfl, g1, g2, -⟩
  exact ⟨⟨_, rfl⟩, (Jay.step h hf g1 (h.fit.clk h.two.sure hc rfl).len (h2.trans g2)).more (by omega)⟩
end

/-- Some state, some ports. -/
def SomeJay (q : Tw) (B sb : Nat) (w0 : World) (N t : Nat) (W : World) : Prop := ∃ st ps t', t' ≤ t ∧ Jay q B sb w0 N t' st ps W

set_option maxHeartbeats 8000000 in
set_option maxRecDepth 100000 in
theorem claw_any (a0 : Option Addr) (len cap : Nat) (w : World) (h : RowIn w a0 len) (hT : Tab w) (hz : Tz w) :
    Calls Tryz.prog 3 #[.slice a0 len cap] w fun e w' => e = .returned (.bool true) ∧ Below w.heap.size w w' := by
  have hTl := hT.lt
  have hzl := hz.lt
  have hs := Strm.start (cap := cap) h
  obtain ⟨W0, hW0⟩ : ∃ W0 : World, w.alloc (.cells #[.slice a0 len cap, .int .i64 0] 25) = W0 := ⟨_, rfl⟩
  rw [hW0] at hs
  have hB0 : Below w.heap.size w W0 := by rw [← hW0]; exact (Below.refl _ w).alloc (Nat.le_refl _) _
  have hs0 := hs.lt
  have hzW := hz.below hB0 hzl
  have hTW := hT.below hB0 hTl
  have hdev := devices_any w.heap.size W0 hs hzW (by omega) 2 (by decide) (by decide)
  clear h hz
  go_enter Tryz.func3, Tryz.ntmps3
  go_wp2_with fail
  have HW0 := Lib.hid hW0
  clear hW0
  refine hdev.mono ?_
  rintro e w1 ⟨da, dcap, r, rfl, hcap, hat, hfa, hfp, hr⟩
  clear hdev
  have hT1 : Tab w1 := hTW.kept (hr.1.block _ (by omega) (fun e => by have := Option.some.inj e; omega))
  have hB1 : Below w.heap.size w w1 := hB0.trans (hr.below (by omega))
  have hs1 := hr.1.size
  by_cases he : devsErr r = 0
  · have hne := new_ok r w1 da dcap hat he
    have hdf := fun W (hW : Below w1.heap.size w1 W) => devicesFault_any W da dcap r hcap ((hat.below hW (Nat.le_refl _)).up hW.size)
    rw [he] at hdf
    have hnp : ∀ W, Below w1.heap.size w1 W → PortMade W da dcap r := fun W hW => newPort_ref r W da dcap ((hat.below hW (Nat.le_refl _)).up hW.size) he
    unfold PortMade at hnp
    obtain ⟨⟨hn1, hn20⟩, hsure⟩ := devs_sure hat he
    have HX := Lib.hid (⟨he, hat, hT1, hB1, hfa, hfp, hr, hsure⟩ : _ ∧ _ ∧ _ ∧ _ ∧ _ ∧ _ ∧ _ ∧ _)
    have HD := Lib.hid hdf
    have HN := Lib.hid hnp
    have HT := Lib.hid hT
    clear he hat hfa hfp hr hT1 hB1 hTW hB0 hzW hT hdf hs hnp hsure
    go_wp2_with fail
    refine hne.mono ?_
    rintro e w2 ⟨o, cb, g, cp, mb, pbs, rfl, hB2, ho, hC⟩
    have hd2 := HD.out w2 hB2
    have H2 := Lib.hid (⟨hB2, ho, hC⟩ : _ ∧ _ ∧ _)
    clear hne hB2 ho hC HD
    go_wp2_with fail
    refine hd2.mono ?_
    rintro e w3 ⟨rfl, hB3⟩
    have hn3 := HN.out w3 (H2.out.1.trans (hB3.mono H2.out.1.size))
    have H3 := Lib.hid hB3
    clear hd2 hB3 HN
    go_wp2_with fail
    refine hn3.mono ?_
    rintro e w4 ⟨rb, gc, gs, mi, mo, rfl, hB4, u1, u2, u3, u4, u5, hR⟩
    obtain ⟨q, hq⟩ : ∃ q : Tw, q = ⟨cb, g, cp, mb, pbs, rb, gc, gs, mi, mo, da, dcap, r⟩ := ⟨_, rfl⟩
    have hfj : Far q w1.heap.size w.heap.size ∧ SomeJay q w1.heap.size w.heap.size w 1000 1000 w4 := by
      obtain ⟨he, hat, hT1, hB1, hfa, hfp, hr, hsure⟩ := HX.out
      obtain ⟨hB2, ho, hC⟩ := H2.out
      have hB14 : Below w1.heap.size w1 w4 := (hB2.trans (H3.out.mono hB2.size)).trans (hB4.mono (Nat.le_trans hB2.size H3.out.size))
      rw [hq]
      obtain ⟨t1, _, ht1, hst1⟩ := hr.strm
      refine ⟨⟨by omega, hfa, hfp, by omega⟩, 0, fun k => newPS (r.dev k), t1, by omega, Two.new he hat hT1 (by omega) hB2 ho hC H3.out hB4 ⟨u1, u2, u3, u4, u5⟩ hR, fun k hk => LenS.new (r.dev k), hst1.below hB14 (by omega), hB1.trans (hB14.mono hB1.size)⟩
    have ecb : cb = q.cb := by rw [hq]
    have erb : rb = q.rb := by rw [hq]
    rw [ecb, erb]
    have HJ := Lib.hid hfj
    clear hn3 hB4 u1 u2 u3 u4 u5 hR hq hfj HX H2 H3 ecb erb
    generalize w1.heap.size = B at HJ
    clear hs1
    obtain ⟨st0, ps0, t0, ht0, hJ0⟩ := HJ.out.2
    have hsm := hJ0.strm
    have HJ0 := Lib.hid hJ0
    clear hJ0
    go_wp2_with fail
    refine (range_any w.heap.size t0 1 20 _ hsm (by omega) (by decide) (by decide) (by decide)).mono ?_
    rintro e w5 ⟨⟨zr, hz1, hz20, rfl⟩, hr⟩
    obtain ⟨m, rfl⟩ : ∃ m : Nat, zr = (m : Int) := ⟨zr.toNat, by omega⟩
    obtain ⟨t5, ht5, ht5', hJ5⟩ := HJ0.out.ran HJ.out.1 hr
    have hS : SomeJay q B w.heap.size w (1000 + 4000 * 0) (1100 + 300 * 0) w5 := ⟨st0, ps0, t5, by omega, hJ5⟩
    have HS := Lib.hid hS
    have HFar := Lib.hid HJ.out.1
    clear hr hJ5 hS HJ0 HJ hsm
    go_wp2_with fail
    go_loopw [43] (fun i wr => ∃ k : Nat, k ≤ m ∧ i = .int .i64 (k : Int) ∧ SomeJay q B w.heap.size w (1000 + 4000 * k) (1100 + 300 * k) wr) (fun i _ => m - (intOf i).toNat)
    case atStart => exact ⟨0, by omega, rfl, HS.out⟩
    case round =>
      clear HS
      obtain ⟨k, hk, rfl, hS⟩ := hrel
      obtain ⟨st, ps, t, htk, hJ⟩ := hS
      by_cases hlt : k < m
      · obtain ⟨wo, rfl⟩ : ∃ wo : World, wo = wr := ⟨_, rfl⟩
        have hsm := hJ.strm
        have HJ := Lib.hid hJ
        clear hJ
        go_wp2_with fail
        refine (flip_any w.heap.size t 3 _ hsm (by omega) (by decide) (by decide)).mono ?_
        rintro e w6 ⟨⟨fl, rfl⟩, hr⟩
        obtain ⟨t6, ht6, ht6', hJ6⟩ := HJ.out.ran HFar.out hr
        have HJ6 := Lib.hid hJ6
        clear hr hJ6 HJ hsm
        go_upto_if 46 with (fail)
        go_cut [47] (fun _ wx => SomeJay q B w.heap.size w (1000 + 4000 * k + 300) (1100 + 300 * k + 1) wx)
        case first =>
          cases fl
          · go_wp2_with fail
            go_meet
            exact ⟨st, ps, t6, by omega, HJ6.out.more (by omega)⟩
          · have h0 : SomeJay q B w.heap.size w (1000 + 4000 * k + 40 * 0) (1100 + 300 * k + 1) w6 := ⟨st, ps, t6, by omega, HJ6.out⟩
            have H0 := Lib.hid h0
            clear h0
            go_wp2_with fail
            go_loopw [47] (fun i wx => ∃ j : Nat, j ≤ 5 ∧ i = .int .i64 (j : Int) ∧ SomeJay q B w.heap.size w (1000 + 4000 * k + 40 * j) (1100 + 300 * k + 1) wx) (fun i _ => 5 - (intOf i).toNat)
            case atStart => exact ⟨0, by omega, rfl, H0.out⟩
            case round =>
              clear H0
              obtain ⟨j, hj, rfl, hS⟩ := hrel
              obtain ⟨st7, ps7, t7, ht7, hJ7⟩ := hS
              by_cases hlt2 : j < 5
              · have hc1 : Calls Tryz.prog 11 #[.pointer (some ⟨q.cb, 0, none⟩), .int .i64 1, .int .i64 0] wr _ := hJ7.clock 49 rfl (by omega)
                have HJ7 := Lib.hid hJ7
                clear hJ7
                go_wp2_with fail
                refine hc1.mono ?_
                rintro e w8 ⟨⟨v, rfl⟩, hT8, hB8⟩
                have hc2 : Calls Tryz.prog 12 #[.pointer (some ⟨q.rb, 0, none⟩), .int .i64 1, .int .i64 0] w8 _ := HJ7.out.clock2 HFar.out 49 rfl (by omega) hT8 hB8
                clear hc1 hT8 hB8
                go_wp2_with fail
                refine hc2.mono ?_
                rintro e w9 ⟨⟨v, rfl⟩, hJ9⟩
                have HJ9 := Lib.hid hJ9
                clear hc2 hJ9
                go_wp2_with fail
                go_roundw
                case rel => exact ⟨j + 1, by omega, by go_num, _, _, t7, by omega, HJ9.out.more (by omega)⟩
                case measure => simp [intOf]; omega
              · obtain rfl : j = 5 := by omega
                have hc1 : Calls Tryz.prog 11 #[.pointer (some ⟨q.cb, 0, none⟩), .int .i64 0, .int .i64 0] wr _ := hJ7.clock 48 rfl (by omega)
                have HJ7 := Lib.hid hJ7
                clear hJ7
                go_wp2_with fail
                refine hc1.mono ?_
                rintro e w8 ⟨⟨v, rfl⟩, hT8, hB8⟩
                have hc2 : Calls Tryz.prog 12 #[.pointer (some ⟨q.rb, 0, none⟩), .int .i64 0, .int .i64 0] w8 _ := HJ7.out.clock2 HFar.out 48 rfl (by omega) hT8 hB8
                clear hc1 hT8 hB8
                go_wp2_with fail
                refine hc2.mono ?_
                rintro e w9 ⟨⟨v, rfl⟩, hJ9⟩
                have HJ9 := Lib.hid hJ9
                clear hc2 hJ9
                go_wp2_with fail
                go_meet
                exact ⟨_, _, t7, by omega, HJ9.out.more (by omega)⟩
        case rest =>
          obtain ⟨st7, ps7, t7, ht7, hJ7⟩ := hcut
          have hask := asked_any q B w.heap.size w _ t7 st7 ps7 wc hJ7 HFar.out (by omega) (by omega)
          clear hJ7 HJ6
          go_wp2_with fail
          refine hask.mono ?_
          rintro e w8 ⟨rfl, st8, ps8, t8, ht8, hJ8⟩
          have hc1 := chainState_any hJ8.two
          have hc2 := refState_any hJ8.two
          have HJ8 := Lib.hid hJ8
          clear hask hJ8
          go_wp2_with fail
          refine hc1.mono ?_
          rintro e w' ⟨rfl, rfl⟩
          go_wp2_with fail
          refine hc2.mono ?_
          rintro e w' ⟨rfl, rfl⟩
          clear hc1 hc2
          go_wp2_with fail
          go_roundw
          case rel => exact ⟨k + 1, by omega, by go_num, st8, ps8, t8, by omega, HJ8.out.more (by omega)⟩
          case measure => simp [intOf]; omega
      · obtain rfl : k = m := by omega
        have ht := tapped_any wr hJ.two.tab
        have HJ := Lib.hid hJ
        have hBl := hJ.below.size
        clear hJ
        go_wp2_with fail
        refine ht.mono ?_
        rintro e w6 ⟨rfl, hB6⟩
        have HF := Lib.hid (HJ.out.below.trans (hB6.mono hBl))
        clear ht hB6
        go_wp2_with fail
        go_ret
        exact ⟨rfl, HF.out⟩
  · have hne := new_err r w1 da dcap hat he
    have hdf := fun W (hW : Below w1.heap.size w1 W) => devicesFault_any W da dcap r hcap ((hat.below hW (Nat.le_refl _)).up hW.size)
    have hnz : (devsErr r != 0) = true := by simpa using he
    have hfin := fun W (hW : Below w1.heap.size w1 W) => tapped_any W (hT1.below hW (by omega))
    have HB1 := Lib.hid hB1
    have HF := Lib.hid hfin
    have HD := Lib.hid hdf
    clear he hat hfa hfp hr hT1 hB1 hTW hB0 hzW hT hfin hdf hs
    generalize devsErr r = ec at hne hnz HD
    go_wp2_with fail
    refine hne.mono ?_
    rintro e w2 ⟨rfl, hB2⟩
    have hd2 := HD.out w2 hB2
    have H2 := Lib.hid hB2
    clear hne hB2
    go_wp2_with fail
    refine hd2.mono ?_
    rintro e w3 ⟨rfl, hB3⟩
    have hB13 := H2.out.trans (hB3.mono H2.out.size)
    have ht3 := HF.out w3 hB13
    have H3 := Lib.hid hB13
    clear hd2 hB3 hB13
    go_wp2_with fail
    refine ht3.mono ?_
    rintro e w4 ⟨rfl, hB4⟩
    have hB14 := H3.out.trans (hB4.mono H3.out.size)
    have H4 := Lib.hid (HB1.out.trans (hB14.mono HB1.out.size))
    clear ht3 hB4 hB14
    go_wp2_with fail
    go_ret
    exact ⟨rfl, H4.out⟩
end Go.Proofs.YtkipkkaloiefpaaGreatDoor
