/- The walk of StatesKnown: it returns true, and turns nothing that was there. -/
import Derived.Test.YtnlejnldimihcaaDoorAll
import Derived.Deep.CutBlock
import Derived.Deep.DeepCutAuto
namespace Go.Proofs.YtnlejnldimihcaaDoor
open Go.RowKit

theorem or_at (g : Nat) (x y r : Int) (hr : r = or2 x y) (W : World) (hg : g = W.heap.size) :
    Calls Tryd.prog 8 #[.slice (some ⟨g, 0, none⟩) 2 2] (W.alloc (.cells #[.int .i64 x, .int .i64 y] 29)) fun e w' => e = .returned (.int .i64 r) ∧ Below W.heap.size W w' := by
  subst hg
  subst hr
  refine (or_any W.heap.size x y _ (cell_fresh _ _ _ rfl) (cell_fresh _ _ _ rfl)).mono ?_
  rintro e w' ⟨rfl, rfl⟩
  exact ⟨rfl, (Below.refl _ _).alloc (Nat.le_refl _) _⟩

set_option maxRecDepth 100000 in
set_option maxHeartbeats 1000000 in
theorem states_any (a0 : Option Addr) (len cap : Nat) (w : World) (h : RowIn w a0 len) (hT : Tab w) :
    Calls Tryd.prog 3 #[.slice a0 len cap] w fun e w' => e = .returned (.bool true) ∧ Below w.heap.size w w' := by
  have hlt := hT.lt
  have hs := Strm.start (cap := cap) h
  go_enter Tryd.func3, Tryd.ntmps3
  go_wp2_with fail
  refine (aState_any w.heap.size 0 _ hs (by decide)).mono ?_
  rintro e w1 ⟨⟨a, _, _, rfl⟩, hr1⟩
  obtain ⟨t1, ht1, ht1', hs1⟩ := hr1.strm
  go_wp2_with fail
  refine (aState_any w.heap.size t1 _ hs1 (by omega)).mono ?_
  rintro e w2 ⟨⟨b, _, _, rfl⟩, hr2⟩
  obtain ⟨t2, ht2, ht2', hs2⟩ := hr2.strm
  go_wp2_with fail
  refine (tms_any w.heap.size t2 12 _ hs2 (by omega) (by decide)).mono ?_
  rintro e w3 ⟨⟨tms, htms, rfl⟩, hr3⟩
  obtain ⟨t3, ht3, ht3', hs3⟩ := hr3.strm
  have hlt3 := hs3.lt
  go_wp2_with fail
  refine (pick_any w.heap.size t3 w3.heap.size 0 5 5 (fun k => [0, 1, 1, 2, -1].getD k 0) _ (hs3.alloc _) (by omega) (by decide) (by decide) (by omega) (ints_fresh w3 [0, 1, 1, 2, -1] _)).mono ?_
  rintro e w4 ⟨⟨k, hk, rfl⟩, hr4⟩
  have hb4 : Below w.heap.size w w4 := by
    have h0 : Below w.heap.size w (w.alloc (.cells #[.slice a0 len cap, .int .i64 0] 25)) := (Below.refl _ _).alloc (Nat.le_refl _) _
    have hsz : w.heap.size < (w.alloc (.cells #[.slice a0 len cap, .int .i64 0] 25)).heap.size := by simp
    have h1 := h0.trans (hr1.below (by omega))
    have h2 := h1.trans (hr2.below (by have := hs1.lt; omega))
    have h3 := h2.trans (hr3.below (by have := hs2.lt; omega))
    exact h3.trans (hr4.after_alloc.below (by omega))
  have hT4 := hT.below hb4 hlt
  clear hr1 hr2 hr3 hr4 hs hs1 hs2 hs3 h hlt3
  generalize [0, 1, 1, 2, -1].getD k 0 = bit
  have htms : tms.size ≤ 1000000 := by omega
  go_wp2_with fail
  refine (stateFault_any a _).mono ?_
  rintro e w' ⟨rfl, rfl⟩
  go_wp2_with fail
  refine (spanFault_any bit 0 1 _).mono ?_
  rintro e w' ⟨rfl, rfl⟩
  go_wp2_with fail
  refine (or_at w4.heap.size _ _ (nextE a bit) rfl w4 rfl).mono ?_
  rintro e w5 ⟨rfl, hb5⟩
  have hb5' := hb4.trans (hb5.mono hb4.size)
  go_wp2_with fail
  refine (stateFault_any a _).mono ?_
  rintro e w' ⟨rfl, rfl⟩
  go_wp2_with fail
  refine (tmsFault_any tms _ (by omega)).mono ?_
  rintro e w6 ⟨rfl, hb6⟩
  have hb6' := hb5'.trans (hb6.mono hb5'.size)
  go_wp2_with fail
  refine (or_at w6.heap.size _ _ (walkE a tms) rfl w6 rfl).mono ?_
  rintro e w7 ⟨rfl, hb7⟩
  have hb7' := hb6'.trans (hb7.mono hb6'.size)
  go_wp2_with fail
  refine (stateFault_any a _).mono ?_
  rintro e w' ⟨rfl, rfl⟩
  go_wp2_with fail
  refine (stateFault_any b _).mono ?_
  rintro e w' ⟨rfl, rfl⟩
  go_wp2_with fail
  refine (or_at w7.heap.size _ _ (pathE a b) rfl w7 rfl).mono ?_
  rintro e w8 ⟨rfl, hb8⟩
  have hb8' := hb7'.trans (hb8.mono hb7'.size)
  go_wp2_with fail
  refine (tmsFault_any tms _ (by omega)).mono ?_
  rintro e w9 ⟨rfl, hb9⟩
  have hb9' := hb8'.trans (hb9.mono hb8'.size)
  have hT9 := hT.below hb9' hlt
  clear hb4 hb5 hb5' hb6 hb6' hb7 hb7' hb8 hb8' hb9 hT4
  generalize spanErr a 0 15 = sa
  generalize spanErr bit 0 1 = sbit
  generalize spanErr b 0 15 = sb
  have hN := fun W (hW : Tab W) => next_all a bit W hW
  have hNo := fun W (h : nextE a bit = 0) => nextOf_all a bit W h
  have hNz := Lib.hid (fun h : nextE a bit ≠ 0 => nextV_zero h)
  generalize nextE a bit = ne at hN hNo hNz ⊢
  generalize nextV a bit = nv at hN hNo hNz
  have hW := fun W (h : Tab W) => walk_all a tms W htms h
  have hWo := fun W (h : walkE a tms = 0) => walkOf_all a tms W htms h
  have hWz : Hid (walkE a tms ≠ 0 → walkV a tms = []) := Lib.hid (fun h => by unfold walkV; rw [if_neg h])
  have hWl : (walkV a tms).length ≤ 1000000 := by
    by_cases hw : walkE a tms = 0
    · obtain ⟨s, rfl, _, _⟩ := walkE_zero hw
      rw [walkV_len hw, walkL_size]; omega
    · rw [hWz.out hw]; simp
  generalize walkE a tms = we at hW hWo hWz ⊢
  generalize walkV a tms = wv at hW hWo hWz hWl
  have hP := fun W (h : Tab W) => path_all a b W h
  have hPo := fun W (h : pathE a b = 0) => pathOf_all a b W h
  have hPz : Hid (pathE a b ≠ 0 → pathV a b = ⟨#[]⟩) := Lib.hid (fun h => by unfold pathV; rw [if_neg h])
  generalize pathE a b = pe at hP hPo hPz ⊢
  generalize pathV a b = pv at hP hPo hPz
  have hS := fun W (h : Tab W) => sync_all tms W htms h
  have hSo := fun W (h : clockErr tms = 0) => syncTo_all tms W htms h
  have hSz : Hid (clockErr tms ≠ 0 → syncV tms = 0 ∧ syncB tms = false) := Lib.hid (fun h => by
    have hb : syncB tms = false := by simp [syncB, h]
    exact ⟨by simp [syncV, hb], hb⟩)
  generalize clockErr tms = se at hS hSo hSz ⊢
  generalize syncV tms = sv at hS hSo hSz
  generalize syncB tms = sbo at hS hSo hSz
  go_wp2_with fail
  refine (hN _ hT9).mono ?_
  rintro e w' ⟨rfl, rfl⟩
  clear hN
  go_wp2_with fail
  refine (hW _ hT9).mono ?_
  rintro e w10 ⟨v1, rfl, hv1, hb10⟩
  have hb10' := hb9'.trans (hb10.mono hb9'.size)
  have hT10 := hT.below hb10' hlt
  clear hW hT9 hb9'
  go_wp2_with fail
  refine (hP _ hT10).mono ?_
  rintro e w11 ⟨rfl, hb11⟩
  have hb11' := hb10'.trans (hb11.mono hb10'.size)
  have hT11 := hT.below hb11' hlt
  have hv11 := hv1.below hb11
  clear hP hv1 hT10
  go_wp2_with fail
  refine (hS _ hT11).mono ?_
  rintro e w12 ⟨rfl, hb12⟩
  have hb12' := hb11'.trans (hb12.mono hb11'.size)
  have hv12 := hv11.below hb12
  clear hS hv11 hT11 hb10 hb11 hb12 hb10' hb11'
  go_upto_if 83 with (fail)
  go_cut [21] (fun s21 wx => s21 = .int .i64 nv ∧ w12 = wx)
  case first =>
    by_cases h0 : ne = 0
    · have hcon := fun W => hNo W h0
      subst h0
      clear hNo hWo hPo hSo
      go_wp2_with fail
      refine (hcon _).mono ?_
      rintro e w' ⟨rfl, rfl⟩
      go_wp2_with fail
      go_meet
      exact ⟨rfl, rfl⟩
    · have hne : (ne == 0) = false := by simpa using h0
      have hz := hNz.out h0
      subst hz
      clear hNo hWo hPo hSo h0
      go_wp2_with fail
      go_meet
      exact ⟨rfl, rfl⟩
  case rest =>
    obtain ⟨rfl, rfl⟩ := hcut
    clear hNo hNz
    go_upto_if 88 with (fail)
    go_cut [24] (fun s24 wx => IntsAt wx s24 wv ∧ Below w12.heap.size w12 wx)
    case first =>
      by_cases h0 : we = 0
      · have hcon := fun W => hWo W h0
        subst h0
        clear hWo hPo hSo
        go_wp2_with fail
        refine (hcon _).mono ?_
        rintro e w13 ⟨v2, rfl, hv2, hb13⟩
        go_wp2_with fail
        go_meet
        exact ⟨hv2, hb13⟩
      · have hne : (we == 0) = false := by simpa using h0
        have hz := hWz.out h0
        subst hz
        clear hWo hPo hSo h0
        go_wp2_with fail
        go_meet
        exact ⟨IntsAt.nil _, Below.refl _ _⟩
    case rest =>
      obtain ⟨hv2, hb13⟩ := hcut
      have hv1 := hv12.below hb13
      have hb13' := hb12'.trans (hb13.mono hb12'.size)
      clear hWo hWz hv12 hb13 hb12'
      obtain ⟨v2, rfl⟩ : ∃ v2, v2 = u24 := ⟨_, rfl⟩
      obtain ⟨w13, rfl⟩ : ∃ w13, w13 = wc := ⟨_, rfl⟩
      go_upto_if 93 with (fail)
      go_cut [25] (fun s25 wx => s25 = .string pv ∧ Below w13.heap.size w13 wx)
      case first =>
        by_cases h0 : pe = 0
        · have hcon := fun W => hPo W h0
          subst h0
          clear hPo hSo
          go_wp2_with fail
          refine (hcon _).mono ?_
          rintro e w14 ⟨rfl, hb14⟩
          go_wp2_with fail
          go_meet
          exact ⟨rfl, hb14⟩
        · have hne : (pe == 0) = false := by simpa using h0
          have hz := hPz.out h0
          subst hz
          clear hPo hSo h0
          go_wp2_with fail
          go_meet
          exact ⟨rfl, Below.refl _ _⟩
      case rest =>
        obtain ⟨rfl, hb14⟩ := hcut
        have hv1' := hv1.below hb14
        have hv2' := hv2.below hb14
        have hb14' := hb13'.trans (hb14.mono hb13'.size)
        clear hPo hPz hv1 hv2 hb14 hb13'
        obtain ⟨w14, rfl⟩ : ∃ w14, w14 = wc := ⟨_, rfl⟩
        go_upto_if 98 with (fail)
        go_cut [22, 23] (fun s22 s23 wx => s22 = .int .i64 sv ∧ s23 = .bool sbo ∧ Below w14.heap.size w14 wx)
        case first =>
          by_cases h0 : se = 0
          · have hcon := fun W => hSo W h0
            subst h0
            clear hSo
            go_wp2_with fail
            refine (hcon _).mono ?_
            rintro e w15 ⟨rfl, hb15⟩
            go_wp2_with fail
            go_meet
            exact ⟨rfl, rfl, hb15⟩
          · have hne : (se == 0) = false := by simpa using h0
            have hz1 := (hSz.out h0).1
            have hz2 := (hSz.out h0).2
            subst hz1
            subst hz2
            clear hSo h0
            go_wp2_with fail
            go_meet
            exact ⟨rfl, rfl, Below.refl _ _⟩
        case rest =>
          obtain ⟨rfl, rfl, hb15⟩ := hcut
          have hv1 := hv1'.below hb15
          have hv2 := hv2'.below hb15
          have hb15' := hb14'.trans (hb15.mono hb14'.size)
          clear hSo hSz hv1' hv2' hb15 hb14'
          have hT15 := hT.below hb15' hlt
          go_wp2_with fail
          refine (eq_all _ _ wv _ hWl hv1 hv2).mono ?_
          rintro e w16 ⟨rfl, hb16⟩
          have hT16 := hT15.below hb16 (Nat.lt_of_lt_of_le hlt hb15'.size)
          have hb16' := hb15'.trans (hb16.mono hb15'.size)
          go_wp2_with fail
          refine (tapped_any _ hT16).mono ?_
          rintro e w17 ⟨rfl, hb17⟩
          go_wp2_with fail
          go_ret
          exact ⟨rfl, hb16'.trans (hb17.mono hb16'.size)⟩
end Go.Proofs.YtnlejnldimihcaaDoor
