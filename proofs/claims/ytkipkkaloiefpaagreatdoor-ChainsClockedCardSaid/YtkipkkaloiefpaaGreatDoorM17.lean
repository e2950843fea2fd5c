/- A question to a chain and to a port that hold the same: they answer alike, and hold the same afterwards. -/
import Derived.Test.YtkipkkaloiefpaaGreatDoorM16
import Derived.Test.YtkipkkaloiefpaaGreatDoorOr
import Derived.Test.YtkipkkaloiefpaaGreatDoorM2
import Derived.Test.YtkipkkaloiefpaaGreatDoorNewQ
import Derived.Deep.RegionHeld3
namespace Go.Proofs.YtkipkkaloiefpaaGreatDoor
open Go.RowKit Go.Maps

theorem or_new (g : Nat) (x y r : Int) (hr : r = or2 x y) (W : World) (hg : g = W.heap.size) :
    Calls Tryz.prog 46 #[.slice (some ⟨g, 0, none⟩) 2 2] (W.alloc (.cells #[.int .i64 x, .int .i64 y] 29)) fun e w' => e = .returned (.int .i64 r) ∧ Below W.heap.size W w' := by
  subst hg
  subst hr
  refine (or_any W.heap.size x y _ (cell_fresh _ _ _ rfl) (cell_fresh _ _ _ rfl)).mono ?_
  rintro e w' ⟨rfl, rfl⟩
  exact ⟨rfl, (Below.refl _ _).alloc (Nat.le_refl _) _⟩

abbrev dvL : List ByteArray := [⟨#[117, 49]⟩, ⟨#[117, 49]⟩, ⟨#[117, 50]⟩, ⟨#[122, 122]⟩]
abbrev rgL : List ByteArray := [⟨#[100, 97, 116, 97]⟩, ⟨#[100, 97, 116, 97]⟩, ⟨#[115, 99, 97, 110]⟩, ⟨#[98, 121, 112, 97, 115, 115]⟩]
theorem dv_size : ∀ k, k < 4 → (dvL.getD k ⟨#[]⟩).size ≤ 1048576 := by
  intro k hk
  have : k = 0 ∨ k = 1 ∨ k = 2 ∨ k = 3 := by omega
  rcases this with rfl | rfl | rfl | rfl <;> (show (⟨_⟩ : ByteArray).size ≤ 1048576; decide)
theorem rg_size : ∀ k, k < 4 → (rgL.getD k ⟨#[]⟩).size ≤ 1048576 := by
  intro k hk
  have : k = 0 ∨ k = 1 ∨ k = 2 ∨ k = 3 := by omega
  rcases this with rfl | rfl | rfl | rfl <;> (show (⟨_⟩ : ByteArray).size ≤ 1048576; decide)
theorem pickA : ∀ k, k < 4 → ∃ z : Nat, ([1, 2, 3, 5] : List Int).getD k 0 = (z : Int) ∧ z ≤ 40 := by
  intro k hk
  have : k = 0 ∨ k = 1 ∨ k = 2 ∨ k = 3 := by omega
  rcases this with rfl | rfl | rfl | rfl
  · exact ⟨1, rfl, by decide⟩
  · exact ⟨2, rfl, by decide⟩
  · exact ⟨3, rfl, by decide⟩
  · exact ⟨5, rfl, by decide⟩
theorem pickB : ∀ k, k < 5 → ∃ z : Nat, ([0, 2, 4, 7, 12] : List Int).getD k 0 = (z : Int) ∧ z ≤ 40 := by
  intro k hk
  have : k = 0 ∨ k = 1 ∨ k = 2 ∨ k = 3 ∨ k = 4 := by omega
  rcases this with rfl | rfl | rfl | rfl | rfl
  · exact ⟨0, rfl, by decide⟩
  · exact ⟨2, rfl, by decide⟩
  · exact ⟨4, rfl, by decide⟩
  · exact ⟨7, rfl, by decide⟩
  · exact ⟨12, rfl, by decide⟩
theorem pickC : ∀ k, k < 5 → ∃ z : Nat, ([0, 1, 3, 6, 40] : List Int).getD k 0 = (z : Int) ∧ z ≤ 40 := by
  intro k hk
  have : k = 0 ∨ k = 1 ∨ k = 2 ∨ k = 3 ∨ k = 4 := by omega
  rcases this with rfl | rfl | rfl | rfl | rfl
  · exact ⟨0, rfl, by decide⟩
  · exact ⟨1, rfl, by decide⟩
  · exact ⟨3, rfl, by decide⟩
  · exact ⟨6, rfl, by decide⟩
  · exact ⟨40, rfl, by decide⟩
/-- A number is a bit, or none. -/
theorem bit_or (z : Int) : (∃ t : UInt8, bitB t = true ∧ z = bitv t ∧ inB z 0 1 = true) ∨ inB z 0 1 = false := by
  cases h : inB z 0 1 with
  | false => exact .inr rfl
  | true =>
    have h2 : 0 ≤ z ∧ z ≤ 1 := by
      unfold inB at h
      simpa using h
    have : z = 0 ∨ z = 1 := by omega
    rcases this with rfl | rfl
    · exact .inl ⟨48, rfl, rfl, rfl⟩
    · exact .inl ⟨49, rfl, rfl, rfl⟩

def AskDone (q : Tw) (B sb : Nat) (w0 : World) (N t : Nat) (e : Ending) (w' : World) : Prop := e = .returned (.bool true) ∧ ∃ st ps t', t' ≤ t + 200 ∧ Jay q B sb w0 (N + 3200) t' st ps w'
theorem Jay.more {q : Tw} {B sb : Nat} {w0 W : World} {N N' t st : Nat} {ps : Nat → PS} (h : Jay q B sb w0 N t st ps W) (hN : N ≤ N') : Jay q B sb w0 N' t st ps W := ⟨h.two.more hN, h.len, h.strm, h.below⟩

set_option maxHeartbeats 8000000 in
set_option maxRecDepth 100000 in
theorem asked_any (q : Tw) (B sb : Nat) (w0 : World) (N t st : Nat) (ps : Nat → PS) (W : World) (h : Jay q B sb w0 N t st ps W) (hf : Far q B sb) (hN : N < 400000) (ht : t ≤ 800000) :
    Calls Tryz.prog 13 #[.pointer (some ⟨sb, 0, none⟩), .pointer (some ⟨q.cb, 0, none⟩), .pointer (some ⟨q.rb, 0, none⟩)] W (AskDone q B sb w0 N t) := by
  have hs := h.strm
  have hsl := hs.lt
  have H0 := Lib.hid h
  have HF := Lib.hid hf
  clear h hf
  go_enter Tryz.func13, Tryz.ntmps13
  go_wp2_with fail
  refine (some_any sb t W.heap.size 0 4 4 (fun k => dvL.getD k ⟨#[]⟩) _ (hs.alloc _) (by omega) (by decide) (by decide) (by omega) (strs_fresh W dvL _)).mono ?_
  rintro e w1 ⟨⟨i, hi, rfl⟩, hr⟩
  obtain ⟨t1, ht1, ht1', hJ1⟩ := H0.out.ran HF.out hr.after_alloc
  have hzd := dv_size i hi
  have hs1 := hJ1.strm
  have hsl1 := hs1.lt
  have H1 := Lib.hid hJ1
  clear hr hJ1 H0 hs hsl hi
  generalize dvL.getD i ⟨#[]⟩ = dv at hzd ⊢
  go_wp2_with fail
  refine (some_any sb t1 w1.heap.size 0 4 4 (fun k => rgL.getD k ⟨#[]⟩) _ (hs1.alloc _) (by omega) (by decide) (by decide) (by omega) (strs_fresh w1 rgL _)).mono ?_
  rintro e w2 ⟨⟨i2, hi2, rfl⟩, hr⟩
  obtain ⟨t2, ht2, ht2', hJ2⟩ := H1.out.ran HF.out hr.after_alloc
  have hzr := rg_size i2 hi2
  have hs2 := hJ2.strm
  have H2 := Lib.hid hJ2
  clear hr hJ2 H1 hs1 hsl1 hi2
  generalize rgL.getD i2 ⟨#[]⟩ = rg at hzr ⊢
  go_wp2_with fail
  refine (next_any sb t2 6 _ hs2 (by omega) (by decide) (by decide)).mono ?_
  rintro e w3 ⟨⟨z, hz0, hz6, rfl⟩, hr⟩
  obtain ⟨t3, ht3, ht3', hJ3⟩ := H2.out.ran HF.out hr
  have hs3 := hJ3.strm
  have hsl3 := hs3.lt
  have HB3 := hJ3.two.lt.2.2.2.2.2.2.2.2.1
  have H3 := Lib.hid hJ3
  have hcase : z = 0 ∨ z = 1 ∨ z = 2 ∨ z = 3 ∨ z = 4 ∨ z = 5 := by omega
  clear hr hJ3 H2 hs2 hz0 hz6
  rcases hcase with rfl | rfl | rfl | rfl | rfl | rfl
  · have h1 := instruction_any H3.out.two dv hzd
    have h2 := refCode_any H3.out.two dv
    have hd : ∀ w', Below w3.heap.size w3 w' → AskDone q B sb w0 N t (.returned (.bool true)) w' := fun w' hB => ⟨rfl, st, ps, t3, by omega, (H3.out.later HF.out hB).more (by omega)⟩
    have HD := Lib.hid hd
    clear hd
    generalize bs ((codeQ q.r ps dv).getD []) = v at h1 h2
    generalize (codeQ q.r ps dv).isSome = bb at h1 h2
    have hn := fun (b : Bool) W => noneFault_any b W
    clear hs3
    cases bb
    · have hn1 := fun W => hn true W
      clear hn
      go_wp2_with fail
      refine h1.mono ?_
      rintro e w' ⟨rfl, rfl⟩
      clear h1
      go_wp2_with fail
      refine h2.mono ?_
      rintro e w4 ⟨rfl, hB⟩
      clear h2
      go_wp2_with fail
      refine (hn1 _).mono ?_
      rintro e w' ⟨rfl, rfl⟩
      go_wp2_with fail
      go_ret
      exact HD.out _ hB
    · have hn1 := fun W => hn false W
      clear hn
      go_wp2_with fail
      refine h1.mono ?_
      rintro e w' ⟨rfl, rfl⟩
      clear h1
      go_wp2_with fail
      refine h2.mono ?_
      rintro e w4 ⟨rfl, hB⟩
      clear h2
      go_wp2_with fail
      refine (hn1 _).mono ?_
      rintro e w' ⟨rfl, rfl⟩
      go_wp2_with fail
      go_ret
      exact HD.out _ hB
  · have h1 := output_any H3.out.two H3.out.len dv rg hzd hzr
    have h2 := refOutput_any H3.out.two H3.out.len dv rg hzd hzr
    have hd : AskDone q B sb w0 N t (.returned (.bool true)) w3 := ⟨rfl, st, ps, t3, by omega, H3.out.more (by omega)⟩
    have HD := Lib.hid hd
    clear hd
    generalize bs (strOf (outQ q.r ps dv rg)) = v at h1 h2
    generalize (outQ q.r ps dv rg).isSome = bb at h1 h2
    have hn := fun (b : Bool) W => noneFault_any b W
    clear hs3
    cases bb
    · have hn1 := fun W => hn true W
      clear hn
      go_wp2_with fail
      refine h1.mono ?_
      rintro e w' ⟨rfl, rfl⟩
      clear h1
      go_wp2_with fail
      refine h2.mono ?_
      rintro e w4 ⟨rfl, rfl⟩
      clear h2
      go_wp2_with fail
      refine (hn1 _).mono ?_
      rintro e w' ⟨rfl, rfl⟩
      go_wp2_with fail
      go_ret
      exact HD.out
    · have hn1 := fun W => hn false W
      clear hn
      go_wp2_with fail
      refine h1.mono ?_
      rintro e w' ⟨rfl, rfl⟩
      clear h1
      go_wp2_with fail
      refine h2.mono ?_
      rintro e w4 ⟨rfl, rfl⟩
      clear h2
      go_wp2_with fail
      refine (hn1 _).mono ?_
      rintro e w' ⟨rfl, rfl⟩
      go_wp2_with fail
      go_ret
      exact HD.out
  · go_wp2_with fail
    refine (pick_any sb t3 w3.heap.size 0 4 4 (fun k => ([1, 2, 3, 5] : List Int).getD k 0) _ (hs3.alloc _) (by omega) (by decide) (by decide) (by omega) (ints_fresh w3 [1, 2, 3, 5] _)).mono ?_
    rintro e w4 ⟨⟨j, hj, rfl⟩, hr⟩
    obtain ⟨z, hz, hz40⟩ := pickA j hj
    rw [hz]
    obtain ⟨t4, ht4, ht4', hJ4⟩ := H3.out.ran HF.out hr.after_alloc
    have hs4 := hJ4.strm
    have H4 := Lib.hid hJ4
    clear hr hJ4 H3 hs3 hsl3 hz hj
    go_wp2_with fail
    refine (nearlyBits_any sb t4 z _ hs4 (by omega)).mono ?_
    rintro e w5 ⟨⟨bits, hbz, rfl⟩, hr⟩
    obtain ⟨t5, ht5, ht5', hJ5⟩ := H4.out.ran HF.out hr
    have h1 := setInput_any hJ5.two hJ5.len (by omega) dv rg bits hzd hzr (by omega) (hJ5.two.own2 rg hzr)
    have H5 := Lib.hid hJ5
    clear hr hJ5 H4 hs4
    obtain ⟨ec, hec⟩ : ∃ ec, ec = setQ q.r ps dv rg bits := ⟨_, rfl⟩
    rw [← hec] at h1
    have HEC := Lib.hid hec
    clear hec
    go_wp2_with fail
    refine h1.mono ?_
    rintro e w6 ⟨rfl, hT6, hB6⟩
    have h2 := refInput_any hT6 H5.out.len (by omega) dv rg bits hzd hzr (by omega)
    rw [← HEC.out] at h2
    have H6 := Lib.hid hB6
    clear h1 hT6 hB6
    go_wp2_with fail
    refine h2.mono ?_
    rintro e w7 ⟨rfl, hT7, hB7⟩
    have hfin : AskDone q B sb w0 N t (.returned (.bool true)) w7 := by
      refine ⟨rfl, st, (if ec = 0 then setP q.r ps dv rg bits else ps), t5, by omega, (Jay.step H5.out HF.out hT7 ?_ (H6.out.trans hB7)).more (by omega)⟩
      by_cases he : ec = 0
      · rw [if_pos he]
        exact LenAll.set H5.out.two H5.out.len dv rg bits hzd hzr (HEC.out.symm.trans he)
      · rw [if_neg he]
        exact H5.out.len
    have HFN := Lib.hid hfin
    clear h2 hT7 hB7 hfin
    go_wp2_with fail
    go_ret
    exact HFN.out
  · go_wp2_with fail
    refine (pick_any sb t3 w3.heap.size 0 5 5 (fun k => ([0, 2, 4, 7, 12] : List Int).getD k 0) _ (hs3.alloc _) (by omega) (by decide) (by decide) (by omega) (ints_fresh w3 [0, 2, 4, 7, 12] _)).mono ?_
    rintro e w4 ⟨⟨j, hj, rfl⟩, hr⟩
    obtain ⟨z, hz, hz40⟩ := pickB j hj
    rw [hz]
    obtain ⟨t4, ht4, ht4', hJ4⟩ := H3.out.ran HF.out hr.after_alloc
    have hs4 := hJ4.strm
    have H4 := Lib.hid hJ4
    clear hr hJ4 H3 hs3 hsl3 hz hj
    go_wp2_with fail
    refine (nearlyBits_any sb t4 z _ hs4 (by omega)).mono ?_
    rintro e w5 ⟨⟨bits, hbz, rfl⟩, hr⟩
    obtain ⟨t5, ht5, ht5', hJ5⟩ := H4.out.ran HF.out hr
    have h1 := shiftIR_any hJ5.two bits (by omega) (by omega)
    have H5 := Lib.hid hJ5
    clear hr hJ5 H4 hs4
    have HFT := Lib.hid (Fit.shiftX H5.out.two.sure H5.out.fit (s := 11) (by decide) bits)
    obtain ⟨v, hv⟩ : ∃ v, v = shiftV q st ps 11 bits := ⟨_, rfl⟩
    obtain ⟨ec, hec⟩ : ∃ ec, ec = shiftErr st bits := ⟨_, rfl⟩
    obtain ⟨X, hX⟩ : ∃ X, X = shiftX q st ps 11 bits := ⟨_, rfl⟩
    rw [← hv, ← hec, ← hX] at h1
    rw [← hX] at HFT
    have HV := Lib.hid (⟨hv, hec, hX⟩ : _ ∧ _ ∧ _)
    clear hv hec hX
    go_wp2_with fail
    refine h1.mono ?_
    rintro e w6 ⟨rfl, hT6, hB6⟩
    have h2 : Calls Tryz.prog 44 #[.pointer (some ⟨q.rb, 0, none⟩), .int .i64 11, .string bits] w6 _ := refShift_any hT6 11 (by decide) bits (by omega) (by omega)
    rw [← HV.out.1, ← HV.out.2.1, ← HV.out.2.2] at h2
    have H6 := Lib.hid hB6
    clear h1 hT6 hB6
    go_wp2_with fail
    refine h2.mono ?_
    rintro e w7 ⟨rfl, hT7, hB7⟩
    have hfin : AskDone q B sb w0 N t (.returned (.bool true)) w7 := ⟨rfl, X.1, X.2, t5, by omega, (Jay.step H5.out HF.out hT7 HFT.out.len (H6.out.trans hB7)).more (by omega)⟩
    have HFN := Lib.hid hfin
    clear h2 hT7 hB7 hfin
    go_wp2_with fail
    go_ret
    exact HFN.out
  · go_wp2_with fail
    refine (pick_any sb t3 w3.heap.size 0 5 5 (fun k => ([0, 1, 3, 6, 40] : List Int).getD k 0) _ (hs3.alloc _) (by omega) (by decide) (by decide) (by omega) (ints_fresh w3 [0, 1, 3, 6, 40] _)).mono ?_
    rintro e w4 ⟨⟨j, hj, rfl⟩, hr⟩
    obtain ⟨z, hz, hz40⟩ := pickC j hj
    rw [hz]
    obtain ⟨t4, ht4, ht4', hJ4⟩ := H3.out.ran HF.out hr.after_alloc
    have hs4 := hJ4.strm
    have H4 := Lib.hid hJ4
    clear hr hJ4 H3 hs3 hsl3 hz hj
    go_wp2_with fail
    refine (nearlyBits_any sb t4 z _ hs4 (by omega)).mono ?_
    rintro e w5 ⟨⟨bits, hbz, rfl⟩, hr⟩
    obtain ⟨t5, ht5, ht5', hJ5⟩ := H4.out.ran HF.out hr
    have h1 := shiftDR_any hJ5.two bits (by omega) (by omega)
    have H5 := Lib.hid hJ5
    clear hr hJ5 H4 hs4
    have HFT := Lib.hid (Fit.shiftX H5.out.two.sure H5.out.fit (s := 4) (by decide) bits)
    obtain ⟨v, hv⟩ : ∃ v, v = shiftV q st ps 4 bits := ⟨_, rfl⟩
    obtain ⟨ec, hec⟩ : ∃ ec, ec = shiftErr st bits := ⟨_, rfl⟩
    obtain ⟨X, hX⟩ : ∃ X, X = shiftX q st ps 4 bits := ⟨_, rfl⟩
    rw [← hv, ← hec, ← hX] at h1
    rw [← hX] at HFT
    have HV := Lib.hid (⟨hv, hec, hX⟩ : _ ∧ _ ∧ _)
    clear hv hec hX
    go_wp2_with fail
    refine h1.mono ?_
    rintro e w6 ⟨rfl, hT6, hB6⟩
    have h2 : Calls Tryz.prog 44 #[.pointer (some ⟨q.rb, 0, none⟩), .int .i64 4, .string bits] w6 _ := refShift_any hT6 4 (by decide) bits (by omega) (by omega)
    rw [← HV.out.1, ← HV.out.2.1, ← HV.out.2.2] at h2
    have H6 := Lib.hid hB6
    clear h1 hT6 hB6
    go_wp2_with fail
    refine h2.mono ?_
    rintro e w7 ⟨rfl, hT7, hB7⟩
    have hfin : AskDone q B sb w0 N t (.returned (.bool true)) w7 := ⟨rfl, X.1, X.2, t5, by omega, (Jay.step H5.out HF.out hT7 HFT.out.len (H6.out.trans hB7)).more (by omega)⟩
    have HFN := Lib.hid hfin
    clear h2 hT7 hB7 hfin
    go_wp2_with fail
    go_ret
    exact HFN.out
  · go_wp2_with fail
    refine (pick_any sb t3 w3.heap.size 0 4 4 (fun k => ([0, 1, 1, 2] : List Int).getD k 0) _ (hs3.alloc _) (by omega) (by decide) (by decide) (by omega) (ints_fresh w3 [0, 1, 1, 2] _)).mono ?_
    rintro e w4 ⟨⟨j, hj, rfl⟩, hr⟩
    obtain ⟨t4, ht4, ht4', hJ4⟩ := H3.out.ran HF.out hr.after_alloc
    have hs4 := hJ4.strm
    have hsl4 := hs4.lt
    have H4 := Lib.hid hJ4
    clear hr hJ4 H3 hs3 hsl3 hj
    generalize ([0, 1, 1, 2] : List Int).getD j 0 = zt
    go_wp2_with fail
    refine (pick_any sb t4 w4.heap.size 0 4 4 (fun k => ([0, 1, 0, -1] : List Int).getD k 0) _ (hs4.alloc _) (by omega) (by decide) (by decide) (by omega) (ints_fresh w4 [0, 1, 0, -1] _)).mono ?_
    rintro e w5 ⟨⟨j2, hj2, rfl⟩, hr⟩
    obtain ⟨t5, ht5, ht5', hJ5⟩ := H4.out.ran HF.out hr.after_alloc
    have H5 := Lib.hid hJ5
    clear hr hJ5 H4 hs4 hsl4 hj2
    generalize ([0, 1, 0, -1] : List Int).getD j2 0 = zc
    have hor : ∀ W, Calls Tryz.prog 46 #[.slice (some ⟨W.heap.size, 0, none⟩) 2 2] (W.alloc (.cells #[.int .i64 (spanErr zt 0 1), .int .i64 (spanErr zc 0 1)] 29)) fun e w' => e = .returned (.int .i64 (if (inB zt 0 1 && inB zc 0 1) = true then 0 else 1)) ∧ Below W.heap.size W w' := fun W => or_new W.heap.size _ _ _ (by
      unfold spanErr or2
      cases inB zt 0 1 <;> cases inB zc 0 1 <;> rfl) W rfl
    have hsp1 := fun W => spanFault_any zt 0 1 W
    have hsp2 := fun W => spanFault_any zc 0 1 W
    cases hbb : (inB zt 0 1 && inB zc 0 1) with
    | false =>
      have h1 := clock_no q.cb zt zc w5 hbb
      rw [hbb] at hor
      have hd : ∀ w', Below w5.heap.size w5 w' → AskDone q B sb w0 N t (.returned (.bool true)) w' := fun w' hB => ⟨rfl, st, ps, t5, by omega, (H5.out.later HF.out hB).more (by omega)⟩
      have HD := Lib.hid hd
      clear hd hbb
      generalize spanErr zt 0 1 = e1 at hor hsp1
      generalize spanErr zc 0 1 = e2 at hor hsp2
      have hor1 : ∀ W, Calls Tryz.prog 46 #[.slice (some ⟨W.heap.size, 0, none⟩) 2 2] (W.alloc (.cells #[.int .i64 e1, .int .i64 e2] 29)) fun e w' => e = .returned (.int .i64 1) ∧ Below W.heap.size W w' := hor
      clear hor
      go_wp2_with fail
      refine h1.mono ?_
      rintro e w' ⟨rfl, rfl⟩
      clear h1
      go_wp2_with fail
      refine (hsp1 _).mono ?_
      rintro e w' ⟨rfl, rfl⟩
      clear hsp1
      go_wp2_with fail
      refine (hsp2 _).mono ?_
      rintro e w' ⟨rfl, rfl⟩
      clear hsp2
      go_wp2_with fail
      refine (hor1 _).mono ?_
      rintro e w' ⟨rfl, hB⟩
      clear hor1
      go_wp2_with fail
      go_ret
      exact HD.out _ hB
    | true =>
      obtain ⟨tb, htb, rfl, -⟩ : ∃ t : UInt8, bitB t = true ∧ zt = bitv t ∧ inB zt 0 1 = true := by
        rcases bit_or zt with h | h
        · exact h
        · rw [h] at hbb; cases hbb
      obtain ⟨tc, htc, rfl, -⟩ : ∃ t : UInt8, bitB t = true ∧ zc = bitv t ∧ inB zc 0 1 = true := by
        rcases bit_or zc with h | h
        · exact h
        · rw [h, Bool.and_false] at hbb; cases hbb
      have h1 := two_clock H5.out.two tb tc htb htc (by omega)
      have HFT := Lib.hid (H5.out.fit.clk H5.out.two.sure htb htc)
      have HBT := Lib.hid (⟨htb, htc⟩ : _ ∧ _)
      rw [hbb] at hor
      clear hbb htb htc
      generalize spanErr (bitv tb) 0 1 = e1 at hor hsp1
      generalize spanErr (bitv tc) 0 1 = e2 at hor hsp2
      have hor1 : ∀ W, Calls Tryz.prog 46 #[.slice (some ⟨W.heap.size, 0, none⟩) 2 2] (W.alloc (.cells #[.int .i64 e1, .int .i64 e2] 29)) fun e w' => e = .returned (.int .i64 0) ∧ Below W.heap.size W w' := hor
      clear hor
      obtain ⟨V, hV⟩ : ∃ V, V = clockV q.r.n st tc ps := ⟨_, rfl⟩
      rw [← hV] at h1
      have HV := Lib.hid hV
      clear hV
      go_wp2_with fail
      refine h1.mono ?_
      rintro e w6 ⟨rfl, hT6, hB6⟩
      have H6 := Lib.hid (⟨hT6, hB6⟩ : _ ∧ _)
      clear h1 hT6 hB6
      go_wp2_with fail
      refine (hsp1 _).mono ?_
      rintro e w' ⟨rfl, rfl⟩
      clear hsp1
      go_wp2_with fail
      refine (hsp2 _).mono ?_
      rintro e w' ⟨rfl, rfl⟩
      clear hsp2
      go_wp2_with fail
      refine (hor1 _).mono ?_
      rintro e w7 ⟨rfl, hB⟩
      clear hor1
      have h2 := two_refClock (H6.out.1.later hB) tb tc HBT.out.1 HBT.out.2 (by omega)
      rw [← HV.out] at h2
      have H7 := Lib.hid (H6.out.2.trans (hB.mono H6.out.1.lt.2.2.2.2.2.2.2.2.1))
      clear hB
      go_wp2_with fail
      refine h2.mono ?_
      rintro e w8 ⟨rfl, hT8, hB8, -⟩
      have hfin : AskDone q B sb w0 N t (.returned (.bool true)) w8 := ⟨rfl, _, _, t5, by omega, (Jay.step H5.out HF.out hT8 HFT.out.len (H7.out.trans hB8)).more (by omega)⟩
      have HFN := Lib.hid hfin
      clear h2 hT8 hB8 hfin
      go_wp2_with fail
      go_ret
      exact HFN.out
end Go.Proofs.YtkipkkaloiefpaaGreatDoor
/- The last region of spoil: what is so in whatever order its operations come. -/
namespace Go.Proofs.YtkipkkaloiefpaaGreatDoor
open Go.RowKit Go.Maps

/-- The stream ran on, and what lies in memory is softly as it was. -/
def Mid (sb T : Nat) (W0 w wx : World) : Prop := Ran sb 0 T W0 wx ∧ Soft sb w wx
theorem Mid.ran {sb T t' K : Nat} {W0 w wx wy : World} (h : Mid sb T W0 w wx) (ht : t' ≤ T) (hr : Ran sb t' K wx wy) : Mid sb (T + K) W0 w wy := ⟨h.1.then (Nat.zero_le _) (by omega) hr, h.2.trans (Soft.ran hr)⟩
theorem Mid.below {sb T : Nat} {W0 w wx wy : World} (h : Mid sb T W0 w wx) (hB : Below wx.heap.size wx wy) : Mid sb T W0 w wy := ⟨h.1.then_below hB, h.2.trans (Soft.below hB)⟩
theorem Mid.drew {sb T : Nat} {W0 w wx : World} (h : Mid sb T W0 w wx) : Mid sb T W0 w wx.drew := by
  obtain ⟨⟨hg, t', a, b, hs⟩, h2⟩ := h
  exact ⟨⟨⟨hg.os, hg.tape, hg.output, hg.size, hg.block⟩, t', a, b, hs.kept fun _ _ => rfl⟩, h2.trans (Soft.drew wx)⟩
theorem Mid.setS {sb T : Nat} {W0 w wx : World} (h : Mid sb T W0 w wx) (hlt : sb < W0.heap.size) {b j : Nat} {s s' : ByteArray} (hb : W0.heap.size ≤ b) (hx : wx.cell? ⟨b, j, none⟩ = some (.string s)) (hs : s'.size ≤ 1048576) : Mid sb T W0 w (wx.setCell ⟨b, j, none⟩ (.string s')) := ⟨h.1.setCell hb hlt _, h.2.trans (Soft.setS hx hs)⟩
theorem Mid.setI {sb T : Nat} {W0 w wx : World} (h : Mid sb T W0 w wx) (hlt : sb < W0.heap.size) {b j : Nat} {z z' : Int} (hb : W0.heap.size ≤ b) (hx : wx.cell? ⟨b, j, none⟩ = some (.int .i64 z)) : Mid sb T W0 w (wx.setCell ⟨b, j, none⟩ (.int .i64 z')) := ⟨h.1.setCell hb hlt _, h.2.trans (Soft.setI hx)⟩
theorem ran_frozen {sb t K : Nat} {w w' : World} (h : Ran sb t K w w') {b : Nat} (hb : b ≠ sb) (hl : b < w.heap.size) (j : Nat) {v : Bool} (hf : w.frozen? ⟨b, j, none⟩ = v) : w'.frozen? ⟨b, j, none⟩ = v := (World.frozen?_of_block (a := ⟨b, j, none⟩) (h.1.block b hl (fun e => hb (Option.some.inj e)))).trans hf
theorem Ran.undrew {sb t K : Nat} {w w' : World} (h : Ran sb t K w.drew w') : Ran sb t K w w' := ⟨⟨h.1.os, h.1.tape, h.1.output, h.1.size, h.1.block⟩, h.2⟩

/-- The frame. -/
def spF (sb g p rb o : Nat) (y0 y1 y2 y3 : Value) (sv : Nat → Value) : Array Value := ((.pointer (some ⟨sb, 0, none⟩)) :: (.pointer (some ⟨g, p, none⟩)) :: undef :: undef :: undef :: (.pointer (some ⟨rb, o, none⟩)) :: (.pointer (some ⟨sb, 0, none⟩)) :: (.int .i64 3) :: (.pointer (some ⟨g, p, none⟩)) :: (.pointer (some ⟨g, p, none⟩)) :: (.pointer (some ⟨g, p + 4, none⟩)) :: y0 :: y1 :: (.bool true) :: (.pointer (some ⟨g, p, none⟩)) :: (.pointer (some ⟨g, p, none⟩)) :: (.pointer (some ⟨g, p + 4, none⟩)) :: y2 :: (.pointer (some ⟨sb, 0, none⟩)) :: (.pointer (some ⟨g, p, none⟩)) :: (.pointer (some ⟨g, p, none⟩)) :: (.pointer (some ⟨g, p + 4, none⟩)) :: y2 :: y1 :: y3 :: (.pointer (some ⟨rb, o, none⟩)) :: (sv 0) :: (sv 1) :: (sv 2) :: (sv 3) :: (sv 4) :: (sv 5) :: (sv 6) :: (sv 7) :: (sv 8) :: (sv 9) :: (sv 10) :: (sv 11) :: (sv 12) :: (sv 13) :: (sv 14) :: (sv 15) :: (sv 16) :: (sv 17) :: (sv 18) :: (sv 19) :: (sv 20) :: (sv 21) :: (sv 22) :: (sv 24) :: (sv 25) :: (.bool false) :: (.bool false) :: undef :: undef :: undef :: undef :: undef :: undef :: undef :: undef :: undef :: undef :: undef :: undef :: undef :: undef :: undef :: (.bool false) :: (.bool false) :: undef :: undef :: undef :: undef :: undef :: undef :: undef :: undef :: undef :: undef :: (.bool false) :: (.bool false) :: undef :: undef :: undef :: undef :: undef :: undef :: undef :: undef :: undef :: undef :: undef :: undef :: undef :: undef :: undef :: undef :: undef :: undef :: undef :: undef :: undef :: undef :: undef :: undef :: undef :: undef :: undef :: undef :: undef :: undef :: undef :: undef :: undef :: []).toArray
/-- What the operations' values are. -/
def spV (W : World) (sb g p rb o : Nat) (long : Int) (code reg : ByteArray) (w : World) : Nat → Value → Prop
  | 0, v | 1, v | 3, v | 4, v | 5, v | 15, v | 16, v | 21, v | 22, v | 24, v => v = .pointer (some ⟨rb, o, none⟩)
  | 2, v | 14, v => v = .pointer (some ⟨sb, 0, none⟩)
  | 7, v | 8, v => v = .pointer (some ⟨g, p, none⟩)
  | 9, v => v = .pointer (some ⟨g, p + 1, none⟩)
  | 17, v | 25, v => v = .pointer (some ⟨rb, o + 1, none⟩)
  | 6, v => v = .string code
  | 18, v => v = .string reg
  | 10, v => v = .int .i64 long
  | 11, v => ∃ s : ByteArray, v = .string s ∧ s.size ≤ 1000
  | 12, v => ∃ (lb : Nat) (s : ByteArray), v = .slice (some ⟨lb, 0, none⟩) 4 4 ∧ W.heap.size ≤ lb ∧ s.size ≤ 1000 ∧ w.heap[lb]? = some (.cells #[.string code, .string s, .string ⟨#[48]⟩, .string ⟨#[48, 120]⟩] 9)
  | 13, v | 20, v => ∃ s : ByteArray, v = .string s ∧ s.size ≤ 1048576
  | 19, v => ∃ lb : Nat, v = .slice (some ⟨lb, 0, none⟩) 3 3 ∧ W.heap.size ≤ lb ∧ w.heap[lb]? = some (.cells #[.string reg, .string ⟨#[105, 100, 99, 111, 100, 101]⟩, .string ⟨#[122, 122]⟩] 9)
  | _, _ => True
theorem spV.new {W : World} {sb g p rb o : Nat} {long : Int} {code reg : ByteArray} {w w' : World} (hn : ∀ b, W.heap.size ≤ b → b < w.heap.size → w'.heap[b]? = w.heap[b]?) : ∀ k v, spV W sb g p rb o long code reg w k v → spV W sb g p rb o long code reg w' k v
  | 12, _, ⟨lb, s, h1, h2, h3, h4⟩ => ⟨lb, s, h1, h2, h3, (hn lb h2 (blk_lt h4)).trans h4⟩
  | 19, _, ⟨lb, h1, h2, h3⟩ => ⟨lb, h1, h2, (hn lb h2 (blk_lt h3)).trans h3⟩
  | 0, _, h => h
  | 1, _, h => h
  | 2, _, h => h
  | 3, _, h => h
  | 4, _, h => h
  | 5, _, h => h
  | 6, _, h => h
  | 7, _, h => h
  | 8, _, h => h
  | 9, _, h => h
  | 10, _, h => h
  | 11, _, h => h
  | 13, _, h => h
  | 14, _, h => h
  | 15, _, h => h
  | 16, _, h => h
  | 17, _, h => h
  | 18, _, h => h
  | 20, _, h => h
  | 21, _, h => h
  | 22, _, h => h
  | 23, _, h => h
  | 24, _, h => h
  | 25, _, h => h
  | _ + 26, _, _ => trivial
def cnt1 (l : Array Bool) (k : Nat) : Nat := if l[k]?.getD false = true then 1 else 0
theorem cnt1_le (l : Array Bool) (i k : Nat) (hs : i < l.size) : cnt1 l k ≤ cnt1 (l.setIfInBounds i true) k := by
  unfold cnt1
  by_cases e : k = i
  · subst e
    rw [Array.getElem?_setIfInBounds_self_of_lt hs]
    simp
    split <;> omega
  · rw [flag_other l i k e]
    exact Nat.le_refl _
theorem cnt1_up (l : Array Bool) (i : Nat) (hs : i < l.size) (h : l[i]?.getD true = false) : cnt1 (l.setIfInBounds i true) i = cnt1 l i + 1 := by
  unfold cnt1
  rw [Array.getElem?_setIfInBounds_self_of_lt hs, if_neg (flag_off h)]
  rfl
/-- What the world holds. -/
structure SpW (sb t : Nat) (W0 w W : World) (g p rb o : Nat) (long : Int) (code reg : ByteArray) (l : Array Bool) (w' : World) : Prop where
  mid : ∃ T, T ≤ t + cnt1 l 13 + cnt1 l 20 ∧ Mid sb T W0 w w'
  size : W.heap.size ≤ w'.heap.size
  cl : w'.cell? ⟨g, p + 1, none⟩ = some (.int .i64 long)
  c0 : l[23]?.getD false = false → w'.cell? ⟨rb, o, none⟩ = some (.string code)
  c1 : l[26]?.getD false = false → w'.cell? ⟨rb, o + 1, none⟩ = some (.string reg)
  f0 : w'.frozen? ⟨rb, o, none⟩ = false
  f1 : w'.frozen? ⟨rb, o + 1, none⟩ = false
section
variable {sb t : Nat} {W0 w W : World} {g p rb o : Nat} {long : Int} {code reg : ByteArray} {l : Array Bool} {w' w2 : World}
theorem flag_stays {l : Array Bool} {i k : Nat} (hs : i < l.size) (h : (l.setIfInBounds i true)[k]?.getD false = false) : l[k]?.getD false = false := by
  by_cases e : k = i
  · subst e
    rw [Array.getElem?_setIfInBounds_self_of_lt hs] at h
    cases h
  · rw [flag_other l i k e] at h
    exact h
theorem SpW.flag (h : SpW sb t W0 w W g p rb o long code reg l w') (i : Nat) (hs : i < l.size) : SpW sb t W0 w W g p rb o long code reg (l.setIfInBounds i true) w' := by
  obtain ⟨T, hT, hM⟩ := h.mid
  have h1 := cnt1_le l i 13 hs
  have h2 := cnt1_le l i 20 hs
  exact { h with mid := ⟨T, by omega, hM⟩, c0 := fun e => h.c0 (flag_stays hs e), c1 := fun e => h.c1 (flag_stays hs e) }
theorem SpW.below (h : SpW sb t W0 w W g p rb o long code reg l w') (hB : Below w'.heap.size w' w2) (hW : g < W.heap.size ∧ rb < W.heap.size) : SpW sb t W0 w W g p rb o long code reg l w2 := by
  obtain ⟨T, hT, hM⟩ := h.mid
  have hs := h.size
  have hc : ∀ b j, b < W.heap.size → w2.cell? ⟨b, j, none⟩ = w'.cell? ⟨b, j, none⟩ := fun b j hb => World.cell?_of_block (a := ⟨b, j, none⟩) (hB.block b (by omega))
  have hf : ∀ b j, b < W.heap.size → w2.frozen? ⟨b, j, none⟩ = w'.frozen? ⟨b, j, none⟩ := fun b j hb => World.frozen?_of_block (a := ⟨b, j, none⟩) (hB.block b (by omega))
  exact ⟨⟨T, hT, hM.below hB⟩, Nat.le_trans hs hB.size, (hc _ _ hW.1).trans h.cl, fun e => (hc _ _ hW.2).trans (h.c0 e), fun e => (hc _ _ hW.2).trans (h.c1 e), (hf _ _ hW.2).trans h.f0, (hf _ _ hW.2).trans h.f1⟩
theorem SpW.ran {i t' T : Nat} (h : SpW sb t W0 w W g p rb o long code reg l w') (hT : T ≤ t + cnt1 l 13 + cnt1 l 20) (hM : Mid sb T W0 w w') (hle : t' ≤ T) (hi : i = 13 ∨ i = 20) (hs : l.size = 27) (hoff : l[i]?.getD true = false) (hr : Ran sb t' 1 w' w2) (hgs : g ≠ sb) (hrs : rb ≠ sb) (hW : g < W.heap.size ∧ rb < W.heap.size) : SpW sb t W0 w W g p rb o long code reg (l.setIfInBounds i true) w2 := by
  have h0 := h.size
  have h1 := cnt1_le l i 13 (by omega)
  have h2 := cnt1_le l i 20 (by omega)
  have h3 := cnt1_up l i (by omega) hoff
  refine ⟨⟨T + 1, by rcases hi with rfl | rfl <;> omega, hM.ran hle hr⟩, Nat.le_trans h0 hr.1.size, hr.cell h.cl hgs, fun e => hr.cell (h.c0 (flag_stays (by omega) e)) hrs, fun e => hr.cell (h.c1 (flag_stays (by omega) e)) hrs, ran_frozen hr hrs (by omega) _ h.f0, ran_frozen hr hrs (by omega) _ h.f1⟩
theorem SpW.set0 {s : ByteArray} (h : SpW sb t W0 w W g p rb o long code reg l w') (hs : l.size = 27) (hoff : l[23]?.getD true = false) (hlt : sb < W0.heap.size) (hup : W0.heap.size ≤ rb) (hz : s.size ≤ 1048576) : SpW sb t W0 w W g p rb o long code reg (l.setIfInBounds 23 true) (w'.setCell ⟨rb, o, none⟩ (.string s)) := by
  obtain ⟨T, hT, hM⟩ := h.mid
  have h1 := cnt1_le l 23 13 (by omega)
  have h2 := cnt1_le l 23 20 (by omega)
  have hc0 := h.c0 (by have := flag_off hoff; simpa using this)
  have hne : (⟨rb, o, none⟩ : Addr) ≠ ⟨g, p + 1, none⟩ := fun e => by
    rw [e, h.cl] at hc0
    cases hc0
  refine ⟨⟨T, by omega, hM.setS hlt hup hc0 hz⟩, ?_, ?_, fun e => ?_, fun e => ?_, ?_, ?_⟩
  · simpa [World.setCell] using h.size
  · rw [World.cell?_setCell_other _ _ _ _ hne]
    exact h.cl
  · rw [Array.getElem?_setIfInBounds_self_of_lt (by omega)] at e
    cases e
  · rw [World.cell?_setCell_other _ _ _ _ (by simp)]
    exact h.c1 (flag_stays (by omega) e)
  · rw [World.frozen?_setCell]
    exact h.f0
  · rw [World.frozen?_setCell]
    exact h.f1
theorem SpW.set1 {s : ByteArray} (h : SpW sb t W0 w W g p rb o long code reg l w') (hs : l.size = 27) (hoff : l[26]?.getD true = false) (hlt : sb < W0.heap.size) (hup : W0.heap.size ≤ rb) (hz : s.size ≤ 1048576) : SpW sb t W0 w W g p rb o long code reg (l.setIfInBounds 26 true) (w'.setCell ⟨rb, o + 1, none⟩ (.string s)) := by
  obtain ⟨T, hT, hM⟩ := h.mid
  have h1 := cnt1_le l 26 13 (by omega)
  have h2 := cnt1_le l 26 20 (by omega)
  have hc1 := h.c1 (by have := flag_off hoff; simpa using this)
  have hne : (⟨rb, o + 1, none⟩ : Addr) ≠ ⟨g, p + 1, none⟩ := fun e => by
    rw [e, h.cl] at hc1
    cases hc1
  refine ⟨⟨T, by omega, hM.setS hlt hup hc1 hz⟩, ?_, ?_, fun e => ?_, fun e => ?_, ?_, ?_⟩
  · simpa [World.setCell] using h.size
  · rw [World.cell?_setCell_other _ _ _ _ hne]
    exact h.cl
  · rw [World.cell?_setCell_other _ _ _ _ (by simp)]
    exact h.c0 (flag_stays (by omega) e)
  · rw [Array.getElem?_setIfInBounds_self_of_lt (by omega)] at e
    cases e
  · rw [World.frozen?_setCell]
    exact h.f0
  · rw [World.frozen?_setCell]
    exact h.f1
end
theorem flag_set {l : Array Bool} {i k : Nat} (hs : l.size = 27) (hi : i < 27) (h : l[k]?.getD false = true) : (l.setIfInBounds i true)[k]?.getD false = true := by
  by_cases e : k = i
  · subst e
    rw [Array.getElem?_setIfInBounds_self_of_lt (by omega)]
    rfl
  · rw [flag_other l i k e]
    exact h
/-- The state of the region. -/
structure SpS (sb t : Nat) (W0 w W : World) (g p rb o : Nat) (long : Int) (code reg : ByteArray) (l : Array Bool) (sv : Nat → Value) (w' : World) : Prop where
  n : l.size = 27
  vals : ∀ k, k < 27 → l[k]?.getD false = true → spV W sb g p rb o long code reg w' k (sv k)
  world : SpW sb t W0 w W g p rb o long code reg l w'
  d23 : l[23]?.getD false = true → l[6]?.getD false = true
  d26 : l[26]?.getD false = true → l[18]?.getD false = true
def spI (sb t : Nat) (W0 w W : World) (g p rb o : Nat) (long : Int) (code reg : ByteArray) (y0 y1 y2 y3 : Value) (l : Array Bool) (a : Act) (w' : World) : Prop :=
  ∃ sv : Nat → Value, a = ⟨spF sb g p rb o y0 y1 y2 y3 sv, []⟩ ∧ SpS sb t W0 w W g p rb o long code reg l sv w'
theorem SpS.step {sb t : Nat} {W0 w W : World} {g p rb o : Nat} {long : Int} {code reg : ByteArray} {l : Array Bool} {sv : Nat → Value} {w' w2 : World} (h : SpS sb t W0 w W g p rb o long code reg l sv w') (i : Nat) (hi : i < 27) (x : Value) (hx : spV W sb g p rb o long code reg w2 i x) (hn : ∀ b, W.heap.size ≤ b → b < w'.heap.size → w2.heap[b]? = w'.heap[b]?) (hw : SpW sb t W0 w W g p rb o long code reg (l.setIfInBounds i true) w2) (h23 : i = 23 → l[6]?.getD false = true := by intro h; cases h) (h26 : i = 26 → l[18]?.getD false = true := by intro h; cases h) : SpS sb t W0 w W g p rb o long code reg (l.setIfInBounds i true) (fun k => if k = i then x else sv k) w2 :=
  ⟨Array.size_setIfInBounds.trans h.n, fun k hk hl => by
    by_cases e : k = i
    · subst e
      rw [if_pos rfl]
      exact hx
    · rw [if_neg e]
      rw [flag_other l i k e] at hl
      exact spV.new hn k _ (h.vals k hk hl), hw, fun e => by
    by_cases e2 : i = 23
    · exact flag_set h.n hi (h23 e2)
    · exact flag_set h.n hi (h.d23 ((flag_other l i 23 (Ne.symm e2)).symm.trans e)), fun e => by
    by_cases e2 : i = 26
    · exact flag_set h.n hi (h26 e2)
    · exact flag_set h.n hi (h.d26 ((flag_other l i 26 (Ne.symm e2)).symm.trans e))⟩
end Go.Proofs.YtkipkkaloiefpaaGreatDoor
