/- The maker of tests: ATest. -/
import Derived.Test.YtgnkihiibednoaaGreatDoorFrR
import Derived.Deep.RegionLaw
import Derived.IntWalk
import Derived.Deep.CutBlock
import Derived.Deep.DeepCutAuto
namespace Go.Proofs.YtgnkihiibednoaaGreatDoor
open Go.RowKit

theorem ran_frozen {sb t K : Nat} {w w' : World} (h : Ran sb t K w w') {b : Nat} (hb : b ≠ sb) (hl : b < w.heap.size) (j : Nat) {v : Bool} (hf : w.frozen? ⟨b, j, none⟩ = v) : w'.frozen? ⟨b, j, none⟩ = v := (World.frozen?_of_block (a := ⟨b, j, none⟩) (h.1.block b hl (fun e => hb (Option.some.inj e)))).trans hf
theorem Ran.undrew {sb t K : Nat} {w w' : World} (h : Ran sb t K w.drew w') : Ran sb t K w w' := ⟨⟨h.1.os, h.1.tape, h.1.output, h.1.size, h.1.block⟩, h.2⟩
/-- What was made so far: rows, the stream went on. -/
def TstSt (sb t K : Nat) (w : World) (m z : Nat) (v : Value) (wx : World) : Prop := ∃ S : List (List UInt8), StrsAt w.heap.size wx v S ∧ S.length ≤ m ∧ (∀ k, k < S.length → (S.getD k []).length ≤ z) ∧ Ran sb t K w wx
theorem TstSt.mono {sb t K K' : Nat} {w : World} {m m' z z' : Nat} {v : Value} {wx : World} (h : TstSt sb t K w m z v wx) (hK : K ≤ K') (hm : m ≤ m') (hz : z ≤ z') : TstSt sb t K' w m' z' v wx := by
  obtain ⟨S, h1, h2, h3, h4⟩ := h
  exact ⟨S, h1, by omega, fun k hk => by have := h3 k hk; omega, h4.mono hK⟩
theorem getD_snoc (S : List (List UInt8)) (x : List UInt8) (z : Nat) (h : ∀ k, k < S.length → (S.getD k []).length ≤ z) (hx : x.length ≤ z) : ∀ k, k < (S ++ [x]).length → ((S ++ [x]).getD k []).length ≤ z := fun k hk => by
  by_cases e : k < S.length
  · have h1 := h k e
    have e2 : (S ++ [x]).getD k [] = S.getD k [] := by simp [List.getD, List.getElem?_append, e]
    rw [e2]
    exact h1
  · have e1 : k = S.length := by simp at hk; omega
    have e2 : (S ++ [x]).getD k [] = x := by subst e1; simp [List.getD]
    rw [e2]
    exact hx
theorem getD_put (S : List (List UInt8)) (i : Nat) (x : List UInt8) (z : Nat) (h : ∀ k, k < S.length → (S.getD k []).length ≤ z) (hx : x.length ≤ z) : ∀ k, k < (S.set i x).length → ((S.set i x).getD k []).length ≤ z := fun k hk => by
  have hk2 : k < S.length := by simpa using hk
  by_cases e : i = k
  · subst e
    have e2 : (S.set i x).getD i [] = x := by simp [List.getD, hk2]
    rw [e2]
    exact hx
  · have e2 : (S.set i x).getD k [] = S.getD k [] := by simp [List.getD, e]
    rw [e2]
    exact h k hk2
theorem strs_put {B : Nat} {w : World} {g i c : Nat} {S : List (List UInt8)} (s : ByteArray) (h : StrsAt B w (.slice (some ⟨g, 0, none⟩) S.length c) S) : StrsAt B (w.setCell ⟨g, i, none⟩ (.string s)) (.slice (some ⟨g, 0, none⟩) S.length c) (S.set i s.data.toList) := by
  have h2 := (World.ownsRow.stored h i (.string s)).1
  unfold StrsAt
  rw [List.length_set, List.map_set]
  exact h2
theorem pick_two (j : Nat) (hj : j < 2) (x y : ByteArray) (hx : x.size = 1) (hy : y.size = 1) : ([x, y].getD j ⟨#[]⟩ : ByteArray).size = 1 := by
  match j, hj with
  | 0, _ => exact hx
  | 1, _ => exact hy
theorem pick_three (j : Nat) (hj : j < 3) : ([⟨#[48]⟩, ⟨#[49]⟩, ⟨#[48, 49]⟩].getD j ⟨#[]⟩ : ByteArray).size ≤ 2 := by
  match j, hj with
  | 0, _ => decide
  | 1, _ => decide
  | 2, _ => decide
theorem pick_long (j : Nat) (hj : j < 6) : ∃ q : Nat, q ≤ 5 ∧ ([0, 1, 2, 3, 4, 5].getD j 0 : Int) = (q : Int) := by
  match j, hj with
  | 0, _ => exact ⟨0, by omega, rfl⟩
  | 1, _ => exact ⟨1, by omega, rfl⟩
  | 2, _ => exact ⟨2, by omega, rfl⟩
  | 3, _ => exact ⟨3, by omega, rfl⟩
  | 4, _ => exact ⟨4, by omega, rfl⟩
  | 5, _ => exact ⟨5, by omega, rfl⟩
theorem Ran.thenB {sb t K : Nat} {w w1 w2 : World} (h : Ran sb t K w w1) (hb : Below w1.heap.size w1 w2) : Ran sb t K w w2 := by
  obtain ⟨hg, t', a, b, hs⟩ := h
  exact ⟨hg.trans ⟨hb.os, hb.tape, hb.output, hb.size, fun k hk _ => hb.block k hk⟩, t', a, b, hs.below hb hs.lt⟩
theorem cell_of_row {w : World} {B g c : Nat} {S : List (List UInt8)} (h : w.ownsRow B 9 1 (.slice (some ⟨g, 0, none⟩) S.length c) S.length (S.map strV)) {i : Nat} (hi : i < S.length) : ∃ x : ByteArray, x.data.toList = S.getD i [] ∧ w.cell? ⟨g, i, none⟩ = some (.string x) := by
  refine ⟨⟨(S.getD i []).toArray⟩, rfl, ?_⟩
  rw [h.cellAt i (by rw [Nat.mul_one]; exact hi)]
  simp [strV, hi]
theorem repeat_f (s : ByteArray) (c : Nat) (w : World) (hc : c ≤ 1000000) (hs : s.size ≤ 1000) :
    Calls Tryz.prog 26 #[.string s, .int .i64 (c : Int)] w fun e w' => (∃ r : ByteArray, r.size = c * s.size ∧ e = .returned (.string r)) ∧ Below w.heap.size w w' := by
  have hm : s.size * c ≤ 1000 * 1000000 := Nat.mul_le_mul hs hc
  refine (Tryz.strings_Repeat s c w (by omega) (by omega)).mono ?_
  rintro e w' ⟨rfl, hB⟩
  refine ⟨⟨_, ?_, rfl⟩, hB⟩
  show (Lib.repeatL s.data.toList c).toArray.size = _
  rw [List.size_toArray, Lib.repeatL_length]
  simp

set_option maxHeartbeats 4000000 in
set_option maxRecDepth 100000 in
theorem atest_any (sb t : Nat) (w : World) (hs : Strm w sb t) (ht : t ≤ 900000) :
    Calls Tryz.prog 4 #[.pointer (some ⟨sb, 0, none⟩)] w fun e w' => ∃ v, e = .returned v ∧ TstSt sb t 60 w 5 98 v w' := by
  obtain ⟨i0, hi, hz0, hz1, hz2⟩ := info_strv
  have hsb := hs.lt
  go_enter Tryz.func4, Tryz.ntmps4
  go_wp2_with fail
  refine (pick_any sb t w.heap.size 0 6 6 (fun k => ([0, 1, 2, 3, 4, 5] : List Int).getD k 0) _ (hs.alloc _) (by omega) (by decide) (by decide) (by omega) (ints_fresh w [0, 1, 2, 3, 4, 5] _)).mono ?_
  rintro e w1 ⟨⟨kk, hkk, rfl⟩, hr1'⟩
  have hr1 := hr1'.after_alloc
  obtain ⟨long, hl5, hle⟩ := pick_long kk hkk
  dsimp only
  rw [hle]
  obtain ⟨t1, ht1, ht1', hs1⟩ := hr1.strm
  clear hr1' hle hkk
  go_wp2_with fail
  refine (range_any sb t1 1 5 _ hs1 (by omega) (by decide) (by decide) (by decide)).mono ?_
  rintro e w2 ⟨⟨zn, hn0, hn1, rfl⟩, hr2⟩
  obtain ⟨n, rfl⟩ : ∃ n : Nat, zn = (n : Int) := ⟨zn.toNat, by omega⟩
  have hr12 : Ran sb t 2 w w2 := hr1.then ht1 ht1' hr2
  have HA := Lib.hid hr12
  clear hr1 hr2 hr12 hs hs1
  go_wp2_with fail
  go_loopw [3, 12] (fun v c wr => ∃ k : Nat, k ≤ n ∧ c = .int .i64 (k : Int) ∧ ∃ S : List (List UInt8), StrsAt w.heap.size wr v S ∧ S.length = k ∧ (∀ k, k < S.length → (S.getD k []).length ≤ 5) ∧ Ran sb t (2 + 5 * k) w wr) (fun _ c _ => n - (intOf c).toNat)
  case atStart => exact ⟨0, by omega, rfl, [], World.ownsRow_nil _ _ _ _, rfl, (fun k hk => by cases hk), HA.out⟩
  case round =>
    clear HA
    obtain ⟨k, hk, rfl, S, hS, hl, hz, hr⟩ := hrel
    subst hl
    obtain ⟨a, c, rfl, -⟩ := strs_open hS
    by_cases hlt : S.length < n
    · have HS := Lib.hid (⟨hS, hz, hr⟩ : _ ∧ _ ∧ _)
      obtain ⟨wo, rfl⟩ : ∃ wo : World, wo = wr := ⟨_, rfl⟩
      clear hS hz hr
      go_wp2_with fail
      go_loopw [5, 15] (fun x c2 wx => ∃ j : Nat, j ≤ long ∧ c2 = .int .i64 (j : Int) ∧ ∃ s : ByteArray, x = .string s ∧ s.size = j ∧ StrsAt w.heap.size wx (.slice a S.length c) S ∧ Ran sb t (2 + 5 * S.length + j) w wx) (fun _ c2 _ => long - (intOf c2).toNat)
      case atStart => exact ⟨0, by omega, rfl, ⟨#[]⟩, rfl, rfl, HS.out.1, HS.out.2.2⟩
      case round =>
        obtain ⟨j, hj, rfl, s, rfl, hsz, hrow, hr⟩ := hrel
        by_cases hlj : j < long
        · obtain ⟨t2, ht2, ht2', hs2⟩ := hr.strm
          have hpk := some_any sb t2 wr.heap.size 0 2 2 (fun k => ([⟨#[48]⟩, ⟨#[49]⟩] : List ByteArray).getD k ⟨#[]⟩) _ (hs2.alloc (.cells #[.string ⟨#[48]⟩, .string ⟨#[49]⟩] 9)) (by omega) (by decide) (by decide) (by have := hs2.lt; omega) (strs_fresh wr [⟨#[48]⟩, ⟨#[49]⟩] _)
          have H := Lib.hid (⟨hrow, hr⟩ : _ ∧ _)
          clear hrow hr
          go_wp2_with fail
          refine hpk.mono ?_
          rintro e w3 ⟨⟨kk, hkk, rfl⟩, hr3⟩
          have hc1 := pick_two kk hkk ⟨#[48]⟩ ⟨#[49]⟩ rfl rfl
          have hr4 := H.out.2.then ht2 ht2' hr3.after_alloc
          have hrow4 := row_ran H.out.1 hr3.after_alloc hsb
          dsimp only
          generalize ([⟨#[48]⟩, ⟨#[49]⟩] : List ByteArray).getD kk ⟨#[]⟩ = ch at hc1 ⊢
          have hcat : ¬ 9223372036854775807 < s.size + ch.size := by omega
          have hsz5 : (s ++ ch).size = j + 1 := by rw [ByteArray.size_append, hsz, hc1]
          have H5 := Lib.hid (⟨hrow4, hr4, hsz5⟩ : _ ∧ _ ∧ _)
          clear hrow4 hr4 hr3 hs2 hpk H hsz5
          go_wp2_with fail
          go_roundw
          case rel => exact ⟨j + 1, by omega, by go_num, _, rfl, H5.out.2.2, H5.out.1, H5.out.2.1⟩
          case measure => simp [intOf]; omega
        · obtain rfl : j = long := by omega
          have hrow2 : wr.ownsRow w.heap.size 9 1 (.slice a S.length c) S.length (S.map strV) := hrow
          have hgl : w.heap.size ≤ wr.heap.size := hr.1.size
          have H := Lib.hid (⟨hr, HS.out.2.1, hsz⟩ : _ ∧ _ ∧ _)
          clear hr hrow HS hsz
          go_wp2_with (at_builtin; refine wpList_append_own _ rfl _ _ 26 rfl w.heap.size 9 i0 (.string ⟨#[]⟩) 1 16 Tryz.underlying26 hi hz0 hz1 hz2 rfl (by decide) _ _ _ rfl (hrow2.alloc _) ⟨wr.heap.size, 0, none⟩ 1 1 [.string s] rfl rfl ?c1 ?c2 ?c3 ?c4 ?c5 ?_)
          case c1 => exact cell_one_new _ _ _
          case c2 => simp [Value.oneCell']
          case c3 => unfold maxLen; omega
          case c4 => omega
          case c5 => simp; omega
          intro v' w4 hown' hg4 _
          have hr5 : Ran sb t (2 + 5 * S.length + j) w w4 := (H.out.1.alloc _).grown hg4 (fun j hj => (hrow2.lt j hj).1) hsb
          have hS5 := strs_snocR s hown'
          have hP : ∃ S2 : List (List UInt8), StrsAt w.heap.size w4 v' S2 ∧ S2.length = S.length + 1 ∧ (∀ k, k < S2.length → (S2.getD k []).length ≤ 5) ∧ Ran sb t (2 + 5 * (S.length + 1)) w w4 := ⟨_, hS5, by simp, getD_snoc S _ 5 H.out.2.1 (by have := H.out.2.2; simp; omega), hr5.mono (by omega)⟩
          obtain ⟨a4, c4, rfl, -⟩ := strs_open hS5
          have HP := Lib.hid hP
          clear hP hr5 hS5 hown' hg4 hrow2 H
          go_wp2_with fail
          go_roundw
          case rel => exact ⟨S.length + 1, by omega, by go_num, HP.out⟩
          case measure => simp [intOf]; omega
    · have hln : S.length = n := by omega
      subst hln
      have hr6 : Ran sb t 27 w wr := hr.mono (by omega)
      have hl1 : 1 ≤ S.length := by omega
      have hl2 : S.length ≤ 5 := by omega
      obtain ⟨t3, ht3, ht3', hs3⟩ := hr6.strm
      have HS := Lib.hid (⟨hS, hz, hr6⟩ : _ ∧ _ ∧ _)
      clear hr hr6 hlt hk hS hz
      go_wp2_with fail
      refine (flip_any sb t3 20 _ hs3 (by omega) (by decide) (by decide)).mono ?_
      rintro e w4 ⟨⟨fl, rfl⟩, hr4⟩
      have hr28 : Ran sb t 28 w w4 := HS.out.2.2.then ht3 ht3' hr4
      have H4 := Lib.hid (⟨row_ran HS.out.1 hr4 hsb, HS.out.2.1, hr28⟩ : StrsAt w.heap.size w4 (.slice a S.length c) S ∧ _ ∧ _)
      obtain ⟨t6, ht6, ht6', hs6⟩ := hr28.strm
      clear hr4 hs3 HS hr28
      obtain ⟨g, rfl, hg⟩ : ∃ g, a = some ⟨g, 0, none⟩ ∧ g < w4.heap.size := by
        obtain ⟨a', c', he, hop⟩ := strs_open H4.out.1
        obtain ⟨g, ha, hg, hcell⟩ := hop (by omega)
        injection he with h1 h2 h3
        exact ⟨g, h1.trans ha, hg⟩
      have hgB : w.heap.size ≤ g := (World.ownsRow.lt H4.out.1 g rfl).1
      have hgs : g ≠ sb := by omega
      cases fl with
      | true =>
        have hnx := fun W (h : Strm W sb t6) => next_any sb t6 (S.length : Int) W h (by omega) (by omega) (by omega)
        have hs6d : Strm w4.drew sb t6 := hs6.kept fun _ _ => rfl
        have hcl := fun (W : World) (hr : Ran sb t6 1 w4 W) (i : Nat) (hi : i < S.length) => cell_of_row (row_ran H4.out.1 hr hsb) hi
        have hfz := fun (W : World) (hr : Ran sb t6 1 w4 W) (i : Nat) => (row_ran H4.out.1 hr hsb).frozenAt i
        have h5 := H4.out.2.1
        have hsx : ∀ i, i < S.length → ∀ x : ByteArray, x.data.toList = S.getD i [] → x.size ≤ 5 := fun i hi x hx => by
          have h := h5 i hi
          rw [← hx] at h
          simpa using h
        have HT := Lib.hid (show ∀ (W : World), Ran sb t6 1 w4 W → Ran sb t (28 + 1) w W from fun W hr => H4.out.2.2.then ht6 ht6' hr)
        have hsbw := hs6.lt
        clear hs6
        go_wp2_with fail
        refine wp_region_any (by kernel_rfl) ?_
        refine wpAny_take (i := 0) (v := ?_) rfl (by kernel_rfl) (by kernel_rfl) (by kernel_rfl) (fun _ _ _ h => h) (Or.inl ⟨by rfl, ?_⟩) ?_
        rotate_left
        focus (intro w; go_simp; first | done | with_reducible rfl)
        refine wpAny_take (i := 1) (v := ?_) rfl (by kernel_rfl) (by kernel_rfl) (by kernel_rfl) (fun _ _ _ h => h) (Or.inl ⟨by rfl, ?_⟩) ?_
        rotate_left
        focus (intro w; go_simp; first | done | with_reducible rfl)
        refine wpAny_take (i := 2) (v := ?_) rfl (by kernel_rfl) (by kernel_rfl) (by kernel_rfl) (fun _ _ _ h => h) (Or.inl ⟨by rfl, ?_⟩) ?_
        rotate_left
        focus (intro w; go_simp; first | done | with_reducible rfl)
        refine wpAny_take (i := 3) (v := ?_) rfl (by kernel_rfl) (by kernel_rfl) (by kernel_rfl) (fun _ _ _ h => h) (Or.inl ⟨by rfl, ?_⟩) ?_
        rotate_left
        focus (intro w; go_simp; first | done | with_reducible rfl)
        refine wpAny_take (i := 7) (v := ?_) rfl (by kernel_rfl) (by kernel_rfl) (by kernel_rfl) (fun _ _ _ h => h) (Or.inl ⟨by rfl, ?_⟩) ?_
        rotate_left
        focus (intro w; go_simp; first | done | with_reducible rfl)
        refine wpAny_ready (rs := [4, 8]) (by kernel_rfl) (by simp) (AllReady.cons rfl (fun K hK => ?_) (AllReady.cons rfl (fun K hK => ?_) AllReady.nil))
        ·
          go_simp
          go_at_call 25
          refine (hnx _ hs6d).mono ?_
          rintro e w5 ⟨⟨zi, hi0, hi3, rfl⟩, hr5'⟩
          have hr5 := hr5'.undrew
          obtain ⟨i, rfl⟩ : ∃ i : Nat, zi = (i : Int) := ⟨zi.toNat, by omega⟩
          obtain ⟨t8, ht8, ht8', hs8⟩ := hr5.strm
          obtain ⟨x, hx5, hc5⟩ := hcl w5 hr5 i (by omega)
          have hf5 := hfz w5 hr5 i
          have hlt5 := World.block_lt_of_cell? w5 ⟨g, i, none⟩ hc5
          have hi2 : (i : Int) < (S.length : Int) := by omega
          have hi1 : (0 : Int) ≤ (i : Int) := by omega
          have hxz := hsx i (by omega) x hx5
          have hsz5 : w4.heap.size ≤ w5.heap.size := hr5.1.size
          refine hK _ _ ?_
          clear hK K
          refine wpAny_take (i := 5) (v := ?_) rfl (by kernel_rfl) (by kernel_rfl) (by kernel_rfl) (fun _ _ _ h => h) (Or.inl ⟨by rfl, ?_⟩) ?_
          rotate_left
          focus (intro w; go_simp; first | done | with_reducible rfl)
          refine wpAny_ready (rs := [6, 8]) (by kernel_rfl) (by simp) (AllReady.cons rfl (fun K hK => ?_) (AllReady.cons rfl (fun K hK => ?_) AllReady.nil))
          ·
            (go_simp; refine hK _ _ ?_; clear hK K)
            refine wpAny_ready (rs := [8]) (by kernel_rfl) (by simp) (AllReady.cons rfl (fun K hK => ?_) AllReady.nil)
            (go_simp; refine hK _ _ ?_; clear hK K)
            refine wpAny_ready (rs := [9]) (by kernel_rfl) (by simp) (AllReady.cons rfl (fun K hK => ?_) AllReady.nil)
            go_simp
            go_at_call 23
            refine (some_any sb t8 w5.heap.size 0 2 2 (fun k => ([⟨#[48]⟩, ⟨#[120]⟩] : List ByteArray).getD k ⟨#[]⟩) _ (hs8.alloc _) (by omega) (by decide) (by decide) (by omega) (strs_fresh w5 ([⟨#[48]⟩, ⟨#[120]⟩] : List ByteArray) _)).mono ?_
            rintro e w8 ⟨⟨kk, hkk, rfl⟩, hr8⟩
            have hr8u := hr8.after_alloc
            have hc8 := hr8u.cell hc5 hgs
            have hf8 := ran_frozen hr8u hgs hlt5 i hf5
            have hzr := pick_two kk hkk ⟨#[48]⟩ ⟨#[120]⟩ rfl rfl
            dsimp only
            generalize ([⟨#[48]⟩, ⟨#[120]⟩] : List ByteArray).getD kk ⟨#[]⟩ = r at hzr ⊢
            have hcat : ¬ 9223372036854775807 < x.size + 1 := by omega
            refine hK _ _ ?_
            clear hK K
            refine wpAny_take (i := 10) (v := ?_) rfl (by kernel_rfl) (by kernel_rfl) (by kernel_rfl) (fun _ _ _ h => h) (Or.inl ⟨by rfl, ?_⟩) ?_
            rotate_left
            focus (intro w; go_simp; first | done | with_reducible rfl)
            refine wpAny_take (i := 11) (v := ?_) rfl (by kernel_rfl) (by kernel_rfl) (by kernel_rfl) (fun _ _ _ h => h) (Or.inl ⟨by rfl, ?_⟩) ?_
            rotate_left
            focus (intro w; go_simp; first | done | with_reducible rfl)
            refine wpAny_ready (rs := [12]) (by kernel_rfl) (by simp) (AllReady.cons rfl (fun K hK => ?_) AllReady.nil)
            (go_simp; refine hK _ _ ?_; clear hK K)
            refine wpAny_done (by kernel_rfl) ?_ _
            have hr8v := (HT.out _ hr5).then (t' := t8) (by omega) (by omega) hr8u
            have hput := strs_put (i := i) (x ++ r) (row_ran (row_ran H4.out.1 hr5 hsb) hr8u hsb)
            have hxr : (x ++ r).data.toList.length ≤ 6 := by
              have e := ByteArray.size_append (a := x) (b := r)
              have e2 : (x ++ r).data.toList.length = (x ++ r).size := rfl
              omega
            have hfin : TstSt sb t 60 w 5 98 (.slice (some ⟨g, 0, none⟩) S.length c) (w8.setCell ⟨g, i, none⟩ (.string (x ++ r))) := ⟨S.set i (x ++ r).data.toList, hput, by simpa using hl2, getD_put S i _ 98 (fun k hk => by have := h5 k hk; omega) (by omega), (hr8v.setCell hgB hsb _).mono (by omega)⟩
            have HF := Lib.hid hfin
            clear hfin hput hr8v hxr
            generalize w8.setCell ⟨g, i, none⟩ (.string (x ++ r)) = wz at HF ⊢
            go_wp2_with fail
            go_ret
            exact ⟨_, rfl, HF.out⟩
          ·
            (go_simp; refine hK _ _ ?_; clear hK K)
            refine wpAny_ready (rs := [6, 9]) (by kernel_rfl) (by simp) (AllReady.cons rfl (fun K hK => ?_) (AllReady.cons rfl (fun K hK => ?_) AllReady.nil))
            ·
              (go_simp; refine hK _ _ ?_; clear hK K)
              refine wpAny_ready (rs := [9]) (by kernel_rfl) (by simp) (AllReady.cons rfl (fun K hK => ?_) AllReady.nil)
              go_simp
              go_at_call 23
              refine (some_any sb t8 w5.heap.size 0 2 2 (fun k => ([⟨#[48]⟩, ⟨#[120]⟩] : List ByteArray).getD k ⟨#[]⟩) _ (hs8.alloc _) (by omega) (by decide) (by decide) (by omega) (strs_fresh w5 ([⟨#[48]⟩, ⟨#[120]⟩] : List ByteArray) _)).mono ?_
              rintro e w8 ⟨⟨kk, hkk, rfl⟩, hr8⟩
              have hr8u := hr8.after_alloc
              have hc8 := hr8u.cell hc5 hgs
              have hf8 := ran_frozen hr8u hgs hlt5 i hf5
              have hzr := pick_two kk hkk ⟨#[48]⟩ ⟨#[120]⟩ rfl rfl
              dsimp only
              generalize ([⟨#[48]⟩, ⟨#[120]⟩] : List ByteArray).getD kk ⟨#[]⟩ = r at hzr ⊢
              have hcat : ¬ 9223372036854775807 < x.size + 1 := by omega
              refine hK _ _ ?_
              clear hK K
              refine wpAny_take (i := 10) (v := ?_) rfl (by kernel_rfl) (by kernel_rfl) (by kernel_rfl) (fun _ _ _ h => h) (Or.inl ⟨by rfl, ?_⟩) ?_
              rotate_left
              focus (intro w; go_simp; first | done | with_reducible rfl)
              refine wpAny_take (i := 11) (v := ?_) rfl (by kernel_rfl) (by kernel_rfl) (by kernel_rfl) (fun _ _ _ h => h) (Or.inl ⟨by rfl, ?_⟩) ?_
              rotate_left
              focus (intro w; go_simp; first | done | with_reducible rfl)
              refine wpAny_ready (rs := [12]) (by kernel_rfl) (by simp) (AllReady.cons rfl (fun K hK => ?_) AllReady.nil)
              (go_simp; refine hK _ _ ?_; clear hK K)
              refine wpAny_done (by kernel_rfl) ?_ _
              have hr8v := (HT.out _ hr5).then (t' := t8) (by omega) (by omega) hr8u
              have hput := strs_put (i := i) (x ++ r) (row_ran (row_ran H4.out.1 hr5 hsb) hr8u hsb)
              have hxr : (x ++ r).data.toList.length ≤ 6 := by
                have e := ByteArray.size_append (a := x) (b := r)
                have e2 : (x ++ r).data.toList.length = (x ++ r).size := rfl
                omega
              have hfin : TstSt sb t 60 w 5 98 (.slice (some ⟨g, 0, none⟩) S.length c) (w8.setCell ⟨g, i, none⟩ (.string (x ++ r))) := ⟨S.set i (x ++ r).data.toList, hput, by simpa using hl2, getD_put S i _ 98 (fun k hk => by have := h5 k hk; omega) (by omega), (hr8v.setCell hgB hsb _).mono (by omega)⟩
              have HF := Lib.hid hfin
              clear hfin hput hr8v hxr
              generalize w8.setCell ⟨g, i, none⟩ (.string (x ++ r)) = wz at HF ⊢
              go_wp2_with fail
              go_ret
              exact ⟨_, rfl, HF.out⟩
            ·
              go_simp
              go_at_call 23
              refine (some_any sb t8 w5.heap.size 0 2 2 (fun k => ([⟨#[48]⟩, ⟨#[120]⟩] : List ByteArray).getD k ⟨#[]⟩) _ (hs8.alloc _) (by omega) (by decide) (by decide) (by omega) (strs_fresh w5 ([⟨#[48]⟩, ⟨#[120]⟩] : List ByteArray) _)).mono ?_
              rintro e w8 ⟨⟨kk, hkk, rfl⟩, hr8⟩
              have hr8u := hr8.after_alloc
              have hc8 := hr8u.cell hc5 hgs
              have hf8 := ran_frozen hr8u hgs hlt5 i hf5
              have hzr := pick_two kk hkk ⟨#[48]⟩ ⟨#[120]⟩ rfl rfl
              dsimp only
              generalize ([⟨#[48]⟩, ⟨#[120]⟩] : List ByteArray).getD kk ⟨#[]⟩ = r at hzr ⊢
              have hcat : ¬ 9223372036854775807 < x.size + 1 := by omega
              refine hK _ _ ?_
              clear hK K
              refine wpAny_ready (rs := [6]) (by kernel_rfl) (by simp) (AllReady.cons rfl (fun K hK => ?_) AllReady.nil)
              (go_simp; refine hK _ _ ?_; clear hK K)
              refine wpAny_take (i := 10) (v := ?_) rfl (by kernel_rfl) (by kernel_rfl) (by kernel_rfl) (fun _ _ _ h => h) (Or.inl ⟨by rfl, ?_⟩) ?_
              rotate_left
              focus (intro w; go_simp; first | done | with_reducible rfl)
              refine wpAny_take (i := 11) (v := ?_) rfl (by kernel_rfl) (by kernel_rfl) (by kernel_rfl) (fun _ _ _ h => h) (Or.inl ⟨by rfl, ?_⟩) ?_
              rotate_left
              focus (intro w; go_simp; first | done | with_reducible rfl)
              refine wpAny_ready (rs := [12]) (by kernel_rfl) (by simp) (AllReady.cons rfl (fun K hK => ?_) AllReady.nil)
              (go_simp; refine hK _ _ ?_; clear hK K)
              refine wpAny_done (by kernel_rfl) ?_ _
              have hr8v := (HT.out _ hr5).then (t' := t8) (by omega) (by omega) hr8u
              have hput := strs_put (i := i) (x ++ r) (row_ran (row_ran H4.out.1 hr5 hsb) hr8u hsb)
              have hxr : (x ++ r).data.toList.length ≤ 6 := by
                have e := ByteArray.size_append (a := x) (b := r)
                have e2 : (x ++ r).data.toList.length = (x ++ r).size := rfl
                omega
              have hfin : TstSt sb t 60 w 5 98 (.slice (some ⟨g, 0, none⟩) S.length c) (w8.setCell ⟨g, i, none⟩ (.string (x ++ r))) := ⟨S.set i (x ++ r).data.toList, hput, by simpa using hl2, getD_put S i _ 98 (fun k hk => by have := h5 k hk; omega) (by omega), (hr8v.setCell hgB hsb _).mono (by omega)⟩
              have HF := Lib.hid hfin
              clear hfin hput hr8v hxr
              generalize w8.setCell ⟨g, i, none⟩ (.string (x ++ r)) = wz at HF ⊢
              go_wp2_with fail
              go_ret
              exact ⟨_, rfl, HF.out⟩
        ·
          (go_simp; refine hK _ _ ?_; clear hK K)
          refine wpAny_ready (rs := [4]) (by kernel_rfl) (by simp) (AllReady.cons rfl (fun K hK => ?_) AllReady.nil)
          go_simp
          go_at_call 25
          refine (hnx _ (hs6d.alloc _)).mono ?_
          rintro e w5 ⟨⟨zi, hi0, hi3, rfl⟩, hst⟩
          have hr5 := hst.after_alloc.undrew
          obtain ⟨i, rfl⟩ : ∃ i : Nat, zi = (i : Int) := ⟨zi.toNat, by omega⟩
          obtain ⟨t8, ht8, ht8', hs8⟩ := hr5.strm
          obtain ⟨x, hx5, hc5⟩ := hcl w5 hr5 i (by omega)
          have hf5 := hfz w5 hr5 i
          have hlt5 := World.block_lt_of_cell? w5 ⟨g, i, none⟩ hc5
          have hi2 : (i : Int) < (S.length : Int) := by omega
          have hi1 : (0 : Int) ≤ (i : Int) := by omega
          have hxz := hsx i (by omega) x hx5
          have hsz5 : w4.heap.size ≤ w5.heap.size := hr5.1.size
          refine hK _ _ ?_
          clear hK K
          refine wpAny_take (i := 5) (v := ?_) rfl (by kernel_rfl) (by kernel_rfl) (by kernel_rfl) (fun _ _ _ h => h) (Or.inl ⟨by rfl, ?_⟩) ?_
          rotate_left
          focus (intro w; go_simp; first | done | with_reducible rfl)
          refine wpAny_ready (rs := [6, 9]) (by kernel_rfl) (by simp) (AllReady.cons rfl (fun K hK => ?_) (AllReady.cons rfl (fun K hK => ?_) AllReady.nil))
          ·
            (go_simp; refine hK _ _ ?_; clear hK K)
            refine wpAny_ready (rs := [9]) (by kernel_rfl) (by simp) (AllReady.cons rfl (fun K hK => ?_) AllReady.nil)
            go_simp
            go_at_call 23
            refine (some_any sb t8 w4.heap.size 0 2 2 (fun k => ([⟨#[48]⟩, ⟨#[120]⟩] : List ByteArray).getD k ⟨#[]⟩) _ hs8 (by omega) (by decide) (by decide) (by omega) (fun k hk => hst.cell (strs_fresh w4.drew ([⟨#[48]⟩, ⟨#[120]⟩] : List ByteArray) _ k hk) (by show w4.heap.size ≠ sb; omega))).mono ?_
            rintro e w8 ⟨⟨kk, hkk, rfl⟩, hr8u⟩
            have hc8 := hr8u.cell hc5 hgs
            have hf8 := ran_frozen hr8u hgs hlt5 i hf5
            have hzr := pick_two kk hkk ⟨#[48]⟩ ⟨#[120]⟩ rfl rfl
            dsimp only
            generalize ([⟨#[48]⟩, ⟨#[120]⟩] : List ByteArray).getD kk ⟨#[]⟩ = r at hzr ⊢
            have hcat : ¬ 9223372036854775807 < x.size + 1 := by omega
            refine hK _ _ ?_
            clear hK K
            refine wpAny_take (i := 10) (v := ?_) rfl (by kernel_rfl) (by kernel_rfl) (by kernel_rfl) (fun _ _ _ h => h) (Or.inl ⟨by rfl, ?_⟩) ?_
            rotate_left
            focus (intro w; go_simp; first | done | with_reducible rfl)
            refine wpAny_take (i := 11) (v := ?_) rfl (by kernel_rfl) (by kernel_rfl) (by kernel_rfl) (fun _ _ _ h => h) (Or.inl ⟨by rfl, ?_⟩) ?_
            rotate_left
            focus (intro w; go_simp; first | done | with_reducible rfl)
            refine wpAny_ready (rs := [12]) (by kernel_rfl) (by simp) (AllReady.cons rfl (fun K hK => ?_) AllReady.nil)
            (go_simp; refine hK _ _ ?_; clear hK K)
            refine wpAny_done (by kernel_rfl) ?_ _
            have hr8v := (HT.out _ hr5).then (t' := t8) (by omega) (by omega) hr8u
            have hput := strs_put (i := i) (x ++ r) (row_ran (row_ran H4.out.1 hr5 hsb) hr8u hsb)
            have hxr : (x ++ r).data.toList.length ≤ 6 := by
              have e := ByteArray.size_append (a := x) (b := r)
              have e2 : (x ++ r).data.toList.length = (x ++ r).size := rfl
              omega
            have hfin : TstSt sb t 60 w 5 98 (.slice (some ⟨g, 0, none⟩) S.length c) (w8.setCell ⟨g, i, none⟩ (.string (x ++ r))) := ⟨S.set i (x ++ r).data.toList, hput, by simpa using hl2, getD_put S i _ 98 (fun k hk => by have := h5 k hk; omega) (by omega), (hr8v.setCell hgB hsb _).mono (by omega)⟩
            have HF := Lib.hid hfin
            clear hfin hput hr8v hxr
            generalize w8.setCell ⟨g, i, none⟩ (.string (x ++ r)) = wz at HF ⊢
            go_wp2_with fail
            go_ret
            exact ⟨_, rfl, HF.out⟩
          ·
            go_simp
            go_at_call 23
            refine (some_any sb t8 w4.heap.size 0 2 2 (fun k => ([⟨#[48]⟩, ⟨#[120]⟩] : List ByteArray).getD k ⟨#[]⟩) _ hs8 (by omega) (by decide) (by decide) (by omega) (fun k hk => hst.cell (strs_fresh w4.drew ([⟨#[48]⟩, ⟨#[120]⟩] : List ByteArray) _ k hk) (by show w4.heap.size ≠ sb; omega))).mono ?_
            rintro e w8 ⟨⟨kk, hkk, rfl⟩, hr8u⟩
            have hc8 := hr8u.cell hc5 hgs
            have hf8 := ran_frozen hr8u hgs hlt5 i hf5
            have hzr := pick_two kk hkk ⟨#[48]⟩ ⟨#[120]⟩ rfl rfl
            dsimp only
            generalize ([⟨#[48]⟩, ⟨#[120]⟩] : List ByteArray).getD kk ⟨#[]⟩ = r at hzr ⊢
            have hcat : ¬ 9223372036854775807 < x.size + 1 := by omega
            refine hK _ _ ?_
            clear hK K
            refine wpAny_ready (rs := [6]) (by kernel_rfl) (by simp) (AllReady.cons rfl (fun K hK => ?_) AllReady.nil)
            (go_simp; refine hK _ _ ?_; clear hK K)
            refine wpAny_take (i := 10) (v := ?_) rfl (by kernel_rfl) (by kernel_rfl) (by kernel_rfl) (fun _ _ _ h => h) (Or.inl ⟨by rfl, ?_⟩) ?_
            rotate_left
            focus (intro w; go_simp; first | done | with_reducible rfl)
            refine wpAny_take (i := 11) (v := ?_) rfl (by kernel_rfl) (by kernel_rfl) (by kernel_rfl) (fun _ _ _ h => h) (Or.inl ⟨by rfl, ?_⟩) ?_
            rotate_left
            focus (intro w; go_simp; first | done | with_reducible rfl)
            refine wpAny_ready (rs := [12]) (by kernel_rfl) (by simp) (AllReady.cons rfl (fun K hK => ?_) AllReady.nil)
            (go_simp; refine hK _ _ ?_; clear hK K)
            refine wpAny_done (by kernel_rfl) ?_ _
            have hr8v := (HT.out _ hr5).then (t' := t8) (by omega) (by omega) hr8u
            have hput := strs_put (i := i) (x ++ r) (row_ran (row_ran H4.out.1 hr5 hsb) hr8u hsb)
            have hxr : (x ++ r).data.toList.length ≤ 6 := by
              have e := ByteArray.size_append (a := x) (b := r)
              have e2 : (x ++ r).data.toList.length = (x ++ r).size := rfl
              omega
            have hfin : TstSt sb t 60 w 5 98 (.slice (some ⟨g, 0, none⟩) S.length c) (w8.setCell ⟨g, i, none⟩ (.string (x ++ r))) := ⟨S.set i (x ++ r).data.toList, hput, by simpa using hl2, getD_put S i _ 98 (fun k hk => by have := h5 k hk; omega) (by omega), (hr8v.setCell hgB hsb _).mono (by omega)⟩
            have HF := Lib.hid hfin
            clear hfin hput hr8v hxr
            generalize w8.setCell ⟨g, i, none⟩ (.string (x ++ r)) = wz at HF ⊢
            go_wp2_with fail
            go_ret
            exact ⟨_, rfl, HF.out⟩
      | false =>
        go_wp2_with fail
        refine (flip_any sb t6 40 _ hs6 (by omega) (by decide) (by decide)).mono ?_
        rintro e w5 ⟨⟨fl, rfl⟩, hr5⟩
        have hr29 : Ran sb t 29 w w5 := H4.out.2.2.then ht6 ht6' hr5
        have H5 := Lib.hid (⟨row_ran H4.out.1 hr5 hsb, H4.out.2.1, hr29⟩ : StrsAt w.heap.size w5 (.slice (some ⟨g, 0, none⟩) S.length c) S ∧ _ ∧ _)
        obtain ⟨t7, ht7, ht7', hs7⟩ := hr29.strm
        clear hr5 hs6 H4 hr29
        cases fl with
        | true =>
          go_wp2_with fail
          go_ret
          exact ⟨_, rfl, [], World.ownsRow_nil _ _ _ _, by decide, (fun k hk => by cases hk), H5.out.2.2.mono (by omega)⟩
        | false =>
          go_wp2_with fail
          refine (flip_any sb t7 40 _ hs7 (by omega) (by decide) (by decide)).mono ?_
          rintro e w6 ⟨⟨fl, rfl⟩, hr6⟩
          have hr30 : Ran sb t 30 w w6 := H5.out.2.2.then ht7 ht7' hr6
          have H6 := Lib.hid (⟨row_ran H5.out.1 hr6 hsb, H5.out.2.1, hr30⟩ : StrsAt w.heap.size w6 (.slice (some ⟨g, 0, none⟩) S.length c) S ∧ _ ∧ _)
          clear hr6 hs7 H5 hr30
          cases fl with
          | false =>
            go_wp2_with fail
            go_ret
            exact ⟨_, rfl, S, H6.out.1, by omega, (fun k hk => by have := H6.out.2.1 k hk; omega), H6.out.2.2.mono (by omega)⟩
          | true =>
            go_wp2_with fail
            go_loopw [51] (fun c2 wx => ∃ j : Nat, j ≤ S.length ∧ c2 = .int .i64 (j : Int) ∧ ∃ S2 : List (List UInt8), S2.length = S.length ∧ StrsAt w.heap.size wx (.slice (some ⟨g, 0, none⟩) S.length c) S2 ∧ (∀ k, k < S2.length → (S2.getD k []).length ≤ 98) ∧ Ran sb t (30 + 3 * j) w wx) (fun c2 _ => S.length - (intOf c2).toNat)
            case atStart => exact ⟨0, by omega, rfl, S, rfl, H6.out.1, (fun k hk => by have := H6.out.2.1 k hk; omega), H6.out.2.2⟩
            case round =>
              clear H6
              obtain ⟨j, hj, rfl, S2, hl3, hrow, hz, hr⟩ := hrel
              by_cases hlj : j < S.length
              · obtain ⟨t8, ht8, ht8', hs8⟩ := hr.strm
                have hpk := some_any sb t8 wr.heap.size 0 3 3 (fun k => ([⟨#[48]⟩, ⟨#[49]⟩, ⟨#[48, 49]⟩] : List ByteArray).getD k ⟨#[]⟩) _ (hs8.alloc (.cells #[.string ⟨#[48]⟩, .string ⟨#[49]⟩, .string ⟨#[48, 49]⟩] 9)) (by omega) (by decide) (by decide) (by have := hs8.lt; omega) (strs_fresh wr [⟨#[48]⟩, ⟨#[49]⟩, ⟨#[48, 49]⟩] _)
                have H := Lib.hid (⟨hrow, hz, hr⟩ : _ ∧ _ ∧ _)
                clear hrow hz hr
                have q0 : (0 : Int) ≤ (j : Int) := by omega
                have q1 : (j : Int) < (S.length : Int) := by omega
                go_wp2_with fail
                refine hpk.mono ?_
                rintro e w7 ⟨⟨kk, hkk, rfl⟩, hr7⟩
                have hc1 := pick_three kk hkk
                have hrA0 := hr7.after_alloc
                have hrA := H.out.2.2.then ht8 ht8' hrA0
                dsimp only
                generalize ([⟨#[48]⟩, ⟨#[49]⟩, ⟨#[48, 49]⟩] : List ByteArray).getD kk ⟨#[]⟩ = s1 at hc1 ⊢
                obtain ⟨t9, ht9, ht9', hs9⟩ := hrA.strm
                clear hpk hr7 hs8
                go_wp2_with fail
                refine (range_any sb t9 0 1 _ hs9 (by omega) (by decide) (by decide) (by decide)).mono ?_
                rintro e w8 ⟨⟨c8, hc80, hc81, rfl⟩, hr8⟩
                obtain ⟨q8, rfl⟩ : ∃ q : Nat, c8 = (q : Int) := ⟨c8.toNat, by omega⟩
                have hrB := hrA.then ht9 ht9' hr8
                have hrp := repeat_f s1 (32 + q8) w8 (by omega) (by omega)
                rw [show ((32 + q8 : Nat) : Int) = 32 + (q8 : Int) by omega] at hrp
                go_wp2_with fail
                refine hrp.mono ?_
                rintro e wa ⟨⟨ra, hra, rfl⟩, hBa⟩
                have hrC := hrB.thenB hBa
                have hrowA := row_later (row_ran (row_ran H.out.1 hrA0 hsb) hr8 hsb) hBa
                obtain ⟨tb, htb, htb', hsb'⟩ := hrC.strm
                clear hrp hBa hr8 hs9 hrA hrB
                go_wp2_with fail
                refine (range_any sb tb 0 32 _ hsb' (by omega) (by decide) (by decide) (by decide)).mono ?_
                rintro e wb ⟨⟨cb, hcb0, hcb1, rfl⟩, hrb⟩
                obtain ⟨qb, rfl⟩ : ∃ q : Nat, cb = (q : Int) := ⟨cb.toNat, by omega⟩
                have hrD := hrC.then htb htb' hrb
                have hrp := repeat_f ⟨#[49]⟩ qb wb (by omega) (by decide)
                go_wp2_with fail
                refine hrp.mono ?_
                rintro e wc ⟨⟨rb, hrb2, rfl⟩, hBc⟩
                have hrE := hrD.thenB hBc
                have hrow5 := row_later (row_ran hrowA hrb hsb) hBc
                have hrow6 := hrow5
                rw [hl3] at hrow6
                have hcc := hrow6.cellAt j (by omega)
                have hff := hrow6.frozenAt j
                clear hrow6
                have hjs : (S2.map strV)[j]? = some (strV (S2.getD j [])) := by simp [show j < S2.length by omega]
                rw [hjs] at hcc
                have hput := strs_put (g := g) (i := j) (c := c) (ra ++ rb) (show StrsAt w.heap.size wc (.slice (some ⟨g, 0, none⟩) S2.length c) S2 by rw [hl3]; exact hrow5)
                have h491 : ByteArray.size ⟨#[49]⟩ = 1 := rfl
                rw [h491, Nat.mul_one] at hrb2
                have hra2 : ra.size ≤ 66 := by rw [hra]; exact Nat.le_trans (Nat.mul_le_mul (show 32 + q8 ≤ 33 by omega) hc1) (by decide)
                clear hra h491
                have hcat : ¬ 9223372036854775807 < ra.size + qb := by omega
                have hlen : (ra ++ rb).data.toList.length ≤ 98 := by
                  have e := ByteArray.size_append (a := ra) (b := rb)
                  have e2 : (ra ++ rb).data.toList.length = (ra ++ rb).size := rfl
                  omega
                have hrF := (hrE.setCell (a := ⟨g, j, none⟩) hgB hsb (.string (ra ++ rb)))
                have hP : ∃ S3 : List (List UInt8), S3.length = S.length ∧ StrsAt w.heap.size (wc.setCell ⟨g, j, none⟩ (.string (ra ++ rb))) (.slice (some ⟨g, 0, none⟩) S.length c) S3 ∧ (∀ k, k < S3.length → (S3.getD k []).length ≤ 98) ∧ Ran sb t (30 + 3 * (j + 1)) w (wc.setCell ⟨g, j, none⟩ (.string (ra ++ rb))) :=
                  ⟨_, by simpa using hl3, by rw [← hl3]; exact hput, getD_put S2 j _ 98 H.out.2.1 hlen, hrF.mono (by omega)⟩
                have HP := Lib.hid hP
                clear hP hrF hput hlen hrow5 hrp hBc hrE hrD hrb
                go_wp2_with fail
                go_roundw
                case rel => exact ⟨j + 1, by omega, by go_num, HP.out⟩
                case measure => simp [intOf]; omega
              · obtain rfl : j = S.length := by omega
                have H := Lib.hid (⟨hrow, hz, hr⟩ : _ ∧ _ ∧ _)
                clear hrow hz hr
                go_wp2_with fail
                go_ret
                exact ⟨_, rfl, S2, H.out.1, by omega, H.out.2.1, H.out.2.2.mono (by omega)⟩
end Go.Proofs.YtgnkihiibednoaaGreatDoor
