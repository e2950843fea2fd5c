/- areClear: no sequence of two is their AND. -/
import Derived.Test.YtoipgliokelcfaaGreatDoorPdR
namespace Go.Proofs.YtoipgliokelcfaaGreatDoor
open Go.RowKit Go.Shelf

attribute [local go_sem] Oper.semAt_some

theorem keeps_below {w w' : World} (h : Below w.heap.size w w') : KeepsOthers w w' := ⟨h.size, fun k _ hk _ => (h.block k (Array.getElem?_eq_some_iff.1 hk).1).trans hk⟩
theorem mem_pairsTo {n a b : Nat} (h1 : a < b) (h2 : b < n) : (a, b) ∈ pairsTo n n := by
  unfold pairsTo
  rw [List.mem_flatMap]
  refine ⟨a, List.mem_range.2 (by omega), ?_⟩
  unfold rowTo
  rw [List.mem_filterMap]
  exact ⟨b, List.mem_range.2 h2, by rw [if_pos h1]⟩
theorem beq_dec (a b : List UInt8) : (a == b) = decide (a = b) := by
  by_cases h : a = b
  · rw [h, beq_self_eq_true, decide_eq_true rfl]
  · rw [decide_eq_false h, beq_eq_false_iff_ne.2 h]
/-- Whether one of two sequences is their AND. -/
def badP (L : List (List UInt8)) (x : Nat × Nat) : Bool := decide (andL (L.getD x.1 []) (L.getD x.2 []) = L.getD x.1 []) || decide (andL (L.getD x.1 []) (L.getD x.2 []) = L.getD x.2 [])
def clearB (L : List (List UInt8)) (n : Nat) : Bool := (pairsTo n n).all fun x => !badP L x

set_option maxHeartbeats 8000000 in
set_option maxRecDepth 100000 in
theorem areClear_any (L : List (List UInt8)) (n m : Nat) (hG : Grid L n m) (Bv : Nat) (w : World) (v : Value) (h : StrsAt Bv w v L) :
    Calls Tryz.prog 52 #[v] w fun e w' => e = .returned (.bool (clearB L n)) ∧ Below w.heap.size w w' := by
  obtain ⟨a, c, rfl, hop⟩ := strs_open h
  rw [hG.len] at hop ⊢
  obtain ⟨g, rfl, hg, hcell⟩ := hop (by have := hG.n1; omega)
  have HC := Lib.hid (⟨hcell, hG⟩ : _ ∧ _)
  have hn1 := hG.n1
  have hn2 := hG.n2
  obtain ⟨res, hres⟩ : ∃ res, res = clearB L n := ⟨_, rfl⟩
  rw [← hres]
  have HRES := Lib.hid hres
  clear hcell hG hop h hres
  refine (callsIn_wide (n := 9)).1 ?_
  refine callsIn_of_wp_marks Tryz.func52 rfl trivial ?_ rfl
  simp only [Tryz.ntmps52, List.size_toArray, List.length_cons, List.length_nil, Nat.reduceAdd, Nat.reduceSub, Array.replicate_succ, Array.replicate_zero, List.push_toArray, List.append_toArray, List.nil_append, List.cons_append]
  gi_wp2_with (refine ⟨trivial, ?_⟩; gi_at_call 88; refine (pairs_in Fence.wide 8 trivial rfl _ _).mono ?_; rintro e w' ⟨rfl, rfl⟩)
  obtain ⟨W4, hW4⟩ : ∃ W4 : World, ((w.alloc (.cells #[.slice (some ⟨g, 0, none⟩) n c] 39)).alloc (.cells #[.bool false] 4)).alloc (.cells #[.int .i64 (n : Int)] 3) = W4 := ⟨_, rfl⟩
  have hsz : W4.heap.size = w.heap.size + 3 := by rw [← hW4]; simp
  have hB0 : Below w.heap.size w W4 := by
    rw [← hW4]
    exact (((Below.refl _ w).alloc (Nat.le_refl _) _).alloc (by simp) _).alloc (by simp; omega) _
  have f0 := fresh_at w W4 #[.slice (some ⟨g, 0, none⟩) n c] 39 (by
    rw [← hW4]
    exact ((Below.refl _ _).alloc (by simp) _).alloc (by simp; try omega) _) 0
  have f1 := fresh_at (w.alloc (.cells #[.slice (some ⟨g, 0, none⟩) n c] 39)) W4 #[.bool false] 4 (by
    rw [← hW4]
    exact (Below.refl _ _).alloc (by simp) _) 0
  have f2 := fresh_at ((w.alloc (.cells #[.slice (some ⟨g, 0, none⟩) n c] 39)).alloc (.cells #[.bool false] 4)) W4 #[.int .i64 (n : Int)] 3 (by
    rw [← hW4]
    exact Below.refl _ _) 0
  simp only [World.size_alloc] at f1 f2
  rw [hW4]
  clear hW4
  refine wpIn_rangeFunc_ownF rfl (by decide) (gf := 122) (lb := #[.pointer (some ⟨w.heap.size + 1 + 1, 0, none⟩)]) rfl trivial (enters_of Tryz.func122 (by kernel_rfl) rfl)
    (pairs_stops Fence.wide 8 trivial rfl (by decide) (w.heap.size + 1 + 1) n (by omega) W4 (by omega) f2.1)
    (fun h k r => k (h r))
    (fun W l o o' hl ho hc hw hR => cell_kept hR (grownBy_putObj' W l o') (fun r e => by cases e; exact ⟨o, ho, hc⟩))
    (Below.refl _ _) (fun _ => rfl)
    (fun pre W => ((∀ x ∈ pre, badP L x.1 = false) ∧ W.cell? ⟨w.heap.size, 0, none⟩ = some (.slice (some ⟨g, 0, none⟩) n c) ∧ W.cell? ⟨w.heap.size + 1, 0, none⟩ = some (.bool false) ∧ W.frozen? ⟨w.heap.size + 1, 0, none⟩ = false) ∧ Below w.heap.size w W)
    (fun cc pre W => (cc = .ret ∧ (∃ x ∈ pre, badP L x.1 = true) ∧ W.cell? ⟨w.heap.size + 1, 0, none⟩ = some (.bool false)) ∧ Below w.heap.size w W)
    (OwnFrom.and (Own.from (fun s A B row hs hg hr => ⟨hs.1, cell_kept hs.2.1 hg hr, cell_kept hs.2.2.1 hg hr, (frozen_kept hs.2.2.1 hg hr).trans hs.2.2.2⟩) _) (ownFrom_below (Nat.le_refl _) (by omega)))
    (fun c => OwnFrom.and (Own.from (fun s A B row hs hg hr => ⟨hs.1, hs.2.1, cell_kept hs.2.2 hg hr⟩) _) (ownFrom_below (Nat.le_refl _) (by omega)))
    ⟨⟨(fun x hx => by cases hx), f0.1, f1.1, f1.2⟩, hB0⟩
    (fun x => { tmps := #[.slice (some ⟨g, 0, none⟩) n c, .pointer (some ⟨w.heap.size, 0, none⟩), .pointer (some ⟨w.heap.size + 1, 0, none⟩), .int .i64 (x.1.1 : Int), .int .i64 (x.1.2 : Int), undef, .slice (some ⟨g, 0, none⟩) n c, .int .i64 (n : Int), .func (.func 122) #[] #[.pointer (some ⟨w.heap.size + 1 + 1, 0, none⟩)], .int .i64 (x.1.1 : Int), .int .i64 (x.1.2 : Int), undef, undef, undef, undef, undef, undef, undef, undef, undef, undef, undef, undef, undef, undef, undef, undef, undef, undef, undef, undef, undef, undef, undef], defers := [] }) ?assign ?body ?done ?stop
  case assign =>
    intro l x W K hK
    gi_wp2
    exact hK
  case body =>
    rintro l pre ⟨⟨a, b⟩, hab⟩ W ⟨⟨hp, hsl, hrs, hfr⟩, hB⟩ hlt
    obtain ⟨hab1, hab2⟩ := hab
    have hG := HC.out.2
    dsimp only at hab1 hab2
    have ca := (hB.cell (p := ⟨g, a, none⟩) hg).trans (HC.out.1 a (by omega))
    have cb := (hB.cell (p := ⟨g, b, none⟩) hg).trans (HC.out.1 b (by omega))
    have la := hG.long a (by omega)
    have lb := hG.long b (by omega)
    have lm := hG.m2
    have hand := fun W' => and_any (L.getD a []) (L.getD b []) (by omega) (by omega) W'
    obtain ⟨sa, hsa⟩ : ∃ s : ByteArray, s = ⟨(L.getD a []).toArray⟩ := ⟨_, rfl⟩
    obtain ⟨sb, hsb⟩ : ∃ s : ByteArray, s = ⟨(L.getD b []).toArray⟩ := ⟨_, rfl⟩
    obtain ⟨sc, hsc⟩ : ∃ s : ByteArray, s = ⟨(andL (L.getD a []) (L.getD b [])).toArray⟩ := ⟨_, rfl⟩
    have hwa := word_dec _ sa hsa
    have hwb := word_dec _ sb hsb
    have hwc := word_dec _ sc hsc
    change _ = some (Value.string ⟨(L.getD a []).toArray⟩) at ca
    change _ = some (Value.string ⟨(L.getD b []).toArray⟩) at cb
    rw [← hsa] at ca
    rw [← hsb] at cb
    rw [← hsa, ← hsb, ← hsc] at hand
    have e1 : (sc.toList == sa.toList) = decide (andL (L.getD a []) (L.getD b []) = L.getD a []) := by
      rw [ByteArray.toList_eq, ByteArray.toList_eq, hwc.2, hwa.2]
      exact beq_dec _ _
    have e2 : (sc.toList == sb.toList) = decide (andL (L.getD a []) (L.getD b []) = L.getD b []) := by
      rw [ByteArray.toList_eq, ByteArray.toList_eq, hwc.2, hwb.2]
      exact beq_dec _ _
    have hbp : badP L (a, b) = (decide (andL (L.getD a []) (L.getD b []) = L.getD a []) || decide (andL (L.getD a []) (L.getD b []) = L.getD b [])) := rfl
    have a0 : (0 : Int) ≤ (a : Int) := by omega
    have a1 : (a : Int) < (n : Int) := by omega
    have b0 : (0 : Int) ≤ (b : Int) := by omega
    have b1 : (b : Int) < (n : Int) := by omega
    have hw1 : w.heap.size < W.heap.size := World.block_lt_of_cell? W ⟨w.heap.size, 0, none⟩ hsl
    have hw2 : w.heap.size + 1 < W.heap.size := World.block_lt_of_cell? W ⟨w.heap.size + 1, 0, none⟩ hrs
    have hgW : g < W.heap.size := by omega
    generalize decide (andL (L.getD a []) (L.getD b []) = L.getD a []) = d1 at e1 hbp
    generalize decide (andL (L.getD a []) (L.getD b []) = L.getD b []) = d2 at e2 hbp
    have HP := Lib.hid (⟨hp, hbp, hB⟩ : _ ∧ _ ∧ _)
    clear hp hbp hB hG la lb lm hwa hwb hwc hsa hsb hsc
    have hgo : (d1 || d2) = false → ∀ W2, Below W.heap.size W W2 → KeepsOthers W W2 ∧ (NumBox (w.heap.size + 1 + 1) n W → NumBox (w.heap.size + 1 + 1) n W2) ∧ ((∀ x ∈ pre ++ [(⟨(a, b), hab1, hab2⟩ : PairN n)], badP L x.1 = false) ∧ W2.cell? ⟨w.heap.size, 0, none⟩ = some (.slice (some ⟨g, 0, none⟩) n c) ∧ W2.cell? ⟨w.heap.size + 1, 0, none⟩ = some (.bool false) ∧ W2.frozen? ⟨w.heap.size + 1, 0, none⟩ = false) ∧ Below w.heap.size w W2 := fun h W2 hB2 =>
      ⟨keeps_below hB2, fun hN => (hB2.cell (p := ⟨w.heap.size + 1 + 1, 0, none⟩) (World.block_lt_of_cell? W ⟨w.heap.size + 1 + 1, 0, none⟩ hN)).trans hN, ⟨fun x hx => by
        rcases List.mem_append.1 hx with hx | hx
        · exact HP.out.1 x hx
        · rw [List.mem_singleton.1 hx, HP.out.2.1]
          exact h, (hB2.cell (p := ⟨w.heap.size, 0, none⟩) hw1).trans hsl, (hB2.cell (p := ⟨w.heap.size + 1, 0, none⟩) hw2).trans hrs, (World.frozen?_of_block (a := ⟨w.heap.size + 1, 0, none⟩) (hB2.block _ hw2)).trans hfr⟩, HP.out.2.2.trans (hB2.mono HP.out.2.2.size)⟩
    have hstop : (d1 || d2) = true → ∀ W2, Below W.heap.size W W2 → KeepsOthers W (W2.setCell ⟨w.heap.size + 1, 0, none⟩ (.bool false)) ∧ ((Exit.ret = .ret ∧ (∃ x ∈ pre ++ [(⟨(a, b), hab1, hab2⟩ : PairN n)], badP L x.1 = true) ∧ (W2.setCell ⟨w.heap.size + 1, 0, none⟩ (.bool false)).cell? ⟨w.heap.size + 1, 0, none⟩ = some (.bool false)) ∧ Below w.heap.size w (W2.setCell ⟨w.heap.size + 1, 0, none⟩ (.bool false))) := fun h W2 hB2 =>
      ⟨(keeps_below hB2).trans (KeepsOthers.setCell _ _ _), ⟨rfl, ⟨_, List.mem_append.2 (.inr (List.mem_singleton.2 rfl)), HP.out.2.1.trans h⟩, World.cell?_setCell_same _ _ _ ((hB2.cell (p := ⟨w.heap.size + 1, 0, none⟩) hw2).trans hrs)⟩, (HP.out.2.2.trans (hB2.mono HP.out.2.2.size)).setCell (p := ⟨w.heap.size + 1, 0, none⟩) (by simp) _⟩
    have HGO := Lib.hid (⟨hgo, hstop⟩ : _ ∧ _)
    clear hgo hstop
    cases d1 with
    | true =>
      gi_wp2_with fail
      refine region_round rfl (by kernel_rfl) (by kernel_rfl) ?_
      refine wpAnyIn_take (i := 1) (v := ?_) rfl rfl (by kernel_rfl) (by kernel_rfl) (by kernel_rfl) (fun _ _ _ h => h) ⟨Or.inl ⟨by rfl, ?_⟩, fun _ => rfl⟩ ?_
      rotate_left
      focus (intro w; go_simp; first | done | with_reducible rfl)
      refine wpAnyIn_take (i := 5) (v := ?_) rfl rfl (by kernel_rfl) (by kernel_rfl) (by kernel_rfl) (fun _ _ _ h => h) ⟨Or.inl ⟨by rfl, ?_⟩, fun _ => rfl⟩ ?_
      rotate_left
      focus (intro w; go_simp; first | done | with_reducible rfl)
      refine wpAnyIn_ready (rs := [0, 4]) (by kernel_rfl) (by simp) (AllReadyIn.cons rfl (fun K hK => ?_) (AllReadyIn.cons rfl (fun K hK => ?_) AllReadyIn.nil))
      · (go_simp; refine hK _ _ ?_; clear hK K)
        refine wpAnyIn_take (i := 2) (v := ?_) rfl rfl (by kernel_rfl) (by kernel_rfl) (by kernel_rfl) (fun _ _ _ h => h) ⟨Or.inl ⟨by rfl, ?_⟩, fun _ => rfl⟩ ?_
        rotate_left
        focus (intro w; go_simp; first | done | with_reducible rfl)
        refine wpAnyIn_ready (rs := [3, 4]) (by kernel_rfl) (by simp) (AllReadyIn.cons rfl (fun K hK => ?_) (AllReadyIn.cons rfl (fun K hK => ?_) AllReadyIn.nil))
        · (go_simp; refine hK _ _ ?_; clear hK K)
          refine wpAnyIn_ready (rs := [4]) (by kernel_rfl) (by simp) (AllReadyIn.cons rfl (fun K hK => ?_) AllReadyIn.nil)
          (go_simp; refine hK _ _ ?_; clear hK K)
          refine wpAnyIn_take (i := 6) (v := ?_) rfl rfl (by kernel_rfl) (by kernel_rfl) (by kernel_rfl) (fun _ _ _ h => h) ⟨Or.inl ⟨by rfl, ?_⟩, fun _ => rfl⟩ ?_
          rotate_left
          focus (intro w; go_simp; first | done | with_reducible rfl)
          refine wpAnyIn_ready (rs := [7]) (by kernel_rfl) (by simp) (AllReadyIn.cons rfl (fun K hK => ?_) AllReadyIn.nil)
          (go_simp; refine hK _ _ ?_; clear hK K)
          refine wpAnyIn_ready (rs := [8]) (by kernel_rfl) (by simp) (AllReadyIn.cons rfl (fun K hK => ?_) AllReadyIn.nil)
          go_simp
          gi_wp2_with (refine ⟨trivial, ?_⟩; gi_at_call 89; refine (CallsIn.inRound l (callsIn_wide.2 (hand _))).mono ?_; rintro e w' ⟨rfl, hB1⟩; have hB2 : Below W.heap.size W w' := (Below.refl W.heap.size W).drew.trans hB1; clear hB1; have k1 := (hB2.cell (p := ⟨w.heap.size, 0, none⟩) hw1).trans hsl; have k2 := (hB2.cell (p := ⟨g, a, none⟩) hgW).trans ca; have k3 := (hB2.cell (p := ⟨g, b, none⟩) hgW).trans cb; have k4 := (hB2.cell (p := ⟨w.heap.size + 1, 0, none⟩) hw2).trans hrs; have k5 := (World.frozen?_of_block (a := ⟨w.heap.size + 1, 0, none⟩) (hB2.block _ hw2)).trans hfr)
          refine wpAnyIn_ready (rs := [9]) (by kernel_rfl) (by simp) (AllReadyIn.cons rfl (fun K hK => ?_) AllReadyIn.nil)
          (go_simp; refine hK _ _ ?_; clear hK K)
          refine wpAnyIn_done (by kernel_rfl) ?_ _
          gi_wp2; exact ⟨(HGO.out.2 rfl w' hB2).1, ⟨rfl, (HGO.out.2 rfl w' hB2).2.1.2⟩, (HGO.out.2 rfl w' hB2).2.2⟩
        · (go_simp; refine hK _ _ ?_; clear hK K)
          refine wpAnyIn_take (i := 6) (v := ?_) rfl rfl (by kernel_rfl) (by kernel_rfl) (by kernel_rfl) (fun _ _ _ h => h) ⟨Or.inl ⟨by rfl, ?_⟩, fun _ => rfl⟩ ?_
          rotate_left
          focus (intro w; go_simp; first | done | with_reducible rfl)
          refine wpAnyIn_ready (rs := [3, 7]) (by kernel_rfl) (by simp) (AllReadyIn.cons rfl (fun K hK => ?_) (AllReadyIn.cons rfl (fun K hK => ?_) AllReadyIn.nil))
          · (go_simp; refine hK _ _ ?_; clear hK K)
            refine wpAnyIn_ready (rs := [7]) (by kernel_rfl) (by simp) (AllReadyIn.cons rfl (fun K hK => ?_) AllReadyIn.nil)
            (go_simp; refine hK _ _ ?_; clear hK K)
            refine wpAnyIn_ready (rs := [8]) (by kernel_rfl) (by simp) (AllReadyIn.cons rfl (fun K hK => ?_) AllReadyIn.nil)
            go_simp
            gi_wp2_with (refine ⟨trivial, ?_⟩; gi_at_call 89; refine (CallsIn.inRound l (callsIn_wide.2 (hand _))).mono ?_; rintro e w' ⟨rfl, hB1⟩; have hB2 : Below W.heap.size W w' := (Below.refl W.heap.size W).drew.trans hB1; clear hB1; have k1 := (hB2.cell (p := ⟨w.heap.size, 0, none⟩) hw1).trans hsl; have k2 := (hB2.cell (p := ⟨g, a, none⟩) hgW).trans ca; have k3 := (hB2.cell (p := ⟨g, b, none⟩) hgW).trans cb; have k4 := (hB2.cell (p := ⟨w.heap.size + 1, 0, none⟩) hw2).trans hrs; have k5 := (World.frozen?_of_block (a := ⟨w.heap.size + 1, 0, none⟩) (hB2.block _ hw2)).trans hfr)
            refine wpAnyIn_ready (rs := [9]) (by kernel_rfl) (by simp) (AllReadyIn.cons rfl (fun K hK => ?_) AllReadyIn.nil)
            (go_simp; refine hK _ _ ?_; clear hK K)
            refine wpAnyIn_done (by kernel_rfl) ?_ _
            gi_wp2; exact ⟨(HGO.out.2 rfl w' hB2).1, ⟨rfl, (HGO.out.2 rfl w' hB2).2.1.2⟩, (HGO.out.2 rfl w' hB2).2.2⟩
          · (go_simp; refine hK _ _ ?_; clear hK K)
            refine wpAnyIn_ready (rs := [3]) (by kernel_rfl) (by simp) (AllReadyIn.cons rfl (fun K hK => ?_) AllReadyIn.nil)
            (go_simp; refine hK _ _ ?_; clear hK K)
            refine wpAnyIn_ready (rs := [8]) (by kernel_rfl) (by simp) (AllReadyIn.cons rfl (fun K hK => ?_) AllReadyIn.nil)
            go_simp
            gi_wp2_with (refine ⟨trivial, ?_⟩; gi_at_call 89; refine (CallsIn.inRound l (callsIn_wide.2 (hand _))).mono ?_; rintro e w' ⟨rfl, hB1⟩; have hB2 : Below W.heap.size W w' := (Below.refl W.heap.size W).drew.trans hB1; clear hB1; have k1 := (hB2.cell (p := ⟨w.heap.size, 0, none⟩) hw1).trans hsl; have k2 := (hB2.cell (p := ⟨g, a, none⟩) hgW).trans ca; have k3 := (hB2.cell (p := ⟨g, b, none⟩) hgW).trans cb; have k4 := (hB2.cell (p := ⟨w.heap.size + 1, 0, none⟩) hw2).trans hrs; have k5 := (World.frozen?_of_block (a := ⟨w.heap.size + 1, 0, none⟩) (hB2.block _ hw2)).trans hfr)
            refine wpAnyIn_ready (rs := [9]) (by kernel_rfl) (by simp) (AllReadyIn.cons rfl (fun K hK => ?_) AllReadyIn.nil)
            (go_simp; refine hK _ _ ?_; clear hK K)
            refine wpAnyIn_done (by kernel_rfl) ?_ _
            gi_wp2; exact ⟨(HGO.out.2 rfl w' hB2).1, ⟨rfl, (HGO.out.2 rfl w' hB2).2.1.2⟩, (HGO.out.2 rfl w' hB2).2.2⟩
      · (go_simp; refine hK _ _ ?_; clear hK K)
        refine wpAnyIn_take (i := 6) (v := ?_) rfl rfl (by kernel_rfl) (by kernel_rfl) (by kernel_rfl) (fun _ _ _ h => h) ⟨Or.inl ⟨by rfl, ?_⟩, fun _ => rfl⟩ ?_
        rotate_left
        focus (intro w; go_simp; first | done | with_reducible rfl)
        refine wpAnyIn_ready (rs := [0, 7]) (by kernel_rfl) (by simp) (AllReadyIn.cons rfl (fun K hK => ?_) (AllReadyIn.cons rfl (fun K hK => ?_) AllReadyIn.nil))
        · (go_simp; refine hK _ _ ?_; clear hK K)
          refine wpAnyIn_take (i := 2) (v := ?_) rfl rfl (by kernel_rfl) (by kernel_rfl) (by kernel_rfl) (fun _ _ _ h => h) ⟨Or.inl ⟨by rfl, ?_⟩, fun _ => rfl⟩ ?_
          rotate_left
          focus (intro w; go_simp; first | done | with_reducible rfl)
          refine wpAnyIn_ready (rs := [3, 7]) (by kernel_rfl) (by simp) (AllReadyIn.cons rfl (fun K hK => ?_) (AllReadyIn.cons rfl (fun K hK => ?_) AllReadyIn.nil))
          · (go_simp; refine hK _ _ ?_; clear hK K)
            refine wpAnyIn_ready (rs := [7]) (by kernel_rfl) (by simp) (AllReadyIn.cons rfl (fun K hK => ?_) AllReadyIn.nil)
            (go_simp; refine hK _ _ ?_; clear hK K)
            refine wpAnyIn_ready (rs := [8]) (by kernel_rfl) (by simp) (AllReadyIn.cons rfl (fun K hK => ?_) AllReadyIn.nil)
            go_simp
            gi_wp2_with (refine ⟨trivial, ?_⟩; gi_at_call 89; refine (CallsIn.inRound l (callsIn_wide.2 (hand _))).mono ?_; rintro e w' ⟨rfl, hB1⟩; have hB2 : Below W.heap.size W w' := (Below.refl W.heap.size W).drew.trans hB1; clear hB1; have k1 := (hB2.cell (p := ⟨w.heap.size, 0, none⟩) hw1).trans hsl; have k2 := (hB2.cell (p := ⟨g, a, none⟩) hgW).trans ca; have k3 := (hB2.cell (p := ⟨g, b, none⟩) hgW).trans cb; have k4 := (hB2.cell (p := ⟨w.heap.size + 1, 0, none⟩) hw2).trans hrs; have k5 := (World.frozen?_of_block (a := ⟨w.heap.size + 1, 0, none⟩) (hB2.block _ hw2)).trans hfr)
            refine wpAnyIn_ready (rs := [9]) (by kernel_rfl) (by simp) (AllReadyIn.cons rfl (fun K hK => ?_) AllReadyIn.nil)
            (go_simp; refine hK _ _ ?_; clear hK K)
            refine wpAnyIn_done (by kernel_rfl) ?_ _
            gi_wp2; exact ⟨(HGO.out.2 rfl w' hB2).1, ⟨rfl, (HGO.out.2 rfl w' hB2).2.1.2⟩, (HGO.out.2 rfl w' hB2).2.2⟩
          · (go_simp; refine hK _ _ ?_; clear hK K)
            refine wpAnyIn_ready (rs := [3]) (by kernel_rfl) (by simp) (AllReadyIn.cons rfl (fun K hK => ?_) AllReadyIn.nil)
            (go_simp; refine hK _ _ ?_; clear hK K)
            refine wpAnyIn_ready (rs := [8]) (by kernel_rfl) (by simp) (AllReadyIn.cons rfl (fun K hK => ?_) AllReadyIn.nil)
            go_simp
            gi_wp2_with (refine ⟨trivial, ?_⟩; gi_at_call 89; refine (CallsIn.inRound l (callsIn_wide.2 (hand _))).mono ?_; rintro e w' ⟨rfl, hB1⟩; have hB2 : Below W.heap.size W w' := (Below.refl W.heap.size W).drew.trans hB1; clear hB1; have k1 := (hB2.cell (p := ⟨w.heap.size, 0, none⟩) hw1).trans hsl; have k2 := (hB2.cell (p := ⟨g, a, none⟩) hgW).trans ca; have k3 := (hB2.cell (p := ⟨g, b, none⟩) hgW).trans cb; have k4 := (hB2.cell (p := ⟨w.heap.size + 1, 0, none⟩) hw2).trans hrs; have k5 := (World.frozen?_of_block (a := ⟨w.heap.size + 1, 0, none⟩) (hB2.block _ hw2)).trans hfr)
            refine wpAnyIn_ready (rs := [9]) (by kernel_rfl) (by simp) (AllReadyIn.cons rfl (fun K hK => ?_) AllReadyIn.nil)
            (go_simp; refine hK _ _ ?_; clear hK K)
            refine wpAnyIn_done (by kernel_rfl) ?_ _
            gi_wp2; exact ⟨(HGO.out.2 rfl w' hB2).1, ⟨rfl, (HGO.out.2 rfl w' hB2).2.1.2⟩, (HGO.out.2 rfl w' hB2).2.2⟩
        · (go_simp; refine hK _ _ ?_; clear hK K)
          refine wpAnyIn_ready (rs := [0]) (by kernel_rfl) (by simp) (AllReadyIn.cons rfl (fun K hK => ?_) AllReadyIn.nil)
          (go_simp; refine hK _ _ ?_; clear hK K)
          refine wpAnyIn_take (i := 2) (v := ?_) rfl rfl (by kernel_rfl) (by kernel_rfl) (by kernel_rfl) (fun _ _ _ h => h) ⟨Or.inl ⟨by rfl, ?_⟩, fun _ => rfl⟩ ?_
          rotate_left
          focus (intro w; go_simp; first | done | with_reducible rfl)
          refine wpAnyIn_ready (rs := [3]) (by kernel_rfl) (by simp) (AllReadyIn.cons rfl (fun K hK => ?_) AllReadyIn.nil)
          (go_simp; refine hK _ _ ?_; clear hK K)
          refine wpAnyIn_ready (rs := [8]) (by kernel_rfl) (by simp) (AllReadyIn.cons rfl (fun K hK => ?_) AllReadyIn.nil)
          go_simp
          gi_wp2_with (refine ⟨trivial, ?_⟩; gi_at_call 89; refine (CallsIn.inRound l (callsIn_wide.2 (hand _))).mono ?_; rintro e w' ⟨rfl, hB1⟩; have hB2 : Below W.heap.size W w' := (Below.refl W.heap.size W).drew.trans hB1; clear hB1; have k1 := (hB2.cell (p := ⟨w.heap.size, 0, none⟩) hw1).trans hsl; have k2 := (hB2.cell (p := ⟨g, a, none⟩) hgW).trans ca; have k3 := (hB2.cell (p := ⟨g, b, none⟩) hgW).trans cb; have k4 := (hB2.cell (p := ⟨w.heap.size + 1, 0, none⟩) hw2).trans hrs; have k5 := (World.frozen?_of_block (a := ⟨w.heap.size + 1, 0, none⟩) (hB2.block _ hw2)).trans hfr)
          refine wpAnyIn_ready (rs := [9]) (by kernel_rfl) (by simp) (AllReadyIn.cons rfl (fun K hK => ?_) AllReadyIn.nil)
          (go_simp; refine hK _ _ ?_; clear hK K)
          refine wpAnyIn_done (by kernel_rfl) ?_ _
          gi_wp2; exact ⟨(HGO.out.2 rfl w' hB2).1, ⟨rfl, (HGO.out.2 rfl w' hB2).2.1.2⟩, (HGO.out.2 rfl w' hB2).2.2⟩
    | false =>
      cases d2 with
      | true =>
        gi_wp2_with fail
        refine region_round rfl (by kernel_rfl) (by kernel_rfl) ?_
        refine wpAnyIn_take (i := 1) (v := ?_) rfl rfl (by kernel_rfl) (by kernel_rfl) (by kernel_rfl) (fun _ _ _ h => h) ⟨Or.inl ⟨by rfl, ?_⟩, fun _ => rfl⟩ ?_
        rotate_left
        focus (intro w; go_simp; first | done | with_reducible rfl)
        refine wpAnyIn_take (i := 5) (v := ?_) rfl rfl (by kernel_rfl) (by kernel_rfl) (by kernel_rfl) (fun _ _ _ h => h) ⟨Or.inl ⟨by rfl, ?_⟩, fun _ => rfl⟩ ?_
        rotate_left
        focus (intro w; go_simp; first | done | with_reducible rfl)
        refine wpAnyIn_ready (rs := [0, 4]) (by kernel_rfl) (by simp) (AllReadyIn.cons rfl (fun K hK => ?_) (AllReadyIn.cons rfl (fun K hK => ?_) AllReadyIn.nil))
        · (go_simp; refine hK _ _ ?_; clear hK K)
          refine wpAnyIn_take (i := 2) (v := ?_) rfl rfl (by kernel_rfl) (by kernel_rfl) (by kernel_rfl) (fun _ _ _ h => h) ⟨Or.inl ⟨by rfl, ?_⟩, fun _ => rfl⟩ ?_
          rotate_left
          focus (intro w; go_simp; first | done | with_reducible rfl)
          refine wpAnyIn_ready (rs := [3, 4]) (by kernel_rfl) (by simp) (AllReadyIn.cons rfl (fun K hK => ?_) (AllReadyIn.cons rfl (fun K hK => ?_) AllReadyIn.nil))
          · (go_simp; refine hK _ _ ?_; clear hK K)
            refine wpAnyIn_ready (rs := [4]) (by kernel_rfl) (by simp) (AllReadyIn.cons rfl (fun K hK => ?_) AllReadyIn.nil)
            (go_simp; refine hK _ _ ?_; clear hK K)
            refine wpAnyIn_take (i := 6) (v := ?_) rfl rfl (by kernel_rfl) (by kernel_rfl) (by kernel_rfl) (fun _ _ _ h => h) ⟨Or.inl ⟨by rfl, ?_⟩, fun _ => rfl⟩ ?_
            rotate_left
            focus (intro w; go_simp; first | done | with_reducible rfl)
            refine wpAnyIn_ready (rs := [7]) (by kernel_rfl) (by simp) (AllReadyIn.cons rfl (fun K hK => ?_) AllReadyIn.nil)
            (go_simp; refine hK _ _ ?_; clear hK K)
            refine wpAnyIn_ready (rs := [8]) (by kernel_rfl) (by simp) (AllReadyIn.cons rfl (fun K hK => ?_) AllReadyIn.nil)
            go_simp
            gi_wp2_with (refine ⟨trivial, ?_⟩; gi_at_call 89; refine (CallsIn.inRound l (callsIn_wide.2 (hand _))).mono ?_; rintro e w' ⟨rfl, hB1⟩; have hB2 : Below W.heap.size W w' := (Below.refl W.heap.size W).drew.trans hB1; clear hB1; have k1 := (hB2.cell (p := ⟨w.heap.size, 0, none⟩) hw1).trans hsl; have k2 := (hB2.cell (p := ⟨g, a, none⟩) hgW).trans ca; have k3 := (hB2.cell (p := ⟨g, b, none⟩) hgW).trans cb; have k4 := (hB2.cell (p := ⟨w.heap.size + 1, 0, none⟩) hw2).trans hrs; have k5 := (World.frozen?_of_block (a := ⟨w.heap.size + 1, 0, none⟩) (hB2.block _ hw2)).trans hfr)
            refine wpAnyIn_ready (rs := [9]) (by kernel_rfl) (by simp) (AllReadyIn.cons rfl (fun K hK => ?_) AllReadyIn.nil)
            (go_simp; refine hK _ _ ?_; clear hK K)
            refine wpAnyIn_done (by kernel_rfl) ?_ _
            gi_wp2; exact ⟨(HGO.out.2 rfl w' hB2).1, ⟨rfl, (HGO.out.2 rfl w' hB2).2.1.2⟩, (HGO.out.2 rfl w' hB2).2.2⟩
          · (go_simp; refine hK _ _ ?_; clear hK K)
            refine wpAnyIn_take (i := 6) (v := ?_) rfl rfl (by kernel_rfl) (by kernel_rfl) (by kernel_rfl) (fun _ _ _ h => h) ⟨Or.inl ⟨by rfl, ?_⟩, fun _ => rfl⟩ ?_
            rotate_left
            focus (intro w; go_simp; first | done | with_reducible rfl)
            refine wpAnyIn_ready (rs := [3, 7]) (by kernel_rfl) (by simp) (AllReadyIn.cons rfl (fun K hK => ?_) (AllReadyIn.cons rfl (fun K hK => ?_) AllReadyIn.nil))
            · (go_simp; refine hK _ _ ?_; clear hK K)
              refine wpAnyIn_ready (rs := [7]) (by kernel_rfl) (by simp) (AllReadyIn.cons rfl (fun K hK => ?_) AllReadyIn.nil)
              (go_simp; refine hK _ _ ?_; clear hK K)
              refine wpAnyIn_ready (rs := [8]) (by kernel_rfl) (by simp) (AllReadyIn.cons rfl (fun K hK => ?_) AllReadyIn.nil)
              go_simp
              gi_wp2_with (refine ⟨trivial, ?_⟩; gi_at_call 89; refine (CallsIn.inRound l (callsIn_wide.2 (hand _))).mono ?_; rintro e w' ⟨rfl, hB1⟩; have hB2 : Below W.heap.size W w' := (Below.refl W.heap.size W).drew.trans hB1; clear hB1; have k1 := (hB2.cell (p := ⟨w.heap.size, 0, none⟩) hw1).trans hsl; have k2 := (hB2.cell (p := ⟨g, a, none⟩) hgW).trans ca; have k3 := (hB2.cell (p := ⟨g, b, none⟩) hgW).trans cb; have k4 := (hB2.cell (p := ⟨w.heap.size + 1, 0, none⟩) hw2).trans hrs; have k5 := (World.frozen?_of_block (a := ⟨w.heap.size + 1, 0, none⟩) (hB2.block _ hw2)).trans hfr)
              refine wpAnyIn_ready (rs := [9]) (by kernel_rfl) (by simp) (AllReadyIn.cons rfl (fun K hK => ?_) AllReadyIn.nil)
              (go_simp; refine hK _ _ ?_; clear hK K)
              refine wpAnyIn_done (by kernel_rfl) ?_ _
              gi_wp2; exact ⟨(HGO.out.2 rfl w' hB2).1, ⟨rfl, (HGO.out.2 rfl w' hB2).2.1.2⟩, (HGO.out.2 rfl w' hB2).2.2⟩
            · (go_simp; refine hK _ _ ?_; clear hK K)
              refine wpAnyIn_ready (rs := [3]) (by kernel_rfl) (by simp) (AllReadyIn.cons rfl (fun K hK => ?_) AllReadyIn.nil)
              (go_simp; refine hK _ _ ?_; clear hK K)
              refine wpAnyIn_ready (rs := [8]) (by kernel_rfl) (by simp) (AllReadyIn.cons rfl (fun K hK => ?_) AllReadyIn.nil)
              go_simp
              gi_wp2_with (refine ⟨trivial, ?_⟩; gi_at_call 89; refine (CallsIn.inRound l (callsIn_wide.2 (hand _))).mono ?_; rintro e w' ⟨rfl, hB1⟩; have hB2 : Below W.heap.size W w' := (Below.refl W.heap.size W).drew.trans hB1; clear hB1; have k1 := (hB2.cell (p := ⟨w.heap.size, 0, none⟩) hw1).trans hsl; have k2 := (hB2.cell (p := ⟨g, a, none⟩) hgW).trans ca; have k3 := (hB2.cell (p := ⟨g, b, none⟩) hgW).trans cb; have k4 := (hB2.cell (p := ⟨w.heap.size + 1, 0, none⟩) hw2).trans hrs; have k5 := (World.frozen?_of_block (a := ⟨w.heap.size + 1, 0, none⟩) (hB2.block _ hw2)).trans hfr)
              refine wpAnyIn_ready (rs := [9]) (by kernel_rfl) (by simp) (AllReadyIn.cons rfl (fun K hK => ?_) AllReadyIn.nil)
              (go_simp; refine hK _ _ ?_; clear hK K)
              refine wpAnyIn_done (by kernel_rfl) ?_ _
              gi_wp2; exact ⟨(HGO.out.2 rfl w' hB2).1, ⟨rfl, (HGO.out.2 rfl w' hB2).2.1.2⟩, (HGO.out.2 rfl w' hB2).2.2⟩
        · (go_simp; refine hK _ _ ?_; clear hK K)
          refine wpAnyIn_take (i := 6) (v := ?_) rfl rfl (by kernel_rfl) (by kernel_rfl) (by kernel_rfl) (fun _ _ _ h => h) ⟨Or.inl ⟨by rfl, ?_⟩, fun _ => rfl⟩ ?_
          rotate_left
          focus (intro w; go_simp; first | done | with_reducible rfl)
          refine wpAnyIn_ready (rs := [0, 7]) (by kernel_rfl) (by simp) (AllReadyIn.cons rfl (fun K hK => ?_) (AllReadyIn.cons rfl (fun K hK => ?_) AllReadyIn.nil))
          · (go_simp; refine hK _ _ ?_; clear hK K)
            refine wpAnyIn_take (i := 2) (v := ?_) rfl rfl (by kernel_rfl) (by kernel_rfl) (by kernel_rfl) (fun _ _ _ h => h) ⟨Or.inl ⟨by rfl, ?_⟩, fun _ => rfl⟩ ?_
            rotate_left
            focus (intro w; go_simp; first | done | with_reducible rfl)
            refine wpAnyIn_ready (rs := [3, 7]) (by kernel_rfl) (by simp) (AllReadyIn.cons rfl (fun K hK => ?_) (AllReadyIn.cons rfl (fun K hK => ?_) AllReadyIn.nil))
            · (go_simp; refine hK _ _ ?_; clear hK K)
              refine wpAnyIn_ready (rs := [7]) (by kernel_rfl) (by simp) (AllReadyIn.cons rfl (fun K hK => ?_) AllReadyIn.nil)
              (go_simp; refine hK _ _ ?_; clear hK K)
              refine wpAnyIn_ready (rs := [8]) (by kernel_rfl) (by simp) (AllReadyIn.cons rfl (fun K hK => ?_) AllReadyIn.nil)
              go_simp
              gi_wp2_with (refine ⟨trivial, ?_⟩; gi_at_call 89; refine (CallsIn.inRound l (callsIn_wide.2 (hand _))).mono ?_; rintro e w' ⟨rfl, hB1⟩; have hB2 : Below W.heap.size W w' := (Below.refl W.heap.size W).drew.trans hB1; clear hB1; have k1 := (hB2.cell (p := ⟨w.heap.size, 0, none⟩) hw1).trans hsl; have k2 := (hB2.cell (p := ⟨g, a, none⟩) hgW).trans ca; have k3 := (hB2.cell (p := ⟨g, b, none⟩) hgW).trans cb; have k4 := (hB2.cell (p := ⟨w.heap.size + 1, 0, none⟩) hw2).trans hrs; have k5 := (World.frozen?_of_block (a := ⟨w.heap.size + 1, 0, none⟩) (hB2.block _ hw2)).trans hfr)
              refine wpAnyIn_ready (rs := [9]) (by kernel_rfl) (by simp) (AllReadyIn.cons rfl (fun K hK => ?_) AllReadyIn.nil)
              (go_simp; refine hK _ _ ?_; clear hK K)
              refine wpAnyIn_done (by kernel_rfl) ?_ _
              gi_wp2; exact ⟨(HGO.out.2 rfl w' hB2).1, ⟨rfl, (HGO.out.2 rfl w' hB2).2.1.2⟩, (HGO.out.2 rfl w' hB2).2.2⟩
            · (go_simp; refine hK _ _ ?_; clear hK K)
              refine wpAnyIn_ready (rs := [3]) (by kernel_rfl) (by simp) (AllReadyIn.cons rfl (fun K hK => ?_) AllReadyIn.nil)
              (go_simp; refine hK _ _ ?_; clear hK K)
              refine wpAnyIn_ready (rs := [8]) (by kernel_rfl) (by simp) (AllReadyIn.cons rfl (fun K hK => ?_) AllReadyIn.nil)
              go_simp
              gi_wp2_with (refine ⟨trivial, ?_⟩; gi_at_call 89; refine (CallsIn.inRound l (callsIn_wide.2 (hand _))).mono ?_; rintro e w' ⟨rfl, hB1⟩; have hB2 : Below W.heap.size W w' := (Below.refl W.heap.size W).drew.trans hB1; clear hB1; have k1 := (hB2.cell (p := ⟨w.heap.size, 0, none⟩) hw1).trans hsl; have k2 := (hB2.cell (p := ⟨g, a, none⟩) hgW).trans ca; have k3 := (hB2.cell (p := ⟨g, b, none⟩) hgW).trans cb; have k4 := (hB2.cell (p := ⟨w.heap.size + 1, 0, none⟩) hw2).trans hrs; have k5 := (World.frozen?_of_block (a := ⟨w.heap.size + 1, 0, none⟩) (hB2.block _ hw2)).trans hfr)
              refine wpAnyIn_ready (rs := [9]) (by kernel_rfl) (by simp) (AllReadyIn.cons rfl (fun K hK => ?_) AllReadyIn.nil)
              (go_simp; refine hK _ _ ?_; clear hK K)
              refine wpAnyIn_done (by kernel_rfl) ?_ _
              gi_wp2; exact ⟨(HGO.out.2 rfl w' hB2).1, ⟨rfl, (HGO.out.2 rfl w' hB2).2.1.2⟩, (HGO.out.2 rfl w' hB2).2.2⟩
          · (go_simp; refine hK _ _ ?_; clear hK K)
            refine wpAnyIn_ready (rs := [0]) (by kernel_rfl) (by simp) (AllReadyIn.cons rfl (fun K hK => ?_) AllReadyIn.nil)
            (go_simp; refine hK _ _ ?_; clear hK K)
            refine wpAnyIn_take (i := 2) (v := ?_) rfl rfl (by kernel_rfl) (by kernel_rfl) (by kernel_rfl) (fun _ _ _ h => h) ⟨Or.inl ⟨by rfl, ?_⟩, fun _ => rfl⟩ ?_
            rotate_left
            focus (intro w; go_simp; first | done | with_reducible rfl)
            refine wpAnyIn_ready (rs := [3]) (by kernel_rfl) (by simp) (AllReadyIn.cons rfl (fun K hK => ?_) AllReadyIn.nil)
            (go_simp; refine hK _ _ ?_; clear hK K)
            refine wpAnyIn_ready (rs := [8]) (by kernel_rfl) (by simp) (AllReadyIn.cons rfl (fun K hK => ?_) AllReadyIn.nil)
            go_simp
            gi_wp2_with (refine ⟨trivial, ?_⟩; gi_at_call 89; refine (CallsIn.inRound l (callsIn_wide.2 (hand _))).mono ?_; rintro e w' ⟨rfl, hB1⟩; have hB2 : Below W.heap.size W w' := (Below.refl W.heap.size W).drew.trans hB1; clear hB1; have k1 := (hB2.cell (p := ⟨w.heap.size, 0, none⟩) hw1).trans hsl; have k2 := (hB2.cell (p := ⟨g, a, none⟩) hgW).trans ca; have k3 := (hB2.cell (p := ⟨g, b, none⟩) hgW).trans cb; have k4 := (hB2.cell (p := ⟨w.heap.size + 1, 0, none⟩) hw2).trans hrs; have k5 := (World.frozen?_of_block (a := ⟨w.heap.size + 1, 0, none⟩) (hB2.block _ hw2)).trans hfr)
            refine wpAnyIn_ready (rs := [9]) (by kernel_rfl) (by simp) (AllReadyIn.cons rfl (fun K hK => ?_) AllReadyIn.nil)
            (go_simp; refine hK _ _ ?_; clear hK K)
            refine wpAnyIn_done (by kernel_rfl) ?_ _
            gi_wp2; exact ⟨(HGO.out.2 rfl w' hB2).1, ⟨rfl, (HGO.out.2 rfl w' hB2).2.1.2⟩, (HGO.out.2 rfl w' hB2).2.2⟩
      | false =>
        gi_wp2_with fail
        refine region_round rfl (by kernel_rfl) (by kernel_rfl) ?_
        refine wpAnyIn_take (i := 1) (v := ?_) rfl rfl (by kernel_rfl) (by kernel_rfl) (by kernel_rfl) (fun _ _ _ h => h) ⟨Or.inl ⟨by rfl, ?_⟩, fun _ => rfl⟩ ?_
        rotate_left
        focus (intro w; go_simp; first | done | with_reducible rfl)
        refine wpAnyIn_take (i := 5) (v := ?_) rfl rfl (by kernel_rfl) (by kernel_rfl) (by kernel_rfl) (fun _ _ _ h => h) ⟨Or.inl ⟨by rfl, ?_⟩, fun _ => rfl⟩ ?_
        rotate_left
        focus (intro w; go_simp; first | done | with_reducible rfl)
        refine wpAnyIn_ready (rs := [0, 4]) (by kernel_rfl) (by simp) (AllReadyIn.cons rfl (fun K hK => ?_) (AllReadyIn.cons rfl (fun K hK => ?_) AllReadyIn.nil))
        · (go_simp; refine hK _ _ ?_; clear hK K)
          refine wpAnyIn_take (i := 2) (v := ?_) rfl rfl (by kernel_rfl) (by kernel_rfl) (by kernel_rfl) (fun _ _ _ h => h) ⟨Or.inl ⟨by rfl, ?_⟩, fun _ => rfl⟩ ?_
          rotate_left
          focus (intro w; go_simp; first | done | with_reducible rfl)
          refine wpAnyIn_ready (rs := [3, 4]) (by kernel_rfl) (by simp) (AllReadyIn.cons rfl (fun K hK => ?_) (AllReadyIn.cons rfl (fun K hK => ?_) AllReadyIn.nil))
          · (go_simp; refine hK _ _ ?_; clear hK K)
            refine wpAnyIn_ready (rs := [4]) (by kernel_rfl) (by simp) (AllReadyIn.cons rfl (fun K hK => ?_) AllReadyIn.nil)
            (go_simp; refine hK _ _ ?_; clear hK K)
            refine wpAnyIn_take (i := 6) (v := ?_) rfl rfl (by kernel_rfl) (by kernel_rfl) (by kernel_rfl) (fun _ _ _ h => h) ⟨Or.inl ⟨by rfl, ?_⟩, fun _ => rfl⟩ ?_
            rotate_left
            focus (intro w; go_simp; first | done | with_reducible rfl)
            refine wpAnyIn_ready (rs := [7]) (by kernel_rfl) (by simp) (AllReadyIn.cons rfl (fun K hK => ?_) AllReadyIn.nil)
            (go_simp; refine hK _ _ ?_; clear hK K)
            refine wpAnyIn_ready (rs := [8]) (by kernel_rfl) (by simp) (AllReadyIn.cons rfl (fun K hK => ?_) AllReadyIn.nil)
            go_simp
            gi_wp2_with (refine ⟨trivial, ?_⟩; gi_at_call 89; refine (CallsIn.inRound l (callsIn_wide.2 (hand _))).mono ?_; rintro e w' ⟨rfl, hB1⟩; have hB2 : Below W.heap.size W w' := (Below.refl W.heap.size W).drew.trans hB1; clear hB1; have k1 := (hB2.cell (p := ⟨w.heap.size, 0, none⟩) hw1).trans hsl; have k2 := (hB2.cell (p := ⟨g, a, none⟩) hgW).trans ca; have k3 := (hB2.cell (p := ⟨g, b, none⟩) hgW).trans cb; have k4 := (hB2.cell (p := ⟨w.heap.size + 1, 0, none⟩) hw2).trans hrs; have k5 := (World.frozen?_of_block (a := ⟨w.heap.size + 1, 0, none⟩) (hB2.block _ hw2)).trans hfr)
            refine wpAnyIn_ready (rs := [9]) (by kernel_rfl) (by simp) (AllReadyIn.cons rfl (fun K hK => ?_) AllReadyIn.nil)
            (go_simp; refine hK _ _ ?_; clear hK K)
            refine wpAnyIn_done (by kernel_rfl) ?_ _
            gi_wp2; exact HGO.out.1 rfl w' hB2
          · (go_simp; refine hK _ _ ?_; clear hK K)
            refine wpAnyIn_take (i := 6) (v := ?_) rfl rfl (by kernel_rfl) (by kernel_rfl) (by kernel_rfl) (fun _ _ _ h => h) ⟨Or.inl ⟨by rfl, ?_⟩, fun _ => rfl⟩ ?_
            rotate_left
            focus (intro w; go_simp; first | done | with_reducible rfl)
            refine wpAnyIn_ready (rs := [3, 7]) (by kernel_rfl) (by simp) (AllReadyIn.cons rfl (fun K hK => ?_) (AllReadyIn.cons rfl (fun K hK => ?_) AllReadyIn.nil))
            · (go_simp; refine hK _ _ ?_; clear hK K)
              refine wpAnyIn_ready (rs := [7]) (by kernel_rfl) (by simp) (AllReadyIn.cons rfl (fun K hK => ?_) AllReadyIn.nil)
              (go_simp; refine hK _ _ ?_; clear hK K)
              refine wpAnyIn_ready (rs := [8]) (by kernel_rfl) (by simp) (AllReadyIn.cons rfl (fun K hK => ?_) AllReadyIn.nil)
              go_simp
              gi_wp2_with (refine ⟨trivial, ?_⟩; gi_at_call 89; refine (CallsIn.inRound l (callsIn_wide.2 (hand _))).mono ?_; rintro e w' ⟨rfl, hB1⟩; have hB2 : Below W.heap.size W w' := (Below.refl W.heap.size W).drew.trans hB1; clear hB1; have k1 := (hB2.cell (p := ⟨w.heap.size, 0, none⟩) hw1).trans hsl; have k2 := (hB2.cell (p := ⟨g, a, none⟩) hgW).trans ca; have k3 := (hB2.cell (p := ⟨g, b, none⟩) hgW).trans cb; have k4 := (hB2.cell (p := ⟨w.heap.size + 1, 0, none⟩) hw2).trans hrs; have k5 := (World.frozen?_of_block (a := ⟨w.heap.size + 1, 0, none⟩) (hB2.block _ hw2)).trans hfr)
              refine wpAnyIn_ready (rs := [9]) (by kernel_rfl) (by simp) (AllReadyIn.cons rfl (fun K hK => ?_) AllReadyIn.nil)
              (go_simp; refine hK _ _ ?_; clear hK K)
              refine wpAnyIn_done (by kernel_rfl) ?_ _
              gi_wp2; exact HGO.out.1 rfl w' hB2
            · (go_simp; refine hK _ _ ?_; clear hK K)
              refine wpAnyIn_ready (rs := [3]) (by kernel_rfl) (by simp) (AllReadyIn.cons rfl (fun K hK => ?_) AllReadyIn.nil)
              (go_simp; refine hK _ _ ?_; clear hK K)
              refine wpAnyIn_ready (rs := [8]) (by kernel_rfl) (by simp) (AllReadyIn.cons rfl (fun K hK => ?_) AllReadyIn.nil)
              go_simp
              gi_wp2_with (refine ⟨trivial, ?_⟩; gi_at_call 89; refine (CallsIn.inRound l (callsIn_wide.2 (hand _))).mono ?_; rintro e w' ⟨rfl, hB1⟩; have hB2 : Below W.heap.size W w' := (Below.refl W.heap.size W).drew.trans hB1; clear hB1; have k1 := (hB2.cell (p := ⟨w.heap.size, 0, none⟩) hw1).trans hsl; have k2 := (hB2.cell (p := ⟨g, a, none⟩) hgW).trans ca; have k3 := (hB2.cell (p := ⟨g, b, none⟩) hgW).trans cb; have k4 := (hB2.cell (p := ⟨w.heap.size + 1, 0, none⟩) hw2).trans hrs; have k5 := (World.frozen?_of_block (a := ⟨w.heap.size + 1, 0, none⟩) (hB2.block _ hw2)).trans hfr)
              refine wpAnyIn_ready (rs := [9]) (by kernel_rfl) (by simp) (AllReadyIn.cons rfl (fun K hK => ?_) AllReadyIn.nil)
              (go_simp; refine hK _ _ ?_; clear hK K)
              refine wpAnyIn_done (by kernel_rfl) ?_ _
              gi_wp2; exact HGO.out.1 rfl w' hB2
        · (go_simp; refine hK _ _ ?_; clear hK K)
          refine wpAnyIn_take (i := 6) (v := ?_) rfl rfl (by kernel_rfl) (by kernel_rfl) (by kernel_rfl) (fun _ _ _ h => h) ⟨Or.inl ⟨by rfl, ?_⟩, fun _ => rfl⟩ ?_
          rotate_left
          focus (intro w; go_simp; first | done | with_reducible rfl)
          refine wpAnyIn_ready (rs := [0, 7]) (by kernel_rfl) (by simp) (AllReadyIn.cons rfl (fun K hK => ?_) (AllReadyIn.cons rfl (fun K hK => ?_) AllReadyIn.nil))
          · (go_simp; refine hK _ _ ?_; clear hK K)
            refine wpAnyIn_take (i := 2) (v := ?_) rfl rfl (by kernel_rfl) (by kernel_rfl) (by kernel_rfl) (fun _ _ _ h => h) ⟨Or.inl ⟨by rfl, ?_⟩, fun _ => rfl⟩ ?_
            rotate_left
            focus (intro w; go_simp; first | done | with_reducible rfl)
            refine wpAnyIn_ready (rs := [3, 7]) (by kernel_rfl) (by simp) (AllReadyIn.cons rfl (fun K hK => ?_) (AllReadyIn.cons rfl (fun K hK => ?_) AllReadyIn.nil))
            · (go_simp; refine hK _ _ ?_; clear hK K)
              refine wpAnyIn_ready (rs := [7]) (by kernel_rfl) (by simp) (AllReadyIn.cons rfl (fun K hK => ?_) AllReadyIn.nil)
              (go_simp; refine hK _ _ ?_; clear hK K)
              refine wpAnyIn_ready (rs := [8]) (by kernel_rfl) (by simp) (AllReadyIn.cons rfl (fun K hK => ?_) AllReadyIn.nil)
              go_simp
              gi_wp2_with (refine ⟨trivial, ?_⟩; gi_at_call 89; refine (CallsIn.inRound l (callsIn_wide.2 (hand _))).mono ?_; rintro e w' ⟨rfl, hB1⟩; have hB2 : Below W.heap.size W w' := (Below.refl W.heap.size W).drew.trans hB1; clear hB1; have k1 := (hB2.cell (p := ⟨w.heap.size, 0, none⟩) hw1).trans hsl; have k2 := (hB2.cell (p := ⟨g, a, none⟩) hgW).trans ca; have k3 := (hB2.cell (p := ⟨g, b, none⟩) hgW).trans cb; have k4 := (hB2.cell (p := ⟨w.heap.size + 1, 0, none⟩) hw2).trans hrs; have k5 := (World.frozen?_of_block (a := ⟨w.heap.size + 1, 0, none⟩) (hB2.block _ hw2)).trans hfr)
              refine wpAnyIn_ready (rs := [9]) (by kernel_rfl) (by simp) (AllReadyIn.cons rfl (fun K hK => ?_) AllReadyIn.nil)
              (go_simp; refine hK _ _ ?_; clear hK K)
              refine wpAnyIn_done (by kernel_rfl) ?_ _
              gi_wp2; exact HGO.out.1 rfl w' hB2
            · (go_simp; refine hK _ _ ?_; clear hK K)
              refine wpAnyIn_ready (rs := [3]) (by kernel_rfl) (by simp) (AllReadyIn.cons rfl (fun K hK => ?_) AllReadyIn.nil)
              (go_simp; refine hK _ _ ?_; clear hK K)
              refine wpAnyIn_ready (rs := [8]) (by kernel_rfl) (by simp) (AllReadyIn.cons rfl (fun K hK => ?_) AllReadyIn.nil)
              go_simp
              gi_wp2_with (refine ⟨trivial, ?_⟩; gi_at_call 89; refine (CallsIn.inRound l (callsIn_wide.2 (hand _))).mono ?_; rintro e w' ⟨rfl, hB1⟩; have hB2 : Below W.heap.size W w' := (Below.refl W.heap.size W).drew.trans hB1; clear hB1; have k1 := (hB2.cell (p := ⟨w.heap.size, 0, none⟩) hw1).trans hsl; have k2 := (hB2.cell (p := ⟨g, a, none⟩) hgW).trans ca; have k3 := (hB2.cell (p := ⟨g, b, none⟩) hgW).trans cb; have k4 := (hB2.cell (p := ⟨w.heap.size + 1, 0, none⟩) hw2).trans hrs; have k5 := (World.frozen?_of_block (a := ⟨w.heap.size + 1, 0, none⟩) (hB2.block _ hw2)).trans hfr)
              refine wpAnyIn_ready (rs := [9]) (by kernel_rfl) (by simp) (AllReadyIn.cons rfl (fun K hK => ?_) AllReadyIn.nil)
              (go_simp; refine hK _ _ ?_; clear hK K)
              refine wpAnyIn_done (by kernel_rfl) ?_ _
              gi_wp2; exact HGO.out.1 rfl w' hB2
          · (go_simp; refine hK _ _ ?_; clear hK K)
            refine wpAnyIn_ready (rs := [0]) (by kernel_rfl) (by simp) (AllReadyIn.cons rfl (fun K hK => ?_) AllReadyIn.nil)
            (go_simp; refine hK _ _ ?_; clear hK K)
            refine wpAnyIn_take (i := 2) (v := ?_) rfl rfl (by kernel_rfl) (by kernel_rfl) (by kernel_rfl) (fun _ _ _ h => h) ⟨Or.inl ⟨by rfl, ?_⟩, fun _ => rfl⟩ ?_
            rotate_left
            focus (intro w; go_simp; first | done | with_reducible rfl)
            refine wpAnyIn_ready (rs := [3]) (by kernel_rfl) (by simp) (AllReadyIn.cons rfl (fun K hK => ?_) AllReadyIn.nil)
            (go_simp; refine hK _ _ ?_; clear hK K)
            refine wpAnyIn_ready (rs := [8]) (by kernel_rfl) (by simp) (AllReadyIn.cons rfl (fun K hK => ?_) AllReadyIn.nil)
            go_simp
            gi_wp2_with (refine ⟨trivial, ?_⟩; gi_at_call 89; refine (CallsIn.inRound l (callsIn_wide.2 (hand _))).mono ?_; rintro e w' ⟨rfl, hB1⟩; have hB2 : Below W.heap.size W w' := (Below.refl W.heap.size W).drew.trans hB1; clear hB1; have k1 := (hB2.cell (p := ⟨w.heap.size, 0, none⟩) hw1).trans hsl; have k2 := (hB2.cell (p := ⟨g, a, none⟩) hgW).trans ca; have k3 := (hB2.cell (p := ⟨g, b, none⟩) hgW).trans cb; have k4 := (hB2.cell (p := ⟨w.heap.size + 1, 0, none⟩) hw2).trans hrs; have k5 := (World.frozen?_of_block (a := ⟨w.heap.size + 1, 0, none⟩) (hB2.block _ hw2)).trans hfr)
            refine wpAnyIn_ready (rs := [9]) (by kernel_rfl) (by simp) (AllReadyIn.cons rfl (fun K hK => ?_) AllReadyIn.nil)
            (go_simp; refine hK _ _ ?_; clear hK K)
            refine wpAnyIn_done (by kernel_rfl) ?_ _
            gi_wp2; exact HGO.out.1 rfl w' hB2
  case done =>
    rintro D ys W hD hys ⟨⟨hne, _, hcr, hfr⟩, hB⟩ hK
    have hr : res = true := by
      rw [HRES.out]
      unfold clearB
      rw [List.all_eq_true]
      intro x hx
      rw [← hys] at hx
      obtain ⟨y, hy, rfl⟩ := List.mem_map.1 hx
      rw [hne y hy]
      rfl
    have HR2 := Lib.hid hr
    clear hr hne hys
    gi_wp2
    have hK' := (KeepsOthers.setCell W ⟨w.heap.size + 1, 0, none⟩ (.bool true)).same D _ hK rfl
    refine ⟨by simp, .inl ⟨_, _, rfl, run_takeDeferred hK', ?_⟩⟩
    have hc5 := cell_kept (World.cell?_setCell_same' W ⟨w.heap.size + 1, 0, none⟩ (.bool true) (by rw [hcr]; rfl)) (grownBy_putObj' _ D (.deferred none)) (fun r e => by cases e; exact ⟨_, hK', rfl⟩)
    refine ⟨.bool true, ?_, by rw [HR2.out], (hB.setCell (p := ⟨w.heap.size + 1, 0, none⟩) (by simp) _).trans (belowK_b (w := w) (Nat.le_refl _) _ D _ _ (by omega) hK' rfl rfl)⟩
    simp [results, Tryz.f52, go_sem, hc5]
  case stop =>
    rintro D cc pre W hD hpre ⟨⟨rfl, ⟨x, hx, hbad⟩, hcr⟩, hB⟩ hK
    have hr : res = false := by
      rw [HRES.out]
      unfold clearB
      rw [List.all_eq_false]
      refine ⟨x.1, mem_pairsTo x.2.1 x.2.2, ?_⟩
      rw [hbad]
      decide
    have HR2 := Lib.hid hr
    clear hr hbad
    gi_wp2
    refine ⟨by simp, .inl ⟨_, _, rfl, run_takeDeferred hK, ?_⟩⟩
    have hc5 := cell_kept hcr (grownBy_putObj' _ D (.deferred none)) (fun r e => by cases e; exact ⟨_, hK, rfl⟩)
    refine ⟨.bool false, ?_, by rw [HR2.out], hB.trans (belowK_b (w := w) (Nat.le_refl _) W D _ _ (by omega) hK rfl rfl)⟩
    simp [results, Tryz.f52, go_sem, hc5]
end Go.Proofs.YtoipgliokelcfaaGreatDoor
