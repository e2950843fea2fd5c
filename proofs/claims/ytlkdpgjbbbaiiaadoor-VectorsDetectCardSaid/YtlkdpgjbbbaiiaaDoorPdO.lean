/- Distance. -/
import Derived.Test.YtlkdpgjbbbaiiaaDoorPdN
namespace Go.Proofs.YtlkdpgjbbbaiiaaDoor
open Go.RowKit Go.Shelf

attribute [local go_sem] Oper.semAt_some

def leastOf (L : List (List UInt8)) (m : Nat) (xs : List (Nat × Nat)) : Nat := xs.foldl (fun acc x => min acc (diffN (L.getD x.1 []) (L.getD x.2 []) m)) m
theorem leastOf_snoc (L : List (List UInt8)) (m : Nat) (xs : List (Nat × Nat)) (x : Nat × Nat) : leastOf L m (xs ++ [x]) = min (leastOf L m xs) (diffN (L.getD x.1 []) (L.getD x.2 []) m) := by
  unfold leastOf
  rw [List.foldl_append]
  rfl
theorem leastOf_le (L : List (List UInt8)) (m : Nat) (xs : List (Nat × Nat)) : leastOf L m xs ≤ m := by
  have : ∀ (xs : List (Nat × Nat)) (k : Nat), k ≤ m → xs.foldl (fun acc x => min acc (diffN (L.getD x.1 []) (L.getD x.2 []) m)) k ≤ m := by
    intro xs
    induction xs with
    | nil => exact fun k h => h
    | cons x xs ih => exact fun k h => ih _ (Nat.le_trans (Nat.min_le_left _ _) h)
  exact this xs m (Nat.le_refl _)

theorem distance_bad (S : List (List UInt8)) (nets : Int) (hz : S.length ≤ 1000000) (hb : ∀ k, k < S.length → (S.getD k []).length ≤ 1000000) (he : vecErr nets S ≠ 0) (B : Nat) (w : World) (v : Value) (h : StrsAt B w v S) :
    Calls Tryd.prog 11 #[.int .i64 nets, v] w fun e w' => e = .returned (.tuple #[.int .i64 0, .bool false, .int .i64 (vecErr nets S)]) ∧ Below w.heap.size w w' := by
  have hc := sequences_bad S nets hz hb he B w v h
  obtain ⟨a, c, rfl, -⟩ := strs_open h
  generalize vecErr nets S = E at hc he ⊢
  generalize S.length = z at hc ⊢
  clear h hz hb
  go_enter Tryd.func11, Tryd.ntmps11
  go_wp2_with fail
  refine hc.mono ?_
  rintro e w' ⟨rfl, hB⟩
  have HB := Lib.hid (hB.trans (((Below.refl w'.heap.size w').alloc (Nat.le_refl _) (.cells #[.slice none 0 0] 26)).mono hB.size))
  clear hc hB
  go_wp2_with fail
  go_ret3
  exact ⟨rfl, HB.out⟩

set_option maxHeartbeats 8000000 in
set_option maxRecDepth 100000 in
theorem distance_ok (V : List (List UInt8)) (n : Nat) (h1 : 2 ≤ n) (h2 : n ≤ 100) (hz : V.length ≤ 200) (hb : ∀ s, s ∈ V → s.length = n ∧ s.all bitB = true) (he : vecErr (n : Int) V = 0) (B : Nat) (w : World) (v : Value) (h : StrsAt B w v V) :
    Calls Tryd.prog 11 #[.int .i64 (n : Int), v] w fun e w' => e = .returned (.tuple #[.int .i64 (leastOf (turnL V n) V.length (pairsTo n n)), .bool true, .int .i64 0]) ∧ Below w.heap.size w w' := by
  have hs := sequences_ok V n (by omega) h2 hz (fun s hs => (hb s hs).1) he B w v h
  have hG := turnL_grid V n (by omega) h2 hz hb
  obtain ⟨a0, c0, rfl, -⟩ := strs_open h
  generalize turnL V n = L at hs hG ⊢
  generalize V.length = m at hs hG ⊢
  obtain ⟨res, hres⟩ : ∃ res, res = leastOf L m (pairsTo n n) := ⟨_, rfl⟩
  rw [← hres]
  have HRES := Lib.hid hres
  clear h hb he hz hres
  refine (callsIn_wide (n := 9)).1 ?_
  refine callsIn_of_wp_marks Tryd.func11 rfl trivial ?_ rfl
  simp only [Tryd.ntmps11, List.size_toArray, List.length_cons, List.length_nil, Nat.reduceAdd, Nat.reduceSub, Array.replicate_succ, Array.replicate_zero, List.push_toArray, List.append_toArray, List.nil_append, List.cons_append]
  gi_wp2_with (refine ⟨trivial, ?_⟩; gi_at_call 32)
  refine (callsIn_wide.2 hs).mono ?_
  rintro e w2 ⟨v1, rfl, hS, hB⟩
  clear hs
  obtain ⟨a1, c1, rfl, hop⟩ := strs_open hS
  rw [hG.len] at hop ⊢
  obtain ⟨g, rfl, hg, hcell⟩ := hop (by omega)
  have HC := Lib.hid (⟨hcell, hG⟩ : _ ∧ _)
  have HB := Lib.hid hB
  have hm2 := hG.m2
  clear hcell hG hop hB hS
  have hn3 : decide ((n : Int) = 1) = false := decide_eq_false (by omega)
  have hn4 : ((n : Int) == 1) = false := by rw [beq_eq_false_iff_ne]; omega
  gi_wp2_with (refine ⟨trivial, ?_⟩; gi_at_call 39; refine (pairs_in Fence.wide 8 trivial rfl _ _).mono ?_; rintro e w' ⟨rfl, rfl⟩)
  obtain ⟨W4, hW4⟩ : ∃ W4 : World, ((w2.alloc (.cells #[.slice (some ⟨g, 0, none⟩) n c1] 26)).alloc (.cells #[.int .i64 (m : Int)] 3)).alloc (.cells #[.int .i64 (n : Int)] 3) = W4 := ⟨_, rfl⟩
  have hsz : W4.heap.size = w2.heap.size + 3 := by rw [← hW4]; simp
  have hB0 : Below w2.heap.size w2 W4 := by
    rw [← hW4]
    exact (((Below.refl _ w2).alloc (Nat.le_refl _) _).alloc (by simp) _).alloc (by simp; omega) _
  have f0 := fresh_at w2 W4 #[.slice (some ⟨g, 0, none⟩) n c1] 26 (by
    rw [← hW4]
    exact ((Below.refl _ _).alloc (by simp) _).alloc (by simp; try omega) _) 0
  have f1 := fresh_at (w2.alloc (.cells #[.slice (some ⟨g, 0, none⟩) n c1] 26)) W4 #[.int .i64 (m : Int)] 3 (by
    rw [← hW4]
    exact (Below.refl _ _).alloc (by simp) _) 0
  have f2 := fresh_at ((w2.alloc (.cells #[.slice (some ⟨g, 0, none⟩) n c1] 26)).alloc (.cells #[.int .i64 (m : Int)] 3)) W4 #[.int .i64 (n : Int)] 3 (by
    rw [← hW4]
    exact Below.refl _ _) 0
  simp only [World.size_alloc] at f1 f2
  rw [hW4]
  clear hW4
  refine wpIn_rangeFunc_ownF rfl (by decide) (gf := 55) (lb := #[.pointer (some ⟨w2.heap.size + 1 + 1, 0, none⟩)]) rfl trivial (enters_of Tryd.func55 (by kernel_rfl) rfl)
    (pairs_stops Fence.wide 8 trivial rfl (by decide) (w2.heap.size + 1 + 1) n (by omega) W4 (by omega) f2.1)
    (fun h k r => k (h r))
    (fun W l o o' hl ho hc hw hR => cell_kept hR (grownBy_putObj' W l o') (fun r e => by cases e; exact ⟨o, ho, hc⟩))
    (Below.refl _ _) (fun _ => rfl)
    (fun pre W => (W.cell? ⟨w2.heap.size, 0, none⟩ = some (.slice (some ⟨g, 0, none⟩) n c1) ∧ W.cell? ⟨w2.heap.size + 1, 0, none⟩ = some (.int .i64 ((leastOf L m (pre.map (·.1)) : Nat) : Int)) ∧ W.frozen? ⟨w2.heap.size + 1, 0, none⟩ = false) ∧ Below w2.heap.size w2 W)
    (fun _ _ _ => False)
    (OwnFrom.and (Own.from (fun s A B row hs hg hr => ⟨cell_kept hs.1 hg hr, cell_kept hs.2.1 hg hr, (frozen_kept hs.2.1 hg hr).trans hs.2.2⟩) _) (ownFrom_below (Nat.le_refl _) (by omega)))
    (fun _ _ _ _ _ hs _ _ => hs)
    ⟨⟨f0.1, f1.1, f1.2⟩, hB0⟩
    (fun x => { tmps := #[.int .i64 (n : Int), .slice a0 m c0, undef, undef, .int .i64 0, .bool false, .int .i64 0, .pointer (some ⟨w2.heap.size, 0, none⟩), .int .i64 0, .pointer (some ⟨w2.heap.size + 1, 0, none⟩), .int .i64 (x.1.1 : Int), .int .i64 (x.1.2 : Int), .tuple #[.slice (some ⟨g, 0, none⟩) n c1, .int .i64 0], .int .i64 (n : Int), .slice a0 m c0, .tuple #[.slice (some ⟨g, 0, none⟩) n c1, .int .i64 0], .slice (some ⟨g, 0, none⟩) n c1, .int .i64 0, .int .i64 0, .bool false, .bool false, .int .i64 (n : Int), .bool false, .bool false, undef, .slice a0 m c0, .int .i64 (m : Int), .int .i64 (n : Int), .func (.func 55) #[] #[.pointer (some ⟨w2.heap.size + 1 + 1, 0, none⟩)], .int .i64 (x.1.1 : Int), .int .i64 (x.1.2 : Int), undef, undef, undef, undef, undef, undef, undef, undef, undef, undef, undef, undef], defers := [] }) ?assign ?body ?done ?stop
  case assign =>
    intro l x W K hK
    gi_wp2
    exact hK
  case body =>
    rintro l pre ⟨⟨a, b⟩, hab⟩ W ⟨⟨hsl, hrs, hfr⟩, hBW⟩ hlt
    obtain ⟨hab1, hab2⟩ := hab
    have hG := HC.out.2
    dsimp only at hab1 hab2
    have ca := (hBW.cell (p := ⟨g, a, none⟩) hg).trans (HC.out.1 a (by omega))
    have cb := (hBW.cell (p := ⟨g, b, none⟩) hg).trans (HC.out.1 b (by omega))
    have la := hG.long a (by omega)
    have lb := hG.long b (by omega)
    have hch := fun W' => changes_any (L.getD a []) (L.getD b []) (by omega) (by omega) W'
    rw [la] at hch
    obtain ⟨d, hd⟩ : ∃ d, d = diffN (L.getD a []) (L.getD b []) m := ⟨_, rfl⟩
    have hdl : d ≤ m := by rw [hd]; exact diffN_le _ _ _
    rw [← hd] at hch
    have hsn := leastOf_snoc L m (pre.map (·.1)) (a, b)
    dsimp only at hsn
    rw [← hd] at hsn
    have hll := leastOf_le L m (pre.map (·.1))
    obtain ⟨sa, hsa⟩ : ∃ s : ByteArray, s = ⟨(L.getD a []).toArray⟩ := ⟨_, rfl⟩
    obtain ⟨sb, hsb⟩ : ∃ s : ByteArray, s = ⟨(L.getD b []).toArray⟩ := ⟨_, rfl⟩
    change _ = some (Value.string ⟨(L.getD a []).toArray⟩) at ca
    change _ = some (Value.string ⟨(L.getD b []).toArray⟩) at cb
    rw [← hsa] at ca
    rw [← hsb] at cb
    rw [← hsa, ← hsb] at hch
    have a0' : (0 : Int) ≤ (a : Int) := by omega
    have a1' : (a : Int) < (n : Int) := by omega
    have b0' : (0 : Int) ≤ (b : Int) := by omega
    have b1' : (b : Int) < (n : Int) := by omega
    have hw1 : w2.heap.size < W.heap.size := World.block_lt_of_cell? W ⟨w2.heap.size, 0, none⟩ hsl
    have hw2 : w2.heap.size + 1 < W.heap.size := World.block_lt_of_cell? W ⟨w2.heap.size + 1, 0, none⟩ hrs
    have hgW : g < W.heap.size := by omega
    obtain ⟨lc, hlc⟩ : ∃ lc, lc = leastOf L m (pre.map (·.1)) := ⟨_, rfl⟩
    rw [← hlc] at hrs hsn hll
    have hgo : ∀ W2, Below W.heap.size W W2 → KeepsOthers W (W2.setCell ⟨w2.heap.size + 1, 0, none⟩ (.int .i64 (min (lc : Int) (d : Int)))) ∧ (NumBox (w2.heap.size + 1 + 1) n W → NumBox (w2.heap.size + 1 + 1) n (W2.setCell ⟨w2.heap.size + 1, 0, none⟩ (.int .i64 (min (lc : Int) (d : Int))))) ∧ ((W2.setCell ⟨w2.heap.size + 1, 0, none⟩ (.int .i64 (min (lc : Int) (d : Int)))).cell? ⟨w2.heap.size, 0, none⟩ = some (.slice (some ⟨g, 0, none⟩) n c1) ∧ (W2.setCell ⟨w2.heap.size + 1, 0, none⟩ (.int .i64 (min (lc : Int) (d : Int)))).cell? ⟨w2.heap.size + 1, 0, none⟩ = some (.int .i64 ((leastOf L m ((pre ++ [(⟨(a, b), hab1, hab2⟩ : PairN n)]).map (·.1)) : Nat) : Int)) ∧ (W2.setCell ⟨w2.heap.size + 1, 0, none⟩ (.int .i64 (min (lc : Int) (d : Int)))).frozen? ⟨w2.heap.size + 1, 0, none⟩ = false) ∧ Below w2.heap.size w2 (W2.setCell ⟨w2.heap.size + 1, 0, none⟩ (.int .i64 (min (lc : Int) (d : Int)))) := fun W2 hB2 =>
      ⟨(keeps_below hB2).trans (KeepsOthers.setCell _ _ _), fun hN => (World.cell?_setCell_other _ _ _ _ (by simp; try omega)).trans ((hB2.cell (p := ⟨w2.heap.size + 1 + 1, 0, none⟩) (World.block_lt_of_cell? W ⟨w2.heap.size + 1 + 1, 0, none⟩ hN)).trans hN), ⟨(World.cell?_setCell_other _ _ _ _ (by simp; try omega)).trans ((hB2.cell (p := ⟨w2.heap.size, 0, none⟩) hw1).trans hsl), (World.cell?_setCell_same _ _ _ ((hB2.cell (p := ⟨w2.heap.size + 1, 0, none⟩) hw2).trans hrs)).trans (by rw [List.map_append, List.map_singleton, hsn]; congr 2; omega), (World.frozen?_setCell _ _ _ _).trans ((World.frozen?_of_block (a := ⟨w2.heap.size + 1, 0, none⟩) (hB2.block _ hw2)).trans hfr)⟩, (hBW.trans (hB2.mono hBW.size)).setCell (p := ⟨w2.heap.size + 1, 0, none⟩) (by simp) _⟩
    have HGO := Lib.hid hgo
    clear hgo hsn hlc hd hG la lb hsa hsb hBW
    gi_wp2_with fail
    refine region_round rfl (by kernel_rfl) (by kernel_rfl) ?_
    refine wpAnyIn_take (i := 2) (v := ?_) rfl rfl (by kernel_rfl) (by kernel_rfl) (by kernel_rfl) (fun _ _ _ h => h) ⟨Or.inl ⟨by rfl, ?_⟩, fun _ => rfl⟩ ?_
    rotate_left
    focus (intro w; go_simp; first | done | with_reducible rfl)
    refine wpAnyIn_take (i := 6) (v := ?_) rfl rfl (by kernel_rfl) (by kernel_rfl) (by kernel_rfl) (fun _ _ _ h => h) ⟨Or.inl ⟨by rfl, ?_⟩, fun _ => rfl⟩ ?_
    rotate_left
    focus (intro w; go_simp; first | done | with_reducible rfl)
    refine wpAnyIn_ready (rs := [0, 1, 5]) (by kernel_rfl) (by simp) (AllReadyIn.cons rfl (fun K hK => ?_) (AllReadyIn.cons rfl (fun K hK => ?_) (AllReadyIn.cons rfl (fun K hK => ?_) AllReadyIn.nil)))
    ·
      (go_simp; refine hK _ _ ?_; clear hK K)
      refine wpAnyIn_ready (rs := [1, 5]) (by kernel_rfl) (by simp) (AllReadyIn.cons rfl (fun K hK => ?_) (AllReadyIn.cons rfl (fun K hK => ?_) AllReadyIn.nil))
      ·
        (go_simp; refine hK _ _ ?_; clear hK K)
        refine wpAnyIn_take (i := 3) (v := ?_) rfl rfl (by kernel_rfl) (by kernel_rfl) (by kernel_rfl) (fun _ _ _ h => h) ⟨Or.inl ⟨by rfl, ?_⟩, fun _ => rfl⟩ ?_
        rotate_left
        focus (intro w; go_simp; first | done | with_reducible rfl)
        refine wpAnyIn_ready (rs := [4, 5]) (by kernel_rfl) (by simp) (AllReadyIn.cons rfl (fun K hK => ?_) (AllReadyIn.cons rfl (fun K hK => ?_) AllReadyIn.nil))
        ·
          (go_simp; refine hK _ _ ?_; clear hK K)
          refine wpAnyIn_ready (rs := [5]) (by kernel_rfl) (by simp) (AllReadyIn.cons rfl (fun K hK => ?_) AllReadyIn.nil)
          (go_simp; refine hK _ _ ?_; clear hK K)
          refine wpAnyIn_take (i := 7) (v := ?_) rfl rfl (by kernel_rfl) (by kernel_rfl) (by kernel_rfl) (fun _ _ _ h => h) ⟨Or.inl ⟨by rfl, ?_⟩, fun _ => rfl⟩ ?_
          rotate_left
          focus (intro w; go_simp; first | done | with_reducible rfl)
          refine wpAnyIn_ready (rs := [8]) (by kernel_rfl) (by simp) (AllReadyIn.cons rfl (fun K hK => ?_) AllReadyIn.nil)
          (go_simp; refine hK _ _ ?_; clear hK K)
          refine wpAnyIn_ready (rs := [9]) (by kernel_rfl) (by simp) (AllReadyIn.cons rfl (fun K hK => ?_) AllReadyIn.nil)
          go_simp
          gi_wp2_with (refine ⟨trivial, ?_⟩; gi_at_call 41; refine (CallsIn.inRound l (callsIn_wide.2 (hch _))).mono ?_; rintro e w' ⟨rfl, hB1⟩; have hB2 : Below W.heap.size W w' := (Below.refl W.heap.size W).drew.trans hB1; clear hB1; have k1 := (hB2.cell (p := ⟨w2.heap.size, 0, none⟩) hw1).trans hsl; have k2 := (hB2.cell (p := ⟨g, a, none⟩) hgW).trans ca; have k3 := (hB2.cell (p := ⟨g, b, none⟩) hgW).trans cb; have k4 := (hB2.cell (p := ⟨w2.heap.size + 1, 0, none⟩) hw2).trans hrs; have k5 := (World.frozen?_of_block (a := ⟨w2.heap.size + 1, 0, none⟩) (hB2.block _ hw2)).trans hfr)
          refine wpAnyIn_ready (rs := [10]) (by kernel_rfl) (by simp) (AllReadyIn.cons rfl (fun K hK => ?_) AllReadyIn.nil)
          (go_simp; refine hK _ _ ?_; clear hK K)
          refine wpAnyIn_ready (rs := [11]) (by kernel_rfl) (by simp) (AllReadyIn.cons rfl (fun K hK => ?_) AllReadyIn.nil)
          (go_simp; refine hK _ _ ?_; clear hK K)
          refine wpAnyIn_done (by kernel_rfl) ?_ _
          gi_wp2; exact HGO.out w' hB2
        ·
          (go_simp; refine hK _ _ ?_; clear hK K)
          refine wpAnyIn_take (i := 7) (v := ?_) rfl rfl (by kernel_rfl) (by kernel_rfl) (by kernel_rfl) (fun _ _ _ h => h) ⟨Or.inl ⟨by rfl, ?_⟩, fun _ => rfl⟩ ?_
          rotate_left
          focus (intro w; go_simp; first | done | with_reducible rfl)
          refine wpAnyIn_ready (rs := [4, 8]) (by kernel_rfl) (by simp) (AllReadyIn.cons rfl (fun K hK => ?_) (AllReadyIn.cons rfl (fun K hK => ?_) AllReadyIn.nil))
          ·
            (go_simp; refine hK _ _ ?_; clear hK K)
            refine wpAnyIn_ready (rs := [8]) (by kernel_rfl) (by simp) (AllReadyIn.cons rfl (fun K hK => ?_) AllReadyIn.nil)
            (go_simp; refine hK _ _ ?_; clear hK K)
            refine wpAnyIn_ready (rs := [9]) (by kernel_rfl) (by simp) (AllReadyIn.cons rfl (fun K hK => ?_) AllReadyIn.nil)
            go_simp
            gi_wp2_with (refine ⟨trivial, ?_⟩; gi_at_call 41; refine (CallsIn.inRound l (callsIn_wide.2 (hch _))).mono ?_; rintro e w' ⟨rfl, hB1⟩; have hB2 : Below W.heap.size W w' := (Below.refl W.heap.size W).drew.trans hB1; clear hB1; have k1 := (hB2.cell (p := ⟨w2.heap.size, 0, none⟩) hw1).trans hsl; have k2 := (hB2.cell (p := ⟨g, a, none⟩) hgW).trans ca; have k3 := (hB2.cell (p := ⟨g, b, none⟩) hgW).trans cb; have k4 := (hB2.cell (p := ⟨w2.heap.size + 1, 0, none⟩) hw2).trans hrs; have k5 := (World.frozen?_of_block (a := ⟨w2.heap.size + 1, 0, none⟩) (hB2.block _ hw2)).trans hfr)
            refine wpAnyIn_ready (rs := [10]) (by kernel_rfl) (by simp) (AllReadyIn.cons rfl (fun K hK => ?_) AllReadyIn.nil)
            (go_simp; refine hK _ _ ?_; clear hK K)
            refine wpAnyIn_ready (rs := [11]) (by kernel_rfl) (by simp) (AllReadyIn.cons rfl (fun K hK => ?_) AllReadyIn.nil)
            (go_simp; refine hK _ _ ?_; clear hK K)
            refine wpAnyIn_done (by kernel_rfl) ?_ _
            gi_wp2; exact HGO.out w' hB2
          ·
            (go_simp; refine hK _ _ ?_; clear hK K)
            refine wpAnyIn_ready (rs := [4]) (by kernel_rfl) (by simp) (AllReadyIn.cons rfl (fun K hK => ?_) AllReadyIn.nil)
            (go_simp; refine hK _ _ ?_; clear hK K)
            refine wpAnyIn_ready (rs := [9]) (by kernel_rfl) (by simp) (AllReadyIn.cons rfl (fun K hK => ?_) AllReadyIn.nil)
            go_simp
            gi_wp2_with (refine ⟨trivial, ?_⟩; gi_at_call 41; refine (CallsIn.inRound l (callsIn_wide.2 (hch _))).mono ?_; rintro e w' ⟨rfl, hB1⟩; have hB2 : Below W.heap.size W w' := (Below.refl W.heap.size W).drew.trans hB1; clear hB1; have k1 := (hB2.cell (p := ⟨w2.heap.size, 0, none⟩) hw1).trans hsl; have k2 := (hB2.cell (p := ⟨g, a, none⟩) hgW).trans ca; have k3 := (hB2.cell (p := ⟨g, b, none⟩) hgW).trans cb; have k4 := (hB2.cell (p := ⟨w2.heap.size + 1, 0, none⟩) hw2).trans hrs; have k5 := (World.frozen?_of_block (a := ⟨w2.heap.size + 1, 0, none⟩) (hB2.block _ hw2)).trans hfr)
            refine wpAnyIn_ready (rs := [10]) (by kernel_rfl) (by simp) (AllReadyIn.cons rfl (fun K hK => ?_) AllReadyIn.nil)
            (go_simp; refine hK _ _ ?_; clear hK K)
            refine wpAnyIn_ready (rs := [11]) (by kernel_rfl) (by simp) (AllReadyIn.cons rfl (fun K hK => ?_) AllReadyIn.nil)
            (go_simp; refine hK _ _ ?_; clear hK K)
            refine wpAnyIn_done (by kernel_rfl) ?_ _
            gi_wp2; exact HGO.out w' hB2
      ·
        (go_simp; refine hK _ _ ?_; clear hK K)
        refine wpAnyIn_take (i := 7) (v := ?_) rfl rfl (by kernel_rfl) (by kernel_rfl) (by kernel_rfl) (fun _ _ _ h => h) ⟨Or.inl ⟨by rfl, ?_⟩, fun _ => rfl⟩ ?_
        rotate_left
        focus (intro w; go_simp; first | done | with_reducible rfl)
        refine wpAnyIn_ready (rs := [1, 8]) (by kernel_rfl) (by simp) (AllReadyIn.cons rfl (fun K hK => ?_) (AllReadyIn.cons rfl (fun K hK => ?_) AllReadyIn.nil))
        ·
          (go_simp; refine hK _ _ ?_; clear hK K)
          refine wpAnyIn_take (i := 3) (v := ?_) rfl rfl (by kernel_rfl) (by kernel_rfl) (by kernel_rfl) (fun _ _ _ h => h) ⟨Or.inl ⟨by rfl, ?_⟩, fun _ => rfl⟩ ?_
          rotate_left
          focus (intro w; go_simp; first | done | with_reducible rfl)
          refine wpAnyIn_ready (rs := [4, 8]) (by kernel_rfl) (by simp) (AllReadyIn.cons rfl (fun K hK => ?_) (AllReadyIn.cons rfl (fun K hK => ?_) AllReadyIn.nil))
          ·
            (go_simp; refine hK _ _ ?_; clear hK K)
            refine wpAnyIn_ready (rs := [8]) (by kernel_rfl) (by simp) (AllReadyIn.cons rfl (fun K hK => ?_) AllReadyIn.nil)
            (go_simp; refine hK _ _ ?_; clear hK K)
            refine wpAnyIn_ready (rs := [9]) (by kernel_rfl) (by simp) (AllReadyIn.cons rfl (fun K hK => ?_) AllReadyIn.nil)
            go_simp
            gi_wp2_with (refine ⟨trivial, ?_⟩; gi_at_call 41; refine (CallsIn.inRound l (callsIn_wide.2 (hch _))).mono ?_; rintro e w' ⟨rfl, hB1⟩; have hB2 : Below W.heap.size W w' := (Below.refl W.heap.size W).drew.trans hB1; clear hB1; have k1 := (hB2.cell (p := ⟨w2.heap.size, 0, none⟩) hw1).trans hsl; have k2 := (hB2.cell (p := ⟨g, a, none⟩) hgW).trans ca; have k3 := (hB2.cell (p := ⟨g, b, none⟩) hgW).trans cb; have k4 := (hB2.cell (p := ⟨w2.heap.size + 1, 0, none⟩) hw2).trans hrs; have k5 := (World.frozen?_of_block (a := ⟨w2.heap.size + 1, 0, none⟩) (hB2.block _ hw2)).trans hfr)
            refine wpAnyIn_ready (rs := [10]) (by kernel_rfl) (by simp) (AllReadyIn.cons rfl (fun K hK => ?_) AllReadyIn.nil)
            (go_simp; refine hK _ _ ?_; clear hK K)
            refine wpAnyIn_ready (rs := [11]) (by kernel_rfl) (by simp) (AllReadyIn.cons rfl (fun K hK => ?_) AllReadyIn.nil)
            (go_simp; refine hK _ _ ?_; clear hK K)
            refine wpAnyIn_done (by kernel_rfl) ?_ _
            gi_wp2; exact HGO.out w' hB2
          ·
            (go_simp; refine hK _ _ ?_; clear hK K)
            refine wpAnyIn_ready (rs := [4]) (by kernel_rfl) (by simp) (AllReadyIn.cons rfl (fun K hK => ?_) AllReadyIn.nil)
            (go_simp; refine hK _ _ ?_; clear hK K)
            refine wpAnyIn_ready (rs := [9]) (by kernel_rfl) (by simp) (AllReadyIn.cons rfl (fun K hK => ?_) AllReadyIn.nil)
            go_simp
            gi_wp2_with (refine ⟨trivial, ?_⟩; gi_at_call 41; refine (CallsIn.inRound l (callsIn_wide.2 (hch _))).mono ?_; rintro e w' ⟨rfl, hB1⟩; have hB2 : Below W.heap.size W w' := (Below.refl W.heap.size W).drew.trans hB1; clear hB1; have k1 := (hB2.cell (p := ⟨w2.heap.size, 0, none⟩) hw1).trans hsl; have k2 := (hB2.cell (p := ⟨g, a, none⟩) hgW).trans ca; have k3 := (hB2.cell (p := ⟨g, b, none⟩) hgW).trans cb; have k4 := (hB2.cell (p := ⟨w2.heap.size + 1, 0, none⟩) hw2).trans hrs; have k5 := (World.frozen?_of_block (a := ⟨w2.heap.size + 1, 0, none⟩) (hB2.block _ hw2)).trans hfr)
            refine wpAnyIn_ready (rs := [10]) (by kernel_rfl) (by simp) (AllReadyIn.cons rfl (fun K hK => ?_) AllReadyIn.nil)
            (go_simp; refine hK _ _ ?_; clear hK K)
            refine wpAnyIn_ready (rs := [11]) (by kernel_rfl) (by simp) (AllReadyIn.cons rfl (fun K hK => ?_) AllReadyIn.nil)
            (go_simp; refine hK _ _ ?_; clear hK K)
            refine wpAnyIn_done (by kernel_rfl) ?_ _
            gi_wp2; exact HGO.out w' hB2
        ·
          (go_simp; refine hK _ _ ?_; clear hK K)
          refine wpAnyIn_ready (rs := [1]) (by kernel_rfl) (by simp) (AllReadyIn.cons rfl (fun K hK => ?_) AllReadyIn.nil)
          (go_simp; refine hK _ _ ?_; clear hK K)
          refine wpAnyIn_take (i := 3) (v := ?_) rfl rfl (by kernel_rfl) (by kernel_rfl) (by kernel_rfl) (fun _ _ _ h => h) ⟨Or.inl ⟨by rfl, ?_⟩, fun _ => rfl⟩ ?_
          rotate_left
          focus (intro w; go_simp; first | done | with_reducible rfl)
          refine wpAnyIn_ready (rs := [4]) (by kernel_rfl) (by simp) (AllReadyIn.cons rfl (fun K hK => ?_) AllReadyIn.nil)
          (go_simp; refine hK _ _ ?_; clear hK K)
          refine wpAnyIn_ready (rs := [9]) (by kernel_rfl) (by simp) (AllReadyIn.cons rfl (fun K hK => ?_) AllReadyIn.nil)
          go_simp
          gi_wp2_with (refine ⟨trivial, ?_⟩; gi_at_call 41; refine (CallsIn.inRound l (callsIn_wide.2 (hch _))).mono ?_; rintro e w' ⟨rfl, hB1⟩; have hB2 : Below W.heap.size W w' := (Below.refl W.heap.size W).drew.trans hB1; clear hB1; have k1 := (hB2.cell (p := ⟨w2.heap.size, 0, none⟩) hw1).trans hsl; have k2 := (hB2.cell (p := ⟨g, a, none⟩) hgW).trans ca; have k3 := (hB2.cell (p := ⟨g, b, none⟩) hgW).trans cb; have k4 := (hB2.cell (p := ⟨w2.heap.size + 1, 0, none⟩) hw2).trans hrs; have k5 := (World.frozen?_of_block (a := ⟨w2.heap.size + 1, 0, none⟩) (hB2.block _ hw2)).trans hfr)
          refine wpAnyIn_ready (rs := [10]) (by kernel_rfl) (by simp) (AllReadyIn.cons rfl (fun K hK => ?_) AllReadyIn.nil)
          (go_simp; refine hK _ _ ?_; clear hK K)
          refine wpAnyIn_ready (rs := [11]) (by kernel_rfl) (by simp) (AllReadyIn.cons rfl (fun K hK => ?_) AllReadyIn.nil)
          (go_simp; refine hK _ _ ?_; clear hK K)
          refine wpAnyIn_done (by kernel_rfl) ?_ _
          gi_wp2; exact HGO.out w' hB2
    ·
      (go_simp; refine hK _ _ ?_; clear hK K)
      refine wpAnyIn_take (i := 3) (v := ?_) rfl rfl (by kernel_rfl) (by kernel_rfl) (by kernel_rfl) (fun _ _ _ h => h) ⟨Or.inl ⟨by rfl, ?_⟩, fun _ => rfl⟩ ?_
      rotate_left
      focus (intro w; go_simp; first | done | with_reducible rfl)
      refine wpAnyIn_ready (rs := [0, 4, 5]) (by kernel_rfl) (by simp) (AllReadyIn.cons rfl (fun K hK => ?_) (AllReadyIn.cons rfl (fun K hK => ?_) (AllReadyIn.cons rfl (fun K hK => ?_) AllReadyIn.nil)))
      ·
        (go_simp; refine hK _ _ ?_; clear hK K)
        refine wpAnyIn_ready (rs := [4, 5]) (by kernel_rfl) (by simp) (AllReadyIn.cons rfl (fun K hK => ?_) (AllReadyIn.cons rfl (fun K hK => ?_) AllReadyIn.nil))
        ·
          (go_simp; refine hK _ _ ?_; clear hK K)
          refine wpAnyIn_ready (rs := [5]) (by kernel_rfl) (by simp) (AllReadyIn.cons rfl (fun K hK => ?_) AllReadyIn.nil)
          (go_simp; refine hK _ _ ?_; clear hK K)
          refine wpAnyIn_take (i := 7) (v := ?_) rfl rfl (by kernel_rfl) (by kernel_rfl) (by kernel_rfl) (fun _ _ _ h => h) ⟨Or.inl ⟨by rfl, ?_⟩, fun _ => rfl⟩ ?_
          rotate_left
          focus (intro w; go_simp; first | done | with_reducible rfl)
          refine wpAnyIn_ready (rs := [8]) (by kernel_rfl) (by simp) (AllReadyIn.cons rfl (fun K hK => ?_) AllReadyIn.nil)
          (go_simp; refine hK _ _ ?_; clear hK K)
          refine wpAnyIn_ready (rs := [9]) (by kernel_rfl) (by simp) (AllReadyIn.cons rfl (fun K hK => ?_) AllReadyIn.nil)
          go_simp
          gi_wp2_with (refine ⟨trivial, ?_⟩; gi_at_call 41; refine (CallsIn.inRound l (callsIn_wide.2 (hch _))).mono ?_; rintro e w' ⟨rfl, hB1⟩; have hB2 : Below W.heap.size W w' := (Below.refl W.heap.size W).drew.trans hB1; clear hB1; have k1 := (hB2.cell (p := ⟨w2.heap.size, 0, none⟩) hw1).trans hsl; have k2 := (hB2.cell (p := ⟨g, a, none⟩) hgW).trans ca; have k3 := (hB2.cell (p := ⟨g, b, none⟩) hgW).trans cb; have k4 := (hB2.cell (p := ⟨w2.heap.size + 1, 0, none⟩) hw2).trans hrs; have k5 := (World.frozen?_of_block (a := ⟨w2.heap.size + 1, 0, none⟩) (hB2.block _ hw2)).trans hfr)
          refine wpAnyIn_ready (rs := [10]) (by kernel_rfl) (by simp) (AllReadyIn.cons rfl (fun K hK => ?_) AllReadyIn.nil)
          (go_simp; refine hK _ _ ?_; clear hK K)
          refine wpAnyIn_ready (rs := [11]) (by kernel_rfl) (by simp) (AllReadyIn.cons rfl (fun K hK => ?_) AllReadyIn.nil)
          (go_simp; refine hK _ _ ?_; clear hK K)
          refine wpAnyIn_done (by kernel_rfl) ?_ _
          gi_wp2; exact HGO.out w' hB2
        ·
          (go_simp; refine hK _ _ ?_; clear hK K)
          refine wpAnyIn_take (i := 7) (v := ?_) rfl rfl (by kernel_rfl) (by kernel_rfl) (by kernel_rfl) (fun _ _ _ h => h) ⟨Or.inl ⟨by rfl, ?_⟩, fun _ => rfl⟩ ?_
          rotate_left
          focus (intro w; go_simp; first | done | with_reducible rfl)
          refine wpAnyIn_ready (rs := [4, 8]) (by kernel_rfl) (by simp) (AllReadyIn.cons rfl (fun K hK => ?_) (AllReadyIn.cons rfl (fun K hK => ?_) AllReadyIn.nil))
          ·
            (go_simp; refine hK _ _ ?_; clear hK K)
            refine wpAnyIn_ready (rs := [8]) (by kernel_rfl) (by simp) (AllReadyIn.cons rfl (fun K hK => ?_) AllReadyIn.nil)
            (go_simp; refine hK _ _ ?_; clear hK K)
            refine wpAnyIn_ready (rs := [9]) (by kernel_rfl) (by simp) (AllReadyIn.cons rfl (fun K hK => ?_) AllReadyIn.nil)
            go_simp
            gi_wp2_with (refine ⟨trivial, ?_⟩; gi_at_call 41; refine (CallsIn.inRound l (callsIn_wide.2 (hch _))).mono ?_; rintro e w' ⟨rfl, hB1⟩; have hB2 : Below W.heap.size W w' := (Below.refl W.heap.size W).drew.trans hB1; clear hB1; have k1 := (hB2.cell (p := ⟨w2.heap.size, 0, none⟩) hw1).trans hsl; have k2 := (hB2.cell (p := ⟨g, a, none⟩) hgW).trans ca; have k3 := (hB2.cell (p := ⟨g, b, none⟩) hgW).trans cb; have k4 := (hB2.cell (p := ⟨w2.heap.size + 1, 0, none⟩) hw2).trans hrs; have k5 := (World.frozen?_of_block (a := ⟨w2.heap.size + 1, 0, none⟩) (hB2.block _ hw2)).trans hfr)
            refine wpAnyIn_ready (rs := [10]) (by kernel_rfl) (by simp) (AllReadyIn.cons rfl (fun K hK => ?_) AllReadyIn.nil)
            (go_simp; refine hK _ _ ?_; clear hK K)
            refine wpAnyIn_ready (rs := [11]) (by kernel_rfl) (by simp) (AllReadyIn.cons rfl (fun K hK => ?_) AllReadyIn.nil)
            (go_simp; refine hK _ _ ?_; clear hK K)
            refine wpAnyIn_done (by kernel_rfl) ?_ _
            gi_wp2; exact HGO.out w' hB2
          ·
            (go_simp; refine hK _ _ ?_; clear hK K)
            refine wpAnyIn_ready (rs := [4]) (by kernel_rfl) (by simp) (AllReadyIn.cons rfl (fun K hK => ?_) AllReadyIn.nil)
            (go_simp; refine hK _ _ ?_; clear hK K)
            refine wpAnyIn_ready (rs := [9]) (by kernel_rfl) (by simp) (AllReadyIn.cons rfl (fun K hK => ?_) AllReadyIn.nil)
            go_simp
            gi_wp2_with (refine ⟨trivial, ?_⟩; gi_at_call 41; refine (CallsIn.inRound l (callsIn_wide.2 (hch _))).mono ?_; rintro e w' ⟨rfl, hB1⟩; have hB2 : Below W.heap.size W w' := (Below.refl W.heap.size W).drew.trans hB1; clear hB1; have k1 := (hB2.cell (p := ⟨w2.heap.size, 0, none⟩) hw1).trans hsl; have k2 := (hB2.cell (p := ⟨g, a, none⟩) hgW).trans ca; have k3 := (hB2.cell (p := ⟨g, b, none⟩) hgW).trans cb; have k4 := (hB2.cell (p := ⟨w2.heap.size + 1, 0, none⟩) hw2).trans hrs; have k5 := (World.frozen?_of_block (a := ⟨w2.heap.size + 1, 0, none⟩) (hB2.block _ hw2)).trans hfr)
            refine wpAnyIn_ready (rs := [10]) (by kernel_rfl) (by simp) (AllReadyIn.cons rfl (fun K hK => ?_) AllReadyIn.nil)
            (go_simp; refine hK _ _ ?_; clear hK K)
            refine wpAnyIn_ready (rs := [11]) (by kernel_rfl) (by simp) (AllReadyIn.cons rfl (fun K hK => ?_) AllReadyIn.nil)
            (go_simp; refine hK _ _ ?_; clear hK K)
            refine wpAnyIn_done (by kernel_rfl) ?_ _
            gi_wp2; exact HGO.out w' hB2
      ·
        (go_simp; refine hK _ _ ?_; clear hK K)
        refine wpAnyIn_ready (rs := [0, 5]) (by kernel_rfl) (by simp) (AllReadyIn.cons rfl (fun K hK => ?_) (AllReadyIn.cons rfl (fun K hK => ?_) AllReadyIn.nil))
        ·
          (go_simp; refine hK _ _ ?_; clear hK K)
          refine wpAnyIn_ready (rs := [5]) (by kernel_rfl) (by simp) (AllReadyIn.cons rfl (fun K hK => ?_) AllReadyIn.nil)
          (go_simp; refine hK _ _ ?_; clear hK K)
          refine wpAnyIn_take (i := 7) (v := ?_) rfl rfl (by kernel_rfl) (by kernel_rfl) (by kernel_rfl) (fun _ _ _ h => h) ⟨Or.inl ⟨by rfl, ?_⟩, fun _ => rfl⟩ ?_
          rotate_left
          focus (intro w; go_simp; first | done | with_reducible rfl)
          refine wpAnyIn_ready (rs := [8]) (by kernel_rfl) (by simp) (AllReadyIn.cons rfl (fun K hK => ?_) AllReadyIn.nil)
          (go_simp; refine hK _ _ ?_; clear hK K)
          refine wpAnyIn_ready (rs := [9]) (by kernel_rfl) (by simp) (AllReadyIn.cons rfl (fun K hK => ?_) AllReadyIn.nil)
          go_simp
          gi_wp2_with (refine ⟨trivial, ?_⟩; gi_at_call 41; refine (CallsIn.inRound l (callsIn_wide.2 (hch _))).mono ?_; rintro e w' ⟨rfl, hB1⟩; have hB2 : Below W.heap.size W w' := (Below.refl W.heap.size W).drew.trans hB1; clear hB1; have k1 := (hB2.cell (p := ⟨w2.heap.size, 0, none⟩) hw1).trans hsl; have k2 := (hB2.cell (p := ⟨g, a, none⟩) hgW).trans ca; have k3 := (hB2.cell (p := ⟨g, b, none⟩) hgW).trans cb; have k4 := (hB2.cell (p := ⟨w2.heap.size + 1, 0, none⟩) hw2).trans hrs; have k5 := (World.frozen?_of_block (a := ⟨w2.heap.size + 1, 0, none⟩) (hB2.block _ hw2)).trans hfr)
          refine wpAnyIn_ready (rs := [10]) (by kernel_rfl) (by simp) (AllReadyIn.cons rfl (fun K hK => ?_) AllReadyIn.nil)
          (go_simp; refine hK _ _ ?_; clear hK K)
          refine wpAnyIn_ready (rs := [11]) (by kernel_rfl) (by simp) (AllReadyIn.cons rfl (fun K hK => ?_) AllReadyIn.nil)
          (go_simp; refine hK _ _ ?_; clear hK K)
          refine wpAnyIn_done (by kernel_rfl) ?_ _
          gi_wp2; exact HGO.out w' hB2
        ·
          (go_simp; refine hK _ _ ?_; clear hK K)
          refine wpAnyIn_take (i := 7) (v := ?_) rfl rfl (by kernel_rfl) (by kernel_rfl) (by kernel_rfl) (fun _ _ _ h => h) ⟨Or.inl ⟨by rfl, ?_⟩, fun _ => rfl⟩ ?_
          rotate_left
          focus (intro w; go_simp; first | done | with_reducible rfl)
          refine wpAnyIn_ready (rs := [0, 8]) (by kernel_rfl) (by simp) (AllReadyIn.cons rfl (fun K hK => ?_) (AllReadyIn.cons rfl (fun K hK => ?_) AllReadyIn.nil))
          ·
            (go_simp; refine hK _ _ ?_; clear hK K)
            refine wpAnyIn_ready (rs := [8]) (by kernel_rfl) (by simp) (AllReadyIn.cons rfl (fun K hK => ?_) AllReadyIn.nil)
            (go_simp; refine hK _ _ ?_; clear hK K)
            refine wpAnyIn_ready (rs := [9]) (by kernel_rfl) (by simp) (AllReadyIn.cons rfl (fun K hK => ?_) AllReadyIn.nil)
            go_simp
            gi_wp2_with (refine ⟨trivial, ?_⟩; gi_at_call 41; refine (CallsIn.inRound l (callsIn_wide.2 (hch _))).mono ?_; rintro e w' ⟨rfl, hB1⟩; have hB2 : Below W.heap.size W w' := (Below.refl W.heap.size W).drew.trans hB1; clear hB1; have k1 := (hB2.cell (p := ⟨w2.heap.size, 0, none⟩) hw1).trans hsl; have k2 := (hB2.cell (p := ⟨g, a, none⟩) hgW).trans ca; have k3 := (hB2.cell (p := ⟨g, b, none⟩) hgW).trans cb; have k4 := (hB2.cell (p := ⟨w2.heap.size + 1, 0, none⟩) hw2).trans hrs; have k5 := (World.frozen?_of_block (a := ⟨w2.heap.size + 1, 0, none⟩) (hB2.block _ hw2)).trans hfr)
            refine wpAnyIn_ready (rs := [10]) (by kernel_rfl) (by simp) (AllReadyIn.cons rfl (fun K hK => ?_) AllReadyIn.nil)
            (go_simp; refine hK _ _ ?_; clear hK K)
            refine wpAnyIn_ready (rs := [11]) (by kernel_rfl) (by simp) (AllReadyIn.cons rfl (fun K hK => ?_) AllReadyIn.nil)
            (go_simp; refine hK _ _ ?_; clear hK K)
            refine wpAnyIn_done (by kernel_rfl) ?_ _
            gi_wp2; exact HGO.out w' hB2
          ·
            (go_simp; refine hK _ _ ?_; clear hK K)
            refine wpAnyIn_ready (rs := [0, 9]) (by kernel_rfl) (by simp) (AllReadyIn.cons rfl (fun K hK => ?_) (AllReadyIn.cons rfl (fun K hK => ?_) AllReadyIn.nil))
            ·
              (go_simp; refine hK _ _ ?_; clear hK K)
              refine wpAnyIn_ready (rs := [9]) (by kernel_rfl) (by simp) (AllReadyIn.cons rfl (fun K hK => ?_) AllReadyIn.nil)
              go_simp
              gi_wp2_with (refine ⟨trivial, ?_⟩; gi_at_call 41; refine (CallsIn.inRound l (callsIn_wide.2 (hch _))).mono ?_; rintro e w' ⟨rfl, hB1⟩; have hB2 : Below W.heap.size W w' := (Below.refl W.heap.size W).drew.trans hB1; clear hB1; have k1 := (hB2.cell (p := ⟨w2.heap.size, 0, none⟩) hw1).trans hsl; have k2 := (hB2.cell (p := ⟨g, a, none⟩) hgW).trans ca; have k3 := (hB2.cell (p := ⟨g, b, none⟩) hgW).trans cb; have k4 := (hB2.cell (p := ⟨w2.heap.size + 1, 0, none⟩) hw2).trans hrs; have k5 := (World.frozen?_of_block (a := ⟨w2.heap.size + 1, 0, none⟩) (hB2.block _ hw2)).trans hfr)
              refine wpAnyIn_ready (rs := [10]) (by kernel_rfl) (by simp) (AllReadyIn.cons rfl (fun K hK => ?_) AllReadyIn.nil)
              (go_simp; refine hK _ _ ?_; clear hK K)
              refine wpAnyIn_ready (rs := [11]) (by kernel_rfl) (by simp) (AllReadyIn.cons rfl (fun K hK => ?_) AllReadyIn.nil)
              (go_simp; refine hK _ _ ?_; clear hK K)
              refine wpAnyIn_done (by kernel_rfl) ?_ _
              gi_wp2; exact HGO.out w' hB2
            ·
              go_simp
              gi_wp2_with (refine ⟨trivial, ?_⟩; gi_at_call 41; refine (CallsIn.inRound l (callsIn_wide.2 (hch _))).mono ?_; rintro e w' ⟨rfl, hB1⟩; have hB2 : Below W.heap.size W w' := (Below.refl W.heap.size W).drew.trans hB1; clear hB1; have k1 := (hB2.cell (p := ⟨w2.heap.size, 0, none⟩) hw1).trans hsl; have k2 := (hB2.cell (p := ⟨g, a, none⟩) hgW).trans ca; have k3 := (hB2.cell (p := ⟨g, b, none⟩) hgW).trans cb; have k4 := (hB2.cell (p := ⟨w2.heap.size + 1, 0, none⟩) hw2).trans hrs; have k5 := (World.frozen?_of_block (a := ⟨w2.heap.size + 1, 0, none⟩) (hB2.block _ hw2)).trans hfr)
              refine wpAnyIn_ready (rs := [0]) (by kernel_rfl) (by simp) (AllReadyIn.cons rfl (fun K hK => ?_) AllReadyIn.nil)
              (go_simp; refine hK _ _ ?_; clear hK K)
              refine wpAnyIn_ready (rs := [10]) (by kernel_rfl) (by simp) (AllReadyIn.cons rfl (fun K hK => ?_) AllReadyIn.nil)
              (go_simp; refine hK _ _ ?_; clear hK K)
              refine wpAnyIn_ready (rs := [11]) (by kernel_rfl) (by simp) (AllReadyIn.cons rfl (fun K hK => ?_) AllReadyIn.nil)
              (go_simp; refine hK _ _ ?_; clear hK K)
              refine wpAnyIn_done (by kernel_rfl) ?_ _
              gi_wp2; exact HGO.out w' hB2
      ·
        (go_simp; refine hK _ _ ?_; clear hK K)
        refine wpAnyIn_take (i := 7) (v := ?_) rfl rfl (by kernel_rfl) (by kernel_rfl) (by kernel_rfl) (fun _ _ _ h => h) ⟨Or.inl ⟨by rfl, ?_⟩, fun _ => rfl⟩ ?_
        rotate_left
        focus (intro w; go_simp; first | done | with_reducible rfl)
        refine wpAnyIn_ready (rs := [0, 4, 8]) (by kernel_rfl) (by simp) (AllReadyIn.cons rfl (fun K hK => ?_) (AllReadyIn.cons rfl (fun K hK => ?_) (AllReadyIn.cons rfl (fun K hK => ?_) AllReadyIn.nil)))
        ·
          (go_simp; refine hK _ _ ?_; clear hK K)
          refine wpAnyIn_ready (rs := [4, 8]) (by kernel_rfl) (by simp) (AllReadyIn.cons rfl (fun K hK => ?_) (AllReadyIn.cons rfl (fun K hK => ?_) AllReadyIn.nil))
          ·
            (go_simp; refine hK _ _ ?_; clear hK K)
            refine wpAnyIn_ready (rs := [8]) (by kernel_rfl) (by simp) (AllReadyIn.cons rfl (fun K hK => ?_) AllReadyIn.nil)
            (go_simp; refine hK _ _ ?_; clear hK K)
            refine wpAnyIn_ready (rs := [9]) (by kernel_rfl) (by simp) (AllReadyIn.cons rfl (fun K hK => ?_) AllReadyIn.nil)
            go_simp
            gi_wp2_with (refine ⟨trivial, ?_⟩; gi_at_call 41; refine (CallsIn.inRound l (callsIn_wide.2 (hch _))).mono ?_; rintro e w' ⟨rfl, hB1⟩; have hB2 : Below W.heap.size W w' := (Below.refl W.heap.size W).drew.trans hB1; clear hB1; have k1 := (hB2.cell (p := ⟨w2.heap.size, 0, none⟩) hw1).trans hsl; have k2 := (hB2.cell (p := ⟨g, a, none⟩) hgW).trans ca; have k3 := (hB2.cell (p := ⟨g, b, none⟩) hgW).trans cb; have k4 := (hB2.cell (p := ⟨w2.heap.size + 1, 0, none⟩) hw2).trans hrs; have k5 := (World.frozen?_of_block (a := ⟨w2.heap.size + 1, 0, none⟩) (hB2.block _ hw2)).trans hfr)
            refine wpAnyIn_ready (rs := [10]) (by kernel_rfl) (by simp) (AllReadyIn.cons rfl (fun K hK => ?_) AllReadyIn.nil)
            (go_simp; refine hK _ _ ?_; clear hK K)
            refine wpAnyIn_ready (rs := [11]) (by kernel_rfl) (by simp) (AllReadyIn.cons rfl (fun K hK => ?_) AllReadyIn.nil)
            (go_simp; refine hK _ _ ?_; clear hK K)
            refine wpAnyIn_done (by kernel_rfl) ?_ _
            gi_wp2; exact HGO.out w' hB2
          ·
            (go_simp; refine hK _ _ ?_; clear hK K)
            refine wpAnyIn_ready (rs := [4]) (by kernel_rfl) (by simp) (AllReadyIn.cons rfl (fun K hK => ?_) AllReadyIn.nil)
            (go_simp; refine hK _ _ ?_; clear hK K)
            refine wpAnyIn_ready (rs := [9]) (by kernel_rfl) (by simp) (AllReadyIn.cons rfl (fun K hK => ?_) AllReadyIn.nil)
            go_simp
            gi_wp2_with (refine ⟨trivial, ?_⟩; gi_at_call 41; refine (CallsIn.inRound l (callsIn_wide.2 (hch _))).mono ?_; rintro e w' ⟨rfl, hB1⟩; have hB2 : Below W.heap.size W w' := (Below.refl W.heap.size W).drew.trans hB1; clear hB1; have k1 := (hB2.cell (p := ⟨w2.heap.size, 0, none⟩) hw1).trans hsl; have k2 := (hB2.cell (p := ⟨g, a, none⟩) hgW).trans ca; have k3 := (hB2.cell (p := ⟨g, b, none⟩) hgW).trans cb; have k4 := (hB2.cell (p := ⟨w2.heap.size + 1, 0, none⟩) hw2).trans hrs; have k5 := (World.frozen?_of_block (a := ⟨w2.heap.size + 1, 0, none⟩) (hB2.block _ hw2)).trans hfr)
            refine wpAnyIn_ready (rs := [10]) (by kernel_rfl) (by simp) (AllReadyIn.cons rfl (fun K hK => ?_) AllReadyIn.nil)
            (go_simp; refine hK _ _ ?_; clear hK K)
            refine wpAnyIn_ready (rs := [11]) (by kernel_rfl) (by simp) (AllReadyIn.cons rfl (fun K hK => ?_) AllReadyIn.nil)
            (go_simp; refine hK _ _ ?_; clear hK K)
            refine wpAnyIn_done (by kernel_rfl) ?_ _
            gi_wp2; exact HGO.out w' hB2
        ·
          (go_simp; refine hK _ _ ?_; clear hK K)
          refine wpAnyIn_ready (rs := [0, 8]) (by kernel_rfl) (by simp) (AllReadyIn.cons rfl (fun K hK => ?_) (AllReadyIn.cons rfl (fun K hK => ?_) AllReadyIn.nil))
          ·
            (go_simp; refine hK _ _ ?_; clear hK K)
            refine wpAnyIn_ready (rs := [8]) (by kernel_rfl) (by simp) (AllReadyIn.cons rfl (fun K hK => ?_) AllReadyIn.nil)
            (go_simp; refine hK _ _ ?_; clear hK K)
            refine wpAnyIn_ready (rs := [9]) (by kernel_rfl) (by simp) (AllReadyIn.cons rfl (fun K hK => ?_) AllReadyIn.nil)
            go_simp
            gi_wp2_with (refine ⟨trivial, ?_⟩; gi_at_call 41; refine (CallsIn.inRound l (callsIn_wide.2 (hch _))).mono ?_; rintro e w' ⟨rfl, hB1⟩; have hB2 : Below W.heap.size W w' := (Below.refl W.heap.size W).drew.trans hB1; clear hB1; have k1 := (hB2.cell (p := ⟨w2.heap.size, 0, none⟩) hw1).trans hsl; have k2 := (hB2.cell (p := ⟨g, a, none⟩) hgW).trans ca; have k3 := (hB2.cell (p := ⟨g, b, none⟩) hgW).trans cb; have k4 := (hB2.cell (p := ⟨w2.heap.size + 1, 0, none⟩) hw2).trans hrs; have k5 := (World.frozen?_of_block (a := ⟨w2.heap.size + 1, 0, none⟩) (hB2.block _ hw2)).trans hfr)
            refine wpAnyIn_ready (rs := [10]) (by kernel_rfl) (by simp) (AllReadyIn.cons rfl (fun K hK => ?_) AllReadyIn.nil)
            (go_simp; refine hK _ _ ?_; clear hK K)
            refine wpAnyIn_ready (rs := [11]) (by kernel_rfl) (by simp) (AllReadyIn.cons rfl (fun K hK => ?_) AllReadyIn.nil)
            (go_simp; refine hK _ _ ?_; clear hK K)
            refine wpAnyIn_done (by kernel_rfl) ?_ _
            gi_wp2; exact HGO.out w' hB2
          ·
            (go_simp; refine hK _ _ ?_; clear hK K)
            refine wpAnyIn_ready (rs := [0, 9]) (by kernel_rfl) (by simp) (AllReadyIn.cons rfl (fun K hK => ?_) (AllReadyIn.cons rfl (fun K hK => ?_) AllReadyIn.nil))
            ·
              (go_simp; refine hK _ _ ?_; clear hK K)
              refine wpAnyIn_ready (rs := [9]) (by kernel_rfl) (by simp) (AllReadyIn.cons rfl (fun K hK => ?_) AllReadyIn.nil)
              go_simp
              gi_wp2_with (refine ⟨trivial, ?_⟩; gi_at_call 41; refine (CallsIn.inRound l (callsIn_wide.2 (hch _))).mono ?_; rintro e w' ⟨rfl, hB1⟩; have hB2 : Below W.heap.size W w' := (Below.refl W.heap.size W).drew.trans hB1; clear hB1; have k1 := (hB2.cell (p := ⟨w2.heap.size, 0, none⟩) hw1).trans hsl; have k2 := (hB2.cell (p := ⟨g, a, none⟩) hgW).trans ca; have k3 := (hB2.cell (p := ⟨g, b, none⟩) hgW).trans cb; have k4 := (hB2.cell (p := ⟨w2.heap.size + 1, 0, none⟩) hw2).trans hrs; have k5 := (World.frozen?_of_block (a := ⟨w2.heap.size + 1, 0, none⟩) (hB2.block _ hw2)).trans hfr)
              refine wpAnyIn_ready (rs := [10]) (by kernel_rfl) (by simp) (AllReadyIn.cons rfl (fun K hK => ?_) AllReadyIn.nil)
              (go_simp; refine hK _ _ ?_; clear hK K)
              refine wpAnyIn_ready (rs := [11]) (by kernel_rfl) (by simp) (AllReadyIn.cons rfl (fun K hK => ?_) AllReadyIn.nil)
              (go_simp; refine hK _ _ ?_; clear hK K)
              refine wpAnyIn_done (by kernel_rfl) ?_ _
              gi_wp2; exact HGO.out w' hB2
            ·
              go_simp
              gi_wp2_with (refine ⟨trivial, ?_⟩; gi_at_call 41; refine (CallsIn.inRound l (callsIn_wide.2 (hch _))).mono ?_; rintro e w' ⟨rfl, hB1⟩; have hB2 : Below W.heap.size W w' := (Below.refl W.heap.size W).drew.trans hB1; clear hB1; have k1 := (hB2.cell (p := ⟨w2.heap.size, 0, none⟩) hw1).trans hsl; have k2 := (hB2.cell (p := ⟨g, a, none⟩) hgW).trans ca; have k3 := (hB2.cell (p := ⟨g, b, none⟩) hgW).trans cb; have k4 := (hB2.cell (p := ⟨w2.heap.size + 1, 0, none⟩) hw2).trans hrs; have k5 := (World.frozen?_of_block (a := ⟨w2.heap.size + 1, 0, none⟩) (hB2.block _ hw2)).trans hfr)
              refine wpAnyIn_ready (rs := [0]) (by kernel_rfl) (by simp) (AllReadyIn.cons rfl (fun K hK => ?_) AllReadyIn.nil)
              (go_simp; refine hK _ _ ?_; clear hK K)
              refine wpAnyIn_ready (rs := [10]) (by kernel_rfl) (by simp) (AllReadyIn.cons rfl (fun K hK => ?_) AllReadyIn.nil)
              (go_simp; refine hK _ _ ?_; clear hK K)
              refine wpAnyIn_ready (rs := [11]) (by kernel_rfl) (by simp) (AllReadyIn.cons rfl (fun K hK => ?_) AllReadyIn.nil)
              (go_simp; refine hK _ _ ?_; clear hK K)
              refine wpAnyIn_done (by kernel_rfl) ?_ _
              gi_wp2; exact HGO.out w' hB2
        ·
          (go_simp; refine hK _ _ ?_; clear hK K)
          refine wpAnyIn_ready (rs := [0, 4]) (by kernel_rfl) (by simp) (AllReadyIn.cons rfl (fun K hK => ?_) (AllReadyIn.cons rfl (fun K hK => ?_) AllReadyIn.nil))
          ·
            (go_simp; refine hK _ _ ?_; clear hK K)
            refine wpAnyIn_ready (rs := [4]) (by kernel_rfl) (by simp) (AllReadyIn.cons rfl (fun K hK => ?_) AllReadyIn.nil)
            (go_simp; refine hK _ _ ?_; clear hK K)
            refine wpAnyIn_ready (rs := [9]) (by kernel_rfl) (by simp) (AllReadyIn.cons rfl (fun K hK => ?_) AllReadyIn.nil)
            go_simp
            gi_wp2_with (refine ⟨trivial, ?_⟩; gi_at_call 41; refine (CallsIn.inRound l (callsIn_wide.2 (hch _))).mono ?_; rintro e w' ⟨rfl, hB1⟩; have hB2 : Below W.heap.size W w' := (Below.refl W.heap.size W).drew.trans hB1; clear hB1; have k1 := (hB2.cell (p := ⟨w2.heap.size, 0, none⟩) hw1).trans hsl; have k2 := (hB2.cell (p := ⟨g, a, none⟩) hgW).trans ca; have k3 := (hB2.cell (p := ⟨g, b, none⟩) hgW).trans cb; have k4 := (hB2.cell (p := ⟨w2.heap.size + 1, 0, none⟩) hw2).trans hrs; have k5 := (World.frozen?_of_block (a := ⟨w2.heap.size + 1, 0, none⟩) (hB2.block _ hw2)).trans hfr)
            refine wpAnyIn_ready (rs := [10]) (by kernel_rfl) (by simp) (AllReadyIn.cons rfl (fun K hK => ?_) AllReadyIn.nil)
            (go_simp; refine hK _ _ ?_; clear hK K)
            refine wpAnyIn_ready (rs := [11]) (by kernel_rfl) (by simp) (AllReadyIn.cons rfl (fun K hK => ?_) AllReadyIn.nil)
            (go_simp; refine hK _ _ ?_; clear hK K)
            refine wpAnyIn_done (by kernel_rfl) ?_ _
            gi_wp2; exact HGO.out w' hB2
          ·
            (go_simp; refine hK _ _ ?_; clear hK K)
            refine wpAnyIn_ready (rs := [0, 9]) (by kernel_rfl) (by simp) (AllReadyIn.cons rfl (fun K hK => ?_) (AllReadyIn.cons rfl (fun K hK => ?_) AllReadyIn.nil))
            ·
              (go_simp; refine hK _ _ ?_; clear hK K)
              refine wpAnyIn_ready (rs := [9]) (by kernel_rfl) (by simp) (AllReadyIn.cons rfl (fun K hK => ?_) AllReadyIn.nil)
              go_simp
              gi_wp2_with (refine ⟨trivial, ?_⟩; gi_at_call 41; refine (CallsIn.inRound l (callsIn_wide.2 (hch _))).mono ?_; rintro e w' ⟨rfl, hB1⟩; have hB2 : Below W.heap.size W w' := (Below.refl W.heap.size W).drew.trans hB1; clear hB1; have k1 := (hB2.cell (p := ⟨w2.heap.size, 0, none⟩) hw1).trans hsl; have k2 := (hB2.cell (p := ⟨g, a, none⟩) hgW).trans ca; have k3 := (hB2.cell (p := ⟨g, b, none⟩) hgW).trans cb; have k4 := (hB2.cell (p := ⟨w2.heap.size + 1, 0, none⟩) hw2).trans hrs; have k5 := (World.frozen?_of_block (a := ⟨w2.heap.size + 1, 0, none⟩) (hB2.block _ hw2)).trans hfr)
              refine wpAnyIn_ready (rs := [10]) (by kernel_rfl) (by simp) (AllReadyIn.cons rfl (fun K hK => ?_) AllReadyIn.nil)
              (go_simp; refine hK _ _ ?_; clear hK K)
              refine wpAnyIn_ready (rs := [11]) (by kernel_rfl) (by simp) (AllReadyIn.cons rfl (fun K hK => ?_) AllReadyIn.nil)
              (go_simp; refine hK _ _ ?_; clear hK K)
              refine wpAnyIn_done (by kernel_rfl) ?_ _
              gi_wp2; exact HGO.out w' hB2
            ·
              go_simp
              gi_wp2_with (refine ⟨trivial, ?_⟩; gi_at_call 41; refine (CallsIn.inRound l (callsIn_wide.2 (hch _))).mono ?_; rintro e w' ⟨rfl, hB1⟩; have hB2 : Below W.heap.size W w' := (Below.refl W.heap.size W).drew.trans hB1; clear hB1; have k1 := (hB2.cell (p := ⟨w2.heap.size, 0, none⟩) hw1).trans hsl; have k2 := (hB2.cell (p := ⟨g, a, none⟩) hgW).trans ca; have k3 := (hB2.cell (p := ⟨g, b, none⟩) hgW).trans cb; have k4 := (hB2.cell (p := ⟨w2.heap.size + 1, 0, none⟩) hw2).trans hrs; have k5 := (World.frozen?_of_block (a := ⟨w2.heap.size + 1, 0, none⟩) (hB2.block _ hw2)).trans hfr)
              refine wpAnyIn_ready (rs := [0]) (by kernel_rfl) (by simp) (AllReadyIn.cons rfl (fun K hK => ?_) AllReadyIn.nil)
              (go_simp; refine hK _ _ ?_; clear hK K)
              refine wpAnyIn_ready (rs := [10]) (by kernel_rfl) (by simp) (AllReadyIn.cons rfl (fun K hK => ?_) AllReadyIn.nil)
              (go_simp; refine hK _ _ ?_; clear hK K)
              refine wpAnyIn_ready (rs := [11]) (by kernel_rfl) (by simp) (AllReadyIn.cons rfl (fun K hK => ?_) AllReadyIn.nil)
              (go_simp; refine hK _ _ ?_; clear hK K)
              refine wpAnyIn_done (by kernel_rfl) ?_ _
              gi_wp2; exact HGO.out w' hB2
    ·
      (go_simp; refine hK _ _ ?_; clear hK K)
      refine wpAnyIn_take (i := 7) (v := ?_) rfl rfl (by kernel_rfl) (by kernel_rfl) (by kernel_rfl) (fun _ _ _ h => h) ⟨Or.inl ⟨by rfl, ?_⟩, fun _ => rfl⟩ ?_
      rotate_left
      focus (intro w; go_simp; first | done | with_reducible rfl)
      refine wpAnyIn_ready (rs := [0, 1, 8]) (by kernel_rfl) (by simp) (AllReadyIn.cons rfl (fun K hK => ?_) (AllReadyIn.cons rfl (fun K hK => ?_) (AllReadyIn.cons rfl (fun K hK => ?_) AllReadyIn.nil)))
      ·
        (go_simp; refine hK _ _ ?_; clear hK K)
        refine wpAnyIn_ready (rs := [1, 8]) (by kernel_rfl) (by simp) (AllReadyIn.cons rfl (fun K hK => ?_) (AllReadyIn.cons rfl (fun K hK => ?_) AllReadyIn.nil))
        ·
          (go_simp; refine hK _ _ ?_; clear hK K)
          refine wpAnyIn_take (i := 3) (v := ?_) rfl rfl (by kernel_rfl) (by kernel_rfl) (by kernel_rfl) (fun _ _ _ h => h) ⟨Or.inl ⟨by rfl, ?_⟩, fun _ => rfl⟩ ?_
          rotate_left
          focus (intro w; go_simp; first | done | with_reducible rfl)
          refine wpAnyIn_ready (rs := [4, 8]) (by kernel_rfl) (by simp) (AllReadyIn.cons rfl (fun K hK => ?_) (AllReadyIn.cons rfl (fun K hK => ?_) AllReadyIn.nil))
          ·
            (go_simp; refine hK _ _ ?_; clear hK K)
            refine wpAnyIn_ready (rs := [8]) (by kernel_rfl) (by simp) (AllReadyIn.cons rfl (fun K hK => ?_) AllReadyIn.nil)
            (go_simp; refine hK _ _ ?_; clear hK K)
            refine wpAnyIn_ready (rs := [9]) (by kernel_rfl) (by simp) (AllReadyIn.cons rfl (fun K hK => ?_) AllReadyIn.nil)
            go_simp
            gi_wp2_with (refine ⟨trivial, ?_⟩; gi_at_call 41; refine (CallsIn.inRound l (callsIn_wide.2 (hch _))).mono ?_; rintro e w' ⟨rfl, hB1⟩; have hB2 : Below W.heap.size W w' := (Below.refl W.heap.size W).drew.trans hB1; clear hB1; have k1 := (hB2.cell (p := ⟨w2.heap.size, 0, none⟩) hw1).trans hsl; have k2 := (hB2.cell (p := ⟨g, a, none⟩) hgW).trans ca; have k3 := (hB2.cell (p := ⟨g, b, none⟩) hgW).trans cb; have k4 := (hB2.cell (p := ⟨w2.heap.size + 1, 0, none⟩) hw2).trans hrs; have k5 := (World.frozen?_of_block (a := ⟨w2.heap.size + 1, 0, none⟩) (hB2.block _ hw2)).trans hfr)
            refine wpAnyIn_ready (rs := [10]) (by kernel_rfl) (by simp) (AllReadyIn.cons rfl (fun K hK => ?_) AllReadyIn.nil)
            (go_simp; refine hK _ _ ?_; clear hK K)
            refine wpAnyIn_ready (rs := [11]) (by kernel_rfl) (by simp) (AllReadyIn.cons rfl (fun K hK => ?_) AllReadyIn.nil)
            (go_simp; refine hK _ _ ?_; clear hK K)
            refine wpAnyIn_done (by kernel_rfl) ?_ _
            gi_wp2; exact HGO.out w' hB2
          ·
            (go_simp; refine hK _ _ ?_; clear hK K)
            refine wpAnyIn_ready (rs := [4]) (by kernel_rfl) (by simp) (AllReadyIn.cons rfl (fun K hK => ?_) AllReadyIn.nil)
            (go_simp; refine hK _ _ ?_; clear hK K)
            refine wpAnyIn_ready (rs := [9]) (by kernel_rfl) (by simp) (AllReadyIn.cons rfl (fun K hK => ?_) AllReadyIn.nil)
            go_simp
            gi_wp2_with (refine ⟨trivial, ?_⟩; gi_at_call 41; refine (CallsIn.inRound l (callsIn_wide.2 (hch _))).mono ?_; rintro e w' ⟨rfl, hB1⟩; have hB2 : Below W.heap.size W w' := (Below.refl W.heap.size W).drew.trans hB1; clear hB1; have k1 := (hB2.cell (p := ⟨w2.heap.size, 0, none⟩) hw1).trans hsl; have k2 := (hB2.cell (p := ⟨g, a, none⟩) hgW).trans ca; have k3 := (hB2.cell (p := ⟨g, b, none⟩) hgW).trans cb; have k4 := (hB2.cell (p := ⟨w2.heap.size + 1, 0, none⟩) hw2).trans hrs; have k5 := (World.frozen?_of_block (a := ⟨w2.heap.size + 1, 0, none⟩) (hB2.block _ hw2)).trans hfr)
            refine wpAnyIn_ready (rs := [10]) (by kernel_rfl) (by simp) (AllReadyIn.cons rfl (fun K hK => ?_) AllReadyIn.nil)
            (go_simp; refine hK _ _ ?_; clear hK K)
            refine wpAnyIn_ready (rs := [11]) (by kernel_rfl) (by simp) (AllReadyIn.cons rfl (fun K hK => ?_) AllReadyIn.nil)
            (go_simp; refine hK _ _ ?_; clear hK K)
            refine wpAnyIn_done (by kernel_rfl) ?_ _
            gi_wp2; exact HGO.out w' hB2
        ·
          (go_simp; refine hK _ _ ?_; clear hK K)
          refine wpAnyIn_ready (rs := [1]) (by kernel_rfl) (by simp) (AllReadyIn.cons rfl (fun K hK => ?_) AllReadyIn.nil)
          (go_simp; refine hK _ _ ?_; clear hK K)
          refine wpAnyIn_take (i := 3) (v := ?_) rfl rfl (by kernel_rfl) (by kernel_rfl) (by kernel_rfl) (fun _ _ _ h => h) ⟨Or.inl ⟨by rfl, ?_⟩, fun _ => rfl⟩ ?_
          rotate_left
          focus (intro w; go_simp; first | done | with_reducible rfl)
          refine wpAnyIn_ready (rs := [4]) (by kernel_rfl) (by simp) (AllReadyIn.cons rfl (fun K hK => ?_) AllReadyIn.nil)
          (go_simp; refine hK _ _ ?_; clear hK K)
          refine wpAnyIn_ready (rs := [9]) (by kernel_rfl) (by simp) (AllReadyIn.cons rfl (fun K hK => ?_) AllReadyIn.nil)
          go_simp
          gi_wp2_with (refine ⟨trivial, ?_⟩; gi_at_call 41; refine (CallsIn.inRound l (callsIn_wide.2 (hch _))).mono ?_; rintro e w' ⟨rfl, hB1⟩; have hB2 : Below W.heap.size W w' := (Below.refl W.heap.size W).drew.trans hB1; clear hB1; have k1 := (hB2.cell (p := ⟨w2.heap.size, 0, none⟩) hw1).trans hsl; have k2 := (hB2.cell (p := ⟨g, a, none⟩) hgW).trans ca; have k3 := (hB2.cell (p := ⟨g, b, none⟩) hgW).trans cb; have k4 := (hB2.cell (p := ⟨w2.heap.size + 1, 0, none⟩) hw2).trans hrs; have k5 := (World.frozen?_of_block (a := ⟨w2.heap.size + 1, 0, none⟩) (hB2.block _ hw2)).trans hfr)
          refine wpAnyIn_ready (rs := [10]) (by kernel_rfl) (by simp) (AllReadyIn.cons rfl (fun K hK => ?_) AllReadyIn.nil)
          (go_simp; refine hK _ _ ?_; clear hK K)
          refine wpAnyIn_ready (rs := [11]) (by kernel_rfl) (by simp) (AllReadyIn.cons rfl (fun K hK => ?_) AllReadyIn.nil)
          (go_simp; refine hK _ _ ?_; clear hK K)
          refine wpAnyIn_done (by kernel_rfl) ?_ _
          gi_wp2; exact HGO.out w' hB2
      ·
        (go_simp; refine hK _ _ ?_; clear hK K)
        refine wpAnyIn_take (i := 3) (v := ?_) rfl rfl (by kernel_rfl) (by kernel_rfl) (by kernel_rfl) (fun _ _ _ h => h) ⟨Or.inl ⟨by rfl, ?_⟩, fun _ => rfl⟩ ?_
        rotate_left
        focus (intro w; go_simp; first | done | with_reducible rfl)
        refine wpAnyIn_ready (rs := [0, 4, 8]) (by kernel_rfl) (by simp) (AllReadyIn.cons rfl (fun K hK => ?_) (AllReadyIn.cons rfl (fun K hK => ?_) (AllReadyIn.cons rfl (fun K hK => ?_) AllReadyIn.nil)))
        ·
          (go_simp; refine hK _ _ ?_; clear hK K)
          refine wpAnyIn_ready (rs := [4, 8]) (by kernel_rfl) (by simp) (AllReadyIn.cons rfl (fun K hK => ?_) (AllReadyIn.cons rfl (fun K hK => ?_) AllReadyIn.nil))
          ·
            (go_simp; refine hK _ _ ?_; clear hK K)
            refine wpAnyIn_ready (rs := [8]) (by kernel_rfl) (by simp) (AllReadyIn.cons rfl (fun K hK => ?_) AllReadyIn.nil)
            (go_simp; refine hK _ _ ?_; clear hK K)
            refine wpAnyIn_ready (rs := [9]) (by kernel_rfl) (by simp) (AllReadyIn.cons rfl (fun K hK => ?_) AllReadyIn.nil)
            go_simp
            gi_wp2_with (refine ⟨trivial, ?_⟩; gi_at_call 41; refine (CallsIn.inRound l (callsIn_wide.2 (hch _))).mono ?_; rintro e w' ⟨rfl, hB1⟩; have hB2 : Below W.heap.size W w' := (Below.refl W.heap.size W).drew.trans hB1; clear hB1; have k1 := (hB2.cell (p := ⟨w2.heap.size, 0, none⟩) hw1).trans hsl; have k2 := (hB2.cell (p := ⟨g, a, none⟩) hgW).trans ca; have k3 := (hB2.cell (p := ⟨g, b, none⟩) hgW).trans cb; have k4 := (hB2.cell (p := ⟨w2.heap.size + 1, 0, none⟩) hw2).trans hrs; have k5 := (World.frozen?_of_block (a := ⟨w2.heap.size + 1, 0, none⟩) (hB2.block _ hw2)).trans hfr)
            refine wpAnyIn_ready (rs := [10]) (by kernel_rfl) (by simp) (AllReadyIn.cons rfl (fun K hK => ?_) AllReadyIn.nil)
            (go_simp; refine hK _ _ ?_; clear hK K)
            refine wpAnyIn_ready (rs := [11]) (by kernel_rfl) (by simp) (AllReadyIn.cons rfl (fun K hK => ?_) AllReadyIn.nil)
            (go_simp; refine hK _ _ ?_; clear hK K)
            refine wpAnyIn_done (by kernel_rfl) ?_ _
            gi_wp2; exact HGO.out w' hB2
          ·
            (go_simp; refine hK _ _ ?_; clear hK K)
            refine wpAnyIn_ready (rs := [4]) (by kernel_rfl) (by simp) (AllReadyIn.cons rfl (fun K hK => ?_) AllReadyIn.nil)
            (go_simp; refine hK _ _ ?_; clear hK K)
            refine wpAnyIn_ready (rs := [9]) (by kernel_rfl) (by simp) (AllReadyIn.cons rfl (fun K hK => ?_) AllReadyIn.nil)
            go_simp
            gi_wp2_with (refine ⟨trivial, ?_⟩; gi_at_call 41; refine (CallsIn.inRound l (callsIn_wide.2 (hch _))).mono ?_; rintro e w' ⟨rfl, hB1⟩; have hB2 : Below W.heap.size W w' := (Below.refl W.heap.size W).drew.trans hB1; clear hB1; have k1 := (hB2.cell (p := ⟨w2.heap.size, 0, none⟩) hw1).trans hsl; have k2 := (hB2.cell (p := ⟨g, a, none⟩) hgW).trans ca; have k3 := (hB2.cell (p := ⟨g, b, none⟩) hgW).trans cb; have k4 := (hB2.cell (p := ⟨w2.heap.size + 1, 0, none⟩) hw2).trans hrs; have k5 := (World.frozen?_of_block (a := ⟨w2.heap.size + 1, 0, none⟩) (hB2.block _ hw2)).trans hfr)
            refine wpAnyIn_ready (rs := [10]) (by kernel_rfl) (by simp) (AllReadyIn.cons rfl (fun K hK => ?_) AllReadyIn.nil)
            (go_simp; refine hK _ _ ?_; clear hK K)
            refine wpAnyIn_ready (rs := [11]) (by kernel_rfl) (by simp) (AllReadyIn.cons rfl (fun K hK => ?_) AllReadyIn.nil)
            (go_simp; refine hK _ _ ?_; clear hK K)
            refine wpAnyIn_done (by kernel_rfl) ?_ _
            gi_wp2; exact HGO.out w' hB2
        ·
          (go_simp; refine hK _ _ ?_; clear hK K)
          refine wpAnyIn_ready (rs := [0, 8]) (by kernel_rfl) (by simp) (AllReadyIn.cons rfl (fun K hK => ?_) (AllReadyIn.cons rfl (fun K hK => ?_) AllReadyIn.nil))
          ·
            (go_simp; refine hK _ _ ?_; clear hK K)
            refine wpAnyIn_ready (rs := [8]) (by kernel_rfl) (by simp) (AllReadyIn.cons rfl (fun K hK => ?_) AllReadyIn.nil)
            (go_simp; refine hK _ _ ?_; clear hK K)
            refine wpAnyIn_ready (rs := [9]) (by kernel_rfl) (by simp) (AllReadyIn.cons rfl (fun K hK => ?_) AllReadyIn.nil)
            go_simp
            gi_wp2_with (refine ⟨trivial, ?_⟩; gi_at_call 41; refine (CallsIn.inRound l (callsIn_wide.2 (hch _))).mono ?_; rintro e w' ⟨rfl, hB1⟩; have hB2 : Below W.heap.size W w' := (Below.refl W.heap.size W).drew.trans hB1; clear hB1; have k1 := (hB2.cell (p := ⟨w2.heap.size, 0, none⟩) hw1).trans hsl; have k2 := (hB2.cell (p := ⟨g, a, none⟩) hgW).trans ca; have k3 := (hB2.cell (p := ⟨g, b, none⟩) hgW).trans cb; have k4 := (hB2.cell (p := ⟨w2.heap.size + 1, 0, none⟩) hw2).trans hrs; have k5 := (World.frozen?_of_block (a := ⟨w2.heap.size + 1, 0, none⟩) (hB2.block _ hw2)).trans hfr)
            refine wpAnyIn_ready (rs := [10]) (by kernel_rfl) (by simp) (AllReadyIn.cons rfl (fun K hK => ?_) AllReadyIn.nil)
            (go_simp; refine hK _ _ ?_; clear hK K)
            refine wpAnyIn_ready (rs := [11]) (by kernel_rfl) (by simp) (AllReadyIn.cons rfl (fun K hK => ?_) AllReadyIn.nil)
            (go_simp; refine hK _ _ ?_; clear hK K)
            refine wpAnyIn_done (by kernel_rfl) ?_ _
            gi_wp2; exact HGO.out w' hB2
          ·
            (go_simp; refine hK _ _ ?_; clear hK K)
            refine wpAnyIn_ready (rs := [0, 9]) (by kernel_rfl) (by simp) (AllReadyIn.cons rfl (fun K hK => ?_) (AllReadyIn.cons rfl (fun K hK => ?_) AllReadyIn.nil))
            ·
              (go_simp; refine hK _ _ ?_; clear hK K)
              refine wpAnyIn_ready (rs := [9]) (by kernel_rfl) (by simp) (AllReadyIn.cons rfl (fun K hK => ?_) AllReadyIn.nil)
              go_simp
              gi_wp2_with (refine ⟨trivial, ?_⟩; gi_at_call 41; refine (CallsIn.inRound l (callsIn_wide.2 (hch _))).mono ?_; rintro e w' ⟨rfl, hB1⟩; have hB2 : Below W.heap.size W w' := (Below.refl W.heap.size W).drew.trans hB1; clear hB1; have k1 := (hB2.cell (p := ⟨w2.heap.size, 0, none⟩) hw1).trans hsl; have k2 := (hB2.cell (p := ⟨g, a, none⟩) hgW).trans ca; have k3 := (hB2.cell (p := ⟨g, b, none⟩) hgW).trans cb; have k4 := (hB2.cell (p := ⟨w2.heap.size + 1, 0, none⟩) hw2).trans hrs; have k5 := (World.frozen?_of_block (a := ⟨w2.heap.size + 1, 0, none⟩) (hB2.block _ hw2)).trans hfr)
              refine wpAnyIn_ready (rs := [10]) (by kernel_rfl) (by simp) (AllReadyIn.cons rfl (fun K hK => ?_) AllReadyIn.nil)
              (go_simp; refine hK _ _ ?_; clear hK K)
              refine wpAnyIn_ready (rs := [11]) (by kernel_rfl) (by simp) (AllReadyIn.cons rfl (fun K hK => ?_) AllReadyIn.nil)
              (go_simp; refine hK _ _ ?_; clear hK K)
              refine wpAnyIn_done (by kernel_rfl) ?_ _
              gi_wp2; exact HGO.out w' hB2
            ·
              go_simp
              gi_wp2_with (refine ⟨trivial, ?_⟩; gi_at_call 41; refine (CallsIn.inRound l (callsIn_wide.2 (hch _))).mono ?_; rintro e w' ⟨rfl, hB1⟩; have hB2 : Below W.heap.size W w' := (Below.refl W.heap.size W).drew.trans hB1; clear hB1; have k1 := (hB2.cell (p := ⟨w2.heap.size, 0, none⟩) hw1).trans hsl; have k2 := (hB2.cell (p := ⟨g, a, none⟩) hgW).trans ca; have k3 := (hB2.cell (p := ⟨g, b, none⟩) hgW).trans cb; have k4 := (hB2.cell (p := ⟨w2.heap.size + 1, 0, none⟩) hw2).trans hrs; have k5 := (World.frozen?_of_block (a := ⟨w2.heap.size + 1, 0, none⟩) (hB2.block _ hw2)).trans hfr)
              refine wpAnyIn_ready (rs := [0]) (by kernel_rfl) (by simp) (AllReadyIn.cons rfl (fun K hK => ?_) AllReadyIn.nil)
              (go_simp; refine hK _ _ ?_; clear hK K)
              refine wpAnyIn_ready (rs := [10]) (by kernel_rfl) (by simp) (AllReadyIn.cons rfl (fun K hK => ?_) AllReadyIn.nil)
              (go_simp; refine hK _ _ ?_; clear hK K)
              refine wpAnyIn_ready (rs := [11]) (by kernel_rfl) (by simp) (AllReadyIn.cons rfl (fun K hK => ?_) AllReadyIn.nil)
              (go_simp; refine hK _ _ ?_; clear hK K)
              refine wpAnyIn_done (by kernel_rfl) ?_ _
              gi_wp2; exact HGO.out w' hB2
        ·
          (go_simp; refine hK _ _ ?_; clear hK K)
          refine wpAnyIn_ready (rs := [0, 4]) (by kernel_rfl) (by simp) (AllReadyIn.cons rfl (fun K hK => ?_) (AllReadyIn.cons rfl (fun K hK => ?_) AllReadyIn.nil))
          ·
            (go_simp; refine hK _ _ ?_; clear hK K)
            refine wpAnyIn_ready (rs := [4]) (by kernel_rfl) (by simp) (AllReadyIn.cons rfl (fun K hK => ?_) AllReadyIn.nil)
            (go_simp; refine hK _ _ ?_; clear hK K)
            refine wpAnyIn_ready (rs := [9]) (by kernel_rfl) (by simp) (AllReadyIn.cons rfl (fun K hK => ?_) AllReadyIn.nil)
            go_simp
            gi_wp2_with (refine ⟨trivial, ?_⟩; gi_at_call 41; refine (CallsIn.inRound l (callsIn_wide.2 (hch _))).mono ?_; rintro e w' ⟨rfl, hB1⟩; have hB2 : Below W.heap.size W w' := (Below.refl W.heap.size W).drew.trans hB1; clear hB1; have k1 := (hB2.cell (p := ⟨w2.heap.size, 0, none⟩) hw1).trans hsl; have k2 := (hB2.cell (p := ⟨g, a, none⟩) hgW).trans ca; have k3 := (hB2.cell (p := ⟨g, b, none⟩) hgW).trans cb; have k4 := (hB2.cell (p := ⟨w2.heap.size + 1, 0, none⟩) hw2).trans hrs; have k5 := (World.frozen?_of_block (a := ⟨w2.heap.size + 1, 0, none⟩) (hB2.block _ hw2)).trans hfr)
            refine wpAnyIn_ready (rs := [10]) (by kernel_rfl) (by simp) (AllReadyIn.cons rfl (fun K hK => ?_) AllReadyIn.nil)
            (go_simp; refine hK _ _ ?_; clear hK K)
            refine wpAnyIn_ready (rs := [11]) (by kernel_rfl) (by simp) (AllReadyIn.cons rfl (fun K hK => ?_) AllReadyIn.nil)
            (go_simp; refine hK _ _ ?_; clear hK K)
            refine wpAnyIn_done (by kernel_rfl) ?_ _
            gi_wp2; exact HGO.out w' hB2
          ·
            (go_simp; refine hK _ _ ?_; clear hK K)
            refine wpAnyIn_ready (rs := [0, 9]) (by kernel_rfl) (by simp) (AllReadyIn.cons rfl (fun K hK => ?_) (AllReadyIn.cons rfl (fun K hK => ?_) AllReadyIn.nil))
            ·
              (go_simp; refine hK _ _ ?_; clear hK K)
              refine wpAnyIn_ready (rs := [9]) (by kernel_rfl) (by simp) (AllReadyIn.cons rfl (fun K hK => ?_) AllReadyIn.nil)
              go_simp
              gi_wp2_with (refine ⟨trivial, ?_⟩; gi_at_call 41; refine (CallsIn.inRound l (callsIn_wide.2 (hch _))).mono ?_; rintro e w' ⟨rfl, hB1⟩; have hB2 : Below W.heap.size W w' := (Below.refl W.heap.size W).drew.trans hB1; clear hB1; have k1 := (hB2.cell (p := ⟨w2.heap.size, 0, none⟩) hw1).trans hsl; have k2 := (hB2.cell (p := ⟨g, a, none⟩) hgW).trans ca; have k3 := (hB2.cell (p := ⟨g, b, none⟩) hgW).trans cb; have k4 := (hB2.cell (p := ⟨w2.heap.size + 1, 0, none⟩) hw2).trans hrs; have k5 := (World.frozen?_of_block (a := ⟨w2.heap.size + 1, 0, none⟩) (hB2.block _ hw2)).trans hfr)
              refine wpAnyIn_ready (rs := [10]) (by kernel_rfl) (by simp) (AllReadyIn.cons rfl (fun K hK => ?_) AllReadyIn.nil)
              (go_simp; refine hK _ _ ?_; clear hK K)
              refine wpAnyIn_ready (rs := [11]) (by kernel_rfl) (by simp) (AllReadyIn.cons rfl (fun K hK => ?_) AllReadyIn.nil)
              (go_simp; refine hK _ _ ?_; clear hK K)
              refine wpAnyIn_done (by kernel_rfl) ?_ _
              gi_wp2; exact HGO.out w' hB2
            ·
              go_simp
              gi_wp2_with (refine ⟨trivial, ?_⟩; gi_at_call 41; refine (CallsIn.inRound l (callsIn_wide.2 (hch _))).mono ?_; rintro e w' ⟨rfl, hB1⟩; have hB2 : Below W.heap.size W w' := (Below.refl W.heap.size W).drew.trans hB1; clear hB1; have k1 := (hB2.cell (p := ⟨w2.heap.size, 0, none⟩) hw1).trans hsl; have k2 := (hB2.cell (p := ⟨g, a, none⟩) hgW).trans ca; have k3 := (hB2.cell (p := ⟨g, b, none⟩) hgW).trans cb; have k4 := (hB2.cell (p := ⟨w2.heap.size + 1, 0, none⟩) hw2).trans hrs; have k5 := (World.frozen?_of_block (a := ⟨w2.heap.size + 1, 0, none⟩) (hB2.block _ hw2)).trans hfr)
              refine wpAnyIn_ready (rs := [0]) (by kernel_rfl) (by simp) (AllReadyIn.cons rfl (fun K hK => ?_) AllReadyIn.nil)
              (go_simp; refine hK _ _ ?_; clear hK K)
              refine wpAnyIn_ready (rs := [10]) (by kernel_rfl) (by simp) (AllReadyIn.cons rfl (fun K hK => ?_) AllReadyIn.nil)
              (go_simp; refine hK _ _ ?_; clear hK K)
              refine wpAnyIn_ready (rs := [11]) (by kernel_rfl) (by simp) (AllReadyIn.cons rfl (fun K hK => ?_) AllReadyIn.nil)
              (go_simp; refine hK _ _ ?_; clear hK K)
              refine wpAnyIn_done (by kernel_rfl) ?_ _
              gi_wp2; exact HGO.out w' hB2
      ·
        (go_simp; refine hK _ _ ?_; clear hK K)
        refine wpAnyIn_ready (rs := [0, 1]) (by kernel_rfl) (by simp) (AllReadyIn.cons rfl (fun K hK => ?_) (AllReadyIn.cons rfl (fun K hK => ?_) AllReadyIn.nil))
        ·
          (go_simp; refine hK _ _ ?_; clear hK K)
          refine wpAnyIn_ready (rs := [1]) (by kernel_rfl) (by simp) (AllReadyIn.cons rfl (fun K hK => ?_) AllReadyIn.nil)
          (go_simp; refine hK _ _ ?_; clear hK K)
          refine wpAnyIn_take (i := 3) (v := ?_) rfl rfl (by kernel_rfl) (by kernel_rfl) (by kernel_rfl) (fun _ _ _ h => h) ⟨Or.inl ⟨by rfl, ?_⟩, fun _ => rfl⟩ ?_
          rotate_left
          focus (intro w; go_simp; first | done | with_reducible rfl)
          refine wpAnyIn_ready (rs := [4]) (by kernel_rfl) (by simp) (AllReadyIn.cons rfl (fun K hK => ?_) AllReadyIn.nil)
          (go_simp; refine hK _ _ ?_; clear hK K)
          refine wpAnyIn_ready (rs := [9]) (by kernel_rfl) (by simp) (AllReadyIn.cons rfl (fun K hK => ?_) AllReadyIn.nil)
          go_simp
          gi_wp2_with (refine ⟨trivial, ?_⟩; gi_at_call 41; refine (CallsIn.inRound l (callsIn_wide.2 (hch _))).mono ?_; rintro e w' ⟨rfl, hB1⟩; have hB2 : Below W.heap.size W w' := (Below.refl W.heap.size W).drew.trans hB1; clear hB1; have k1 := (hB2.cell (p := ⟨w2.heap.size, 0, none⟩) hw1).trans hsl; have k2 := (hB2.cell (p := ⟨g, a, none⟩) hgW).trans ca; have k3 := (hB2.cell (p := ⟨g, b, none⟩) hgW).trans cb; have k4 := (hB2.cell (p := ⟨w2.heap.size + 1, 0, none⟩) hw2).trans hrs; have k5 := (World.frozen?_of_block (a := ⟨w2.heap.size + 1, 0, none⟩) (hB2.block _ hw2)).trans hfr)
          refine wpAnyIn_ready (rs := [10]) (by kernel_rfl) (by simp) (AllReadyIn.cons rfl (fun K hK => ?_) AllReadyIn.nil)
          (go_simp; refine hK _ _ ?_; clear hK K)
          refine wpAnyIn_ready (rs := [11]) (by kernel_rfl) (by simp) (AllReadyIn.cons rfl (fun K hK => ?_) AllReadyIn.nil)
          (go_simp; refine hK _ _ ?_; clear hK K)
          refine wpAnyIn_done (by kernel_rfl) ?_ _
          gi_wp2; exact HGO.out w' hB2
        ·
          (go_simp; refine hK _ _ ?_; clear hK K)
          refine wpAnyIn_take (i := 3) (v := ?_) rfl rfl (by kernel_rfl) (by kernel_rfl) (by kernel_rfl) (fun _ _ _ h => h) ⟨Or.inl ⟨by rfl, ?_⟩, fun _ => rfl⟩ ?_
          rotate_left
          focus (intro w; go_simp; first | done | with_reducible rfl)
          refine wpAnyIn_ready (rs := [0, 4]) (by kernel_rfl) (by simp) (AllReadyIn.cons rfl (fun K hK => ?_) (AllReadyIn.cons rfl (fun K hK => ?_) AllReadyIn.nil))
          ·
            (go_simp; refine hK _ _ ?_; clear hK K)
            refine wpAnyIn_ready (rs := [4]) (by kernel_rfl) (by simp) (AllReadyIn.cons rfl (fun K hK => ?_) AllReadyIn.nil)
            (go_simp; refine hK _ _ ?_; clear hK K)
            refine wpAnyIn_ready (rs := [9]) (by kernel_rfl) (by simp) (AllReadyIn.cons rfl (fun K hK => ?_) AllReadyIn.nil)
            go_simp
            gi_wp2_with (refine ⟨trivial, ?_⟩; gi_at_call 41; refine (CallsIn.inRound l (callsIn_wide.2 (hch _))).mono ?_; rintro e w' ⟨rfl, hB1⟩; have hB2 : Below W.heap.size W w' := (Below.refl W.heap.size W).drew.trans hB1; clear hB1; have k1 := (hB2.cell (p := ⟨w2.heap.size, 0, none⟩) hw1).trans hsl; have k2 := (hB2.cell (p := ⟨g, a, none⟩) hgW).trans ca; have k3 := (hB2.cell (p := ⟨g, b, none⟩) hgW).trans cb; have k4 := (hB2.cell (p := ⟨w2.heap.size + 1, 0, none⟩) hw2).trans hrs; have k5 := (World.frozen?_of_block (a := ⟨w2.heap.size + 1, 0, none⟩) (hB2.block _ hw2)).trans hfr)
            refine wpAnyIn_ready (rs := [10]) (by kernel_rfl) (by simp) (AllReadyIn.cons rfl (fun K hK => ?_) AllReadyIn.nil)
            (go_simp; refine hK _ _ ?_; clear hK K)
            refine wpAnyIn_ready (rs := [11]) (by kernel_rfl) (by simp) (AllReadyIn.cons rfl (fun K hK => ?_) AllReadyIn.nil)
            (go_simp; refine hK _ _ ?_; clear hK K)
            refine wpAnyIn_done (by kernel_rfl) ?_ _
            gi_wp2; exact HGO.out w' hB2
          ·
            (go_simp; refine hK _ _ ?_; clear hK K)
            refine wpAnyIn_ready (rs := [0, 9]) (by kernel_rfl) (by simp) (AllReadyIn.cons rfl (fun K hK => ?_) (AllReadyIn.cons rfl (fun K hK => ?_) AllReadyIn.nil))
            ·
              (go_simp; refine hK _ _ ?_; clear hK K)
              refine wpAnyIn_ready (rs := [9]) (by kernel_rfl) (by simp) (AllReadyIn.cons rfl (fun K hK => ?_) AllReadyIn.nil)
              go_simp
              gi_wp2_with (refine ⟨trivial, ?_⟩; gi_at_call 41; refine (CallsIn.inRound l (callsIn_wide.2 (hch _))).mono ?_; rintro e w' ⟨rfl, hB1⟩; have hB2 : Below W.heap.size W w' := (Below.refl W.heap.size W).drew.trans hB1; clear hB1; have k1 := (hB2.cell (p := ⟨w2.heap.size, 0, none⟩) hw1).trans hsl; have k2 := (hB2.cell (p := ⟨g, a, none⟩) hgW).trans ca; have k3 := (hB2.cell (p := ⟨g, b, none⟩) hgW).trans cb; have k4 := (hB2.cell (p := ⟨w2.heap.size + 1, 0, none⟩) hw2).trans hrs; have k5 := (World.frozen?_of_block (a := ⟨w2.heap.size + 1, 0, none⟩) (hB2.block _ hw2)).trans hfr)
              refine wpAnyIn_ready (rs := [10]) (by kernel_rfl) (by simp) (AllReadyIn.cons rfl (fun K hK => ?_) AllReadyIn.nil)
              (go_simp; refine hK _ _ ?_; clear hK K)
              refine wpAnyIn_ready (rs := [11]) (by kernel_rfl) (by simp) (AllReadyIn.cons rfl (fun K hK => ?_) AllReadyIn.nil)
              (go_simp; refine hK _ _ ?_; clear hK K)
              refine wpAnyIn_done (by kernel_rfl) ?_ _
              gi_wp2; exact HGO.out w' hB2
            ·
              go_simp
              gi_wp2_with (refine ⟨trivial, ?_⟩; gi_at_call 41; refine (CallsIn.inRound l (callsIn_wide.2 (hch _))).mono ?_; rintro e w' ⟨rfl, hB1⟩; have hB2 : Below W.heap.size W w' := (Below.refl W.heap.size W).drew.trans hB1; clear hB1; have k1 := (hB2.cell (p := ⟨w2.heap.size, 0, none⟩) hw1).trans hsl; have k2 := (hB2.cell (p := ⟨g, a, none⟩) hgW).trans ca; have k3 := (hB2.cell (p := ⟨g, b, none⟩) hgW).trans cb; have k4 := (hB2.cell (p := ⟨w2.heap.size + 1, 0, none⟩) hw2).trans hrs; have k5 := (World.frozen?_of_block (a := ⟨w2.heap.size + 1, 0, none⟩) (hB2.block _ hw2)).trans hfr)
              refine wpAnyIn_ready (rs := [0]) (by kernel_rfl) (by simp) (AllReadyIn.cons rfl (fun K hK => ?_) AllReadyIn.nil)
              (go_simp; refine hK _ _ ?_; clear hK K)
              refine wpAnyIn_ready (rs := [10]) (by kernel_rfl) (by simp) (AllReadyIn.cons rfl (fun K hK => ?_) AllReadyIn.nil)
              (go_simp; refine hK _ _ ?_; clear hK K)
              refine wpAnyIn_ready (rs := [11]) (by kernel_rfl) (by simp) (AllReadyIn.cons rfl (fun K hK => ?_) AllReadyIn.nil)
              (go_simp; refine hK _ _ ?_; clear hK K)
              refine wpAnyIn_done (by kernel_rfl) ?_ _
              gi_wp2; exact HGO.out w' hB2
  case done =>
    rintro D ys W hD hys ⟨⟨_, hcr, hfr⟩, hBW⟩ hK
    have hr : res = leastOf L m (ys.map (·.1)) := by
      rw [HRES.out, hys]
    rw [← hr] at hcr
    have HB2 := Lib.hid hBW
    clear hys hr hBW
    gi_wp2
    refine ⟨by simp, .inl ⟨_, _, rfl, run_takeDeferred hK, ?_⟩⟩
    refine ⟨_, results_tmp3 rfl _ _ _, rfl, ?_⟩
    exact (HB.out.trans (HB2.out.mono HB.out.size)).trans (belowK_b (w := w) (Nat.le_refl _) W D _ _ (by have := HB.out.size; omega) hK rfl rfl)
  case stop =>
    rintro D c pre W _ _ h _
    exact h.elim
end Go.Proofs.YtlkdpgjbbbaiiaaDoor
