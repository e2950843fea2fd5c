/- Package flash: words that are cloned, memoryOf. -/
import Derived.Test.YtfoocnhfppjbbaaGreatDoorM7
import Derived.Test.YtfoocnhfppjbbaaGreatDoorShelf
import Derived.BigRegion
namespace Go.Proofs.YtfoocnhfppjbbaaGreatDoor
open Go.RowKit

theorem words_of_owns {w : World} {B n : Nat} {v : Value} {L : List Int} (h0 : 0 < n) (hn : n = L.length) (h : w.ownsRow B 3 1 v n (L.map (Value.int .i64))) : WordsAt B w v L := by
  obtain ⟨hl, h⟩ := h
  rcases h with ⟨_, h⟩ | ⟨g, cap, cur, hv, hg, hh, hnc, hcm, hcs, ht⟩
  · omega
  · subst hn
    refine ⟨g, cap, hv, hnc, hg, ?_, fun j hj => ⟨by simp [World.frozen?, hh], ?_⟩⟩
    · by_cases e : g < w.heap.size
      · exact e
      · rw [Array.getElem?_eq_none (by omega)] at hh
        cases hh
    · have hj2 : j < cur.size := by omega
      have h1 : (cur.toList.take (L.length * 1))[j]? = some (.int .i64 (L.getD j 0)) := by
        rw [ht, List.getElem?_map, List.getD_eq_getElem?_getD, List.getElem?_eq_getElem hj]
        rfl
      rw [List.getElem?_take_of_lt (by omega)] at h1
      have h2 : cur[j]? = some (.int .i64 (L.getD j 0)) := by simpa using h1
      unfold World.cell?
      simp only [hh]
      simp [h2]
theorem WordsAt.nums {B : Nat} {w : World} {v : Value} {L : List Int} (h : WordsAt B w v L) : NumsAt w v L := by
  obtain ⟨g, c, h1, h2, h3, h4, h5⟩ := h
  exact ⟨_, _, h1, h2, fun _ => ⟨g, 0, rfl, h4, fun j hj => by rw [Nat.zero_add]; exact (h5 j hj).2⟩⟩
theorem WordsAt.cells {B : Nat} {w : World} {g n c : Nat} {L : List Int} (h : WordsAt B w (.slice (some ⟨g, 0, none⟩) n c) L) : n = L.length ∧ n ≤ c ∧ B ≤ g ∧ g < w.heap.size ∧ ∀ j, j < n → w.frozen? ⟨g, j, none⟩ = false ∧ w.cell? ⟨g, j, none⟩ = some (.int .i64 (L.getD j 0)) := by
  obtain ⟨g', c', h1, h2, h3, h4, h5⟩ := h
  cases h1
  exact ⟨rfl, h2, h3, h4, h5⟩
theorem WordsAt.mono {B B' : Nat} {w : World} {v : Value} {L : List Int} (h : WordsAt B w v L) (hB : B' ≤ B) : WordsAt B' w v L := by
  obtain ⟨g, c, h1, h2, h3, h4, h5⟩ := h
  exact ⟨g, c, h1, h2, Nat.le_trans hB h3, h4, h5⟩
theorem WordsAt.far {B : Nat} {w : World} {v : Value} {L : List Int} (h : WordsAt B w v L) {p : Addr} (hp : p.block < B) (z : Value) : WordsAt B (w.setCell p z) v L := by
  obtain ⟨g, c, h1, h2, h3, h4, h5⟩ := h
  refine ⟨g, c, h1, h2, h3, by simpa using h4, fun j hj => ⟨(World.frozen?_setCell _ _ _ _).trans (h5 j hj).1, (World.cell?_setCell_other _ _ _ _ (fun hh => ?_)).trans (h5 j hj).2⟩⟩
  rw [hh] at hp
  exact absurd hp (Nat.not_lt.2 h3)
theorem SpansAt.far {B : Nat} {w : World} {v : Value} {S : List Int} (h : SpansAt w v S) (ha : Ahead B v) {p : Addr} (hp : p.block < B) (z : Value) : SpansAt (w.setCell p z) v S := by
  obtain ⟨a, c, h1, h2, h3⟩ := h
  refine ⟨a, c, h1, h2, fun h0 => ?_⟩
  obtain ⟨g, o, h4, h5, h6⟩ := h3 h0
  subst h4
  have hb := ha _ _ _ h1
  refine ⟨g, o, rfl, by simpa using h5, fun j hj => ⟨(World.cell?_setCell_other _ _ _ _ (fun hh => ?_)).trans (h6 j hj).1, (World.cell?_setCell_other _ _ _ _ (fun hh => ?_)).trans (h6 j hj).2⟩⟩
  · rw [hh] at hp
    exact absurd hp (Nat.not_lt.2 hb)
  · rw [hh] at hp
    exact absurd hp (Nat.not_lt.2 hb)
/-- A slice that has a block has one below the base. -/
def Behind (B : Nat) (x : Value) : Prop := ∀ a n c, x = .slice (some a) n c → a.block < B
theorem SpansAt.keeps {g : Nat} {w w' : World} {v : Value} {S : List Int} (h : SpansAt w v S) (hg : Behind g v) (hk : Keeps g w w') : SpansAt w' v S := by
  obtain ⟨a, c, h1, h2, h3⟩ := h
  refine ⟨a, c, h1, h2, fun h0 => ?_⟩
  obtain ⟨b, o, h4, h5, h6⟩ := h3 h0
  subst h4
  have hb : b < g := hg _ _ _ h1
  exact ⟨b, o, rfl, Nat.lt_of_lt_of_le h5 hk.1, fun j hj => ⟨(hk.cell (p := ⟨b, o + j * 2, none⟩) (by show b ≠ g; omega) h5).trans (h6 j hj).1, (hk.cell (p := ⟨b, o + j * 2 + 1, none⟩) (by show b ≠ g; omega) h5).trans (h6 j hj).2⟩⟩
theorem SpansAt.behind {w : World} {v : Value} {S : List Int} (h : SpansAt w v S) (h0 : 0 < S.length) : Behind w.heap.size v := by
  obtain ⟨a, c, h1, h2, h3⟩ := h
  obtain ⟨b, o, h4, h5, h6⟩ := h3 h0
  intro a' n' c' hh
  rw [h1, h4] at hh
  injection hh with x1 x2 x3
  injection x1 with x1
  rw [← x1]
  exact h5
theorem cloneWords_any (L : List Int) (h0 : 0 < L.length) (hz : L.length ≤ 1000000) (w : World) (v : Value) (h : NumsAt w v L) :
    Calls Tryz.prog 54 #[v] w fun e w' => ∃ v', e = .returned v' ∧ WordsAt w.heap.size w' v' L ∧ Below w.heap.size w w' := by
  obtain ⟨a, c, rfl, hc, hop⟩ := h
  obtain ⟨g, o, rfl, hg, hcell⟩ := hop h0
  refine (Tryz.slices_Clone_int g o L.length c L w (Nat.le_refl _) (by omega) hcell).mono ?_
  rintro e w' ⟨v', rfl, hown, -, hB⟩
  rw [List.take_length] at hown
  exact ⟨v', rfl, words_of_owns h0 rfl hown, hB⟩
set_option maxHeartbeats 400000 in
set_option maxRecDepth 100000 in
theorem memoryOf_any (S L : List Int) (hS : FlashRight S) (h0 : 0 < L.length) (hz : L.length ≤ 1000000) (w : World) (v u : Value) (h : NumsAt w v S) (hL : NumsAt w u L) :
    Calls Tryz.prog 32 #[.agg #[v], u] w fun e w' => ∃ x y M, e = .returned (.agg #[x, y]) ∧ w.heap.size ≤ M ∧ M ≤ w'.heap.size ∧ SpansAt w' x S ∧ Ahead w.heap.size x ∧ Behind M x ∧ WordsAt M w' y L ∧ Below w.heap.size w w' := by
  have hsp := fun W hB => spansOf_any S hS W v (h.later hB)
  have hcl := fun W hB => cloneWords_any L h0 hz W u (hL.later hB)
  obtain ⟨W1, hW1⟩ : ∃ W1 : World, W1 = (w.alloc (.cells #[v] 27)).alloc (.cells #[.slice none 0 0, .slice none 0 0] 74) := ⟨_, rfl⟩
  have hB1 : Below w.heap.size w W1 := by rw [hW1]; exact ((Below.refl _ _).alloc (Nat.le_refl _) _).alloc (by simp) _
  have hs1 : W1.heap.size = w.heap.size + 2 := by rw [hW1]; simp
  have hsp1 := hsp W1 hB1
  have HW := Lib.hid hW1
  have HB1 := Lib.hid hB1
  have HS1 := Lib.hid hs1
  have HC := Lib.hid hcl
  have c0 : W1.cell? ⟨w.heap.size + 1, 0, none⟩ = some (.slice none 0 0) := by rw [hW1]; simp
  have c1 : W1.cell? ⟨w.heap.size + 1, 1, none⟩ = some (.slice none 0 0) := by rw [hW1]; simp
  have f1 : W1.frozen? ⟨w.heap.size + 1, 0, none⟩ = false := by rw [hW1]; simp
  have f2 : W1.frozen? ⟨w.heap.size + 1, 1, none⟩ = false := by rw [hW1]; simp
  have hl : w.heap.size + 1 < W1.heap.size := by omega
  obtain ⟨a, c, rfl, -, -⟩ := h
  obtain ⟨a2, c2, rfl, -, -⟩ := hL
  clear hsp hcl hW1 hB1 hs1
  go_enter Tryz.func32, Tryz.ntmps32
  go_wp2_with fail
  rw [← HW.out]
  refine hsp1.mono ?_
  rintro e w2 ⟨x, rfl, hx, hxa, hB2⟩
  have hq := HC.out w2 (HB1.out.trans (hB2.mono HB1.out.size))
  have d0 := (hB2.cell (p := ⟨w.heap.size + 1, 0, none⟩) hl).trans c0
  have d1 := (hB2.cell (p := ⟨w.heap.size + 1, 1, none⟩) hl).trans c1
  have e1 := (hB2.frozen (p := ⟨w.heap.size + 1, 0, none⟩) hl).trans f1
  have e2 := (hB2.frozen (p := ⟨w.heap.size + 1, 1, none⟩) hl).trans f2
  have hl2 : w.heap.size + 1 < w2.heap.size := Nat.lt_of_lt_of_le hl hB2.size
  obtain ⟨ax, cx, rfl, -, -⟩ := id hx
  have HX := Lib.hid (⟨hx, hxa, hB2⟩ : _ ∧ _ ∧ _)
  clear hsp1 hx hxa hB2 c0 c1 f1 f2
  go_wp2_with fail
  refine hq.mono ?_
  rintro e w3 ⟨y, rfl, hy, hB3⟩
  have d0 := (hB3.cell (p := ⟨w.heap.size + 1, 0, none⟩) hl2).trans d0
  have d1 := (hB3.cell (p := ⟨w.heap.size + 1, 1, none⟩) hl2).trans d1
  have e1 := (hB3.frozen (p := ⟨w.heap.size + 1, 0, none⟩) hl2).trans e1
  have e2 := (hB3.frozen (p := ⟨w.heap.size + 1, 1, none⟩) hl2).trans e2
  obtain ⟨gy, cy, rfl, -, -, -, -⟩ := id hy
  have HY := Lib.hid (⟨hy, hB3⟩ : _ ∧ _)
  clear hq hy hB3
  go_wp2_with fail
  have hE : ∃ wE, wE = (w3.setCell ⟨w.heap.size + 1, 0, none⟩ (.slice ax S.length cx)).setCell ⟨w.heap.size + 1, 1, none⟩ (.slice (some ⟨gy, 0, none⟩) L.length cy) := ⟨_, rfl⟩
  obtain ⟨wE, hwE⟩ := hE
  have k0 : wE.cell? ⟨w.heap.size + 1, 0, none⟩ = some (.slice ax S.length cx) := by
    rw [hwE, World.cell?_setCell_other _ _ _ _ (by simp)]
    exact World.cell?_setCell_same _ _ _ d0
  have k1 : wE.cell? ⟨w.heap.size + 1, 1, none⟩ = some (.slice (some ⟨gy, 0, none⟩) L.length cy) := by
    rw [hwE]
    exact World.cell?_setCell_same _ _ _ ((World.cell?_setCell_other _ _ _ _ (by simp)).trans d1)
  rw [← hwE]
  refine bodyPost_ret (v := .agg #[.slice ax S.length cx, .slice (some ⟨gy, 0, none⟩) L.length cy]) (by simp [results, Tryz.results32, go_sem, k0, k1]) rfl ⟨_, _, w2.heap.size, rfl, ?_⟩
  obtain ⟨hx, hxa, hB2⟩ := HX.out
  obtain ⟨hy, hB3⟩ := HY.out
  have hs1 := HS1.out
  have hs2 := hB2.size
  have hxa1 := hxa
  rw [hwE]
  have hs3 := hB3.size
  have hS0 := hS.l1
  refine ⟨by omega, by simpa using hs3, ((hx.later hB3).far (B := W1.heap.size) hxa (show w.heap.size + 1 < _ by omega) _).far hxa (show w.heap.size + 1 < _ by omega) _, fun a' n' c' hh => Nat.le_trans (by omega) (hxa a' n' c' hh), hx.behind (by omega), ((hy.far (show w.heap.size + 1 < _ by omega) _).far (show w.heap.size + 1 < _ by omega) _), ?_⟩
  exact ((HB1.out.trans ((hB2.trans (hB3.mono hB2.size)).mono HB1.out.size)).setCell (by show w.heap.size ≤ w.heap.size + 1; omega) _).setCell (by show w.heap.size ≤ w.heap.size + 1; omega) _
end Go.Proofs.YtfoocnhfppjbbaaGreatDoor
/- The reference's erased. -/
namespace Go.Proofs.YtfoocnhfppjbbaaGreatDoor
open Go.RowKit

theorem onesTo_le (W : List Int) (p q : Int) (h : q ≤ p) : onesTo W p q = W := by
  apply List.ext_getElem
  · exact onesTo_len W p q
  · intro i h1 h2
    simp only [onesTo, List.getElem_map, List.getElem_range]
    rw [if_neg (by omega)]
    simp [h2]
/-- Words of which those of a sector are erased up to an address. -/
def partTo (W : List Int) (p q : Int) (j : Nat) : List Int := onesTo W p (min q (j : Int))
theorem partTo_len (W : List Int) (p q : Int) (j : Nat) : (partTo W p q j).length = W.length := onesTo_len _ _ _
theorem partTo_zero (W : List Int) (p q : Int) (hp : 0 ≤ p) : partTo W p q 0 = W := onesTo_le _ _ _ (by omega)
theorem partTo_all (W : List Int) (p q : Int) (j : Nat) (h : q ≤ (j : Int)) : partTo W p q j = onesTo W p q := by
  unfold partTo
  rw [show min q (j : Int) = q by omega]
theorem partTo_in (W : List Int) (p q : Int) (j : Nat) (h1 : p ≤ (j : Int)) (h2 : (j : Int) < q) : (partTo W p q j).set j 65535 = partTo W p q (j + 1) := by
  unfold partTo
  rw [show min q (j : Int) = (j : Int) by omega, show min q ((j + 1 : Nat) : Int) = (j : Int) + 1 by omega]
  exact onesTo_set W p j h1
theorem partTo_out (W : List Int) (p q : Int) (j : Nat) (h : ¬ (p ≤ (j : Int) ∧ (j : Int) < q)) : partTo W p q (j + 1) = partTo W p q j := by
  unfold partTo
  by_cases h1 : q ≤ (j : Int)
  · rw [show min q (j : Int) = q by omega, show min q ((j + 1 : Nat) : Int) = q by omega]
  · rw [onesTo_le W p _ (by omega), onesTo_le W p _ (by omega)]
theorem secAt_there {S : List Int} {j : Nat} (hj : (j : Int) < sumS S) : ∃ k, k < S.length ∧ preS S k ≤ (j : Int) ∧ (j : Int) < preS S (k + 1) := by
  obtain ⟨k, h1, h2⟩ := secAt_has (S := S) (j : Int) (by omega) S.length (Nat.le_refl _) hj
  exact ⟨k, h1, h2⟩
theorem preS_apart {S : List Int} (hS : FlashRight S) {a b : Nat} (ha : a < S.length) (hb : b < S.length) {x : Int} (h1 : preS S a ≤ x) (h2 : x < preS S (a + 1)) (h3 : preS S b ≤ x) (h4 : x < preS S (b + 1)) : a = b := by
  have e1 := secAt_is hS ha h1 h2
  have e2 := secAt_is hS hb h3 h4
  rw [e1] at e2
  injection e2
end Go.Proofs.YtfoocnhfppjbbaaGreatDoor
/- The reference's AppliedTo. -/
namespace Go.Proofs.YtfoocnhfppjbbaaGreatDoor
open Go.RowKit

theorem opsFirst_all (x y : Int) : ∀ (O : List Opn), opsFirst x y O = 0 → ∀ k, k < O.length → opErr x y (O.getD k (0, 0, 0)) = 0
  | [], _, k, hk => by simp at hk
  | o :: O, h, k, hk => by
    have h1 : opsFirst x y (o :: O) = if opErr x y o = 0 then opsFirst x y O else opErr x y o := rfl
    rw [h1] at h
    by_cases h0 : opErr x y o = 0
    · rw [if_pos h0] at h
      cases k with
      | zero => exact h0
      | succ k => exact opsFirst_all x y O h k (by simpa using hk)
    · rw [if_neg h0] at h
      exact absurd h h0
theorem opsErr_ok {S : List Int} {O : List Opn} (h : opsErr S O = 0) : O.length ≤ 50000 ∧ ∀ k, k < O.length → opErr (S.length : Int) (sumS S) (O.getD k (0, 0, 0)) = 0 := by
  unfold opsErr at h
  split at h
  · cases h
  · exact ⟨by omega, opsFirst_all _ _ O h⟩
theorem doOps_take (S W : List Int) (O : List Opn) (k : Nat) (hk : k < O.length) : doOps S W (O.take (k + 1)) = doOp S (doOps S W (O.take k)) (O.getD k (0, 0, 0)) := by
  have e : O.getD k (0, 0, 0) = O[k] := by simp [hk]
  unfold doOps
  rw [List.take_succ_eq_append_getElem hk, List.foldl_append, e]
  rfl
theorem doOps_len (S : List Int) : ∀ (O : List Opn) (W : List Int), (doOps S W O).length = W.length
  | [], _ => rfl
  | o :: O, W => by
    show (doOps S (doOp S W o) O).length = W.length
    rw [doOps_len S O, doOp_len]
theorem doOps_ok (S : List Int) : ∀ (O : List Opn) (W : List Int), WordsOk W → WordsOk (doOps S W O)
  | [], _, h => h
  | o :: O, W, h => doOps_ok S O (doOp S W o) (doOp_ok S W o h)
end Go.Proofs.YtfoocnhfppjbbaaGreatDoor
