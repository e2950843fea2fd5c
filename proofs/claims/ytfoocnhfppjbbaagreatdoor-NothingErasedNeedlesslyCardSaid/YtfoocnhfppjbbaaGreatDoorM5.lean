/- Package flash: the sector of an address. -/
import Derived.Test.YtfoocnhfppjbbaaGreatDoorMcF
namespace Go.Proofs.YtfoocnhfppjbbaaGreatDoor
open Go.RowKit

/-- The slice value reads as the spans of these sectors. -/
def SpansAt (w : World) (v : Value) (S : List Int) : Prop :=
  ∃ a c, v = .slice a S.length c ∧ S.length ≤ c ∧ (0 < S.length → ∃ g o, a = some ⟨g, o, none⟩ ∧ g < w.heap.size ∧ ∀ j, j < S.length → w.cell? ⟨g, o + j * 2, none⟩ = some (.int .i64 (preS S j)) ∧ w.cell? ⟨g, o + j * 2 + 1, none⟩ = some (.int .i64 (preS S (j + 1))))
theorem SpansAt.later {w w' : World} {v : Value} {S : List Int} (h : SpansAt w v S) (hB : Below w.heap.size w w') : SpansAt w' v S := by
  obtain ⟨a, c, h1, h2, h3⟩ := h
  refine ⟨a, c, h1, h2, fun h0 => ?_⟩
  obtain ⟨g, o, h4, h5, h6⟩ := h3 h0
  exact ⟨g, o, h4, Nat.lt_of_lt_of_le h5 hB.size, fun j hj => ⟨(hB.cell (p := ⟨g, o + j * 2, none⟩) h5).trans (h6 j hj).1, (hB.cell (p := ⟨g, o + j * 2 + 1, none⟩) h5).trans (h6 j hj).2⟩⟩
/-- The sector of an address, -1: none. -/
def secI (S : List Int) (a : Int) : Int := match secAt S a with | some k => (k : Int) | none => -1
def isAt (S : List Int) (a : Int) (k : Nat) : Bool := decide (preS S k ≤ a) && decide (a < preS S (k + 1))
theorem secI_is {S : List Int} (hS : FlashRight S) {a : Int} {k : Nat} (hk : k < S.length) (h : isAt S a k = true) : secI S a = (k : Int) := by
  unfold isAt at h
  simp at h
  unfold secI
  rw [secAt_is hS hk h.1 h.2]
theorem secI_no {S : List Int} {a : Int} (h : ∀ j, j < S.length → isAt S a j = false) : secI S a = -1 := by
  unfold secI
  cases h1 : secAt S a with
  | none => rfl
  | some k =>
    obtain ⟨e1, e2, e3⟩ := secAt_some h1
    have h2 := h k e1
    unfold isAt at h2
    simp at h2
    omega
set_option maxRecDepth 100000 in
theorem sectorAt1_any (p q x : Int) (b : Nat) (w : World) (h : w.cell? ⟨b, 0, none⟩ = some (.int .i64 x)) :
    Calls Tryz.prog 88 #[.agg #[.int .i64 p, .int .i64 q], .pointer (some ⟨b, 0, none⟩)] w fun e w' => e = .returned (.bool (decide (p ≤ x) && decide (x < q))) ∧ Below w.heap.size w w' := by
  have hbl : b < w.heap.size := World.block_lt_of_cell? w ⟨b, 0, none⟩ h
  have hB1 : Below w.heap.size w (w.alloc (.cells #[.int .i64 p, .int .i64 q] 78)) := (Below.refl _ _).alloc (Nat.le_refl _) _
  have HB := Lib.hid hB1
  clear hB1
  by_cases d1 : p ≤ x
  · rw [decide_eq_true d1, Bool.true_and]
    go_enter Tryz.func88, Tryz.ntmps88
    go_wp2_with fail
    go_ret
    exact ⟨rfl, HB.out⟩
  · rw [decide_eq_false d1, Bool.false_and]
    go_enter Tryz.func88, Tryz.ntmps88
    go_wp2_with fail
    go_ret
    exact ⟨rfl, HB.out⟩
set_option maxHeartbeats 800000 in
set_option maxRecDepth 100000 in
theorem indexWin_any (S : List Int) (hS : FlashRight S) (x : Int) (b : Nat) (w : World) (h : w.cell? ⟨b, 0, none⟩ = some (.int .i64 x)) (v : Value) (hv : SpansAt w v S) :
    Calls Tryz.prog 87 #[v, .func (.func 88) #[] #[.pointer (some ⟨b, 0, none⟩)]] w fun e w' => e = .returned (.int .i64 (secI S x)) ∧ Below w.heap.size w w' := by
  obtain ⟨a, c, rfl, -, hop⟩ := hv
  have hbl : b < w.heap.size := World.block_lt_of_cell? w ⟨b, 0, none⟩ h
  have hn20 := hS.l2
  obtain ⟨n, hn⟩ : ∃ n, n = S.length := ⟨_, rfl⟩
  rw [← hn] at hop hn20 ⊢
  have HC := Lib.hid (⟨hop, hn, h, hS⟩ : _ ∧ _ ∧ _ ∧ _)
  clear hop hn h hS
  go_enter Tryz.func87, Tryz.ntmps87
  go_wp2_with fail
  go_loopw [8] (fun i wr => ∃ (k : Nat), k ≤ n ∧ i = .int .i64 (k : Int) ∧ (∀ j, j < k → isAt S x j = false) ∧ Below w.heap.size w wr) (fun i _ => n - (intOf i).toNat)
  case atStart => exact ⟨0, by omega, rfl, fun j hj => by omega, Below.refl _ _⟩
  case round =>
    obtain ⟨k, hk, rfl, hW, hB⟩ := hrel
    by_cases hlt : k < n
    · obtain ⟨g, o, rfl, hg, hcell⟩ := HC.out.1 (by omega)
      obtain ⟨d1, d2⟩ := hcell k hlt
      have hc1 := (hB.cell (p := ⟨g, o + k * 2, none⟩) hg).trans d1
      have hc2 := (hB.cell (p := ⟨g, o + k * 2 + 1, none⟩) hg).trans d2
      have hq := fun p q => sectorAt1_any p q x b wr ((hB.cell (p := ⟨b, 0, none⟩) hbl).trans HC.out.2.2.1)
      have hq := hq (preS S k) (preS S (k + 1))
      rw [show (decide (preS S k ≤ x) && decide (x < preS S (k + 1))) = isAt S x k from rfl] at hq
      obtain ⟨p, hp⟩ : ∃ p, p = preS S k := ⟨_, rfl⟩
      obtain ⟨q, hq0⟩ : ∃ q, q = preS S (k + 1) := ⟨_, rfl⟩
      rw [← hp] at hc1 hq
      rw [← hq0] at hc2 hq
      have k0 : (0 : Int) ≤ (k : Int) := by omega
      have k1 : (k : Int) < (n : Int) := by omega
      cases hq2 : isAt S x k with
      | false =>
        rw [hq2] at hq
        have hW2 : ∀ j, j < k + 1 → isAt S x j = false := fun j hj => by
          by_cases e : j = k
          · rw [e]; exact hq2
          · exact hW j (by omega)
        have HB := Lib.hid (⟨hB, hW2⟩ : _ ∧ _)
        clear hB hcell d1 d2 hp hq0 hW hq2 hW2
        go_wp2_with fail
        refine hq.mono ?_
        rintro e w' ⟨rfl, hB2⟩
        have HB2 := Lib.hid (HB.out.1.trans (hB2.mono HB.out.1.size))
        clear hq hB2
        go_wp2_with fail
        go_roundw
        case rel => exact ⟨k + 1, by omega, by go_num, HB.out.2, HB2.out⟩
        case measure => simp [intOf]; omega
      | true =>
        rw [hq2] at hq
        have he := secI_is HC.out.2.2.2 (by rw [← HC.out.2.1]; exact hlt) hq2
        have HB := Lib.hid (⟨hB, he⟩ : _ ∧ _)
        clear hB hcell d1 d2 hp hq0 hW hq2 he
        go_wp2_with fail
        refine hq.mono ?_
        rintro e w' ⟨rfl, hB2⟩
        have HB2 := Lib.hid (HB.out.1.trans (hB2.mono HB.out.1.size))
        clear hq hB2
        go_wp2_with fail
        go_ret
        exact ⟨by rw [HB.out.2]; rfl, HB2.out⟩
    · obtain rfl : k = n := by omega
      have he : secI S x = -1 := secI_no (by rw [← HC.out.2.1]; exact hW)
      have HB := Lib.hid (⟨hB, he⟩ : _ ∧ _)
      clear hB hW he
      go_wp2_with fail
      go_ret
      exact ⟨by rw [HB.out.2]; rfl, HB.out.1⟩
set_option maxHeartbeats 800000 in
set_option maxRecDepth 100000 in
theorem sectorAt_any (S : List Int) (hS : FlashRight S) (x : Int) (w : World) (v : Value) (hv : SpansAt w v S) :
    Calls Tryz.prog 77 #[v, .int .i64 x] w fun e w' => e = .returned (.tuple #[.int .i64 (secI S x), .bool (decide (0 ≤ secI S x))]) ∧ Below w.heap.size w w' := by
  have hB1 : Below w.heap.size w (w.alloc (.cells #[.int .i64 x] 3)) := (Below.refl _ _).alloc (Nat.le_refl _) _
  have hq := indexWin_any S hS x w.heap.size (w.alloc (.cells #[.int .i64 x] 3)) (cell_new1 w _ _ rfl) v (hv.later hB1)
  obtain ⟨a, c, rfl, -, -⟩ := hv
  obtain ⟨n, hn⟩ : ∃ n, n = S.length := ⟨_, rfl⟩
  obtain ⟨r, hr⟩ : ∃ r, r = secI S x := ⟨_, rfl⟩
  rw [← hn, ← hr] at hq
  rw [← hn, ← hr]
  have HB := Lib.hid hB1
  clear hB1 hn hr hS
  go_enter Tryz.func77, Tryz.ntmps77
  go_wp2_with fail
  refine hq.mono ?_
  rintro e w' ⟨rfl, hB2⟩
  have HB2 := Lib.hid (HB.out.trans (hB2.mono HB.out.size))
  clear hq hB2
  go_wp2_with fail
  go_ret2
  exact ⟨rfl, HB2.out⟩
end Go.Proofs.YtfoocnhfppjbbaaGreatDoor
/- cmp.Or; a memory's words: program. -/
namespace Go.Proofs.YtfoocnhfppjbbaaGreatDoor
open Go.RowKit

set_option maxHeartbeats 2000000 in
/-- cmp.Or of two errors: the first one that is none of 0. -/
theorem cmpOr_any (x y : Int) (b : Nat) (w : World) (h0 : w.cell? ⟨b, 0, none⟩ = some (.int .i64 x)) (h1 : w.cell? ⟨b, 1, none⟩ = some (.int .i64 y)) :
    Calls Tryz.prog 30 #[.slice (some ⟨b, 0, none⟩) 2 2] w fun e w' => e = .returned (.int .i64 (if x = 0 then y else x)) ∧ w = w' := by
  by_cases hx : x = 0
  · rw [if_pos hx]
    subst hx
    by_cases hy : y = 0
    · subst hy
      go_enter Tryz.func30, Tryz.ntmps30
      go_wp2_with fail
      go_loop [8] (fun x => ∃ k : Nat, k ≤ 2 ∧ x = .int .i64 (k : Int)) (fun x => 2 - (intOf x).toNat)
      case atStart => exact ⟨0, by omega, rfl⟩
      case round =>
        obtain ⟨k, hk, rfl⟩ := hrel
        by_cases e : k = 2
        · subst e
          go_wp2_with fail
          go_ret
          exact ⟨rfl, rfl⟩
        · have e2 : k = 0 ∨ k = 1 := by omega
          rcases e2 with rfl | rfl
          · go_wp2_with fail
            go_round
            case rel => exact ⟨1, by omega, rfl⟩
            case measure => simp [intOf]
          · go_wp2_with fail
            go_round
            case rel => exact ⟨2, by omega, rfl⟩
            case measure => simp [intOf]
    · have hy1 : (y != 0) = true := by simpa using hy
      go_enter Tryz.func30, Tryz.ntmps30
      go_wp2_with fail
      go_loop [8] (fun x => ∃ k : Nat, k ≤ 1 ∧ x = .int .i64 (k : Int)) (fun x => 2 - (intOf x).toNat)
      case atStart => exact ⟨0, by omega, rfl⟩
      case round =>
        obtain ⟨k, hk, rfl⟩ := hrel
        have e2 : k = 0 ∨ k = 1 := by omega
        rcases e2 with rfl | rfl
        · go_wp2_with fail
          go_round
          case rel => exact ⟨1, by omega, rfl⟩
          case measure => simp [intOf]
        · go_wp2_with fail
          go_ret
          exact ⟨rfl, rfl⟩
  · rw [if_neg hx]
    have hx1 : (x != 0) = true := by simpa using hx
    go_enter Tryz.func30, Tryz.ntmps30
    go_wp2_with fail
    go_loop [8] (fun x => x = .int .i64 0) (fun _ => 0)
    case atStart => rfl
    case round =>
      subst hrel
      go_wp2_with fail
      go_ret
      exact ⟨rfl, rfl⟩
/-- The slice value owns these words: a block of its own, at or above the base. -/
def WordsAt (B : Nat) (w : World) (v : Value) (W : List Int) : Prop :=
  ∃ g c, v = .slice (some ⟨g, 0, none⟩) W.length c ∧ W.length ≤ c ∧ B ≤ g ∧ g < w.heap.size ∧ ∀ j, j < W.length → w.frozen? ⟨g, j, none⟩ = false ∧ w.cell? ⟨g, j, none⟩ = some (.int .i64 (W.getD j 0))
theorem and_nats (a b : Nat) (ha : a < 4294967296) (hb : b < 4294967296) : bits .and .i64 (a : Int) (b : Int) = ((a &&& b : Nat) : Int) := by
  have hab : a &&& b < 2 ^ 32 := Nat.and_lt_two_pow _ (by omega)
  have h1 : (BitVec.ofInt 64 (a : Int)).toNat = a := by
    rw [BitVec.ofInt_natCast, BitVec.toNat_ofNat]; exact Nat.mod_eq_of_lt (by omega)
  have h2 : (BitVec.ofInt 64 (b : Int)).toNat = b := by
    rw [BitVec.ofInt_natCast, BitVec.toNat_ofNat]; exact Nat.mod_eq_of_lt (by omega)
  show IntKind.i64.wrap ((BitVec.ofInt 64 (a : Int) &&& BitVec.ofInt 64 (b : Int)).toNat : Int) = _
  rw [BitVec.toNat_and, h1, h2, IntKind.wrap_i64]
  generalize a &&& b = z at hab ⊢
  omega
theorem WordsAt.later {B : Nat} {w w' : World} {v : Value} {W : List Int} (h : WordsAt B w v W) (hB : Below w.heap.size w w') : WordsAt B w' v W := by
  obtain ⟨g, c, h1, h2, h3, h4, h5⟩ := h
  exact ⟨g, c, h1, h2, h3, Nat.lt_of_lt_of_le h4 hB.size, fun j hj => ⟨(hB.frozen (p := ⟨g, j, none⟩) h4).trans (h5 j hj).1, (hB.cell (p := ⟨g, j, none⟩) h4).trans (h5 j hj).2⟩⟩
theorem WordsAt.put {B : Nat} {w : World} {g c n : Nat} {W : List Int} (hn : n = W.length) (h : WordsAt B w (.slice (some ⟨g, 0, none⟩) n c) W) {a : Nat} (ha : a < n) (z : Int) : WordsAt B (w.setCell ⟨g, a, none⟩ (.int .i64 z)) (.slice (some ⟨g, 0, none⟩) n c) (W.set a z) := by
  obtain ⟨g', c', h1, h2, h3, h4, h5⟩ := h
  cases h1
  refine ⟨g, c, by rw [List.length_set], by rw [List.length_set]; exact h2, h3, by simpa using h4, fun j hj => ?_⟩
  rw [List.length_set] at hj
  refine ⟨(World.frozen?_setCell _ _ _ _).trans (h5 j hj).1, ?_⟩
  by_cases e : a = j
  · subst e
    rw [World.cell?_setCell_same _ _ _ (h5 a hj).2]
    rw [List.getD_eq_getElem?_getD, List.getElem?_set_self hj]
    rfl
  · rw [World.cell?_setCell_other _ _ _ _ (fun hh => e (by cases hh; rfl)), (h5 j hj).2]
    rw [List.getD_eq_getElem?_getD, List.getD_eq_getElem?_getD, List.getElem?_set_ne e]
/-- All that was there is as it was but one block. -/
def Keeps (g : Nat) (w w' : World) : Prop := w.heap.size ≤ w'.heap.size ∧ ∀ k, k ≠ g → k < w.heap.size → w'.heap[k]? = w.heap[k]?
theorem Keeps.refl (g : Nat) (w : World) : Keeps g w w := ⟨Nat.le_refl _, fun _ _ _ => rfl⟩
theorem Keeps.trans {g : Nat} {w w' w2 : World} (h : Keeps g w w') (h2 : Keeps g w' w2) : Keeps g w w2 :=
  ⟨Nat.le_trans h.1 h2.1, fun k hp hl => (h2.2 k hp (Nat.lt_of_lt_of_le hl h.1)).trans (h.2 k hp hl)⟩
theorem Keeps.of_below {g : Nat} {w w' : World} (h : Below w.heap.size w w') : Keeps g w w' := ⟨h.size, fun k _ hl => h.block k hl⟩
theorem Keeps.setCell {g : Nat} {w w' : World} (h : Keeps g w w') {a : Addr} (ha : a.block = g) (v : Value) : Keeps g w (w'.setCell a v) :=
  ⟨by simpa using h.1, fun k hp hl => (Below.heap_setCell _ _ _ _ (by rw [ha]; exact hp)).trans (h.2 k hp hl)⟩
theorem Keeps.cell {g : Nat} {w w' : World} (h : Keeps g w w') {p : Addr} (hp : p.block ≠ g) (hl : p.block < w.heap.size) : w'.cell? p = w.cell? p := World.cell?_of_block (w := w) (h.2 p.block hp hl)
theorem Keeps.frozen {g : Nat} {w w' : World} (h : Keeps g w w') {p : Addr} (hp : p.block ≠ g) (hl : p.block < w.heap.size) : w'.frozen? p = w.frozen? p := World.frozen?_of_block (w := w) (h.2 p.block hp hl)
set_option maxHeartbeats 800000 in
set_option maxRecDepth 100000 in
/-- A word is programmed: only bits that are 1 in both stay. -/
theorem program_any (B : Nat) (W : List Int) (a : Nat) (ha : a < W.length) (x : Int) (hx : 0 ≤ x ∧ x ≤ 65535) (hW : 0 ≤ W.getD a 0 ∧ W.getD a 0 ≤ 65535) (w : World) (v u : Value) (hu : WordsAt B w u W) (hBw : B ≤ w.heap.size) :
    Calls Tryz.prog 56 #[.agg #[v, u], .int .i64 (a : Int), .int .i64 x] w fun e w' => e = .returned (.tuple #[]) ∧ WordsAt B w' u (W.set a (((W.getD a 0).toNat &&& x.toNat : Nat) : Int)) ∧ Below B w w' ∧ ∀ g n c, u = .slice (some ⟨g, 0, none⟩) n c → Keeps g w w' := by
  have hu0 := hu
  obtain ⟨g, c, rfl, hc, hBg, hg, hcell⟩ := hu
  obtain ⟨hf, hv⟩ := hcell a ha
  obtain ⟨h1, h2⟩ := hW
  obtain ⟨y, hy⟩ : ∃ y : Nat, W.getD a 0 = (y : Int) := ⟨(W.getD a 0).toNat, by omega⟩
  obtain ⟨x, rfl⟩ : ∃ z : Nat, x = (z : Int) := ⟨x.toNat, by omega⟩
  rw [hy] at hv h1 h2 ⊢
  rw [Int.toNat_natCast, Int.toNat_natCast]
  have hbt := and_nats y x (by omega) (by omega)
  obtain ⟨n, hn⟩ : ∃ n, n = W.length := ⟨_, rfl⟩
  rw [← hn] at ha hc hu0 ⊢
  have a0 : (0 : Int) ≤ (a : Int) := by omega
  have a1 : (a : Int) < (n : Int) := by omega
  have hput := hu0.put hn ha ((y &&& x : Nat) : Int)
  have HC := Lib.hid (⟨hn, hput⟩ : _ ∧ _)
  clear hcell hn hy hu0 hput
  go_enter Tryz.func56, Tryz.ntmps56
  go_wp2_with fail
  go_end0
  have hB1 : Below B w (w.setCell ⟨g, a, none⟩ (.int .i64 ((y &&& x : Nat) : Int))) := (Below.refl B w).setCell hBg _
  exact ⟨rfl, HC.out.2.later ((Below.refl _ _).alloc (Nat.le_refl _) _), hB1.alloc (Nat.le_trans hBw hB1.size) _, fun g' n' c' hh => by cases hh; exact ((Keeps.refl g w).setCell rfl _).trans (.of_below ((Below.refl _ _).alloc (Nat.le_refl _) _))⟩
end Go.Proofs.YtfoocnhfppjbbaaGreatDoor
