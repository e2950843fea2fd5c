/- cmp.Or; a memory's words: program. -/
import Derived.Test.YtdejjplkignaoaaMcH
namespace Go.Proofs.Ytdejjplkignaoaa
open Go.RowKit

set_option maxHeartbeats 2000000 in
/-- cmp.Or of two errors: the first one that is none of 0. -/
theorem cmpOr_any (x y : Int) (b : Nat) (w : World) (h0 : w.cell? ⟨b, 0, none⟩ = some (.int .i64 x)) (h1 : w.cell? ⟨b, 1, none⟩ = some (.int .i64 y)) :
    Calls Try.prog 40 #[.slice (some ⟨b, 0, none⟩) 2 2] w fun e w' => e = .returned (.int .i64 (if x = 0 then y else x)) ∧ w = w' := by
  by_cases hx : x = 0
  · rw [if_pos hx]
    subst hx
    by_cases hy : y = 0
    · subst hy
      go_enter Try.func40, Try.ntmps40
      go_wp2_with fail
      go_loop [8] (fun x => ∃ k : Nat, k ≤ 2 ∧ x = .int .i64 (k : Int)) (fun x => 2 - (intOf x).toNat)
      case atStart => exact ⟨0, by omega, rfl⟩
      case round =>
        obtain ⟨k, hk, rfl⟩ := hrel
        by_cases e : k = 2
        · subst e
          go_wp2_with fail
          go_ret
          exact ⟨rfl, rfl⟩
        · have e2 : k = 0 ∨ k = 1 := by omega
          rcases e2 with rfl | rfl
          · go_wp2_with fail
            go_round
            case rel => exact ⟨1, by omega, rfl⟩
            case measure => simp [intOf]
          · go_wp2_with fail
            go_round
            case rel => exact ⟨2, by omega, rfl⟩
            case measure => simp [intOf]
    · have hy1 : (y != 0) = true := by simpa using hy
      go_enter Try.func40, Try.ntmps40
      go_wp2_with fail
      go_loop [8] (fun x => ∃ k : Nat, k ≤ 1 ∧ x = .int .i64 (k : Int)) (fun x => 2 - (intOf x).toNat)
      case atStart => exact ⟨0, by omega, rfl⟩
      case round =>
        obtain ⟨k, hk, rfl⟩ := hrel
        have e2 : k = 0 ∨ k = 1 := by omega
        rcases e2 with rfl | rfl
        · go_wp2_with fail
          go_round
          case rel => exact ⟨1, by omega, rfl⟩
          case measure => simp [intOf]
        · go_wp2_with fail
          go_ret
          exact ⟨rfl, rfl⟩
  · rw [if_neg hx]
    have hx1 : (x != 0) = true := by simpa using hx
    go_enter Try.func40, Try.ntmps40
    go_wp2_with fail
    go_loop [8] (fun x => x = .int .i64 0) (fun _ => 0)
    case atStart => rfl
    case round =>
      subst hrel
      go_wp2_with fail
      go_ret
      exact ⟨rfl, rfl⟩
/-- The slice value owns these words: a block of its own, at or above the base. -/
def WordsAt (B : Nat) (w : World) (v : Value) (W : List Int) : Prop :=
  ∃ g c, v = .slice (some ⟨g, 0, none⟩) W.length c ∧ W.length ≤ c ∧ B ≤ g ∧ g < w.heap.size ∧ ∀ j, j < W.length → w.frozen? ⟨g, j, none⟩ = false ∧ w.cell? ⟨g, j, none⟩ = some (.int .i64 (W.getD j 0))
theorem and_nats (a b : Nat) (ha : a < 4294967296) (hb : b < 4294967296) : bits .and .i64 (a : Int) (b : Int) = ((a &&& b : Nat) : Int) := by
  have hab : a &&& b < 2 ^ 32 := Nat.and_lt_two_pow _ (by omega)
  have h1 : (BitVec.ofInt 64 (a : Int)).toNat = a := by
    rw [BitVec.ofInt_natCast, BitVec.toNat_ofNat]; exact Nat.mod_eq_of_lt (by omega)
  have h2 : (BitVec.ofInt 64 (b : Int)).toNat = b := by
    rw [BitVec.ofInt_natCast, BitVec.toNat_ofNat]; exact Nat.mod_eq_of_lt (by omega)
  show IntKind.i64.wrap ((BitVec.ofInt 64 (a : Int) &&& BitVec.ofInt 64 (b : Int)).toNat : Int) = _
  rw [BitVec.toNat_and, h1, h2, IntKind.wrap_i64]
  generalize a &&& b = z at hab ⊢
  omega
theorem WordsAt.later {B : Nat} {w w' : World} {v : Value} {W : List Int} (h : WordsAt B w v W) (hB : Below w.heap.size w w') : WordsAt B w' v W := by
  obtain ⟨g, c, h1, h2, h3, h4, h5⟩ := h
  exact ⟨g, c, h1, h2, h3, Nat.lt_of_lt_of_le h4 hB.size, fun j hj => ⟨(hB.frozen (p := ⟨g, j, none⟩) h4).trans (h5 j hj).1, (hB.cell (p := ⟨g, j, none⟩) h4).trans (h5 j hj).2⟩⟩
theorem WordsAt.put {B : Nat} {w : World} {g c n : Nat} {W : List Int} (hn : n = W.length) (h : WordsAt B w (.slice (some ⟨g, 0, none⟩) n c) W) {a : Nat} (ha : a < n) (z : Int) : WordsAt B (w.setCell ⟨g, a, none⟩ (.int .i64 z)) (.slice (some ⟨g, 0, none⟩) n c) (W.set a z) := by
  obtain ⟨g', c', h1, h2, h3, h4, h5⟩ := h
  cases h1
  refine ⟨g, c, by rw [List.length_set], by rw [List.length_set]; exact h2, h3, by simpa using h4, fun j hj => ?_⟩
  rw [List.length_set] at hj
  refine ⟨(World.frozen?_setCell _ _ _ _).trans (h5 j hj).1, ?_⟩
  by_cases e : a = j
  · subst e
    rw [World.cell?_setCell_same _ _ _ (h5 a hj).2]
    rw [List.getD_eq_getElem?_getD, List.getElem?_set_self hj]
    rfl
  · rw [World.cell?_setCell_other _ _ _ _ (fun hh => e (by cases hh; rfl)), (h5 j hj).2]
    rw [List.getD_eq_getElem?_getD, List.getD_eq_getElem?_getD, List.getElem?_set_ne e]
/-- All that was there is as it was but one block. -/
def Keeps (g : Nat) (w w' : World) : Prop := w.heap.size ≤ w'.heap.size ∧ ∀ k, k ≠ g → k < w.heap.size → w'.heap[k]? = w.heap[k]?
theorem Keeps.refl (g : Nat) (w : World) : Keeps g w w := ⟨Nat.le_refl _, fun _ _ _ => rfl⟩
theorem Keeps.trans {g : Nat} {w w' w2 : World} (h : Keeps g w w') (h2 : Keeps g w' w2) : Keeps g w w2 :=
  ⟨Nat.le_trans h.1 h2.1, fun k hp hl => (h2.2 k hp (Nat.lt_of_lt_of_le hl h.1)).trans (h.2 k hp hl)⟩
theorem Keeps.of_below {g : Nat} {w w' : World} (h : Below w.heap.size w w') : Keeps g w w' := ⟨h.size, fun k _ hl => h.block k hl⟩
theorem Keeps.setCell {g : Nat} {w w' : World} (h : Keeps g w w') {a : Addr} (ha : a.block = g) (v : Value) : Keeps g w (w'.setCell a v) :=
  ⟨by simpa using h.1, fun k hp hl => (Below.heap_setCell _ _ _ _ (by rw [ha]; exact hp)).trans (h.2 k hp hl)⟩
theorem Keeps.cell {g : Nat} {w w' : World} (h : Keeps g w w') {p : Addr} (hp : p.block ≠ g) (hl : p.block < w.heap.size) : w'.cell? p = w.cell? p := World.cell?_of_block (w := w) (h.2 p.block hp hl)
theorem Keeps.frozen {g : Nat} {w w' : World} (h : Keeps g w w') {p : Addr} (hp : p.block ≠ g) (hl : p.block < w.heap.size) : w'.frozen? p = w.frozen? p := World.frozen?_of_block (w := w) (h.2 p.block hp hl)
set_option maxHeartbeats 800000 in
set_option maxRecDepth 100000 in
/-- A word is programmed: only bits that are 1 in both stay. -/
theorem program_any (B : Nat) (W : List Int) (a : Nat) (ha : a < W.length) (x : Int) (hx : 0 ≤ x ∧ x ≤ 65535) (hW : 0 ≤ W.getD a 0 ∧ W.getD a 0 ≤ 65535) (w : World) (v u : Value) (hu : WordsAt B w u W) (hBw : B ≤ w.heap.size) :
    Calls Try.prog 78 #[.agg #[v, u], .int .i64 (a : Int), .int .i64 x] w fun e w' => e = .returned (.tuple #[]) ∧ WordsAt B w' u (W.set a (((W.getD a 0).toNat &&& x.toNat : Nat) : Int)) ∧ Below B w w' ∧ ∀ g n c, u = .slice (some ⟨g, 0, none⟩) n c → Keeps g w w' := by
  have hu0 := hu
  obtain ⟨g, c, rfl, hc, hBg, hg, hcell⟩ := hu
  obtain ⟨hf, hv⟩ := hcell a ha
  obtain ⟨h1, h2⟩ := hW
  obtain ⟨y, hy⟩ : ∃ y : Nat, W.getD a 0 = (y : Int) := ⟨(W.getD a 0).toNat, by omega⟩
  obtain ⟨x, rfl⟩ : ∃ z : Nat, x = (z : Int) := ⟨x.toNat, by omega⟩
  rw [hy] at hv h1 h2 ⊢
  rw [Int.toNat_natCast, Int.toNat_natCast]
  have hbt := and_nats y x (by omega) (by omega)
  obtain ⟨n, hn⟩ : ∃ n, n = W.length := ⟨_, rfl⟩
  rw [← hn] at ha hc hu0 ⊢
  have a0 : (0 : Int) ≤ (a : Int) := by omega
  have a1 : (a : Int) < (n : Int) := by omega
  have hput := hu0.put hn ha ((y &&& x : Nat) : Int)
  have HC := Lib.hid (⟨hn, hput⟩ : _ ∧ _)
  clear hcell hn hy hu0 hput
  go_enter Try.func78, Try.ntmps78
  go_wp2_with fail
  go_end0
  have hB1 : Below B w (w.setCell ⟨g, a, none⟩ (.int .i64 ((y &&& x : Nat) : Int))) := (Below.refl B w).setCell hBg _
  exact ⟨rfl, HC.out.2.later ((Below.refl _ _).alloc (Nat.le_refl _) _), hB1.alloc (Nat.le_trans hBw hB1.size) _, fun g' n' c' hh => by cases hh; exact ((Keeps.refl g w).setCell rfl _).trans (.of_below ((Below.refl _ _).alloc (Nat.le_refl _) _))⟩
end Go.Proofs.Ytdejjplkignaoaa
