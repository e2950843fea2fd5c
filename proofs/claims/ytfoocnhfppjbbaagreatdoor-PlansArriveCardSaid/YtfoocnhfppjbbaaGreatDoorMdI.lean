/- Package flash: isStart, has, takesWord, takesErase. -/
import Derived.Test.YtfoocnhfppjbbaaGreatDoorM17
namespace Go.Proofs.YtfoocnhfppjbbaaGreatDoor
open Go.RowKit

theorem CycsAt.take {w : World} {a : Option Addr} {m c n : Nat} {C : List Cyc} (h : CycsAt w (.slice a m c) C) (hn : n ≤ m) : CycsAt w (.slice a n c) (C.take n) := by
  obtain ⟨a', c', e, hc, hop⟩ := h
  injection e with e1 e2 e3
  subst e1 e2 e3
  have hl : (C.take n).length = n := by rw [List.length_take]; omega
  refine ⟨a, c, by rw [hl], by omega, fun h0 => ?_⟩
  obtain ⟨g, o, h1, h2, h3⟩ := hop (by omega)
  refine ⟨g, o, h1, h2, fun j hj => ?_⟩
  have e : (C.take n).getD j (0, 0) = C.getD j (0, 0) := by
    rw [List.getD_eq_getElem?_getD, List.getD_eq_getElem?_getD, List.getElem?_take_of_lt (by omega)]
  rw [e]
  exact h3 j (by omega)
/-- The cycles A begin B. -/
def isPre (A B : List Cyc) : Bool := decide (A = B.take A.length)
set_option maxHeartbeats 400000 in
set_option maxRecDepth 100000 in
theorem isStart_any (A B : List Cyc) (hz : A.length ≤ 1000000) (_ : B.length ≤ 1000000) (w : World) (v u : Value) (h : CycsAt w v A) (h2 : CycsAt w u B) :
    Calls Tryz.prog 62 #[v, u] w fun e w' => e = .returned (.bool (isPre A B)) ∧ Below w.heap.size w w' := by
  obtain ⟨a, c, rfl, hc, -⟩ := id h
  obtain ⟨a2, c2, rfl, hc2, -⟩ := id h2
  by_cases hl : A.length ≤ B.length
  · have hq := eqCycs_any A (B.take A.length) hz (by rw [List.length_take]; omega) w _ _ h (h2.take hl)
    rw [show decide (A = B.take A.length) = isPre A B from rfl] at hq
    generalize isPre A B = R at hq ⊢
    generalize A.length = n at hq hl hc hz ⊢
    generalize B.length = m at hl hc2 ⊢
    have hl2 : n ≤ c2 := by omega
    have hl3 : (n : Int) ≤ (m : Int) := by omega
    clear h h2
    go_enter Tryz.func62, Tryz.ntmps62
    go_wp2_with fail
    refine hq.mono ?_
    rintro e w2 ⟨rfl, hB⟩
    have HB := Lib.hid hB
    clear hB hq
    go_wp2_with fail
    go_ret
    exact ⟨rfl, HB.out⟩
  · have hR : isPre A B = false := by
      unfold isPre
      rw [decide_eq_false_iff_not]
      intro he
      have h9 := congrArg List.length he
      rw [List.length_take] at h9
      omega
    rw [hR]
    generalize A.length = n at hl hc hz ⊢
    generalize B.length = m at hl hc2 ⊢
    have hl3 : ¬ (n : Int) ≤ (m : Int) := by omega
    clear h h2
    go_enter Tryz.func62, Tryz.ntmps62
    go_wp2_with fail
    go_ret
    exact ⟨rfl, Below.refl _ _⟩
set_option maxHeartbeats 400000 in
set_option maxRecDepth 100000 in
theorem memHas_any (x : Int) (hx : 0 ≤ x) (w : World) (v : Value) (a : Option Addr) (n c : Nat) :
    Calls Tryz.prog 76 #[.agg #[v, .slice a n c], .int .i64 x] w fun e w' => e = .returned (.bool (decide (x < (n : Int)))) ∧ Below w.heap.size w w' := by
  obtain ⟨W1, hW1⟩ : ∃ X : World, X = w.alloc (.cells #[v, .slice a n c] 74) := ⟨_, rfl⟩
  have hB : Below w.heap.size w W1 := by rw [hW1]; exact below_alloc _ _
  have c1 : W1.cell? ⟨w.heap.size, 1, none⟩ = some (.slice a n c) := by rw [hW1]; exact cell_new1 w _ _ rfl
  have HW := Lib.hid hW1
  have HB := Lib.hid hB
  clear hB hW1
  go_enter Tryz.func76, Tryz.ntmps76
  go_wp2_with fail
  rw [← HW.out]
  go_wp2_with fail
  go_ret
  exact ⟨rfl, HB.out⟩
/-- The words after the last cycle of Program. -/
def wordTo (W : List Int) (x d : Int) : List Int := if x < (W.length : Int) then W.set x.toNat (((W.getD x.toNat 0).toNat &&& d.toNat : Nat) : Int) else W
set_option maxHeartbeats 400000 in
set_option maxRecDepth 100000 in
theorem takesWord_any (B : Nat) (W : List Int) (hok : WordsOk W) (x d : Int) (hx : 0 ≤ x) (hd : 0 ≤ d ∧ d ≤ 65535) (w : World) (v u : Value) (hu : WordsAt B w u W) (hBw : B ≤ w.heap.size) :
    Calls Tryz.prog 60 #[.agg #[v, u], .agg #[.int .i64 x, .int .i64 d]] w fun e w' => e = .returned (.bool (decide (x < (W.length : Int)))) ∧ WordsAt B w' u (wordTo W x d) ∧ Below B w w' ∧ ∀ g n c, u = .slice (some ⟨g, 0, none⟩) n c → Keeps g w w' := by
  obtain ⟨W1, hW1⟩ : ∃ X : World, X = (w.alloc (.cells #[v, u] 74)).alloc (.cells #[.int .i64 x, .int .i64 d] 83) := ⟨_, rfl⟩
  have hBw1 : Below w.heap.size w W1 := by rw [hW1]; exact ((Below.refl _ _).alloc (Nat.le_refl _) _).alloc (by simp) _
  have hl1 : w.heap.size + 1 < W1.heap.size := by rw [hW1]; simp
  have f0 : W1.cell? ⟨w.heap.size, 0, none⟩ = some v := by rw [hW1, World.cell?_alloc_lt _ _ _ (by simp)]; exact cell_new1 w _ _ rfl
  have f1 : W1.cell? ⟨w.heap.size, 1, none⟩ = some u := by rw [hW1, World.cell?_alloc_lt _ _ _ (by simp)]; exact cell_new1 w _ _ rfl
  have f2 : W1.cell? ⟨w.heap.size + 1, 0, none⟩ = some (.int .i64 x) := by
    rw [hW1]
    have h := cell_new1 (w.alloc (.cells #[v, u] 74)) #[.int .i64 x, .int .i64 d] 83 (j := 0) (v := .int .i64 x) rfl
    simp only [World.size_alloc] at h
    exact h
  have f3 : W1.cell? ⟨w.heap.size + 1, 1, none⟩ = some (.int .i64 d) := by
    rw [hW1]
    have h := cell_new1 (w.alloc (.cells #[v, u] 74)) #[.int .i64 x, .int .i64 d] 83 (j := 1) (v := .int .i64 d) rfl
    simp only [World.size_alloc] at h
    exact h
  have hpr := fun (hlt : x.toNat < W.length) X (hX : Below w.heap.size w X) => program_any B W x.toNat hlt d hd (hok x.toNat hlt) X v u (hu.later hX) (Nat.le_trans hBw hX.size)
  have hun := fun X (hX : Below w.heap.size w X) => hu.later hX
  obtain ⟨g, c, rfl, -⟩ := id hu
  have hh := memHas_any x hx W1 v (some ⟨g, 0, none⟩) W.length c
  have HW := Lib.hid hW1
  have HP := Lib.hid (⟨hpr, hun, hBw1⟩ : _ ∧ _ ∧ _)
  clear hpr hun hBw1 hW1 hu
  by_cases hlt : x < (W.length : Int)
  · have HL := Lib.hid hlt
    rw [decide_eq_true hlt] at hh ⊢
    clear hlt
    obtain ⟨y, rfl⟩ : ∃ q : Nat, x = (q : Int) := ⟨x.toNat, by omega⟩
    go_enter Tryz.func60, Tryz.ntmps60
    go_wp2_with fail
    rw [← HW.out]
    refine hh.mono ?_
    rintro e w2 ⟨rfl, hB2⟩
    have p0 := (hB2.cell (p := ⟨w.heap.size, 0, none⟩) (show w.heap.size < _ by omega)).trans f0
    have p1 := (hB2.cell (p := ⟨w.heap.size, 1, none⟩) (show w.heap.size < _ by omega)).trans f1
    have p2 := (hB2.cell (p := ⟨w.heap.size + 1, 0, none⟩) (show w.heap.size + 1 < _ by omega)).trans f2
    have p3 := (hB2.cell (p := ⟨w.heap.size + 1, 1, none⟩) (show w.heap.size + 1 < _ by omega)).trans f3
    have hB3 := HP.out.2.2.trans (hB2.mono HP.out.2.2.size)
    have hq := HP.out.1 (by have := HL.out; omega) w2 hB3
    rw [Int.toNat_natCast] at hq
    have HB3 := Lib.hid hB3
    clear hh hB2 hB3 f0 f1 f2 f3
    go_wp2_with fail
    refine hq.mono ?_
    rintro e w3 ⟨rfl, h2, h3, h4⟩
    have HF := Lib.hid (⟨h2, h3, h4⟩ : _ ∧ _ ∧ _)
    clear h2 h3 h4 hq
    go_wp2_with fail
    go_ret
    refine ⟨rfl, ?_, (HB3.out.mono hBw).trans HF.out.2.1, fun g n c hh => (Keeps.of_below HB3.out).trans (HF.out.2.2 g n c hh)⟩
    unfold wordTo
    rw [if_pos HL.out, Int.toNat_natCast]
    exact HF.out.1
  · have HL := Lib.hid hlt
    rw [decide_eq_false hlt] at hh ⊢
    clear hlt
    go_enter Tryz.func60, Tryz.ntmps60
    go_wp2_with fail
    rw [← HW.out]
    refine hh.mono ?_
    rintro e w2 ⟨rfl, hB2⟩
    have HB3 := Lib.hid (HP.out.2.2.trans (hB2.mono HP.out.2.2.size))
    clear hh hB2
    go_wp2_with fail
    go_ret
    refine ⟨rfl, ?_, HB3.out.mono hBw, fun g n c _ => Keeps.of_below HB3.out⟩
    unfold wordTo
    rw [if_neg (by have := HL.out; omega)]
    exact HP.out.2.1 _ HB3.out
theorem secI_pos {S : List Int} {x : Int} (h : 0 ≤ secI S x) : ∃ k, k < S.length ∧ secI S x = (k : Int) ∧ preS S k ≤ x ∧ x < preS S (k + 1) := by
  unfold secI at h ⊢
  cases hs : secAt S x with
  | none => rw [hs] at h; exact absurd h (by decide)
  | some k =>
    obtain ⟨h1, h2⟩ := secAt_some hs
    exact ⟨k, h1, rfl, h2⟩
/-- The words after the last cycle of Erase. -/
def eraseTo (S W : List Int) (x d : Int) : List Int := if 0 ≤ secI S x ∧ d = 48 then onesTo W (preS S (secI S x).toNat) (preS S ((secI S x).toNat + 1)) else W
set_option maxHeartbeats 800000 in
set_option maxRecDepth 100000 in
theorem takesErase_any (B : Nat) (S W : List Int) (hS : FlashRight S) (hL : (W.length : Int) = sumS S) (x d : Int) (w : World) (v u : Value) (hv : SpansAt w v S) (hu : WordsAt B w u W) (hBw : B ≤ w.heap.size) :
    Calls Tryz.prog 61 #[.agg #[v, u], .agg #[.int .i64 x, .int .i64 d]] w fun e w' => e = .returned (.bool (decide (0 ≤ secI S x ∧ d = 48))) ∧ WordsAt B w' u (eraseTo S W x d) ∧ Below B w w' ∧ ∀ g n c, u = .slice (some ⟨g, 0, none⟩) n c → Keeps g w w' := by
  obtain ⟨W1, hW1⟩ : ∃ X : World, X = (w.alloc (.cells #[v, u] 74)).alloc (.cells #[.int .i64 x, .int .i64 d] 83) := ⟨_, rfl⟩
  have hBw1 : Below w.heap.size w W1 := by rw [hW1]; exact ((Below.refl _ _).alloc (Nat.le_refl _) _).alloc (by simp) _
  have hl1 : w.heap.size + 1 < W1.heap.size := by rw [hW1]; simp
  have f0 : W1.cell? ⟨w.heap.size, 0, none⟩ = some v := by rw [hW1, World.cell?_alloc_lt _ _ _ (by simp)]; exact cell_new1 w _ _ rfl
  have f1 : W1.cell? ⟨w.heap.size, 1, none⟩ = some u := by rw [hW1, World.cell?_alloc_lt _ _ _ (by simp)]; exact cell_new1 w _ _ rfl
  have f2 : W1.cell? ⟨w.heap.size + 1, 0, none⟩ = some (.int .i64 x) := by
    rw [hW1]
    have h := cell_new1 (w.alloc (.cells #[v, u] 74)) #[.int .i64 x, .int .i64 d] 83 (j := 0) (v := .int .i64 x) rfl
    simp only [World.size_alloc] at h
    exact h
  have f3 : W1.cell? ⟨w.heap.size + 1, 1, none⟩ = some (.int .i64 d) := by
    rw [hW1]
    have h := cell_new1 (w.alloc (.cells #[v, u] 74)) #[.int .i64 x, .int .i64 d] 83 (j := 1) (v := .int .i64 d) rfl
    simp only [World.size_alloc] at h
    exact h
  have her := fun k (hk : k < S.length) X (hX : Below w.heap.size w X) => erase_any B S W hS hL k hk X v u (hv.later hX) (hu.later hX) (Nat.le_trans hBw hX.size)
  have hun := fun X (hX : Below w.heap.size w X) => hu.later hX
  have hh := sectorAt_any S hS x W1 v (hv.later hBw1)
  obtain ⟨g, c, rfl, -⟩ := id hu
  have hpos := @secI_pos S x
  obtain ⟨s, hs⟩ : ∃ s, s = secI S x := ⟨_, rfl⟩
  have HE := Lib.hid (show eraseTo S W x d = if 0 ≤ s ∧ d = 48 then onesTo W (preS S s.toNat) (preS S (s.toNat + 1)) else W by rw [hs]; rfl)
  rw [← hs] at hh hpos ⊢
  have HW := Lib.hid hW1
  have HP := Lib.hid (⟨her, hun, hBw1, hpos⟩ : _ ∧ _ ∧ _ ∧ _)
  clear her hun hBw1 hW1 hu hpos hs hv hS hL
  by_cases hlt : 0 ≤ s
  · rw [decide_eq_true hlt] at hh
    by_cases hd : d = 48
    · subst hd
      obtain ⟨k, hk, hsk, -, -⟩ := HP.out.2.2.2 hlt
      subst hsk
      rw [show decide (0 ≤ (k : Int) ∧ (48 : Int) = 48) = true by simp]
      have HK := Lib.hid hk
      clear hlt hk
      go_enter Tryz.func61, Tryz.ntmps61
      go_wp2_with fail
      rw [← HW.out]
      refine hh.mono ?_
      rintro e w2 ⟨rfl, hB2⟩
      have p0 := (hB2.cell (p := ⟨w.heap.size, 0, none⟩) (show w.heap.size < _ by omega)).trans f0
      have p1 := (hB2.cell (p := ⟨w.heap.size, 1, none⟩) (show w.heap.size < _ by omega)).trans f1
      have p3 := (hB2.cell (p := ⟨w.heap.size + 1, 1, none⟩) (show w.heap.size + 1 < _ by omega)).trans f3
      have hB3 := HP.out.2.2.1.trans (hB2.mono HP.out.2.2.1.size)
      have hq := HP.out.1 k HK.out w2 hB3
      have HB3 := Lib.hid hB3
      clear hh hB2 hB3 f0 f1 f2 f3
      go_wp2_with fail
      refine hq.mono ?_
      rintro e w3 ⟨rfl, h2, h3, h4⟩
      have HF := Lib.hid (⟨h2, h3, h4⟩ : _ ∧ _ ∧ _)
      clear h2 h3 h4 hq
      go_wp2_with fail
      go_ret
      refine ⟨rfl, ?_, (HB3.out.mono hBw).trans HF.out.2.1, fun g n c hh => (Keeps.of_below HB3.out).trans (HF.out.2.2 g n c hh)⟩
      rw [HE.out, if_pos (by simp), Int.toNat_natCast]
      exact HF.out.1
    · rw [show decide (0 ≤ s ∧ d = 48) = false by simp [hd]]
      have HN := Lib.hid hd
      have hn : (d != 48) = true := by simpa using hd
      clear hlt hd
      go_enter Tryz.func61, Tryz.ntmps61
      go_wp2_with fail
      rw [← HW.out]
      refine hh.mono ?_
      rintro e w2 ⟨rfl, hB2⟩
      have p3 := (hB2.cell (p := ⟨w.heap.size + 1, 1, none⟩) (show w.heap.size + 1 < _ by omega)).trans f3
      have HB3 := Lib.hid (HP.out.2.2.1.trans (hB2.mono HP.out.2.2.1.size))
      clear hh hB2 f0 f1 f2 f3
      go_wp2_with fail
      go_ret
      refine ⟨rfl, ?_, HB3.out.mono hBw, fun g n c _ => Keeps.of_below HB3.out⟩
      rw [HE.out, if_neg (fun h => HN.out h.2)]
      exact HP.out.2.1 _ HB3.out
  · rw [decide_eq_false hlt] at hh
    rw [show decide (0 ≤ s ∧ d = 48) = false by simp; omega]
    have HN := Lib.hid hlt
    clear hlt
    go_enter Tryz.func61, Tryz.ntmps61
    go_wp2_with fail
    rw [← HW.out]
    refine hh.mono ?_
    rintro e w2 ⟨rfl, hB2⟩
    have HB3 := Lib.hid (HP.out.2.2.1.trans (hB2.mono HP.out.2.2.1.size))
    clear hh hB2
    go_wp2_with fail
    go_ret
    refine ⟨rfl, ?_, HB3.out.mono hBw, fun g n c _ => Keeps.of_below HB3.out⟩
    rw [HE.out, if_neg (by have := HN.out; omega)]
    exact HP.out.2.1 _ HB3.out
end Go.Proofs.YtfoocnhfppjbbaaGreatDoor
