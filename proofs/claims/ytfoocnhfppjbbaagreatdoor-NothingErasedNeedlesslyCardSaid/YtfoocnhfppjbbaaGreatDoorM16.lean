/- Package flash: isStart, has, takesWord, takesErase. -/
import Derived.Test.YtfoocnhfppjbbaaGreatDoorM15
namespace Go.Proofs.YtfoocnhfppjbbaaGreatDoor
open Go.RowKit

theorem CycsAt.take {w : World} {a : Option Addr} {m c n : Nat} {C : List Cyc} (h : CycsAt w (.slice a m c) C) (hn : n ≤ m) : CycsAt w (.slice a n c) (C.take n) := by
  obtain ⟨a', c', e, hc, hop⟩ := h
  injection e with e1 e2 e3
  subst e1 e2 e3
  have hl : (C.take n).length = n := by rw [List.length_take]; omega
  refine ⟨a, c, by rw [hl], by omega, fun h0 => ?_⟩
  obtain ⟨g, o, h1, h2, h3⟩ := hop (by omega)
  refine ⟨g, o, h1, h2, fun j hj => ?_⟩
  have e : (C.take n).getD j (0, 0) = C.getD j (0, 0) := by
    rw [List.getD_eq_getElem?_getD, List.getD_eq_getElem?_getD, List.getElem?_take_of_lt (by omega)]
  rw [e]
  exact h3 j (by omega)
/-- The cycles A begin B. -/
def isPre (A B : List Cyc) : Bool := decide (A = B.take A.length)
set_option maxHeartbeats 400000 in
set_option maxRecDepth 100000 in
theorem isStart_any (A B : List Cyc) (hz : A.length ≤ 1000000) (_ : B.length ≤ 1000000) (w : World) (v u : Value) (h : CycsAt w v A) (h2 : CycsAt w u B) :
    Calls Tryz.prog 62 #[v, u] w fun e w' => e = .returned (.bool (isPre A B)) ∧ Below w.heap.size w w' := by
  obtain ⟨a, c, rfl, hc, -⟩ := id h
  obtain ⟨a2, c2, rfl, hc2, -⟩ := id h2
  by_cases hl : A.length ≤ B.length
  · have hq := eqCycs_any A (B.take A.length) hz (by rw [List.length_take]; omega) w _ _ h (h2.take hl)
    rw [show decide (A = B.take A.length) = isPre A B from rfl] at hq
    generalize isPre A B = R at hq ⊢
    generalize A.length = n at hq hl hc hz ⊢
    generalize B.length = m at hl hc2 ⊢
    have hl2 : n ≤ c2 := by omega
    have hl3 : (n : Int) ≤ (m : Int) := by omega
    clear h h2
    go_enter Tryz.func62, Tryz.ntmps62
    go_wp2_with fail
    refine hq.mono ?_
    rintro e w2 ⟨rfl, hB⟩
    have HB := Lib.hid hB
    clear hB hq
    go_wp2_with fail
    go_ret
    exact ⟨rfl, HB.out⟩
  · have hR : isPre A B = false := by
      unfold isPre
      rw [decide_eq_false_iff_not]
      intro he
      have h9 := congrArg List.length he
      rw [List.length_take] at h9
      omega
    rw [hR]
    generalize A.length = n at hl hc hz ⊢
    generalize B.length = m at hl hc2 ⊢
    have hl3 : ¬ (n : Int) ≤ (m : Int) := by omega
    clear h h2
    go_enter Tryz.func62, Tryz.ntmps62
    go_wp2_with fail
    go_ret
    exact ⟨rfl, Below.refl _ _⟩
set_option maxHeartbeats 400000 in
set_option maxRecDepth 100000 in
theorem memHas_any (x : Int) (hx : 0 ≤ x) (w : World) (v : Value) (a : Option Addr) (n c : Nat) :
    Calls Tryz.prog 76 #[.agg #[v, .slice a n c], .int .i64 x] w fun e w' => e = .returned (.bool (decide (x < (n : Int)))) ∧ Below w.heap.size w w' := by
  obtain ⟨W1, hW1⟩ : ∃ X : World, X = w.alloc (.cells #[v, .slice a n c] 74) := ⟨_, rfl⟩
  have hB : Below w.heap.size w W1 := by rw [hW1]; exact below_alloc _ _
  have c1 : W1.cell? ⟨w.heap.size, 1, none⟩ = some (.slice a n c) := by rw [hW1]; exact cell_new1 w _ _ rfl
  have HW := Lib.hid hW1
  have HB := Lib.hid hB
  clear hB hW1
  go_enter Tryz.func76, Tryz.ntmps76
  go_wp2_with fail
  rw [← HW.out]
  go_wp2_with fail
  go_ret
  exact ⟨rfl, HB.out⟩
/-- The words after the last cycle of Program. -/
def wordTo (W : List Int) (x d : Int) : List Int := if x < (W.length : Int) then W.set x.toNat (((W.getD x.toNat 0).toNat &&& d.toNat : Nat) : Int) else W
set_option maxHeartbeats 400000 in
set_option maxRecDepth 100000 in
theorem takesWord_any (B : Nat) (W : List Int) (hok : WordsOk W) (x d : Int) (hx : 0 ≤ x) (hd : 0 ≤ d ∧ d ≤ 65535) (w : World) (v u : Value) (hu : WordsAt B w u W) (hBw : B ≤ w.heap.size) :
    Calls Tryz.prog 60 #[.agg #[v, u], .agg #[.int .i64 x, .int .i64 d]] w fun e w' => e = .returned (.bool (decide (x < (W.length : Int)))) ∧ WordsAt B w' u (wordTo W x d) ∧ Below B w w' ∧ ∀ g n c, u = .slice (some ⟨g, 0, none⟩) n c → Keeps g w w' := by
  obtain ⟨W1, hW1⟩ : ∃ X : World, X = (w.alloc (.cells #[v, u] 74)).alloc (.cells #[.int .i64 x, .int .i64 d] 83) := ⟨_, rfl⟩
  have hBw1 : Below w.heap.size w W1 := by rw [hW1]; exact ((Below.refl _ _).alloc (Nat.le_refl _) _).alloc (by simp) _
  have hl1 : w.heap.size + 1 < W1.heap.size := by rw [hW1]; simp
  have f0 : W1.cell? ⟨w.heap.size, 0, none⟩ = some v := by rw [hW1, World.cell?_alloc_lt _ _ _ (by simp)]; exact cell_new1 w _ _ rfl
  have f1 : W1.cell? ⟨w.heap.size, 1, none⟩ = some u := by rw [hW1, World.cell?_alloc_lt _ _ _ (by simp)]; exact cell_new1 w _ _ rfl
  have f2 : W1.cell? ⟨w.heap.size + 1, 0, none⟩ = some (.int .i64 x) := by
    rw [hW1]
    have h := cell_new1 (w.alloc (.cells #[v, u] 74)) #[.int .i64 x, .int .i64 d] 83 (j := 0) (v := .int .i64 x) rfl
    simp only [World.size_alloc] at h
    exact h
  have f3 : W1.cell? ⟨w.heap.size + 1, 1, none⟩ = some (.int .i64 d) := by
    rw [hW1]
    have h := cell_new1 (w.alloc (.cells #[v, u] 74)) #[.int .i64 x, .int .i64 d] 83 (j := 1) (v := .int .i64 d) rfl
    simp only [World.size_alloc] at h
    exact h
  have hpr := fun (hlt : x.toNat < W.length) X (hX : Below w.heap.size w X) => program_any B W x.toNat hlt d hd (hok x.toNat hlt) X v u (hu.later hX) (Nat.le_trans hBw hX.size)
  have hun := fun X (hX : Below w.heap.size w X) => hu.later hX
  obtain ⟨g, c, rfl, -⟩ := id hu
  have hh := memHas_any x hx W1 v (some ⟨g, 0, none⟩) W.length c
  have HW := Lib.hid hW1
  have HP := Lib.hid (⟨hpr, hun, hBw1⟩ : _ ∧ _ ∧ _)
  clear hpr hun hBw1 hW1 hu
  by_cases hlt : x < (W.length : Int)
  · have HL := Lib.hid hlt
    rw [decide_eq_true hlt] at hh ⊢
    clear hlt
    obtain ⟨y, rfl⟩ : ∃ q : Nat, x = (q : Int) := ⟨x.toNat, by omega⟩
    go_enter Tryz.func60, Tryz.ntmps60
    go_wp2_with fail
    rw [← HW.out]
    refine hh.mono ?_
    rintro e w2 ⟨rfl, hB2⟩
    have p0 := (hB2.cell (p := ⟨w.heap.size, 0, none⟩) (show w.heap.size < _ by omega)).trans f0
    have p1 := (hB2.cell (p := ⟨w.heap.size, 1, none⟩) (show w.heap.size < _ by omega)).trans f1
    have p2 := (hB2.cell (p := ⟨w.heap.size + 1, 0, none⟩) (show w.heap.size + 1 < _ by omega)).trans f2
    have p3 := (hB2.cell (p := ⟨w.heap.size + 1, 1, none⟩) (show w.heap.size + 1 < _ by omega)).trans f3
    have hB3 := HP.out.2.2.trans (hB2.mono HP.out.2.2.size)
    have hq := HP.out.1 (by have := HL.out; omega) w2 hB3
    rw [Int.toNat_natCast] at hq
    have HB3 := Lib.hid hB3
    clear hh hB2 hB3 f0 f1 f2 f3
    go_wp2_with fail
    refine hq.mono ?_
    rintro e w3 ⟨rfl, h2, h3, h4⟩
    have HF := Lib.hid (⟨h2, h3, h4⟩ : _ ∧ _ ∧ _)
    clear h2 h3 h4 hq
    go_wp2_with fail
    go_ret
    refine ⟨rfl, ?_, (HB3.out.mono hBw).trans HF.out.2.1, fun g n c hh => (Keeps.of_below HB3.out).trans (HF.out.2.2 g n c hh)⟩
    unfold wordTo
    rw [if_pos HL.out, Int.toNat_natCast]
    exact HF.out.1
  · have HL := Lib.hid hlt
    rw [decide_eq_false hlt] at hh ⊢
    clear hlt
    go_enter Tryz.func60, Tryz.ntmps60
    go_wp2_with fail
    rw [← HW.out]
    refine hh.mono ?_
    rintro e w2 ⟨rfl, hB2⟩
    have HB3 := Lib.hid (HP.out.2.2.trans (hB2.mono HP.out.2.2.size))
    clear hh hB2
    go_wp2_with fail
    go_ret
    refine ⟨rfl, ?_, HB3.out.mono hBw, fun g n c _ => Keeps.of_below HB3.out⟩
    unfold wordTo
    rw [if_neg (by have := HL.out; omega)]
    exact HP.out.2.1 _ HB3.out
theorem secI_pos {S : List Int} {x : Int} (h : 0 ≤ secI S x) : ∃ k, k < S.length ∧ secI S x = (k : Int) ∧ preS S k ≤ x ∧ x < preS S (k + 1) := by
  unfold secI at h ⊢
  cases hs : secAt S x with
  | none => rw [hs] at h; exact absurd h (by decide)
  | some k =>
    obtain ⟨h1, h2⟩ := secAt_some hs
    exact ⟨k, h1, rfl, h2⟩
/-- The words after the last cycle of Erase. -/
def eraseTo (S W : List Int) (x d : Int) : List Int := if 0 ≤ secI S x ∧ d = 48 then onesTo W (preS S (secI S x).toNat) (preS S ((secI S x).toNat + 1)) else W
set_option maxHeartbeats 800000 in
set_option maxRecDepth 100000 in
theorem takesErase_any (B : Nat) (S W : List Int) (hS : FlashRight S) (hL : (W.length : Int) = sumS S) (x d : Int) (w : World) (v u : Value) (hv : SpansAt w v S) (hu : WordsAt B w u W) (hBw : B ≤ w.heap.size) :
    Calls Tryz.prog 61 #[.agg #[v, u], .agg #[.int .i64 x, .int .i64 d]] w fun e w' => e = .returned (.bool (decide (0 ≤ secI S x ∧ d = 48))) ∧ WordsAt B w' u (eraseTo S W x d) ∧ Below B w w' ∧ ∀ g n c, u = .slice (some ⟨g, 0, none⟩) n c → Keeps g w w' := by
  obtain ⟨W1, hW1⟩ : ∃ X : World, X = (w.alloc (.cells #[v, u] 74)).alloc (.cells #[.int .i64 x, .int .i64 d] 83) := ⟨_, rfl⟩
  have hBw1 : Below w.heap.size w W1 := by rw [hW1]; exact ((Below.refl _ _).alloc (Nat.le_refl _) _).alloc (by simp) _
  have hl1 : w.heap.size + 1 < W1.heap.size := by rw [hW1]; simp
  have f0 : W1.cell? ⟨w.heap.size, 0, none⟩ = some v := by rw [hW1, World.cell?_alloc_lt _ _ _ (by simp)]; exact cell_new1 w _ _ rfl
  have f1 : W1.cell? ⟨w.heap.size, 1, none⟩ = some u := by rw [hW1, World.cell?_alloc_lt _ _ _ (by simp)]; exact cell_new1 w _ _ rfl
  have f2 : W1.cell? ⟨w.heap.size + 1, 0, none⟩ = some (.int .i64 x) := by
    rw [hW1]
    have h := cell_new1 (w.alloc (.cells #[v, u] 74)) #[.int .i64 x, .int .i64 d] 83 (j := 0) (v := .int .i64 x) rfl
    simp only [World.size_alloc] at h
    exact h
  have f3 : W1.cell? ⟨w.heap.size + 1, 1, none⟩ = some (.int .i64 d) := by
    rw [hW1]
    have h := cell_new1 (w.alloc (.cells #[v, u] 74)) #[.int .i64 x, .int .i64 d] 83 (j := 1) (v := .int .i64 d) rfl
    simp only [World.size_alloc] at h
    exact h
  have her := fun k (hk : k < S.length) X (hX : Below w.heap.size w X) => erase_any B S W hS hL k hk X v u (hv.later hX) (hu.later hX) (Nat.le_trans hBw hX.size)
  have hun := fun X (hX : Below w.heap.size w X) => hu.later hX
  have hh := sectorAt_any S hS x W1 v (hv.later hBw1)
  obtain ⟨g, c, rfl, -⟩ := id hu
  have hpos := @secI_pos S x
  obtain ⟨s, hs⟩ : ∃ s, s = secI S x := ⟨_, rfl⟩
  have HE := Lib.hid (show eraseTo S W x d = if 0 ≤ s ∧ d = 48 then onesTo W (preS S s.toNat) (preS S (s.toNat + 1)) else W by rw [hs]; rfl)
  rw [← hs] at hh hpos ⊢
  have HW := Lib.hid hW1
  have HP := Lib.hid (⟨her, hun, hBw1, hpos⟩ : _ ∧ _ ∧ _ ∧ _)
  clear her hun hBw1 hW1 hu hpos hs hv hS hL
  by_cases hlt : 0 ≤ s
  · rw [decide_eq_true hlt] at hh
    by_cases hd : d = 48
    · subst hd
      obtain ⟨k, hk, hsk, -, -⟩ := HP.out.2.2.2 hlt
      subst hsk
      rw [show decide (0 ≤ (k : Int) ∧ (48 : Int) = 48) = true by simp]
      have HK := Lib.hid hk
      clear hlt hk
      go_enter Tryz.func61, Tryz.ntmps61
      go_wp2_with fail
      rw [← HW.out]
      refine hh.mono ?_
      rintro e w2 ⟨rfl, hB2⟩
      have p0 := (hB2.cell (p := ⟨w.heap.size, 0, none⟩) (show w.heap.size < _ by omega)).trans f0
      have p1 := (hB2.cell (p := ⟨w.heap.size, 1, none⟩) (show w.heap.size < _ by omega)).trans f1
      have p3 := (hB2.cell (p := ⟨w.heap.size + 1, 1, none⟩) (show w.heap.size + 1 < _ by omega)).trans f3
      have hB3 := HP.out.2.2.1.trans (hB2.mono HP.out.2.2.1.size)
      have hq := HP.out.1 k HK.out w2 hB3
      have HB3 := Lib.hid hB3
      clear hh hB2 hB3 f0 f1 f2 f3
      go_wp2_with fail
      refine hq.mono ?_
      rintro e w3 ⟨rfl, h2, h3, h4⟩
      have HF := Lib.hid (⟨h2, h3, h4⟩ : _ ∧ _ ∧ _)
      clear h2 h3 h4 hq
      go_wp2_with fail
      go_ret
      refine ⟨rfl, ?_, (HB3.out.mono hBw).trans HF.out.2.1, fun g n c hh => (Keeps.of_below HB3.out).trans (HF.out.2.2 g n c hh)⟩
      rw [HE.out, if_pos (by simp), Int.toNat_natCast]
      exact HF.out.1
    · rw [show decide (0 ≤ s ∧ d = 48) = false by simp [hd]]
      have HN := Lib.hid hd
      have hn : (d != 48) = true := by simpa using hd
      clear hlt hd
      go_enter Tryz.func61, Tryz.ntmps61
      go_wp2_with fail
      rw [← HW.out]
      refine hh.mono ?_
      rintro e w2 ⟨rfl, hB2⟩
      have p3 := (hB2.cell (p := ⟨w.heap.size + 1, 1, none⟩) (show w.heap.size + 1 < _ by omega)).trans f3
      have HB3 := Lib.hid (HP.out.2.2.1.trans (hB2.mono HP.out.2.2.1.size))
      clear hh hB2 f0 f1 f2 f3
      go_wp2_with fail
      go_ret
      refine ⟨rfl, ?_, HB3.out.mono hBw, fun g n c _ => Keeps.of_below HB3.out⟩
      rw [HE.out, if_neg (fun h => HN.out h.2)]
      exact HP.out.2.1 _ HB3.out
  · rw [decide_eq_false hlt] at hh
    rw [show decide (0 ≤ s ∧ d = 48) = false by simp; omega]
    have HN := Lib.hid hlt
    clear hlt
    go_enter Tryz.func61, Tryz.ntmps61
    go_wp2_with fail
    rw [← HW.out]
    refine hh.mono ?_
    rintro e w2 ⟨rfl, hB2⟩
    have HB3 := Lib.hid (HP.out.2.2.1.trans (hB2.mono HP.out.2.2.1.size))
    clear hh hB2
    go_wp2_with fail
    go_ret
    refine ⟨rfl, ?_, HB3.out.mono hBw, fun g n c _ => Keeps.of_below HB3.out⟩
    rw [HE.out, if_neg (by have := HN.out; omega)]
    exact HP.out.2.1 _ HB3.out
end Go.Proofs.YtfoocnhfppjbbaaGreatDoor
/- Package flash: what a cycle does, plain; what the driver's memory holds. -/
namespace Go.Proofs.YtfoocnhfppjbbaaGreatDoor
open Go.RowKit

/-- A cycle: the cycles of a sequence that has begun, the words, whether the cycle is not ignored. -/
def stepC (S : List Int) (row : List Cyc) (W : List Int) (c : Cyc) : List Cyc × List Int × Bool :=
  if row = progKey then ([], wordTo W c.1 c.2, decide (c.1 < (W.length : Int)))
  else if c.2 = 240 then ([], W, true)
  else if row = eraseKey then ([], eraseTo S W c.1 c.2, decide (0 ≤ secI S c.1 ∧ c.2 = 48))
  else if (isPre (row ++ [c]) progKey || isPre (row ++ [c]) eraseKey) = true then (row ++ [c], W, true) else ([], W, false)
theorem isPre_len {A B : List Cyc} (h : isPre A B = true) : A.length ≤ B.length := by
  unfold isPre at h
  have h2 := congrArg List.length (of_decide_eq_true h)
  rw [List.length_take] at h2
  omega
theorem stepC_len (S : List Int) (row : List Cyc) (W : List Int) (c : Cyc) : (stepC S row W c).1.length ≤ 5 := by
  unfold stepC
  split
  · exact Nat.zero_le _
  split
  · exact Nat.zero_le _
  split
  · exact Nat.zero_le _
  split
  · rename_i h
    rw [Bool.or_eq_true] at h
    rcases h with h | h
    · exact Nat.le_trans (isPre_len h) (by decide)
    · exact isPre_len h
  · exact Nat.zero_le _
/-- Where the driver's things lie: M ≤ the words' block gW and the variable's b; all below R. -/
structure DLay (M R gW b p m e gp ge : Nat) (vS : Value) : Prop where
  lgW : M ≤ gW ∧ gW < R
  lb : M ≤ b ∧ b < R ∧ b ≠ gW
  lp : p < R ∧ p ≠ gW ∧ p ≠ b
  lm : m < R ∧ m ≠ gW ∧ m ≠ b
  le : e < R ∧ e ≠ gW ∧ e ≠ b
  lgp : gp < R ∧ gp ≠ gW ∧ gp ≠ b
  lge : ge < R ∧ ge ≠ gW ∧ ge ≠ b
  lvS : Behind M vS
/-- What the driver's memory holds, but the variable itself. -/
structure DrvM (M R gW p m e gp ge nW cW : Nat) (vS : Value) (S W : List Int) (w : World) : Prop where
  hp : w.cell? ⟨p, 0, none⟩ = some (.slice (some ⟨gp, 0, none⟩) 3 3)
  m0 : w.cell? ⟨m, 0, none⟩ = some vS
  m1 : w.cell? ⟨m, 1, none⟩ = some (.slice (some ⟨gW, 0, none⟩) nW cW)
  he : w.cell? ⟨e, 0, none⟩ = some (.slice (some ⟨ge, 0, none⟩) 5 5)
  kp : CycsAt w (.slice (some ⟨gp, 0, none⟩) 3 3) progKey
  ke : CycsAt w (.slice (some ⟨ge, 0, none⟩) 5 5) eraseKey
  sp : SpansAt w vS S
  wo : WordsAt M w (.slice (some ⟨gW, 0, none⟩) nW cW) W
  sz : R ≤ w.heap.size
/-- All old blocks are kept but the words', the variable's and the row's own. -/
def Kept (gW b : Nat) (vb : Value) (w w' : World) : Prop := w.heap.size ≤ w'.heap.size ∧ ∀ k, k < w.heap.size → k ≠ gW → k ≠ b → some k ≠ vb.ownBlock → w'.heap[k]? = w.heap[k]?
theorem Kept.of_below {gW b : Nat} {vb : Value} {w w' : World} (h : Below w.heap.size w w') : Kept gW b vb w w' := ⟨h.size, fun k hk _ _ _ => h.block k hk⟩
theorem Kept.trans {gW b : Nat} {vb : Value} {w w' w2 : World} (h : Kept gW b vb w w') (h2 : Kept gW b vb w' w2) : Kept gW b vb w w2 :=
  ⟨Nat.le_trans h.1 h2.1, fun k hk h3 h4 h5 => (h2.2 k (Nat.lt_of_lt_of_le hk h.1) h3 h4 h5).trans (h.2 k hk h3 h4 h5)⟩
theorem Kept.of_keeps {gW b : Nat} {vb : Value} {w w' : World} (h : Keeps gW w w') : Kept gW b vb w w' := ⟨h.1, fun k hk h3 _ _ => h.2 k h3 hk⟩
theorem Kept.setB {gW b : Nat} {vb : Value} (w : World) (x : Value) : Kept gW b vb w (w.setCell ⟨b, 0, none⟩ x) := ⟨by simp, fun k _ _ h4 _ => Below.heap_setCell _ _ _ _ h4⟩
theorem CycsAt.blocks {w w' : World} {g n c : Nat} {C : List Cyc} (h : CycsAt w (.slice (some ⟨g, 0, none⟩) n c) C) (hn : n = C.length) (h0 : 0 < n) (hs : w.heap.size ≤ w'.heap.size) (hk : w'.heap[g]? = w.heap[g]?) : CycsAt w' (.slice (some ⟨g, 0, none⟩) n c) C := by
  obtain ⟨a, c', h1, h2, h3⟩ := h
  obtain ⟨g', o', h4, h5, h6⟩ := h3 (by omega)
  injection h1 with e1 e2 e3
  subst e1
  injection h4 with h4
  injection h4 with h7 h8
  subst h7 h8 e3
  exact ⟨_, _, by rw [hn], h2, fun _ => ⟨g, 0, rfl, Nat.lt_of_lt_of_le h5 hs, fun j hj => ⟨(World.cell?_of_block (a := ⟨g, 0 + j * 2, none⟩) hk).trans (h6 j hj).1, (World.cell?_of_block (a := ⟨g, 0 + j * 2 + 1, none⟩) hk).trans (h6 j hj).2⟩⟩⟩
theorem WordsAt.blocks {B : Nat} {w w' : World} {g n c : Nat} {W : List Int} (h : WordsAt B w (.slice (some ⟨g, 0, none⟩) n c) W) (hs : w.heap.size ≤ w'.heap.size) (hk : w'.heap[g]? = w.heap[g]?) : WordsAt B w' (.slice (some ⟨g, 0, none⟩) n c) W := by
  obtain ⟨g', c', h1, h2, h3, h4, h5⟩ := h
  injection h1 with e1 e2 e3
  injection e1 with e1
  injection e1 with e1
  subst e1 e3
  exact ⟨g, c, by rw [e2], h2, h3, Nat.lt_of_lt_of_le h4 hs, fun j hj => ⟨(World.frozen?_of_block (a := ⟨g, j, none⟩) hk).trans (h5 j hj).1, (World.cell?_of_block (a := ⟨g, j, none⟩) hk).trans (h5 j hj).2⟩⟩
theorem SpansAt.blocks {M : Nat} {w w' : World} {v : Value} {S : List Int} (h : SpansAt w v S) (hM : Behind M v) (hs : w.heap.size ≤ w'.heap.size) (hk : ∀ k, k < M → k < w.heap.size → w'.heap[k]? = w.heap[k]?) : SpansAt w' v S := by
  obtain ⟨a, c, rfl, h2, h3⟩ := h
  refine ⟨a, c, rfl, h2, fun h0 => ?_⟩
  obtain ⟨g, o, rfl, h5, h6⟩ := h3 h0
  have hg := hk g (hM _ _ _ rfl) h5
  exact ⟨g, o, rfl, Nat.lt_of_lt_of_le h5 hs, fun j hj => ⟨(World.cell?_of_block (a := ⟨g, o + j * 2, none⟩) hg).trans (h6 j hj).1, (World.cell?_of_block (a := ⟨g, o + j * 2 + 1, none⟩) hg).trans (h6 j hj).2⟩⟩
/-- The driver's memory where all of its blocks but the words' and the variable's are kept. -/
theorem DrvM.kept {M R gW b p m e gp ge nW cW : Nat} {vS : Value} {S W W' : List Int} {w w' : World} (h : DrvM M R gW p m e gp ge nW cW vS S W w) (hL : DLay M R gW b p m e gp ge vS) (hs : w.heap.size ≤ w'.heap.size)
    (hk : ∀ k, k < R → k ≠ gW → k ≠ b → w'.heap[k]? = w.heap[k]?) (hw : WordsAt M w' (.slice (some ⟨gW, 0, none⟩) nW cW) W') : DrvM M R gW p m e gp ge nW cW vS S W' w' := by
  have hpk := hk p hL.lp.1 hL.lp.2.1 hL.lp.2.2
  have hmk := hk m hL.lm.1 hL.lm.2.1 hL.lm.2.2
  have hek := hk e hL.le.1 hL.le.2.1 hL.le.2.2
  refine ⟨(World.cell?_of_block (a := ⟨p, 0, none⟩) hpk).trans h.hp, (World.cell?_of_block (a := ⟨m, 0, none⟩) hmk).trans h.m0, (World.cell?_of_block (a := ⟨m, 1, none⟩) hmk).trans h.m1, (World.cell?_of_block (a := ⟨e, 0, none⟩) hek).trans h.he,
    h.kp.blocks rfl (by decide) hs (hk gp hL.lgp.1 hL.lgp.2.1 hL.lgp.2.2), h.ke.blocks rfl (by decide) hs (hk ge hL.lge.1 hL.lge.2.1 hL.lge.2.2), h.sp.blocks hL.lvS hs (fun k h1 _ => hk k ?_ ?_ ?_), hw, Nat.le_trans h.sz hs⟩
  · have := hL.lgW; omega
  · have := hL.lgW; omega
  · have := hL.lb; omega
theorem DrvM.below {M R gW b p m e gp ge nW cW : Nat} {vS : Value} {S W : List Int} {w w' : World} (h : DrvM M R gW p m e gp ge nW cW vS S W w) (hL : DLay M R gW b p m e gp ge vS) (hB : Below R w w') : DrvM M R gW p m e gp ge nW cW vS S W w' :=
  h.kept hL hB.size (fun k hk _ _ => hB.block k hk) (h.wo.blocks hB.size (hB.block gW hL.lgW.2))
theorem DrvM.setB {M R gW b p m e gp ge nW cW : Nat} {vS : Value} {S W : List Int} {w : World} (h : DrvM M R gW p m e gp ge nW cW vS S W w) (hL : DLay M R gW b p m e gp ge vS) (x : Value) : DrvM M R gW p m e gp ge nW cW vS S W (w.setCell ⟨b, 0, none⟩ x) :=
  h.kept hL (by simp) (fun k _ _ hb => Below.heap_setCell _ _ _ _ hb) (h.wo.blocks (by simp) (Below.heap_setCell _ _ _ _ (fun hh => hL.lb.2.2 hh.symm)))
/-- The whole state between cycles. -/
structure Drv (M R gW b p m e gp ge nW cW : Nat) (vS : Value) (S : List Int) (row : List Cyc) (vb : Value) (W : List Int) (w : World) : Prop where
  mem : DrvM M R gW p m e gp ge nW cW vS S W w
  hb : w.cell? ⟨b, 0, none⟩ = some vb
  fz : w.frozen? ⟨b, 0, none⟩ = false
  own : COwn R w vb row
end Go.Proofs.YtfoocnhfppjbbaaGreatDoor
