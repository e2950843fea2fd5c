/- Texts are read line by line: the program's Lines and Read of vectors, the reference's. -/
import Derived.Test.YtoipgliokelcfaaGreatDoorPvCut
namespace Go.Proofs.YtoipgliokelcfaaGreatDoor
open Go.RowKit

def strLen : Value → Nat
  | .string s => s.size
  | _ => 0
/-- Reading line by line: what a line makes of what was read, and whether it is good; fuel, the text that is left, the line's number. -/
def readS {σ : Type} (step : σ → List UInt8 → σ × Bool) : Nat → List UInt8 → Nat → σ → Int × Bool × σ
  | 0, _, _, s => (0, true, s)
  | f + 1, t, k, s => if t = [] then (0, true, s) else match cutLF t with
    | none => ((k : Int), false, s)
    | some (a, b) => if (step s a).2 = true then readS step f b (k + 1) (step s a).1 else ((k : Int), false, (step s a).1)
section
variable {σ : Type} {step : σ → List UInt8 → σ × Bool}
theorem readS_nil (f k : Nat) (s : σ) : readS step f [] k s = (0, true, s) := by
  cases f with
  | zero => rfl
  | succ f => unfold readS; rw [if_pos rfl]
theorem readS_none {f k : Nat} {t : List UInt8} (s : σ) (hf : t.length ≤ f) (h0 : t ≠ []) (h : cutLF t = none) : readS step f t k s = ((k : Int), false, s) := by
  have := List.length_pos_iff.2 h0
  obtain ⟨f, rfl⟩ : ∃ g, f = g + 1 := ⟨f - 1, by omega⟩
  unfold readS
  rw [if_neg h0, h]
theorem readS_good {f k : Nat} {t a b : List UInt8} (s : σ) (hf : t.length ≤ f) (h : cutLF t = some (a, b)) (hg : (step s a).2 = true) : ∃ g, b.length ≤ g ∧ readS step f t k s = readS step g b (k + 1) (step s a).1 := by
  have h1 := cutLF_less h
  obtain ⟨f, rfl⟩ : ∃ g, f = g + 1 := ⟨f - 1, by omega⟩
  refine ⟨f, by omega, ?_⟩
  rw [readS.eq_def]
  simp only [if_neg h1.2, h, hg, if_true]
theorem readS_bad {f k : Nat} {t a b : List UInt8} (s : σ) (hf : t.length ≤ f) (h : cutLF t = some (a, b)) (hg : (step s a).2 = false) : readS step f t k s = ((k : Int), false, (step s a).1) := by
  have h1 := cutLF_less h
  obtain ⟨f, rfl⟩ : ∃ g, f = g + 1 := ⟨f - 1, by omega⟩
  rw [readS.eq_def]
  simp [if_neg h1.2, h, hg]
end
/-- What lines of vectors make. -/
def patStep (A : List (List UInt8)) (a : List UInt8) : List (List UInt8) × Bool := (A ++ [a], !a.isEmpty && a.all bitB)
theorem patStep_rows : ∀ (f : Nat) (t : List UInt8) (k : Nat) (A : List (List UInt8)) (m : Nat), t.length ≤ m → (∀ x, x ∈ A → x.length ≤ m) → (readS patStep f t k A).2.2.length ≤ A.length + t.length ∧ ∀ x, x ∈ (readS patStep f t k A).2.2 → x.length ≤ m
  | 0, t, k, A, m, _, hA => ⟨Nat.le_add_right _ _, hA⟩
  | f + 1, t, k, A, m, ht, hA => by
    unfold readS
    by_cases h0 : t = []
    · rw [if_pos h0]
      exact ⟨Nat.le_add_right _ _, hA⟩
    rw [if_neg h0]
    cases hc : cutLF t with
    | none => exact ⟨Nat.le_add_right _ _, hA⟩
    | some p =>
      obtain ⟨a, b⟩ := p
      have hl := cutLF_less hc
      have hA2 : ∀ x, x ∈ (patStep A a).1 → x.length ≤ m := fun x hx => by
        rcases List.mem_append.1 hx with hx | hx
        · exact hA x hx
        · rw [List.mem_singleton.1 hx]; omega
      have hz : (patStep A a).1.length = A.length + 1 := by simp [patStep]
      dsimp only
      split
      · have := patStep_rows f b (k + 1) (patStep A a).1 m (by omega) hA2
        exact ⟨by omega, this.2⟩
      · exact ⟨by show (patStep A a).1.length ≤ _; omega, hA2⟩

/-- A row in blocks that were not touched. -/
theorem row_kept {w w' : World} {B : Nat} {e : TypeId} {size : Nat} {v : Value} {n : Nat} {xs : List Value} (h : w.ownsRow B e size v n xs) (hk : ∀ g, B ≤ g → g < w.heap.size → w'.heap[g]? = w.heap[g]?) : w'.ownsRow B e size v n xs := by
  obtain ⟨h1, h2 | ⟨g, cap, cur, e1, e2, e3, e4⟩⟩ := h
  · exact ⟨h1, .inl h2⟩
  · exact ⟨h1, .inr ⟨g, cap, cur, e1, e2, (hk g e2 (Array.getElem?_eq_some_iff.1 e3).1).trans e3, e4⟩⟩
/-- The variable at block pv holds rows that lie behind it. -/
def RowsVar (w0 : World) (pv : Nat) (k : Nat) (A : List (List UInt8)) (W : World) : Prop :=
  w0.heap.size ≤ pv ∧ Below w0.heap.size w0 W ∧ A.length = k ∧ W.frozen? ⟨pv, 0, none⟩ = false ∧ ∃ v, W.cell? ⟨pv, 0, none⟩ = some v ∧ StrsAt (pv + 1) W v A
theorem RowsVar.lt {w0 : World} {pv k : Nat} {A : List (List UInt8)} {W : World} (h : RowsVar w0 pv k A W) : pv < W.heap.size := by
  obtain ⟨_, _, _, _, v, hc, _⟩ := h
  exact World.block_lt_of_cell? W ⟨pv, 0, none⟩ hc
theorem RowsVar.later {w0 : World} {pv k : Nat} {A : List (List UInt8)} {W W' : World} (h : RowsVar w0 pv k A W) (hB : Below W.heap.size W W') : RowsVar w0 pv k A W' := by
  have hlt := h.lt
  obtain ⟨h1, h2, h3, h4, v, h5, h6⟩ := h
  exact ⟨h1, h2.trans (hB.mono h2.size), h3, (World.frozen?_of_block (a := ⟨pv, 0, none⟩) (hB.block pv hlt)).trans h4, v, (hB.cell (p := ⟨pv, 0, none⟩) hlt).trans h5, row_later h6 hB⟩
set_option maxHeartbeats 4000000 in
set_option maxRecDepth 100000 in
theorem pRead1_any (s : ByteArray) (hss : s.size ≤ 1000000) (W : World) :
    Calls Tryz.prog 61 #[.string s] W fun e w' => e = .returned (.tuple #[.string s, .bool (!s.data.toList.isEmpty && s.data.toList.all bitB)]) ∧ Below W.heap.size W w' := by
  have hib := isBits_any s W (by omega)
  by_cases h0 : s.size = 0
  · have he : s.toList.isEmpty = true := empty_of_size h0
    have hne : s.data.toList.isEmpty = true := by rw [← ByteArray.toList_eq]; exact he
    rw [show (!(s.data.toList).isEmpty && s.data.toList.all bitB) = false by rw [hne]; rfl]
    clear h0 hne hib
    go_enter Tryz.func61, Tryz.ntmps61
    go_wp2_with fail
    go_ret2
    exact ⟨rfl, Below.refl _ _⟩
  · have he : s.toList.isEmpty = false := not_empty_of_size (by omega)
    have hne : s.data.toList.isEmpty = false := by rw [← ByteArray.toList_eq]; exact he
    rw [show (!(s.data.toList).isEmpty && s.data.toList.all bitB) = s.data.toList.all bitB by rw [hne]; rfl]
    clear h0 hne
    generalize s.data.toList.all bitB = q at hib ⊢
    go_enter Tryz.func61, Tryz.ntmps61
    go_wp2_with fail
    refine hib.mono ?_
    rintro e w6 ⟨rfl, hB6⟩
    have HB := Lib.hid hB6
    clear hib hB6
    go_wp2_with fail
    go_ret2
    exact ⟨rfl, HB.out⟩
/-- The variable of rows, and the one that holds the function that reads a line. -/
def RowsRd (w0 : World) (rd pv : Nat) (k : Nat) (A : List (List UInt8)) (W : World) : Prop :=
  RowsVar w0 pv k A W ∧ W.cell? ⟨rd, 0, none⟩ = some (.func (.func 61) #[] #[]) ∧ rd < pv
theorem RowsRd.later {w0 : World} {rd pv k : Nat} {A : List (List UInt8)} {W W' : World} (h : RowsRd w0 rd pv k A W) (hB : Below W.heap.size W W') : RowsRd w0 rd pv k A W' := by
  obtain ⟨h1, h2, h3⟩ := h
  have hlt := h1.lt
  exact ⟨h1.later hB, (hB.cell (p := ⟨rd, 0, none⟩) (by show rd < _; omega)).trans h2, h3⟩
set_option maxHeartbeats 4000000 in
set_option maxRecDepth 100000 in
theorem rls1_any (w0 : World) (rd pv k : Nat) (A : List (List UInt8)) (a : List UInt8) (W : World) (hk : k ≤ 1000000) (ha : a.length ≤ 1000000) (h : RowsRd w0 rd pv k A W) :
    Calls Tryz.prog 101 #[.string ⟨a.toArray⟩, .pointer (some ⟨rd, 0, none⟩), .pointer (some ⟨pv, 0, none⟩)] W fun e w' => e = .returned (.bool (patStep A a).2) ∧ RowsRd w0 rd pv (k + 1) (patStep A a).1 w' := by
  obtain ⟨h, hrd, hrp⟩ := h
  have hlt := h.lt
  obtain ⟨i0, hi, hz0, hz1, hz2⟩ := info_parts Tryz.infoStrv
  obtain ⟨s, hs⟩ : ∃ s : ByteArray, s = ⟨a.toArray⟩ := ⟨_, rfl⟩
  have hw := word_dec _ s hs
  have hsl : s.data.toList = a := hw.2
  have hss : s.size ≤ 1000000 := by have := hw.1; omega
  obtain ⟨A2, hA2⟩ : ∃ A2, A2 = A ++ [s.data.toList] := ⟨_, rfl⟩
  obtain ⟨res, hres⟩ : ∃ res : Bool, res = (!s.data.toList.isEmpty && s.data.toList.all bitB) := ⟨_, rfl⟩
  have hstep : patStep A a = (A2, res) := by rw [hA2, hres, hsl]; rfl
  rw [← hs, hstep]
  dsimp only
  have hrc := pRead1_any s hss W
  rw [← hres] at hrc
  have HH := Lib.hid (⟨h, hA2⟩ : _ ∧ _)
  clear hs hw ha hsl hA2 hres hstep h
  go_enter Tryz.func101, Tryz.ntmps101
  go_wp2_with fail
  refine hrc.mono ?_
  rintro e w2 ⟨rfl, hB2⟩
  have h2 := HH.out.1.later hB2
  have hrd2 := (hB2.cell (p := ⟨rd, 0, none⟩) (by show rd < _; omega)).trans hrd
  have hlt2 := h2.lt
  obtain ⟨hp0, hB0, hAk, hfz, v, hcv, hrow⟩ := h2
  have hrow2 : w2.ownsRow (pv + 1) 9 1 v A.length (A.map strV) := hrow
  obtain ⟨aa, ac, rfl, -⟩ := strs_open hrow
  have HA := Lib.hid (⟨hp0, hB0, hAk, HH.out.2, hrd2⟩ : _ ∧ _ ∧ _ ∧ _ ∧ _)
  rw [hAk] at hcv hrow2
  clear hrow hp0 hB0 hAk hrd hrd2 hrc hB2 HH hlt
  go_wp2_with (at_builtin; refine wpList_append_own _ rfl _ _ 39 rfl (pv + 1) 9 i0 (.string ⟨#[]⟩) 1 16 Tryz.underlying39 hi hz0 hz1 hz2 rfl (by decide) _ _ _ rfl (hrow2.alloc _) ⟨w2.heap.size, 0, none⟩ 1 1 [.string s] rfl rfl ?c1 ?c2 ?c3 ?c4 ?c5 ?_)
  case c1 => exact cell_one_new _ _ _
  case c2 => simp [Value.oneCell']
  case c3 => unfold maxLen; omega
  case c4 => omega
  case c5 => simp; omega
  intro v' w4 hown' hg4 _
  have hB4 : Below (pv + 1) w2 w4 := ((Below.refl _ w2).alloc (by omega) _).grown hg4 (by simp; omega) (fun j hj => (hrow2.lt j hj).1)
  have hc4 := (hB4.cell (p := ⟨pv, 0, none⟩) (by show pv < pv + 1; omega)).trans hcv
  have hf4 := (World.frozen?_of_block (a := ⟨pv, 0, none⟩) (hB4.block pv (by omega))).trans hfz
  have hst4 : StrsAt (pv + 1) w4 v' A2 := by
    rw [HA.out.2.2.2.1]
    unfold StrsAt
    rw [List.length_append, HA.out.2.2.1, List.map_append]
    exact hown'
  obtain ⟨a4, c4, rfl, -⟩ := strs_open hst4
  have hV : RowsRd w0 rd pv (k + 1) A2 (w4.setCell ⟨pv, 0, none⟩ (.slice a4 A2.length c4)) := by
    refine ⟨⟨HA.out.1, ?_, by rw [HA.out.2.2.2.1]; simp [HA.out.2.2.1], ?_, _, World.cell?_setCell_same _ _ _ hc4, row_kept hst4 fun g hg _ => Below.heap_setCell w4 ⟨pv, 0, none⟩ _ g (by show g ≠ pv; omega)⟩, ?_, hrp⟩
    · exact (HA.out.2.1.trans (hB4.mono (by have := HA.out.1; omega))).setCell (p := ⟨pv, 0, none⟩) HA.out.1 _
    · rw [World.frozen?_setCell]; exact hf4
    · rw [World.cell?_setCell_other _ _ _ _ (by first | (simp; done) | (simp; omega))]
      exact (hB4.cell (p := ⟨rd, 0, none⟩) (by show rd < pv + 1; omega)).trans HA.out.2.2.2.2
  have HV := Lib.hid hV
  clear hV hown' hg4 hst4 hrow2 hB4 hcv hfz
  generalize A2.length = m at HV ⊢
  go_wp2_with fail
  go_ret
  exact ⟨rfl, HV.out⟩
set_option maxHeartbeats 4000000 in
set_option maxRecDepth 100000 in
theorem wLinesP_any {σ : Type} (step : σ → List UInt8 → σ × Bool) (I : Nat → σ → World → Prop) (rd pv : Nat)
    (hI : ∀ k s W W', I k s W → Below W.heap.size W W' → I k s W')
    (hstep : ∀ k s a W, k ≤ 1000000 → a.length ≤ 1000000 → I k s W → Calls Tryz.prog 101 #[.string ⟨a.toArray⟩, .pointer (some ⟨rd, 0, none⟩), .pointer (some ⟨pv, 0, none⟩)] W fun e w' => e = .returned (.bool (step s a).2) ∧ I (k + 1) (step s a).1 w')
    (t0 : List UInt8) (ht0 : t0.length ≤ 1000000) (s0 : σ) (w : World) (h0 : I 0 s0 w) (R : Int × Bool × σ) (hR : readS step t0.length t0 0 s0 = R) :
    Calls Tryz.prog 100 #[.string ⟨t0.toArray⟩, .func (.func 101) #[] #[.pointer (some ⟨rd, 0, none⟩), .pointer (some ⟨pv, 0, none⟩)]] w fun e w' => e = .returned (.tuple #[.int .i64 R.1, .bool R.2.1]) ∧ ∃ k, I k R.2.2 w' := by
  obtain ⟨z0, hz0⟩ : ∃ z, z = t0.length := ⟨_, rfl⟩
  have H := Lib.hid (⟨hI, hstep⟩ : _ ∧ _)
  have HS := Lib.hid (⟨h0, hR, hz0⟩ : _ ∧ _ ∧ _)
  have hzl : z0 ≤ 1000000 := by omega
  clear hI hstep h0 hR ht0
  obtain ⟨x0, hx0⟩ : ∃ x : ByteArray, x = ⟨t0.toArray⟩ := ⟨_, rfl⟩
  rw [← hx0]
  have HX := Lib.hid hx0
  clear hx0 hz0
  go_enter Tryz.func100, Tryz.ntmps100
  go_wp2_with fail
  go_loopw [0, 6] (fun tv iv wr => ∃ (k f : Nat) (t : List UInt8) (s : σ) (x : ByteArray), tv = .string x ∧ iv = .int .i64 (k : Int) ∧ x = ⟨t.toArray⟩ ∧ t.length ≤ f ∧ k + t.length ≤ z0 ∧ readS step f t k s = R ∧ I k s wr) (fun tv _ _ => strLen tv)
  case atStart => exact ⟨0, _, _, _, _, rfl, rfl, HX.out, Nat.le_refl _, by rw [HS.out.2.2]; omega, HS.out.2.1, HS.out.1⟩
  case round =>
    clear HS HX
    obtain ⟨k, f, t, s, x, rfl, rfl, hx, hf, hkt, hR, hI⟩ := hrel
    have hw := word_dec _ x hx
    by_cases h0 : t = []
    · have hsz : x.size = 0 := by have h := hw.1; rw [h0] at h; simpa using h
      have he : x.toList.isEmpty = true := empty_of_size hsz
      rw [h0, readS_nil] at hR
      subst hR
      have HI := Lib.hid hI
      clear hI hw hx h0 hsz
      go_wp2_with fail
      go_ret2
      exact ⟨rfl, _, HI.out⟩
    have hpos := List.length_pos_iff.2 h0
    have hsz : 0 < x.size := by have h := hw.1; omega
    have he : x.toList.isEmpty = false := not_empty_of_size hsz
    have hxs : x.size ≤ 1000000 := by have h := hw.1; omega
    cases hc : cutLF t with
    | none =>
      have hct := cut_none x wr (by rw [hw.2]; exact hc)
      rw [readS_none s hf h0 hc] at hR
      subst hR
      have HI := Lib.hid hI
      clear hI hw hx h0 hc hf hkt hpos
      go_wp2_with fail
      refine hct.mono ?_
      rintro e w2 ⟨rfl, hB⟩
      clear hct
      have HI2 := Lib.hid (H.out.1 _ _ _ _ HI.out hB)
      clear hB HI
      go_wp2_with fail
      go_ret2
      exact ⟨rfl, _, HI2.out⟩
    | some p =>
      obtain ⟨a, b⟩ := p
      have hl := cutLF_less hc
      have hct := cut_some x a b wr hxs (by rw [hw.2]; exact hc)
      have hk1 : k ≤ 1000000 := by omega
      have ha1 : a.length ≤ 1000000 := by omega
      have hbl : b.length < x.size := by have h := hw.1; omega
      have hst := H.out.2 k s a
      cases hg : (step s a).2 with
      | true =>
        obtain ⟨g, hg1, hg2⟩ := readS_good (k := k) s hf hc hg
        rw [hg2] at hR
        rw [hg] at hst
        have hkb : k + 1 + b.length ≤ z0 := by omega
        have HI := Lib.hid (⟨hI, hR, hst⟩ : _ ∧ _ ∧ _)
        clear hI hw hx h0 hc hf hkt hpos hl hR hg2 hg hst
        obtain ⟨xa, hxa⟩ : ∃ x : ByteArray, x = ⟨a.toArray⟩ := ⟨_, rfl⟩
        obtain ⟨xb, hxb⟩ : ∃ x : ByteArray, x = ⟨b.toArray⟩ := ⟨_, rfl⟩
        have hbz := (word_dec _ xb hxb).1
        rw [← hxa, ← hxb] at hct
        have HX := Lib.hid (⟨hxa, hxb, hbz⟩ : _ ∧ _ ∧ _)
        clear hxa hxb hbz
        go_wp2_with fail
        refine hct.mono ?_
        rintro e w2 ⟨rfl, hB⟩
        clear hct
        have hst := HI.out.2.2 w2 hk1 ha1 (H.out.1 _ _ _ _ HI.out.1 hB)
        rw [← HX.out.1] at hst
        clear hB
        go_wp2_with fail
        refine hst.mono ?_
        rintro e w3 ⟨rfl, hI3⟩
        clear hst
        have HI3 := Lib.hid hI3
        clear hI3
        go_wp2_with fail
        go_roundw
        case rel => exact ⟨k + 1, g, b, _, xb, rfl, by go_num, HX.out.2.1, hg1, hkb, HI.out.2.1, HI3.out⟩
        case measure =>
          have := HX.out.2.2
          simp [strLen]
          omega
      | false =>
        rw [readS_bad s hf hc hg] at hR
        subst hR
        rw [hg] at hst
        have HI := Lib.hid (⟨hI, hst⟩ : _ ∧ _)
        clear hI hw hx h0 hc hf hkt hpos hl hg hst hbl
        obtain ⟨xa, hxa⟩ : ∃ x : ByteArray, x = ⟨a.toArray⟩ := ⟨_, rfl⟩
        obtain ⟨xb, hxb⟩ : ∃ x : ByteArray, x = ⟨b.toArray⟩ := ⟨_, rfl⟩
        rw [← hxa, ← hxb] at hct
        have HX := Lib.hid (⟨hxa, hxb⟩ : _ ∧ _)
        clear hxa hxb
        go_wp2_with fail
        refine hct.mono ?_
        rintro e w2 ⟨rfl, hB⟩
        clear hct
        have hst := HI.out.2 w2 hk1 ha1 (H.out.1 _ _ _ _ HI.out.1 hB)
        rw [← HX.out.1] at hst
        clear hB
        go_wp2_with fail
        refine hst.mono ?_
        rintro e w3 ⟨rfl, hI3⟩
        clear hst
        have HI3 := Lib.hid hI3
        clear hI3
        go_wp2_with fail
        go_ret2
        exact ⟨rfl, _, HI3.out⟩
end Go.Proofs.YtoipgliokelcfaaGreatDoor
