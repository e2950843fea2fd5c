/- The program's Read of vectors, the reference's PatternsRead. -/
import Derived.Test.YtoipgliokelcfaaGreatDoorPwRead
import Derived.Shelf.Strings.OnBuilder
namespace Go.Proofs.YtoipgliokelcfaaGreatDoor
open Go.RowKit

/-- What Read returns: the error, the line's number, the rows. -/
def readOut (t : List UInt8) : Int × Int × List (List UInt8) :=
  if 200000 < t.length then (2, 0, []) else
  if (readS patStep t.length t 0 []).2.1 = true then (if linesErr (readS patStep t.length t 0 []).2.2 = 0 then (0, 0, (readS patStep t.length t 0 []).2.2) else (linesErr (readS patStep t.length t 0 []).2.2, 0, []))
  else (9, (readS patStep t.length t 0 []).1, [])
theorem readOut_rows (t : List UInt8) : (readOut t).2.2.length ≤ t.length ∧ ∀ x, x ∈ (readOut t).2.2 → x.length ≤ t.length := by
  have h := patStep_rows t.length t 0 [] t.length (Nat.le_refl _) (fun x hx => by cases hx)
  unfold readOut
  split
  · exact ⟨Nat.zero_le _, fun x hx => by cases hx⟩
  split
  · split
    · exact ⟨by simpa using h.1, h.2⟩
    · exact ⟨Nat.zero_le _, fun x hx => by cases hx⟩
  · exact ⟨Nat.zero_le _, fun x hx => by cases hx⟩
theorem rowsVar_new (w : World) : RowsVar w w.heap.size 0 [] (w.alloc (.cells #[.slice none 0 0] 39)) :=
  ⟨Nat.le_refl _, (Below.refl _ w).alloc (Nat.le_refl _) _, rfl, frozen_fresh _ _ _ _, _, cell_fresh _ _ _ rfl, World.ownsRow_nil _ _ _ _⟩
theorem rowsRd_new (w : World) : RowsRd w w.heap.size (w.heap.size + 1) 0 [] ((w.alloc (.cells #[.func (.func 61) #[] #[]] 103)).alloc (.cells #[.slice none 0 0] 39)) := by
  have h := rowsVar_new (w.alloc (.cells #[.func (.func 61) #[] #[]] 103))
  have hz : (w.alloc (.cells #[.func (.func 61) #[] #[]] 103)).heap.size = w.heap.size + 1 := by simp
  rw [hz] at h
  have hB : Below w.heap.size w (w.alloc (.cells #[.func (.func 61) #[] #[]] 103)) := (Below.refl _ w).alloc (Nat.le_refl _) _
  obtain ⟨h1, h2, h3⟩ := h
  refine ⟨⟨by omega, hB.trans (h2.mono (by omega)), h3⟩, ?_, by omega⟩
  exact (h2.cell (p := ⟨w.heap.size, 0, none⟩) (by show w.heap.size < _; omega)).trans (cell_fresh w #[.func (.func 61) #[] #[]] _ rfl)
set_option maxHeartbeats 4000000 in
set_option maxRecDepth 100000 in
theorem readList_any (t : List UInt8) (ht : t.length ≤ 1000000) (w : World) :
    Calls Tryz.prog 63 #[.string ⟨t.toArray⟩, .func (.func 61) #[] #[], .func (.func 58) #[] #[]] w fun e w' => ∃ v', e = .returned (.tuple #[v', .int .i64 (readOut t).2.1, .int .i64 (readOut t).1]) ∧ StrsAt w.heap.size w' v' (readOut t).2.2 ∧ Below w.heap.size w w' := by
  have hrows := patStep_rows t.length t 0 [] t.length (Nat.le_refl _) (fun x hx => by cases hx)
  have hl := wLinesP_any patStep (RowsRd w w.heap.size (w.heap.size + 1)) w.heap.size (w.heap.size + 1) (fun _ _ _ _ h hB => h.later hB) (fun k s a W hk ha h => rls1_any w w.heap.size (w.heap.size + 1) k s a W hk ha h) t ht [] _ (rowsRd_new w) _ rfl
  have hBox : Below w.heap.size w (w.alloc (.cells #[.func (.func 61) #[] #[]] 103)) := (Below.refl _ w).alloc (Nat.le_refl _) _
  have hnil : StrsAt w.heap.size w (.slice none 0 0) [] := World.ownsRow_nil _ _ _ _
  by_cases h2 : 200000 < t.length
  · have e : readOut t = (2, 0, []) := by unfold readOut; rw [if_pos h2]
    rw [e]
    obtain ⟨s, hs⟩ : ∃ s : ByteArray, s = ⟨t.toArray⟩ := ⟨_, rfl⟩
    rw [← hs]
    have h3 : (200000 : Int) < (s.size : Int) := by have := (word_dec _ s hs).1; omega
    have HBox := Lib.hid hBox
    clear hl hrows e hs h2 hBox
    go_enter Tryz.func63, Tryz.ntmps63
    go_wp2_with fail
    go_ret3
    exact ⟨_, rfl, World.ownsRow_nil _ _ _ _, HBox.out⟩
  · obtain ⟨R, hR⟩ : ∃ R, R = readS patStep t.length t 0 [] := ⟨_, rfl⟩
    rw [← hR] at hl hrows
    have e : readOut t = if R.2.1 = true then (if linesErr R.2.2 = 0 then (0, 0, R.2.2) else (linesErr R.2.2, 0, [])) else (9, R.1, []) := by unfold readOut; rw [if_neg h2, ← hR]
    obtain ⟨O, hO⟩ : ∃ O, O = readOut t := ⟨_, rfl⟩
    rw [← hO] at e ⊢
    obtain ⟨r1, r2, r3⟩ := R
    dsimp only at e hl hrows
    have hb3 : ∀ k, k < r3.length → (r3.getD k []).length ≤ 1000000 := fun k hk => by
      have e : r3.getD k [] = r3[k] := by simp [List.getD, hk]
      have := hrows.2 (r3.getD k []) (by rw [e]; exact List.getElem_mem hk)
      omega
    have hz3 : r3.length ≤ 1000000 := by have := hrows.1; simp at this; omega
    obtain ⟨s, hs⟩ : ∃ s : ByteArray, s = ⟨t.toArray⟩ := ⟨_, rfl⟩
    rw [← hs] at hl ⊢
    have h3 : (s.size : Int) ≤ 200000 := by have := (word_dec _ s hs).1; omega
    have H := Lib.hid (⟨e, hnil, hb3, hz3⟩ : _ ∧ _ ∧ _ ∧ _)
    clear hrows e hs h2 hnil hb3 hz3 hO hR ht hBox
    go_enter Tryz.func63, Tryz.ntmps63
    go_wp2_with fail
    refine hl.mono ?_
    rintro e w2 ⟨rfl, k, hV⟩
    clear hl
    obtain ⟨⟨-, hB2, -, -, v, hcv, hst⟩, -, -⟩ := hV
    cases r2 with
    | false =>
      have he := H.out.1
      rw [if_neg (by decide)] at he
      have HF := Lib.hid (⟨he, hB2⟩ : _ ∧ _)
      clear he hB2 hcv hst
      go_wp2_with fail
      go_ret3
      have he := HF.out.1
      subst he
      exact ⟨_, rfl, World.ownsRow_nil _ _ _ _, HF.out.2⟩
    | true =>
      have he := H.out.1
      rw [if_pos rfl] at he
      have hc := checkLines_any r3 H.out.2.2.2 H.out.2.2.1 _ w2 v hst
      obtain ⟨a, c, rfl, -⟩ := strs_open hst
      have HF := Lib.hid (⟨hB2, hst⟩ : _ ∧ _)
      clear hst
      have hlt := World.block_lt_of_cell? w2 ⟨w.heap.size + 1, 0, none⟩ hcv
      by_cases hE : linesErr r3 = 0
      · rw [if_pos hE] at he
        rw [hE] at hc
        have HE := Lib.hid he
        clear he hE hB2
        go_wp2_with fail
        refine hc.mono ?_
        rintro e w3 ⟨rfl, hB3⟩
        clear hc
        have hcv3 := (hB3.cell (p := ⟨w.heap.size + 1, 0, none⟩) hlt).trans hcv
        have HG := Lib.hid (⟨HF.out.1.trans (hB3.mono HF.out.1.size), row_base (row_later HF.out.2 hB3) (show w.heap.size ≤ w.heap.size + 1 + 1 by omega)⟩ : _ ∧ _)
        clear hB3 hcv HF
        go_wp2_with fail
        go_ret3
        have he := HE.out
        subst he
        exact ⟨_, rfl, HG.out.2, HG.out.1⟩
      · rw [if_neg hE] at he
        generalize linesErr r3 = E at hc hE he
        have hne : (E != 0) = true := by simpa using hE
        have hne2 : (E == 0) = false := by simpa using hE
        have HE := Lib.hid he
        clear he hE hB2
        go_wp2_with fail
        refine hc.mono ?_
        rintro e w3 ⟨rfl, hB3⟩
        clear hc
        have HG := Lib.hid (HF.out.1.trans (hB3.mono HF.out.1.size))
        clear hB3 hcv HF
        go_wp2_with fail
        go_ret3
        have he := HE.out
        subst he
        exact ⟨_, rfl, World.ownsRow_nil _ _ _ _, HG.out⟩
set_option maxHeartbeats 4000000 in
set_option maxRecDepth 100000 in
theorem pRead_any (t : List UInt8) (ht : t.length ≤ 1000000) (w : World) :
    Calls Tryz.prog 25 #[.string ⟨t.toArray⟩] w fun e w' => ∃ v', e = .returned (.tuple #[v', .int .i64 (readOut t).2.1, .int .i64 (readOut t).1]) ∧ StrsAt w.heap.size w' v' (readOut t).2.2 ∧ Below w.heap.size w w' := by
  have hl := readList_any t ht w
  generalize readOut t = O at hl ⊢
  obtain ⟨s, hs⟩ : ∃ s : ByteArray, s = ⟨t.toArray⟩ := ⟨_, rfl⟩
  rw [← hs] at hl ⊢
  clear hs ht
  go_enter Tryz.func25, Tryz.ntmps25
  go_wp2_with fail
  refine hl.mono ?_
  rintro e w2 ⟨v', rfl, h1, h2⟩
  obtain ⟨a, c, rfl, -⟩ := strs_open h1
  have H := Lib.hid (⟨h1, h2⟩ : _ ∧ _)
  clear hl h1 h2
  go_wp2_with fail
  go_ret3
  exact ⟨_, rfl, H.out⟩
end Go.Proofs.YtoipgliokelcfaaGreatDoor
/- strings.Builder's writers, at this translation; the closures that write lines; the program's Write and Text of vectors. -/
namespace Go.Proofs.YtoipgliokelcfaaGreatDoor
open Go.RowKit

def rnB : Go.Shelf.Ren := ⟨fun | 167 => 82 | n => Tryz.lays156_ren.f n, Tryz.lays156_ren.t, Tryz.lays156_ren.g⟩
theorem laysWS : Go.Proofs.Lays.n166 Tryz.prog Tryz.lays156_ren := { Tryz.lays156 with }
theorem laysWB : Go.Proofs.Lays.n167 Tryz.prog rnB := { Tryz.lays156 with f167 := Tryz.func82.trans (congrArg some (by kernel_rfl)), t5 := Tryz.underlying5, a5 := Tryz.isAgg5, z5 := Tryz.sizeOf5, v5 := Tryz.zeroValue5 }
theorem extraWB : Builder.Extra Tryz.prog rnB := { sizeBuilder := by kernel_rfl, liesBuilder := by kernel_rfl, t5 := Tryz.underlying5, a5 := Tryz.isAgg5, z5 := Tryz.sizeOf5, v5 := Tryz.zeroValue5, infoByte := by kernel_rfl, cellsByte := by kernel_rfl, sizeByte := by kernel_rfl, neB5 := by decide }
abbrev BldF (B b : Nat) (l : List UInt8) (w : World) : Prop := Lib.IsBuilderF 67 5 B b (Lib.byteCells l) w
theorem strCells_data (s : ByteArray) : Lib.strCells s = Lib.byteCells s.data.toList := rfl
theorem byteCells_append (a b : List UInt8) : Lib.byteCells (a ++ b) = Lib.byteCells a ++ Lib.byteCells b := by unfold Lib.byteCells; rw [List.map_append]

theorem writeString_any (B b : Nat) (l : List UInt8) (s : ByteArray) (w : World) (h : BldF B b l w) (hl : l.length ≤ 100000000) (hs : s.size ≤ 1000000) (hBw : B ≤ w.heap.size) :
    Calls Tryz.prog 32 #[.pointer (some ⟨b, 0, none⟩), .string s] w fun e w' => e = .returned (.tuple #[.int .i64 (s.size : Int), .nilIface]) ∧ BldF B b (l ++ s.data.toList) w' ∧ Below B w w' := by
  refine (Any.Builder_WriteString_k laysWS Tryz.Builder_Extra_156 B b (Lib.byteCells l) s w h (by rw [Lib.byteCells_length]; omega) hBw).mono ?_
  rintro e w' ⟨rfl, hA, hB, -⟩
  refine ⟨rfl, .inr ?_, hB⟩
  rw [byteCells_append, ← strCells_data]
  exact hA
theorem writeByte_any (B b : Nat) (l : List UInt8) (c : UInt8) (w : World) (h : BldF B b l w) (hl : l.length ≤ 100000000) (hBw : B ≤ w.heap.size) :
    Calls Tryz.prog 82 #[.pointer (some ⟨b, 0, none⟩), .int .u8 (c.toNat : Int)] w fun e w' => e = .returned .nilIface ∧ BldF B b (l ++ [c]) w' ∧ Below B w w' := by
  refine (Any.Builder_WriteByte_k laysWB extraWB B b (Lib.byteCells l) (c.toNat : Int) w h (by rw [Lib.byteCells_length]; omega) hBw).mono ?_
  rintro e w' ⟨rfl, hA, hB, -⟩
  refine ⟨rfl, .inr ?_, hB⟩
  rw [byteCells_append]
  exact hA
theorem bLen_any (B b : Nat) (l : List UInt8) (w : World) (h : BldF B b l w) : Calls Tryz.prog 33 #[.pointer (some ⟨b, 0, none⟩)] w fun e w' => e = .returned (.int .i64 (l.length : Int)) ∧ w = w' := by
  refine (Tryz.Builder_Len_f B b _ w h).mono ?_
  rintro e w' ⟨rfl, rfl⟩
  rw [Lib.byteCells_length]
  exact ⟨rfl, rfl⟩
theorem bString_any (B b : Nat) (l : List UInt8) (w : World) (h : BldF B b l w) (hBw : B ≤ w.heap.size) : Calls Tryz.prog 34 #[.pointer (some ⟨b, 0, none⟩)] w fun e w' => e = .returned (.string ⟨l.toArray⟩) ∧ Below B w w' := by
  refine (Tryz.Builder_String_any_k B b l w h hBw).mono ?_
  rintro e w' ⟨rfl, -, hB, -⟩
  exact ⟨rfl, hB⟩
theorem bld_new (w : World) : BldF w.heap.size w.heap.size [] (w.alloc (.cells #[.pointer none, .slice none 0 0] 67)) :=
  .inl ⟨Nat.le_refl _, _, heap_alloc_new w _, World.ownsRowF_of (World.ownsRow_nil _ _ _ _), by simp [Value.ownBlock]⟩
theorem bld_kept {B b : Nat} {l : List UInt8} {w w' : World} (h : BldF B b l w) (hB : Below w.heap.size w w') : BldF B b l w' := by
  have one : ∀ {p : Value}, Lib.BuilderAtF 67 5 B b p (Lib.byteCells l) w → Lib.BuilderAtF 67 5 B b p (Lib.byteCells l) w' := fun h => by
    have hlt := h.lt
    obtain ⟨h1, v, h2, h3, h4⟩ := h
    refine ⟨h1, v, (hB.block b hlt).trans h2, ?_, h4⟩
    obtain ⟨k1, k2 | ⟨g, cap, cur, fz, e1, e2, e3, e4⟩⟩ := h3
    · exact ⟨k1, .inl k2⟩
    · exact ⟨k1, .inr ⟨g, cap, cur, fz, e1, e2, (hB.block g (Array.getElem?_eq_some_iff.1 e3).1).trans e3, e4⟩⟩
  exact h.elim (fun h => .inl (one h)) (fun h => .inr (one h))

theorem join_one (x sep : List UInt8) : Lib.join [x] sep = x := by simp [Lib.join]
set_option maxHeartbeats 2000000 in
/-- The closure that writes a line, of one word. -/
theorem write1_any (B b : Nat) (l : List UInt8) (s : ByteArray) (g c : Nat) (w : World) (h : BldF B b l w) (hl : l.length ≤ 90000000) (hs : s.size ≤ 1000000) (hBw : B ≤ w.heap.size) (hg : g < w.heap.size) (hc : w.cell? ⟨g, 0, none⟩ = some (.string s)) (hc1 : 1 ≤ c) :
    Calls Tryz.prog 97 #[.slice (some ⟨g, 0, none⟩) 1 c, .pointer (some ⟨b, 0, none⟩)] w fun e w' => e = .returned (.tuple #[]) ∧ BldF B b (l ++ s.data.toList ++ [10]) w' ∧ Below B w w' := by
  have hjn : Lib.join ([s].map (·.data.toList)) (⟨#[32]⟩ : ByteArray).data.toList = s.data.toList := join_one _ _
  have hj := Tryz.strings_Join g 0 c [s] ⟨#[32]⟩ w (fun j x hx => by
    cases j with
    | zero =>
      obtain rfl : s = x := by simpa using hx
      exact hc
    | succ j => simp at hx) hg (by simp) hc1 (by rw [hjn]; simp; omega)
  rw [hjn] at hj
  change Calls Tryz.prog _ #[.slice (some ⟨g, 0, none⟩) 1 c, .string ⟨#[32]⟩] _ (fun e w' => e = .returned (.string s) ∧ Below w.heap.size w w') at hj
  clear hjn
  have H := Lib.hid (⟨h, hBw⟩ : _ ∧ _)
  clear h hc
  have hlen : (l ++ s.data.toList).length ≤ 100000000 := by rw [List.length_append]; simp; omega
  have HL := Lib.hid hlen
  clear hlen
  go_enter Tryz.func97, Tryz.ntmps97
  go_wp2_with fail
  refine hj.mono ?_
  rintro e w2 ⟨rfl, hB2⟩
  clear hj
  have hws := writeString_any B b l s w2 (bld_kept H.out.1 hB2) (by omega) hs (Nat.le_trans H.out.2 hB2.size)
  have HB2 := Lib.hid (hB2.mono H.out.2)
  clear hB2
  go_wp2_with fail
  refine hws.mono ?_
  rintro e w3 ⟨rfl, hA3, hB3⟩
  clear hws
  have hwb := writeByte_any B b _ 10 w3 hA3 HL.out (Nat.le_trans H.out.2 (HB2.out.trans hB3).size)
  have HB3 := Lib.hid (HB2.out.trans hB3)
  clear hB3 HB2 hA3
  go_wp2_with fail
  refine hwb.mono ?_
  rintro e w4 ⟨rfl, hA4, hB4⟩
  clear hwb
  have HB4 := Lib.hid (⟨hA4, HB3.out.trans hB4⟩ : _ ∧ _)
  clear hB4 hA4
  go_wp2_with fail
  go_end0
  exact ⟨rfl, HB4.out⟩
end Go.Proofs.YtoipgliokelcfaaGreatDoor
