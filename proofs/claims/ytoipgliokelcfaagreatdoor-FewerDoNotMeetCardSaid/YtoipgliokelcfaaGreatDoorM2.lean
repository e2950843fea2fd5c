/- The program's Read of vectors, the reference's PatternsRead. -/
import Derived.Test.YtoipgliokelcfaaGreatDoorPwRead
import Derived.Shelf.Strings.OnBuilder
import Derived.Test.YtoipgliokelcfaaGreatDoorPvMs
import Derived.Test.YtoipgliokelcfaaGreatDoorGmA
namespace Go.Proofs.YtoipgliokelcfaaGreatDoor
open Go.RowKit

/-- What Read returns: the error, the line's number, the rows. -/
def readOut (t : List UInt8) : Int × Int × List (List UInt8) :=
  if 200000 < t.length then (2, 0, []) else
  if (readS patStep t.length t 0 []).2.1 = true then (if linesErr (readS patStep t.length t 0 []).2.2 = 0 then (0, 0, (readS patStep t.length t 0 []).2.2) else (linesErr (readS patStep t.length t 0 []).2.2, 0, []))
  else (9, (readS patStep t.length t 0 []).1, [])
theorem readOut_rows (t : List UInt8) : (readOut t).2.2.length ≤ t.length ∧ ∀ x, x ∈ (readOut t).2.2 → x.length ≤ t.length := by
  have h := patStep_rows t.length t 0 [] t.length (Nat.le_refl _) (fun x hx => by cases hx)
  unfold readOut
  split
  · exact ⟨Nat.zero_le _, fun x hx => by cases hx⟩
  split
  · split
    · exact ⟨by simpa using h.1, h.2⟩
    · exact ⟨Nat.zero_le _, fun x hx => by cases hx⟩
  · exact ⟨Nat.zero_le _, fun x hx => by cases hx⟩
theorem rowsVar_new (w : World) : RowsVar w w.heap.size 0 [] (w.alloc (.cells #[.slice none 0 0] 39)) :=
  ⟨Nat.le_refl _, (Below.refl _ w).alloc (Nat.le_refl _) _, rfl, frozen_fresh _ _ _ _, _, cell_fresh _ _ _ rfl, World.ownsRow_nil _ _ _ _⟩
theorem rowsRd_new (w : World) : RowsRd w w.heap.size (w.heap.size + 1) 0 [] ((w.alloc (.cells #[.func (.func 61) #[] #[]] 103)).alloc (.cells #[.slice none 0 0] 39)) := by
  have h := rowsVar_new (w.alloc (.cells #[.func (.func 61) #[] #[]] 103))
  have hz : (w.alloc (.cells #[.func (.func 61) #[] #[]] 103)).heap.size = w.heap.size + 1 := by simp
  rw [hz] at h
  have hB : Below w.heap.size w (w.alloc (.cells #[.func (.func 61) #[] #[]] 103)) := (Below.refl _ w).alloc (Nat.le_refl _) _
  obtain ⟨h1, h2, h3⟩ := h
  refine ⟨⟨by omega, hB.trans (h2.mono (by omega)), h3⟩, ?_, by omega⟩
  exact (h2.cell (p := ⟨w.heap.size, 0, none⟩) (by show w.heap.size < _; omega)).trans (cell_fresh w #[.func (.func 61) #[] #[]] _ rfl)
set_option maxHeartbeats 4000000 in
set_option maxRecDepth 100000 in
theorem readList_any (t : List UInt8) (ht : t.length ≤ 1000000) (w : World) :
    Calls Tryz.prog 63 #[.string ⟨t.toArray⟩, .func (.func 61) #[] #[], .func (.func 58) #[] #[]] w fun e w' => ∃ v', e = .returned (.tuple #[v', .int .i64 (readOut t).2.1, .int .i64 (readOut t).1]) ∧ StrsAt w.heap.size w' v' (readOut t).2.2 ∧ Below w.heap.size w w' := by
  have hrows := patStep_rows t.length t 0 [] t.length (Nat.le_refl _) (fun x hx => by cases hx)
  have hl := wLinesP_any patStep (RowsRd w w.heap.size (w.heap.size + 1)) w.heap.size (w.heap.size + 1) (fun _ _ _ _ h hB => h.later hB) (fun k s a W hk ha h => rls1_any w w.heap.size (w.heap.size + 1) k s a W hk ha h) t ht [] _ (rowsRd_new w) _ rfl
  have hBox : Below w.heap.size w (w.alloc (.cells #[.func (.func 61) #[] #[]] 103)) := (Below.refl _ w).alloc (Nat.le_refl _) _
  have hnil : StrsAt w.heap.size w (.slice none 0 0) [] := World.ownsRow_nil _ _ _ _
  by_cases h2 : 200000 < t.length
  · have e : readOut t = (2, 0, []) := by unfold readOut; rw [if_pos h2]
    rw [e]
    obtain ⟨s, hs⟩ : ∃ s : ByteArray, s = ⟨t.toArray⟩ := ⟨_, rfl⟩
    rw [← hs]
    have h3 : (200000 : Int) < (s.size : Int) := by have := (word_dec _ s hs).1; omega
    have HBox := Lib.hid hBox
    clear hl hrows e hs h2 hBox
    go_enter Tryz.func63, Tryz.ntmps63
    go_wp2_with fail
    go_ret3
    exact ⟨_, rfl, World.ownsRow_nil _ _ _ _, HBox.out⟩
  · obtain ⟨R, hR⟩ : ∃ R, R = readS patStep t.length t 0 [] := ⟨_, rfl⟩
    rw [← hR] at hl hrows
    have e : readOut t = if R.2.1 = true then (if linesErr R.2.2 = 0 then (0, 0, R.2.2) else (linesErr R.2.2, 0, [])) else (9, R.1, []) := by unfold readOut; rw [if_neg h2, ← hR]
    obtain ⟨O, hO⟩ : ∃ O, O = readOut t := ⟨_, rfl⟩
    rw [← hO] at e ⊢
    obtain ⟨r1, r2, r3⟩ := R
    dsimp only at e hl hrows
    have hb3 : ∀ k, k < r3.length → (r3.getD k []).length ≤ 1000000 := fun k hk => by
      have e : r3.getD k [] = r3[k] := by simp [List.getD, hk]
      have := hrows.2 (r3.getD k []) (by rw [e]; exact List.getElem_mem hk)
      omega
    have hz3 : r3.length ≤ 1000000 := by have := hrows.1; simp at this; omega
    obtain ⟨s, hs⟩ : ∃ s : ByteArray, s = ⟨t.toArray⟩ := ⟨_, rfl⟩
    rw [← hs] at hl ⊢
    have h3 : (s.size : Int) ≤ 200000 := by have := (word_dec _ s hs).1; omega
    have H := Lib.hid (⟨e, hnil, hb3, hz3⟩ : _ ∧ _ ∧ _ ∧ _)
    clear hrows e hs h2 hnil hb3 hz3 hO hR ht hBox
    go_enter Tryz.func63, Tryz.ntmps63
    go_wp2_with fail
    refine hl.mono ?_
    rintro e w2 ⟨rfl, k, hV⟩
    clear hl
    obtain ⟨⟨-, hB2, -, -, v, hcv, hst⟩, -, -⟩ := hV
    cases r2 with
    | false =>
      have he := H.out.1
      rw [if_neg (by decide)] at he
      have HF := Lib.hid (⟨he, hB2⟩ : _ ∧ _)
      clear he hB2 hcv hst
      go_wp2_with fail
      go_ret3
      have he := HF.out.1
      subst he
      exact ⟨_, rfl, World.ownsRow_nil _ _ _ _, HF.out.2⟩
    | true =>
      have he := H.out.1
      rw [if_pos rfl] at he
      have hc := checkLines_any r3 H.out.2.2.2 H.out.2.2.1 _ w2 v hst
      obtain ⟨a, c, rfl, -⟩ := strs_open hst
      have HF := Lib.hid (⟨hB2, hst⟩ : _ ∧ _)
      clear hst
      have hlt := World.block_lt_of_cell? w2 ⟨w.heap.size + 1, 0, none⟩ hcv
      by_cases hE : linesErr r3 = 0
      · rw [if_pos hE] at he
        rw [hE] at hc
        have HE := Lib.hid he
        clear he hE hB2
        go_wp2_with fail
        refine hc.mono ?_
        rintro e w3 ⟨rfl, hB3⟩
        clear hc
        have hcv3 := (hB3.cell (p := ⟨w.heap.size + 1, 0, none⟩) hlt).trans hcv
        have HG := Lib.hid (⟨HF.out.1.trans (hB3.mono HF.out.1.size), row_base (row_later HF.out.2 hB3) (show w.heap.size ≤ w.heap.size + 1 + 1 by omega)⟩ : _ ∧ _)
        clear hB3 hcv HF
        go_wp2_with fail
        go_ret3
        have he := HE.out
        subst he
        exact ⟨_, rfl, HG.out.2, HG.out.1⟩
      · rw [if_neg hE] at he
        generalize linesErr r3 = E at hc hE he
        have hne : (E != 0) = true := by simpa using hE
        have hne2 : (E == 0) = false := by simpa using hE
        have HE := Lib.hid he
        clear he hE hB2
        go_wp2_with fail
        refine hc.mono ?_
        rintro e w3 ⟨rfl, hB3⟩
        clear hc
        have HG := Lib.hid (HF.out.1.trans (hB3.mono HF.out.1.size))
        clear hB3 hcv HF
        go_wp2_with fail
        go_ret3
        have he := HE.out
        subst he
        exact ⟨_, rfl, World.ownsRow_nil _ _ _ _, HG.out⟩
set_option maxHeartbeats 4000000 in
set_option maxRecDepth 100000 in
theorem pRead_any (t : List UInt8) (ht : t.length ≤ 1000000) (w : World) :
    Calls Tryz.prog 25 #[.string ⟨t.toArray⟩] w fun e w' => ∃ v', e = .returned (.tuple #[v', .int .i64 (readOut t).2.1, .int .i64 (readOut t).1]) ∧ StrsAt w.heap.size w' v' (readOut t).2.2 ∧ Below w.heap.size w w' := by
  have hl := readList_any t ht w
  generalize readOut t = O at hl ⊢
  obtain ⟨s, hs⟩ : ∃ s : ByteArray, s = ⟨t.toArray⟩ := ⟨_, rfl⟩
  rw [← hs] at hl ⊢
  clear hs ht
  go_enter Tryz.func25, Tryz.ntmps25
  go_wp2_with fail
  refine hl.mono ?_
  rintro e w2 ⟨v', rfl, h1, h2⟩
  obtain ⟨a, c, rfl, -⟩ := strs_open h1
  have H := Lib.hid (⟨h1, h2⟩ : _ ∧ _)
  clear hl h1 h2
  go_wp2_with fail
  go_ret3
  exact ⟨_, rfl, H.out⟩
end Go.Proofs.YtoipgliokelcfaaGreatDoor
/- strings.Builder's writers, at this translation; the closures that write lines; the program's Write and Text of vectors. -/
namespace Go.Proofs.YtoipgliokelcfaaGreatDoor
open Go.RowKit

def rnB : Go.Shelf.Ren := ⟨fun | 167 => 82 | n => Tryz.lays156_ren.f n, Tryz.lays156_ren.t, Tryz.lays156_ren.g⟩
theorem laysWS : Go.Proofs.Lays.n166 Tryz.prog Tryz.lays156_ren := { Tryz.lays156 with }
theorem laysWB : Go.Proofs.Lays.n167 Tryz.prog rnB := { Tryz.lays156 with f167 := Tryz.func82.trans (congrArg some (by kernel_rfl)), t5 := Tryz.underlying5, a5 := Tryz.isAgg5, z5 := Tryz.sizeOf5, v5 := Tryz.zeroValue5 }
theorem extraWB : Builder.Extra Tryz.prog rnB := { sizeBuilder := by kernel_rfl, liesBuilder := by kernel_rfl, t5 := Tryz.underlying5, a5 := Tryz.isAgg5, z5 := Tryz.sizeOf5, v5 := Tryz.zeroValue5, infoByte := by kernel_rfl, cellsByte := by kernel_rfl, sizeByte := by kernel_rfl, neB5 := by decide }
abbrev BldF (B b : Nat) (l : List UInt8) (w : World) : Prop := Lib.IsBuilderF 67 5 B b (Lib.byteCells l) w
theorem strCells_data (s : ByteArray) : Lib.strCells s = Lib.byteCells s.data.toList := rfl
theorem byteCells_append (a b : List UInt8) : Lib.byteCells (a ++ b) = Lib.byteCells a ++ Lib.byteCells b := by unfold Lib.byteCells; rw [List.map_append]

theorem writeString_any (B b : Nat) (l : List UInt8) (s : ByteArray) (w : World) (h : BldF B b l w) (hl : l.length ≤ 100000000) (hs : s.size ≤ 1000000) (hBw : B ≤ w.heap.size) :
    Calls Tryz.prog 32 #[.pointer (some ⟨b, 0, none⟩), .string s] w fun e w' => e = .returned (.tuple #[.int .i64 (s.size : Int), .nilIface]) ∧ BldF B b (l ++ s.data.toList) w' ∧ Below B w w' := by
  refine (Any.Builder_WriteString_k laysWS Tryz.Builder_Extra_156 B b (Lib.byteCells l) s w h (by rw [Lib.byteCells_length]; omega) hBw).mono ?_
  rintro e w' ⟨rfl, hA, hB, -⟩
  refine ⟨rfl, .inr ?_, hB⟩
  rw [byteCells_append, ← strCells_data]
  exact hA
theorem writeByte_any (B b : Nat) (l : List UInt8) (c : UInt8) (w : World) (h : BldF B b l w) (hl : l.length ≤ 100000000) (hBw : B ≤ w.heap.size) :
    Calls Tryz.prog 82 #[.pointer (some ⟨b, 0, none⟩), .int .u8 (c.toNat : Int)] w fun e w' => e = .returned .nilIface ∧ BldF B b (l ++ [c]) w' ∧ Below B w w' := by
  refine (Any.Builder_WriteByte_k laysWB extraWB B b (Lib.byteCells l) (c.toNat : Int) w h (by rw [Lib.byteCells_length]; omega) hBw).mono ?_
  rintro e w' ⟨rfl, hA, hB, -⟩
  refine ⟨rfl, .inr ?_, hB⟩
  rw [byteCells_append]
  exact hA
theorem bLen_any (B b : Nat) (l : List UInt8) (w : World) (h : BldF B b l w) : Calls Tryz.prog 33 #[.pointer (some ⟨b, 0, none⟩)] w fun e w' => e = .returned (.int .i64 (l.length : Int)) ∧ w = w' := by
  refine (Tryz.Builder_Len_f B b _ w h).mono ?_
  rintro e w' ⟨rfl, rfl⟩
  rw [Lib.byteCells_length]
  exact ⟨rfl, rfl⟩
theorem bString_any (B b : Nat) (l : List UInt8) (w : World) (h : BldF B b l w) (hBw : B ≤ w.heap.size) : Calls Tryz.prog 34 #[.pointer (some ⟨b, 0, none⟩)] w fun e w' => e = .returned (.string ⟨l.toArray⟩) ∧ Below B w w' := by
  refine (Tryz.Builder_String_any_k B b l w h hBw).mono ?_
  rintro e w' ⟨rfl, -, hB, -⟩
  exact ⟨rfl, hB⟩
theorem bld_new (w : World) : BldF w.heap.size w.heap.size [] (w.alloc (.cells #[.pointer none, .slice none 0 0] 67)) :=
  .inl ⟨Nat.le_refl _, _, heap_alloc_new w _, World.ownsRowF_of (World.ownsRow_nil _ _ _ _), by simp [Value.ownBlock]⟩
theorem bld_kept {B b : Nat} {l : List UInt8} {w w' : World} (h : BldF B b l w) (hB : Below w.heap.size w w') : BldF B b l w' := by
  have one : ∀ {p : Value}, Lib.BuilderAtF 67 5 B b p (Lib.byteCells l) w → Lib.BuilderAtF 67 5 B b p (Lib.byteCells l) w' := fun h => by
    have hlt := h.lt
    obtain ⟨h1, v, h2, h3, h4⟩ := h
    refine ⟨h1, v, (hB.block b hlt).trans h2, ?_, h4⟩
    obtain ⟨k1, k2 | ⟨g, cap, cur, fz, e1, e2, e3, e4⟩⟩ := h3
    · exact ⟨k1, .inl k2⟩
    · exact ⟨k1, .inr ⟨g, cap, cur, fz, e1, e2, (hB.block g (Array.getElem?_eq_some_iff.1 e3).1).trans e3, e4⟩⟩
  exact h.elim (fun h => .inl (one h)) (fun h => .inr (one h))

theorem join_one (x sep : List UInt8) : Lib.join [x] sep = x := by simp [Lib.join]
set_option maxHeartbeats 2000000 in
/-- The closure that writes a line, of one word. -/
theorem write1_any (B b : Nat) (l : List UInt8) (s : ByteArray) (g c : Nat) (w : World) (h : BldF B b l w) (hl : l.length ≤ 90000000) (hs : s.size ≤ 1000000) (hBw : B ≤ w.heap.size) (hg : g < w.heap.size) (hc : w.cell? ⟨g, 0, none⟩ = some (.string s)) (hc1 : 1 ≤ c) :
    Calls Tryz.prog 97 #[.slice (some ⟨g, 0, none⟩) 1 c, .pointer (some ⟨b, 0, none⟩)] w fun e w' => e = .returned (.tuple #[]) ∧ BldF B b (l ++ s.data.toList ++ [10]) w' ∧ Below B w w' := by
  have hjn : Lib.join ([s].map (·.data.toList)) (⟨#[32]⟩ : ByteArray).data.toList = s.data.toList := join_one _ _
  have hj := Tryz.strings_Join g 0 c [s] ⟨#[32]⟩ w (fun j x hx => by
    cases j with
    | zero =>
      obtain rfl : s = x := by simpa using hx
      exact hc
    | succ j => simp at hx) hg (by simp) hc1 (by rw [hjn]; simp; omega)
  rw [hjn] at hj
  change Calls Tryz.prog _ #[.slice (some ⟨g, 0, none⟩) 1 c, .string ⟨#[32]⟩] _ (fun e w' => e = .returned (.string s) ∧ Below w.heap.size w w') at hj
  clear hjn
  have H := Lib.hid (⟨h, hBw⟩ : _ ∧ _)
  clear h hc
  have hlen : (l ++ s.data.toList).length ≤ 100000000 := by rw [List.length_append]; simp; omega
  have HL := Lib.hid hlen
  clear hlen
  go_enter Tryz.func97, Tryz.ntmps97
  go_wp2_with fail
  refine hj.mono ?_
  rintro e w2 ⟨rfl, hB2⟩
  clear hj
  have hws := writeString_any B b l s w2 (bld_kept H.out.1 hB2) (by omega) hs (Nat.le_trans H.out.2 hB2.size)
  have HB2 := Lib.hid (hB2.mono H.out.2)
  clear hB2
  go_wp2_with fail
  refine hws.mono ?_
  rintro e w3 ⟨rfl, hA3, hB3⟩
  clear hws
  have hwb := writeByte_any B b _ 10 w3 hA3 HL.out (Nat.le_trans H.out.2 (HB2.out.trans hB3).size)
  have HB3 := Lib.hid (HB2.out.trans hB3)
  clear hB3 HB2 hA3
  go_wp2_with fail
  refine hwb.mono ?_
  rintro e w4 ⟨rfl, hA4, hB4⟩
  clear hwb
  have HB4 := Lib.hid (⟨hA4, HB3.out.trans hB4⟩ : _ ∧ _)
  clear hB4 hA4
  go_wp2_with fail
  go_end0
  exact ⟨rfl, HB4.out⟩
end Go.Proofs.YtoipgliokelcfaaGreatDoor
/- The program's Text of vectors; the reference's PatternLines. -/
namespace Go.Proofs.YtoipgliokelcfaaGreatDoor
open Go.RowKit

/-- Lines. -/
def textL (S : List (List UInt8)) : List UInt8 := S.flatMap (· ++ [10])
theorem textL_succ (S : List (List UInt8)) (k : Nat) (hk : k < S.length) : textL (S.take (k + 1)) = textL (S.take k) ++ S.getD k [] ++ [10] := by
  unfold textL
  rw [List.take_succ_eq_append_getElem hk, List.flatMap_append]
  simp [List.getD, hk]
theorem textL_len (S : List (List UInt8)) (m : Nat) (h : ∀ k, k < S.length → (S.getD k []).length ≤ m) : ∀ k, k ≤ S.length → (textL (S.take k)).length ≤ k * (m + 1)
  | 0, _ => by simp [textL]
  | k + 1, hk => by
    have h1 := textL_len S m h k (by omega)
    have h2 := h k (by omega)
    have h3 : (k + 1) * (m + 1) = k * (m + 1) + (m + 1) := by rw [Nat.add_mul]; omega
    rw [textL_succ S k (by omega), List.length_append, List.length_append, h3, List.length_singleton]
    omega
theorem textL_all (S : List (List UInt8)) : textL (S.take S.length) = textL S := by rw [List.take_length]

set_option maxHeartbeats 2000000 in
set_option maxRecDepth 100000 in
/-- The closure of Text. -/
theorem pText1_any (S : List (List UInt8)) (hz : S.length ≤ 1000) (hb : ∀ k, k < S.length → (S.getD k []).length ≤ 1000) (w0 : World) (v : Value) (Bv : Nat) (hv : StrsAt Bv w0 v S) (pv : Nat) (hcv : w0.cell? ⟨pv, 0, none⟩ = some v) (b : Nat) (w : World) (hw : Below w0.heap.size w0 w) (hbl : BldF w0.heap.size b [] w) :
    Calls Tryz.prog 60 #[.func (.func 97) #[] #[.pointer (some ⟨b, 0, none⟩)], .pointer (some ⟨pv, 0, none⟩)] w fun e w' => e = .returned (.tuple #[]) ∧ BldF w0.heap.size b (textL S) w' ∧ Below w0.heap.size w0 w' := by
  obtain ⟨a, c, rfl, hop⟩ := strs_open hv
  obtain ⟨n, hn⟩ : ∃ n, n = S.length := ⟨_, rfl⟩
  have hlt := World.block_lt_of_cell? w0 ⟨pv, 0, none⟩ hcv
  have hc := (hw.cell (p := ⟨pv, 0, none⟩) hlt).trans hcv
  have HH := Lib.hid (⟨hop, hb, hn⟩ : _ ∧ _ ∧ _)
  have H0 := Lib.hid (⟨hw, hbl⟩ : _ ∧ _)
  rw [← hn] at hz hc
  clear hv hop hb hn hw hbl hcv hlt
  go_enter Tryz.func60, Tryz.ntmps60
  go_wp2_with fail
  clear hc
  go_loopw [7] (fun i wr => ∃ k : Nat, k ≤ n ∧ i = .int .i64 (k : Int) ∧ BldF w0.heap.size b (textL (S.take k)) wr ∧ Below w0.heap.size w0 wr) (fun i _ => n - (intOf i).toNat)
  case atStart => exact ⟨0, by omega, rfl, H0.out.2, H0.out.1⟩
  case round =>
    clear H0
    obtain ⟨k, hk, rfl, hbl, hB⟩ := hrel
    by_cases hlt : k < n
    · obtain ⟨g, rfl, hg, hcell⟩ := HH.out.1 (by rw [← HH.out.2.2]; omega)
      have hkS : k < S.length := by rw [← HH.out.2.2]; exact hlt
      have hc := (hB.cell (p := ⟨g, k, none⟩) hg).trans (hcell k hkS)
      have hsz := HH.out.2.1 k hkS
      have hl := textL_len S 1000 HH.out.2.1 k (by omega)
      have hsu := textL_succ S k hkS
      obtain ⟨s, hs⟩ : ∃ s : ByteArray, s = ⟨(S.getD k []).toArray⟩ := ⟨_, rfl⟩
      have hw := word_dec _ s hs
      change _ = some (Value.string ⟨(S.getD k []).toArray⟩) at hc
      rw [← hs] at hc
      have hss : s.size ≤ 1000 := by have := hw.1; omega
      have hll : (textL (S.take k)).length ≤ 90000000 := by have : k * 1001 ≤ 1000 * 1001 := Nat.mul_le_mul_right _ (by omega); omega
      have hBa : Below wr.heap.size wr (wr.alloc (.cells #[.string s] 9)) := (Below.refl _ _).alloc (Nat.le_refl _) _
      have hcl := write1_any w0.heap.size b (textL (S.take k)) s wr.heap.size 1 (wr.alloc (.cells #[.string s] 9)) (bld_kept hbl hBa) hll (by omega) (Nat.le_trans hB.size hBa.size) (by simp) (cell_fresh _ _ _ rfl) (Nat.le_refl _)
      rw [hw.2, ← hsu] at hcl
      have HB := Lib.hid (hB.trans (hBa.mono hB.size))
      clear hcell hkS hsz hs hw hB hl hsu hll hbl hBa
      have hk0 : (0 : Int) ≤ (k : Int) := by omega
      have hk1 : (k : Int) < (n : Int) := by omega
      go_wp2_with fail
      refine hcl.mono ?_
      rintro e w2 ⟨rfl, hA2, hB2⟩
      clear hcl
      have HB2 := Lib.hid (⟨hA2, HB.out.trans hB2⟩ : _ ∧ _)
      clear hA2 hB2 HB
      go_wp2_with fail
      go_roundw
      case rel => exact ⟨k + 1, by omega, by go_num, HB2.out.1, HB2.out.2⟩
      case measure => simp [intOf]; omega
    · have hkn : k = S.length := by rw [← HH.out.2.2]; omega
      rw [hkn, textL_all] at hbl
      have HX := Lib.hid (⟨hbl, hB⟩ : _ ∧ _)
      clear hbl hkn hB
      go_wp2_with fail
      go_end0
      exact ⟨rfl, HX.out⟩

set_option maxHeartbeats 2000000 in
set_option maxRecDepth 100000 in
/-- Write, over Text's closure. -/
theorem writeText_any (S : List (List UInt8)) (hz : S.length ≤ 200) (hb : ∀ k, k < S.length → (S.getD k []).length ≤ 100) (w : World) (v : Value) (Bv : Nat) (hv : StrsAt Bv w v S) (pv : Nat) (hcv : w.cell? ⟨pv, 0, none⟩ = some v) :
    Calls Tryz.prog 59 #[.func (.func 60) #[] #[.pointer (some ⟨pv, 0, none⟩)]] w fun e w' => e = .returned (.tuple #[.string ⟨(textL S).toArray⟩, .int .i64 0]) ∧ Below w.heap.size w w' := by
  have hlen : (textL S).length ≤ 20200 := by
    have h := textL_len S 100 hb S.length (Nat.le_refl _)
    rw [textL_all] at h
    have : S.length * 101 ≤ 200 * 101 := Nat.mul_le_mul_right _ hz
    omega
  have hBa : Below w.heap.size w (w.alloc (.cells #[.pointer none, .slice none 0 0] 67)) := (Below.refl _ _).alloc (Nat.le_refl _) _
  have ht := pText1_any S (by omega) (fun k hk => by have := hb k hk; omega) w v Bv hv pv hcv w.heap.size _ hBa (bld_new w)
  generalize textL S = T at ht hlen ⊢
  have h3 : (T.length : Int) ≤ 200000 := by omega
  clear hv hcv hb hBa
  go_enter Tryz.func59, Tryz.ntmps59
  go_wp2_with fail
  refine ht.mono ?_
  rintro e w2 ⟨rfl, hA, hB⟩
  clear ht
  have hlb := bLen_any _ _ _ w2 hA
  have hst := bString_any _ _ _ w2 hA hB.size
  have HB := Lib.hid hB
  clear hA hB
  go_wp2_with fail
  refine hlb.mono ?_
  rintro e w3 ⟨rfl, rfl⟩
  clear hlb
  go_wp2_with fail
  refine hst.mono ?_
  rintro e w4 ⟨rfl, hB4⟩
  clear hst
  have HB4 := Lib.hid (HB.out.trans hB4)
  clear hB4 HB
  go_wp2_with fail
  go_ret2
  exact ⟨rfl, HB4.out⟩

theorem linesErr_none {S : List (List UInt8)} (h : linesErr S = 0) : S.length ≤ 200 ∧ ∀ k, k < S.length → (S.getD k []).length ≤ 100 := by
  unfold linesErr at h
  by_cases h2 : 200 < S.length
  · rw [if_pos h2] at h; cases h
  rw [if_neg h2] at h
  refine ⟨by omega, fun k hk => ?_⟩
  have e : S.getD k [] = S[k] := by simp [List.getD, hk]
  have h3 := firstErr_none _ S h (S.getD k []) (by rw [e]; exact List.getElem_mem hk)
  unfold lineErr at h3
  by_cases h4 : S.getD k [] = []
  · rw [if_pos h4] at h3; cases h3
  rw [if_neg h4] at h3
  by_cases h5 : 100 < (S.getD k []).length
  · rw [if_pos h5] at h3; cases h3
  · omega

set_option maxHeartbeats 2000000 in
theorem pText_bad (S : List (List UInt8)) (hz : S.length ≤ 1000000) (hb : ∀ k, k < S.length → (S.getD k []).length ≤ 1000000) (he : linesErr S ≠ 0) (B : Nat) (w : World) (v : Value) (h : StrsAt B w v S) :
    Calls Tryz.prog 24 #[v] w fun e w' => e = .returned (.tuple #[.string ⟨#[]⟩, .int .i64 (linesErr S)]) ∧ Below w.heap.size w w' := by
  have hBa : Below w.heap.size w (w.alloc (.cells #[v] 39)) := (Below.refl _ _).alloc (Nat.le_refl _) _
  have hc := checkLines_any S hz hb B _ v (row_later h hBa)
  obtain ⟨a, c, rfl, -⟩ := strs_open h
  generalize linesErr S = E at hc he ⊢
  have hne : (E != 0) = true := by simpa using he
  have hne2 : (E == 0) = false := by simpa using he
  have HB := Lib.hid hBa
  clear h hb he hBa
  go_enter Tryz.func24, Tryz.ntmps24
  go_wp2_with fail
  refine hc.mono ?_
  rintro e w' ⟨rfl, hB⟩
  clear hc
  have HB2 := Lib.hid (HB.out.trans (hB.mono HB.out.size))
  clear hB HB
  go_wp2_with fail
  go_ret2
  exact ⟨rfl, HB2.out⟩
set_option maxHeartbeats 2000000 in
theorem pText_ok (S : List (List UInt8)) (he : linesErr S = 0) (B : Nat) (w : World) (v : Value) (h : StrsAt B w v S) :
    Calls Tryz.prog 24 #[v] w fun e w' => e = .returned (.tuple #[.string ⟨(textL S).toArray⟩, .int .i64 0]) ∧ Below w.heap.size w w' := by
  obtain ⟨h1, h2⟩ := linesErr_none he
  have hBa : Below w.heap.size w (w.alloc (.cells #[v] 39)) := (Below.refl _ _).alloc (Nat.le_refl _) _
  have hc := checkLines_any S (by omega) (fun k hk => by have := h2 k hk; omega) B _ v (row_later h hBa)
  rw [he] at hc
  have hcv : (w.alloc (.cells #[v] 39)).cell? ⟨w.heap.size, 0, none⟩ = some v := cell_fresh _ _ _ rfl
  have ht := fun (W : World) (hB : Below (w.alloc (.cells #[v] 39)).heap.size (w.alloc (.cells #[v] 39)) W) => writeText_any S h1 h2 W v B (row_later (row_later h hBa) hB) w.heap.size ((hB.cell (p := ⟨w.heap.size, 0, none⟩) (by simp)).trans hcv)
  obtain ⟨a, c, rfl, -⟩ := strs_open h
  have HB := Lib.hid (⟨hBa, ht⟩ : _ ∧ _)
  generalize textL S = T at HB ⊢
  clear h h2 he hBa ht hcv
  go_enter Tryz.func24, Tryz.ntmps24
  go_wp2_with fail
  refine hc.mono ?_
  rintro e w2 ⟨rfl, hB⟩
  clear hc
  have ht := HB.out.2 w2 hB
  have HB2 := Lib.hid (HB.out.1.trans (hB.mono HB.out.1.size))
  clear hB HB
  go_wp2_with fail
  refine ht.mono ?_
  rintro e w3 ⟨rfl, hB3⟩
  clear ht
  have HB3 := Lib.hid (HB2.out.trans (hB3.mono HB2.out.size))
  clear hB3 HB2
  go_wp2_with fail
  go_ret2
  exact ⟨rfl, HB3.out⟩
end Go.Proofs.YtoipgliokelcfaaGreatDoor
/- The maker of right vectors, which are right; vectors that are written are read. Made by gens/sqa.py. -/
namespace Go.Proofs.YtoipgliokelcfaaGreatDoor
open Go.RowKit

set_option maxHeartbeats 2000000 in
set_option maxRecDepth 100000 in
theorem rightPatR_any (sb t most : Nat) (w : World) (hs : Strm w sb t) (ht : t ≤ 800000) (hm : most ≤ 10) :
    Calls Tryz.prog 20 #[.pointer (some ⟨sb, 0, none⟩), .int .i64 (most : Int)] w fun e w' => ∃ (z : Int) (v : Value), e = .returned (.tuple #[.int .i64 z, v]) ∧ ∃ S : List (List UInt8), StrsAt w.heap.size w' v S ∧ S.length ≤ 11 ∧ (∀ k, k < S.length → (S.getD k []).length ≤ 12) ∧ Ran sb t 600 w w' ∧ vecErr z S = 0 := by
  have hsb := hs.lt
  have hR0 : Ran sb t (100 * 0) w w := Ran.refl hs
  have HR0 := Lib.hid hR0
  clear hR0 hs
  go_enter Tryz.func20, Tryz.ntmps20
  go_wp2_with fail
  go_loopw [8] (fun c wr => ∃ k : Nat, k ≤ 6 ∧ c = .int .i64 (k : Int) ∧ Ran sb t (100 * k) w wr) (fun c _ => 6 - (intOf c).toNat)
  case atStart => exact ⟨0, by omega, rfl, HR0.out⟩
  case round =>
    clear HR0
    obtain ⟨k, hk, rfl, hr⟩ := hrel
    by_cases hlt : k < 6
    · obtain ⟨t1, ht1, ht1', hs1⟩ := hr.strm
      have HR := Lib.hid hr
      have hgl : w.heap.size ≤ wr.heap.size := hr.1.size
      clear hr
      go_wp2_with fail
      refine (patterns_any sb t1 most _ hs1 (by omega) hm).mono ?_
      rintro e w2 ⟨z, v, rfl, S, hS, hl, hz, hr2⟩
      have hr3 : Ran sb t (100 * (k + 1)) w w2 := (HR.out.then ht1 ht1' hr2).mono (by omega)
      have hS3 := row_base hS hgl
      obtain ⟨a, c, rfl, -⟩ := strs_open hS
      have hpf := patternsFault_any S z (by omega) (fun k hk => by have := hz k hk; omega) _ w2 _ hS
      have H := Lib.hid (⟨hS3, hl, hz, hr3⟩ : _ ∧ _ ∧ _ ∧ _)
      clear hS hS3 hz hr2 hr3 HR hs1
      by_cases hE : vecErr z S = 0
      · rw [hE] at hpf
        have HE := Lib.hid hE
        clear hE
        go_wp2_with fail
        refine hpf.mono ?_
        rintro e w3 ⟨rfl, hB3⟩
        clear hpf
        have HF := Lib.hid (⟨row_later H.out.1 hB3, H.out.2.2.2.then_below hB3⟩ : _ ∧ _)
        clear hB3
        go_wp2_with fail
        go_ret2
        exact ⟨_, _, rfl, S, HF.out.1, H.out.2.1, H.out.2.2.1, HF.out.2.mono (by omega), HE.out⟩
      · generalize vecErr z S = E at hpf hE
        have hne : (E != 0) = true := by simpa using hE
        have hne2 : (E == 0) = false := by simpa using hE
        clear hE
        go_wp2_with fail
        refine hpf.mono ?_
        rintro e w3 ⟨rfl, hB3⟩
        clear hpf
        have HF := Lib.hid (H.out.2.2.2.then_below hB3)
        clear hB3
        go_wp2_with fail
        go_roundw
        case rel => exact ⟨k + 1, by omega, by go_num, HF.out⟩
        case measure => simp [intOf]; omega
    · obtain rfl : k = 6 := by omega
      have HR := Lib.hid hr
      clear hr
      go_wp2_with fail
      go_ret2
      exact ⟨_, _, rfl, [], World.ownsRow_nil _ _ _ _, by decide, (fun k hk => by cases hk), HR.out, by decide⟩

theorem rowsB_of {V : List (List UInt8)} {n : Nat} (h : ∀ s, s ∈ V → s.length = n ∧ s.all bitB = true) : rowsB V V.length n = true := by
  unfold rowsB
  rw [Bool.and_eq_true, List.all_eq_true]
  refine ⟨decide_eq_true rfl, fun s hs => ?_⟩
  rw [decide_eq_true (h s hs).1, (h s hs).2]
  rfl
theorem cols_right (V : List (List UInt8)) (n : Nat) (h : ∀ s, s ∈ V → s.length = n ∧ s.all bitB = true) : (turnL V n).length = n ∧ ∀ s, s ∈ turnL V n → s.length = V.length ∧ s.all bitB = true := by
  refine ⟨by simp [turnL], fun s hm => ?_⟩
  unfold turnL at hm
  rw [List.mem_map] at hm
  obtain ⟨c, hc, rfl⟩ := hm
  rw [List.mem_range] at hc
  refine ⟨List.length_map _, ?_⟩
  rw [List.all_eq_true]
  intro x hx
  rw [List.mem_map] at hx
  obtain ⟨row, hr, rfl⟩ := hx
  obtain ⟨h4, h5⟩ := h row hr
  rw [List.getD_eq_getElem?_getD, List.getElem?_eq_getElem (by omega)]
  exact List.all_eq_true.1 h5 _ (List.getElem_mem _)
theorem seq_right (V : List (List UInt8)) (n : Nat) (h1 : 1 ≤ n) (h2 : n ≤ 100) (hz : V.length ≤ 200) (h : ∀ s, s ∈ V → s.length = n ∧ s.all bitB = true) : seqErr (turnL V n) = 0 ∧ ((turnL V n).getD 0 []).length = V.length := by
  obtain ⟨e1, e2⟩ := cols_right V n h
  have e3 : ((turnL V n).getD 0 []).length = V.length := by
    have h0 : 0 < (turnL V n).length := by omega
    have : (turnL V n).getD 0 [] = (turnL V n)[0] := by simp [h0]
    rw [this]
    exact (e2 _ (List.getElem_mem h0)).1
  refine ⟨?_, e3⟩
  unfold seqErr
  rw [e3, if_neg (by omega), if_neg (by omega)]
  refine firstErr_right _ _ (fun s hs => ?_)
  obtain ⟨x1, x2⟩ := e2 s hs
  unfold wordErr
  rw [if_pos (by omega), if_pos x2]
theorem lines_right (V : List (List UInt8)) (n : Nat) (h1 : 1 ≤ n) (h2 : n ≤ 100) (hz : V.length ≤ 200) (h : ∀ s, s ∈ V → s.length = n ∧ s.all bitB = true) : linesErr V = 0 := by
  unfold linesErr
  rw [if_neg (by omega)]
  refine firstErr_right _ _ (fun s hs => ?_)
  obtain ⟨x1, x2⟩ := h s hs
  have e3 : ((V.getD 0 []).length : Int) = (n : Int) := by
    cases V with
    | nil => cases hs
    | cons a V => show ((a.length : Nat) : Int) = _; rw [(h a (by simp)).1]
  unfold lineErr wordErr
  rw [e3, if_neg (by intro e; rw [e] at x1; simp at x1; omega), if_neg (by omega), if_pos (by omega), if_pos x2]
theorem cut_row : ∀ (a b : List UInt8), a.all bitB = true → cutLF (a ++ 10 :: b) = some (a, b)
  | [], _, _ => rfl
  | c :: a, b, h => by
    simp only [List.all_cons, Bool.and_eq_true] at h
    have hc : ¬ c = 10 := by
      intro e
      rw [e] at h
      exact absurd h.1 (by decide)
    show cutLF (c :: (a ++ 10 :: b)) = _
    unfold cutLF
    rw [if_neg hc, cut_row a b h.2]
    rfl
theorem read_text : ∀ (V : List (List UInt8)) (f k : Nat) (A : List (List UInt8)), (textL V).length ≤ f → (∀ s, s ∈ V → s ≠ [] ∧ s.all bitB = true) → readS patStep f (textL V) k A = (0, true, A ++ V)
  | [], f, k, A, _, _ => by rw [List.append_nil]; exact readS_nil f k A
  | a :: V, f, k, A, hf, h => by
    obtain ⟨h1, h2⟩ := h a (by simp)
    have e : textL (a :: V) = a ++ 10 :: textL V := by unfold textL; rw [List.flatMap_cons]; simp
    have hc := cut_row a (textL V) h2
    rw [← e] at hc
    have hg : (patStep A a).2 = true := by
      unfold patStep
      rw [h2]
      cases a with
      | nil => exact absurd rfl h1
      | cons c a => rfl
    obtain ⟨g, hgl, hr⟩ := readS_good (step := patStep) (k := k) A hf hc hg
    rw [hr]
    have e2 : (patStep A a).1 = A ++ [a] := rfl
    rw [e2, read_text V g (k + 1) (A ++ [a]) hgl (fun s hs => h s (by simp [hs]))]
    simp
theorem read_back (V : List (List UInt8)) (n : Nat) (h1 : 1 ≤ n) (h2 : n ≤ 100) (hz : V.length ≤ 200) (h : ∀ s, s ∈ V → s.length = n ∧ s.all bitB = true) : (textL V).length ≤ 20200 ∧ readOut (textL V) = (0, 0, V) := by
  have hle := lines_right V n h1 h2 hz h
  have hlen : (textL V).length ≤ V.length * 101 := by
    have h3 := textL_len V 100 (fun k hk => by
      have e : V.getD k [] = V[k] := by simp [hk]
      rw [e, (h _ (List.getElem_mem hk)).1]
      exact h2) V.length (Nat.le_refl _)
    rw [List.take_length] at h3
    omega
  refine ⟨by omega, ?_⟩
  have hr := read_text V (textL V).length 0 [] (Nat.le_refl _) (fun s hs => by
    obtain ⟨x1, x2⟩ := h s hs
    exact ⟨by intro e; rw [e] at x1; simp at x1; omega, x2⟩)
  unfold readOut
  rw [if_neg (by omega), hr]
  simp only [List.nil_append, if_true]
  rw [hle]
  rfl
end Go.Proofs.YtoipgliokelcfaaGreatDoor
