/- The program's Read of vectors, the reference's PatternsRead. -/
import Derived.Test.YtgnkihiibednoabGreatDoorPwRead
namespace Go.Proofs.YtgnkihiibednoabGreatDoor
open Go.RowKit

/-- What Read returns: the error, the line's number, the rows. -/
def readOut (t : List UInt8) : Int × Int × List (List UInt8) :=
  if 200000 < t.length then (2, 0, []) else
  if (readS patStep t.length t 0 []).2.1 = true then (if linesErr (readS patStep t.length t 0 []).2.2 = 0 then (0, 0, (readS patStep t.length t 0 []).2.2) else (linesErr (readS patStep t.length t 0 []).2.2, 0, []))
  else (9, (readS patStep t.length t 0 []).1, [])
theorem readOut_rows (t : List UInt8) : (readOut t).2.2.length ≤ t.length ∧ ∀ x, x ∈ (readOut t).2.2 → x.length ≤ t.length := by
  have h := patStep_rows t.length t 0 [] t.length (Nat.le_refl _) (fun x hx => by cases hx)
  unfold readOut
  split
  · exact ⟨Nat.zero_le _, fun x hx => by cases hx⟩
  split
  · split
    · exact ⟨by simpa using h.1, h.2⟩
    · exact ⟨Nat.zero_le _, fun x hx => by cases hx⟩
  · exact ⟨Nat.zero_le _, fun x hx => by cases hx⟩
theorem rowsVar_new (w : World) : RowsVar w w.heap.size 0 [] (w.alloc (.cells #[.slice none 0 0] 26)) :=
  ⟨Nat.le_refl _, (Below.refl _ w).alloc (Nat.le_refl _) _, rfl, frozen_fresh _ _ _ _, _, cell_fresh _ _ _ rfl, World.ownsRow_nil _ _ _ _⟩
theorem rowsRd_new (w : World) : RowsRd w w.heap.size (w.heap.size + 1) 0 [] ((w.alloc (.cells #[.func (.func 39) #[] #[]] 63)).alloc (.cells #[.slice none 0 0] 26)) := by
  have h := rowsVar_new (w.alloc (.cells #[.func (.func 39) #[] #[]] 63))
  have hz : (w.alloc (.cells #[.func (.func 39) #[] #[]] 63)).heap.size = w.heap.size + 1 := by simp
  rw [hz] at h
  have hB : Below w.heap.size w (w.alloc (.cells #[.func (.func 39) #[] #[]] 63)) := (Below.refl _ w).alloc (Nat.le_refl _) _
  obtain ⟨h1, h2, h3⟩ := h
  refine ⟨⟨by omega, hB.trans (h2.mono (by omega)), h3⟩, ?_, by omega⟩
  exact (h2.cell (p := ⟨w.heap.size, 0, none⟩) (by show w.heap.size < _; omega)).trans (cell_fresh w #[.func (.func 39) #[] #[]] _ rfl)
set_option maxHeartbeats 4000000 in
set_option maxRecDepth 100000 in
theorem readList_any (t : List UInt8) (ht : t.length ≤ 1000000) (w : World) :
    Calls Tryz.prog 41 #[.string ⟨t.toArray⟩, .func (.func 39) #[] #[], .func (.func 34) #[] #[]] w fun e w' => ∃ v', e = .returned (.tuple #[v', .int .i64 (readOut t).2.1, .int .i64 (readOut t).1]) ∧ StrsAt w.heap.size w' v' (readOut t).2.2 ∧ Below w.heap.size w w' := by
  have hrows := patStep_rows t.length t 0 [] t.length (Nat.le_refl _) (fun x hx => by cases hx)
  have hl := wLinesP_any patStep (RowsRd w w.heap.size (w.heap.size + 1)) w.heap.size (w.heap.size + 1) (fun _ _ _ _ h hB => h.later hB) (fun k s a W hk ha h => rls1_any w w.heap.size (w.heap.size + 1) k s a W hk ha h) t ht [] _ (rowsRd_new w) _ rfl
  have hBox : Below w.heap.size w (w.alloc (.cells #[.func (.func 39) #[] #[]] 63)) := (Below.refl _ w).alloc (Nat.le_refl _) _
  have hnil : StrsAt w.heap.size w (.slice none 0 0) [] := World.ownsRow_nil _ _ _ _
  by_cases h2 : 200000 < t.length
  · have e : readOut t = (2, 0, []) := by unfold readOut; rw [if_pos h2]
    rw [e]
    obtain ⟨s, hs⟩ : ∃ s : ByteArray, s = ⟨t.toArray⟩ := ⟨_, rfl⟩
    rw [← hs]
    have h3 : (200000 : Int) < (s.size : Int) := by have := (word_dec _ s hs).1; omega
    have HBox := Lib.hid hBox
    clear hl hrows e hs h2 hBox
    go_enter Tryz.func41, Tryz.ntmps41
    go_wp2_with fail
    go_ret3
    exact ⟨_, rfl, World.ownsRow_nil _ _ _ _, HBox.out⟩
  · obtain ⟨R, hR⟩ : ∃ R, R = readS patStep t.length t 0 [] := ⟨_, rfl⟩
    rw [← hR] at hl hrows
    have e : readOut t = if R.2.1 = true then (if linesErr R.2.2 = 0 then (0, 0, R.2.2) else (linesErr R.2.2, 0, [])) else (9, R.1, []) := by unfold readOut; rw [if_neg h2, ← hR]
    obtain ⟨O, hO⟩ : ∃ O, O = readOut t := ⟨_, rfl⟩
    rw [← hO] at e ⊢
    obtain ⟨r1, r2, r3⟩ := R
    dsimp only at e hl hrows
    have hb3 : ∀ k, k < r3.length → (r3.getD k []).length ≤ 1000000 := fun k hk => by
      have e : r3.getD k [] = r3[k] := by simp [List.getD, hk]
      have := hrows.2 (r3.getD k []) (by rw [e]; exact List.getElem_mem hk)
      omega
    have hz3 : r3.length ≤ 1000000 := by have := hrows.1; simp at this; omega
    obtain ⟨s, hs⟩ : ∃ s : ByteArray, s = ⟨t.toArray⟩ := ⟨_, rfl⟩
    rw [← hs] at hl ⊢
    have h3 : (s.size : Int) ≤ 200000 := by have := (word_dec _ s hs).1; omega
    have H := Lib.hid (⟨e, hnil, hb3, hz3⟩ : _ ∧ _ ∧ _ ∧ _)
    clear hrows e hs h2 hnil hb3 hz3 hO hR ht hBox
    go_enter Tryz.func41, Tryz.ntmps41
    go_wp2_with fail
    refine hl.mono ?_
    rintro e w2 ⟨rfl, k, hV⟩
    clear hl
    obtain ⟨⟨-, hB2, -, -, v, hcv, hst⟩, -, -⟩ := hV
    cases r2 with
    | false =>
      have he := H.out.1
      rw [if_neg (by decide)] at he
      have HF := Lib.hid (⟨he, hB2⟩ : _ ∧ _)
      clear he hB2 hcv hst
      go_wp2_with fail
      go_ret3
      have he := HF.out.1
      subst he
      exact ⟨_, rfl, World.ownsRow_nil _ _ _ _, HF.out.2⟩
    | true =>
      have he := H.out.1
      rw [if_pos rfl] at he
      have hc := checkLines_any r3 H.out.2.2.2 H.out.2.2.1 _ w2 v hst
      obtain ⟨a, c, rfl, -⟩ := strs_open hst
      have HF := Lib.hid (⟨hB2, hst⟩ : _ ∧ _)
      clear hst
      have hlt := World.block_lt_of_cell? w2 ⟨w.heap.size + 1, 0, none⟩ hcv
      by_cases hE : linesErr r3 = 0
      · rw [if_pos hE] at he
        rw [hE] at hc
        have HE := Lib.hid he
        clear he hE hB2
        go_wp2_with fail
        refine hc.mono ?_
        rintro e w3 ⟨rfl, hB3⟩
        clear hc
        have hcv3 := (hB3.cell (p := ⟨w.heap.size + 1, 0, none⟩) hlt).trans hcv
        have HG := Lib.hid (⟨HF.out.1.trans (hB3.mono HF.out.1.size), row_base (row_later HF.out.2 hB3) (show w.heap.size ≤ w.heap.size + 1 + 1 by omega)⟩ : _ ∧ _)
        clear hB3 hcv HF
        go_wp2_with fail
        go_ret3
        have he := HE.out
        subst he
        exact ⟨_, rfl, HG.out.2, HG.out.1⟩
      · rw [if_neg hE] at he
        generalize linesErr r3 = E at hc hE he
        have hne : (E != 0) = true := by simpa using hE
        have hne2 : (E == 0) = false := by simpa using hE
        have HE := Lib.hid he
        clear he hE hB2
        go_wp2_with fail
        refine hc.mono ?_
        rintro e w3 ⟨rfl, hB3⟩
        clear hc
        have HG := Lib.hid (HF.out.1.trans (hB3.mono HF.out.1.size))
        clear hB3 hcv HF
        go_wp2_with fail
        go_ret3
        have he := HE.out
        subst he
        exact ⟨_, rfl, World.ownsRow_nil _ _ _ _, HG.out⟩
set_option maxHeartbeats 4000000 in
set_option maxRecDepth 100000 in
theorem pRead_any (t : List UInt8) (ht : t.length ≤ 1000000) (w : World) :
    Calls Tryz.prog 18 #[.string ⟨t.toArray⟩] w fun e w' => ∃ v', e = .returned (.tuple #[v', .int .i64 (readOut t).2.1, .int .i64 (readOut t).1]) ∧ StrsAt w.heap.size w' v' (readOut t).2.2 ∧ Below w.heap.size w w' := by
  have hl := readList_any t ht w
  generalize readOut t = O at hl ⊢
  obtain ⟨s, hs⟩ : ∃ s : ByteArray, s = ⟨t.toArray⟩ := ⟨_, rfl⟩
  rw [← hs] at hl ⊢
  clear hs ht
  go_enter Tryz.func18, Tryz.ntmps18
  go_wp2_with fail
  refine hl.mono ?_
  rintro e w2 ⟨v', rfl, h1, h2⟩
  obtain ⟨a, c, rfl, -⟩ := strs_open h1
  have H := Lib.hid (⟨h1, h2⟩ : _ ∧ _)
  clear hl h1 h2
  go_wp2_with fail
  go_ret3
  exact ⟨_, rfl, H.out⟩
set_option maxHeartbeats 4000000 in
set_option maxRecDepth 100000 in
theorem patternsRead_any (t : List UInt8) (ht : t.length ≤ 1000000) (w : World) :
    Calls Tryz.prog 19 #[.string ⟨t.toArray⟩] w fun e w' => ∃ v', e = .returned (.tuple #[v', .int .i64 (readOut t).2.1, .int .i64 (readOut t).1]) ∧ StrsAt w.heap.size w' v' (readOut t).2.2 ∧ Below w.heap.size w w' := by
  have hrows := patStep_rows t.length t 0 [] t.length (Nat.le_refl _) (fun x hx => by cases hx)
  have hl := refLinesP_any patStep (RowsVar w w.heap.size) w.heap.size (fun _ _ _ _ h hB => h.later hB) (fun k s a W hk ha h => patternsRead1_any w w.heap.size k s a W hk ha h) t ht [] _ (rowsVar_new w) _ rfl
  have hnil : StrsAt w.heap.size w (.slice none 0 0) [] := World.ownsRow_nil _ _ _ _
  by_cases h2 : 200000 < t.length
  · have e : readOut t = (2, 0, []) := by unfold readOut; rw [if_pos h2]
    rw [e]
    obtain ⟨s, hs⟩ : ∃ s : ByteArray, s = ⟨t.toArray⟩ := ⟨_, rfl⟩
    rw [← hs]
    have h3 : (200000 : Int) < (s.size : Int) := by have := (word_dec _ s hs).1; omega
    clear hl hrows e hs h2
    go_enter Tryz.func19, Tryz.ntmps19
    go_wp2_with fail
    go_ret3
    exact ⟨_, rfl, hnil, Below.refl _ _⟩
  · obtain ⟨R, hR⟩ : ∃ R, R = readS patStep t.length t 0 [] := ⟨_, rfl⟩
    rw [← hR] at hl hrows
    have e : readOut t = if R.2.1 = true then (if linesErr R.2.2 = 0 then (0, 0, R.2.2) else (linesErr R.2.2, 0, [])) else (9, R.1, []) := by unfold readOut; rw [if_neg h2, ← hR]
    obtain ⟨O, hO⟩ : ∃ O, O = readOut t := ⟨_, rfl⟩
    rw [← hO] at e ⊢
    obtain ⟨r1, r2, r3⟩ := R
    dsimp only at e hl hrows
    have hb3 : ∀ k, k < r3.length → (r3.getD k []).length ≤ 1000000 := fun k hk => by
      have e : r3.getD k [] = r3[k] := by simp [List.getD, hk]
      have := hrows.2 (r3.getD k []) (by rw [e]; exact List.getElem_mem hk)
      omega
    have hz3 : r3.length ≤ 1000000 := by have := hrows.1; simp at this; omega
    obtain ⟨s, hs⟩ : ∃ s : ByteArray, s = ⟨t.toArray⟩ := ⟨_, rfl⟩
    rw [← hs] at hl ⊢
    have h3 : (s.size : Int) ≤ 200000 := by have := (word_dec _ s hs).1; omega
    have H := Lib.hid (⟨e, hnil, hb3, hz3⟩ : _ ∧ _ ∧ _ ∧ _)
    clear hrows e hs h2 hnil hb3 hz3 hO hR ht
    go_enter Tryz.func19, Tryz.ntmps19
    go_wp2_with fail
    refine hl.mono ?_
    rintro e w2 ⟨rfl, k, hV⟩
    clear hl
    obtain ⟨-, hB2, -, -, v, hcv, hst⟩ := hV
    cases r2 with
    | false =>
      have he := H.out.1
      rw [if_neg (by decide)] at he
      have HF := Lib.hid (⟨he, hB2⟩ : _ ∧ _)
      clear he hB2 hcv hst
      go_wp2_with fail
      go_ret3
      have he := HF.out.1
      subst he
      exact ⟨_, rfl, World.ownsRow_nil _ _ _ _, HF.out.2⟩
    | true =>
      have he := H.out.1
      rw [if_pos rfl] at he
      have hc := patternLinesFault_any r3 H.out.2.2.2 H.out.2.2.1 _ w2 v hst
      obtain ⟨a, c, rfl, -⟩ := strs_open hst
      have HF := Lib.hid (⟨hB2, hst⟩ : _ ∧ _)
      clear hst
      have hlt := World.block_lt_of_cell? w2 ⟨w.heap.size, 0, none⟩ hcv
      by_cases hE : linesErr r3 = 0
      · rw [if_pos hE] at he
        rw [hE] at hc
        have HE := Lib.hid he
        clear he hE hB2
        go_wp2_with fail
        refine hc.mono ?_
        rintro e w3 ⟨rfl, hB3⟩
        clear hc
        have hcv3 := (hB3.cell (p := ⟨w.heap.size, 0, none⟩) hlt).trans hcv
        have HG := Lib.hid (⟨HF.out.1.trans (hB3.mono HF.out.1.size), row_base (row_later HF.out.2 hB3) (Nat.le_succ _)⟩ : _ ∧ _)
        clear hB3 hcv HF
        go_wp2_with fail
        go_ret3
        have he := HE.out
        subst he
        exact ⟨_, rfl, HG.out.2, HG.out.1⟩
      · rw [if_neg hE] at he
        generalize linesErr r3 = E at hc hE he
        have hne : (E != 0) = true := by simpa using hE
        have hne2 : (E == 0) = false := by simpa using hE
        have HE := Lib.hid he
        clear he hE hB2
        go_wp2_with fail
        refine hc.mono ?_
        rintro e w3 ⟨rfl, hB3⟩
        clear hc
        have HG := Lib.hid (HF.out.1.trans (hB3.mono HF.out.1.size))
        clear hB3 hcv HF
        go_wp2_with fail
        go_ret3
        have he := HE.out
        subst he
        exact ⟨_, rfl, World.ownsRow_nil _ _ _ _, HG.out⟩
end Go.Proofs.YtgnkihiibednoabGreatDoor
