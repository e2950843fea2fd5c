/- groupsOf, Equal. -/
import Derived.Test.YtoipgliokelcfaaGreatDoorPdD
namespace Go.Proofs.YtoipgliokelcfaaGreatDoor
open Go.RowKit Go.Maps

/-- Whether net i is the first of a group of several. -/
def grpB (L : List (List UInt8)) (n i : Nat) : Bool := decide (1 < (idxTo L n (L.getD i [])).length) && decide ((idxTo L n (L.getD i [])).getD 0 0 = i)
def groupsTo (L : List (List UInt8)) (n k : Nat) : List (List Nat) := (List.range k).filterMap fun i => if grpB L n i = true then some (idxTo L n (L.getD i [])) else none
theorem groupsTo_succ (L : List (List UInt8)) (n k : Nat) : groupsTo L n (k + 1) = if grpB L n k = true then groupsTo L n k ++ [idxTo L n (L.getD k [])] else groupsTo L n k := by
  unfold groupsTo
  rw [List.range_succ, List.filterMap_append]
  cases h : grpB L n k with
  | true => rw [if_pos rfl]; simp [h]
  | false => rw [if_neg (by decide)]; simp [h]
theorem groupsTo_len (L : List (List UInt8)) (n k : Nat) : (groupsTo L n k).length ≤ k := by
  unfold groupsTo
  have := List.length_filterMap_le (fun i => if grpB L n i = true then some (idxTo L n (L.getD i [])) else none) (List.range k)
  simpa using this
theorem idxTo_mem (L : List (List UInt8)) (n k : Nat) (h : k < n) : idxTo L n (L.getD k []) ≠ [] := by
  intro e
  have : k ∈ idxTo L n (L.getD k []) := by
    unfold idxTo
    rw [List.mem_filter]
    exact ⟨List.mem_range.2 h, by simp⟩
  rw [e] at this
  cases this

theorem Tryz.infoSl : (Tryz.prog.info? 22).map (fun i => (i.zero, i.size, i.bytes)) = some (some (.slice none 0 0), 1, 24) := by kernel_rfl
theorem slice_form {w : World} {B : Nat} {e : TypeId} {size : Nat} {v : Value} {n : Nat} {xs : List Value} (h : w.ownsRow B e size v n xs) : ∃ a c, v = .slice a n c := by
  obtain ⟨-, ⟨e, h0⟩ | ⟨g, cap, cur, e, -⟩⟩ := h
  · exact ⟨none, 0, by rw [e, h0]⟩
  · exact ⟨_, _, e⟩
/-- The slice value v has these rows of numbers. -/
def GroupsAt (w : World) (v : Value) (G : List (List Nat)) : Prop := ∃ (B : Nat) (vals : List Value), vals.length = G.length ∧ w.ownsRow B 22 1 v G.length vals ∧ ∀ i, i < G.length → ∃ Bi, NatsAt Bi w (vals.getD i undef) (G.getD i [])
theorem GroupsAt.later {w w' : World} {v : Value} {G : List (List Nat)} (h : GroupsAt w v G) (hB : Below w.heap.size w w') : GroupsAt w' v G := by
  obtain ⟨B, vals, h1, h2, h3⟩ := h
  refine ⟨B, vals, h1, row_later h2 hB, fun i hi => ?_⟩
  obtain ⟨Bi, h4⟩ := h3 i hi
  exact ⟨Bi, row_later h4 hB⟩
theorem GroupsAt.open {w : World} {v : Value} {G : List (List Nat)} (h : GroupsAt w v G) : ∃ a c, v = .slice a G.length c := by
  obtain ⟨B, vals, -, ⟨-, ⟨e, h0⟩ | ⟨g, cap, cur, e, -⟩⟩, -⟩ := h
  · exact ⟨none, 0, by rw [e, h0]⟩
  · exact ⟨_, _, e⟩

set_option maxHeartbeats 4000000 in
set_option maxRecDepth 100000 in
theorem groupsOf_any (L : List (List UInt8)) (hz : L.length ≤ 1000) (hb : ∀ k, k < L.length → (L.getD k []).length ≤ 1000) (Bv : Nat) (w : World) (v : Value) (h : StrsAt Bv w v L) :
    Calls Tryz.prog 85 #[v] w fun e w' => ∃ v', e = .returned v' ∧ GroupsAt w' v' (groupsTo L L.length L.length) ∧ Below w.heap.size w w' := by
  obtain ⟨i0, hi, hz0, hz1, hz2⟩ := info_parts Tryz.infoSl
  have hnw := netsWith_any L hz hb Bv w v h
  obtain ⟨a, c, rfl, hop⟩ := strs_open h
  obtain ⟨n, hn⟩ : ∃ n, n = L.length := ⟨_, rfl⟩
  have HH := Lib.hid (⟨hop, hb, hn⟩ : _ ∧ _ ∧ _)
  rw [← hn] at hz hnw
  rw [← hn]
  clear h hop hb hn
  go_enter Tryz.func85, Tryz.ntmps85
  go_wp2_with fail
  refine hnw.mono ?_
  rintro e w2 ⟨rfl, H, hM, hB⟩
  clear hnw
  have HM := Lib.hid (⟨hM, hB⟩ : _ ∧ _)
  clear hM hB
  go_wp2_with fail
  go_loopw [4, 12] (fun v i wr => ∃ (k : Nat) (vals : List Value), k ≤ n ∧ i = .int .i64 (k : Int) ∧ vals.length = (groupsTo L n k).length ∧ wr.ownsRow w2.heap.size 22 1 v (groupsTo L n k).length vals ∧ (∀ i, i < (groupsTo L n k).length → ∃ Bi, NatsAt Bi w2 (vals.getD i undef) ((groupsTo L n k).getD i [])) ∧ Below w2.heap.size w2 wr) (fun _ i _ => n - (intOf i).toNat)
  case atStart => exact ⟨0, [], by omega, rfl, rfl, World.ownsRow_nil _ _ _ _, (fun i hi => by cases hi), Below.refl _ _⟩
  case round =>
    obtain ⟨k, vals, hk, rfl, hvl, hrow, hval, hB2⟩ := hrel
    obtain ⟨a3, c3, rfl⟩ := slice_form hrow
    by_cases hlt : k < n
    · obtain ⟨g, rfl, hg, hcell⟩ := HH.out.1 (by rw [← HH.out.2.2]; omega)
      have hkS : k < L.length := by rw [← HH.out.2.2]; exact hlt
      have hc := ((HM.out.2.trans (hB2.mono HM.out.2.size)).cell (p := ⟨g, k, none⟩) hg).trans (hcell k hkS)
      have hsz := HH.out.2.1 k hkS
      obtain ⟨s, hs⟩ : ∃ s : ByteArray, s = ⟨(L.getD k []).toArray⟩ := ⟨_, rfl⟩
      have hw := word_dec _ s hs
      change _ = some (Value.string ⟨(L.getD k []).toArray⟩) at hc
      rw [← hs] at hc
      have hss : s.size ≤ 1000 := by have := hw.1; omega
      have hMw := HM.out.1.later hB2
      have hlook := hMw.look s (by omega)
      have hne := idxTo_mem L n k hlt
      obtain ⟨q, hq⟩ : ∃ q, q = L.getD k [] := ⟨_, rfl⟩
      have hsu := groupsTo_succ L n k
      have hgl := groupsTo_len L n k
      have hgb : grpB L n k = (decide (1 < (idxTo L n q).length) && decide ((idxTo L n q).getD 0 0 = k)) := by rw [hq]; rfl
      rw [← hq] at hne hsu
      rw [hw.2, ← hq] at hlook
      have hnat := hMw.rows q
      have hn2 := HM.out.1.rows q
      have hhd : hdr L n H q = .slice (some ⟨(H q).1, 0, none⟩) (idxTo L n q).length (H q).2 := by unfold hdr; rw [if_neg hne]
      rw [hhd] at hlook hnat hn2
      have hlen := idxTo_len L n q
      have hpos := List.length_pos_iff.2 hne
      have hrowq : wr.ownsRow (w.heap.size + 1) 3 1 (.slice (some ⟨(H q).1, 0, none⟩) (idxTo L n q).length (H q).2) (idxTo L n q).length ((idxTo L n q).map natV) := hnat
      have hcq := hrowq.cellAt 0 (by omega)
      have hcv : ((idxTo L n q).map natV)[0]? = some (.int .i64 (((idxTo L n q).getD 0 0 : Nat) : Int)) := by simp [List.getD, hpos, natV]
      rw [hcv] at hcq
      generalize (H q).1 = gq at hlook hrowq hcq hn2 hnat hhd
      generalize (H q).2 = cq at hlook hrowq hn2 hnat hhd
      have hb1 := hB2.size
      obtain ⟨I, hI⟩ : ∃ I, I = idxTo L n q := ⟨_, rfl⟩
      rw [← hI] at hlook hcq hn2 hlen hpos hsu hgb hrowq
      have HX := Lib.hid (⟨hq, hI, hn2, hvl, hval, hB2⟩ : _ ∧ _ ∧ _ ∧ _ ∧ _ ∧ _)
      have i0' : (0 : Int) ≤ (k : Int) := by omega
      have i1 : (k : Int) < (n : Int) := by omega
      clear hcell hkS hsz hs hw hMw hne hq hnat hhd hrowq hcv hI hn2 hval hvl
      have hno : grpB L n k = false → (wr.ownsRow w2.heap.size 22 1 (.slice a3 (groupsTo L n k).length c3) (groupsTo L n k).length vals) → ∃ (k' : Nat) (vals : List Value), k' ≤ n ∧ Value.int .i64 ((k : Int) + 1) = .int .i64 (k' : Int) ∧ vals.length = (groupsTo L n k').length ∧ wr.ownsRow w2.heap.size 22 1 (.slice a3 (groupsTo L n k).length c3) (groupsTo L n k').length vals ∧ (∀ i, i < (groupsTo L n k').length → ∃ Bi, NatsAt Bi w2 (vals.getD i undef) ((groupsTo L n k').getD i [])) ∧ Below w2.heap.size w2 wr := fun h hrow => by
        rw [h, if_neg (by decide)] at hsu
        refine ⟨k + 1, vals, by omega, by go_num, ?_, ?_, ?_, HX.out.2.2.2.2.2⟩
        · rw [hsu]; exact HX.out.2.2.2.1
        · rw [hsu]; exact hrow
        · rw [hsu]; exact HX.out.2.2.2.2.1
      by_cases h1 : 1 < I.length
      · by_cases h2 : I.getD 0 0 = k
        · have hg1 : grpB L n k = true := by rw [hgb, h2]; simp [h1]
          rw [hg1, if_pos rfl] at hsu
          have e1 : (((I.getD 0 0 : Nat) : Int) == (k : Int)) = true := by rw [h2]; simp
          have i2 : (1 : Int) < (I.length : Int) := by omega
          have i3 : (0 : Int) < (I.length : Int) := by omega
          have HS := Lib.hid hsu
          clear hsu hno hgb hg1 h2 hB2
          generalize I.getD 0 0 = x0 at hcq e1
          generalize hG : groupsTo L n k = G at hgl HS HX hrow ⊢
          clear hG
          go_wp2_with (at_builtin; refine wpList_append_own _ rfl _ _ 134 rfl w2.heap.size 22 i0 (.slice none 0 0) 1 24 Tryz.underlying134 hi hz0 hz1 hz2 rfl (by decide) _ _ _ rfl (hrow.alloc _) ⟨wr.heap.size, 0, none⟩ 1 1 [.slice (some ⟨gq, 0, none⟩) I.length cq] rfl rfl ?c1 ?c2 ?c3 ?c4 ?c5 ?_)
          case c1 => exact cell_one_new _ _ _
          case c2 => simp [Value.oneCell']
          case c3 => unfold maxLen; omega
          case c4 => omega
          case c5 => simp; omega
          intro v' w4 hown' hg4 _
          have hB4 : Below w2.heap.size w2 w4 := (HX.out.2.2.2.2.2.alloc hb1 _).grown hg4 (by simp; omega) (fun j hj => (hrow.lt j hj).1)
          obtain ⟨a5, c5, rfl⟩ := slice_form hown'
          have hl1 : (G ++ [I]).length = G.length + 1 := by simp
          have hl2 : (vals ++ [Value.slice (some ⟨gq, 0, none⟩) I.length cq]).length = (G ++ [I]).length := by rw [hl1, List.length_append, HX.out.2.2.2.1]; rfl
          have hv5 : ∀ i, i < (G ++ [I]).length → ∃ Bi, NatsAt Bi w2 ((vals ++ [Value.slice (some ⟨gq, 0, none⟩) I.length cq]).getD i undef) ((G ++ [I]).getD i []) := fun i hi => by
            by_cases e : i < G.length
            · have e1 : (vals ++ [Value.slice (some ⟨gq, 0, none⟩) I.length cq]).getD i undef = vals.getD i undef := by
                have : i < vals.length := by rw [HX.out.2.2.2.1]; exact e
                simp [List.getD, List.getElem?_append, this]
              have e2 : (G ++ [I]).getD i [] = G.getD i [] := by simp [List.getD, List.getElem?_append, e]
              rw [e1, e2]
              exact HX.out.2.2.2.2.1 i e
            · have e0 : i = G.length := by rw [hl1] at hi; omega
              have e1 : (vals ++ [Value.slice (some ⟨gq, 0, none⟩) I.length cq]).getD i undef = .slice (some ⟨gq, 0, none⟩) I.length cq := by rw [e0, ← HX.out.2.2.2.1]; simp [List.getD]
              have e2 : (G ++ [I]).getD i [] = I := by rw [e0]; simp [List.getD]
              rw [e1, e2]
              exact ⟨_, HX.out.2.2.1⟩
          have hfin : ∃ (k' : Nat) (vs : List Value), k' ≤ n ∧ Value.int .i64 ((k : Int) + 1) = .int .i64 (k' : Int) ∧ vs.length = (groupsTo L n k').length ∧ w4.ownsRow w2.heap.size 22 1 (.slice a5 (G.length + 1) c5) (groupsTo L n k').length vs ∧ (∀ i, i < (groupsTo L n k').length → ∃ Bi, NatsAt Bi w2 (vs.getD i undef) ((groupsTo L n k').getD i [])) ∧ Below w2.heap.size w2 w4 := by
            refine ⟨k + 1, vals ++ [Value.slice (some ⟨gq, 0, none⟩) I.length cq], by omega, by go_num, ?_, ?_, ?_, hB4⟩
            · rw [HS.out]; exact hl2
            · rw [HS.out, hl1]; exact hown'
            · rw [HS.out]; exact hv5
          have HF := Lib.hid hfin
          clear hfin hv5 hl2 hl1 hown' hg4 hrow hB4
          go_wp2_with fail
          go_roundw
          case rel => exact HF.out
          case measure => simp [intOf]; omega
        · have hg0 : grpB L n k = false := by rw [hgb, decide_eq_false h2, Bool.and_false]
          have HNO := Lib.hid (hno hg0 hrow)
          have e1 : (((I.getD 0 0 : Nat) : Int) == (k : Int)) = false := by rw [beq_eq_false_iff_ne]; intro h; exact h2 (by exact_mod_cast h)
          have i2 : (1 : Int) < (I.length : Int) := by omega
          have i3 : (0 : Int) < (I.length : Int) := by omega
          clear hno hgb hsu h2 hB2 hg0 hrow
          generalize I.getD 0 0 = x0 at hcq e1
          go_wp2_with fail
          go_roundw
          case rel => exact HNO.out
          case measure => simp [intOf]; omega
      · have hg0 : grpB L n k = false := by rw [hgb, decide_eq_false h1, Bool.false_and]
        have HNO := Lib.hid (hno hg0 hrow)
        have i2 : (I.length : Int) ≤ 1 := by omega
        clear hno hgb hsu hB2 hg0 hrow
        go_wp2_with fail
        go_roundw
        case rel => exact HNO.out
        case measure => simp [intOf]; omega
    · obtain rfl : k = n := by omega
      have hfin : GroupsAt wr (.slice a3 (groupsTo L k k).length c3) (groupsTo L k k) := ⟨_, vals, hvl, hrow, fun i hi => by
        obtain ⟨Bi, h⟩ := hval i hi
        exact ⟨Bi, row_later h hB2⟩⟩
      have HF := Lib.hid (⟨hfin, HM.out.2.trans (hB2.mono HM.out.2.size)⟩ : _ ∧ _)
      clear hfin hvl hrow hval hB2
      go_wp2_with fail
      go_ret
      exact ⟨_, rfl, HF.out⟩

end Go.Proofs.YtoipgliokelcfaaGreatDoor
