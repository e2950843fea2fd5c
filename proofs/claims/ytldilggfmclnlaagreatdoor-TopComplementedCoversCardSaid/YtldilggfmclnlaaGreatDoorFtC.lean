/- Package fault's All: rows of faults of the call's own. -/
import Derived.Test.YtldilggfmclnlaaGreatDoorFtB
import Derived.RangeFuncBox
import Derived.Maps.AppendAt
namespace Go.Proofs.YtldilggfmclnlaaGreatDoor
open Go.RowKit

def fltCells (L : List Flt) (vals : List Value) : List Value := (L.zip vals).flatMap fun x => [.int .i64 x.1.1, x.2]
theorem fltCells_append (L M : List Flt) (vals mals : List Value) (h : L.length = vals.length) : fltCells (L ++ M) (vals ++ mals) = fltCells L vals ++ fltCells M mals := by
  unfold fltCells
  rw [List.zip_append h, List.flatMap_append]
theorem fltCells_len : ∀ (L : List Flt) (vals : List Value), vals.length = L.length → (fltCells L vals).length = L.length * 2
  | [], _, _ => by simp [fltCells]
  | f :: L, [], h => by simp at h
  | f :: L, v :: vals, h => by
    have ih := fltCells_len L vals (by simpa using h)
    have e : fltCells (f :: L) (v :: vals) = .int .i64 f.1 :: v :: fltCells L vals := rfl
    rw [e, List.length_cons, List.length_cons, ih, List.length_cons]
    omega
theorem fltCells_at : ∀ (L : List Flt) (vals : List Value) (k : Nat), vals.length = L.length → k < L.length → (fltCells L vals)[k * 2]? = some (.int .i64 (L.getD k (0, [])).1) ∧ (fltCells L vals)[k * 2 + 1]? = some (vals.getD k undef)
  | [], _, k, _, h => absurd h (Nat.not_lt_zero _)
  | f :: L, [], _, h, _ => by simp at h
  | f :: L, v :: vals, 0, _, _ => ⟨rfl, rfl⟩
  | f :: L, v :: vals, k + 1, h, hk => by
    have ih := fltCells_at L vals k (by simpa using h) (by simpa using hk)
    have e : fltCells (f :: L) (v :: vals) = .int .i64 f.1 :: v :: fltCells L vals := rfl
    have e1 : (k + 1) * 2 = k * 2 + 1 + 1 := by omega
    rw [e, e1]
    exact ih
/-- A row of these numbers, of the call's own. -/
def NetsOwn (B : Nat) (w : World) (v : Value) (l : List Int) : Prop := w.ownsRow B 3 1 v l.length (l.map (Value.int .i64))
/-- A row of these faults, of the call's own. -/
def FltOwn (B : Nat) (w : World) (v : Value) (L : List Flt) : Prop :=
  ∃ vals : List Value, vals.length = L.length ∧ w.ownsRow B 92 2 v L.length (fltCells L vals) ∧ ∀ i, i < L.length → ∃ Bi, NetsOwn Bi w (vals.getD i undef) (L.getD i (0, [])).2
theorem row_apart {W : World} {B1 B2 : Nat} {e1 e2 : TypeId} {s1 s2 n1 n2 : Nat} {v1 v2 : Value} {x1 x2 : List Value} (h1 : W.ownsRow B1 e1 s1 v1 n1 x1) (h2 : W.ownsRow B2 e2 s2 v2 n2 x2) (hne : e1 ≠ e2) : v2.ownBlock = none ∨ v2.ownBlock ≠ v1.ownBlock := by
  rcases h2.2 with ⟨rfl, _⟩ | ⟨g2, cap2, cur2, rfl, _, hg2, _⟩
  · exact .inl rfl
  · refine .inr fun e => ?_
    rcases h1.2 with ⟨rfl, _⟩ | ⟨g1, cap1, cur1, rfl, _, hg1, _⟩
    · simp [Value.ownBlock] at e
    · obtain rfl : g2 = g1 := by simpa [Value.ownBlock] using e
      rw [hg1] at hg2
      simp at hg2
      exact hne hg2.2
theorem FltOwn.nil (B : Nat) (w : World) : FltOwn B w (.slice none 0 0) [] := ⟨[], rfl, World.ownsRow_nil _ _ _ _, fun _ h => absurd h (Nat.not_lt_zero _)⟩
theorem FltOwn.later {B : Nat} {w w' : World} {v : Value} {L : List Flt} (h : FltOwn B w v L) (hB : Below w.heap.size w w') : FltOwn B w' v L := by
  obtain ⟨vals, h1, h2, h3⟩ := h
  refine ⟨vals, h1, row_later h2 hB, fun i hi => ?_⟩
  obtain ⟨Bi, h4⟩ := h3 i hi
  exact ⟨Bi, row_later h4 hB⟩
theorem FltOwn.base {B B' : Nat} {w : World} {v : Value} {L : List Flt} (h : FltOwn B w v L) (hB : B' ≤ B) : FltOwn B' w v L := by
  obtain ⟨vals, h1, h2, h3⟩ := h
  exact ⟨vals, h1, row_base h2 hB, h3⟩
theorem FltOwn.open {B : Nat} {w : World} {v : Value} {L : List Flt} (h : FltOwn B w v L) : ∃ a c, v = .slice a L.length c := by
  obtain ⟨vals, -, ⟨-, ⟨e, h0⟩ | ⟨g, cap, cur, e, -⟩⟩, -⟩ := h
  · exact ⟨none, 0, by rw [e, h0]⟩
  · exact ⟨_, _, e⟩
theorem NetsOwn.at {B : Nat} {w : World} {v : Value} {l : List Int} (h : NetsOwn B w v l) : NetsAt w v l := by
  have hr : w.ownsRow B 3 1 v l.length (l.map (Value.int .i64)) := h
  obtain ⟨-, ⟨e, h0⟩ | ⟨g, cap, cur, e, hb, hg, hc, -⟩⟩ := h
  · exact ⟨none, 0, by rw [e, h0], by omega, fun h => by omega⟩
  · subst e
    refine ⟨_, _, rfl, hc, fun _ => ⟨g, 0, rfl, (Array.getElem?_eq_some_iff.1 hg).1, fun j hj => ?_⟩⟩
    rw [Nat.zero_add, hr.cellAt j (by omega)]
    simp [hj]
theorem FltOwn.at {B : Nat} {w : World} {v : Value} {L : List Flt} (h : FltOwn B w v L) : FltsAt w v L := by
  obtain ⟨vals, h1, h2, h3⟩ := h
  have hr := h2
  obtain ⟨-, ⟨e, h0⟩ | ⟨g, cap, cur, e, hb, hg, hc, -⟩⟩ := h2
  · exact ⟨none, 0, by rw [e, h0], fun h => by omega⟩
  · subst e
    refine ⟨_, _, rfl, fun _ => ⟨g, rfl, (Array.getElem?_eq_some_iff.1 hg).1, fun i hi => ?_⟩⟩
    obtain ⟨ha, hb⟩ := fltCells_at L vals i h1 hi
    obtain ⟨Bi, h4⟩ := h3 i hi
    exact ⟨(hr.cellAt _ (by omega)).trans ha, _, (hr.cellAt _ (by omega)).trans hb, h4.at⟩
/-- One row behind another: what the grown world keeps. -/
theorem FltOwn.join {B : Nat} {W W' : World} {v v' : Value} {L M : List Flt} {vals mals : List Value} (h1 : vals.length = L.length) (hr : W.ownsRow B 92 2 v L.length (fltCells L vals)) (h3 : ∀ i, i < L.length → ∃ Bi, NetsOwn Bi W (vals.getD i undef) (L.getD i (0, [])).2)
    (m1 : mals.length = M.length) (m3 : ∀ i, i < M.length → ∃ Bi, NetsOwn Bi W (mals.getD i undef) (M.getD i (0, [])).2)
    (hown : W'.ownsRow B 92 2 v' (L.length + M.length) (fltCells L vals ++ fltCells M mals)) (hg : W.grownBy W' v.ownBlock) : FltOwn B W' v' (L ++ M) := by
  have hk : ∀ (u : Value) (l : List Int) (Bi : Nat), NetsOwn Bi W u l → NetsOwn Bi W' u l := fun u l Bi hn => World.ownsRow.kept hn hg (row_apart hr hn (by decide))
  refine ⟨vals ++ mals, by rw [List.length_append, List.length_append, h1, m1], ?_, fun i hi => ?_⟩
  · rw [List.length_append, fltCells_append _ _ _ _ h1.symm]
    exact hown
  · rw [List.length_append] at hi
    by_cases hl : i < L.length
    · obtain ⟨Bi, h4⟩ := h3 i hl
      have e1 : (vals ++ mals).getD i undef = vals.getD i undef := by simp [List.getD, List.getElem?_append, h1, hl]
      have e2 : (L ++ M).getD i (0, []) = L.getD i (0, []) := by simp [List.getD, List.getElem?_append, hl]
      rw [e1, e2]
      exact ⟨Bi, hk _ _ _ h4⟩
    · obtain ⟨Bi, h4⟩ := m3 (i - L.length) (by omega)
      have e1 : (vals ++ mals).getD i undef = mals.getD (i - L.length) undef := by simp [List.getD, List.getElem?_append, h1, hl]
      have e2 : (L ++ M).getD i (0, []) = M.getD (i - L.length) (0, []) := by simp [List.getD, List.getElem?_append, hl]
      rw [e1, e2]
      exact ⟨Bi, hk _ _ _ h4⟩

theorem Tryz.infoFlt : (Tryz.prog.info? 92).map (fun i => (i.zero, i.size, i.bytes)) = some (some (.agg #[.int .i64 0, .slice none 0 0]), 2, 32) := by kernel_rfl

set_option maxHeartbeats 4000000 in
set_option maxRecDepth 100000 in
theorem allOf1_any (B pb pk Bo : Nat) (kind : Int) (L : List Flt) (on : List Int) (hl : L.length ≤ 30000) (w : World) (v von : Value) (hb : Boxed w pb 32 v) (hBp : B ≤ pb) (hBw : B ≤ w.heap.size) (hk : w.cell? ⟨pk, 0, none⟩ = some (.int .i64 kind)) (h : FltOwn B w v L) (hon : NetsOwn Bo w von on) :
    Calls Tryz.prog 45 #[von, .pointer (some ⟨pb, 0, none⟩), .pointer (some ⟨pk, 0, none⟩)] w fun e w' => (∃ x, e = .returned x) ∧ ∃ v', Boxed w' pb 32 v' ∧ FltOwn B w' v' (L ++ [(kind, on)]) ∧ Below B w w' := by
  obtain ⟨i0, hi, hz0, hz1, hz2⟩ := info_parts Tryz.infoFlt
  obtain ⟨va, vc, rfl⟩ := h.open
  obtain ⟨vals, h1, hrow, h3⟩ := h
  have hon' : ∃ a c, von = .slice a on.length c := by
    obtain ⟨a, c, e, -⟩ := hon.at
    exact ⟨a, c, e⟩
  obtain ⟨oa, oc, rfl⟩ := hon'
  have hcb := hb.cell
  have hfb := hb.frozen
  have hcN : ∀ (j : Nat) (u : Value), [Value.int .i64 kind, .slice oa on.length oc][j]? = some u → (w.alloc (.cells #[.int .i64 kind, .slice oa on.length oc] 92)).cell? (Addr.add ⟨w.heap.size, 0, none⟩ j) = some u := by
    intro j u hj
    match j, hj with
    | 0, hj => cases hj; simp [Addr.add]
    | 1, hj => cases hj; simp [Addr.add]
  have HH := Lib.hid (⟨hb, h1, hrow, h3, hon, hcN⟩ : _ ∧ _ ∧ _ ∧ _ ∧ _ ∧ _)
  clear hb h1 hrow h3 hon hcN
  go_enter Tryz.func45, Tryz.ntmps45
  go_wp2_with (at_builtin; refine wpList_append_own _ rfl _ _ 32 rfl B 92 i0 (.agg #[.int .i64 0, .slice none 0 0]) 2 32 Tryz.underlying32 hi hz0 hz1 hz2 rfl (by decide) _ _ _ rfl (HH.out.2.2.1.alloc _) ⟨w.heap.size, 0, none⟩ 1 1 [.int .i64 kind, .slice oa on.length oc] rfl rfl HH.out.2.2.2.2.2 ?c2 ?c3 ?c4 ?c5 ?_)
  case c2 =>
    intro u hu
    simp at hu
    rcases hu with rfl | rfl <;> rfl
  case c3 => unfold maxLen; omega
  case c4 => omega
  case c5 => simp; omega
  intro v' w4 hown' hg4 _
  have hjoin : FltOwn B w4 v' (L ++ [(kind, on)]) := FltOwn.join (mals := [.slice oa on.length oc]) HH.out.2.1 (HH.out.2.2.1.alloc _) (fun i hi => by
      obtain ⟨Bi, h4⟩ := HH.out.2.2.2.1 i hi
      exact ⟨Bi, World.ownsRow.alloc h4 _⟩) rfl (fun i hi => by
      obtain rfl : i = 0 := by simpa using hi
      exact ⟨Bo, World.ownsRow.alloc HH.out.2.2.2.2.1 _⟩) hown' hg4
  obtain ⟨g9, cap9, rfl⟩ := ownsRow_succ hown'
  obtain ⟨hv1, hv2, -, hk2, hb2⟩ := HH.out.1.appended (by decide) HH.out.2.2.1 hBw hBp hown' hg4
  have hc1 := hv1.cell
  have hf1 := hv1.frozen
  have hfin : FltOwn B (w4.setCell ⟨pb, 0, none⟩ (.slice (some ⟨g9, 0, none⟩) (L.length + 1) cap9)) (.slice (some ⟨g9, 0, none⟩) (L.length + 1) cap9) (L ++ [(kind, on)]) := by
    obtain ⟨vs, q1, q2, q3⟩ := hjoin
    refine ⟨vs, q1, q2.kept (grownBy_setCell' w4 pb _) (.inr (hv1.not_row (by decide) q2).symm), fun i hi => ?_⟩
    obtain ⟨Bi, q4⟩ := q3 i hi
    exact ⟨Bi, World.ownsRow.kept q4 (grownBy_setCell' w4 pb _) (.inr (hv1.not_row (by decide) q4).symm)⟩
  have HF := Lib.hid (⟨hv2, hfin, hb2⟩ : _ ∧ _ ∧ _)
  clear hjoin hv1 hv2 hk2 hb2 hown' hg4 hfin HH
  go_wp2_with fail
  go_end0
  exact ⟨⟨_, rfl⟩, _, HF.out⟩

theorem nets_fresh (W : World) (l : List Int) (hz : l.length ≤ 1000) : NetsOwn W.heap.size (W.alloc (.cells (l.map (Value.int .i64)).toArray 3)) (.slice (some ⟨W.heap.size, 0, none⟩) l.length l.length) l := by
  refine ⟨by simp, .inr ⟨_, _, _, rfl, Nat.le_refl _, World.alloc_heap_new W _, Nat.le_refl _, by unfold maxLen; omega, by simp, by simp [List.take_of_length_le]⟩⟩

set_option maxHeartbeats 4000000 in
set_option maxRecDepth 100000 in
theorem allOf_any (kind : Int) (n : Nat) (h1 : 1 ≤ n) (h2 : n ≤ 100) (w : World) :
    Calls Tryz.prog 23 #[.int .i64 kind, .int .i64 (n : Int)] w fun e w' => ∃ v, e = .returned v ∧ FltOwn w.heap.size w' v (allTo kind n n) ∧ Below w.heap.size w w' := by
  have hsh := fun W => isShort_any kind W
  obtain ⟨W1, hW1⟩ : ∃ W1 : World, W1 = w.alloc (.cells #[.int .i64 kind] 3) := ⟨_, rfl⟩
  have hs1 : W1.heap.size = w.heap.size + 1 := by rw [hW1]; simp
  have hk1 : W1.cell? ⟨w.heap.size, 0, none⟩ = some (.int .i64 kind) := by rw [hW1]; simp
  have hB1 : Below w.heap.size w W1 := by rw [hW1]; exact (Below.refl _ _).alloc (Nat.le_refl _) _
  have hbx := Boxed.new W1 32 (.slice none 0 0)
  have hB2 : Below W1.heap.size W1 (W1.alloc (.cells #[.slice none 0 0] 32)) := (Below.refl _ _).alloc (Nat.le_refl _) _
  have HW := Lib.hid hW1
  have HH := Lib.hid (⟨hsh, hk1, hB1, hbx, hB2⟩ : _ ∧ _ ∧ _ ∧ _ ∧ _)
  clear hsh hk1 hB1 hbx hB2 hW1
  go_enter Tryz.func23, Tryz.ntmps23
  go_wp2_with fail
  rw [← HW.out]
  rw [hs1] at HH
  go_loopw [11] (fun i wr => ∃ (a : Nat) (v : Value), a ≤ n ∧ i = .int .i64 (a : Int) ∧ Boxed wr (w.heap.size + 1) 32 v ∧ FltOwn (w.heap.size + 1) wr v (allTo kind n a) ∧ Below (w.heap.size + 1) W1 wr) (fun i _ => n - (intOf i).toNat)
  case atStart => exact ⟨0, _, by omega, rfl, HH.out.2.2.2.1, FltOwn.nil _ _, HH.out.2.2.2.2⟩
  case round =>
    obtain ⟨a, v, ha, rfl, hbx, hfl, hB⟩ := hrel
    have hck := (hB.cell (p := ⟨w.heap.size, 0, none⟩) (by simp)).trans HH.out.2.1
    by_cases hlt : a < n
    · have hal := allTo_len kind n h1 a
      have han : a * n ≤ 99 * 100 := Nat.mul_le_mul (by omega) h2
      have hsu := allTo_succ kind n a
      have hws := hB.size
      rw [hs1] at hws
      have hshw := HH.out.1 wr
      have HL := Lib.hid (⟨hbx, hfl, hB⟩ : _ ∧ _ ∧ _)
      have a0 : (0 : Int) ≤ (a : Int) := by omega
      cases hsk : shortK kind with
      | false =>
        rw [hsk] at hshw hsu
        have HSU := Lib.hid hsu
        have hadd := allOf1_any (w.heap.size + 1) (w.heap.size + 1) w.heap.size _ kind (allTo kind n a) [(a : Int)] (by omega) (wr.alloc (.cells #[.int .i64 (a : Int)] 3)) v _ (hbx.alloc _) (Nat.le_refl _) (by simp; omega) ((((Below.refl wr.heap.size wr).alloc (Nat.le_refl _) _).cell (p := ⟨w.heap.size, 0, none⟩) (by simp; omega)).trans hck) (hfl.later ((Below.refl _ _).alloc (Nat.le_refl _) _)) (nets_fresh wr [(a : Int)] (by simp))
        have HBA := Lib.hid (hB.alloc hws (.cells #[.int .i64 (a : Int)] 3))
        clear hsk hsu hal han hbx hfl hB
        go_wp2_with fail
        refine hshw.mono ?_
        rintro e w2 ⟨rfl, rfl⟩
        clear hshw
        go_wp2_with fail
        refine hadd.mono ?_
        rintro e w3 ⟨⟨x, rfl⟩, v', hb3, hf3, hB3⟩
        have H3 := Lib.hid (⟨hb3, hf3, HBA.out.trans (hB3.mono (by simp))⟩ : _ ∧ _ ∧ _)
        clear hadd hb3 hf3 hB3
        go_wp2_with fail
        go_roundw
        case rel => exact ⟨a + 1, v', by omega, by go_num, H3.out.1, by rw [HSU.out]; exact H3.out.2.1, H3.out.2.2⟩
        case measure => simp [intOf]; omega
      | true =>
        rw [hsk] at hshw hsu
        rw [if_pos rfl] at hsu
        have HSU := Lib.hid hsu
        have HSK := Lib.hid hsk
        clear hsk hsu hbx hfl hB
        go_wp2_with fail
        refine hshw.mono ?_
        rintro e w2 ⟨rfl, rfl⟩
        clear hshw hck
        go_wp2_with fail
        go_loopw [22] (fun i wq => ∃ (b : Nat) (v : Value), b ≤ n ∧ i = .int .i64 (b : Int) ∧ Boxed wq (w.heap.size + 1) 32 v ∧ FltOwn (w.heap.size + 1) wq v (allTo kind n a ++ addRow kind a b) ∧ Below (w.heap.size + 1) W1 wq) (fun i _ => n - (intOf i).toNat)
        case atStart => exact ⟨0, v, by omega, rfl, HL.out.1, by rw [show addRow kind a 0 = [] from rfl, List.append_nil]; exact HL.out.2.1, HL.out.2.2⟩
        case round =>
          clear HL
          obtain ⟨b, v2, hb, rfl, hbx, hfl, hB⟩ := hrel
          have hck := (hB.cell (p := ⟨w.heap.size, 0, none⟩) (by simp)).trans HH.out.2.1
          by_cases hltb : b < n
          · have hsb := addRow_succ kind a b
            have hrl := addRow_len kind a b
            have hws2 := hB.size
            rw [hs1] at hws2
            have b0 : (0 : Int) ≤ (b : Int) := by omega
            have hadd := allOf1_any (w.heap.size + 1) (w.heap.size + 1) w.heap.size _ kind (allTo kind n a ++ addRow kind a b) [(a : Int), (b : Int)] (by rw [List.length_append]; omega) (wr.alloc (.cells #[.int .i64 (a : Int), .int .i64 (b : Int)] 3)) v2 _ (hbx.alloc _) (Nat.le_refl _) (by simp; omega) ((((Below.refl wr.heap.size wr).alloc (Nat.le_refl _) _).cell (p := ⟨w.heap.size, 0, none⟩) (by simp; omega)).trans hck) (hfl.later ((Below.refl _ _).alloc (Nat.le_refl _) _)) (nets_fresh wr [(a : Int), (b : Int)] (by simp))
            have hno : (¬ (a < b ∨ b < a ∧ kind = 5)) → FltOwn (w.heap.size + 1) wr v2 (allTo kind n a ++ addRow kind a (b + 1)) := fun h => by rw [hsb, if_neg h]; exact hfl
            have HNO := Lib.hid (⟨hno, hbx, hB, hsb⟩ : _ ∧ _ ∧ _ ∧ _)
            have HBA := Lib.hid (hB.alloc hws2 (.cells #[.int .i64 (a : Int), .int .i64 (b : Int)] 3))
            clear hbx hfl hB hno hsb hrl hal han
            by_cases hab : a < b
            · have i1 : (a : Int) < (b : Int) := by omega
              have HIF := Lib.hid (HNO.out.2.2.2.trans (if_pos (.inl hab)))
              go_wp2_with fail
              refine hadd.mono ?_
              rintro e w3 ⟨⟨x, rfl⟩, v', hb3, hf3, hB3⟩
              have H3 := Lib.hid (⟨hb3, hf3, HBA.out.trans (hB3.mono (by simp))⟩ : _ ∧ _ ∧ _)
              clear hadd hb3 hf3 hB3
              go_wp2_with fail
              go_roundw
              case rel => exact ⟨b + 1, v', by omega, by go_num, H3.out.1, by rw [HIF.out, ← List.append_assoc]; exact H3.out.2.1, H3.out.2.2⟩
              case measure => simp [intOf]; omega
            · by_cases hba : b < a
              · have i1 : (b : Int) < (a : Int) := by omega
                by_cases hk5 : kind = 5
                · have HIF := Lib.hid (HNO.out.2.2.2.trans (if_pos (.inr ⟨hba, hk5⟩)))
                  have n5 : (kind == 5) = true := by simp [hk5]
                  clear hk5
                  go_wp2_with fail
                  refine hadd.mono ?_
                  rintro e w3 ⟨⟨x, rfl⟩, v', hb3, hf3, hB3⟩
                  have H3 := Lib.hid (⟨hb3, hf3, HBA.out.trans (hB3.mono (by simp))⟩ : _ ∧ _ ∧ _)
                  clear hadd hb3 hf3 hB3
                  go_wp2_with fail
                  go_roundw
                  case rel => exact ⟨b + 1, v', by omega, by go_num, H3.out.1, by rw [HIF.out, ← List.append_assoc]; exact H3.out.2.1, H3.out.2.2⟩
                  case measure => simp [intOf]; omega
                · have n5 : (kind == 5) = false := by simpa using hk5
                  have H3 := Lib.hid (⟨HNO.out.1 (by omega), HNO.out.2.1, HNO.out.2.2.1⟩ : _ ∧ _ ∧ _)
                  clear hk5 hadd
                  go_wp2_with fail
                  go_roundw
                  case rel => exact ⟨b + 1, v2, by omega, by go_num, H3.out.2.1, H3.out.1, H3.out.2.2⟩
                  case measure => simp [intOf]; omega
              · have i1 : ¬ (b : Int) < (a : Int) := by omega
                have H3 := Lib.hid (⟨HNO.out.1 (by omega), HNO.out.2.1, HNO.out.2.2.1⟩ : _ ∧ _ ∧ _)
                clear hadd
                go_wp2_with fail
                go_roundw
                case rel => exact ⟨b + 1, v2, by omega, by go_num, H3.out.2.1, H3.out.1, H3.out.2.2⟩
                case measure => simp [intOf]; omega
          · obtain rfl : b = n := by omega
            have H9 := Lib.hid (⟨hbx, hfl, hB⟩ : _ ∧ _ ∧ _)
            clear hbx hfl hB
            go_wp2_with fail
            go_roundw
            case rel => exact ⟨a + 1, v2, by omega, by go_num, H9.out.1, by rw [HSU.out]; exact H9.out.2.1, H9.out.2.2⟩
            case measure => simp [intOf]; omega
    · obtain rfl : a = n := by omega
      have hcb := hbx.cell
      obtain ⟨va, vc, rfl⟩ := hfl.open
      have H9 := Lib.hid (⟨hfl.base (Nat.le_succ _), HH.out.2.2.1.trans (hB.mono (Nat.le_succ _))⟩ : FltOwn w.heap.size wr _ _ ∧ _)
      clear hbx hfl hB
      go_wp2_with fail
      go_ret
      exact ⟨_, rfl, H9.out⟩

theorem nets_slice {B : Nat} {w : World} {v : Value} {l : List Int} (h : NetsOwn B w v l) : v.oneCell' = true := by
  obtain ⟨-, ⟨rfl, -⟩ | ⟨g, cap, cur, rfl, -⟩⟩ := h <;> rfl
/-- What a row of faults hands to an append. -/
theorem flt_append_news {B2 : Nat} {w : World} {g c : Nat} {M : List Flt} {mals : List Value} (h1 : mals.length = M.length) (hr : w.ownsRow B2 92 2 (.slice (some ⟨g, 0, none⟩) M.length c) M.length (fltCells M mals)) (h3 : ∀ i, i < M.length → ∃ Bi, NetsOwn Bi w (mals.getD i undef) (M.getD i (0, [])).2) :
    (∀ (j : Nat) (u : Value), (fltCells M mals)[j]? = some u → w.cell? (Addr.add ⟨g, 0, none⟩ j) = some u) ∧ ∀ u ∈ fltCells M mals, u.oneCell' = true := by
  constructor
  · intro j u hj
    have hl := fltCells_len M mals h1
    have hjl : j < M.length * 2 := by
      rw [← hl]
      exact (List.getElem?_eq_some_iff.1 hj).1
    have := hr.cellAt j hjl
    rw [hj] at this
    by_cases h0 : j = 0
    · subst h0
      simpa [Addr.add] using this
    · simpa [Addr.add, h0] using this
  · intro u hu
    unfold fltCells at hu
    obtain ⟨x, hx0, hx⟩ := List.mem_flatMap.1 hu
    simp at hx
    rcases hx with rfl | rfl
    · rfl
    · have hm : x.2 ∈ mals := (List.of_mem_zip hx0).2
      obtain ⟨i, hi, e⟩ := List.getElem_of_mem hm
      obtain ⟨Bi, h4⟩ := h3 i (by omega)
      have e2 : mals.getD i undef = x.2 := by rw [← e]; simp [hi]
      rw [e2] at h4
      exact nets_slice h4

set_option maxHeartbeats 4000000 in
set_option maxRecDepth 100000 in
theorem checkKinds_ok (K : List Int) (hz : K.length ≤ 6) (hr : ∀ i, i < K.length → 1 ≤ K.getD i 0 ∧ K.getD i 0 ≤ 6) (hs : ∀ i, i + 1 < K.length → K.getD i 0 < K.getD (i + 1) 0) (w : World) (v : Value) (h : NetsAt w v K) :
    Calls Tryz.prog 22 #[v] w fun e w' => e = .returned (.int .i64 0) ∧ Below w.heap.size w w' := by
  obtain ⟨a, c, rfl, -, hop⟩ := h
  obtain ⟨n, hn⟩ : ∃ n, n = K.length := ⟨_, rfl⟩
  rw [← hn] at hop hr hs hz ⊢
  have HC := Lib.hid (⟨hop, hr, hs⟩ : _ ∧ _ ∧ _)
  have hzI : (n : Int) ≤ 6 := by omega
  clear hop hn hr hs
  go_enter Tryz.func22, Tryz.ntmps22
  go_wp2_with fail
  go_loopw [10] (fun i wr => ∃ (k : Nat), k ≤ n ∧ i = .int .i64 (k : Int) ∧ Below w.heap.size w wr) (fun i _ => n - (intOf i).toNat)
  case atStart => exact ⟨0, by omega, rfl, Below.refl _ _⟩
  case round =>
    obtain ⟨k, hk, rfl, hB⟩ := hrel
    by_cases hlt : k < n
    · obtain ⟨g, o, rfl, hg, hcell⟩ := HC.out.1 (by omega)
      have hc := (hB.cell (p := ⟨g, o + k, none⟩) hg).trans (hcell k hlt)
      have hik := fun W => fisKind_any (K.getD k 0) W
      rw [decide_eq_true (HC.out.2.1 k hlt)] at hik
      have hik1 := hik wr
      obtain ⟨y, hy⟩ : ∃ y, y = K.getD k 0 := ⟨_, rfl⟩
      rw [← hy] at hc hik1
      have k0 : (0 : Int) ≤ (k : Int) := by omega
      have k1 : (k : Int) < (n : Int) := by omega
      have HB := Lib.hid hB
      by_cases h0 : k = 0
      · subst h0
        rw [Nat.add_zero] at hc
        clear hB hcell hy hik
        go_wp2_with fail
        refine hik1.mono ?_
        rintro e w' ⟨rfl, rfl⟩
        clear hik1
        go_wp2_with fail
        go_roundw
        case rel => exact ⟨1, by omega, by go_num, HB.out⟩
        case measure => simp [intOf]; omega
      · obtain ⟨q, rfl⟩ : ∃ q, k = q + 1 := ⟨k - 1, by omega⟩
        have hc2 := (hB.cell (p := ⟨g, o + q, none⟩) hg).trans (hcell q (by omega))
        have hlt2 := HC.out.2.2 q hlt
        obtain ⟨y2, hy2⟩ : ∃ y, y = K.getD q 0 := ⟨_, rfl⟩
        rw [← hy2] at hc2 hlt2
        rw [← hy] at hlt2
        have dd : decide (y ≤ y2) = false := decide_eq_false (by omega)
        have q0 : (0 : Int) ≤ (q : Int) := by omega
        have q1 : (q : Int) < (n : Int) := by omega
        clear hB hcell hy hik hy2 hlt2
        go_wp2_with fail
        refine hik1.mono ?_
        rintro e w' ⟨rfl, rfl⟩
        clear hik1
        go_wp2_with fail
        go_roundw
        case rel => exact ⟨q + 2, by omega, by go_num, HB.out⟩
        case measure => simp [intOf]; omega
    · obtain rfl : k = n := by omega
      have HB := Lib.hid hB
      clear hB
      go_wp2_with fail
      go_ret
      exact ⟨rfl, HB.out⟩
end Go.Proofs.YtldilggfmclnlaaGreatDoor
