/- Package fault's All: rows of faults of the call's own. -/
import Derived.Test.YtgnkihiibednoaaGreatDoorFtB
import Derived.RangeFuncBox
import Derived.Maps.AppendAt
namespace Go.Proofs.YtgnkihiibednoaaGreatDoor
open Go.RowKit

def fltCells (L : List Flt) (vals : List Value) : List Value := (L.zip vals).flatMap fun x => [.int .i64 x.1.1, x.2]
theorem fltCells_append (L M : List Flt) (vals mals : List Value) (h : L.length = vals.length) : fltCells (L ++ M) (vals ++ mals) = fltCells L vals ++ fltCells M mals := by
  unfold fltCells
  rw [List.zip_append h, List.flatMap_append]
theorem fltCells_len : ∀ (L : List Flt) (vals : List Value), vals.length = L.length → (fltCells L vals).length = L.length * 2
  | [], _, _ => by simp [fltCells]
  | f :: L, [], h => by simp at h
  | f :: L, v :: vals, h => by
    have ih := fltCells_len L vals (by simpa using h)
    have e : fltCells (f :: L) (v :: vals) = .int .i64 f.1 :: v :: fltCells L vals := rfl
    rw [e, List.length_cons, List.length_cons, ih, List.length_cons]
    omega
theorem fltCells_at : ∀ (L : List Flt) (vals : List Value) (k : Nat), vals.length = L.length → k < L.length → (fltCells L vals)[k * 2]? = some (.int .i64 (L.getD k (0, [])).1) ∧ (fltCells L vals)[k * 2 + 1]? = some (vals.getD k undef)
  | [], _, k, _, h => absurd h (Nat.not_lt_zero _)
  | f :: L, [], _, h, _ => by simp at h
  | f :: L, v :: vals, 0, _, _ => ⟨rfl, rfl⟩
  | f :: L, v :: vals, k + 1, h, hk => by
    have ih := fltCells_at L vals k (by simpa using h) (by simpa using hk)
    have e : fltCells (f :: L) (v :: vals) = .int .i64 f.1 :: v :: fltCells L vals := rfl
    have e1 : (k + 1) * 2 = k * 2 + 1 + 1 := by omega
    rw [e, e1]
    exact ih
/-- A row of these numbers, of the call's own. -/
def NetsOwn (B : Nat) (w : World) (v : Value) (l : List Int) : Prop := w.ownsRow B 3 1 v l.length (l.map (Value.int .i64))
/-- A row of these faults, of the call's own. -/
def FltOwn (B : Nat) (w : World) (v : Value) (L : List Flt) : Prop :=
  ∃ vals : List Value, vals.length = L.length ∧ w.ownsRow B 30 2 v L.length (fltCells L vals) ∧ ∀ i, i < L.length → ∃ Bi, NetsOwn Bi w (vals.getD i undef) (L.getD i (0, [])).2
theorem row_apart {W : World} {B1 B2 : Nat} {e1 e2 : TypeId} {s1 s2 n1 n2 : Nat} {v1 v2 : Value} {x1 x2 : List Value} (h1 : W.ownsRow B1 e1 s1 v1 n1 x1) (h2 : W.ownsRow B2 e2 s2 v2 n2 x2) (hne : e1 ≠ e2) : v2.ownBlock = none ∨ v2.ownBlock ≠ v1.ownBlock := by
  rcases h2.2 with ⟨rfl, _⟩ | ⟨g2, cap2, cur2, rfl, _, hg2, _⟩
  · exact .inl rfl
  · refine .inr fun e => ?_
    rcases h1.2 with ⟨rfl, _⟩ | ⟨g1, cap1, cur1, rfl, _, hg1, _⟩
    · simp [Value.ownBlock] at e
    · obtain rfl : g2 = g1 := by simpa [Value.ownBlock] using e
      rw [hg1] at hg2
      simp at hg2
      exact hne hg2.2
theorem FltOwn.nil (B : Nat) (w : World) : FltOwn B w (.slice none 0 0) [] := ⟨[], rfl, World.ownsRow_nil _ _ _ _, fun _ h => absurd h (Nat.not_lt_zero _)⟩
theorem FltOwn.later {B : Nat} {w w' : World} {v : Value} {L : List Flt} (h : FltOwn B w v L) (hB : Below w.heap.size w w') : FltOwn B w' v L := by
  obtain ⟨vals, h1, h2, h3⟩ := h
  refine ⟨vals, h1, row_later h2 hB, fun i hi => ?_⟩
  obtain ⟨Bi, h4⟩ := h3 i hi
  exact ⟨Bi, row_later h4 hB⟩
theorem FltOwn.base {B B' : Nat} {w : World} {v : Value} {L : List Flt} (h : FltOwn B w v L) (hB : B' ≤ B) : FltOwn B' w v L := by
  obtain ⟨vals, h1, h2, h3⟩ := h
  exact ⟨vals, h1, row_base h2 hB, h3⟩
theorem FltOwn.open {B : Nat} {w : World} {v : Value} {L : List Flt} (h : FltOwn B w v L) : ∃ a c, v = .slice a L.length c := by
  obtain ⟨vals, -, ⟨-, ⟨e, h0⟩ | ⟨g, cap, cur, e, -⟩⟩, -⟩ := h
  · exact ⟨none, 0, by rw [e, h0]⟩
  · exact ⟨_, _, e⟩
theorem NetsOwn.at {B : Nat} {w : World} {v : Value} {l : List Int} (h : NetsOwn B w v l) : NetsAt w v l := by
  have hr : w.ownsRow B 3 1 v l.length (l.map (Value.int .i64)) := h
  obtain ⟨-, ⟨e, h0⟩ | ⟨g, cap, cur, e, hb, hg, hc, -⟩⟩ := h
  · exact ⟨none, 0, by rw [e, h0], by omega, fun h => by omega⟩
  · subst e
    refine ⟨_, _, rfl, hc, fun _ => ⟨g, 0, rfl, (Array.getElem?_eq_some_iff.1 hg).1, fun j hj => ?_⟩⟩
    rw [Nat.zero_add, hr.cellAt j (by omega)]
    simp [hj]
theorem FltOwn.at {B : Nat} {w : World} {v : Value} {L : List Flt} (h : FltOwn B w v L) : FltsAt w v L := by
  obtain ⟨vals, h1, h2, h3⟩ := h
  have hr := h2
  obtain ⟨-, ⟨e, h0⟩ | ⟨g, cap, cur, e, hb, hg, hc, -⟩⟩ := h2
  · exact ⟨none, 0, by rw [e, h0], fun h => by omega⟩
  · subst e
    refine ⟨_, _, rfl, fun _ => ⟨g, rfl, (Array.getElem?_eq_some_iff.1 hg).1, fun i hi => ?_⟩⟩
    obtain ⟨ha, hb⟩ := fltCells_at L vals i h1 hi
    obtain ⟨Bi, h4⟩ := h3 i hi
    exact ⟨(hr.cellAt _ (by omega)).trans ha, _, (hr.cellAt _ (by omega)).trans hb, h4.at⟩
/-- One row behind another: what the grown world keeps. -/
theorem FltOwn.join {B : Nat} {W W' : World} {v v' : Value} {L M : List Flt} {vals mals : List Value} (h1 : vals.length = L.length) (hr : W.ownsRow B 30 2 v L.length (fltCells L vals)) (h3 : ∀ i, i < L.length → ∃ Bi, NetsOwn Bi W (vals.getD i undef) (L.getD i (0, [])).2)
    (m1 : mals.length = M.length) (m3 : ∀ i, i < M.length → ∃ Bi, NetsOwn Bi W (mals.getD i undef) (M.getD i (0, [])).2)
    (hown : W'.ownsRow B 30 2 v' (L.length + M.length) (fltCells L vals ++ fltCells M mals)) (hg : W.grownBy W' v.ownBlock) : FltOwn B W' v' (L ++ M) := by
  have hk : ∀ (u : Value) (l : List Int) (Bi : Nat), NetsOwn Bi W u l → NetsOwn Bi W' u l := fun u l Bi hn => World.ownsRow.kept hn hg (row_apart hr hn (by decide))
  refine ⟨vals ++ mals, by rw [List.length_append, List.length_append, h1, m1], ?_, fun i hi => ?_⟩
  · rw [List.length_append, fltCells_append _ _ _ _ h1.symm]
    exact hown
  · rw [List.length_append] at hi
    by_cases hl : i < L.length
    · obtain ⟨Bi, h4⟩ := h3 i hl
      have e1 : (vals ++ mals).getD i undef = vals.getD i undef := by simp [List.getD, List.getElem?_append, h1, hl]
      have e2 : (L ++ M).getD i (0, []) = L.getD i (0, []) := by simp [List.getD, List.getElem?_append, hl]
      rw [e1, e2]
      exact ⟨Bi, hk _ _ _ h4⟩
    · obtain ⟨Bi, h4⟩ := m3 (i - L.length) (by omega)
      have e1 : (vals ++ mals).getD i undef = mals.getD (i - L.length) undef := by simp [List.getD, List.getElem?_append, h1, hl]
      have e2 : (L ++ M).getD i (0, []) = M.getD (i - L.length) (0, []) := by simp [List.getD, List.getElem?_append, hl]
      rw [e1, e2]
      exact ⟨Bi, hk _ _ _ h4⟩

theorem Tryz.infoFlt : (Tryz.prog.info? 30).map (fun i => (i.zero, i.size, i.bytes)) = some (some (.agg #[.int .i64 0, .slice none 0 0]), 2, 32) := by kernel_rfl

theorem nets_fresh (W : World) (l : List Int) (hz : l.length ≤ 1000) : NetsOwn W.heap.size (W.alloc (.cells (l.map (Value.int .i64)).toArray 3)) (.slice (some ⟨W.heap.size, 0, none⟩) l.length l.length) l := by
  refine ⟨by simp, .inr ⟨_, _, _, rfl, Nat.le_refl _, World.alloc_heap_new W _, Nat.le_refl _, by unfold maxLen; omega, by simp, by simp [List.take_of_length_le]⟩⟩

theorem nets_slice {B : Nat} {w : World} {v : Value} {l : List Int} (h : NetsOwn B w v l) : v.oneCell' = true := by
  obtain ⟨-, ⟨rfl, -⟩ | ⟨g, cap, cur, rfl, -⟩⟩ := h <;> rfl
/-- What a row of faults hands to an append. -/
theorem flt_append_news {B2 : Nat} {w : World} {g c : Nat} {M : List Flt} {mals : List Value} (h1 : mals.length = M.length) (hr : w.ownsRow B2 30 2 (.slice (some ⟨g, 0, none⟩) M.length c) M.length (fltCells M mals)) (h3 : ∀ i, i < M.length → ∃ Bi, NetsOwn Bi w (mals.getD i undef) (M.getD i (0, [])).2) :
    (∀ (j : Nat) (u : Value), (fltCells M mals)[j]? = some u → w.cell? (Addr.add ⟨g, 0, none⟩ j) = some u) ∧ ∀ u ∈ fltCells M mals, u.oneCell' = true := by
  constructor
  · intro j u hj
    have hl := fltCells_len M mals h1
    have hjl : j < M.length * 2 := by
      rw [← hl]
      exact (List.getElem?_eq_some_iff.1 hj).1
    have := hr.cellAt j hjl
    rw [hj] at this
    by_cases h0 : j = 0
    · subst h0
      simpa [Addr.add] using this
    · simpa [Addr.add, h0] using this
  · intro u hu
    unfold fltCells at hu
    obtain ⟨x, hx0, hx⟩ := List.mem_flatMap.1 hu
    simp at hx
    rcases hx with rfl | rfl
    · rfl
    · have hm : x.2 ∈ mals := (List.of_mem_zip hx0).2
      obtain ⟨i, hi, e⟩ := List.getElem_of_mem hm
      obtain ⟨Bi, h4⟩ := h3 i (by omega)
      have e2 : mals.getD i undef = x.2 := by rw [← e]; simp [hi]
      rw [e2] at h4
      exact nets_slice h4

end Go.Proofs.YtgnkihiibednoaaGreatDoor
