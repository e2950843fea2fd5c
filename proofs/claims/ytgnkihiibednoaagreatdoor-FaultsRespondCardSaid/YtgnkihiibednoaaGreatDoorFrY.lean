/- The maker of faults: AFault. -/
import Derived.Test.YtgnkihiibednoaaGreatDoorFrX
import Derived.Test.YtgnkihiibednoaaGreatDoorFrW
import Derived.ArgAppend
import Derived.Laws.Rows
namespace Go.Proofs.YtgnkihiibednoaaGreatDoor
open Go.RowKit Go.Shelf

/-- A fault in a variable's block. -/
def FBox (w : World) (b : Nat) (k : Int) (v : Value) : Prop := w.heap[b]? = some (.cells #[.int .i64 k, v] 30 (0, 0))
theorem FBox.lt {w : World} {b : Nat} {k : Int} {v : Value} (h : FBox w b k v) : b < w.heap.size := (Array.getElem?_eq_some_iff.1 h).1
theorem FBox.c0 {w : World} {b : Nat} {k : Int} {v : Value} (h : FBox w b k v) : w.cell? ⟨b, 0, none⟩ = some (.int .i64 k) := by simp [World.cell?, show w.heap[b]? = _ from h]
theorem FBox.c1 {w : World} {b : Nat} {k : Int} {v : Value} (h : FBox w b k v) : w.cell? ⟨b, 1, none⟩ = some v := by simp [World.cell?, show w.heap[b]? = _ from h]
theorem FBox.f0 {w : World} {b : Nat} {k : Int} {v : Value} (h : FBox w b k v) : w.frozen? ⟨b, 0, none⟩ = false := by simp [World.frozen?, show w.heap[b]? = _ from h]
theorem FBox.f1 {w : World} {b : Nat} {k : Int} {v : Value} (h : FBox w b k v) : w.frozen? ⟨b, 1, none⟩ = false := by simp [World.frozen?, show w.heap[b]? = _ from h]
theorem FBox.kept {w w' : World} {b : Nat} {k : Int} {v : Value} (h : FBox w b k v) (hb : w'.heap[b]? = w.heap[b]?) : FBox w' b k v := hb.trans h
theorem FBox.set0 {w : World} {b : Nat} {k : Int} {v : Value} (k' : Int) (h : FBox w b k v) : FBox (w.setCell ⟨b, 0, none⟩ (.int .i64 k')) b k' v := by
  obtain ⟨hlt, hk⟩ := Array.getElem?_eq_some_iff.1 h
  show (w.heap.modify b _)[b]? = _
  rw [Array.getElem?_eq_getElem (by rw [Array.size_modify]; exact hlt), Array.getElem_modify_self, hk]
  rfl
theorem FBox.set1 {w : World} {b : Nat} {k : Int} {v : Value} (v' : Value) (h : FBox w b k v) : FBox (w.setCell ⟨b, 1, none⟩ v') b k v' := by
  obtain ⟨hlt, hk⟩ := Array.getElem?_eq_some_iff.1 h
  show (w.heap.modify b _)[b]? = _
  rw [Array.getElem?_eq_getElem (by rw [Array.size_modify]; exact hlt), Array.getElem_modify_self, hk]
  rfl
theorem FBox.ran {w w' : World} {b sb t K : Nat} {k : Int} {v : Value} (h : FBox w b k v) (hr : Ran sb t K w w') (hb : b ≠ sb) : FBox w' b k v := h.kept (hr.1.block b h.lt (fun e => hb (Option.some.inj e)))

/-- Cells that hold numbers. -/
def Ints (w : World) (g o n : Nat) : Prop := ∀ j, j < n → ∃ x : Int, w.cell? ⟨g, o + j, none⟩ = some (.int .i64 x) ∧ w.frozen? ⟨g, o + j, none⟩ = false
theorem Ints.list {w : World} {g o n : Nat} (h : Ints w g o n) : ∃ l : List Int, l.length = n ∧ ∀ j, j < n → w.cell? ⟨g, o + j, none⟩ = some (.int .i64 (l.getD j 0)) := by
  have hf : ∀ j, ∃ x : Int, j < n → w.cell? ⟨g, o + j, none⟩ = some (.int .i64 x) := fun j => by
    by_cases hj : j < n
    · obtain ⟨x, hx, -⟩ := h j hj
      exact ⟨x, fun _ => hx⟩
    · exact ⟨0, fun h => absurd h hj⟩
  obtain ⟨f, hf⟩ := Classical.axiomOfChoice hf
  exact ⟨(List.range n).map f, by simp, fun j hj => by rw [hf j hj]; simp [hj]⟩
theorem Ints.kept {w w' : World} {g o n : Nat} (h : Ints w g o n) (hb : w'.heap[g]? = w.heap[g]?) : Ints w' g o n := fun j hj => by
  obtain ⟨x, h1, h2⟩ := h j hj
  exact ⟨x, (World.cell?_of_block (a := ⟨g, o + j, none⟩) hb).trans h1, (World.frozen?_of_block (a := ⟨g, o + j, none⟩) hb).trans h2⟩
theorem Ints.sub {w : World} {g o n o' n' : Nat} (h : Ints w g o n) (ho : o ≤ o') (hn : o' + n' ≤ o + n) : Ints w g o' n' := fun j hj => by
  obtain ⟨x, h1, h2⟩ := h (o' - o + j) (by omega)
  rw [show o + (o' - o + j) = o' + j by omega] at h1 h2
  exact ⟨x, h1, h2⟩
theorem Ints.row {w : World} {B g c n : Nat} {l : List Int} (h : w.ownsRow B 3 1 (.slice (some ⟨g, 0, none⟩) n c) n (l.map intV)) (hl : l.length = n) : Ints w g 0 n := fun j hj => by
  refine ⟨l.getD j 0, ?_, ?_⟩
  · rw [Nat.zero_add, h.cellAt j (by omega)]
    simp [intV, show j < l.length by omega]
  · rw [Nat.zero_add]
    exact h.frozenAt j

open Go.Sort in
/-- slices.Sort of numbers: numbers again, nothing else turned. -/
theorem sort_any (g o n c m : Nat) (w : World) (hI : Ints w g 0 m) (hom : o + n ≤ m) (hn : n ≤ 1000) (hg : g < w.heap.size) :
    Calls Tryz.prog 28 #[.slice (some ⟨g, o, none⟩) n c] w fun e w' => e = .returned (.tuple #[]) ∧ Ints w' g 0 m ∧ w.grownBy w' (some g) := by
  obtain ⟨l, hl, hc⟩ := (hI.sub (o' := o) (n' := n) (Nat.zero_le _) (by omega)).list
  have hH : Holds (Value.int .i64) w g o l.toArray := fun j hj => by
    have hj' : j < n := by rw [← hl]; simpa using hj
    obtain ⟨x, hx, hfx⟩ := hI.sub (o' := o) (n' := n) (Nat.zero_le _) (by omega) j hj'
    refine ⟨?_, hfx⟩
    rw [hc j hj']
    simp [show j < l.length by omega]
  have h := Tryz.slices_Sort_int g o c l w hH hg (by omega)
  rw [hl] at h
  refine h.mono ?_
  rintro e w' ⟨rfl, q, os, rfl⟩
  have hsz : (l.mergeSort fun x y => decide (x ≤ y)).toArray.size = l.toArray.size := by simp
  refine ⟨rfl, fun j hj => ?_, ⟨rfl, rfl, rfl, ?_, fun k hk hne => ?_⟩⟩
  · rw [Nat.zero_add]
    obtain ⟨x, hx, hfx⟩ := hI j hj
    rw [Nat.zero_add] at hx hfx
    have hlt : (⟨g, j, none⟩ : Addr).block < (putRow (Value.int .i64) (Go.Sort.ahead w q) g o (l.mergeSort fun x y => decide (x ≤ y)).toArray).heap.size := by
      show g < (w.heap.modify g _).size
      rw [Array.size_modify]
      exact hg
    rw [cell?_grow _ _ _ hlt, frozen?_grow _ _ _ hlt]
    by_cases hin : o ≤ j ∧ j < o + n
    · obtain ⟨i, rfl⟩ : ∃ i, j = o + i := ⟨j - o, by omega⟩
      have h1 := holds_putRow (Value.int .i64) (Go.Sort.ahead w q) g o l.toArray _ (holds_ahead _ w q g o _ hH) hsz i (by rw [hsz]; simp; omega)
      exact ⟨_, h1⟩
    · refine ⟨x, ?_, ?_⟩
      · rw [cell?_putRow_other _ _ _ _ _ _ (.inr (by simp; omega))]
        exact hx
      · unfold putRow
        rw [frozen?_mapBlock]
        exact hfx
  · show w.heap.size ≤ ((w.heap.modify g _) ++ os).size
    rw [Array.size_append, Array.size_modify]
    omega
  · have hlt : k < (putRow (Value.int .i64) (Go.Sort.ahead w q) g o (l.mergeSort fun x y => decide (x ≤ y)).toArray).heap.size := by
      show k < (w.heap.modify g _).size
      rw [Array.size_modify]
      exact hk
    rw [heap_grow_old _ _ hlt]
    show (w.heap.modify g _)[k]? = w.heap[k]?
    rw [Array.getElem?_modify, if_neg (fun e => hne (by rw [e]))]
theorem pick_223 (j : Nat) (hj : j < 3) : ∃ q : Nat, 2 ≤ q ∧ q ≤ 3 ∧ ([2, 2, 3].getD j 0 : Int) = (q : Int) := by
  match j, hj with
  | 0, _ => exact ⟨2, by omega, by omega, rfl⟩
  | 1, _ => exact ⟨2, by omega, by omega, rfl⟩
  | 2, _ => exact ⟨3, by omega, by omega, rfl⟩
theorem cap_row {w : World} {B g c n : Nat} {e : TypeId} {xs : List Value} (h : w.ownsRow B e 1 (.slice (some ⟨g, 0, none⟩) n c) n xs) (hn : 1 ≤ n) : n ≤ c := by
  obtain ⟨h1, ⟨h2, h3⟩ | ⟨g', cap, cur, e1, e2, e3, e4⟩⟩ := h
  · omega
  · cases e1
    exact e4.1

/-- Numbers in memory, in a block at or beyond B. -/
def NetsB (B : Nat) (w : World) (v : Value) (l : List Int) : Prop :=
  ∃ a c, v = .slice a l.length c ∧ l.length ≤ c ∧ (l.length = 0 → a = none) ∧ (0 < l.length → ∃ g o, a = some ⟨g, o, none⟩ ∧ B ≤ g ∧ g < w.heap.size ∧ ∀ j, j < l.length → w.cell? ⟨g, o + j, none⟩ = some (.int .i64 (l.getD j 0)))

theorem NetsB.of {B : Nat} {w : World} {g o n c : Nat} {l : List Int} (hl : l.length = n) (hn : 1 ≤ n) (hc : n ≤ c) (hB : B ≤ g) (hg : g < w.heap.size) (hcell : ∀ j, j < n → w.cell? ⟨g, o + j, none⟩ = some (.int .i64 (l.getD j 0))) : NetsB B w (.slice (some ⟨g, o, none⟩) n c) l := by
  subst hl
  exact ⟨_, _, rfl, hc, fun h => by omega, fun _ => ⟨g, o, rfl, hB, hg, hcell⟩⟩
theorem NetsB.row {B : Nat} {w : World} {g c n : Nat} {l : List Int} (h : w.ownsRow B 3 1 (.slice (some ⟨g, 0, none⟩) n c) n (l.map intV)) (hl : l.length = n) (hn : 1 ≤ n) : NetsB B w (.slice (some ⟨g, 0, none⟩) n c) l :=
  NetsB.of hl hn (cap_row h hn) (h.lt g rfl).1 (h.lt g rfl).2 fun j hj => by
    rw [Nat.zero_add, h.cellAt j (by omega)]
    simp [intV, show j < l.length by omega]
theorem NetsB.kept {B : Nat} {w w' : World} {v : Value} {l : List Int} (h : NetsB B w v l) (hs : w.heap.size ≤ w'.heap.size) (hb : ∀ g, B ≤ g → g < w.heap.size → v.ownBlock = some g → w'.heap[g]? = w.heap[g]?) : NetsB B w' v l := by
  obtain ⟨a, c, rfl, h1, h6, h2⟩ := h
  refine ⟨a, c, rfl, h1, h6, fun h0 => ?_⟩
  obtain ⟨g, o, rfl, h3, h4, h5⟩ := h2 h0
  exact ⟨g, o, rfl, h3, by omega, fun j hj => (World.cell?_of_block (a := ⟨g, o + j, none⟩) (hb g h3 h4 rfl)).trans (h5 j hj)⟩
theorem NetsB.base {B B' : Nat} {w : World} {v : Value} {l : List Int} (hB : B' ≤ B) (h : NetsB B w v l) : NetsB B' w v l := by
  obtain ⟨a, c, h1, h2, h4, h3⟩ := h
  refine ⟨a, c, h1, h2, h4, fun h0 => ?_⟩
  obtain ⟨g, o, e1, e2, e3⟩ := h3 h0
  exact ⟨g, o, e1, by omega, e3⟩
theorem step_grows {P : Program} {ops : Array Oper} {o : Oper} {a : Act} {w : World} {K : Act → World → Prop} {Q : Exit → Act → World → Prop} {E : Prop}
    (hg : o.guard = none) (s x : Operand) (t : TypeId) (hop : o.op = Op.call { callee := Callee.builtin Builtin.append, args := #[s, x], argTypes := #[t, t] })
    (e : TypeId) (i : TypeInfo) (z : Value) (size bytes : Nat) (h1 : P.underlying t = some (.slice e)) (h2 : P.info? e = some i) (h3 : i.zero = some z) (h4 : i.size = size) (h5 : i.bytes = bytes) (h6 : z.cells.size = size) (h7 : 0 < size)
    (b : Addr) (n cap : Nat) (olds : List Value) (hs : a.eval s = .slice (some b) n cap) (hlo : olds.length = n * size) (holds : ∀ j u, olds[j]? = some u → w.cell? (b.add j) = some u)
    (ad : Addr) (m c : Nat) (news : List Value) (hx : a.eval x = .slice (some ad) m c) (hn : news.length = m * size) (hc : ∀ j u, news[j]? = some u → w.cell? (ad.add j) = some u) (_h1c : ∀ u ∈ news, u.oneCell' = true)
    (hfull : cap < n + m) (b1 : n + m ≤ maxLen) (b2 : (n + m) * bytes ≤ 140737488355328)
    (hK : ∀ v' w', w'.ownsRow w.heap.size e size v' (n + m) (olds ++ news) → w.grownBy w' none → K (a.put o.dst v') w') :
    if Region.wanted o (yielded ops a.tmps) = true then Oper.wp P o a w K Q else E := by
  have hw : Region.wanted o (yielded ops a.tmps) = true := by simp [Region.wanted, hg]
  rw [if_pos hw]
  obtain ⟨v', w', hrun, r1, r2⟩ := run_append_arg_grows (P := P) w t o.type e i z size bytes h1 h2 h3 h4 h5 h6 h7 b n cap olds hlo holds ad m c news hn hc hfull b1 b2
  unfold Oper.wp
  simp [execOp, hop, resolve, invoke, builtin, hs, hx, hrun, Result.andThen]
  exact hK _ _ r1 r2

set_option maxHeartbeats 2000000 in
set_option maxRecDepth 100000 in
theorem afault_any (sb t nets : Nat) (w : World) (hs : Strm w sb t) (ht : t ≤ 900000) (hnets : nets ≤ 100) :
    Calls Tryz.prog 6 #[.pointer (some ⟨sb, 0, none⟩), .int .i64 (nets : Int)] w fun e w' => ∃ (k : Int) (nv : Value) (l : List Int), e = .returned (.agg #[.int .i64 k, nv]) ∧ l.length ≤ 7 ∧ NetsB w.heap.size w' nv l ∧ Ran sb t 200 w w' := by
  have hsb := hs.lt
  obtain ⟨n, hn⟩ : ∃ n : Nat, n = max nets 1 := ⟨_, rfl⟩
  have hmx : max (nets : Int) 1 = (n : Int) := by omega
  have hn1 : 1 ≤ n := by omega
  have hn2 : n ≤ 100 := by omega
  clear hn
  obtain ⟨W1, hW1⟩ : ∃ W1 : World, W1 = w.alloc (.cells #[.int .i64 0, .slice none 0 0] 30) := ⟨_, rfl⟩
  have hbr1 : FBox W1 w.heap.size 0 (.slice none 0 0) := by rw [hW1]; exact World.alloc_heap_new w _
  have hs1 : Strm W1 sb t := by rw [hW1]; exact hs.alloc _
  have hz1 : W1.heap.size = w.heap.size + 1 := by rw [hW1]; simp
  have hr1 : Ran sb t 0 w W1 := by rw [hW1]; exact (Ran.refl hs).alloc _
  have H1 := Lib.hid (⟨hbr1, hr1⟩ : _ ∧ _)
  have HW1 := Lib.hid hW1
  clear hbr1 hr1 hW1 hs
  go_enter Tryz.func6, Tryz.ntmps6
  go_wp2_with fail
  rw [← HW1.out]
  refine (range_any sb t 1 6 W1 hs1 (by omega) (by decide) (by decide) (by decide)).mono ?_
  rintro e w2 ⟨⟨k, hk1, hk6, rfl⟩, hr2⟩
  have hz2 : w.heap.size + 1 ≤ w2.heap.size := by rw [← hz1]; exact hr2.1.size
  obtain ⟨W3, hW3⟩ : ∃ W3 : World, W3 = w2.alloc (.cells #[.int .i64 k, .slice none 0 0] 30) := ⟨_, rfl⟩
  have hbb3 : FBox W3 w2.heap.size k (.slice none 0 0) := by rw [hW3]; exact World.alloc_heap_new w2 _
  have hbr3 : FBox W3 w.heap.size 0 (.slice none 0 0) := by rw [hW3]; exact (H1.out.1.ran hr2 (by omega)).kept (Below.heap_alloc w2 _ _ (by omega))
  have hr3 : Ran sb t 1 w W3 := by rw [hW3]; exact ((H1.out.2.then (t' := t) (Nat.le_refl _) (by omega) hr2).alloc _).mono (by omega)
  have hz3 : W3.heap.size = w2.heap.size + 1 := by rw [hW3]; simp
  obtain ⟨t3, ht3, ht3', hs3⟩ := hr3.strm
  have H3 := Lib.hid (⟨hbb3, hbr3, hr3⟩ : _ ∧ _ ∧ _)
  have HW3 := Lib.hid hW3
  clear hbb3 hbr3 hr3 hW3 H1 HW1 hr2 hs1 hz1
  go_wp2_with fail
  rw [← HW3.out]
  refine (order_any sb t3 n W3 hs3 (by omega) hn1 (by omega)).mono ?_
  rintro e w4 ⟨⟨g, c, l, hl, rfl, hrow⟩, hr4⟩
  have hgB := (hrow.lt g rfl).1
  have hgl := (hrow.lt g rfl).2
  have hnc : n ≤ c := cap_row hrow hn1
  have hI4 : Ints w4 g 0 n := Ints.row hrow hl
  have hbb4 := H3.out.1.ran hr4 (by omega)
  have hbr4 := H3.out.2.1.ran hr4 (by omega)
  have hr104 : Ran sb t 101 w w4 := (H3.out.2.2.then ht3 ht3' hr4).mono (by omega)
  have c0 := hbb4.c0
  have H4 := Lib.hid (⟨hbb4, hbr4, hr104, hI4⟩ : _ ∧ _ ∧ _ ∧ _)
  clear hbb4 hbr4 hr104 hI4 hrow hl H3 HW3 hr4 hs3
  have hz4 : w2.heap.size + 1 ≤ g := by omega
  go_upto_region 4 with (fail)
  go_cut [22] (fun v wx => v = .bool (decide (3 ≤ k ∧ k ≤ 5)) ∧ wx = w4)
  case first =>
    by_cases h3 : 3 ≤ k
    · by_cases h5 : k ≤ 5
      · go_wp2_with fail
        go_meet
        exact ⟨by rw [decide_eq_true (show 3 ≤ k ∧ k ≤ 5 from ⟨h3, h5⟩)], rfl⟩
      · go_wp2_with fail
        go_meet
        exact ⟨by rw [decide_eq_false (show ¬ (3 ≤ k ∧ k ≤ 5) by omega)], rfl⟩
    · go_wp2_with fail
      go_meet
      exact ⟨by rw [decide_eq_false (show ¬ (3 ≤ k ∧ k ≤ 5) by omega)], rfl⟩
  case rest =>
  obtain ⟨rfl, rfl⟩ := hcut
  obtain ⟨bb, hbb⟩ : ∃ b, b = decide (3 ≤ k ∧ k ≤ 5) := ⟨_, rfl⟩
  rw [← hbb]
  clear hbb
  obtain ⟨w4, rfl⟩ : ∃ x, x = wc := ⟨_, rfl⟩
  go_upto_if 22 with (fail)
  go_cut [7] (fun v wx => ∃ q : Nat, 1 ≤ q ∧ q ≤ n ∧ q ≤ 3 ∧ v = .int .i64 (q : Int) ∧ FBox wx w2.heap.size k (.slice none 0 0) ∧ FBox wx w.heap.size 0 (.slice none 0 0) ∧ Ran sb t 102 w wx ∧ Ints wx g 0 n ∧ g < wx.heap.size)
  case first =>
    cases bb with
    | true =>
      obtain ⟨t4, ht4, ht4', hs4⟩ := H4.out.2.2.1.strm
      have hpk := pick_any sb t4 w4.heap.size 0 3 3 (fun k => ([2, 2, 3] : List Int).getD k 0) _ (hs4.alloc (.cells #[.int .i64 2, .int .i64 2, .int .i64 3] 3)) (by omega) (by decide) (by decide) (by omega) (ints_fresh w4 [2, 2, 3] 3)
      go_wp2_with fail
      refine hpk.mono ?_
      rintro e w5 ⟨⟨kk, hkk, rfl⟩, hr5'⟩
      obtain ⟨q, hq1, hq3, hqe⟩ := pick_223 kk hkk
      dsimp only
      rw [hqe]
      have hr5 := hr5'.after_alloc
      have hz5 : w4.heap.size ≤ w5.heap.size := hr5.1.size
      have hmin : min (q : Int) (n : Int) = ((min q n : Nat) : Int) := by omega
      have hfin : 1 ≤ min q n ∧ min q n ≤ n ∧ min q n ≤ 3 ∧ FBox w5 w2.heap.size k (.slice none 0 0) ∧ FBox w5 w.heap.size 0 (.slice none 0 0) ∧ Ran sb t 102 w w5 ∧ Ints w5 g 0 n ∧ g < w5.heap.size :=
        ⟨by omega, by omega, by omega, H4.out.1.ran hr5 (by omega), H4.out.2.1.ran hr5 (by omega), (H4.out.2.2.1.then ht4 ht4' hr5).mono (by omega), H4.out.2.2.2.kept (hr5.1.block g (by omega) (fun e => by have := Option.some.inj e; omega)), by omega⟩
      have HF := Lib.hid hfin
      generalize min q n = mq at hmin HF
      clear hfin hpk hr5 hr5' hs4 hqe
      go_wp2_with fail
      go_meet
      exact ⟨mq, HF.out.1, HF.out.2.1, HF.out.2.2.1, by first | rfl | go_num, HF.out.2.2.2⟩
    | false =>
      have hfin : FBox w4 w2.heap.size k (.slice none 0 0) ∧ FBox w4 w.heap.size 0 (.slice none 0 0) ∧ Ran sb t 102 w w4 ∧ Ints w4 g 0 n ∧ g < w4.heap.size := ⟨H4.out.1, H4.out.2.1, H4.out.2.2.1.mono (by omega), H4.out.2.2.2, hgl⟩
      have HF := Lib.hid hfin
      clear hfin
      go_wp2_with fail
      go_meet
      exact ⟨1, by omega, hn1, by omega, rfl, HF.out⟩
  case rest =>
    obtain ⟨q, hq1, hqn, hq3, rfl, hbb5, hbr5, hr5, hI5, hgl5⟩ := hcut
    clear H4 c0 hgl
    have c0 := hbb5.c0
    have c1 := hbb5.c1
    have f1 := hbb5.f1
    have hbs := hbb5.set1 (.slice (some ⟨g, 0, none⟩) q q)
    have hgo : (wc.setCell ⟨w2.heap.size, 1, none⟩ (.slice (some ⟨g, 0, none⟩) q q)).heap[g]? = wc.heap[g]? := Below.heap_setCell _ _ _ g (by show g ≠ w2.heap.size; omega)
    have hro : (wc.setCell ⟨w2.heap.size, 1, none⟩ (.slice (some ⟨g, 0, none⟩) q q)).heap[w.heap.size]? = wc.heap[w.heap.size]? := Below.heap_setCell _ _ _ _ (by show w.heap.size ≠ w2.heap.size; omega)
    have hrs := hr5.setCell (a := ⟨w2.heap.size, 1, none⟩) (by show w.heap.size ≤ w2.heap.size; omega) hsb (.slice (some ⟨g, 0, none⟩) q q)
    have hzs : (wc.setCell ⟨w2.heap.size, 1, none⟩ (.slice (some ⟨g, 0, none⟩) q q)).heap.size = wc.heap.size := by show (wc.heap.modify _ _).size = _; rw [Array.size_modify]
    have q0 : (0 : Int) ≤ (q : Int) := by omega
    have q1 : (q : Int) ≤ (c : Int) := by omega
    have q2 : (1 : Int) ≤ (q : Int) := by omega
    obtain ⟨W6, hW6⟩ : ∃ W6 : World, W6 = wc.setCell ⟨w2.heap.size, 1, none⟩ (.slice (some ⟨g, 0, none⟩) q q) := ⟨_, rfl⟩
    rw [← hW6] at hbs hgo hro hrs hzs
    have d0 := hbs.c0
    have d1 := hbs.c1
    have H6 := Lib.hid (⟨hbs, hbr5.kept hro, hrs, hI5.kept hgo⟩ : _ ∧ _ ∧ _ ∧ _)
    have HW6 := Lib.hid hW6
    have hg6 : g < W6.heap.size := by omega
    clear hbs hgo hro hrs hzs hbb5 hbr5 hr5 hI5 hW6
    go_upto_if 36 with (fail)
    rw [← HW6.out]
    go_cut [] (fun wx => FBox wx w2.heap.size k (.slice (some ⟨g, 0, none⟩) q q) ∧ FBox wx w.heap.size 0 (.slice none 0 0) ∧ Ran sb t 102 w wx ∧ Ints wx g 0 q ∧ g < wx.heap.size)
    case first =>
      have hso := fun (o m : Nat) (hom : o + m ≤ q) => sort_any g o m m q W6 (H6.out.2.2.2.sub (Nat.le_refl _) (by omega)) hom (by omega) hg6
      have hfin : ∀ W, W6.grownBy W (some g) → Ints W g 0 q → FBox W w2.heap.size k (.slice (some ⟨g, 0, none⟩) q q) ∧ FBox W w.heap.size 0 (.slice none 0 0) ∧ Ran sb t 102 w W ∧ Ints W g 0 q ∧ g < W.heap.size := fun W hg hI =>
        ⟨H6.out.1.kept (hg.block _ H6.out.1.lt (fun e => by have := Option.some.inj e; omega)), H6.out.2.1.kept (hg.block _ H6.out.2.1.lt (fun e => by have := Option.some.inj e; omega)), H6.out.2.2.1.grown hg (fun j e => by have := Option.some.inj e; omega) hsb, hI, by have := hg.size; omega⟩
      have HF := Lib.hid hfin
      clear hfin
      by_cases h5 : k = 5
      · have n5 : (k == 5) = true := by rw [h5]; rfl
        by_cases hq1' : q = 1
        · subst hq1'
          have hs1 := hso 0 0 (by omega)
          clear hso h5
          go_wp2_with fail
          all_goals first
            | (exfalso; omega)
            | (refine hs1.mono ?_
               rintro e w7 ⟨rfl, hI7, hg7⟩
               have HG := Lib.hid (HF.out w7 hg7 hI7)
               clear hs1 hI7 hg7
               go_wp2_with fail
               go_meet
               exact HG.out)
        · have hs1 := hso 1 (q - 1) (by omega)
          clear hso h5
          go_wp2_with fail
          all_goals first
            | (exfalso; omega)
            | (refine hs1.mono ?_
               rintro e w7 ⟨rfl, hI7, hg7⟩
               have HG := Lib.hid (HF.out w7 hg7 hI7)
               clear hs1 hI7 hg7
               go_wp2_with fail
               go_meet
               exact HG.out)
      · have n5 : (k == 5) = false := by simpa using h5
        have hs1 := hso 0 q (by omega)
        clear hso h5
        go_wp2_with fail
        refine hs1.mono ?_
        rintro e w7 ⟨rfl, hI7, hg7⟩
        have HG := Lib.hid (HF.out w7 hg7 hI7)
        clear hs1 hI7 hg7
        go_wp2_with fail
        go_meet
        exact HG.out
    case rest =>
      obtain ⟨hbb7, hbr7, hr7, hI7, hg7⟩ := hcut
      clear H6 HW6 d0 d1 hg6
      obtain ⟨t8, ht8, ht8', hs8⟩ := hr7.strm
      have H7 := Lib.hid (⟨hbb7, hbr7, hr7, hI7⟩ : _ ∧ _ ∧ _ ∧ _)
      clear hbb7 hbr7 hr7 hI7
      go_wp2_with fail
      refine (flip_any sb t8 30 _ hs8 (by omega) (by decide) (by decide)).mono ?_
      rintro e wb ⟨⟨fl, rfl⟩, hrb⟩
      have hzb : wc.heap.size ≤ wb.heap.size := hrb.1.size
      have hrb2 : Ran sb t 103 w wb := (H7.out.2.2.1.then ht8 ht8' hrb).mono (by omega)
      have HB := Lib.hid (⟨H7.out.1.ran hrb (by omega), H7.out.2.1.ran hrb (by omega), hrb2, H7.out.2.2.2.kept (hrb.1.block g (by omega) (fun e => by have := Option.some.inj e; omega))⟩ : FBox wb w2.heap.size k (.slice (some ⟨g, 0, none⟩) q q) ∧ FBox wb w.heap.size 0 (.slice none 0 0) ∧ Ran sb t 103 w wb ∧ Ints wb g 0 q)
      obtain ⟨ta, hta, hta', hsa⟩ := hrb2.strm
      have hbl := HB.out.1.lt
      have hrl := HB.out.2.1.lt
      clear H7 hrb hrb2 hs8
      go_upto_if 45 with (fail)
      go_cut [] (fun wx => ∃ (k' : Int) (nv : Value) (l : List Int), FBox wx w2.heap.size k' nv ∧ FBox wx w.heap.size 0 (.slice none 0 0) ∧ l.length ≤ 7 ∧ NetsB (w.heap.size + 1) wx nv l ∧ Ran sb t 200 w wx)
      case first =>
        cases fl with
        | false =>
          obtain ⟨l, hll, hlc⟩ := HB.out.2.2.2.list
          have HN := Lib.hid (NetsB.of (B := w.heap.size + 1) (c := q) hll hq1 (Nat.le_refl _) (by omega) (by omega) hlc)
          go_wp2_with fail
          go_meet
          exact ⟨_, _, l, HB.out.1, HB.out.2.1, by omega, HN.out, HB.out.2.2.1.mono (by omega)⟩
        | true =>
          have HR := Lib.hid (show ∀ (W : World) (K : Nat), Ran sb ta K wb W → K ≤ 90 → Ran sb t 200 w W from fun W K h hK => (HB.out.2.2.1.then hta hta' h).mono (by omega))
          go_wp2_with fail
          refine (next_any sb ta 4 _ hsa (by omega) (by decide) (by decide)).mono ?_
          rintro e wd ⟨⟨z, hz0, hz4, rfl⟩, hrd⟩
          have hzd : wb.heap.size ≤ wd.heap.size := hrd.1.size
          have hbd := HB.out.1.ran hrd (by omega)
          have hbrd := HB.out.2.1.ran hrd (by omega)
          have hId := HB.out.2.2.2.kept (hrd.1.block g (by omega) (fun e => by have := Option.some.inj e; omega))
          obtain ⟨td, htd, htd', hsd⟩ := hrd.strm
          have c0 := hbd.c0
          have c1 := hbd.c1
          have f0 := hbd.f0
          have f1 := hbd.f1
          have HD := Lib.hid (⟨hbd, hbrd, hId, hrd⟩ : _ ∧ _ ∧ _ ∧ _)
          clear hbd hbrd hId hsa
          have hz : z = 0 ∨ z = 1 ∨ z = 2 ∨ z = 3 := by omega
          clear hz0 hz4
          rcases hz with rfl | rfl | rfl | rfl
          · -- another kind
            go_wp2_with fail
            refine (odd_any sb td 1 6 _ hsd (by omega) (by decide) (by decide) (by decide)).mono ?_
            rintro e we ⟨⟨k9, _, _, rfl⟩, hre⟩
            have hze : wd.heap.size ≤ we.heap.size := hre.1.size
            have hbe := HD.out.1.ran hre (by omega)
            have hbre := HD.out.2.1.ran hre (by omega)
            have hIe := HD.out.2.2.1.kept (hre.1.block g (by omega) (fun e => by have := Option.some.inj e; omega))
            have hRe := HR.out we 3 (HD.out.2.2.2.then htd htd' hre) (by omega)
            obtain ⟨l, hll, hlc⟩ := hIe.list
            have c0 := hbe.c0
            have f0 := hbe.f0
            have hfin : FBox (we.setCell ⟨w2.heap.size, 0, none⟩ (.int .i64 k9)) w2.heap.size k9 (.slice (some ⟨g, 0, none⟩) q q) ∧ FBox (we.setCell ⟨w2.heap.size, 0, none⟩ (.int .i64 k9)) w.heap.size 0 (.slice none 0 0) ∧ l.length ≤ 7 ∧ NetsB (w.heap.size + 1) (we.setCell ⟨w2.heap.size, 0, none⟩ (.int .i64 k9)) (.slice (some ⟨g, 0, none⟩) q q) l ∧ Ran sb t 200 w (we.setCell ⟨w2.heap.size, 0, none⟩ (.int .i64 k9)) :=
              ⟨hbe.set0 k9, hbre.kept (Below.heap_setCell _ _ _ _ (by show w.heap.size ≠ w2.heap.size; omega)), by omega, (NetsB.of (B := w.heap.size + 1) (c := q) hll hq1 (Nat.le_refl _) (by omega) (by omega) hlc).kept (by show we.heap.size ≤ (we.heap.modify _ _).size; rw [Array.size_modify]; exact Nat.le_refl _) (fun g' _ _ e => by
                have e2 : g = g' := Option.some.inj e
                exact Below.heap_setCell _ _ _ _ (by show g' ≠ w2.heap.size; omega)), hRe.setCell (a := ⟨w2.heap.size, 0, none⟩) (by show w.heap.size ≤ w2.heap.size; omega) hsb _⟩
            have HF := Lib.hid hfin
            clear hfin hbe hbre hIe hRe hlc hre
            go_wp2_with fail
            go_meet
            exact ⟨_, _, l, HF.out⟩
          · -- one net more
            obtain ⟨ii, hii, hi0, hi1, hi2⟩ := info_parts Tryz.infoInt9
            obtain ⟨l, hll, hlc⟩ := HD.out.2.2.1.list
            have hg0 := hlc 0 (by omega)
            rw [Nat.add_zero] at hg0
            obtain ⟨x0, hx0⟩ : ∃ x, x = l.getD 0 0 := ⟨_, rfl⟩
            rw [← hx0] at hg0
            have hgd : g < wd.heap.size := by omega
            have HL := Lib.hid (show ∀ we : World, Ran sb td 1 wd we → ∀ (o : Obj) (j : Nat) (u : Value), (l.map intV)[j]? = some u → (we.alloc o).cell? (Addr.add ⟨g, 0, none⟩ j) = some u from fun we hre o j u hu => by
              have hjl : j < l.length := by
                have := (List.getElem?_eq_some_iff.1 hu).1
                simpa using this
              rw [add_at, World.cell?_of_block (w := we) (a := ⟨g, 0 + j, none⟩) (Below.heap_alloc we o g (by have := hre.1.size; omega)), World.cell?_of_block (w := wd) (a := ⟨g, 0 + j, none⟩) (hre.1.block g hgd (fun e => by have := Option.some.inj e; omega)), hlc j (by omega), ← hu]
              simp [intV, hjl])
            have hsdd : Strm wd.drew sb td := hsd.kept fun _ _ => rfl
            have hbld : w2.heap.size < wd.heap.size := by omega
            have q1' : 0 < q := by omega
            clear hlc hx0 hsd
            go_wp2_with fail
            refine wp_region_any (by kernel_rfl) ?_
            refine wpAny_take (i := 0) (v := ?_) rfl (by kernel_rfl) (by kernel_rfl) (by kernel_rfl) (fun _ _ _ h => h) (Or.inl ⟨by rfl, ?_⟩) ?_
            rotate_left
            focus (intro w; go_simp; first | done | with_reducible rfl)
            refine wpAny_take (i := 2) (v := ?_) rfl (by kernel_rfl) (by kernel_rfl) (by kernel_rfl) (fun _ _ _ h => h) (Or.inl ⟨by rfl, ?_⟩) ?_
            rotate_left
            focus (intro w; go_simp; first | done | with_reducible rfl)
            refine wpAny_take (i := 3) (v := ?_) rfl (by kernel_rfl) (by kernel_rfl) (by kernel_rfl) (fun _ _ _ h => h) (Or.inl ⟨by rfl, ?_⟩) ?_
            rotate_left
            focus (intro w; go_simp; first | done | with_reducible rfl)
            refine wpAny_take (i := 4) (v := ?_) rfl (by kernel_rfl) (by kernel_rfl) (by kernel_rfl) (fun _ _ _ h => h) (Or.inl ⟨by rfl, ?_⟩) ?_
            rotate_left
            focus (intro w; go_simp; first | done | with_reducible rfl)
            refine wpAny_ready (rs := [1, 5]) (by kernel_rfl) (by simp) (AllReady.cons rfl (fun K hK => ?_) (AllReady.cons rfl (fun K hK => ?_) AllReady.nil))
            ·
              (go_simp; refine hK _ _ ?_; clear hK K)
              refine wpAny_ready (rs := [5]) (by kernel_rfl) (by simp) (AllReady.cons rfl (fun K hK => ?_) AllReady.nil)
              (go_simp; refine hK _ _ ?_; clear hK K)
              refine wpAny_take (i := 6) (v := ?_) rfl (by kernel_rfl) (by kernel_rfl) (by kernel_rfl) (fun _ _ _ h => h) (Or.inl ⟨by rfl, ?_⟩) ?_
              rotate_left
              focus (intro w; go_simp; first | done | with_reducible rfl)
              refine wpAny_ready (rs := [7]) (by kernel_rfl) (by simp) (AllReady.cons rfl (fun K hK => ?_) AllReady.nil)
              (go_simp; refine hK _ _ ?_; clear hK K)
              refine wpAny_ready (rs := [8]) (by kernel_rfl) (by simp) (AllReady.cons rfl (fun K hK => ?_) AllReady.nil)
              (go_simp; refine hK _ _ ?_; clear hK K)
              refine wpAny_ready (rs := [9]) (by kernel_rfl) (by simp) (AllReady.cons rfl (fun K hK => ?_) AllReady.nil)
              go_simp
              go_at_call 5
              refine (pick_any sb td wd.heap.size 0 5 5 (fun k => ([0, 1, -1, (nets : Int), x0] : List Int).getD k 0) _ (hsdd.alloc _) (by omega) (by decide) (by decide) (by omega) (ints_fresh wd.drew ([0, 1, -1, (nets : Int), x0] : List Int) 3)).mono ?_
              rintro e we ⟨⟨kk, hkk, rfl⟩, hre'⟩
              have hre := hre'.after_alloc.undrew
              have hbe := HD.out.1.ran hre (by omega)
              have hze : wd.heap.size ≤ we.heap.size := hre.1.size
              have e1 := hbe.c1
              have e1' : ∀ o : Obj, (we.alloc o).cell? ⟨w2.heap.size, 1, none⟩ = some (.slice (some ⟨g, 0, none⟩) q q) := fun o => (hbe.kept (Below.heap_alloc we o _ hbe.lt)).c1
              have HRe := Lib.hid hre
              clear hre hre'
              dsimp only
              generalize ([0, 1, -1, (nets : Int), x0] : List Int).getD kk 0 = xx
              refine hK _ _ ?_
              clear hK K
              refine wpAny_ready (rs := [10]) (by kernel_rfl) (by simp) (AllReady.cons rfl (fun K hK => ?_) AllReady.nil)
              (go_simp; refine hK _ _ ?_; clear hK K)
              refine wpAny_ready (rs := [11]) (by kernel_rfl) (by simp) (AllReady.cons rfl (fun K hK => ?_) AllReady.nil)
              refine step_grows (P := Tryz.prog) rfl (.tmp 61) (.tmp 70) 22 rfl 3 ii (.int .i64 0) 1 8 Tryz.underlying22 hii hi0 hi1 hi2 rfl (by decide) ⟨g, 0, none⟩ q q (l.map intV) (by simp [Act.eval]) (by rw [List.length_map, hll, Nat.mul_one]) (fun j u hu => HL.out _ HRe.out _ j u hu) ⟨we.heap.size, 0, none⟩ 1 1 [.int .i64 xx] (by simp [Act.eval]) rfl (cell_one_new _ _ _) (by intro u hu; simp at hu; subst hu; rfl) (by omega) (by unfold maxLen; omega) (by omega) ?_
              intro v' wg hown hgg
              have hza : (we.alloc (.cells #[.int .i64 xx] 3)).heap.size = we.heap.size + 1 := by simp
              have hbg := (hbe.kept (Below.heap_alloc we _ _ hbe.lt)).kept (hgg.block w2.heap.size (by have := hbe.lt; omega) (by simp))
              have e2 := hbg.c1
              have e3 := hbg.f1
              obtain ⟨g2, c2, rfl⟩ := ownsRow_succ hown
              have HG := Lib.hid (⟨hown, hgg, hbg⟩ : _ ∧ _ ∧ _)
              clear hown hgg hbg
              refine hK _ _ ?_
              clear hK K
              refine wpAny_take (i := 12) (v := ?_) rfl (by kernel_rfl) (by kernel_rfl) (by kernel_rfl) (fun _ _ _ h => h) (Or.inl ⟨by rfl, ?_⟩) ?_
              rotate_left
              focus (intro w; go_simp; first | done | with_reducible rfl)
              refine wpAny_ready (rs := [13]) (by kernel_rfl) (by simp) (AllReady.cons rfl (fun K hK => ?_) AllReady.nil)
              (go_simp; refine hK _ _ ?_; clear hK K)
              refine wpAny_done (by kernel_rfl) ?_ _
              have hgg := HG.out.2.1
              have hbre := HD.out.2.1.ran HRe.out (by omega)
              have hbrg := (hbre.kept (Below.heap_alloc we _ _ hbre.lt)).kept (hgg.block w.heap.size (by have := hbre.lt; omega) (by simp))
              have hRg : Ran sb t 200 w wg := ((HR.out we 2 (HD.out.2.2.2.then htd htd' HRe.out) (by omega)).alloc (.cells #[.int .i64 xx] 3)).grown hgg (fun j e => by cases e) hsb
              have hrow : wg.ownsRow (we.alloc (.cells #[.int .i64 xx] 3)).heap.size 3 1 (.slice (some ⟨g2, 0, none⟩) (q + 1) c2) (q + 1) ((l ++ [xx]).map intV) := by rw [List.map_append]; exact HG.out.1
              have hg2 := (hrow.lt g2 rfl).1
              have hNg := NetsB.base (B' := w.heap.size + 1) (by omega) (NetsB.row hrow (by simp [hll]) (by omega))
              have hfin : FBox (wg.setCell ⟨w2.heap.size, 1, none⟩ (.slice (some ⟨g2, 0, none⟩) (q + 1) c2)) w2.heap.size k (.slice (some ⟨g2, 0, none⟩) (q + 1) c2) ∧ FBox (wg.setCell ⟨w2.heap.size, 1, none⟩ (.slice (some ⟨g2, 0, none⟩) (q + 1) c2)) w.heap.size 0 (.slice none 0 0) ∧ (l ++ [xx]).length ≤ 7 ∧ NetsB (w.heap.size + 1) (wg.setCell ⟨w2.heap.size, 1, none⟩ (.slice (some ⟨g2, 0, none⟩) (q + 1) c2)) (.slice (some ⟨g2, 0, none⟩) (q + 1) c2) (l ++ [xx]) ∧ Ran sb t 200 w (wg.setCell ⟨w2.heap.size, 1, none⟩ (.slice (some ⟨g2, 0, none⟩) (q + 1) c2)) :=
                ⟨HG.out.2.2.set1 _, hbrg.kept (Below.heap_setCell _ _ _ _ (by show w.heap.size ≠ w2.heap.size; omega)), by rw [List.length_append, hll]; simp; omega, hNg.kept (KeepsWalks.setCell wg _ _).size (fun g' _ _ e => by
                  have e2 : g2 = g' := Option.some.inj e
                  exact Below.heap_setCell _ _ _ _ (by show g' ≠ w2.heap.size; have := hbe.lt; omega)), hRg.setCell (a := ⟨w2.heap.size, 1, none⟩) (by show w.heap.size ≤ w2.heap.size; omega) hsb _⟩
              have HF := Lib.hid hfin
              clear hfin hgg hbre hbrg hRg hrow hNg
              go_wp2_with fail
              go_meet
              exact ⟨_, _, l ++ [xx], HF.out⟩
            ·
              (go_simp; refine hK _ _ ?_; clear hK K)
              refine wpAny_take (i := 6) (v := ?_) rfl (by kernel_rfl) (by kernel_rfl) (by kernel_rfl) (fun _ _ _ h => h) (Or.inl ⟨by rfl, ?_⟩) ?_
              rotate_left
              focus (intro w; go_simp; first | done | with_reducible rfl)
              refine wpAny_ready (rs := [1, 7]) (by kernel_rfl) (by simp) (AllReady.cons rfl (fun K hK => ?_) (AllReady.cons rfl (fun K hK => ?_) AllReady.nil))
              ·
                (go_simp; refine hK _ _ ?_; clear hK K)
                refine wpAny_ready (rs := [7]) (by kernel_rfl) (by simp) (AllReady.cons rfl (fun K hK => ?_) AllReady.nil)
                (go_simp; refine hK _ _ ?_; clear hK K)
                refine wpAny_ready (rs := [8]) (by kernel_rfl) (by simp) (AllReady.cons rfl (fun K hK => ?_) AllReady.nil)
                (go_simp; refine hK _ _ ?_; clear hK K)
                refine wpAny_ready (rs := [9]) (by kernel_rfl) (by simp) (AllReady.cons rfl (fun K hK => ?_) AllReady.nil)
                go_simp
                go_at_call 5
                refine (pick_any sb td wd.heap.size 0 5 5 (fun k => ([0, 1, -1, (nets : Int), x0] : List Int).getD k 0) _ (hsdd.alloc _) (by omega) (by decide) (by decide) (by omega) (ints_fresh wd.drew ([0, 1, -1, (nets : Int), x0] : List Int) 3)).mono ?_
                rintro e we ⟨⟨kk, hkk, rfl⟩, hre'⟩
                have hre := hre'.after_alloc.undrew
                have hbe := HD.out.1.ran hre (by omega)
                have hze : wd.heap.size ≤ we.heap.size := hre.1.size
                have e1 := hbe.c1
                have e1' : ∀ o : Obj, (we.alloc o).cell? ⟨w2.heap.size, 1, none⟩ = some (.slice (some ⟨g, 0, none⟩) q q) := fun o => (hbe.kept (Below.heap_alloc we o _ hbe.lt)).c1
                have HRe := Lib.hid hre
                clear hre hre'
                dsimp only
                generalize ([0, 1, -1, (nets : Int), x0] : List Int).getD kk 0 = xx
                refine hK _ _ ?_
                clear hK K
                refine wpAny_ready (rs := [10]) (by kernel_rfl) (by simp) (AllReady.cons rfl (fun K hK => ?_) AllReady.nil)
                (go_simp; refine hK _ _ ?_; clear hK K)
                refine wpAny_ready (rs := [11]) (by kernel_rfl) (by simp) (AllReady.cons rfl (fun K hK => ?_) AllReady.nil)
                refine step_grows (P := Tryz.prog) rfl (.tmp 61) (.tmp 70) 22 rfl 3 ii (.int .i64 0) 1 8 Tryz.underlying22 hii hi0 hi1 hi2 rfl (by decide) ⟨g, 0, none⟩ q q (l.map intV) (by simp [Act.eval]) (by rw [List.length_map, hll, Nat.mul_one]) (fun j u hu => HL.out _ HRe.out _ j u hu) ⟨we.heap.size, 0, none⟩ 1 1 [.int .i64 xx] (by simp [Act.eval]) rfl (cell_one_new _ _ _) (by intro u hu; simp at hu; subst hu; rfl) (by omega) (by unfold maxLen; omega) (by omega) ?_
                intro v' wg hown hgg
                have hza : (we.alloc (.cells #[.int .i64 xx] 3)).heap.size = we.heap.size + 1 := by simp
                have hbg := (hbe.kept (Below.heap_alloc we _ _ hbe.lt)).kept (hgg.block w2.heap.size (by have := hbe.lt; omega) (by simp))
                have e2 := hbg.c1
                have e3 := hbg.f1
                obtain ⟨g2, c2, rfl⟩ := ownsRow_succ hown
                have HG := Lib.hid (⟨hown, hgg, hbg⟩ : _ ∧ _ ∧ _)
                clear hown hgg hbg
                refine hK _ _ ?_
                clear hK K
                refine wpAny_take (i := 12) (v := ?_) rfl (by kernel_rfl) (by kernel_rfl) (by kernel_rfl) (fun _ _ _ h => h) (Or.inl ⟨by rfl, ?_⟩) ?_
                rotate_left
                focus (intro w; go_simp; first | done | with_reducible rfl)
                refine wpAny_ready (rs := [13]) (by kernel_rfl) (by simp) (AllReady.cons rfl (fun K hK => ?_) AllReady.nil)
                (go_simp; refine hK _ _ ?_; clear hK K)
                refine wpAny_done (by kernel_rfl) ?_ _
                have hgg := HG.out.2.1
                have hbre := HD.out.2.1.ran HRe.out (by omega)
                have hbrg := (hbre.kept (Below.heap_alloc we _ _ hbre.lt)).kept (hgg.block w.heap.size (by have := hbre.lt; omega) (by simp))
                have hRg : Ran sb t 200 w wg := ((HR.out we 2 (HD.out.2.2.2.then htd htd' HRe.out) (by omega)).alloc (.cells #[.int .i64 xx] 3)).grown hgg (fun j e => by cases e) hsb
                have hrow : wg.ownsRow (we.alloc (.cells #[.int .i64 xx] 3)).heap.size 3 1 (.slice (some ⟨g2, 0, none⟩) (q + 1) c2) (q + 1) ((l ++ [xx]).map intV) := by rw [List.map_append]; exact HG.out.1
                have hg2 := (hrow.lt g2 rfl).1
                have hNg := NetsB.base (B' := w.heap.size + 1) (by omega) (NetsB.row hrow (by simp [hll]) (by omega))
                have hfin : FBox (wg.setCell ⟨w2.heap.size, 1, none⟩ (.slice (some ⟨g2, 0, none⟩) (q + 1) c2)) w2.heap.size k (.slice (some ⟨g2, 0, none⟩) (q + 1) c2) ∧ FBox (wg.setCell ⟨w2.heap.size, 1, none⟩ (.slice (some ⟨g2, 0, none⟩) (q + 1) c2)) w.heap.size 0 (.slice none 0 0) ∧ (l ++ [xx]).length ≤ 7 ∧ NetsB (w.heap.size + 1) (wg.setCell ⟨w2.heap.size, 1, none⟩ (.slice (some ⟨g2, 0, none⟩) (q + 1) c2)) (.slice (some ⟨g2, 0, none⟩) (q + 1) c2) (l ++ [xx]) ∧ Ran sb t 200 w (wg.setCell ⟨w2.heap.size, 1, none⟩ (.slice (some ⟨g2, 0, none⟩) (q + 1) c2)) :=
                  ⟨HG.out.2.2.set1 _, hbrg.kept (Below.heap_setCell _ _ _ _ (by show w.heap.size ≠ w2.heap.size; omega)), by rw [List.length_append, hll]; simp; omega, hNg.kept (KeepsWalks.setCell wg _ _).size (fun g' _ _ e => by
                    have e2 : g2 = g' := Option.some.inj e
                    exact Below.heap_setCell _ _ _ _ (by show g' ≠ w2.heap.size; have := hbe.lt; omega)), hRg.setCell (a := ⟨w2.heap.size, 1, none⟩) (by show w.heap.size ≤ w2.heap.size; omega) hsb _⟩
                have HF := Lib.hid hfin
                clear hfin hgg hbre hbrg hRg hrow hNg
                go_wp2_with fail
                go_meet
                exact ⟨_, _, l ++ [xx], HF.out⟩
              ·
                (go_simp; refine hK _ _ ?_; clear hK K)
                refine wpAny_ready (rs := [1, 8]) (by kernel_rfl) (by simp) (AllReady.cons rfl (fun K hK => ?_) (AllReady.cons rfl (fun K hK => ?_) AllReady.nil))
                ·
                  (go_simp; refine hK _ _ ?_; clear hK K)
                  refine wpAny_ready (rs := [8]) (by kernel_rfl) (by simp) (AllReady.cons rfl (fun K hK => ?_) AllReady.nil)
                  (go_simp; refine hK _ _ ?_; clear hK K)
                  refine wpAny_ready (rs := [9]) (by kernel_rfl) (by simp) (AllReady.cons rfl (fun K hK => ?_) AllReady.nil)
                  go_simp
                  go_at_call 5
                  refine (pick_any sb td wd.heap.size 0 5 5 (fun k => ([0, 1, -1, (nets : Int), x0] : List Int).getD k 0) _ (hsdd.alloc _) (by omega) (by decide) (by decide) (by omega) (ints_fresh wd.drew ([0, 1, -1, (nets : Int), x0] : List Int) 3)).mono ?_
                  rintro e we ⟨⟨kk, hkk, rfl⟩, hre'⟩
                  have hre := hre'.after_alloc.undrew
                  have hbe := HD.out.1.ran hre (by omega)
                  have hze : wd.heap.size ≤ we.heap.size := hre.1.size
                  have e1 := hbe.c1
                  have e1' : ∀ o : Obj, (we.alloc o).cell? ⟨w2.heap.size, 1, none⟩ = some (.slice (some ⟨g, 0, none⟩) q q) := fun o => (hbe.kept (Below.heap_alloc we o _ hbe.lt)).c1
                  have HRe := Lib.hid hre
                  clear hre hre'
                  dsimp only
                  generalize ([0, 1, -1, (nets : Int), x0] : List Int).getD kk 0 = xx
                  refine hK _ _ ?_
                  clear hK K
                  refine wpAny_ready (rs := [10]) (by kernel_rfl) (by simp) (AllReady.cons rfl (fun K hK => ?_) AllReady.nil)
                  (go_simp; refine hK _ _ ?_; clear hK K)
                  refine wpAny_ready (rs := [11]) (by kernel_rfl) (by simp) (AllReady.cons rfl (fun K hK => ?_) AllReady.nil)
                  refine step_grows (P := Tryz.prog) rfl (.tmp 61) (.tmp 70) 22 rfl 3 ii (.int .i64 0) 1 8 Tryz.underlying22 hii hi0 hi1 hi2 rfl (by decide) ⟨g, 0, none⟩ q q (l.map intV) (by simp [Act.eval]) (by rw [List.length_map, hll, Nat.mul_one]) (fun j u hu => HL.out _ HRe.out _ j u hu) ⟨we.heap.size, 0, none⟩ 1 1 [.int .i64 xx] (by simp [Act.eval]) rfl (cell_one_new _ _ _) (by intro u hu; simp at hu; subst hu; rfl) (by omega) (by unfold maxLen; omega) (by omega) ?_
                  intro v' wg hown hgg
                  have hza : (we.alloc (.cells #[.int .i64 xx] 3)).heap.size = we.heap.size + 1 := by simp
                  have hbg := (hbe.kept (Below.heap_alloc we _ _ hbe.lt)).kept (hgg.block w2.heap.size (by have := hbe.lt; omega) (by simp))
                  have e2 := hbg.c1
                  have e3 := hbg.f1
                  obtain ⟨g2, c2, rfl⟩ := ownsRow_succ hown
                  have HG := Lib.hid (⟨hown, hgg, hbg⟩ : _ ∧ _ ∧ _)
                  clear hown hgg hbg
                  refine hK _ _ ?_
                  clear hK K
                  refine wpAny_take (i := 12) (v := ?_) rfl (by kernel_rfl) (by kernel_rfl) (by kernel_rfl) (fun _ _ _ h => h) (Or.inl ⟨by rfl, ?_⟩) ?_
                  rotate_left
                  focus (intro w; go_simp; first | done | with_reducible rfl)
                  refine wpAny_ready (rs := [13]) (by kernel_rfl) (by simp) (AllReady.cons rfl (fun K hK => ?_) AllReady.nil)
                  (go_simp; refine hK _ _ ?_; clear hK K)
                  refine wpAny_done (by kernel_rfl) ?_ _
                  have hgg := HG.out.2.1
                  have hbre := HD.out.2.1.ran HRe.out (by omega)
                  have hbrg := (hbre.kept (Below.heap_alloc we _ _ hbre.lt)).kept (hgg.block w.heap.size (by have := hbre.lt; omega) (by simp))
                  have hRg : Ran sb t 200 w wg := ((HR.out we 2 (HD.out.2.2.2.then htd htd' HRe.out) (by omega)).alloc (.cells #[.int .i64 xx] 3)).grown hgg (fun j e => by cases e) hsb
                  have hrow : wg.ownsRow (we.alloc (.cells #[.int .i64 xx] 3)).heap.size 3 1 (.slice (some ⟨g2, 0, none⟩) (q + 1) c2) (q + 1) ((l ++ [xx]).map intV) := by rw [List.map_append]; exact HG.out.1
                  have hg2 := (hrow.lt g2 rfl).1
                  have hNg := NetsB.base (B' := w.heap.size + 1) (by omega) (NetsB.row hrow (by simp [hll]) (by omega))
                  have hfin : FBox (wg.setCell ⟨w2.heap.size, 1, none⟩ (.slice (some ⟨g2, 0, none⟩) (q + 1) c2)) w2.heap.size k (.slice (some ⟨g2, 0, none⟩) (q + 1) c2) ∧ FBox (wg.setCell ⟨w2.heap.size, 1, none⟩ (.slice (some ⟨g2, 0, none⟩) (q + 1) c2)) w.heap.size 0 (.slice none 0 0) ∧ (l ++ [xx]).length ≤ 7 ∧ NetsB (w.heap.size + 1) (wg.setCell ⟨w2.heap.size, 1, none⟩ (.slice (some ⟨g2, 0, none⟩) (q + 1) c2)) (.slice (some ⟨g2, 0, none⟩) (q + 1) c2) (l ++ [xx]) ∧ Ran sb t 200 w (wg.setCell ⟨w2.heap.size, 1, none⟩ (.slice (some ⟨g2, 0, none⟩) (q + 1) c2)) :=
                    ⟨HG.out.2.2.set1 _, hbrg.kept (Below.heap_setCell _ _ _ _ (by show w.heap.size ≠ w2.heap.size; omega)), by rw [List.length_append, hll]; simp; omega, hNg.kept (KeepsWalks.setCell wg _ _).size (fun g' _ _ e => by
                      have e2 : g2 = g' := Option.some.inj e
                      exact Below.heap_setCell _ _ _ _ (by show g' ≠ w2.heap.size; have := hbe.lt; omega)), hRg.setCell (a := ⟨w2.heap.size, 1, none⟩) (by show w.heap.size ≤ w2.heap.size; omega) hsb _⟩
                  have HF := Lib.hid hfin
                  clear hfin hgg hbre hbrg hRg hrow hNg
                  go_wp2_with fail
                  go_meet
                  exact ⟨_, _, l ++ [xx], HF.out⟩
                ·
                  (go_simp; refine hK _ _ ?_; clear hK K)
                  refine wpAny_ready (rs := [1, 9]) (by kernel_rfl) (by simp) (AllReady.cons rfl (fun K hK => ?_) (AllReady.cons rfl (fun K hK => ?_) AllReady.nil))
                  ·
                    (go_simp; refine hK _ _ ?_; clear hK K)
                    refine wpAny_ready (rs := [9]) (by kernel_rfl) (by simp) (AllReady.cons rfl (fun K hK => ?_) AllReady.nil)
                    go_simp
                    go_at_call 5
                    refine (pick_any sb td wd.heap.size 0 5 5 (fun k => ([0, 1, -1, (nets : Int), x0] : List Int).getD k 0) _ (hsdd.alloc _) (by omega) (by decide) (by decide) (by omega) (ints_fresh wd.drew ([0, 1, -1, (nets : Int), x0] : List Int) 3)).mono ?_
                    rintro e we ⟨⟨kk, hkk, rfl⟩, hre'⟩
                    have hre := hre'.after_alloc.undrew
                    have hbe := HD.out.1.ran hre (by omega)
                    have hze : wd.heap.size ≤ we.heap.size := hre.1.size
                    have e1 := hbe.c1
                    have e1' : ∀ o : Obj, (we.alloc o).cell? ⟨w2.heap.size, 1, none⟩ = some (.slice (some ⟨g, 0, none⟩) q q) := fun o => (hbe.kept (Below.heap_alloc we o _ hbe.lt)).c1
                    have HRe := Lib.hid hre
                    clear hre hre'
                    dsimp only
                    generalize ([0, 1, -1, (nets : Int), x0] : List Int).getD kk 0 = xx
                    refine hK _ _ ?_
                    clear hK K
                    refine wpAny_ready (rs := [10]) (by kernel_rfl) (by simp) (AllReady.cons rfl (fun K hK => ?_) AllReady.nil)
                    (go_simp; refine hK _ _ ?_; clear hK K)
                    refine wpAny_ready (rs := [11]) (by kernel_rfl) (by simp) (AllReady.cons rfl (fun K hK => ?_) AllReady.nil)
                    refine step_grows (P := Tryz.prog) rfl (.tmp 61) (.tmp 70) 22 rfl 3 ii (.int .i64 0) 1 8 Tryz.underlying22 hii hi0 hi1 hi2 rfl (by decide) ⟨g, 0, none⟩ q q (l.map intV) (by simp [Act.eval]) (by rw [List.length_map, hll, Nat.mul_one]) (fun j u hu => HL.out _ HRe.out _ j u hu) ⟨we.heap.size, 0, none⟩ 1 1 [.int .i64 xx] (by simp [Act.eval]) rfl (cell_one_new _ _ _) (by intro u hu; simp at hu; subst hu; rfl) (by omega) (by unfold maxLen; omega) (by omega) ?_
                    intro v' wg hown hgg
                    have hza : (we.alloc (.cells #[.int .i64 xx] 3)).heap.size = we.heap.size + 1 := by simp
                    have hbg := (hbe.kept (Below.heap_alloc we _ _ hbe.lt)).kept (hgg.block w2.heap.size (by have := hbe.lt; omega) (by simp))
                    have e2 := hbg.c1
                    have e3 := hbg.f1
                    obtain ⟨g2, c2, rfl⟩ := ownsRow_succ hown
                    have HG := Lib.hid (⟨hown, hgg, hbg⟩ : _ ∧ _ ∧ _)
                    clear hown hgg hbg
                    refine hK _ _ ?_
                    clear hK K
                    refine wpAny_take (i := 12) (v := ?_) rfl (by kernel_rfl) (by kernel_rfl) (by kernel_rfl) (fun _ _ _ h => h) (Or.inl ⟨by rfl, ?_⟩) ?_
                    rotate_left
                    focus (intro w; go_simp; first | done | with_reducible rfl)
                    refine wpAny_ready (rs := [13]) (by kernel_rfl) (by simp) (AllReady.cons rfl (fun K hK => ?_) AllReady.nil)
                    (go_simp; refine hK _ _ ?_; clear hK K)
                    refine wpAny_done (by kernel_rfl) ?_ _
                    have hgg := HG.out.2.1
                    have hbre := HD.out.2.1.ran HRe.out (by omega)
                    have hbrg := (hbre.kept (Below.heap_alloc we _ _ hbre.lt)).kept (hgg.block w.heap.size (by have := hbre.lt; omega) (by simp))
                    have hRg : Ran sb t 200 w wg := ((HR.out we 2 (HD.out.2.2.2.then htd htd' HRe.out) (by omega)).alloc (.cells #[.int .i64 xx] 3)).grown hgg (fun j e => by cases e) hsb
                    have hrow : wg.ownsRow (we.alloc (.cells #[.int .i64 xx] 3)).heap.size 3 1 (.slice (some ⟨g2, 0, none⟩) (q + 1) c2) (q + 1) ((l ++ [xx]).map intV) := by rw [List.map_append]; exact HG.out.1
                    have hg2 := (hrow.lt g2 rfl).1
                    have hNg := NetsB.base (B' := w.heap.size + 1) (by omega) (NetsB.row hrow (by simp [hll]) (by omega))
                    have hfin : FBox (wg.setCell ⟨w2.heap.size, 1, none⟩ (.slice (some ⟨g2, 0, none⟩) (q + 1) c2)) w2.heap.size k (.slice (some ⟨g2, 0, none⟩) (q + 1) c2) ∧ FBox (wg.setCell ⟨w2.heap.size, 1, none⟩ (.slice (some ⟨g2, 0, none⟩) (q + 1) c2)) w.heap.size 0 (.slice none 0 0) ∧ (l ++ [xx]).length ≤ 7 ∧ NetsB (w.heap.size + 1) (wg.setCell ⟨w2.heap.size, 1, none⟩ (.slice (some ⟨g2, 0, none⟩) (q + 1) c2)) (.slice (some ⟨g2, 0, none⟩) (q + 1) c2) (l ++ [xx]) ∧ Ran sb t 200 w (wg.setCell ⟨w2.heap.size, 1, none⟩ (.slice (some ⟨g2, 0, none⟩) (q + 1) c2)) :=
                      ⟨HG.out.2.2.set1 _, hbrg.kept (Below.heap_setCell _ _ _ _ (by show w.heap.size ≠ w2.heap.size; omega)), by rw [List.length_append, hll]; simp; omega, hNg.kept (KeepsWalks.setCell wg _ _).size (fun g' _ _ e => by
                        have e2 : g2 = g' := Option.some.inj e
                        exact Below.heap_setCell _ _ _ _ (by show g' ≠ w2.heap.size; have := hbe.lt; omega)), hRg.setCell (a := ⟨w2.heap.size, 1, none⟩) (by show w.heap.size ≤ w2.heap.size; omega) hsb _⟩
                    have HF := Lib.hid hfin
                    clear hfin hgg hbre hbrg hRg hrow hNg
                    go_wp2_with fail
                    go_meet
                    exact ⟨_, _, l ++ [xx], HF.out⟩
                  ·
                    go_simp
                    go_at_call 5
                    refine (pick_any sb td wd.heap.size 0 5 5 (fun k => ([0, 1, -1, (nets : Int), x0] : List Int).getD k 0) _ (hsdd.alloc _) (by omega) (by decide) (by decide) (by omega) (ints_fresh wd.drew ([0, 1, -1, (nets : Int), x0] : List Int) 3)).mono ?_
                    rintro e we ⟨⟨kk, hkk, rfl⟩, hre'⟩
                    have hre := hre'.after_alloc.undrew
                    have hbe := HD.out.1.ran hre (by omega)
                    have hze : wd.heap.size ≤ we.heap.size := hre.1.size
                    have e1 := hbe.c1
                    have e1' : ∀ o : Obj, (we.alloc o).cell? ⟨w2.heap.size, 1, none⟩ = some (.slice (some ⟨g, 0, none⟩) q q) := fun o => (hbe.kept (Below.heap_alloc we o _ hbe.lt)).c1
                    have HRe := Lib.hid hre
                    clear hre hre'
                    dsimp only
                    generalize ([0, 1, -1, (nets : Int), x0] : List Int).getD kk 0 = xx
                    refine hK _ _ ?_
                    clear hK K
                    refine wpAny_ready (rs := [1, 10]) (by kernel_rfl) (by simp) (AllReady.cons rfl (fun K hK => ?_) (AllReady.cons rfl (fun K hK => ?_) AllReady.nil))
                    ·
                      (go_simp; refine hK _ _ ?_; clear hK K)
                      refine wpAny_ready (rs := [10]) (by kernel_rfl) (by simp) (AllReady.cons rfl (fun K hK => ?_) AllReady.nil)
                      (go_simp; refine hK _ _ ?_; clear hK K)
                      refine wpAny_ready (rs := [11]) (by kernel_rfl) (by simp) (AllReady.cons rfl (fun K hK => ?_) AllReady.nil)
                      refine step_grows (P := Tryz.prog) rfl (.tmp 61) (.tmp 70) 22 rfl 3 ii (.int .i64 0) 1 8 Tryz.underlying22 hii hi0 hi1 hi2 rfl (by decide) ⟨g, 0, none⟩ q q (l.map intV) (by simp [Act.eval]) (by rw [List.length_map, hll, Nat.mul_one]) (fun j u hu => HL.out _ HRe.out _ j u hu) ⟨we.heap.size, 0, none⟩ 1 1 [.int .i64 xx] (by simp [Act.eval]) rfl (cell_one_new _ _ _) (by intro u hu; simp at hu; subst hu; rfl) (by omega) (by unfold maxLen; omega) (by omega) ?_
                      intro v' wg hown hgg
                      have hza : (we.alloc (.cells #[.int .i64 xx] 3)).heap.size = we.heap.size + 1 := by simp
                      have hbg := (hbe.kept (Below.heap_alloc we _ _ hbe.lt)).kept (hgg.block w2.heap.size (by have := hbe.lt; omega) (by simp))
                      have e2 := hbg.c1
                      have e3 := hbg.f1
                      obtain ⟨g2, c2, rfl⟩ := ownsRow_succ hown
                      have HG := Lib.hid (⟨hown, hgg, hbg⟩ : _ ∧ _ ∧ _)
                      clear hown hgg hbg
                      refine hK _ _ ?_
                      clear hK K
                      refine wpAny_take (i := 12) (v := ?_) rfl (by kernel_rfl) (by kernel_rfl) (by kernel_rfl) (fun _ _ _ h => h) (Or.inl ⟨by rfl, ?_⟩) ?_
                      rotate_left
                      focus (intro w; go_simp; first | done | with_reducible rfl)
                      refine wpAny_ready (rs := [13]) (by kernel_rfl) (by simp) (AllReady.cons rfl (fun K hK => ?_) AllReady.nil)
                      (go_simp; refine hK _ _ ?_; clear hK K)
                      refine wpAny_done (by kernel_rfl) ?_ _
                      have hgg := HG.out.2.1
                      have hbre := HD.out.2.1.ran HRe.out (by omega)
                      have hbrg := (hbre.kept (Below.heap_alloc we _ _ hbre.lt)).kept (hgg.block w.heap.size (by have := hbre.lt; omega) (by simp))
                      have hRg : Ran sb t 200 w wg := ((HR.out we 2 (HD.out.2.2.2.then htd htd' HRe.out) (by omega)).alloc (.cells #[.int .i64 xx] 3)).grown hgg (fun j e => by cases e) hsb
                      have hrow : wg.ownsRow (we.alloc (.cells #[.int .i64 xx] 3)).heap.size 3 1 (.slice (some ⟨g2, 0, none⟩) (q + 1) c2) (q + 1) ((l ++ [xx]).map intV) := by rw [List.map_append]; exact HG.out.1
                      have hg2 := (hrow.lt g2 rfl).1
                      have hNg := NetsB.base (B' := w.heap.size + 1) (by omega) (NetsB.row hrow (by simp [hll]) (by omega))
                      have hfin : FBox (wg.setCell ⟨w2.heap.size, 1, none⟩ (.slice (some ⟨g2, 0, none⟩) (q + 1) c2)) w2.heap.size k (.slice (some ⟨g2, 0, none⟩) (q + 1) c2) ∧ FBox (wg.setCell ⟨w2.heap.size, 1, none⟩ (.slice (some ⟨g2, 0, none⟩) (q + 1) c2)) w.heap.size 0 (.slice none 0 0) ∧ (l ++ [xx]).length ≤ 7 ∧ NetsB (w.heap.size + 1) (wg.setCell ⟨w2.heap.size, 1, none⟩ (.slice (some ⟨g2, 0, none⟩) (q + 1) c2)) (.slice (some ⟨g2, 0, none⟩) (q + 1) c2) (l ++ [xx]) ∧ Ran sb t 200 w (wg.setCell ⟨w2.heap.size, 1, none⟩ (.slice (some ⟨g2, 0, none⟩) (q + 1) c2)) :=
                        ⟨HG.out.2.2.set1 _, hbrg.kept (Below.heap_setCell _ _ _ _ (by show w.heap.size ≠ w2.heap.size; omega)), by rw [List.length_append, hll]; simp; omega, hNg.kept (KeepsWalks.setCell wg _ _).size (fun g' _ _ e => by
                          have e2 : g2 = g' := Option.some.inj e
                          exact Below.heap_setCell _ _ _ _ (by show g' ≠ w2.heap.size; have := hbe.lt; omega)), hRg.setCell (a := ⟨w2.heap.size, 1, none⟩) (by show w.heap.size ≤ w2.heap.size; omega) hsb _⟩
                      have HF := Lib.hid hfin
                      clear hfin hgg hbre hbrg hRg hrow hNg
                      go_wp2_with fail
                      go_meet
                      exact ⟨_, _, l ++ [xx], HF.out⟩
                    ·
                      (go_simp; refine hK _ _ ?_; clear hK K)
                      refine wpAny_ready (rs := [1]) (by kernel_rfl) (by simp) (AllReady.cons rfl (fun K hK => ?_) AllReady.nil)
                      (go_simp; refine hK _ _ ?_; clear hK K)
                      refine wpAny_ready (rs := [11]) (by kernel_rfl) (by simp) (AllReady.cons rfl (fun K hK => ?_) AllReady.nil)
                      refine step_grows (P := Tryz.prog) rfl (.tmp 61) (.tmp 70) 22 rfl 3 ii (.int .i64 0) 1 8 Tryz.underlying22 hii hi0 hi1 hi2 rfl (by decide) ⟨g, 0, none⟩ q q (l.map intV) (by simp [Act.eval]) (by rw [List.length_map, hll, Nat.mul_one]) (fun j u hu => HL.out _ HRe.out _ j u hu) ⟨we.heap.size, 0, none⟩ 1 1 [.int .i64 xx] (by simp [Act.eval]) rfl (cell_one_new _ _ _) (by intro u hu; simp at hu; subst hu; rfl) (by omega) (by unfold maxLen; omega) (by omega) ?_
                      intro v' wg hown hgg
                      have hza : (we.alloc (.cells #[.int .i64 xx] 3)).heap.size = we.heap.size + 1 := by simp
                      have hbg := (hbe.kept (Below.heap_alloc we _ _ hbe.lt)).kept (hgg.block w2.heap.size (by have := hbe.lt; omega) (by simp))
                      have e2 := hbg.c1
                      have e3 := hbg.f1
                      obtain ⟨g2, c2, rfl⟩ := ownsRow_succ hown
                      have HG := Lib.hid (⟨hown, hgg, hbg⟩ : _ ∧ _ ∧ _)
                      clear hown hgg hbg
                      refine hK _ _ ?_
                      clear hK K
                      refine wpAny_take (i := 12) (v := ?_) rfl (by kernel_rfl) (by kernel_rfl) (by kernel_rfl) (fun _ _ _ h => h) (Or.inl ⟨by rfl, ?_⟩) ?_
                      rotate_left
                      focus (intro w; go_simp; first | done | with_reducible rfl)
                      refine wpAny_ready (rs := [13]) (by kernel_rfl) (by simp) (AllReady.cons rfl (fun K hK => ?_) AllReady.nil)
                      (go_simp; refine hK _ _ ?_; clear hK K)
                      refine wpAny_done (by kernel_rfl) ?_ _
                      have hgg := HG.out.2.1
                      have hbre := HD.out.2.1.ran HRe.out (by omega)
                      have hbrg := (hbre.kept (Below.heap_alloc we _ _ hbre.lt)).kept (hgg.block w.heap.size (by have := hbre.lt; omega) (by simp))
                      have hRg : Ran sb t 200 w wg := ((HR.out we 2 (HD.out.2.2.2.then htd htd' HRe.out) (by omega)).alloc (.cells #[.int .i64 xx] 3)).grown hgg (fun j e => by cases e) hsb
                      have hrow : wg.ownsRow (we.alloc (.cells #[.int .i64 xx] 3)).heap.size 3 1 (.slice (some ⟨g2, 0, none⟩) (q + 1) c2) (q + 1) ((l ++ [xx]).map intV) := by rw [List.map_append]; exact HG.out.1
                      have hg2 := (hrow.lt g2 rfl).1
                      have hNg := NetsB.base (B' := w.heap.size + 1) (by omega) (NetsB.row hrow (by simp [hll]) (by omega))
                      have hfin : FBox (wg.setCell ⟨w2.heap.size, 1, none⟩ (.slice (some ⟨g2, 0, none⟩) (q + 1) c2)) w2.heap.size k (.slice (some ⟨g2, 0, none⟩) (q + 1) c2) ∧ FBox (wg.setCell ⟨w2.heap.size, 1, none⟩ (.slice (some ⟨g2, 0, none⟩) (q + 1) c2)) w.heap.size 0 (.slice none 0 0) ∧ (l ++ [xx]).length ≤ 7 ∧ NetsB (w.heap.size + 1) (wg.setCell ⟨w2.heap.size, 1, none⟩ (.slice (some ⟨g2, 0, none⟩) (q + 1) c2)) (.slice (some ⟨g2, 0, none⟩) (q + 1) c2) (l ++ [xx]) ∧ Ran sb t 200 w (wg.setCell ⟨w2.heap.size, 1, none⟩ (.slice (some ⟨g2, 0, none⟩) (q + 1) c2)) :=
                        ⟨HG.out.2.2.set1 _, hbrg.kept (Below.heap_setCell _ _ _ _ (by show w.heap.size ≠ w2.heap.size; omega)), by rw [List.length_append, hll]; simp; omega, hNg.kept (KeepsWalks.setCell wg _ _).size (fun g' _ _ e => by
                          have e2 : g2 = g' := Option.some.inj e
                          exact Below.heap_setCell _ _ _ _ (by show g' ≠ w2.heap.size; have := hbe.lt; omega)), hRg.setCell (a := ⟨w2.heap.size, 1, none⟩) (by show w.heap.size ≤ w2.heap.size; omega) hsb _⟩
                      have HF := Lib.hid hfin
                      clear hfin hgg hbre hbrg hRg hrow hNg
                      go_wp2_with fail
                      go_meet
                      exact ⟨_, _, l ++ [xx], HF.out⟩
          · -- no nets
            have hRd := HR.out wd 1 HD.out.2.2.2 (by omega)
            have hfin : FBox (wd.setCell ⟨w2.heap.size, 1, none⟩ (.slice none 0 0)) w2.heap.size k (.slice none 0 0) ∧ FBox (wd.setCell ⟨w2.heap.size, 1, none⟩ (.slice none 0 0)) w.heap.size 0 (.slice none 0 0) ∧ ([] : List Int).length ≤ 7 ∧ NetsB (w.heap.size + 1) (wd.setCell ⟨w2.heap.size, 1, none⟩ (.slice none 0 0)) (.slice none 0 0) [] ∧ Ran sb t 200 w (wd.setCell ⟨w2.heap.size, 1, none⟩ (.slice none 0 0)) :=
              ⟨HD.out.1.set1 _, HD.out.2.1.kept (Below.heap_setCell _ _ _ _ (by show w.heap.size ≠ w2.heap.size; omega)), by decide, ⟨none, 0, rfl, Nat.le_refl _, fun _ => rfl, fun h => absurd h (by decide)⟩, hRd.setCell (a := ⟨w2.heap.size, 1, none⟩) (by show w.heap.size ≤ w2.heap.size; omega) hsb _⟩
            have HF := Lib.hid hfin
            clear hfin hRd
            go_wp2_with fail
            go_meet
            exact ⟨_, _, [], HF.out⟩
          · -- many nets
            have hsD := hsd.alloc (.cells #[.int .i64 0, .int .i64 1, .int .i64 2, .int .i64 3, .int .i64 4, .int .i64 5, .int .i64 6] 3)
            obtain ⟨We, hWe⟩ : ∃ We : World, We = wd.alloc (.cells #[.int .i64 0, .int .i64 1, .int .i64 2, .int .i64 3, .int .i64 4, .int .i64 5, .int .i64 6] 3) := ⟨_, rfl⟩
            rw [← hWe] at hsD
            have hzE : We.heap.size = wd.heap.size + 1 := by rw [hWe]; simp
            have hIE : ∀ j, j < 7 → We.cell? ⟨wd.heap.size, 0 + j, none⟩ = some (.int .i64 (([0, 1, 2, 3, 4, 5, 6] : List Int).getD j 0)) := by
              rw [hWe]
              exact ints_fresh wd [0, 1, 2, 3, 4, 5, 6] 3
            have hBE : Below wd.heap.size wd We := by rw [hWe]; exact (Below.refl _ _).alloc (Nat.le_refl _) _
            have HE := Lib.hid (⟨hBE, hIE⟩ : _ ∧ _)
            have HWe := Lib.hid hWe
            clear hBE hIE hWe
            go_wp2_with fail
            rw [← HWe.out]
            refine (range_any sb td 5 7 _ hsD (by omega) (by decide) (by decide) (by decide)).mono ?_
            rintro e we ⟨⟨zm, hm5, hm7, rfl⟩, hre⟩
            obtain ⟨m, rfl⟩ : ∃ m : Nat, zm = (m : Int) := ⟨zm.toNat, by omega⟩
            have hze : We.heap.size ≤ we.heap.size := hre.1.size
            have hwb : ∀ x, x < wd.heap.size → x ≠ sb → we.heap[x]? = wd.heap[x]? := fun x hx hne => (hre.1.block x (by omega) (fun e => hne (Option.some.inj e))).trans (HE.out.1.block x hx)
            have hbe := HD.out.1.kept (hwb _ HD.out.1.lt (by omega))
            have hbre := HD.out.2.1.kept (hwb _ HD.out.2.1.lt (by omega))
            have hRe : Ran sb t 200 w we := HR.out we 2 (HD.out.2.2.2.then htd htd' (Ran.after_alloc (o := .cells #[.int .i64 0, .int .i64 1, .int .i64 2, .int .i64 3, .int .i64 4, .int .i64 5, .int .i64 6] 3) (by rw [← HWe.out]; exact hre))) (by omega)
            have hNe : NetsB (w.heap.size + 1) we (.slice (some ⟨wd.heap.size, 0, none⟩) m 7) (([0, 1, 2, 3, 4, 5, 6] : List Int).take m) :=
              NetsB.of (by rw [List.length_take]; simp; omega) (by omega) (by omega) (by omega) (by omega) fun j hj => by
                rw [(World.cell?_of_block (a := ⟨wd.heap.size, 0 + j, none⟩) (hre.1.block wd.heap.size (by omega) (fun e => by have := Option.some.inj e; omega))), HE.out.2 j (by omega)]
                rw [List.getD_eq_getElem?_getD, List.getD_eq_getElem?_getD, List.getElem?_take, if_pos hj]
            have hfin : FBox (we.setCell ⟨w2.heap.size, 1, none⟩ (.slice (some ⟨wd.heap.size, 0, none⟩) m 7)) w2.heap.size k (.slice (some ⟨wd.heap.size, 0, none⟩) m 7) ∧ FBox (we.setCell ⟨w2.heap.size, 1, none⟩ (.slice (some ⟨wd.heap.size, 0, none⟩) m 7)) w.heap.size 0 (.slice none 0 0) ∧ (([0, 1, 2, 3, 4, 5, 6] : List Int).take m).length ≤ 7 ∧ NetsB (w.heap.size + 1) (we.setCell ⟨w2.heap.size, 1, none⟩ (.slice (some ⟨wd.heap.size, 0, none⟩) m 7)) (.slice (some ⟨wd.heap.size, 0, none⟩) m 7) (([0, 1, 2, 3, 4, 5, 6] : List Int).take m) ∧ Ran sb t 200 w (we.setCell ⟨w2.heap.size, 1, none⟩ (.slice (some ⟨wd.heap.size, 0, none⟩) m 7)) :=
              ⟨hbe.set1 _, hbre.kept (Below.heap_setCell _ _ _ _ (by show w.heap.size ≠ w2.heap.size; omega)), by rw [List.length_take]; simp; omega, hNe.kept (by show we.heap.size ≤ (we.heap.modify _ _).size; rw [Array.size_modify]; exact Nat.le_refl _) (fun g' _ _ e => by
                have e2 : wd.heap.size = g' := Option.some.inj e
                exact Below.heap_setCell _ _ _ _ (by show g' ≠ w2.heap.size; omega)), hRe.setCell (a := ⟨w2.heap.size, 1, none⟩) (by show w.heap.size ≤ w2.heap.size; omega) hsb _⟩
            have d1 := hbe.c1
            have d2 := hbe.f1
            have m0 : (0 : Int) ≤ (m : Int) := by omega
            have m7 : (m : Int) ≤ 7 := hm7
            have HF := Lib.hid hfin
            clear hfin hbe hbre hRe hNe hre hwb
            go_wp2_with fail
            go_meet
            exact ⟨_, _, _, HF.out⟩
      case rest =>
        obtain ⟨k', nv, l, hbb9, hbr9, hl9, hN9, hr9⟩ := hcut
        have c0 := hbb9.c0
        have c1 := hbb9.c1
        have r0 := hbr9.c0
        have r1 := hbr9.c1
        have r2 := hbr9.f0
        have r3 := hbr9.f1
        have H9 := Lib.hid (⟨hbb9, hbr9, hN9, hr9⟩ : _ ∧ _ ∧ _ ∧ _)
        clear hbb9 hbr9 hN9 hr9
        obtain ⟨na, nc, rfl, -, -⟩ := H9.out.2.2.1
        go_wp2_with fail
        have hF := (H9.out.2.1.set0 k').set1 (.slice na l.length nc)
        have hN : NetsB w.heap.size ((wc.setCell ⟨w.heap.size, 0, none⟩ (.int .i64 k')).setCell ⟨w.heap.size, 1, none⟩ (.slice na l.length nc)) (.slice na l.length nc) l := by
          refine NetsB.base (B := w.heap.size + 1) (by omega) (H9.out.2.2.1.kept (Nat.le_trans (KeepsWalks.setCell wc _ _).size (KeepsWalks.setCell _ _ _).size) fun g' h1 h2 _ => ?_)
          exact (Below.heap_setCell _ _ _ g' (by show g' ≠ w.heap.size; omega)).trans (Below.heap_setCell _ _ _ g' (by show g' ≠ w.heap.size; omega))
        have hR := (H9.out.2.2.2.setCell (a := ⟨w.heap.size, 0, none⟩) (Nat.le_refl _) hsb (.int .i64 k')).setCell (a := ⟨w.heap.size, 1, none⟩) (Nat.le_refl _) hsb (.slice na l.length nc)
        refine bodyPost_ret (results_cell_row rfl _ _ w.heap.size 30 _ _ _ rfl hF Tryz.underlying30 rfl (by kernel_rfl)) rfl ?_
        exact ⟨_, _, l, rfl, hl9, hN, hR⟩
end Go.Proofs.YtgnkihiibednoaaGreatDoor
