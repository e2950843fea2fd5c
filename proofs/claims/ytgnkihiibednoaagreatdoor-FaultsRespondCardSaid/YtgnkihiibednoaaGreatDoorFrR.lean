/- The maker of orders. -/
import Derived.Test.YtgnkihiibednoaaGreatDoorFrQ
import Derived.Shelf.RegionOpen
namespace Go.Proofs.YtgnkihiibednoaaGreatDoor
open Go.RowKit

theorem Ran.setCell {sb t K : Nat} {w w' : World} (h : Ran sb t K w w') {a : Addr} (ha : w.heap.size ≤ a.block) (hlt : sb < w.heap.size) (v : Value) : Ran sb t K w (w'.setCell a v) := by
  obtain ⟨hg, t', h1, h2, hs⟩ := h
  refine ⟨⟨hg.os, hg.tape, hg.output, ?_, fun k hk hne => ?_⟩, t', h1, h2, hs.kept fun b hb => Below.heap_setCell _ _ _ b (by omega)⟩
  · simpa [World.setCell] using hg.size
  · exact (Below.heap_setCell _ _ _ k (by omega)).trans (hg.block k hk hne)
theorem Ran.grown {sb t K : Nat} {w w' w2 : World} (h : Ran sb t K w w') {row : Option Nat} (hg : w'.grownBy w2 row) (hr : ∀ g, row = some g → w.heap.size ≤ g) (hlt : sb < w.heap.size) : Ran sb t K w w2 := by
  obtain ⟨hg1, t', h1, h2, hs⟩ := h
  have hl := hs.lt
  refine ⟨⟨hg.os.trans hg1.os, hg.tape.trans hg1.tape, hg.output.trans hg1.output, Nat.le_trans hg1.size hg.size, fun k hk hne => ?_⟩, t', h1, h2, hs.kept fun b hb => hg.block b (by omega) (fun e => by have := hr b e.symm; omega)⟩
  exact (hg.block k (Nat.lt_of_lt_of_le hk hg1.size) (fun e => by have := hr k e.symm; omega)).trans (hg1.block k hk hne)
theorem row_kept {w w' : World} {B : Nat} {e : TypeId} {size : Nat} {v : Value} {n : Nat} {xs : List Value} (h : w.ownsRow B e size v n xs) (hk : ∀ g, B ≤ g → g < w.heap.size → w'.heap[g]? = w.heap[g]?) : w'.ownsRow B e size v n xs := by
  obtain ⟨h1, h2 | ⟨g, cap, cur, e1, e2, e3, e4⟩⟩ := h
  · exact ⟨h1, .inl h2⟩
  · exact ⟨h1, .inr ⟨g, cap, cur, e1, e2, (hk g e2 (Array.getElem?_eq_some_iff.1 e3).1).trans e3, e4⟩⟩
theorem Ran.drew {sb t K : Nat} {w w' : World} (h : Ran sb t K w w') : Ran sb t K w w'.drew := by
  obtain ⟨g, t', x, y, z⟩ := h
  exact ⟨⟨g.os, g.tape, g.output, g.size, g.block⟩, t', x, y, z.kept fun _ _ => rfl⟩
theorem row_ran {sb t K : Nat} {w w' : World} {B : Nat} {e : TypeId} {size : Nat} {v : Value} {n : Nat} {xs : List Value} (h : w.ownsRow B e size v n xs) (hr : Ran sb t K w w') (hB : sb < B) : w'.ownsRow B e size v n xs :=
  row_kept h fun g hg hlt => hr.1.block g hlt (fun e => by have := Option.some.inj e; omega)
def intV (x : Int) : Value := .int .i64 x
set_option maxHeartbeats 4000000 in
set_option maxRecDepth 100000 in
theorem order_any (sb t n : Nat) (w : World) (hs : Strm w sb t) (ht : t + n ≤ 1000000) (hn1 : 1 ≤ n) (hn : n ≤ 1000) :
    Calls Tryz.prog 27 #[.pointer (some ⟨sb, 0, none⟩), .int .i64 (n : Int)] w fun e w' => (∃ (g c : Nat) (l : List Int), l.length = n ∧ e = .returned (.slice (some ⟨g, 0, none⟩) n c) ∧ w'.ownsRow w.heap.size 3 1 (.slice (some ⟨g, 0, none⟩) n c) n (l.map intV)) ∧ Ran sb t n w w' := by
  obtain ⟨i0, hi, hz0, hz1, hz2⟩ := info_parts Tryz.infoInt9
  have hsb := hs.lt
  have HS := Lib.hid hs
  clear hs
  go_enter Tryz.func27, Tryz.ntmps27
  go_wp2_with fail
  go_loopw [5, 10] (fun out ix wr => ∃ i : Nat, i ≤ n ∧ ix = .int .i64 (i : Int) ∧ (∃ l : List Int, l.length = i ∧ wr.ownsRow w.heap.size 3 1 out i (l.map intV)) ∧ Ran sb t 0 w wr) (fun _ ix _ => n - (intOf ix).toNat)
  case atStart => exact ⟨0, by omega, rfl, ⟨[], rfl, World.ownsRow_nil _ _ _ _⟩, Ran.refl HS.out⟩
  case round =>
    obtain ⟨i, hi', rfl, ⟨l, hl, hrow⟩, hr⟩ := hrel
    have hop : ∃ a c, u5 = Value.slice a i c := by
      obtain ⟨-, ⟨e, h0⟩ | ⟨g, cap, cur, e, -⟩⟩ := hrow
      · exact ⟨none, 0, by rw [e, h0]⟩
      · exact ⟨_, _, e⟩
    obtain ⟨va, vc, rfl⟩ := hop
    by_cases hlt : i < n
    · have hgl : w.heap.size ≤ wr.heap.size := hr.1.size
      have v0 : (0 : Int) ≤ (i : Int) := by omega
      have v1 : (i : Int) < (n : Int) := by omega
      have H := Lib.hid (⟨hr, hl, hrow⟩ : _ ∧ _ ∧ _)
      clear hr hl hrow
      go_wp2_with (at_builtin; refine wpList_append_own _ rfl _ _ 22 rfl w.heap.size 3 i0 (.int .i64 0) 1 8 Tryz.underlying22 hi hz0 hz1 hz2 rfl (by decide) _ _ _ rfl (H.out.2.2.alloc _) ⟨wr.heap.size, 0, none⟩ 1 1 [.int .i64 (i : Int)] rfl rfl ?c1 ?c2 ?c3 ?c4 ?c5 ?_)
      case c1 => exact cell_one_new _ _ _
      case c2 =>
        intro u hu
        simp at hu
        subst hu
        rfl
      case c3 => unfold maxLen; omega
      case c4 => omega
      case c5 => simp; omega
      intro v' w4 hown' hg4 _
      have hr5 : Ran sb t 0 w w4 := (H.out.1.alloc _).grown hg4 (fun j hj => (H.out.2.2.lt j hj).1) hsb
      have hN : ∃ l2 : List Int, l2.length = i + 1 ∧ w4.ownsRow w.heap.size 3 1 v' (i + 1) (l2.map intV) := ⟨l ++ [(i : Int)], by simp [H.out.2.1], by rw [List.map_append]; exact hown'⟩
      obtain ⟨g9, cap9, rfl⟩ := ownsRow_succ hown'
      have H9 := Lib.hid (⟨hN, hr5⟩ : _ ∧ _)
      clear hN hr5 hown' hg4
      go_wp2_with fail
      go_roundw
      case rel => exact ⟨i + 1, by omega, by go_num, H9.out⟩
      case measure => simp [intOf]; omega
    · obtain rfl : i = n := by omega
      obtain ⟨m, hm⟩ : ∃ m, i = m + 1 := ⟨i - 1, by omega⟩
      obtain ⟨g, rfl⟩ : ∃ g, va = some ⟨g, 0, none⟩ := by
        have h2 := hrow
        rw [hm] at h2
        obtain ⟨g, cap, hge⟩ := ownsRow_succ h2
        cases hge
        exact ⟨g, rfl⟩
      have H := Lib.hid (⟨⟨l, hl, hrow⟩, hr⟩ : (∃ l : List Int, l.length = i ∧ wr.ownsRow w.heap.size 3 1 (.slice (some ⟨g, 0, none⟩) i vc) i (l.map intV)) ∧ Ran sb t 0 w wr)
      have e1 : (i : Int) - 1 = (m : Int) := by omega
      have hmi : m < i := by omega
      have hlei : i ≤ m + 1 := by omega
      clear hl hrow hr hm
      go_wp2_with fail
      go_loopw [7] (fun ix wr => ∃ z : Nat, z ≤ m ∧ ix = .int .i64 (z : Int) ∧ (∃ l : List Int, l.length = i ∧ wr.ownsRow w.heap.size 3 1 (.slice (some ⟨g, 0, none⟩) i vc) i (l.map intV)) ∧ Ran sb t (m - z) w wr) (fun ix _ => (intOf ix).toNat)
      case atStart => exact ⟨m, by omega, by first | rfl | go_num, H.out.1, H.out.2.mono (by omega)⟩
      case round =>
        clear H
        obtain ⟨z, hi', rfl, ⟨l, hl, hrow⟩, hr⟩ := hrel
        by_cases hlt : 0 < z
        · obtain ⟨t2, ht2, ht2', hs2⟩ := hr.strm
          have hnx := next_any sb t2 ((z : Int) + 1) wr hs2 (by omega) (by omega) (by omega)
          have v0 : (0 : Int) < (z : Int) := by omega
          have hw1 : IntKind.i64.wrap ((z : Int) + 1) = (z : Int) + 1 := IntWalk.i64_in _ (by omega)
          have H := Lib.hid (⟨hr, hl, hrow⟩ : _ ∧ _ ∧ _)
          clear hr hl hrow
          go_wp2_with fail
          refine hnx.mono ?_
          rintro e w3 ⟨⟨r, h0, h1, rfl⟩, hr3⟩
          obtain ⟨q, rfl⟩ : ∃ q : Nat, r = (q : Int) := ⟨r.toNat, by omega⟩
          have hrow3 := row_ran H.out.2.2 hr3 hsb
          have hr4 : Ran sb t (m - (z - 1)) w w3 := (H.out.1.then ht2 ht2' hr3).mono (by omega)
          have hll := H.out.2.1
          have q1 : q < i := by omega
          have ci := hrow3.cellAt z (by omega)
          have cq := hrow3.cellAt q (by omega)
          have hgi : (l.map intV)[z]? = some (.int .i64 (l.getD z 0)) := by simp [intV, show z < l.length by omega]
          have hgq : (l.map intV)[q]? = some (.int .i64 (l.getD q 0)) := by simp [intV, show q < l.length by omega]
          rw [hgi] at ci
          rw [hgq] at cq
          have fi := hrow3.frozenAt z
          have fq := hrow3.frozenAt q
          have hw := (hrow3.stored z (.int .i64 (l.getD q 0))).1
          have hw2 := (hw.stored q (.int .i64 (l.getD z 0))).1
          have fq2 := hw.frozenAt q
          have cq2 := hw.cellAt q (by omega)
          have hgq2 : ((l.map intV).set z (.int .i64 (l.getD q 0)))[q]? = some (.int .i64 (l.getD q 0)) := by
            rw [List.getElem?_set]
            by_cases hiq : z = q
            · subst hiq
              simp [show z < l.length by omega]
            · rw [if_neg hiq]
              exact hgq
          rw [hgq2] at cq2
          have hlist : ((l.map intV).set z (.int .i64 (l.getD q 0))).set q (.int .i64 (l.getD z 0)) = ((l.set z (l.getD q 0)).set q (l.getD z 0)).map intV := by
            rw [List.map_set, List.map_set]; rfl
          rw [hlist] at hw2
          have hr5 : Ran sb t (m - (z - 1)) w ((w3.setCell ⟨g, z, none⟩ (.int .i64 (l.getD q 0))).setCell ⟨g, q, none⟩ (.int .i64 (l.getD z 0))) := by
            have hgg := (hrow3.lt g rfl).1
            exact (hr4.setCell (a := ⟨g, z, none⟩) hgg hsb _).setCell (a := ⟨g, q, none⟩) hgg hsb _
          generalize hyi : l.getD z 0 = yi at ci hw2 hr5
          generalize hyq : l.getD q 0 = yq at cq hw2 hr5 hw fq2 cq2
          have hl5 : ((l.set z yq).set q yi).length = i := by simp [hll]
          have H5 := Lib.hid (⟨hw2, hr5, hl5⟩ : _ ∧ _ ∧ _)
          have z0 : (0 : Int) ≤ (z : Int) := by omega
          have z1 : (z : Int) < (i : Int) := by omega
          have z2 : (0 : Int) ≤ (q : Int) := by omega
          have z3 : (q : Int) < (i : Int) := by omega
          have hw9 : IntKind.i64.wrap ((z : Int) - 1) = ((z - 1 : Nat) : Int) := by rw [IntWalk.i64_in _ (by omega)]; omega
          clear H hrow3 hr4 hw hw2 hlist hr5 hgi hgq hgq2 hl5 hnx hs2 hr3 hyi hyq
          go_wp2_with fail
          have fq3 : ((w3.setCell ⟨g, z, none⟩ (.int .i64 yq)).drew).frozen? ⟨g, q, none⟩ = false := fq2
          have cq3 : ((w3.setCell ⟨g, z, none⟩ (.int .i64 yq)).drew).cell? ⟨g, q, none⟩ = some (.int .i64 yq) := cq2
          have z1' : (z : Int) < (i : Int) := by omega
          have z3' : (q : Int) < (i : Int) := by omega
          go_region
          all_goals (
            go_wp2_with fail
            go_roundw
            case rel => exact ⟨z - 1, by omega, by first | (rw [hw9]) | go_num, ⟨_, H5.out.2.2, by first | exact H5.out.1 | exact H5.out.1.drew⟩, by first | exact H5.out.2.1 | exact H5.out.2.1.drew⟩
            case measure => simp [intOf]; omega)
        · obtain rfl : z = 0 := by omega
          have H := Lib.hid (⟨⟨l, hl, hrow⟩, hr.mono (by omega)⟩ : (∃ l : List Int, l.length = i ∧ wr.ownsRow w.heap.size 3 1 (.slice (some ⟨g, 0, none⟩) i vc) i (l.map intV)) ∧ Ran sb t i w wr)
          clear hl hrow hr
          go_wp2_with fail
          go_ret
          obtain ⟨⟨l, hl, hrow⟩, hr⟩ := H.out
          exact ⟨⟨g, vc, l, hl, rfl, hrow⟩, hr⟩
end Go.Proofs.YtgnkihiibednoaaGreatDoor
