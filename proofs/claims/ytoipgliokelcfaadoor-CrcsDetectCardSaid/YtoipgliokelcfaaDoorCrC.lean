/- The maker Raw; slices.Clone of bytes. Made by gens/crc.py. -/
import Derived.Test.YtoipgliokelcfaaDoorCrB
import Derived.Lib.SliceRun
import Derived.Deep.AppendLies
import Derived.IntWalk
namespace Go.Proofs.YtoipgliokelcfaaDoor
open Go.RowKit

theorem Ran.then {sb t t' K K' : Nat} {a b c : World} (h : Ran sb t K a b) (ht : t ≤ t') (ht' : t' ≤ t + K) (k : Ran sb t' K' b c) : Ran sb t (K + K') a c := Ran.trans h.1 ht ht' k
theorem Ran.then_below {sb t K : Nat} {w w1 w2 : World} (h : Ran sb t K w w1) (hb : Below w1.heap.size w1 w2) : Ran sb t K w w2 := by
  obtain ⟨hg, t', a, b, hs⟩ := h
  exact ⟨hg.trans ⟨hb.os, hb.tape, hb.output, hb.size, fun k hk _ => hb.block k hk⟩, t', a, b, hs.below hb hs.lt⟩
theorem Ran.setCell {sb t K : Nat} {w w' : World} (h : Ran sb t K w w') {a : Addr} (ha : w.heap.size ≤ a.block) (hlt : sb < w.heap.size) (v : Value) : Ran sb t K w (w'.setCell a v) := by
  obtain ⟨hg, t', h1, h2, hs⟩ := h
  refine ⟨⟨hg.os, hg.tape, hg.output, ?_, fun k hk hne => ?_⟩, t', h1, h2, hs.kept fun b hb => Below.heap_setCell _ _ _ b (by omega)⟩
  · simpa [World.setCell] using hg.size
  · exact (Below.heap_setCell _ _ _ k (by omega)).trans (hg.block k hk hne)
theorem Ran.grown {sb t K : Nat} {w w' w2 : World} (h : Ran sb t K w w') {row : Option Nat} (hg : w'.grownBy w2 row) (hr : ∀ g, row = some g → w.heap.size ≤ g) (hlt : sb < w.heap.size) : Ran sb t K w w2 := by
  obtain ⟨hg1, t', h1, h2, hs⟩ := h
  have hl := hs.lt
  refine ⟨⟨hg.os.trans hg1.os, hg.tape.trans hg1.tape, hg.output.trans hg1.output, Nat.le_trans hg1.size hg.size, fun k hk hne => ?_⟩, t', h1, h2, hs.kept fun b hb => hg.block b (by omega) (fun e => by have := hr b e.symm; omega)⟩
  exact (hg.block k (Nat.lt_of_lt_of_le hk hg1.size) (fun e => by have := hr k e.symm; omega)).trans (hg1.block k hk hne)
theorem Ran.undrew {sb t K : Nat} {w w' : World} (h : Ran sb t K w.drew w') : Ran sb t K w w' := ⟨⟨h.1.os, h.1.tape, h.1.output, h.1.size, h.1.block⟩, h.2⟩
theorem Ran.size {sb t K : Nat} {w w' : World} (h : Ran sb t K w w') : w.heap.size ≤ w'.heap.size := h.1.size
theorem row_hold {w w' : World} {B : Nat} {e : TypeId} {size : Nat} {v : Value} {n : Nat} {xs : List Value} (h : w.ownsRow B e size v n xs) (hk : ∀ g, B ≤ g → g < w.heap.size → v.ownBlock = some g → w'.heap[g]? = w.heap[g]?) : w'.ownsRow B e size v n xs := by
  obtain ⟨h1, h2 | ⟨g, cap, cur, e1, e2, e3, e4⟩⟩ := h
  · exact ⟨h1, .inl h2⟩
  · exact ⟨h1, .inr ⟨g, cap, cur, e1, e2, (hk g e2 (Array.getElem?_eq_some_iff.1 e3).1 (by rw [e1]; rfl)).trans e3, e4⟩⟩
theorem row_ran {sb t K : Nat} {w w' : World} {B : Nat} {e : TypeId} {size : Nat} {v : Value} {n : Nat} {xs : List Value} (h : w.ownsRow B e size v n xs) (hr : Ran sb t K w w') (hB : sb < B) : w'.ownsRow B e size v n xs :=
  row_hold h fun g hg hlt _ => hr.1.block g hlt (fun e => by have := Option.some.inj e; omega)
theorem cell_newB (w : World) (cs : Array Value) (t : TypeId) {j : Nat} {v : Value} (h : cs[j]? = some v) : (w.alloc (.cells cs t)).cell? ⟨w.heap.size, j, none⟩ = some v := by
  have e : (w.alloc (.cells cs t)).heap[w.heap.size]? = some (.cells cs t) := World.alloc_heap_new w _
  unfold World.cell?
  simp only [e]
  simp [h]
theorem ints_new (w : World) (l : List Int) (ty : TypeId) : ∀ k, k < l.length → (w.alloc (.cells (l.map (Value.int .i64)).toArray ty)).cell? ⟨w.heap.size, 0 + k, none⟩ = some (.int .i64 (l.getD k 0)) := by
  intro k hk
  rw [Nat.zero_add]
  refine cell_newB _ _ _ ?_
  simp [hk]
def bV (b : UInt8) : Value := .int .u8 (b.toNat : Int)
/-- A row of bytes that lies at or beyond B. -/
def BOwn (B : Nat) (w : World) (v : Value) (l : List UInt8) : Prop := w.ownsRow B 5 1 v l.length (l.map bV)
theorem BOwn.form {B : Nat} {w : World} {v : Value} {l : List UInt8} (h : BOwn B w v l) : ∃ a c, v = .slice a l.length c := by
  obtain ⟨-, ⟨e, h0⟩ | ⟨g, cap, cur, e, -⟩⟩ := h
  · exact ⟨none, 0, by rw [e, h0]⟩
  · exact ⟨_, _, e⟩
theorem BOwn.push {B : Nat} {w : World} {v : Value} {l : List UInt8} (b : UInt8) (h : w.ownsRow B 5 1 v (l.length + 1) (l.map bV ++ [bV b])) : BOwn B w v (l ++ [b]) := by
  unfold BOwn
  rw [List.length_append, List.map_append]
  exact h
theorem BOwn.ran {sb t K B : Nat} {w w' : World} {v : Value} {l : List UInt8} (h : BOwn B w v l) (hr : Ran sb t K w w') (hB : sb < B) : BOwn B w' v l := row_ran h hr hB
theorem BOwn.at {B : Nat} {w : World} {v : Value} {l : List UInt8} (h : BOwn B w v l) : BytsAt w v l := by
  have h' := h
  obtain ⟨-, ⟨hv, h0⟩ | ⟨g, cap, cur, hv, hg, hh, hnc, hcm, hcs, ht⟩⟩ := h
  · exact ⟨none, 0, by rw [hv, h0], by omega, fun h => by omega⟩
  · subst hv
    refine ⟨_, cap, rfl, hnc, fun _ => ⟨g, 0, rfl, (Array.getElem?_eq_some_iff.1 hh).1, fun j hj => ?_⟩⟩
    rw [Nat.zero_add]
    have := World.ownsRow.cellAt h' j (by omega)
    rw [this]
    simp [hj, bV]
theorem Tryd.infoU8 : (Tryd.prog.info? 5).map (fun i => (i.zero, i.size, i.bytes)) = some (some (.int .u8 0), 1, 1) := by kernel_rfl
set_option maxHeartbeats 800000 in
set_option maxRecDepth 100000 in
theorem raw_any (sb t : Nat) (w : World) (hs : Strm w sb t) (ht : t ≤ 1000000) :
    Calls Tryd.prog 4 #[.pointer (some ⟨sb, 0, none⟩), .int .i64 40] w fun e w' => (∃ v l, e = .returned v ∧ l.length ≤ 40 ∧ BOwn w.heap.size w' v l) ∧ Ran sb t 90 w w' := by
  have hsb := hs.lt
  obtain ⟨i0, hi, hz0, hz1, hz2⟩ := info_parts Tryd.infoU8
  have hrg := range_any sb t 0 40 w hs (by omega) (by decide) (by decide) (by decide)
  clear hs
  go_enter Tryd.func4, Tryd.ntmps4
  go_wp2_with fail
  refine hrg.mono ?_
  rintro e w2 ⟨⟨r, r0, r1, rfl⟩, hr2⟩
  obtain ⟨n, rfl⟩ : ∃ n : Nat, r = (n : Int) := ⟨r.toNat, by omega⟩
  have HC := Lib.hid hr2
  clear hrg hr2
  go_wp2_with fail
  go_loopw [5, 9] (fun o ix wr => ∃ l : List UInt8, l.length ≤ n ∧ ix = .int .i64 (l.length : Int) ∧ BOwn w.heap.size wr o l ∧ Ran sb t (1 + 2 * l.length) w wr) (fun _ ix _ => n - (intOf ix).toNat)
  case atStart => exact ⟨[], by simp, rfl, World.ownsRow_nil _ _ _ _, HC.out⟩
  case round =>
    obtain ⟨l, hln, rfl, hrow, hr⟩ := hrel
    obtain ⟨va, vc, rfl⟩ := hrow.form
    obtain ⟨t6, ht6, ht6', hs6⟩ := hr.strm
    have hzr : w.heap.size ≤ wr.heap.size := hr.size
    obtain ⟨i, hi2⟩ : ∃ i, i = l.length := ⟨_, rfl⟩
    rw [← hi2] at hln ht6' hr ⊢
    by_cases hlt : i < n
    · have hnx := next_any sb t6 256 wr hs6 (by omega) (by decide) (by decide)
      have hlt' : (i : Int) < (n : Int) := by omega
      have HR := Lib.hid (⟨hrow, hr, hi2⟩ : _ ∧ _ ∧ _)
      clear hrow hr hs6 hi2
      go_wp2_with fail
      refine hnx.mono ?_
      rintro e w3 ⟨⟨x, x0, x1, rfl⟩, hr3⟩
      obtain ⟨t7, ht7, ht7', hs7⟩ := hr3.strm
      have hz3 : wr.heap.size ≤ w3.heap.size := hr3.size
      have hpk := pick_any sb t7 w3.heap.size 0 5 5 (fun k => ([0, 1, 255, 128, x] : List Int).getD k 0) _ (hs7.alloc _) (by omega) (by decide) (by decide) (by omega) (ints_new w3 ([0, 1, 255, 128, x] : List Int) 3)
      have HR3 := Lib.hid hr3
      clear hnx hr3 hs7
      go_wp2_with fail
      refine hpk.mono ?_
      rintro e w5 ⟨⟨kk, hkk, rfl⟩, hr5⟩
      have hr5 := hr5.after_alloc
      dsimp only
      have hyb : 0 ≤ ([0, 1, 255, 128, x] : List Int).getD kk 0 ∧ ([0, 1, 255, 128, x] : List Int).getD kk 0 < 256 := by
        have : kk = 0 ∨ kk = 1 ∨ kk = 2 ∨ kk = 3 ∨ kk = 4 := by omega
        rcases this with rfl | rfl | rfl | rfl | rfl <;> simp <;> omega
      generalize ([0, 1, 255, 128, x] : List Int).getD kk 0 = y at hyb ⊢
      obtain ⟨b, rfl⟩ : ∃ b : UInt8, y = (b.toNat : Int) := ⟨UInt8.ofNat y.toNat, by rw [UInt8.toNat_ofNat']; omega⟩
      have hr35 := HR3.out.then ht7 ht7' hr5
      have hz5 : w.heap.size ≤ w5.heap.size := by have := hr5.size; omega
      have HY := Lib.hid (⟨HR.out.1.ran hr35 hsb, HR.out.2.1.then ht6 ht6' hr35⟩ : _ ∧ _)
      have hl4 : w5.ownsRow w.heap.size 5 1 (.slice va i vc) i (l.map bV) := by rw [HR.out.2.2]; have := HY.out.1; unfold BOwn at this; rw [← HR.out.2.2] at this ⊢; exact this
      clear hpk hr5 hr35
      go_wp2_with (at_builtin; refine wpList_append_own _ rfl _ _ 26 rfl w.heap.size 5 i0 (.int .u8 0) 1 1 Tryd.underlying26 hi hz0 hz1 hz2 rfl (by decide) _ _ _ rfl (hl4.alloc _) ⟨w5.heap.size, 0, none⟩ 1 1 [.int .u8 (b.toNat : Int)] rfl rfl (cell_one_new _ _ _) (by intro u hu; simp at hu; subst hu; rfl) ?c3 ?c4 ?c5 ?_)
      case c3 => unfold maxLen; omega
      case c4 => omega
      case c5 => simp; omega
      intro v6 w6 hown hg hlt6
      have hfin : BOwn w.heap.size w6 v6 (l ++ [b]) := BOwn.push b (by rw [← HR.out.2.2]; exact hown)
      have hrf := (HY.out.2.alloc (.cells #[.int .u8 (b.toNat : Int)] 5)).grown hg (fun j hj => (hl4.lt j hj).1) hsb
      obtain ⟨a7, c7, rfl⟩ := hfin.form
      have hl7 : (l ++ [b]).length = i + 1 := by rw [List.length_append, ← HR.out.2.2]; rfl
      have HZ := Lib.hid (⟨hfin, hrf, hl7⟩ : _ ∧ _ ∧ _)
      rw [hl7]
      clear hfin hrf hown hg hl4 hl7
      go_wp2_with fail
      go_roundw
      case rel => exact ⟨l ++ [b], by rw [HZ.out.2.2]; omega, by rw [HZ.out.2.2]; go_num, by rw [← HZ.out.2.2]; exact HZ.out.1, HZ.out.2.1.mono (by rw [HZ.out.2.2]; omega)⟩
      case measure => simp [intOf]; omega
    · obtain rfl : i = n := by omega
      have HZ := Lib.hid (⟨hrow, hr, hi2⟩ : _ ∧ _ ∧ _)
      clear hrow hr hs6 hi2
      go_wp2_with fail
      go_ret
      exact ⟨⟨_, l, rfl, by rw [← HZ.out.2.2]; omega, by have := HZ.out.1; rw [← HZ.out.2.2] at this; exact this⟩, HZ.out.2.1.mono (by omega)⟩
set_option maxHeartbeats 800000 in
set_option maxRecDepth 100000 in
theorem cloneBytes_any (C : List UInt8) (hz : C.length ≤ 1000000) (h0 : C.length ≠ 0) (w : World) (v : Value) (h : BytsAt w v C) :
    Calls Tryd.prog 6 #[v] w fun e w' => ∃ v', e = .returned v' ∧ BOwn w.heap.size w' v' C ∧ Below w.heap.size w w' := by
  obtain ⟨i0, hi, hz0, hz1, hz2⟩ := info_parts Tryd.infoU8
  have hund : Tryd.prog.underlying 26 = some (.slice 5) := by kernel_rfl
  obtain ⟨a, c, rfl, hc, hop⟩ := id h
  obtain ⟨g, o, rfl, hg, hcell⟩ := hop (by omega)
  have hlen : (C.map bV).length = C.length * 1 := by simp
  have hone : ∀ u ∈ C.map bV, u.oneCell' = true := by
    intro u hu
    obtain ⟨b, -, rfl⟩ := List.mem_map.1 hu
    rfl
  obtain ⟨n, hn⟩ : ∃ n, n = C.length := ⟨_, rfl⟩
  have hnil : ∀ W, (binOp .eql 26 (.slice (some ⟨g, o, none⟩) n c) (.slice none 0 0)).run Tryd.prog W = .ok (.bool false) W := fun W => Lib.run_eql_slice_nil W _ _ _ _ _ _ _ hund
  have hcs2 : ∀ j u, (C.map bV)[j]? = some u → (w.alloc (.cells #[] 5)).cell? ((⟨g, o, none⟩ : Addr).add j) = some u := fun j u hj => by
    have hj2 : j < C.length := by have := (List.getElem?_eq_some_iff.1 hj).1; simpa using this
    rw [World.cell?_alloc_lt _ _ _ (by unfold Addr.add; split <;> exact hg), show (⟨g, o, none⟩ : Addr).add j = ⟨g, o + j, none⟩ from by simp [Addr.add], hcell j hj2]
    rw [← hj]
    simp [hj2, bV]
  rw [← hn] at hz h0 hlen ⊢
  have HN := Lib.hid hn
  clear h hop hcell hc hn
  go_enter Tryd.func6, Tryd.ntmps6
  have hO := World.ownsRow_made w #[] 0 (e := 5) (size := 1) (Nat.le_refl _) (Nat.zero_le _) rfl
  go_upto_region 3 with fail
  refine wp_region_lit ?_
  refine wpList_step fun K hK => ?_
  go_simp
  refine hK _ _ ?_
  clear hK K
  refine wpList_step fun K hK => ?_
  go_simp
  refine hK _ _ ?_
  clear hK K
  refine wpList_append_lies _ rfl _ _ 26 rfl w.heap.size 5 i0 (.int .u8 0) 1 1 hund hi hz0 hz1 hz2 rfl (by decide) _ _ _ rfl hO ⟨g, o, none⟩ n c (C.map bV) rfl hlen hcs2 hone (by omega) (by unfold maxLen; omega) (by omega) (by simp) _ rfl ?_
  intro g5 cap5 w5 hown5 hg5 hat5 hlt5
  simp only [Nat.zero_add, List.nil_append] at hown5
  have hfin : BOwn w.heap.size w5 (.slice (some ⟨g5, 0, none⟩) n cap5) C := by
    unfold BOwn
    rw [← HN.out]
    exact hown5
  have hB5 : Below w.heap.size w w5 := ((Below.refl _ _).alloc (Nat.le_refl _) _).grown hg5 (by simp) (fun j hj => (hO.lt j hj).1)
  have HF := Lib.hid (⟨hfin, hB5⟩ : _ ∧ _)
  clear hfin hB5 hown5 hg5 hat5 hlt5 hO hcs2 hone hlen
  go_wp2_with fail
  go_ret
  exact ⟨_, rfl, HF.out⟩
end Go.Proofs.YtoipgliokelcfaaDoor
