/- The reference: ResponseOf. -/
import Derived.Test.YtgnkihiibednoaaGreatDoorFrJ
namespace Go.Proofs.YtgnkihiibednoaaGreatDoor
open Go.RowKit

theorem strs_snocR {B : Nat} {w : World} {v' : Value} {S : List (List UInt8)} (s : ByteArray) (h : w.ownsRow B 9 1 v' (S.length + 1) (S.map strV ++ [.string s])) : StrsAt B w v' (S ++ [s.data.toList]) := by
  unfold StrsAt
  rw [List.length_append, List.map_append]
  exact h
def bytV (b : UInt8) : Value := .int .u8 (b.toNat : Int)
/-- A row of bytes of the call's own. -/
def BytsOwn (B : Nat) (w : World) (v : Value) (l : List UInt8) : Prop := w.ownsRow B 5 1 v l.length (l.map bytV)
theorem byts_snoc {B : Nat} {w : World} {v : Value} {l : List UInt8} (b : UInt8) (h : w.ownsRow B 5 1 v (l.length + 1) (l.map bytV ++ [.int .u8 (b.toNat : Int)])) : BytsOwn B w v (l ++ [b]) := by
  unfold BytsOwn
  rw [List.length_append, List.map_append]
  exact h
theorem BytsOwn.open {B : Nat} {w : World} {v : Value} {l : List UInt8} (h : BytsOwn B w v l) : ∃ a c, v = .slice a l.length c := by
  obtain ⟨-, ⟨e, h0⟩ | ⟨g, cap, cur, e, -⟩⟩ := h
  · exact ⟨none, 0, by rw [e, h0]⟩
  · exact ⟨_, _, e⟩
theorem conv_none (w : World) : (convert 77 9 (.slice none 0 0)).run Tryz.prog w = .ok (.string ⟨#[]⟩) w := by
  kernel_rfl
theorem BytsOwn.conv {B : Nat} {w : World} {v : Value} {l : List UInt8} (h : BytsOwn B w v l) : (convert 77 9 v).run Tryz.prog w = .ok (.string ⟨l.toArray⟩) w := by
  have hr : w.ownsRow B 5 1 v l.length (l.map bytV) := h
  obtain ⟨-, ⟨e, h0⟩ | ⟨g, cap, cur, e, -⟩⟩ := h
  · have hl : l = [] := List.eq_nil_of_length_eq_zero h0
    subst hl
    rw [e]
    exact conv_none w
  · subst e
    exact run_convert_bytes_back (P := Tryz.prog) w 77 9 5 ⟨g, 0, none⟩ cap l Tryz.underlying77 Tryz.underlying5 Tryz.underlying9 (fun j hj => by
      rw [add_at, Nat.zero_add, hr.cellAt j (by omega)]
      simp [bytV, hj])

set_option maxHeartbeats 8000000 in
set_option maxRecDepth 100000 in
theorem responseOf_any (T : List (List UInt8)) (n m : Nat) (hT : TestRight T n m) (f : Flt) (hf : FltRight n f) (B : Nat) (w : World) (tv nv : Value) (h : StrsAt B w tv T) (hN : NetsAt w nv f.2) :
    Calls Tryz.prog 15 #[tv, .agg #[.int .i64 f.1, nv]] w fun e w' => ∃ v', e = .returned v' ∧ StrsAt w.heap.size w' v' (respL T f m) ∧ Below w.heap.size w w' := by
  obtain ⟨i8, hi8, hy0, hy1, hy2⟩ := info_u8
  obtain ⟨i0, hi, hz0, hz1, hz2⟩ := info_strv
  have hsb := fun i v (hi : i < n) (hv : v < m) W (hB : Below w.heap.size w W) => seenBit_any T n m hT f hf i v hi hv B W tv nv (row_later h hB) (hN.later hB)
  have hbit := fun i v (hi : i < n) (hv : v < m) => seenB_bit hT hf i v hi hv
  obtain ⟨a, c, rfl, hop⟩ := strs_open h
  have hn1 := hT.n1
  have hn2 := hT.n2
  have hm2 := hT.m2
  obtain ⟨W1, hW1⟩ : ∃ W1 : World, W1 = w.alloc (.cells #[.int .i64 f.1, nv] 30) := ⟨_, rfl⟩
  have hs1 : W1.heap.size = w.heap.size + 1 := by rw [hW1]; simp
  have hB1 : Below w.heap.size w W1 := by rw [hW1]; exact (Below.refl _ _).alloc (Nat.le_refl _) _
  have hb0 : W1.cell? ⟨w.heap.size, 0, none⟩ = some (.int .i64 f.1) := by rw [hW1]; simp
  have hb1 : W1.cell? ⟨w.heap.size, 1, none⟩ = some nv := by rw [hW1]; simp
  rw [hT.len] at hop hsb ⊢
  obtain ⟨g, rfl, hg, hcell⟩ := hop (by omega)
  have hstr : ∀ j, j < n → ∃ s : ByteArray, (∀ W, Below w.heap.size w W → W.cell? ⟨g, j, none⟩ = some (.string s)) ∧ s.size = m := fun j hj => by
    refine ⟨⟨(T.getD j []).toArray⟩, fun W hB => (hB.cell (p := ⟨g, j, none⟩) hg).trans (hcell j hj), ?_⟩
    show (T.getD j []).toArray.size = m
    simpa using hT.long j hj
  have hfin : (List.range n).map (respRow T f m) = respL T f m := by unfold respL; rw [hT.len]
  obtain ⟨na, nc, hnv, -⟩ := hN
  obtain ⟨k, l⟩ := f
  dsimp only at hb0 hb1 hsb hbit hW1 hnv ⊢
  generalize l.length = nl at hnv
  subst hnv
  have HH := Lib.hid (⟨hsb, hstr, hB1, hb0, hb1, hs1, hfin, hbit⟩ : _ ∧ _ ∧ _ ∧ _ ∧ _ ∧ _ ∧ _ ∧ _)
  have HW := Lib.hid hW1
  clear hsb hstr hB1 hb0 hb1 hs1 hW1 hfin h hop hcell hT hf hbit
  go_enter Tryz.func15, Tryz.ntmps15
  go_wp2_with fail
  rw [← HW.out]
  go_loopw [5, 11] (fun out ix wr => ∃ i : Nat, i ≤ n ∧ ix = .int .i64 (i : Int) ∧ StrsAt (w.heap.size + 1) wr out ((List.range i).map (respRow T (k, l) m)) ∧ Below (w.heap.size + 1) W1 wr) (fun _ ix _ => n - (intOf ix).toNat)
  case atStart => exact ⟨0, by omega, rfl, World.ownsRow_nil _ _ _ _, Below.refl _ _⟩
  case round =>
    obtain ⟨i, hi', rfl, hout, hB⟩ := hrel
    have hol : ((List.range i).map (respRow T (k, l) m)).length = i := by simp
    obtain ⟨oa, oc, rfl, -⟩ := strs_open hout
    rw [hol]
    by_cases hlt : i < n
    · obtain ⟨wo, rfl⟩ : ∃ wo : World, wo = wr := ⟨_, rfl⟩
      obtain ⟨s, hs1, hs2⟩ := HH.out.2.1 i hlt
      have hBw : Below w.heap.size w wo := HH.out.2.2.1.trans (hB.mono (by omega))
      have c1 := hs1 _ hBw
      have hsz := hB.size
      rw [HH.out.2.2.2.2.2.1] at hsz
      have i0' : (0 : Int) ≤ (i : Int) := by omega
      have i1' : (i : Int) < (n : Int) := by omega
      rw [hol] at hout
      have HR := Lib.hid (⟨hout, hB, hBw, hs1⟩ : _ ∧ _ ∧ _ ∧ _)
      clear hout hB hBw hs1 hol
      go_wp2_with fail
      go_loopw [7, 19] (fun sv jx wr => ∃ v : Nat, v ≤ m ∧ jx = .int .i64 (v : Int) ∧ BytsOwn wo.heap.size wr sv ((List.range v).map (seenB T (k, l) i)) ∧ Below wo.heap.size wo wr) (fun _ jx _ => m - (intOf jx).toNat)
      case atStart => exact ⟨0, by omega, rfl, World.ownsRow_nil _ _ _ _, Below.refl _ _⟩
      case round =>
        obtain ⟨v, hv', rfl, hrow, hBs⟩ := hrel
        have hvl : ((List.range v).map (seenB T (k, l) i)).length = v := by simp
        obtain ⟨va, vc, rfl⟩ := hrow.open
        rw [hvl]
        by_cases hlv : v < m
        · have hB2 : Below w.heap.size w wr := HR.out.2.2.1.trans (hBs.mono (by omega))
          have hB3 : Below (w.heap.size + 1) W1 wr := HR.out.2.1.trans (hBs.mono (by omega))
          have b0 := (hB3.cell (p := ⟨w.heap.size, 0, none⟩) (Nat.lt_succ_self _)).trans HH.out.2.2.2.1
          have b1 := (hB3.cell (p := ⟨w.heap.size, 1, none⟩) (Nat.lt_succ_self _)).trans HH.out.2.2.2.2.1
          have hq := HH.out.1 i v hlt hlv wr hB2
          have hsn : (List.range (v + 1)).map (seenB T (k, l) i) = (List.range v).map (seenB T (k, l) i) ++ [seenB T (k, l) i v] := by rw [List.range_succ, List.map_append]; rfl
          obtain ⟨R, hR⟩ : ∃ R, R = (List.range v).map (seenB T (k, l) i) := ⟨_, rfl⟩
          obtain ⟨bt, hbt⟩ : ∃ b, b = seenB T (k, l) i v := ⟨_, rfl⟩
          rw [← hR, ← hbt] at hsn
          rw [← hR] at hrow hvl
          rw [← hbt] at hq
          have hbn := hBs.size
          have hrow' : wr.ownsRow wo.heap.size 5 1 (.slice va v vc) v (R.map bytV) := by
            have := hrow
            unfold BytsOwn at this
            rw [hvl] at this
            exact this
          have v0 : (0 : Int) ≤ (v : Int) := by omega
          have v1 : (v : Int) < (m : Int) := by omega
          have HS := Lib.hid (⟨hrow', hBs, hsn, hvl⟩ : _ ∧ _ ∧ _ ∧ _)
          clear hrow hrow' hBs hsn hvl hR hbt hB2 hB3
          go_wp2_with fail
          refine hq.mono ?_
          rintro e w5 ⟨rfl, hB5⟩
          have hrow5 := row_later HS.out.1 hB5
          have hBs5 : Below wo.heap.size wo w5 := HS.out.2.1.trans (hB5.mono hbn)
          have hbn5 := hBs5.size
          have H6 := Lib.hid (⟨hrow5, hBs5⟩ : _ ∧ _)
          clear hq hB5 hrow5 hBs5
          go_wp2_with (at_builtin; refine wpList_append_own _ rfl _ _ 77 rfl wo.heap.size 5 i8 (.int .u8 0) 1 1 Tryz.underlying77 hi8 hy0 hy1 hy2 rfl (by decide) _ _ _ rfl (H6.out.1.alloc _) ⟨w5.heap.size, 0, none⟩ 1 1 [.int .u8 (bt.toNat : Int)] rfl rfl ?c1 ?c2 ?c3 ?c4 ?c5 ?_)
          case c1 => exact cell_one_new _ _ _
          case c2 =>
            intro u hu
            simp at hu
            subst hu
            rfl
          case c3 => unfold maxLen; omega
          case c4 => omega
          case c5 => simp; omega
          intro v' w7 hown' hg7 _
          have hB7 : Below wo.heap.size wo w7 := (H6.out.2.alloc (by omega) _).grown hg7 (by simp; omega) (fun j hj => (H6.out.1.lt j hj).1)
          have hN7 : BytsOwn wo.heap.size w7 v' ((List.range (v + 1)).map (seenB T (k, l) i)) := by
            rw [HS.out.2.2.1]
            refine byts_snoc bt ?_
            rw [HS.out.2.2.2]
            exact hown'
          obtain ⟨g9, cap9, rfl⟩ := ownsRow_succ hown'
          have H9 := Lib.hid (⟨hN7, hB7⟩ : _ ∧ _)
          clear hB7 hN7 hown' hg7
          go_wp2_with fail
          go_roundw
          case rel => exact ⟨v + 1, by omega, by go_num, H9.out⟩
          case measure => simp [intOf]; omega
        · obtain rfl : v = m := by omega
          have hcv := hrow.conv
          rw [hvl] at hcv
          obtain ⟨sx, hsx⟩ : ∃ s : ByteArray, s = ⟨((List.range v).map (seenB T (k, l) i)).toArray⟩ := ⟨_, rfl⟩
          rw [← hsx] at hcv
          have hsxl : sx.data.toList = respRow T (k, l) v i := by rw [hsx]; simp [respRow]
          have hrow5 := row_later HR.out.1 hBs
          have hBs5 : Below (w.heap.size + 1) W1 wr := HR.out.2.1.trans (hBs.mono (by omega))
          have hbn5 := hBs.size
          have hrow6 : wr.ownsRow (w.heap.size + 1) 9 1 (.slice oa i oc) i (((List.range i).map (respRow T (k, l) v)).map strV) := by
            have := hrow5
            unfold StrsAt at this
            rw [List.length_map, List.length_range] at this
            exact this
          have hsn : (List.range (i + 1)).map (respRow T (k, l) v) = (List.range i).map (respRow T (k, l) v) ++ [sx.data.toList] := by rw [List.range_succ, List.map_append, hsxl]; rfl
          have H6 := Lib.hid (⟨hrow6, hBs5, hsn⟩ : _ ∧ _ ∧ _)
          clear hrow hBs hvl hsx hsxl hrow5 hBs5 hrow6 hsn
          go_wp2_with (at_builtin; refine wpList_append_own _ rfl _ _ 26 rfl (w.heap.size + 1) 9 i0 (.string ⟨#[]⟩) 1 16 Tryz.underlying26 hi hz0 hz1 hz2 rfl (by decide) _ _ _ rfl (H6.out.1.alloc _) ⟨wr.heap.size, 0, none⟩ 1 1 [.string sx] rfl rfl ?c1 ?c2 ?c3 ?c4 ?c5 ?_)
          case c1 => exact cell_one_new _ _ _
          case c2 => simp [Value.oneCell']
          case c3 => unfold maxLen; omega
          case c4 => omega
          case c5 => simp; omega
          intro v' w7 hown' hg7 _
          have hB7 : Below (w.heap.size + 1) W1 w7 := (H6.out.2.1.alloc (by omega) _).grown hg7 (by simp; omega) (fun j hj => (H6.out.1.lt j hj).1)
          have hN7 : StrsAt (w.heap.size + 1) w7 v' ((List.range (i + 1)).map (respRow T (k, l) v)) := by
            rw [H6.out.2.2]
            refine strs_snocR sx ?_
            rw [List.length_map, List.length_range, List.map_map]
            exact hown'
          obtain ⟨g9, cap9, rfl⟩ := ownsRow_succ hown'
          have H9 := Lib.hid (⟨hN7, hB7⟩ : _ ∧ _)
          clear hB7 hN7 hown' hg7
          go_wp2_with fail
          go_roundw
          case rel => exact ⟨i + 1, by omega, by go_num, H9.out⟩
          case measure => simp [intOf]; omega
    · obtain rfl : i = n := by omega
      have hB9 : Below w.heap.size w wr := HH.out.2.2.1.trans (hB.mono (by omega))
      have hfin9 := row_base hout (show w.heap.size ≤ w.heap.size + 1 by omega)
      rw [HH.out.2.2.2.2.2.2.1] at hfin9
      have hrl : (respL T (k, l) m).length = i := by rw [← HH.out.2.2.2.2.2.2.1]; simp
      rw [hrl] at hfin9
      have H9 := Lib.hid (⟨hfin9, hB9, hrl⟩ : _ ∧ _ ∧ _)
      clear hout hB hB9 hfin9 hol hrl
      go_wp2_with fail
      go_ret
      exact ⟨_, rfl, by unfold StrsAt; rw [H9.out.2.2]; exact H9.out.1, H9.out.2.1⟩
end Go.Proofs.YtgnkihiibednoaaGreatDoor
