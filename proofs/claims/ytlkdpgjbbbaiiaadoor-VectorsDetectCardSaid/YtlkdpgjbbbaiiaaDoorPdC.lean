/- Stuck and StuckOf. -/
import Derived.Test.YtlkdpgjbbbaiiaaDoorPdB
namespace Go.Proofs.YtlkdpgjbbbaiiaaDoor
open Go.RowKit

/-- Bit strings of one length. -/
structure Grid (L : List (List UInt8)) (n m : Nat) : Prop where
  len : L.length = n
  long : ∀ k, k < n → (L.getD k []).length = m
  bits : ∀ k, k < n → (L.getD k []).all bitB = true
  n1 : 1 ≤ n
  n2 : n ≤ 100
  m2 : m ≤ 200
theorem gridL_length (S : List (List UInt8)) (long : Nat) : (turnL S long).length = long := by simp [turnL]
theorem turnL_grid (V : List (List UInt8)) (n : Nat) (h1 : 1 ≤ n) (h2 : n ≤ 100) (hz : V.length ≤ 200) (hb : ∀ s, s ∈ V → s.length = n ∧ s.all bitB = true) : Grid (turnL V n) n V.length := by
  have hat : ∀ k, k < n → (turnL V n).getD k [] = V.map fun s => s.getD k 0 := fun k hk => by
    unfold turnL
    simp [List.getD, hk]
  refine ⟨gridL_length V n, fun k hk => by rw [hat k hk, List.length_map], fun k hk => ?_, h1, h2, hz⟩
  rw [hat k hk, List.all_map, List.all_eq_true]
  intro s hs
  have := hb s hs
  exact bit_at this.2 k (by omega)

/-- A sequence that has not both values. -/
def stuckB (l : List UInt8) : Bool := !decide (0 ≤ Lib.indexByte l 48) || !decide (0 ≤ Lib.indexByte l 49)
theorem contains_any (s : ByteArray) (c : UInt8) (w : World) : Calls Tryd.prog 46 #[.string s, .string ⟨#[c]⟩] w fun e w' => e = .returned (.bool (decide (0 ≤ Lib.indexByte s.data.toList c))) ∧ w = w' :=
  (Tryd.strings_Contains_one s c w).mono fun _ _ h => ⟨h.1, h.2.symm⟩
theorem isStuck_any (s : ByteArray) (w : World) : Calls Tryd.prog 35 #[.string s] w fun e w' => e = .returned (.bool (stuckB s.data.toList)) ∧ w = w' := by
  have h0 := Tryd.strings_Contains_one s 48 w
  have h1 := Tryd.strings_Contains_one s 49 w
  unfold stuckB
  cases e0 : decide (0 ≤ Lib.indexByte s.data.toList 48) with
  | false =>
    rw [e0] at h0
    clear h1 e0
    go_enter Tryd.func35, Tryd.ntmps35
    go_wp2_with fail
    refine h0.mono ?_
    rintro e w' ⟨rfl, rfl⟩
    clear h0
    go_wp2_with fail
    go_ret
    exact ⟨rfl, rfl⟩
  | true =>
    rw [e0] at h0
    generalize decide (0 ≤ Lib.indexByte s.data.toList 49) = b1 at h1 ⊢
    clear e0
    go_enter Tryd.func35, Tryd.ntmps35
    go_wp2_with fail
    refine h0.mono ?_
    rintro e w' ⟨rfl, rfl⟩
    clear h0
    go_wp2_with fail
    refine h1.mono ?_
    rintro e w' ⟨rfl, rfl⟩
    clear h1
    go_wp2_with fail
    go_ret
    exact ⟨rfl, rfl⟩
/-- The stuck ones of the first k. -/
def stuckTo (L : List (List UInt8)) (k : Nat) : List Nat := (List.range k).filter fun i => stuckB (L.getD i [])
theorem stuckTo_succ (L : List (List UInt8)) (k : Nat) : stuckTo L (k + 1) = if stuckB (L.getD k []) = true then stuckTo L k ++ [k] else stuckTo L k := by
  unfold stuckTo
  rw [List.range_succ, List.filter_append]
  cases h : stuckB (L.getD k []) with
  | true => rw [if_pos rfl, List.filter_cons, h]; rfl
  | false => rw [if_neg (by decide), List.filter_cons, h]; simp
theorem stuckTo_len (L : List (List UInt8)) (k : Nat) : (stuckTo L k).length ≤ k := by
  unfold stuckTo
  have := List.length_filter_le (fun i => stuckB (L.getD i [])) (List.range k)
  simpa using this
theorem nats_snoc {B : Nat} {w : World} {v' : Value} {l : List Nat} (k : Nat) (h : w.ownsRow B 3 1 v' (l.length + 1) (l.map natV ++ [.int .i64 (k : Int)])) : NatsAt B w v' (l ++ [k]) := by
  unfold NatsAt
  rw [List.length_append, List.map_append]
  exact h
theorem nats_open {B : Nat} {w : World} {v : Value} {l : List Nat} (h : NatsAt B w v l) : ∃ a c, v = .slice a l.length c := by
  obtain ⟨-, ⟨e, h0⟩ | ⟨g, cap, cur, e, -⟩⟩ := h
  · exact ⟨none, 0, by rw [e, h0]⟩
  · exact ⟨_, _, e⟩

set_option maxHeartbeats 4000000 in
set_option maxRecDepth 100000 in
theorem stuck_ok (V : List (List UInt8)) (n : Nat) (h1 : 1 ≤ n) (h2 : n ≤ 100) (hz : V.length ≤ 200) (hb : ∀ s, s ∈ V → s.length = n) (he : vecErr (n : Int) V = 0) (B : Nat) (w : World) (v : Value) (h : StrsAt B w v V) :
    Calls Tryd.prog 8 #[.int .i64 (n : Int), v] w fun e w' => ∃ v', e = .returned (.tuple #[v', .int .i64 0]) ∧ NatsAt w.heap.size w' v' (stuckTo (turnL V n) n) ∧ Below w.heap.size w w' := by
  have hs := sequences_ok V n h1 h2 hz hb he B w v h
  obtain ⟨i0, hi, hz0, hz1, hz2⟩ := info_parts Tryd.infoIntc
  have hlen := gridL_length V n
  obtain ⟨a, c, rfl, -⟩ := strs_open h
  generalize turnL V n = L at hs hlen ⊢
  clear h hb he h1 hz
  go_enter Tryd.func8, Tryd.ntmps8
  go_wp2_with fail
  refine hs.mono ?_
  rintro e w2 ⟨v1, rfl, hS, hB⟩
  clear hs
  obtain ⟨a1, c1, rfl, hop⟩ := strs_open hS
  rw [hlen] at hop ⊢
  have hop2 := Lib.hid hop
  have HB := Lib.hid hB
  clear hop hS hB hlen
  go_wp2_with fail
  go_loopw [8, 22] (fun v i wr => ∃ k : Nat, k ≤ n ∧ i = .int .i64 (k : Int) ∧ NatsAt w2.heap.size wr v (stuckTo L k) ∧ Below w2.heap.size w2 wr) (fun _ i _ => n - (intOf i).toNat)
  case atStart => exact ⟨0, by omega, rfl, World.ownsRow_nil _ _ _ _, Below.refl _ _⟩
  case round =>
    obtain ⟨k, hk, rfl, hown, hB2⟩ := hrel
    obtain ⟨a3, c3, rfl⟩ := nats_open hown
    by_cases hlt : k < n
    · obtain ⟨g, rfl, hg, hcell⟩ := hop2.out (by omega)
      have hc := (hB2.cell (p := ⟨g, k, none⟩) hg).trans (hcell k hlt)
      obtain ⟨s, hsx⟩ : ∃ s : ByteArray, s = ⟨(L.getD k []).toArray⟩ := ⟨_, rfl⟩
      have hw := word_dec _ s hsx
      change _ = some (Value.string ⟨(L.getD k []).toArray⟩) at hc
      rw [← hsx] at hc
      have hst := isStuck_any s wr
      rw [hw.2] at hst
      have hsu := stuckTo_succ L k
      have hsl := stuckTo_len L k
      have hrow : wr.ownsRow w2.heap.size 3 1 (.slice a3 (stuckTo L k).length c3) (stuckTo L k).length ((stuckTo L k).map natV) := hown
      have hb1 := hB2.size
      have i0' : (0 : Int) ≤ (k : Int) := by omega
      have i1 : (k : Int) < (n : Int) := by omega
      clear hcell hsx hown hw
      cases hbt : stuckB (L.getD k []) with
      | true =>
        rw [hbt] at hst
        rw [hbt, if_pos rfl] at hsu
        have HS := Lib.hid (⟨hsu, hB2⟩ : _ ∧ _)
        clear hsu hbt
        generalize stuckTo L k = cs at HS hrow hsl ⊢
        go_wp2_with fail
        refine hst.mono ?_
        rintro e w' ⟨rfl, rfl⟩
        clear hst
        go_wp2_with (at_builtin; refine wpList_append_own _ rfl _ _ 22 rfl w2.heap.size 3 i0 (.int .i64 0) 1 8 Tryd.underlying22 hi hz0 hz1 hz2 rfl (by decide) _ _ _ rfl (hrow.alloc _) ⟨wr.heap.size, 0, none⟩ 1 1 [.int .i64 (k : Int)] rfl rfl ?c1 ?c2 ?c3 ?c4 ?c5 ?_)
        case c1 => exact cell_one_new _ _ _
        case c2 => exact ints_oneCell .i64 [(k : Int)]
        case c3 => unfold maxLen; omega
        case c4 => omega
        case c5 => simp; omega
        intro v' w4 hown' hg4 _
        have hB4 : Below w2.heap.size w2 w4 := (HS.out.2.alloc hb1 _).grown hg4 (by simp; omega) (fun j hj => (hrow.lt j hj).1)
        have hN := nats_snoc k hown'
        rw [← HS.out.1] at hN
        have HN := Lib.hid (⟨hN, hB4⟩ : _ ∧ _)
        obtain ⟨a4, c4, rfl⟩ := nats_open hN
        clear hN hB4 hown' hg4 hrow hB2
        go_wp2_with fail
        go_roundw
        case rel => exact ⟨k + 1, by omega, by go_num, HN.out⟩
        case measure => simp [intOf]; omega
      | false =>
        rw [hbt] at hst
        rw [hbt, if_neg (by decide)] at hsu
        have HS := Lib.hid (⟨hsu, (⟨hrow, hB2⟩ : NatsAt w2.heap.size wr _ (stuckTo L k) ∧ _)⟩ : _ ∧ _)
        clear hsu hbt hrow hB2
        go_wp2_with fail
        refine hst.mono ?_
        rintro e w' ⟨rfl, rfl⟩
        clear hst
        go_wp2_with fail
        go_roundw
        case rel => exact ⟨k + 1, by omega, by go_num, by rw [HS.out.1]; exact HS.out.2⟩
        case measure => simp [intOf]; omega
    · obtain rfl : k = n := by omega
      have HN := Lib.hid (⟨row_base hown HB.out.size, HB.out.trans (hB2.mono HB.out.size)⟩ : _ ∧ _)
      clear hown hB2
      go_wp2_with fail
      go_ret2
      exact ⟨_, rfl, HN.out⟩
set_option maxHeartbeats 4000000 in
set_option maxRecDepth 100000 in
theorem stuckOf_ok (V : List (List UInt8)) (n : Nat) (h1 : 1 ≤ n) (h2 : n ≤ 100) (hz : V.length ≤ 200) (hb : ∀ s, s ∈ V → s.length = n) (B : Nat) (w : World) (v : Value) (h : StrsAt B w v V) :
    Calls Tryd.prog 17 #[.int .i64 (n : Int), v] w fun e w' => ∃ v', e = .returned (v') ∧ NatsAt w.heap.size w' v' (stuckTo (turnL V n) n) ∧ Below w.heap.size w w' := by
  have hs := rsequences_any V n (by omega) (by omega) hb B w v h
  obtain ⟨i0, hi, hz0, hz1, hz2⟩ := info_parts Tryd.infoIntc
  have hlen := gridL_length V n
  obtain ⟨a, c, rfl, -⟩ := strs_open h
  generalize turnL V n = L at hs hlen ⊢
  clear h hb h1 hz
  go_enter Tryd.func17, Tryd.ntmps17
  go_wp2_with fail
  refine hs.mono ?_
  rintro e w2 ⟨v1, rfl, hS, hB⟩
  clear hs
  obtain ⟨a1, c1, rfl, hop⟩ := strs_open hS
  rw [hlen] at hop ⊢
  have hop2 := Lib.hid hop
  have HB := Lib.hid hB
  clear hop hS hB hlen
  go_wp2_with fail
  go_loopw [5, 12] (fun v i wr => ∃ k : Nat, k ≤ n ∧ i = .int .i64 (k : Int) ∧ NatsAt w2.heap.size wr v (stuckTo L k) ∧ Below w2.heap.size w2 wr) (fun _ i _ => n - (intOf i).toNat)
  case atStart => exact ⟨0, by omega, rfl, World.ownsRow_nil _ _ _ _, Below.refl _ _⟩
  case round =>
    obtain ⟨k, hk, rfl, hown, hB2⟩ := hrel
    obtain ⟨a3, c3, rfl⟩ := nats_open hown
    by_cases hlt : k < n
    · obtain ⟨g, rfl, hg, hcell⟩ := hop2.out (by omega)
      have hc := (hB2.cell (p := ⟨g, k, none⟩) hg).trans (hcell k hlt)
      obtain ⟨s, hsx⟩ : ∃ s : ByteArray, s = ⟨(L.getD k []).toArray⟩ := ⟨_, rfl⟩
      have hw := word_dec _ s hsx
      change _ = some (Value.string ⟨(L.getD k []).toArray⟩) at hc
      rw [← hsx] at hc
      have hst := isStuck_any s wr
      rw [hw.2] at hst
      have hsu := stuckTo_succ L k
      have hsl := stuckTo_len L k
      have hrow : wr.ownsRow w2.heap.size 3 1 (.slice a3 (stuckTo L k).length c3) (stuckTo L k).length ((stuckTo L k).map natV) := hown
      have hb1 := hB2.size
      have i0' : (0 : Int) ≤ (k : Int) := by omega
      have i1 : (k : Int) < (n : Int) := by omega
      clear hcell hsx hown hst
      have h0 := fun W => contains_any s 48 W
      have h1c := fun W => contains_any s 49 W
      rw [hw.2] at h0 h1c
      obtain ⟨b0, hb0⟩ : ∃ b, b = decide (0 ≤ Lib.indexByte (L.getD k []) 48) := ⟨_, rfl⟩
      obtain ⟨b1, hb1'⟩ : ∃ b, b = decide (0 ≤ Lib.indexByte (L.getD k []) 49) := ⟨_, rfl⟩
      rw [← hb0] at h0
      rw [← hb1'] at h1c
      have hbt : stuckB (L.getD k []) = (!b0 || !b1) := by unfold stuckB; rw [← hb0, ← hb1']
      rw [hbt] at hsu
      clear hb0 hb1' hbt hw
      have HK := Lib.hid (⟨h0, h1c⟩ : _ ∧ _)
      clear h0 h1c
      have hyes : (!b0 || !b1) = true → True := fun _ => trivial
      clear hyes
      cases b0 with
      | false =>
        replace hsu := hsu.trans (if_pos rfl)
        have HS := Lib.hid (⟨hsu, hB2⟩ : _ ∧ _)
        clear hsu
        generalize stuckTo L k = cs at HS hrow hsl ⊢
        have h0 := HK.out.1
        go_wp2_with fail
        refine (h0 _).mono ?_
        rintro e w' ⟨rfl, rfl⟩
        clear h0
        go_wp2_with (at_builtin; refine wpList_append_own _ rfl _ _ 22 rfl w2.heap.size 3 i0 (.int .i64 0) 1 8 Tryd.underlying22 hi hz0 hz1 hz2 rfl (by decide) _ _ _ rfl (hrow.alloc _) ⟨wr.heap.size, 0, none⟩ 1 1 [.int .i64 (k : Int)] rfl rfl ?c1 ?c2 ?c3 ?c4 ?c5 ?_)
        case c1 => exact cell_one_new _ _ _
        case c2 => exact ints_oneCell .i64 [(k : Int)]
        case c3 => unfold maxLen; omega
        case c4 => omega
        case c5 => simp; omega
        intro v' w4 hown' hg4 _
        have hB4 : Below w2.heap.size w2 w4 := (HS.out.2.alloc hb1 _).grown hg4 (by simp; omega) (fun j hj => (hrow.lt j hj).1)
        have hN := nats_snoc k hown'
        rw [← HS.out.1] at hN
        have HN := Lib.hid (⟨hN, hB4⟩ : _ ∧ _)
        obtain ⟨a4, c4, rfl⟩ := nats_open hN
        clear hN hB4 hown' hg4 hrow hB2
        go_wp2_with fail
        go_roundw
        case rel => exact ⟨k + 1, by omega, by go_num, HN.out⟩
        case measure => simp [intOf]; omega
      | true =>
        cases b1 with
        | false =>
          replace hsu := hsu.trans (if_pos rfl)
          have HS := Lib.hid (⟨hsu, hB2⟩ : _ ∧ _)
          clear hsu
          generalize stuckTo L k = cs at HS hrow hsl ⊢
          have h0 := HK.out.1
          go_wp2_with fail
          refine (h0 _).mono ?_
          rintro e w' ⟨rfl, rfl⟩
          clear h0
          have h1c := HK.out.2
          go_wp2_with fail
          refine (h1c _).mono ?_
          rintro e w' ⟨rfl, rfl⟩
          clear h1c
          go_wp2_with (at_builtin; refine wpList_append_own _ rfl _ _ 22 rfl w2.heap.size 3 i0 (.int .i64 0) 1 8 Tryd.underlying22 hi hz0 hz1 hz2 rfl (by decide) _ _ _ rfl (hrow.alloc _) ⟨wr.heap.size, 0, none⟩ 1 1 [.int .i64 (k : Int)] rfl rfl ?d1 ?d2 ?d3 ?d4 ?d5 ?_)
          case d1 => exact cell_one_new _ _ _
          case d2 => exact ints_oneCell .i64 [(k : Int)]
          case d3 => unfold maxLen; omega
          case d4 => omega
          case d5 => simp; omega
          intro v' w4 hown' hg4 _
          have hB4 : Below w2.heap.size w2 w4 := (HS.out.2.alloc hb1 _).grown hg4 (by simp; omega) (fun j hj => (hrow.lt j hj).1)
          have hN := nats_snoc k hown'
          rw [← HS.out.1] at hN
          have HN := Lib.hid (⟨hN, hB4⟩ : _ ∧ _)
          obtain ⟨a4, c4, rfl⟩ := nats_open hN
          clear hN hB4 hown' hg4 hrow hB2
          go_wp2_with fail
          go_roundw
          case rel => exact ⟨k + 1, by omega, by go_num, HN.out⟩
          case measure => simp [intOf]; omega
        | true =>
          replace hsu := hsu.trans (if_neg (by decide))
          have HS := Lib.hid (⟨hsu, (⟨hrow, hB2⟩ : NatsAt w2.heap.size wr _ (stuckTo L k) ∧ _)⟩ : _ ∧ _)
          clear hsu hrow hB2
          have h0 := HK.out.1
          go_wp2_with fail
          refine (h0 _).mono ?_
          rintro e w' ⟨rfl, rfl⟩
          clear h0
          have h1c := HK.out.2
          go_wp2_with fail
          refine (h1c _).mono ?_
          rintro e w' ⟨rfl, rfl⟩
          clear h1c
          go_wp2_with fail
          go_roundw
          case rel => exact ⟨k + 1, by omega, by go_num, by rw [HS.out.1]; exact HS.out.2⟩
          case measure => simp [intOf]; omega
    · obtain rfl : k = n := by omega
      have HN := Lib.hid (⟨row_base hown HB.out.size, HB.out.trans (hB2.mono HB.out.size)⟩ : _ ∧ _)
      clear hown hB2
      go_wp2_with fail
      go_ret
      exact ⟨_, rfl, HN.out⟩
theorem stuck_bad (S : List (List UInt8)) (nets : Int) (hz : S.length ≤ 1000000) (hb : ∀ k, k < S.length → (S.getD k []).length ≤ 1000000) (he : vecErr nets S ≠ 0) (B : Nat) (w : World) (v : Value) (h : StrsAt B w v S) :
    Calls Tryd.prog 8 #[.int .i64 nets, v] w fun e w' => e = .returned (.tuple #[.slice none 0 0, .int .i64 (vecErr nets S)]) ∧ Below w.heap.size w w' := by
  have hc := sequences_bad S nets hz hb he B w v h
  obtain ⟨a, c, rfl, -⟩ := strs_open h
  generalize vecErr nets S = E at hc he ⊢
  have hne : (E != 0) = true := by simpa using he
  have hne2 : (E == 0) = false := by simpa using he
  clear h hb he
  go_enter Tryd.func8, Tryd.ntmps8
  go_wp2_with fail
  refine hc.mono ?_
  rintro e w' ⟨rfl, hB⟩
  clear hc
  go_wp2_with fail
  go_ret2
  exact ⟨rfl, hB⟩
end Go.Proofs.YtlkdpgjbbbaiiaaDoor
