/- Package pattern's vectorsOf, over each function that is handed to it. -/
import Derived.Test.YtoipgliokelcfaaGreatDoorTurned
namespace Go.Proofs.YtoipgliokelcfaaGreatDoor
open Go.RowKit

theorem str_one (v : Value) (h : ∃ s, v = .string s) : v.cells.size = 1 := by
  obtain ⟨s, rfl⟩ := h
  rfl

set_option maxHeartbeats 2000000 in
set_option maxRecDepth 100000 in
theorem vectorsOfGenerate1_any (nets long : Nat) (hn1 : 1 ≤ nets) (hn2 : nets ≤ 1000) (hl : long ≤ 1000) (S : Nat → List UInt8) (hS : ∀ k, k < nets → (S k).length = long) (w : World) (pc pl : Nat)
    (hseq : ∀ (W : World) (k : Nat), Below w.heap.size w W → k < nets → Calls Tryz.prog 48 #[.int .i64 (k : Int), .pointer (some ⟨pc, 0, none⟩), .pointer (some ⟨pl, 0, none⟩)] W fun e w' => e = .returned (strV (S k)) ∧ Below W.heap.size W w') :
    Calls Tryz.prog 42 #[.int .i64 (nets : Int), .int .i64 (long : Int), .func (.func 48) #[] #[.pointer (some ⟨pc, 0, none⟩), .pointer (some ⟨pl, 0, none⟩)]] w fun e w' => ∃ v', e = .returned v' ∧ StrsAt w.heap.size w' v' (turnL ((List.range nets).map S) long) ∧ Below w.heap.size w w' := by
  obtain ⟨i0, hi, hz0, hz1, hz2⟩ := info_parts Tryz.infoStrv
  have HSQ := Lib.hid hseq
  clear hseq
  go_enter Tryz.func42, Tryz.ntmps42
  go_wp2_with fail
  go_loopw [7, 8, 10] (fun vv _ i wr => ∃ (k : Nat) (v : Value), k ≤ nets ∧ v = vv ∧ i = .int .i64 (k : Int) ∧ StrsAt w.heap.size wr v ((List.range k).map S) ∧ Below w.heap.size w wr) (fun _ _ i _ => nets - (intOf i).toNat)
  case atStart => exact ⟨0, _, by omega, rfl, rfl, World.ownsRow_nil _ _ _ _, Below.refl _ _⟩
  case round =>
    obtain ⟨k, v, hk, rfl, rfl, hown, hB⟩ := hrel
    by_cases hlt : k < nets
    · have hs := HSQ.out wr k hB hlt
      have hsucc : (List.range (k + 1)).map S = (List.range k).map S ++ [S k] := by rw [List.range_succ, List.map_append]; rfl
      have hlen : ((List.range k).map S).length = k := by simp
      have hrow : wr.ownsRow w.heap.size 9 1 v ((List.range k).map S).length (((List.range k).map S).map strV) := hown
      rw [hlen] at hrow
      have HR := Lib.hid hrow
      have HS := Lib.hid hsucc
      clear hown hrow hsucc hlen
      generalize S k = sk at hs HS
      have hb1 := hB.size
      go_wp2_with fail
      refine hs.mono ?_
      rintro e w2 ⟨rfl, hB2⟩
      clear hs
      have hrow2 := row_later HR.out hB2
      have hb2 := hB2.size
      go_wp2_with (at_builtin; refine wpList_append_own _ rfl _ _ 39 rfl w.heap.size 9 i0 (.string ⟨#[]⟩) 1 16 Tryz.underlying39 hi hz0 hz1 hz2 rfl (by decide) _ _ _ rfl (hrow2.alloc _) ⟨w2.heap.size, 0, none⟩ 1 1 [strV sk] rfl rfl ?c1 ?c2 ?c3 ?c4 ?c5 ?_)
      case c1 => exact cell_one_new _ _ _
      case c2 => simp [Value.oneCell']
      case c3 => unfold maxLen; omega
      case c4 => omega
      case c5 => simp; omega
      intro v' w4 hown' hg4 _
      have hBw2 := hB.trans (hB2.mono hb1)
      have hB4 : Below w.heap.size w w4 := (hBw2.alloc (by omega) _).grown hg4 (by simp; omega) (fun j hj => (hrow2.lt j hj).1)
      have HO := Lib.hid (⟨hown', hB4⟩ : _ ∧ _)
      clear hown' hB4 hg4 hBw2 hrow2 hB2
      go_wp2_with fail
      go_roundw
      case rel => exact ⟨k + 1, _, by omega, rfl, by go_num, by rw [HS.out]; unfold StrsAt; have h := HO.out.1; simpa using h, HO.out.2⟩
      case measure => simp [intOf]; omega
    · obtain rfl : k = nets := by omega
      have ht := turned_any ((List.range k).map S) long (by simp; omega) (by simp; omega) hl (fun s hs => by
        obtain ⟨j, hj, rfl⟩ := List.mem_map.1 hs
        exact hS j (List.mem_range.1 hj)) w.heap.size wr v hown
      have hb1 := hB.size
      clear hown
      have HB := Lib.hid hB
      clear hB
      go_wp2_with fail
      refine ht.mono ?_
      rintro e w2 ⟨v', rfl, hS2, hB2⟩
      clear ht
      have HO := Lib.hid (⟨hS2, HB.out.trans (hB2.mono hb1)⟩ : _ ∧ _)
      have hv2 := hS2
      clear hS2 hB2
      obtain ⟨-, ⟨rfl, -⟩ | ⟨g, cap, cur, rfl, -⟩⟩ := hv2
      · go_wp2_with fail
        go_ret
        exact ⟨_, rfl, row_base HO.out.1 hb1, HO.out.2⟩
      · go_wp2_with fail
        go_ret
        exact ⟨_, rfl, row_base HO.out.1 hb1, HO.out.2⟩

set_option maxHeartbeats 2000000 in
set_option maxRecDepth 100000 in
theorem vectorsOfComplemented1_any (nets long : Nat) (hn1 : 1 ≤ nets) (hn2 : nets ≤ 1000) (hl : long ≤ 1000) (S : Nat → List UInt8) (hS : ∀ k, k < nets → (S k).length = long) (w : World) (pl : Nat)
    (hseq : ∀ (W : World) (k : Nat), Below w.heap.size w W → k < nets → Calls Tryz.prog 43 #[.int .i64 (k : Int), .pointer (some ⟨pl, 0, none⟩)] W fun e w' => e = .returned (strV (S k)) ∧ Below W.heap.size W w') :
    Calls Tryz.prog 42 #[.int .i64 (nets : Int), .int .i64 (long : Int), .func (.func 43) #[] #[.pointer (some ⟨pl, 0, none⟩)]] w fun e w' => ∃ v', e = .returned v' ∧ StrsAt w.heap.size w' v' (turnL ((List.range nets).map S) long) ∧ Below w.heap.size w w' := by
  obtain ⟨i0, hi, hz0, hz1, hz2⟩ := info_parts Tryz.infoStrv
  have HSQ := Lib.hid hseq
  clear hseq
  go_enter Tryz.func42, Tryz.ntmps42
  go_wp2_with fail
  go_loopw [7, 8, 10] (fun vv _ i wr => ∃ (k : Nat) (v : Value), k ≤ nets ∧ v = vv ∧ i = .int .i64 (k : Int) ∧ StrsAt w.heap.size wr v ((List.range k).map S) ∧ Below w.heap.size w wr) (fun _ _ i _ => nets - (intOf i).toNat)
  case atStart => exact ⟨0, _, by omega, rfl, rfl, World.ownsRow_nil _ _ _ _, Below.refl _ _⟩
  case round =>
    obtain ⟨k, v, hk, rfl, rfl, hown, hB⟩ := hrel
    by_cases hlt : k < nets
    · have hs := HSQ.out wr k hB hlt
      have hsucc : (List.range (k + 1)).map S = (List.range k).map S ++ [S k] := by rw [List.range_succ, List.map_append]; rfl
      have hlen : ((List.range k).map S).length = k := by simp
      have hrow : wr.ownsRow w.heap.size 9 1 v ((List.range k).map S).length (((List.range k).map S).map strV) := hown
      rw [hlen] at hrow
      have HR := Lib.hid hrow
      have HS := Lib.hid hsucc
      clear hown hrow hsucc hlen
      generalize S k = sk at hs HS
      have hb1 := hB.size
      go_wp2_with fail
      refine hs.mono ?_
      rintro e w2 ⟨rfl, hB2⟩
      clear hs
      have hrow2 := row_later HR.out hB2
      have hb2 := hB2.size
      go_wp2_with (at_builtin; refine wpList_append_own _ rfl _ _ 39 rfl w.heap.size 9 i0 (.string ⟨#[]⟩) 1 16 Tryz.underlying39 hi hz0 hz1 hz2 rfl (by decide) _ _ _ rfl (hrow2.alloc _) ⟨w2.heap.size, 0, none⟩ 1 1 [strV sk] rfl rfl ?c1 ?c2 ?c3 ?c4 ?c5 ?_)
      case c1 => exact cell_one_new _ _ _
      case c2 => simp [Value.oneCell']
      case c3 => unfold maxLen; omega
      case c4 => omega
      case c5 => simp; omega
      intro v' w4 hown' hg4 _
      have hBw2 := hB.trans (hB2.mono hb1)
      have hB4 : Below w.heap.size w w4 := (hBw2.alloc (by omega) _).grown hg4 (by simp; omega) (fun j hj => (hrow2.lt j hj).1)
      have HO := Lib.hid (⟨hown', hB4⟩ : _ ∧ _)
      clear hown' hB4 hg4 hBw2 hrow2 hB2
      go_wp2_with fail
      go_roundw
      case rel => exact ⟨k + 1, _, by omega, rfl, by go_num, by rw [HS.out]; unfold StrsAt; have h := HO.out.1; simpa using h, HO.out.2⟩
      case measure => simp [intOf]; omega
    · obtain rfl : k = nets := by omega
      have ht := turned_any ((List.range k).map S) long (by simp; omega) (by simp; omega) hl (fun s hs => by
        obtain ⟨j, hj, rfl⟩ := List.mem_map.1 hs
        exact hS j (List.mem_range.1 hj)) w.heap.size wr v hown
      have hb1 := hB.size
      clear hown
      have HB := Lib.hid hB
      clear hB
      go_wp2_with fail
      refine ht.mono ?_
      rintro e w2 ⟨v', rfl, hS2, hB2⟩
      clear ht
      have HO := Lib.hid (⟨hS2, HB.out.trans (hB2.mono hb1)⟩ : _ ∧ _)
      have hv2 := hS2
      clear hS2 hB2
      obtain ⟨-, ⟨rfl, -⟩ | ⟨g, cap, cur, rfl, -⟩⟩ := hv2
      · go_wp2_with fail
        go_ret
        exact ⟨_, rfl, row_base HO.out.1 hb1, HO.out.2⟩
      · go_wp2_with fail
        go_ret
        exact ⟨_, rfl, row_base HO.out.1 hb1, HO.out.2⟩

end Go.Proofs.YtoipgliokelcfaaGreatDoor
