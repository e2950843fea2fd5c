/- slices.Backward over bytes, as a range walks it: the index goes down, whatever the rounds write into the bytes. -/
import Derived.RangeFuncBox
import Derived.RangeFuncNested
import Derived.RangeFuncBound
import Derived.RangeFuncCalls
import Derived.RangeFuncLeaves
import Derived.Shelf.Abstract
import Derived.Shelf.RegionOpen
import Derived.WalkKit
import Derived.OwnWalkIn
import Derived.TacticsInMore
import Derived.LoopNIn
import Derived.LoopIn
import Derived.Test.YtoipgliokelcfaaGreatDoorProg
import Derived.Lib.Hide
namespace Go.Proofs.YtoipgliokelcfaaGreatDoor
open Go.RowKit Go.Shelf

attribute [local go_sem] Oper.semAt_some

/-- An index of so many bytes, and a byte. -/
abbrev Ixb (len : Nat) := { x : Nat × Int // x.1 < len }
/-- The bytes can be read: the slice in block Bs, in block g. -/
def Byt (Bs g len cap : Nat) (W : World) : Prop := W.cell? ⟨Bs, 0, none⟩ = some (.slice (some ⟨g, 0, none⟩) len cap) ∧ ∀ j, j < len → ∃ v : Int, W.cell? ⟨g, j, none⟩ = some (.int .u8 v)
/-- The first k indices that come, going down. -/
def downTo (len k : Nat) : List Nat := (List.range k).map fun j => len - 1 - j
theorem downTo_succ (len k : Nat) : downTo len (k + 1) = downTo len k ++ [len - 1 - k] := by
  unfold downTo
  rw [List.range_succ, List.map_append]
  rfl
theorem downTo_len (len k : Nat) : (downTo len k).length = k := by simp [downTo]

set_option maxRecDepth 100000 in
set_option maxHeartbeats 2000000 in
theorem backward1_in (F : Fence) (n : Nat) (hF : F.fn 112) (hro : F.round = none) (hn : 1 ≤ n) (l Bs g len cap : Nat) (hlen : len ≤ 1000) (J Jx : List (Ixb len) → World → Prop)
    (hY : ∀ pre x W, J pre W → pre.length < len → YieldAt F (n - 1) Tryz.prog l #[.int .i64 (x.1.1 : Int), .int .u8 x.1.2] W fun e W' =>
      (e = .returned (.bool true) ∧ J (pre ++ [x]) W' ∧ (Byt Bs g len cap W → Byt Bs g len cap W')) ∨ (e = .returned (.bool false) ∧ Jx (pre ++ [x]) W'))
    (W : World) (hR : Byt Bs g len cap W) (h0 : J [] W) :
    CallsIn F n Tryz.prog 112 #[.func (.yield l) #[] #[], .pointer (some ⟨Bs, 0, none⟩)] W fun e W' => (∃ v, e = .returned v) ∧
      ((∃ xs : List (Ixb len), xs.map (·.1.1) = downTo len len ∧ J xs W') ∨ (∃ pre, True ∧ Jx pre W')) := by
  have hBs := hR.1
  refine callsIn_of_wp Tryz.func112 rfl hF ?_ hro
  simp only [Tryz.ntmps112, List.size_toArray, List.length_cons, List.length_nil, Nat.reduceAdd, Nat.reduceSub, Array.replicate_succ, Array.replicate_zero, List.push_toArray, List.append_toArray, List.nil_append, List.cons_append]
  gi_wp2
  gi_loopw [3] (fun i wr => ∃ k : Nat, k ≤ len ∧ i = .int .i64 ((len : Int) - 1 - (k : Int)) ∧ ∃ pre : List (Ixb len), pre.map (·.1.1) = downTo len k ∧ J pre wr ∧ Byt Bs g len cap wr)
    (fun i _ => (intOf i + 1).toNat)
  case atStart => exact ⟨0, Nat.zero_le _, by simp, [], rfl, h0, hR⟩
  case round =>
    obtain ⟨k, hk, rfl, pre, hpre, hJs, hB⟩ := hrel
    by_cases hlt : k < len
    · have hc0 := hB.1
      obtain ⟨v, hv⟩ := hB.2 (len - 1 - k) (by omega)
      have hpl : pre.length = k := by
        have := congrArg List.length hpre
        rw [List.length_map, downTo_len] at this
        exact this
      obtain ⟨i, hi⟩ : ∃ i : Nat, i = len - 1 - k := ⟨_, rfl⟩
      have hii : (len : Int) - 1 - (k : Int) = (i : Int) := by omega
      rw [← hi] at hv
      rw [hii]
      have hil : i < len := by omega
      have hpk : pre.length < len := by omega
      obtain ⟨fn, tmps, assign, body, hy, hY2⟩ := hY pre ⟨(i, v), hil⟩ wr hJs hpk
      dsimp only at hy
      have hi0 : (0 : Int) ≤ (i : Int) := by omega
      have HB := Lib.hid hB
      have HI := Lib.hid hi
      have HP := Lib.hid hpre
      clear hBs hR h0 hii hi hpre hB hJs hpl
      gi_wp2
      refine hY2.mono ?_
      rintro e W3 (⟨rfl, hJ3, hk3⟩ | ⟨rfl, hJx3⟩)
      · have hB3 := Lib.hid (hk3 HB.out)
        clear hk3
        gi_wp2
        go_roundw
        case rel =>
          have := HI.out
          refine ⟨k + 1, by omega, ?_, pre ++ [⟨(i, v), hil⟩], ?_, hJ3, hB3.out⟩
          · exact congrArg (Value.int .i64) (by omega)
          · rw [List.map_append, HP.out, downTo_succ, ← this]
            rfl
        case measure => simp [intOf]
      · gi_wp2
        refine bodyPost_ret (results_none rfl _ _ _) rfl ?_
        exact ⟨⟨_, rfl⟩, .inr ⟨_, trivial, hJx3⟩⟩
    · obtain rfl : k = len := by omega
      have e1 : (k : Int) - 1 - (k : Int) = -1 := by omega
      rw [e1]
      clear e1 hBs hR h0
      have HP := Lib.hid hpre
      clear hpre hB
      gi_wp2
      go_end0
      exact ⟨⟨_, rfl⟩, .inl ⟨_, HP.out, hJs⟩⟩

theorem backward_in (F : Fence) (n : Nat) (hF : F.fn 77) (hro : F.round = none) (a : Option Addr) (len cap : Nat) (w : World) :
    CallsIn F n Tryz.prog 77 #[.slice a len cap] w fun e w' => e = .returned (.func (.func 112) #[] #[.pointer (some ⟨w.heap.size, 0, none⟩)]) ∧ w' = w.alloc (.cells #[.slice a len cap] 65) := by
  refine callsIn_of_wp Tryz.func77 rfl hF ?_ hro
  simp only [Tryz.ntmps77, List.size_toArray, List.length_cons, List.length_nil, Nat.reduceAdd, Nat.reduceSub, Array.replicate_succ, Array.replicate_zero, List.push_toArray, List.append_toArray, List.nil_append, List.cons_append]
  gi_wp2
  go_ret
  exact ⟨rfl, rfl⟩

/-- The indices come, the last one first. -/
theorem backward_stops (F : Fence) (n : Nat) (hF : F.fn 112) (hro : F.round = none) (hn : 1 ≤ n) (Bs g len cap : Nat) (hlen : len ≤ 1000) (w : World) (hBs : Bs < w.heap.size) (hg : g < w.heap.size) (hR : Byt Bs g len cap w) :
    SeqStopsK F n Tryz.prog 112 #[.pointer (some ⟨Bs, 0, none⟩)] (fun x : Ixb len => #[Value.int .i64 (x.1.1 : Int), Value.int .u8 x.1.2]) (fun W W' => Byt Bs g len cap W → Byt Bs g len cap W') (fun xs => xs.map (·.1.1) = downTo len len) (fun _ => True) len w := fun l J Jx W hW _ _ hY h0 =>
  backward1_in F n hF hro hn l Bs g len cap hlen J Jx hY W ⟨(hW.cell (p := ⟨Bs, 0, none⟩) hBs).trans hR.1, fun j hj => by
    obtain ⟨v, hv⟩ := hR.2 j hj
    exact ⟨v, (hW.cell (p := ⟨g, j, none⟩) hg).trans hv⟩⟩ h0
end Go.Proofs.YtoipgliokelcfaaGreatDoor
