/- pairs: all pairs of different numbers below n, as a range walks them. -/
import Derived.Test.YtoipgliokelcfaaGreatDoorPdH
import Derived.RangeFuncBox
import Derived.RangeFuncNested
import Derived.RangeFuncBound
import Derived.RangeFuncCalls
import Derived.RangeFuncLeaves
import Derived.Shelf.Abstract
import Derived.Shelf.RegionOpen
import Derived.WalkKit
import Derived.OwnWalkIn
import Derived.TacticsInMore
import Derived.LoopNIn
import Derived.LoopIn
namespace Go.Proofs.YtoipgliokelcfaaGreatDoor
open Go.RowKit Go.Shelf

attribute [local go_sem] Oper.semAt_some

/-- Two numbers below n, the smaller one first. -/
abbrev PairN (n : Nat) := { x : Nat × Nat // x.1 < x.2 ∧ x.2 < n }
/-- The pairs with a first number, the second one below b. -/
def rowTo (a b : Nat) : List (Nat × Nat) := (List.range b).filterMap fun j => if a < j then some (a, j) else none
theorem rowTo_succ (a b : Nat) (h : a < b) : rowTo a (b + 1) = rowTo a b ++ [(a, b)] := by
  unfold rowTo
  rw [List.range_succ, List.filterMap_append]
  simp [h]
theorem rowTo_none (a b : Nat) (h : b ≤ a + 1) : rowTo a b = [] := by
  unfold rowTo
  rw [List.filterMap_eq_nil_iff]
  intro j hj
  have := List.mem_range.1 hj
  rw [if_neg (by omega)]
theorem rowTo_len (a b : Nat) : (rowTo a b).length ≤ b := by
  unfold rowTo
  have := List.length_filterMap_le (fun j => if a < j then some (a, j) else none) (List.range b)
  simpa using this
/-- The pairs whose first number is below a. -/
def pairsTo (n a : Nat) : List (Nat × Nat) := (List.range a).flatMap fun i => rowTo i n
theorem pairsTo_succ (n a : Nat) : pairsTo n (a + 1) = pairsTo n a ++ rowTo a n := by
  unfold pairsTo
  rw [List.range_succ, List.flatMap_append]
  simp
theorem pairsTo_len (n : Nat) : ∀ a, (pairsTo n a).length ≤ a * n
  | 0 => Nat.zero_le _
  | a + 1 => by
    have h1 := pairsTo_len n a
    have h2 := rowTo_len a n
    rw [pairsTo_succ, List.length_append, Nat.add_mul]
    omega
/-- The number can be read. -/
def NumBox (Bs n : Nat) (W : World) : Prop := W.cell? ⟨Bs, 0, none⟩ = some (.int .i64 (n : Int))

set_option maxRecDepth 100000 in
set_option maxHeartbeats 4000000 in
theorem pairs1_in (F : Fence) (m : Nat) (hF : F.fn 122) (hro : F.round = none) (hn : 1 ≤ m) (l Bs n : Nat) (hlen : n ≤ 1000) (J Jx : List (PairN n) → World → Prop)
    (hY : ∀ pre x W, J pre W → pre.length < n * n → YieldAt F (m - 1) Tryz.prog l #[.int .i64 (x.1.1 : Int), .int .i64 (x.1.2 : Int)] W fun e W' =>
      (e = .returned (.bool true) ∧ J (pre ++ [x]) W' ∧ (NumBox Bs n W → NumBox Bs n W')) ∨ (e = .returned (.bool false) ∧ Jx (pre ++ [x]) W'))
    (W : World) (hR : NumBox Bs n W) (h0 : J [] W) :
    CallsIn F m Tryz.prog 122 #[.func (.yield l) #[] #[], .pointer (some ⟨Bs, 0, none⟩)] W fun e W' => (∃ v, e = .returned v) ∧
      ((∃ xs : List (PairN n), xs.map (·.1) = pairsTo n n ∧ J xs W') ∨ (∃ pre, True ∧ Jx pre W')) := by
  have hc0 : W.cell? ⟨Bs, 0, none⟩ = some (.int .i64 (n : Int)) := hR
  have HR := Lib.hid (⟨hR, h0, hY⟩ : _ ∧ _ ∧ _)
  clear hR h0 hY
  refine callsIn_of_wp Tryz.func122 rfl hF ?_ hro
  simp only [Tryz.ntmps122, List.size_toArray, List.length_cons, List.length_nil, Nat.reduceAdd, Nat.reduceSub, Array.replicate_succ, Array.replicate_zero, List.push_toArray, List.append_toArray, List.nil_append, List.cons_append]
  gi_wp2
  clear hc0
  gi_loopw [6] (fun i wr => ∃ a : Nat, a ≤ n ∧ i = .int .i64 (a : Int) ∧ ∃ pre : List (PairN n), pre.map (·.1) = pairsTo n a ∧ J pre wr ∧ NumBox Bs n wr) (fun i _ => n - (intOf i).toNat)
  case atStart => exact ⟨0, Nat.zero_le _, rfl, [], rfl, HR.out.2.1, HR.out.1⟩
  case round =>
    obtain ⟨a, ha, rfl, pre, hpre, hJ, hB⟩ := hrel
    by_cases hlt : a < n
    · have a0 : (0 : Int) ≤ (a : Int) := by omega
      have a1 : (a : Int) < (n : Int) := by omega
      have HP := Lib.hid (⟨hpre, hJ, hB⟩ : _ ∧ _ ∧ _)
      clear hpre hJ hB
      gi_wp2
      gi_loopw [4] (fun i wr => ∃ b : Nat, a + 1 ≤ b ∧ b ≤ n ∧ i = .int .i64 (b : Int) ∧ ∃ pre : List (PairN n), pre.map (·.1) = pairsTo n a ++ rowTo a b ∧ J pre wr ∧ NumBox Bs n wr) (fun i _ => n - (intOf i).toNat)
      case atStart => exact ⟨a + 1, by omega, by omega, by go_num, pre, by rw [rowTo_none a (a + 1) (Nat.le_refl _), List.append_nil]; exact HP.out.1, HP.out.2⟩
      case round =>
        obtain ⟨b, hb1, hb2, rfl, pre2, hpre2, hJ2, hB2⟩ := hrel
        have hc1 : wr.cell? ⟨Bs, 0, none⟩ = some (.int .i64 (n : Int)) := hB2
        by_cases hltb : b < n
        · have hpl : pre2.length < n * n := by
            have e := congrArg List.length hpre2
            rw [List.length_map, List.length_append] at e
            have h1 := pairsTo_len n a
            have h2 := rowTo_len a b
            have h3 : (a + 1) * n ≤ n * n := Nat.mul_le_mul_right _ (by omega)
            rw [Nat.add_mul] at h3
            omega
          obtain ⟨fn, tmps, assign, body, hy, hY2⟩ := HR.out.2.2 pre2 ⟨(a, b), by omega, hltb⟩ wr hJ2 hpl
          dsimp only at hy
          have b0 : (0 : Int) ≤ (b : Int) := by omega
          have b1 : (b : Int) < (n : Int) := by omega
          have HB := Lib.hid (⟨hpre2, hB2⟩ : _ ∧ _)
          clear hpre2 hB2 hJ2
          gi_wp2
          refine hY2.mono ?_
          rintro e W3 (⟨rfl, hJ3, hk3⟩ | ⟨rfl, hJx3⟩)
          · have hB3 := hk3 HB.out.2
            have HF := Lib.hid (⟨hJ3, hB3⟩ : _ ∧ _)
            clear hk3 hJ3 hB3 hc1
            gi_wp2
            go_roundw
            case rel =>
              refine ⟨b + 1, by omega, by omega, by go_num, pre2 ++ [⟨(a, b), by omega, hltb⟩], ?_, HF.out⟩
              rw [List.map_append, HB.out.1, rowTo_succ a b (by omega), List.append_assoc]
              rfl
            case measure => simp [intOf]; omega
          · gi_wp2
            refine bodyPost_ret (results_none rfl _ _ _) rfl ?_
            exact ⟨⟨_, rfl⟩, .inr ⟨_, trivial, hJx3⟩⟩
        · obtain rfl : b = n := by omega
          have HB := Lib.hid (⟨hpre2, hJ2, hB2⟩ : _ ∧ _ ∧ _)
          clear hpre2 hB2 hJ2
          gi_wp2
          clear hc1
          go_roundw
          case rel => exact ⟨a + 1, by omega, by go_num, pre2, by rw [pairsTo_succ]; exact HB.out.1, HB.out.2⟩
          case measure => simp [intOf]; omega
    · obtain rfl : a = n := by omega
      have HP := Lib.hid (⟨hpre, hJ, hB⟩ : _ ∧ _ ∧ _)
      clear hpre hJ hB
      gi_wp2
      go_end0
      exact ⟨⟨_, rfl⟩, .inl ⟨_, HP.out.1, HP.out.2.1⟩⟩

theorem pairs_in (F : Fence) (m : Nat) (hF : F.fn 88) (hro : F.round = none) (n : Int) (w : World) :
    CallsIn F m Tryz.prog 88 #[.int .i64 n] w fun e w' => e = .returned (.func (.func 122) #[] #[.pointer (some ⟨w.heap.size, 0, none⟩)]) ∧ w' = w.alloc (.cells #[.int .i64 n] 3) := by
  refine callsIn_of_wp Tryz.func88 rfl hF ?_ hro
  simp only [Tryz.ntmps88, List.size_toArray, List.length_cons, List.length_nil, Nat.reduceAdd, Nat.reduceSub, Array.replicate_succ, Array.replicate_zero, List.push_toArray, List.append_toArray, List.nil_append, List.cons_append]
  gi_wp2
  go_ret
  exact ⟨rfl, rfl⟩

/-- The pairs come in their order. -/
theorem pairs_stops (F : Fence) (m : Nat) (hF : F.fn 122) (hro : F.round = none) (hm : 1 ≤ m) (Bs n : Nat) (hlen : n ≤ 1000) (w : World) (hBs : Bs < w.heap.size) (hR : NumBox Bs n w) :
    SeqStopsK F m Tryz.prog 122 #[.pointer (some ⟨Bs, 0, none⟩)] (fun x : PairN n => #[Value.int .i64 (x.1.1 : Int), Value.int .i64 (x.1.2 : Int)]) (fun W W' => NumBox Bs n W → NumBox Bs n W') (fun xs => xs.map (·.1) = pairsTo n n) (fun _ => True) (n * n) w := fun l J Jx W hW _ _ hY h0 =>
  pairs1_in F m hF hro hm l Bs n hlen J Jx hY W ((hW.cell (p := ⟨Bs, 0, none⟩) hBs).trans hR) h0
end Go.Proofs.YtoipgliokelcfaaGreatDoor
