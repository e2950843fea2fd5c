/- Package fault: the nets that a fault changes, as a range walks them: changed, detects. -/
import Derived.Test.YtldilggfmclnlaaGreatDoorFtF
import Derived.RangeFuncBox
import Derived.RangeFuncNested
import Derived.RangeFuncBound
import Derived.RangeFuncCalls
import Derived.RangeFuncLeaves
import Derived.Shelf.Abstract
import Derived.Shelf.RegionOpen
import Derived.WalkKit
import Derived.OwnWalkIn
import Derived.TacticsInMore
import Derived.LoopNIn
import Derived.LoopIn
import Derived.OrdersIn
import Derived.RegionIn
namespace Go.Proofs.YtldilggfmclnlaaGreatDoor
open Go.RowKit Go.Shelf

attribute [local go_sem] Oper.semAt_some

theorem region_in {F : Fence} {n : Nat} {P : Program} {ops : Array Oper} {Q : Exit → Act → World → Prop} {id : Nat} {a : Act} {w : World}
    (hm : P.follows .mixedOrders = true) (h : wpAnyIn F n P .any ops Q ops.size (Array.replicate ops.size false) a w.drew) : (Code.region id ops true).wpIn F n P Q a w :=
  wpIn_region_draw fun t => by
    simp only [Region.schedule, hm, Bool.true_or, if_true]
    exact wpAnyIn_sound ops.size t _ a _ h
theorem wpIn_to {F : Fence} {n : Nat} {P : Program} {Q : Exit → Act → World → Prop} {c : Code} {a : Act} {w : World} (fr : Act) (B : World → Prop) (h : c.wpIn F n P (fun e a' w' => e = Exit.normal ∧ a' = fr ∧ B w') a w) (hq : ∀ w', B w' → Q .normal fr w') : c.wpIn F n P Q a w :=
  wpIn_mono h fun e a' w' h => by
    obtain ⟨h1, h2, h3⟩ := h
    subst h1
    subst h2
    exact hq _ h3
/-- A net, and a set of vectors. -/
abbrev XV := { x : Int × Nat // x.2 < 18446744073709551616 }
/-- What the iterator reads: the fault's nets, what they have in common, the sets of all nets. -/
structure ChgC (pf pv pw g o fc gs sc n M m : Nat) (on : List Nat) (f : Flt) (W : World) : Prop where
  nets : W.cell? ⟨pf, 1, none⟩ = some (.slice (some ⟨g, o, none⟩) M fc)
  val : W.cell? ⟨pv, 0, none⟩ = some (.int .u64 (comL m on f : Int))
  sets : W.cell? ⟨pw, 1, none⟩ = some (.slice (some ⟨gs, 0, none⟩) n sc)
  net : ∀ j, j < M → W.cell? ⟨g, o + j, none⟩ = some (.int .i64 (f.2.getD j 0))
  set : ∀ j, j < n → W.cell? ⟨gs, j, none⟩ = some (.int .u64 (on.getD j 0 : Int))
theorem ChgC.keep {pf pv pw g o fc gs sc n M m : Nat} {on : List Nat} {f : Flt} {W W' : World} (h : ChgC pf pv pw g o fc gs sc n M m on f W) (hk : ∀ b, (b = pf ∨ b = pv ∨ b = pw ∨ b = g ∨ b = gs) → ∀ j, W'.cell? ⟨b, j, none⟩ = W.cell? ⟨b, j, none⟩) : ChgC pf pv pw g o fc gs sc n M m on f W' :=
  ⟨(hk pf (by simp) 1).trans h.nets, (hk pv (by simp) 0).trans h.val, (hk pw (by simp) 1).trans h.sets, fun j hj => (hk g (by simp) (o + j)).trans (h.net j hj), fun j hj => (hk gs (by simp) j).trans (h.set j hj)⟩

set_option maxRecDepth 100000 in
set_option maxHeartbeats 4000000 in
theorem changed1_in (F : Fence) (N : Nat) (hF : F.fn 73) (hro : F.round = none) (hN : 1 ≤ N) (l : Nat) (pf pv pw g o fc gs sc n M m : Nat) (on : List Nat) (f : Flt) (hM : M ≤ 6) (hMl : f.2.length = M) (ho : On64 on)
    (hq : ∀ k, k < M → ∃ q : Nat, q < n ∧ f.2.getD k 0 = (q : Int) ∧ (f.2.getD k 0).toNat = q)
    (J Jx : List XV → World → Prop) (hJd : ∀ pre W, J pre W → J pre W.drew)
    (hY : ∀ pre x W, J pre W → pre.length < M → YieldAt F (N - 1) Tryz.prog l #[.int .i64 x.1.1, .int .u64 (x.1.2 : Int)] W fun e W' =>
      (e = .returned (.bool true) ∧ J (pre ++ [x]) W' ∧ (ChgC pf pv pw g o fc gs sc n M m on f W → ChgC pf pv pw g o fc gs sc n M m on f W')) ∨ (e = .returned (.bool false) ∧ Jx (pre ++ [x]) W'))
    (W : World) (hC : ChgC pf pv pw g o fc gs sc n M m on f W) (h0 : J [] W) :
    CallsIn F N Tryz.prog 73 #[.func (.yield l) #[] #[], .pointer (some ⟨pf, 0, none⟩), .pointer (some ⟨pv, 0, none⟩), .pointer (some ⟨pw, 0, none⟩)] W fun e W' => (∃ v, e = .returned v) ∧
      ((∃ xs : List XV, xs.map (·.1) = chgL m on f ∧ J xs W') ∨ (∃ pre, True ∧ Jx pre W')) := by
  have hc0 := hC.nets
  have HH := Lib.hid (⟨hC, h0, hY, hq, hJd, ho, hMl⟩ : _ ∧ _ ∧ _ ∧ _ ∧ _ ∧ _ ∧ _)
  clear hC h0 hY hq hJd ho hMl
  refine callsIn_of_wp Tryz.func73 rfl hF ?_ hro
  simp only [Tryz.ntmps73, List.size_toArray, List.length_cons, List.length_nil, Nat.reduceAdd, Nat.reduceSub, Array.replicate_succ, Array.replicate_zero, List.push_toArray, List.append_toArray, List.nil_append, List.cons_append]
  gi_wp2
  clear hc0
  gi_loopw [11] (fun i wr => ∃ k : Nat, k ≤ M ∧ i = .int .i64 (k : Int) ∧ ∃ pre : List XV, pre.map (·.1) = chgTo m on f k ∧ J pre wr ∧ ChgC pf pv pw g o fc gs sc n M m on f wr) (fun i _ => M - (intOf i).toNat)
  case atStart => exact ⟨0, Nat.zero_le _, rfl, [], rfl, HH.out.2.1, HH.out.1⟩
  case round =>
    obtain ⟨k, hk, rfl, pre, hpre, hJ, hC⟩ := hrel
    by_cases hlt : k < M
    · obtain ⟨q, hqn, hqe, hqq⟩ := HH.out.2.2.2.1 k hlt
      have c1 := hC.net k hlt
      have c2 := hC.val
      have c3 := hC.sets
      have c4 := hC.set q hqn
      rw [hqe] at c1
      have hsu := chgTo_succ m on f k (by have := HH.out.2.2.2.2.2.2; omega)
      rw [hqq, hqe] at hsu
      have hx1 : comL m on f < 18446744073709551616 := comL_lt HH.out.2.2.2.2.2.1
      have hx2 : on.getD q 0 < 18446744073709551616 := HH.out.2.2.2.2.2.1 q
      have hpl := chgTo_le m on f k
      obtain ⟨cv, hcv⟩ : ∃ x, x = comL m on f := ⟨_, rfl⟩
      obtain ⟨xv, hxv⟩ : ∃ x, x = on.getD q 0 := ⟨_, rfl⟩
      rw [← hcv] at c2 hsu hx1
      rw [← hxv] at c4 hsu hx2
      have hxor := u64_xor_nat cv xv hx1 hx2
      obtain ⟨yv, hyv⟩ : ∃ y, y = cv ^^^ xv := ⟨_, rfl⟩
      rw [← hyv] at hxor hsu
      have k0 : (0 : Int) ≤ (k : Int) := by omega
      have k1 : (k : Int) < (M : Int) := by omega
      have j0 : (0 : Int) ≤ (q : Int) := by omega
      have j1 : (q : Int) < (n : Int) := by omega
      have hC' : ChgC pf pv pw g o fc gs sc n M m on f wr.drew := hC.keep fun _ _ _ => rfl
      have hJ' := HH.out.2.2.2.2.1 _ _ hJ
      have hpn : pre.length ≤ k := by
        have e := congrArg List.length hpre
        rw [List.length_map] at e
        omega
      have hyl : yv < 18446744073709551616 := by rw [hyv]; exact xor_lt64 hx1 hx2
      rw [← hpre] at hsu
      have HP := Lib.hid (⟨hJ', hC', hsu⟩ : _ ∧ _ ∧ _)
      clear hJ hC hqe hqq hcv hxv hyv hx1 hx2 hsu hJ' hC' hpre hpl
      by_cases hy0 : yv = 0
      · have n0 : ((yv : Int) != 0) = false := by rw [hy0]; rfl
        have hres : chgTo m on f (k + 1) = pre.map (·.1) := by rw [HP.out.2.2, if_pos hy0]
        have HR := Lib.hid (⟨hres.symm, HP.out.1, HP.out.2.1⟩ : _ ∧ _ ∧ _)
        clear hy0 hres HP
        gi_wp2_with fail
        refine wpIn_to ({ tmps := #[.func (.yield l) #[] #[], .pointer (some ⟨pf, 0, none⟩), .pointer (some ⟨pv, 0, none⟩), .pointer (some ⟨pw, 0, none⟩), undef, undef, .int .i64 (q : Int), .int .u64 (yv : Int), .pointer (some ⟨pf, 1, none⟩), .slice (some ⟨g, o, none⟩) M fc, .int .i64 (M : Int), .int .i64 (k : Int), .bool true, .pointer (some ⟨g, o + k, none⟩), .int .i64 (q : Int), .int .u64 (cv : Int), .pointer (some ⟨pw, 1, none⟩), .slice (some ⟨gs, 0, none⟩) n sc, .int .i64 (q : Int), .pointer (some ⟨gs, q, none⟩), .int .u64 (xv : Int), .int .u64 (yv : Int), u22, u23, u24, u25, u26, u27, u28, u29, u30, u31], defers := [] } : Act) (fun w' => w' = wr.drew) ?reg ?rest
        case reg =>
          refine region_in (by kernel_rfl) ?_
          refine wpAnyIn_take (i := 1) (v := ?_) hro rfl (by kernel_rfl) (by kernel_rfl) (by kernel_rfl) (fun _ _ _ h => by cases h.1) ⟨Or.inl ⟨by rfl, ?_⟩, fun _ => rfl⟩ ?_
          rotate_left
          focus (intro w; go_simp; first | done | with_reducible rfl)
          refine wpAnyIn_take (i := 3) (v := ?_) hro rfl (by kernel_rfl) (by kernel_rfl) (by kernel_rfl) (fun _ _ _ h => by cases h.1) ⟨Or.inl ⟨by rfl, ?_⟩, fun _ => rfl⟩ ?_
          rotate_left
          focus (intro w; go_simp; first | done | with_reducible rfl)
          refine wpAnyIn_ready (rs := [0, 2]) (by kernel_rfl) (by simp) (AllReadyIn.cons rfl (fun K hK => ?_) (AllReadyIn.cons rfl (fun K hK => ?_) AllReadyIn.nil))
          ·
            (go_simp; refine hK _ _ ?_; clear hK K)
            refine wpAnyIn_ready (rs := [2]) (by kernel_rfl) (by simp) (AllReadyIn.cons rfl (fun K hK => ?_) AllReadyIn.nil)
            (go_simp; refine hK _ _ ?_; clear hK K)
            refine wpAnyIn_take (i := 4) (v := ?_) hro rfl (by kernel_rfl) (by kernel_rfl) (by kernel_rfl) (fun _ _ _ h => by cases h.1) ⟨Or.inl ⟨by rfl, ?_⟩, fun _ => rfl⟩ ?_
            rotate_left
            focus (intro w; go_simp; first | done | with_reducible rfl)
            refine wpAnyIn_ready (rs := [5]) (by kernel_rfl) (by simp) (AllReadyIn.cons rfl (fun K hK => ?_) AllReadyIn.nil)
            (go_simp; refine hK _ _ ?_; clear hK K)
            refine wpAnyIn_take (i := 6) (v := ?_) hro rfl (by kernel_rfl) (by kernel_rfl) (by kernel_rfl) (fun _ _ _ h => by cases h.1) ⟨Or.inl ⟨by rfl, ?_⟩, fun _ => rfl⟩ ?_
            rotate_left
            focus (intro w; go_simp; first | done | with_reducible rfl)
            refine wpAnyIn_take (i := 7) (v := ?_) hro rfl (by kernel_rfl) (by kernel_rfl) (by kernel_rfl) (fun _ _ _ h => by cases h.1) ⟨Or.inl ⟨by rfl, ?_⟩, fun _ => rfl⟩ ?_
            rotate_left
            focus (intro w; go_simp; first | done | with_reducible rfl)
            refine wpAnyIn_done (by kernel_rfl) ?_ _
            exact ⟨rfl, rfl, rfl⟩
          ·
            (go_simp; refine hK _ _ ?_; clear hK K)
            refine wpAnyIn_take (i := 4) (v := ?_) hro rfl (by kernel_rfl) (by kernel_rfl) (by kernel_rfl) (fun _ _ _ h => by cases h.1) ⟨Or.inl ⟨by rfl, ?_⟩, fun _ => rfl⟩ ?_
            rotate_left
            focus (intro w; go_simp; first | done | with_reducible rfl)
            refine wpAnyIn_ready (rs := [0, 5]) (by kernel_rfl) (by simp) (AllReadyIn.cons rfl (fun K hK => ?_) (AllReadyIn.cons rfl (fun K hK => ?_) AllReadyIn.nil))
            ·
              (go_simp; refine hK _ _ ?_; clear hK K)
              refine wpAnyIn_ready (rs := [5]) (by kernel_rfl) (by simp) (AllReadyIn.cons rfl (fun K hK => ?_) AllReadyIn.nil)
              (go_simp; refine hK _ _ ?_; clear hK K)
              refine wpAnyIn_take (i := 6) (v := ?_) hro rfl (by kernel_rfl) (by kernel_rfl) (by kernel_rfl) (fun _ _ _ h => by cases h.1) ⟨Or.inl ⟨by rfl, ?_⟩, fun _ => rfl⟩ ?_
              rotate_left
              focus (intro w; go_simp; first | done | with_reducible rfl)
              refine wpAnyIn_take (i := 7) (v := ?_) hro rfl (by kernel_rfl) (by kernel_rfl) (by kernel_rfl) (fun _ _ _ h => by cases h.1) ⟨Or.inl ⟨by rfl, ?_⟩, fun _ => rfl⟩ ?_
              rotate_left
              focus (intro w; go_simp; first | done | with_reducible rfl)
              refine wpAnyIn_done (by kernel_rfl) ?_ _
              exact ⟨rfl, rfl, rfl⟩
            ·
              (go_simp; refine hK _ _ ?_; clear hK K)
              refine wpAnyIn_ready (rs := [0]) (by kernel_rfl) (by simp) (AllReadyIn.cons rfl (fun K hK => ?_) AllReadyIn.nil)
              (go_simp; refine hK _ _ ?_; clear hK K)
              refine wpAnyIn_take (i := 6) (v := ?_) hro rfl (by kernel_rfl) (by kernel_rfl) (by kernel_rfl) (fun _ _ _ h => by cases h.1) ⟨Or.inl ⟨by rfl, ?_⟩, fun _ => rfl⟩ ?_
              rotate_left
              focus (intro w; go_simp; first | done | with_reducible rfl)
              refine wpAnyIn_take (i := 7) (v := ?_) hro rfl (by kernel_rfl) (by kernel_rfl) (by kernel_rfl) (fun _ _ _ h => by cases h.1) ⟨Or.inl ⟨by rfl, ?_⟩, fun _ => rfl⟩ ?_
              rotate_left
              focus (intro w; go_simp; first | done | with_reducible rfl)
              refine wpAnyIn_done (by kernel_rfl) ?_ _
              exact ⟨rfl, rfl, rfl⟩
        case rest =>
          rintro w' rfl
          clear c1 c2 c3 c4 hxor
          gi_wp2
          refine ⟨(fun _ h => by cases h), ?_⟩
          gi_wp2
          go_roundw
          case rel => exact ⟨k + 1, by omega, by go_num, _, HR.out⟩
          case measure => simp [intOf]; omega
      · have n0 : ((yv : Int) != 0) = true := by rw [bne_iff_ne]; omega
        obtain ⟨fn, tmps, assign, body, hy, hY2⟩ := HH.out.2.2.1 pre ⟨((q : Int), yv), hyl⟩ wr.drew HP.out.1 (by omega)
        dsimp only at hy
        have hres : (pre ++ [(⟨((q : Int), yv), hyl⟩ : XV)]).map (·.1) = chgTo m on f (k + 1) := by rw [HP.out.2.2, if_neg hy0, List.map_append]; rfl
        have HR := Lib.hid (⟨hres, HP.out.2.1⟩ : _ ∧ _)
        clear hy0 hres HP
        gi_wp2_with fail
        refine wpIn_to ({ tmps := #[.func (.yield l) #[] #[], .pointer (some ⟨pf, 0, none⟩), .pointer (some ⟨pv, 0, none⟩), .pointer (some ⟨pw, 0, none⟩), undef, undef, .int .i64 (q : Int), .int .u64 (yv : Int), .pointer (some ⟨pf, 1, none⟩), .slice (some ⟨g, o, none⟩) M fc, .int .i64 (M : Int), .int .i64 (k : Int), .bool true, .pointer (some ⟨g, o + k, none⟩), .int .i64 (q : Int), .int .u64 (cv : Int), .pointer (some ⟨pw, 1, none⟩), .slice (some ⟨gs, 0, none⟩) n sc, .int .i64 (q : Int), .pointer (some ⟨gs, q, none⟩), .int .u64 (xv : Int), .int .u64 (yv : Int), u22, u23, u24, u25, u26, u27, u28, u29, u30, u31], defers := [] } : Act) (fun w' => w' = wr.drew) ?reg ?rest
        case reg =>
          refine region_in (by kernel_rfl) ?_
          refine wpAnyIn_take (i := 1) (v := ?_) hro rfl (by kernel_rfl) (by kernel_rfl) (by kernel_rfl) (fun _ _ _ h => by cases h.1) ⟨Or.inl ⟨by rfl, ?_⟩, fun _ => rfl⟩ ?_
          rotate_left
          focus (intro w; go_simp; first | done | with_reducible rfl)
          refine wpAnyIn_take (i := 3) (v := ?_) hro rfl (by kernel_rfl) (by kernel_rfl) (by kernel_rfl) (fun _ _ _ h => by cases h.1) ⟨Or.inl ⟨by rfl, ?_⟩, fun _ => rfl⟩ ?_
          rotate_left
          focus (intro w; go_simp; first | done | with_reducible rfl)
          refine wpAnyIn_ready (rs := [0, 2]) (by kernel_rfl) (by simp) (AllReadyIn.cons rfl (fun K hK => ?_) (AllReadyIn.cons rfl (fun K hK => ?_) AllReadyIn.nil))
          ·
            (go_simp; refine hK _ _ ?_; clear hK K)
            refine wpAnyIn_ready (rs := [2]) (by kernel_rfl) (by simp) (AllReadyIn.cons rfl (fun K hK => ?_) AllReadyIn.nil)
            (go_simp; refine hK _ _ ?_; clear hK K)
            refine wpAnyIn_take (i := 4) (v := ?_) hro rfl (by kernel_rfl) (by kernel_rfl) (by kernel_rfl) (fun _ _ _ h => by cases h.1) ⟨Or.inl ⟨by rfl, ?_⟩, fun _ => rfl⟩ ?_
            rotate_left
            focus (intro w; go_simp; first | done | with_reducible rfl)
            refine wpAnyIn_ready (rs := [5]) (by kernel_rfl) (by simp) (AllReadyIn.cons rfl (fun K hK => ?_) AllReadyIn.nil)
            (go_simp; refine hK _ _ ?_; clear hK K)
            refine wpAnyIn_take (i := 6) (v := ?_) hro rfl (by kernel_rfl) (by kernel_rfl) (by kernel_rfl) (fun _ _ _ h => by cases h.1) ⟨Or.inl ⟨by rfl, ?_⟩, fun _ => rfl⟩ ?_
            rotate_left
            focus (intro w; go_simp; first | done | with_reducible rfl)
            refine wpAnyIn_take (i := 7) (v := ?_) hro rfl (by kernel_rfl) (by kernel_rfl) (by kernel_rfl) (fun _ _ _ h => by cases h.1) ⟨Or.inl ⟨by rfl, ?_⟩, fun _ => rfl⟩ ?_
            rotate_left
            focus (intro w; go_simp; first | done | with_reducible rfl)
            refine wpAnyIn_done (by kernel_rfl) ?_ _
            exact ⟨rfl, rfl, rfl⟩
          ·
            (go_simp; refine hK _ _ ?_; clear hK K)
            refine wpAnyIn_take (i := 4) (v := ?_) hro rfl (by kernel_rfl) (by kernel_rfl) (by kernel_rfl) (fun _ _ _ h => by cases h.1) ⟨Or.inl ⟨by rfl, ?_⟩, fun _ => rfl⟩ ?_
            rotate_left
            focus (intro w; go_simp; first | done | with_reducible rfl)
            refine wpAnyIn_ready (rs := [0, 5]) (by kernel_rfl) (by simp) (AllReadyIn.cons rfl (fun K hK => ?_) (AllReadyIn.cons rfl (fun K hK => ?_) AllReadyIn.nil))
            ·
              (go_simp; refine hK _ _ ?_; clear hK K)
              refine wpAnyIn_ready (rs := [5]) (by kernel_rfl) (by simp) (AllReadyIn.cons rfl (fun K hK => ?_) AllReadyIn.nil)
              (go_simp; refine hK _ _ ?_; clear hK K)
              refine wpAnyIn_take (i := 6) (v := ?_) hro rfl (by kernel_rfl) (by kernel_rfl) (by kernel_rfl) (fun _ _ _ h => by cases h.1) ⟨Or.inl ⟨by rfl, ?_⟩, fun _ => rfl⟩ ?_
              rotate_left
              focus (intro w; go_simp; first | done | with_reducible rfl)
              refine wpAnyIn_take (i := 7) (v := ?_) hro rfl (by kernel_rfl) (by kernel_rfl) (by kernel_rfl) (fun _ _ _ h => by cases h.1) ⟨Or.inl ⟨by rfl, ?_⟩, fun _ => rfl⟩ ?_
              rotate_left
              focus (intro w; go_simp; first | done | with_reducible rfl)
              refine wpAnyIn_done (by kernel_rfl) ?_ _
              exact ⟨rfl, rfl, rfl⟩
            ·
              (go_simp; refine hK _ _ ?_; clear hK K)
              refine wpAnyIn_ready (rs := [0]) (by kernel_rfl) (by simp) (AllReadyIn.cons rfl (fun K hK => ?_) AllReadyIn.nil)
              (go_simp; refine hK _ _ ?_; clear hK K)
              refine wpAnyIn_take (i := 6) (v := ?_) hro rfl (by kernel_rfl) (by kernel_rfl) (by kernel_rfl) (fun _ _ _ h => by cases h.1) ⟨Or.inl ⟨by rfl, ?_⟩, fun _ => rfl⟩ ?_
              rotate_left
              focus (intro w; go_simp; first | done | with_reducible rfl)
              refine wpAnyIn_take (i := 7) (v := ?_) hro rfl (by kernel_rfl) (by kernel_rfl) (by kernel_rfl) (fun _ _ _ h => by cases h.1) ⟨Or.inl ⟨by rfl, ?_⟩, fun _ => rfl⟩ ?_
              rotate_left
              focus (intro w; go_simp; first | done | with_reducible rfl)
              refine wpAnyIn_done (by kernel_rfl) ?_ _
              exact ⟨rfl, rfl, rfl⟩
        case rest =>
          rintro w' rfl
          clear c1 c2 c3 c4 hxor
          gi_wp2
          refine hY2.mono ?_
          rintro e W3 (⟨rfl, hJ3, hk3⟩ | ⟨rfl, hJx3⟩)
          · have hC3 := hk3 HR.out.2
            have HF := Lib.hid (⟨HR.out.1, hJ3, hC3⟩ : _ ∧ _ ∧ _)
            clear hk3 hJ3 hC3
            gi_wp2
            go_roundw
            case rel => exact ⟨k + 1, by omega, by go_num, _, HF.out⟩
            case measure => simp [intOf]; omega
          · gi_wp2
            refine bodyPost_ret (results_none rfl _ _ _) rfl ?_
            exact ⟨⟨_, rfl⟩, .inr ⟨_, trivial, hJx3⟩⟩
    · obtain rfl : k = M := by omega
      have HB := Lib.hid (⟨by rw [hpre, ← HH.out.2.2.2.2.2.2]; rfl, hJ⟩ : pre.map (·.1) = chgL m on f ∧ J pre wr)
      clear hJ hC hpre
      gi_wp2
      go_end0
      exact ⟨⟨_, rfl⟩, .inl ⟨_, HB.out⟩⟩

theorem grownBy_drew (W : World) : W.grownBy W.drew none := ⟨rfl, rfl, rfl, Nat.le_refl _, fun _ _ _ => rfl⟩
theorem changed_stops (F : Fence) (N : Nat) (hF : F.fn 73) (hro : F.round = none) (hN : 1 ≤ N) (pf pv pw g o fc gs sc n M m : Nat) (on : List Nat) (f : Flt) (hM : M ≤ 6) (hMl : f.2.length = M) (ho : On64 on)
    (hq : ∀ k, k < M → ∃ q : Nat, q < n ∧ f.2.getD k 0 = (q : Int) ∧ (f.2.getD k 0).toNat = q) (w : World) (hC : ChgC pf pv pw g o fc gs sc n M m on f w) (hl : ∀ b, (b = pf ∨ b = pv ∨ b = pw ∨ b = g ∨ b = gs) → b < w.heap.size) :
    SeqStopsK F N Tryz.prog 73 #[.pointer (some ⟨pf, 0, none⟩), .pointer (some ⟨pv, 0, none⟩), .pointer (some ⟨pw, 0, none⟩)] (fun x : XV => #[Value.int .i64 x.1.1, Value.int .u64 (x.1.2 : Int)]) (fun W W' => ChgC pf pv pw g o fc gs sc n M m on f W → ChgC pf pv pw g o fc gs sc n M m on f W') (fun xs => xs.map (·.1) = chgL m on f) (fun _ => True) M w := fun l J Jx W hW hJ _ hY h0 =>
  changed1_in F N hF hro hN l pf pv pw g o fc gs sc n M m on f hM hMl ho hq J Jx (fun pre W1 h => hJ pre W1 W1.drew none h (grownBy_drew W1) (fun r e => by cases e)) hY W (hC.keep fun b hb j => hW.cell (p := ⟨b, j, none⟩) (hl b hb)) h0

set_option maxHeartbeats 4000000 in
set_option maxRecDepth 100000 in
theorem fchanged_any (n m : Nat) (hm : m ≤ 64) (on : List Nat) (hol : on.length = n) (ho : On64 on) (f : Flt) (hf : FltRight n f) (w : World) (g o fc gs sc : Nat) (hg : g < w.heap.size) (hgs : gs < w.heap.size) (hfl : f.2.length ≤ fc)
    (hfc : ∀ j, j < f.2.length → w.cell? ⟨g, o + j, none⟩ = some (.int .i64 (f.2.getD j 0))) (hsc : ∀ j, j < n → w.cell? ⟨gs, j, none⟩ = some (.int .u64 (on.getD j 0 : Int))) :
    Calls Tryz.prog 62 #[.agg #[.int .i64 (m : Int), .slice (some ⟨gs, 0, none⟩) n sc], .agg #[.int .i64 f.1, .slice (some ⟨g, o, none⟩) f.2.length fc]] w fun e w' => ∃ pv, e = .returned (.func (.func 73) #[] #[.pointer (some ⟨w.heap.size + 1, 0, none⟩), .pointer (some ⟨pv, 0, none⟩), .pointer (some ⟨w.heap.size, 0, none⟩)]) ∧ w.heap.size + 2 ≤ pv ∧ pv < w'.heap.size ∧ ChgC (w.heap.size + 1) pv w.heap.size g o fc gs sc n f.2.length m on f w' ∧ Below w.heap.size w w' := by
  obtain ⟨W2, hW2⟩ : ∃ W2 : World, W2 = (w.alloc (.cells #[.int .i64 (m : Int), .slice (some ⟨gs, 0, none⟩) n sc] 96)).alloc (.cells #[.int .i64 f.1, .slice (some ⟨g, o, none⟩) f.2.length fc] 92) := ⟨_, rfl⟩
  have hB2 : Below w.heap.size w W2 := by rw [hW2]; exact ((Below.refl _ _).alloc (Nat.le_refl _) _).alloc (by simp) _
  have hs2 : W2.heap.size = w.heap.size + 2 := by rw [hW2]; simp
  have d1 : W2.cell? ⟨w.heap.size + 1, 1, none⟩ = some (.slice (some ⟨g, o, none⟩) f.2.length fc) := by rw [hW2]; simp
  have d2 : W2.cell? ⟨w.heap.size, 1, none⟩ = some (.slice (some ⟨gs, 0, none⟩) n sc) := by rw [hW2]; simp
  have hco := common_ok n m hm on hol ho f hf W2 (.slice (some ⟨gs, 0, none⟩) n sc) (.slice (some ⟨g, o, none⟩) f.2.length fc)
    ⟨_, _, by rw [hol], fun _ => ⟨gs, rfl, Nat.lt_of_lt_of_le hgs hB2.size, fun j hj => (hB2.cell (p := ⟨gs, j, none⟩) hgs).trans (hsc j (by omega))⟩⟩
    ⟨_, _, rfl, hfl, fun _ => ⟨g, o, rfl, Nat.lt_of_lt_of_le hg hB2.size, fun j hj => (hB2.cell (p := ⟨g, o + j, none⟩) hg).trans (hfc j hj)⟩⟩
  have HH := Lib.hid (⟨hB2, hs2, d1, d2, hfc, hsc⟩ : _ ∧ _ ∧ _ ∧ _ ∧ _ ∧ _)
  have HW := Lib.hid hW2
  clear hB2 d1 d2 hfc hsc hW2 hf ho hol hfl
  go_enter Tryz.func62, Tryz.ntmps62
  go_wp2_with fail
  rw [← HW.out]
  refine hco.mono ?_
  rintro e w2 ⟨rfl, hB⟩
  have hB3 : Below w.heap.size w w2 := HH.out.1.trans (hB.mono HH.out.1.size)
  have hsz := hB.size
  have hfin : ChgC (w.heap.size + 1) w2.heap.size w.heap.size g o fc gs sc n f.2.length m on f (w2.alloc (.cells #[.int .u64 (comL m on f : Int)] 60)) := by
    have hx : ∀ b, b < w2.heap.size → ∀ j, (w2.alloc (.cells #[.int .u64 (comL m on f : Int)] 60)).cell? ⟨b, j, none⟩ = w2.cell? ⟨b, j, none⟩ := fun b hb j => ((Below.refl w2.heap.size w2).alloc (Nat.le_refl _) _).cell (p := ⟨b, j, none⟩) hb
    refine ⟨(hx _ (by omega) 1).trans ((hB.cell (p := ⟨w.heap.size + 1, 1, none⟩) (by simp; omega)).trans HH.out.2.2.1), by simp, (hx _ (by omega) 1).trans ((hB.cell (p := ⟨w.heap.size, 1, none⟩) (by simp; omega)).trans HH.out.2.2.2.1), fun j hj => (hx g (by omega) _).trans ((hB3.cell (p := ⟨g, o + j, none⟩) hg).trans (HH.out.2.2.2.2.1 j hj)), fun j hj => (hx gs (by omega) _).trans ((hB3.cell (p := ⟨gs, j, none⟩) hgs).trans (HH.out.2.2.2.2.2 j hj))⟩
  have HF := Lib.hid (⟨hfin, hB3.alloc hB3.size (.cells #[.int .u64 (comL m on f : Int)] 60), by omega⟩ : _ ∧ _ ∧ w.heap.size + 2 ≤ w2.heap.size)
  clear hB hB3 hfin hco
  go_wp2_with fail
  go_ret
  exact ⟨w2.heap.size, rfl, HF.out.2.2, by simp, HF.out.1, HF.out.2.1⟩
end Go.Proofs.YtldilggfmclnlaaGreatDoor
