/- Package fault: which vectors detect a fault: detects. -/
import Derived.Test.YtldilggfmclnlaaGreatDoorFtG
namespace Go.Proofs.YtldilggfmclnlaaGreatDoor
open Go.RowKit Go.Shelf

attribute [local go_sem] Oper.semAt_some

theorem box_own {W W' : World} {row : Option Nat} {B : Nat} {t : TypeId} {v : Value} (h : Boxed W B t v) (hg : W.grownBy W' row) (hr : ∀ r, row = some r → ∃ o : Obj, W.heap[r]? = some o ∧ o.isCells = false) : Boxed W' B t v :=
  h.kept hg (fun e => by
    obtain ⟨o, ho, hc⟩ := hr B e.symm
    rw [show W.heap[B]? = _ from h] at ho
    cases ho
    cases hc)

set_option maxHeartbeats 4000000 in
set_option maxRecDepth 100000 in
theorem detects_any (n m : Nat) (hm : m ≤ 64) (on : List Nat) (hol : on.length = n) (ho : On64 on) (f : Flt) (hf : FltRight n f) (w : World) (g o fc gs sc : Nat) (hg : g < w.heap.size) (hgs : gs < w.heap.size) (hfl : f.2.length ≤ fc)
    (hfc : ∀ j, j < f.2.length → w.cell? ⟨g, o + j, none⟩ = some (.int .i64 (f.2.getD j 0))) (hsc : ∀ j, j < n → w.cell? ⟨gs, j, none⟩ = some (.int .u64 (on.getD j 0 : Int))) :
    Calls Tryz.prog 49 #[.agg #[.int .i64 (m : Int), .slice (some ⟨gs, 0, none⟩) n sc], .agg #[.int .i64 f.1, .slice (some ⟨g, o, none⟩) f.2.length fc]] w fun e w' => e = .returned (.int .u64 (detN m on f : Int)) ∧ Below w.heap.size w w' := by
  have hM := hf.l2
  have hq : ∀ k, k < f.2.length → ∃ q : Nat, q < n ∧ f.2.getD k 0 = (q : Int) ∧ (f.2.getD k 0).toNat = q := fun k hk => by
    have h1 := hf.low k hk
    have h2 := hf.high k hk
    exact ⟨(f.2.getD k 0).toNat, by omega, by omega, rfl⟩
  obtain ⟨W3, hW3⟩ : ∃ W3 : World, W3 = ((w.alloc (.cells #[.int .i64 (m : Int), .slice (some ⟨gs, 0, none⟩) n sc] 96)).alloc (.cells #[.int .i64 f.1, .slice (some ⟨g, o, none⟩) f.2.length fc] 92)).alloc (.cells #[.int .u64 0] 60) := ⟨_, rfl⟩
  have hB3 : Below w.heap.size w W3 := by rw [hW3]; exact (((Below.refl _ _).alloc (Nat.le_refl _) _).alloc (by simp) _).alloc (by simp; omega) _
  have hs3 : W3.heap.size = w.heap.size + 3 := by rw [hW3]; simp
  have hpa : Boxed W3 (w.heap.size + 2) 60 (.int .u64 0) := by
    rw [hW3]
    have h := Boxed.new ((w.alloc (.cells #[.int .i64 (m : Int), .slice (some ⟨gs, 0, none⟩) n sc] 96)).alloc (.cells #[.int .i64 f.1, .slice (some ⟨g, o, none⟩) f.2.length fc] 92)) 60 (.int .u64 0)
    simp only [World.size_alloc] at h
    exact h
  have hch := fchanged_any n m hm on hol ho f hf W3 g o fc gs sc (by omega) (by omega) hfl (fun j hj => (hB3.cell (p := ⟨g, o + j, none⟩) hg).trans (hfc j hj)) (fun j hj => (hB3.cell (p := ⟨gs, j, none⟩) hgs).trans (hsc j hj))
  have HH := Lib.hid (⟨hB3, hpa, hq, ho⟩ : _ ∧ _ ∧ _ ∧ _)
  have HW := Lib.hid hW3
  clear hB3 hpa hq hW3 hf ho hol hfl hfc hsc
  refine (callsIn_wide (n := 9)).1 ?_
  refine callsIn_of_wp_marks Tryz.func49 rfl trivial ?_ rfl
  simp only [Tryz.ntmps49, List.size_toArray, List.length_cons, List.length_nil, Nat.reduceAdd, Nat.reduceSub, Array.replicate_succ, Array.replicate_zero, List.push_toArray, List.append_toArray, List.nil_append, List.cons_append]
  gi_wp2_with (refine ⟨trivial, ?_⟩; gi_at_call 62)
  rw [← HW.out]
  refine (callsIn_wide.2 hch).mono ?_
  rintro e w4 ⟨pv, rfl, hpv1, hpv2, hC, hB4⟩
  clear hch
  rw [hs3] at hC hpv1 ⊢
  have hpa4 : Boxed w4 (w.heap.size + 2) 60 (.int .u64 0) := (hB4.block _ HH.out.2.1.lt).trans HH.out.2.1
  have hBw : Below w.heap.size w w4 := HH.out.1.trans (hB4.mono HH.out.1.size)
  have hsz4 := hB4.size
  have HB := Lib.hid hBw
  have HC := Lib.hid hC
  gi_wp2_with fail
  refine wpIn_rangeFunc_ownF rfl (by decide) (gf := 73) (lb := #[.pointer (some ⟨w.heap.size + 3 + 1, 0, none⟩), .pointer (some ⟨pv, 0, none⟩), .pointer (some ⟨w.heap.size + 3, 0, none⟩)]) rfl trivial (enters_of Tryz.func73 (by kernel_rfl) rfl)
    (changed_stops Fence.wide 8 trivial rfl (by decide) (w.heap.size + 3 + 1) pv (w.heap.size + 3) g o fc gs sc n f.2.length m on f hM rfl HH.out.2.2.2 HH.out.2.2.1 w4 hC (fun b hb => by rcases hb with rfl | rfl | rfl | rfl | rfl <;> omega))
    (fun h k r => k (h r))
    (fun W l o' o'' hl ho hc hw hR => hR.keep fun b hb j => by
      have hbl : b < w4.heap.size := by rcases hb with rfl | rfl | rfl | rfl | rfl <;> omega
      rw [World.cell?_of_block]
      exact World.putObj_heap_other (by show b ≠ l; omega))
    (Below.refl _ _) (fun _ => rfl)
    (fun pre W => Boxed W (w.heap.size + 2) 60 (.int .u64 (orL (pre.map (·.1)) : Int)) ∧ Below w.heap.size w W)
    (fun _ _ _ => False)
    (OwnFrom.and (Own.from (I := fun (pre : List XV) W => Boxed W (w.heap.size + 2) 60 (.int .u64 (orL (pre.map (·.1)) : Int))) (fun s A B row hs hg hr => box_own hs hg hr) _) (ownFrom_below (Nat.le_refl _) (by omega)))
    (fun _ _ _ _ _ hs _ _ => hs)
    ⟨hpa4, hBw⟩
    (fun x => { tmps := #[.agg #[.int .i64 (m : Int), .slice (some ⟨gs, 0, none⟩) n sc], .agg #[.int .i64 f.1, .slice (some ⟨g, o, none⟩) f.2.length fc], .pointer (some ⟨w.heap.size, 0, none⟩), .pointer (some ⟨w.heap.size + 1, 0, none⟩), .int .u64 0, .pointer (some ⟨w.heap.size + 2, 0, none⟩), undef, .int .u64 (x.1.2 : Int), .agg #[.int .i64 (m : Int), .slice (some ⟨gs, 0, none⟩) n sc], .agg #[.int .i64 f.1, .slice (some ⟨g, o, none⟩) f.2.length fc], .func (.func 73) #[] #[.pointer (some ⟨w.heap.size + 3 + 1, 0, none⟩), .pointer (some ⟨pv, 0, none⟩), .pointer (some ⟨w.heap.size + 3, 0, none⟩)], .int .i64 x.1.1, .int .u64 (x.1.2 : Int), undef, undef, undef, undef], defers := [] }) ?assign ?body ?done ?stop
  case assign =>
    intro l x W K hK
    gi_wp2
    exact hK
  case body =>
    rintro l pre ⟨⟨net, vec⟩, hvec⟩ W ⟨hbx, hBW⟩ hlt
    dsimp only at hvec
    have hov : orL (pre.map (·.1)) < 18446744073709551616 := orL_lt _ fun x hx => by
      obtain ⟨y, -, rfl⟩ := List.mem_map.1 hx
      exact y.2
    have hsn : orL ((pre ++ [(⟨(net, vec), hvec⟩ : XV)]).map (·.1)) = orL (pre.map (·.1)) ||| vec := by
      rw [List.map_append, List.map_singleton, orL_snoc]
    obtain ⟨ov, hovv⟩ : ∃ x, x = orL (pre.map (·.1)) := ⟨_, rfl⟩
    rw [← hovv] at hbx hov hsn
    have hor := u64_or_nat ov vec hov hvec
    have hc5 := hbx.cell
    have hf5 := hbx.frozen
    have hbx2 := hbx.set (.int .u64 ((ov ||| vec : Nat) : Int))
    have hfin : KeepsOthers W (W.setCell ⟨w.heap.size + 2, 0, none⟩ (.int .u64 ((ov ||| vec : Nat) : Int))) ∧ (ChgC (w.heap.size + 3 + 1) pv (w.heap.size + 3) g o fc gs sc n f.2.length m on f W → ChgC (w.heap.size + 3 + 1) pv (w.heap.size + 3) g o fc gs sc n f.2.length m on f (W.setCell ⟨w.heap.size + 2, 0, none⟩ (.int .u64 ((ov ||| vec : Nat) : Int)))) ∧ (Boxed (W.setCell ⟨w.heap.size + 2, 0, none⟩ (.int .u64 ((ov ||| vec : Nat) : Int))) (w.heap.size + 2) 60 (.int .u64 (orL ((pre ++ [(⟨(net, vec), hvec⟩ : XV)]).map (·.1)) : Int))) ∧ Below w.heap.size w (W.setCell ⟨w.heap.size + 2, 0, none⟩ (.int .u64 ((ov ||| vec : Nat) : Int))) :=
      ⟨KeepsOthers.setCell _ _ _, fun hR => hR.keep fun b hb j => World.cell?_setCell_other _ _ _ _ (by
        have : b ≠ w.heap.size + 2 := by rcases hb with rfl | rfl | rfl | rfl | rfl <;> omega
        simp
        try omega), by rw [hsn]; exact hbx2, hBW.setCell (p := ⟨w.heap.size + 2, 0, none⟩) (by simp) _⟩
    have HF := Lib.hid hfin
    clear hfin hbx2 hbx hov hsn hovv hBW
    gi_wp2_with fail
    exact HF.out
  case done =>
    rintro D ys W hD hys ⟨hbx, hBW⟩ hK
    rw [hys] at hbx
    have hc5 := hbx.cell
    have HF := Lib.hid hBW
    clear hbx hys hBW
    gi_wp2
    refine ⟨by simp, .inl ⟨_, _, rfl, run_takeDeferred hK, ?_⟩⟩
    refine ⟨_, results_tmp rfl _ _ _, rfl, ?_⟩
    exact HF.out.trans (belowK_b (w := w) (Nat.le_refl _) W D _ _ (by omega) hK rfl rfl)
  case stop =>
    rintro D c pre W _ _ h _
    exact h.elim
end Go.Proofs.YtldilggfmclnlaaGreatDoor
