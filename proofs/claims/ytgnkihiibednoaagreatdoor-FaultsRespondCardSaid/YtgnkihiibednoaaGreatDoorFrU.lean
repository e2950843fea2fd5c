/- Package fault: the nets that a fault changes, walked by a range whose body writes what the iterator reads. -/
import Derived.Test.YtgnkihiibednoaaGreatDoorFtG
import Derived.RangeFuncBox
namespace Go.Proofs.YtgnkihiibednoaaGreatDoor
open Go.RowKit Go.Shelf

attribute [local go_sem] Oper.semAt_some

def noDefer (ops : Array Oper) : Bool := ops.all fun o => match o.op with | .defer _ => false | _ => true

theorem noDefer_at {ops : Array Oper} (h : noDefer ops = true) {i : Nat} {o : Oper} (ho : ops[i]? = some o) (c : Call) : o.op ≠ .defer c := by
  intro hc
  unfold noDefer at h
  rw [Array.all_eq_true] at h
  obtain ⟨hi, he⟩ := Array.getElem?_eq_some_iff.1 ho
  have := h i hi
  rw [he, hc] at this
  exact absurd this Bool.false_ne_true

theorem ops_round {F : Fence} (hF : F.round = none) {n : Nat} {P : Program} {ops : Array Oper} {Q : Exit → Act → World → Prop} (l : Nat) (hnd : noDefer ops = true) :
    ∀ (is : List Nat) (a : Act) (w : World), wpOpsIn F n P ops Q is a w → wpOpsIn (F.inRound l) n P ops Q is a w
  | [], _, _, h => h
  | i :: rest, a, w, h => by
    unfold wpOpsIn at h ⊢
    cases ho : ops[i]? with
    | none =>
      simp only [ho] at h ⊢
      exact ops_round hF l hnd rest a w h
    | some o =>
      simp only [ho] at h ⊢
      split
      · rename_i hw
        simp only [hw, if_true] at h
        have h2 := Oper.wpIn_mono (fun a w => ops_round hF l hnd rest a w) h
        unfold Oper.wpIn at h2 ⊢
        rw [hF, Oper.semAt_none] at h2
        rw [Fence.inRound_round, Oper.semAt_some l _ _ (noDefer_at hnd ho)]
        refine ⟨h2.1, ?_⟩
        have h3 := h2.2
        generalize (execOp a.eval o).run P w = r at h3 ⊢
        cases r with
        | ok x w' => cases x <;> exact h3
        | halt x w' => cases x <;> exact h3
      · rename_i hw
        simp only [hw] at h
        exact ⟨h.1, ops_round hF l hnd rest _ w h.2⟩

theorem region_round {F : Fence} {n : Nat} {P : Program} {ops : Array Oper} {Q : Exit → Act → World → Prop} {id l : Nat} {a : Act} {w : World}
    (hF : F.round = none) (hm : P.follows .mixedOrders = true) (hnd : noDefer ops = true)
    (h : wpAnyIn F n P .any ops Q ops.size (Array.replicate ops.size false) a w.drew) : (Code.region id ops true).wpIn (F.inRound l) n P Q a w :=
  wpIn_region_draw fun t => by
    simp only [Region.schedule, hm, Bool.true_or, if_true]
    exact ops_round hF l hnd _ _ _ (wpAnyIn_sound ops.size t _ a _ h)

/-- What the iterator reads at the fault's net k. -/
structure ChgK (pf pv pw g o gs sc n m : Nat) (on : List Nat) (f : Flt) (k : Nat) (W : World) : Prop where
  val : W.cell? ⟨pv, 0, none⟩ = some (.int .u64 (comL m on f : Int))
  sets : W.cell? ⟨pw, 1, none⟩ = some (.slice (some ⟨gs, 0, none⟩) n sc)
  net : W.cell? ⟨g, o + k, none⟩ = some (.int .i64 (f.2.getD k 0))
  set : W.cell? ⟨gs, (f.2.getD k 0).toNat, none⟩ = some (.int .u64 (on.getD (f.2.getD k 0).toNat 0 : Int))

/-- A range over a function whose body always goes on; the iterator is proved for the loop's own invariant, which may tell it what the rounds have written. -/
theorem range_own {α : Type} {F : Fence} {n : Nat} {P : Program} {g : Operand} {ps : Array Tmp} {assign body : Code} {Q : Exit → Act → World → Prop} {a : Act} {w : World}
    (hro : F.round = none) (h1 : 1 ≤ n) {gf : Nat} {lb : Array Value} (hg : a.eval g = .func (.func gf) #[] lb) (hFg : F.fn gf) (eg : ∀ args w, (callFunc gf args).run P w = .ok (.enter gf args) w)
    {encs : α → Array Value} (hps : ∀ x, (encs x).size = ps.size) (I : List α → World → Prop) (Ok : List α → α → Prop) (S : List α → Prop)
    (hseq : ∀ (l : Nat) (J : List α → World → Prop) (W : World), (∀ pre W, J pre W → I pre W) → (∀ pre W, J pre W → J pre W.drew) →
      (∀ pre x W1, J pre W1 → Ok pre x → YieldAt F (n - 1 - 1) P l (encs x) W1 fun e W' => e = .returned (.bool true) ∧ J (pre ++ [x]) W') → J [] W →
      CallsIn F (n - 1) P gf (#[.func (.yield l) #[] #[]] ++ lb) W fun e W' => (∃ v, e = .returned v) ∧ ∃ xs, S xs ∧ J xs W')
    (hI : OwnFrom w.heap.size I) (h0 : I [] w) (a1 : α → Act)
    (hassign : ∀ (l : Nat) (x : α) (W : World) (K : Act → World → Prop), K (a1 x) W →
      assign.wpIn (F.inRound l) (n - 1 - 1) P (Exit.then K (fun _ _ _ => False)) { tmps := (ps.zip (encs x)).foldl (fun t (p, v) => t.setIfInBounds p v) a.tmps, defers := [] } W)
    (hbody : ∀ (l : Nat) (pre : List α) (x : α) (W : World), I pre W → Ok pre x → body.wpIn (F.inRound l) (n - 1 - 1) P (fun e _ W' => e = .normal ∧ KeepsOthers W W' ∧ I (pre ++ [x]) W') (a1 x) W)
    (hdone : ∀ (D : Nat) (xs : List α) (W : World), w.heap.size ≤ D → S xs → I xs W → W.heap[D]? = some (.deferred (some [])) → Q .normal { a with defers := { target := .collected D, args := #[] } :: a.defers } W) :
    (Code.rangeFunc g ps assign body).wpIn F n P Q a w := by
  refine wpIn_rangeFunc fun fn hfn => ?_
  rw [hro]
  -- the record that the statement lays, in each of its states
  let R : LoopState → Loop := fun st => { state := st, pending := none, fn, tmps := a.tmps, params := ps, assign, body, defers := w.heap.size }
  let D := w.heap.size
  let W1 := (w.alloc (.deferred (some []))).alloc (.loop (R .ready))
  have lies : W1.heap[D + 1]? = some (.loop (R .ready)) := by
    have h := World.alloc_heap_new (w.alloc (.deferred (some []))) (.loop (R .ready))
    rw [World.size_alloc] at h
    exact h
  have calm : W1.heap[D]? = some (.deferred (some [])) := (Below.heap_alloc _ _ _ (by simp [D])).trans (World.alloc_heap_new w _)
  refine ⟨D + 1, _, W1, { target := .fn (.func gf) lb, args := #[.func (.yield (D + 1)) #[] #[]] }, W1, gf, #[.func (.yield (D + 1)) #[] #[]] ++ lb, W1, run_enterLoop_outer _ _ _ _ _, ?_, ?_, ?_, fun _ => h1, ?_⟩
  · simp only [resolve, hg]
    simp [go_sem]
  · intro f' hf'
    simp [Target.leads] at hf'
    exact hf' ▸ hFg
  · simp [invoke, go_sem, eg]
  let J : List α → World → Prop := fun pre W => I pre W ∧ W.heap[D + 1]? = some (.loop (R .ready)) ∧ W.heap[D]? = some (.deferred (some []))
  refine (hseq (D + 1) J W1 (fun _ _ h => h.1) (fun pre W h => ⟨hI pre W _ none h.1 ⟨rfl, rfl, rfl, Nat.le_refl _, fun _ _ _ => rfl⟩ (fun r e => by cases e), h.2⟩) ?_ ⟨hI.alloc _ (hI.alloc _ h0), lies, calm⟩).mono ?_
  · rintro pre x W ⟨hi, hl, hd⟩ hok
    have hlt : D + 1 < W.heap.size := (Array.getElem?_eq_some_iff.1 hl).1
    refine ⟨fn, _, assign, body, run_yield (P := P) (args := encs x) hl (hps x), roundIn_of_wpIn hfn (hassign _ x W _ ⟨_, run_beginRound hl rfl, ?_⟩)⟩
    refine wpIn_mono (hbody _ pre x _ (hI.putObj (.loop (R .busy)) hi (by show w.heap.size ≤ w.heap.size + 1; omega) hl rfl) hok) ?_
    rintro e a3 W3 ⟨rfl, hkeep, hi3⟩
    have hl3 := hkeep.same _ _ (World.putObj_heap_same (o := .loop (R .busy)) hlt) rfl
    have hd3 := hkeep.same _ _ ((World.putObj_heap_other (o := .loop (R .busy)) (by show D ≠ D + 1; omega)).trans hd) rfl
    exact ⟨_, _, run_endRound (P := P) none hl3, rfl, hI.putObj _ hi3 (by show w.heap.size ≤ w.heap.size + 1; omega) hl3 rfl, World.putObj_heap_same (Array.getElem?_eq_some_iff.1 hl3).1, (World.putObj_heap_other (by show D ≠ D + 1; omega)).trans hd3⟩
  · rintro e W2 ⟨⟨v, rfl⟩, xs, hS, hi, hl, hd⟩
    exact ⟨none, _, run_endLoop (P := P) hl (by simp [R]), hdone D xs _ (Nat.le_refl _) hS (hI.putObj _ hi (by show w.heap.size ≤ w.heap.size + 1; omega) hl rfl) ((World.putObj_heap_other (by show D ≠ D + 1; omega)).trans hd)⟩

set_option maxRecDepth 100000 in
set_option maxHeartbeats 4000000 in
theorem changed1_J (F : Fence) (N : Nat) (hF : F.fn 65) (hro : F.round = none) (hN : 1 ≤ N) (l : Nat) (pf pv pw g o fc gs sc n M m : Nat) (on : List Nat) (f : Flt) (hM : M ≤ 6) (hMl : f.2.length = M) (ho : On64 on)
    (hq : ∀ k, k < M → ∃ q : Nat, q < n ∧ f.2.getD k 0 = (q : Int) ∧ (f.2.getD k 0).toNat = q)
    (J : List XV → World → Prop) (hJd : ∀ pre W, J pre W → J pre W.drew)
    (hJC : ∀ pre W k, J pre W → k < M → pre.map (·.1) = chgTo m on f k → ChgK pf pv pw g o gs sc n m on f k W)
    (hY : ∀ pre (x : XV) W k, J pre W → k < M → pre.map (·.1) = chgTo m on f k → x.1 = (f.2.getD k 0, comL m on f ^^^ on.getD (f.2.getD k 0).toNat 0) → comL m on f ^^^ on.getD (f.2.getD k 0).toNat 0 ≠ 0 → YieldAt F (N - 1) Tryz.prog l #[.int .i64 x.1.1, .int .u64 (x.1.2 : Int)] W fun e W' =>
      e = .returned (.bool true) ∧ J (pre ++ [x]) W')
    (W : World) (hC : W.cell? ⟨pf, 1, none⟩ = some (.slice (some ⟨g, o, none⟩) M fc)) (h0 : J [] W) :
    CallsIn F N Tryz.prog 65 #[.func (.yield l) #[] #[], .pointer (some ⟨pf, 0, none⟩), .pointer (some ⟨pv, 0, none⟩), .pointer (some ⟨pw, 0, none⟩)] W fun e W' => (∃ v, e = .returned v) ∧
      ∃ xs : List XV, xs.map (·.1) = chgL m on f ∧ J xs W' := by
  have hc0 := hC
  have HH := Lib.hid (⟨hJC, h0, hY, hq, hJd, ho, hMl⟩ : _ ∧ _ ∧ _ ∧ _ ∧ _ ∧ _ ∧ _)
  clear hC h0 hY hq hJd ho hMl hJC
  refine callsIn_of_wp Tryz.func65 rfl hF ?_ hro
  simp only [Tryz.ntmps65, List.size_toArray, List.length_cons, List.length_nil, Nat.reduceAdd, Nat.reduceSub, Array.replicate_succ, Array.replicate_zero, List.push_toArray, List.append_toArray, List.nil_append, List.cons_append]
  gi_wp2
  clear hc0
  gi_loopw [11] (fun i wr => ∃ k : Nat, k ≤ M ∧ i = .int .i64 (k : Int) ∧ ∃ pre : List XV, pre.map (·.1) = chgTo m on f k ∧ J pre wr) (fun i _ => M - (intOf i).toNat)
  case atStart => exact ⟨0, Nat.zero_le _, rfl, [], rfl, HH.out.2.1⟩
  case round =>
    obtain ⟨k, hk, rfl, pre, hpre, hJ⟩ := hrel
    by_cases hlt : k < M
    · obtain ⟨q, hqn, hqe, hqq⟩ := HH.out.2.2.2.1 k hlt
      have hC := HH.out.1 pre wr k hJ hlt hpre
      have c1 := hC.net
      have c2 := hC.val
      have c3 := hC.sets
      have c4 := hC.set
      rw [hqq] at c4
      rw [hqe] at c1
      have hsu := chgTo_succ m on f k (by have := HH.out.2.2.2.2.2.2; omega)
      rw [hqq, hqe] at hsu
      have hx1 : comL m on f < 18446744073709551616 := comL_lt HH.out.2.2.2.2.2.1
      have hx2 : on.getD q 0 < 18446744073709551616 := HH.out.2.2.2.2.2.1 q
      have hpl := chgTo_le m on f k
      obtain ⟨cv, hcv⟩ : ∃ x, x = comL m on f := ⟨_, rfl⟩
      obtain ⟨xv, hxv⟩ : ∃ x, x = on.getD q 0 := ⟨_, rfl⟩
      rw [← hcv] at c2 hsu hx1
      rw [← hxv] at c4 hsu hx2
      have hxor := u64_xor_nat cv xv hx1 hx2
      obtain ⟨yv, hyv⟩ : ∃ y, y = cv ^^^ xv := ⟨_, rfl⟩
      rw [← hyv] at hxor hsu
      have k0 : (0 : Int) ≤ (k : Int) := by omega
      have k1 : (k : Int) < (M : Int) := by omega
      have j0 : (0 : Int) ≤ (q : Int) := by omega
      have j1 : (q : Int) < (n : Int) := by omega
      have hxe : ((q : Int), yv) = (f.2.getD k 0, comL m on f ^^^ on.getD (f.2.getD k 0).toNat 0) := by rw [hqq, hqe, hyv, hcv, hxv]
      have hp2 := hpre
      have hJ' := HH.out.2.2.2.2.1 _ _ hJ
      have hpn : pre.length ≤ k := by
        have e := congrArg List.length hpre
        rw [List.length_map] at e
        omega
      have hyl : yv < 18446744073709551616 := by rw [hyv]; exact xor_lt64 hx1 hx2
      rw [← hpre] at hsu
      have HP := Lib.hid (⟨hJ', hxe, hsu, hp2⟩ : _ ∧ _ ∧ _ ∧ _)
      clear hJ hC hqe hqq hcv hxv hyv hx1 hx2 hsu hJ' hxe hp2 hpre hpl
      by_cases hy0 : yv = 0
      · have n0 : ((yv : Int) != 0) = false := by rw [hy0]; rfl
        have hres : chgTo m on f (k + 1) = pre.map (·.1) := by rw [HP.out.2.2.1, if_pos hy0]
        have HR := Lib.hid (⟨hres.symm, HP.out.1⟩ : _ ∧ _)
        clear hy0 hres HP
        gi_wp2_with fail
        refine wpIn_to ({ tmps := #[.func (.yield l) #[] #[], .pointer (some ⟨pf, 0, none⟩), .pointer (some ⟨pv, 0, none⟩), .pointer (some ⟨pw, 0, none⟩), undef, undef, .int .i64 (q : Int), .int .u64 (yv : Int), .pointer (some ⟨pf, 1, none⟩), .slice (some ⟨g, o, none⟩) M fc, .int .i64 (M : Int), .int .i64 (k : Int), .bool true, .pointer (some ⟨g, o + k, none⟩), .int .i64 (q : Int), .int .u64 (cv : Int), .pointer (some ⟨pw, 1, none⟩), .slice (some ⟨gs, 0, none⟩) n sc, .int .i64 (q : Int), .pointer (some ⟨gs, q, none⟩), .int .u64 (xv : Int), .int .u64 (yv : Int), u22, u23, u24, u25, u26, u27, u28, u29, u30, u31], defers := [] } : Act) (fun w' => w' = wr.drew) ?reg ?rest
        case reg =>
          refine region_in (by kernel_rfl) ?_
          refine wpAnyIn_take (i := 1) (v := ?_) hro rfl (by kernel_rfl) (by kernel_rfl) (by kernel_rfl) (fun _ _ _ h => by cases h.1) ⟨Or.inl ⟨by rfl, ?_⟩, fun _ => rfl⟩ ?_
          rotate_left
          focus (intro w; go_simp; first | done | with_reducible rfl)
          refine wpAnyIn_take (i := 3) (v := ?_) hro rfl (by kernel_rfl) (by kernel_rfl) (by kernel_rfl) (fun _ _ _ h => by cases h.1) ⟨Or.inl ⟨by rfl, ?_⟩, fun _ => rfl⟩ ?_
          rotate_left
          focus (intro w; go_simp; first | done | with_reducible rfl)
          refine wpAnyIn_ready (rs := [0, 2]) (by kernel_rfl) (by simp) (AllReadyIn.cons rfl (fun K hK => ?_) (AllReadyIn.cons rfl (fun K hK => ?_) AllReadyIn.nil))
          ·
            (go_simp; refine hK _ _ ?_; clear hK K)
            refine wpAnyIn_ready (rs := [2]) (by kernel_rfl) (by simp) (AllReadyIn.cons rfl (fun K hK => ?_) AllReadyIn.nil)
            (go_simp; refine hK _ _ ?_; clear hK K)
            refine wpAnyIn_take (i := 4) (v := ?_) hro rfl (by kernel_rfl) (by kernel_rfl) (by kernel_rfl) (fun _ _ _ h => by cases h.1) ⟨Or.inl ⟨by rfl, ?_⟩, fun _ => rfl⟩ ?_
            rotate_left
            focus (intro w; go_simp; first | done | with_reducible rfl)
            refine wpAnyIn_ready (rs := [5]) (by kernel_rfl) (by simp) (AllReadyIn.cons rfl (fun K hK => ?_) AllReadyIn.nil)
            (go_simp; refine hK _ _ ?_; clear hK K)
            refine wpAnyIn_take (i := 6) (v := ?_) hro rfl (by kernel_rfl) (by kernel_rfl) (by kernel_rfl) (fun _ _ _ h => by cases h.1) ⟨Or.inl ⟨by rfl, ?_⟩, fun _ => rfl⟩ ?_
            rotate_left
            focus (intro w; go_simp; first | done | with_reducible rfl)
            refine wpAnyIn_take (i := 7) (v := ?_) hro rfl (by kernel_rfl) (by kernel_rfl) (by kernel_rfl) (fun _ _ _ h => by cases h.1) ⟨Or.inl ⟨by rfl, ?_⟩, fun _ => rfl⟩ ?_
            rotate_left
            focus (intro w; go_simp; first | done | with_reducible rfl)
            refine wpAnyIn_done (by kernel_rfl) ?_ _
            exact ⟨rfl, rfl, rfl⟩
          ·
            (go_simp; refine hK _ _ ?_; clear hK K)
            refine wpAnyIn_take (i := 4) (v := ?_) hro rfl (by kernel_rfl) (by kernel_rfl) (by kernel_rfl) (fun _ _ _ h => by cases h.1) ⟨Or.inl ⟨by rfl, ?_⟩, fun _ => rfl⟩ ?_
            rotate_left
            focus (intro w; go_simp; first | done | with_reducible rfl)
            refine wpAnyIn_ready (rs := [0, 5]) (by kernel_rfl) (by simp) (AllReadyIn.cons rfl (fun K hK => ?_) (AllReadyIn.cons rfl (fun K hK => ?_) AllReadyIn.nil))
            ·
              (go_simp; refine hK _ _ ?_; clear hK K)
              refine wpAnyIn_ready (rs := [5]) (by kernel_rfl) (by simp) (AllReadyIn.cons rfl (fun K hK => ?_) AllReadyIn.nil)
              (go_simp; refine hK _ _ ?_; clear hK K)
              refine wpAnyIn_take (i := 6) (v := ?_) hro rfl (by kernel_rfl) (by kernel_rfl) (by kernel_rfl) (fun _ _ _ h => by cases h.1) ⟨Or.inl ⟨by rfl, ?_⟩, fun _ => rfl⟩ ?_
              rotate_left
              focus (intro w; go_simp; first | done | with_reducible rfl)
              refine wpAnyIn_take (i := 7) (v := ?_) hro rfl (by kernel_rfl) (by kernel_rfl) (by kernel_rfl) (fun _ _ _ h => by cases h.1) ⟨Or.inl ⟨by rfl, ?_⟩, fun _ => rfl⟩ ?_
              rotate_left
              focus (intro w; go_simp; first | done | with_reducible rfl)
              refine wpAnyIn_done (by kernel_rfl) ?_ _
              exact ⟨rfl, rfl, rfl⟩
            ·
              (go_simp; refine hK _ _ ?_; clear hK K)
              refine wpAnyIn_ready (rs := [0]) (by kernel_rfl) (by simp) (AllReadyIn.cons rfl (fun K hK => ?_) AllReadyIn.nil)
              (go_simp; refine hK _ _ ?_; clear hK K)
              refine wpAnyIn_take (i := 6) (v := ?_) hro rfl (by kernel_rfl) (by kernel_rfl) (by kernel_rfl) (fun _ _ _ h => by cases h.1) ⟨Or.inl ⟨by rfl, ?_⟩, fun _ => rfl⟩ ?_
              rotate_left
              focus (intro w; go_simp; first | done | with_reducible rfl)
              refine wpAnyIn_take (i := 7) (v := ?_) hro rfl (by kernel_rfl) (by kernel_rfl) (by kernel_rfl) (fun _ _ _ h => by cases h.1) ⟨Or.inl ⟨by rfl, ?_⟩, fun _ => rfl⟩ ?_
              rotate_left
              focus (intro w; go_simp; first | done | with_reducible rfl)
              refine wpAnyIn_done (by kernel_rfl) ?_ _
              exact ⟨rfl, rfl, rfl⟩
        case rest =>
          rintro w' rfl
          clear c1 c2 c3 c4 hxor
          gi_wp2
          refine ⟨(fun _ h => by cases h), ?_⟩
          gi_wp2
          go_roundw
          case rel => exact ⟨k + 1, by omega, by go_num, _, HR.out⟩
          case measure => simp [intOf]; omega
      · have n0 : ((yv : Int) != 0) = true := by rw [bne_iff_ne]; omega
        obtain ⟨fn, tmps, assign, body, hy, hY2⟩ := HH.out.2.2.1 pre ⟨((q : Int), yv), hyl⟩ wr.drew k HP.out.1 hlt HP.out.2.2.2 HP.out.2.1 (by have e : yv = comL m on f ^^^ on.getD (f.2.getD k 0).toNat 0 := congrArg Prod.snd HP.out.2.1; rw [← e]; exact hy0)
        dsimp only at hy
        have hres : (pre ++ [(⟨((q : Int), yv), hyl⟩ : XV)]).map (·.1) = chgTo m on f (k + 1) := by rw [HP.out.2.2.1, if_neg hy0, List.map_append]; rfl
        have HR := Lib.hid hres
        clear hy0 hres HP
        gi_wp2_with fail
        refine wpIn_to ({ tmps := #[.func (.yield l) #[] #[], .pointer (some ⟨pf, 0, none⟩), .pointer (some ⟨pv, 0, none⟩), .pointer (some ⟨pw, 0, none⟩), undef, undef, .int .i64 (q : Int), .int .u64 (yv : Int), .pointer (some ⟨pf, 1, none⟩), .slice (some ⟨g, o, none⟩) M fc, .int .i64 (M : Int), .int .i64 (k : Int), .bool true, .pointer (some ⟨g, o + k, none⟩), .int .i64 (q : Int), .int .u64 (cv : Int), .pointer (some ⟨pw, 1, none⟩), .slice (some ⟨gs, 0, none⟩) n sc, .int .i64 (q : Int), .pointer (some ⟨gs, q, none⟩), .int .u64 (xv : Int), .int .u64 (yv : Int), u22, u23, u24, u25, u26, u27, u28, u29, u30, u31], defers := [] } : Act) (fun w' => w' = wr.drew) ?reg ?rest
        case reg =>
          refine region_in (by kernel_rfl) ?_
          refine wpAnyIn_take (i := 1) (v := ?_) hro rfl (by kernel_rfl) (by kernel_rfl) (by kernel_rfl) (fun _ _ _ h => by cases h.1) ⟨Or.inl ⟨by rfl, ?_⟩, fun _ => rfl⟩ ?_
          rotate_left
          focus (intro w; go_simp; first | done | with_reducible rfl)
          refine wpAnyIn_take (i := 3) (v := ?_) hro rfl (by kernel_rfl) (by kernel_rfl) (by kernel_rfl) (fun _ _ _ h => by cases h.1) ⟨Or.inl ⟨by rfl, ?_⟩, fun _ => rfl⟩ ?_
          rotate_left
          focus (intro w; go_simp; first | done | with_reducible rfl)
          refine wpAnyIn_ready (rs := [0, 2]) (by kernel_rfl) (by simp) (AllReadyIn.cons rfl (fun K hK => ?_) (AllReadyIn.cons rfl (fun K hK => ?_) AllReadyIn.nil))
          ·
            (go_simp; refine hK _ _ ?_; clear hK K)
            refine wpAnyIn_ready (rs := [2]) (by kernel_rfl) (by simp) (AllReadyIn.cons rfl (fun K hK => ?_) AllReadyIn.nil)
            (go_simp; refine hK _ _ ?_; clear hK K)
            refine wpAnyIn_take (i := 4) (v := ?_) hro rfl (by kernel_rfl) (by kernel_rfl) (by kernel_rfl) (fun _ _ _ h => by cases h.1) ⟨Or.inl ⟨by rfl, ?_⟩, fun _ => rfl⟩ ?_
            rotate_left
            focus (intro w; go_simp; first | done | with_reducible rfl)
            refine wpAnyIn_ready (rs := [5]) (by kernel_rfl) (by simp) (AllReadyIn.cons rfl (fun K hK => ?_) AllReadyIn.nil)
            (go_simp; refine hK _ _ ?_; clear hK K)
            refine wpAnyIn_take (i := 6) (v := ?_) hro rfl (by kernel_rfl) (by kernel_rfl) (by kernel_rfl) (fun _ _ _ h => by cases h.1) ⟨Or.inl ⟨by rfl, ?_⟩, fun _ => rfl⟩ ?_
            rotate_left
            focus (intro w; go_simp; first | done | with_reducible rfl)
            refine wpAnyIn_take (i := 7) (v := ?_) hro rfl (by kernel_rfl) (by kernel_rfl) (by kernel_rfl) (fun _ _ _ h => by cases h.1) ⟨Or.inl ⟨by rfl, ?_⟩, fun _ => rfl⟩ ?_
            rotate_left
            focus (intro w; go_simp; first | done | with_reducible rfl)
            refine wpAnyIn_done (by kernel_rfl) ?_ _
            exact ⟨rfl, rfl, rfl⟩
          ·
            (go_simp; refine hK _ _ ?_; clear hK K)
            refine wpAnyIn_take (i := 4) (v := ?_) hro rfl (by kernel_rfl) (by kernel_rfl) (by kernel_rfl) (fun _ _ _ h => by cases h.1) ⟨Or.inl ⟨by rfl, ?_⟩, fun _ => rfl⟩ ?_
            rotate_left
            focus (intro w; go_simp; first | done | with_reducible rfl)
            refine wpAnyIn_ready (rs := [0, 5]) (by kernel_rfl) (by simp) (AllReadyIn.cons rfl (fun K hK => ?_) (AllReadyIn.cons rfl (fun K hK => ?_) AllReadyIn.nil))
            ·
              (go_simp; refine hK _ _ ?_; clear hK K)
              refine wpAnyIn_ready (rs := [5]) (by kernel_rfl) (by simp) (AllReadyIn.cons rfl (fun K hK => ?_) AllReadyIn.nil)
              (go_simp; refine hK _ _ ?_; clear hK K)
              refine wpAnyIn_take (i := 6) (v := ?_) hro rfl (by kernel_rfl) (by kernel_rfl) (by kernel_rfl) (fun _ _ _ h => by cases h.1) ⟨Or.inl ⟨by rfl, ?_⟩, fun _ => rfl⟩ ?_
              rotate_left
              focus (intro w; go_simp; first | done | with_reducible rfl)
              refine wpAnyIn_take (i := 7) (v := ?_) hro rfl (by kernel_rfl) (by kernel_rfl) (by kernel_rfl) (fun _ _ _ h => by cases h.1) ⟨Or.inl ⟨by rfl, ?_⟩, fun _ => rfl⟩ ?_
              rotate_left
              focus (intro w; go_simp; first | done | with_reducible rfl)
              refine wpAnyIn_done (by kernel_rfl) ?_ _
              exact ⟨rfl, rfl, rfl⟩
            ·
              (go_simp; refine hK _ _ ?_; clear hK K)
              refine wpAnyIn_ready (rs := [0]) (by kernel_rfl) (by simp) (AllReadyIn.cons rfl (fun K hK => ?_) AllReadyIn.nil)
              (go_simp; refine hK _ _ ?_; clear hK K)
              refine wpAnyIn_take (i := 6) (v := ?_) hro rfl (by kernel_rfl) (by kernel_rfl) (by kernel_rfl) (fun _ _ _ h => by cases h.1) ⟨Or.inl ⟨by rfl, ?_⟩, fun _ => rfl⟩ ?_
              rotate_left
              focus (intro w; go_simp; first | done | with_reducible rfl)
              refine wpAnyIn_take (i := 7) (v := ?_) hro rfl (by kernel_rfl) (by kernel_rfl) (by kernel_rfl) (fun _ _ _ h => by cases h.1) ⟨Or.inl ⟨by rfl, ?_⟩, fun _ => rfl⟩ ?_
              rotate_left
              focus (intro w; go_simp; first | done | with_reducible rfl)
              refine wpAnyIn_done (by kernel_rfl) ?_ _
              exact ⟨rfl, rfl, rfl⟩
        case rest =>
          rintro w' rfl
          clear c1 c2 c3 c4 hxor
          gi_wp2
          refine hY2.mono ?_
          rintro e W3 ⟨rfl, hJ3⟩
          have HF := Lib.hid (⟨HR.out, hJ3⟩ : _ ∧ _)
          clear hJ3
          gi_wp2
          go_roundw
          case rel => exact ⟨k + 1, by omega, by go_num, _, HF.out⟩
          case measure => simp [intOf]; omega
    · obtain rfl : k = M := by omega
      have HB := Lib.hid (⟨by rw [hpre, ← HH.out.2.2.2.2.2.2]; rfl, hJ⟩ : pre.map (·.1) = chgL m on f ∧ J pre wr)
      clear hJ hpre
      gi_wp2
      go_end0
      exact ⟨⟨_, rfl⟩, _, HB.out⟩
end Go.Proofs.YtgnkihiibednoaaGreatDoor
