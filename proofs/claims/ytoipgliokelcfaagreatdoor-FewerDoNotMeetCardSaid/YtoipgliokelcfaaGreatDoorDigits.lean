/- Package pattern's digits. -/
import Derived.Test.YtoipgliokelcfaaGreatDoorBackw
import Derived.Test.YtoipgliokelcfaaGreatDoorVgA
import Derived.Laws.MakeOwn
namespace Go.Proofs.YtoipgliokelcfaaGreatDoor
open Go.RowKit Go.Shelf

attribute [local go_sem] Oper.semAt_some

theorem Tryz.infoU8d : (Tryz.prog.info? 5).map (fun i => (i.zero, i.size, i.bytes)) = some (some (.int .u8 0), 1, 1) := by kernel_rfl
theorem info_u8 : ∃ i, Tryz.prog.info? 5 = some i ∧ i.zero = some (.int .u8 0) ∧ i.size = 1 ∧ i.bytes = 1 := by
  have h := Tryz.infoU8d
  cases hi : Tryz.prog.info? 5 with
  | none => rw [hi] at h; simp at h
  | some i =>
    rw [hi] at h
    simp at h
    exact ⟨i, rfl, h.1, h.2.1, h.2.2⟩

theorem add_at (b o j : Nat) : (⟨b, o, none⟩ : Addr).add j = ⟨b, o + j, none⟩ := by unfold Addr.add; split <;> simp_all
theorem fresh_at (X Y : World) (cs : Array Value) (t : TypeId) (hB : Below (X.heap.size + 1) (X.alloc (.cells cs t)) Y) (j : Nat) : Y.cell? ⟨X.heap.size, j, none⟩ = cs[j]? ∧ Y.frozen? ⟨X.heap.size, j, none⟩ = false := by
  have h : Y.heap[X.heap.size]? = some (.cells cs t) := (hB.block X.heap.size (Nat.lt_succ_self _)).trans (by
    show (X.heap.push (.cells cs t))[X.heap.size]? = _
    simp)
  exact ⟨by simp [World.cell?, h], by simp [World.frozen?, h]⟩

/-- What the loop over the digits holds: what is left of the number, and the bytes. -/
def stepD (s : Nat × (Nat → Int)) (i : Nat) : Nat × (Nat → Int) := (s.1 / 2, fun j => if j = i then 48 + ((s.1 % 2 : Nat) : Int) else s.2 j)
def stD (n : Nat) (is : List Nat) : Nat × (Nat → Int) := is.foldl stepD (n, fun _ => 0)
theorem stD_snoc (n : Nat) (is : List Nat) (i : Nat) : stD n (is ++ [i]) = stepD (stD n is) i := by simp [stD]
theorem stD_le (n : Nat) (is : List Nat) : (stD n is).1 ≤ n := by
  have h : ∀ (is : List Nat) (s : Nat × (Nat → Int)), (is.foldl stepD s).1 ≤ s.1 := by
    intro is
    induction is with
    | nil => intro s; exact Nat.le_refl _
    | cons i is ih =>
      intro s
      refine Nat.le_trans (ih _) ?_
      show s.1 / 2 ≤ s.1
      omega
  exact h is _
theorem stD_down (n long : Nat) : ∀ k, k ≤ long → (stD n (downTo long k)).1 = n / 2 ^ k ∧ ∀ j, j < long → (stD n (downTo long k)).2 j = if long - k ≤ j then 48 + ((n / 2 ^ (long - 1 - j) % 2 : Nat) : Int) else 0
  | 0, _ => ⟨by simp [stD, downTo], fun j hj => by rw [if_neg (by omega)]; rfl⟩
  | k + 1, hk => by
    obtain ⟨h1, h2⟩ := stD_down n long k (by omega)
    rw [downTo_succ, stD_snoc]
    refine ⟨?_, fun j hj => ?_⟩
    · show (stD n (downTo long k)).1 / 2 = _
      rw [h1, Nat.div_div_eq_div_mul, Nat.pow_succ]
    · show (if j = long - 1 - k then 48 + (((stD n (downTo long k)).1 % 2 : Nat) : Int) else (stD n (downTo long k)).2 j) = _
      by_cases e : j = long - 1 - k
      · rw [if_pos e, if_pos (by omega), h1, show long - 1 - j = k from by omega]
      · rw [if_neg e, h2 j hj]
        by_cases e2 : long - k ≤ j
        · rw [if_pos e2, if_pos (by omega)]
        · rw [if_neg e2, if_neg (by omega)]
theorem digL_at (n long j : Nat) (hj : j < long) : ((digL n long).getD j 0).toNat = 48 + n / 2 ^ (long - 1 - j) % 2 := by
  have e : (digL n long).getD j 0 = if n.testBit (long - 1 - j) = true then 49 else 48 := by
    unfold digL
    simp [List.getD, hj]
  rw [e, Nat.testBit_eq_decide_div_mod_eq]
  by_cases h : n / 2 ^ (long - 1 - j) % 2 = 1
  · rw [h]; rfl
  · have h0 : n / 2 ^ (long - 1 - j) % 2 = 0 := by omega
    rw [h0]; rfl
theorem and_one : ∀ m : Nat, m < 1024 → bits .and .i64 (m : Int) 1 = ((m % 2 : Nat) : Int) := by decide +kernel

/-- What stands in memory between two rounds. -/
def DigI (w : World) (n long : Nat) (pre : List (Ixb long)) (W : World) : Prop :=
  W.cell? ⟨w.heap.size, 0, none⟩ = some (.int .i64 ((stD n (pre.map (·.1.1))).1 : Int)) ∧ W.frozen? ⟨w.heap.size, 0, none⟩ = false ∧
  W.cell? ⟨w.heap.size + 1 + 1, 0, none⟩ = some (.slice (some ⟨w.heap.size + 1, 0, none⟩) long long) ∧ W.cell? ⟨w.heap.size + 1 + 1 + 1, 0, none⟩ = some (.slice (some ⟨w.heap.size + 1, 0, none⟩) long long) ∧
  ∀ j, j < long → W.cell? ⟨w.heap.size + 1, j, none⟩ = some (.int .u8 ((stD n (pre.map (·.1.1))).2 j)) ∧ W.frozen? ⟨w.heap.size + 1, j, none⟩ = false
theorem DigI.own (w : World) (n long : Nat) : Own (DigI w n long) := fun pre A B row hs hg hr => by
  obtain ⟨h1, h2, h3, h4, h5⟩ := hs
  exact ⟨cell_kept h1 hg hr, (frozen_kept h1 hg hr).trans h2, cell_kept h3 hg hr, cell_kept h4 hg hr, fun j hj => ⟨cell_kept (h5 j hj).1 hg hr, (frozen_kept (h5 j hj).1 hg hr).trans (h5 j hj).2⟩⟩
theorem DigI.step {w : World} {n long : Nat} {pre : List (Ixb long)} {W : World} (h : DigI w n long pre W) (x : Ixb long) :
    DigI w n long (pre ++ [x]) ((W.setCell ⟨w.heap.size + 1, x.1.1, none⟩ (.int .u8 (48 + (((stD n (pre.map (·.1.1))).1 % 2 : Nat) : Int)))).setCell ⟨w.heap.size, 0, none⟩ (.int .i64 (((stD n (pre.map (·.1.1))).1 : Int) / 2))) := by
  obtain ⟨h1, h2, h3, h4, h5⟩ := h
  have e : (pre ++ [x]).map (·.1.1) = pre.map (·.1.1) ++ [x.1.1] := by simp
  unfold DigI
  rw [e, stD_snoc]
  refine ⟨?_, ?_, ?_, ?_, fun j hj => ⟨?_, ?_⟩⟩
  · rw [World.cell?_setCell_same _ _ _ ((World.cell?_setCell_other _ _ _ _ (by simp)).trans h1)]
    show some (Value.int .i64 _) = some (.int .i64 (((stD n (pre.map (·.1.1))).1 / 2 : Nat) : Int))
    congr 2
  · rw [World.frozen?_setCell, World.frozen?_setCell]; exact h2
  · rw [World.cell?_setCell_other _ _ _ _ (by simp), World.cell?_setCell_other _ _ _ _ (by simp)]; exact h3
  · rw [World.cell?_setCell_other _ _ _ _ (by simp), World.cell?_setCell_other _ _ _ _ (by simp)]; exact h4
  · rw [World.cell?_setCell_other _ _ _ _ (by simp)]
    by_cases ej : j = x.1.1
    · subst ej
      rw [World.cell?_setCell_same _ _ _ (h5 _ hj).1]
      show _ = some (Value.int .u8 (if x.1.1 = x.1.1 then _ else _))
      rw [if_pos rfl]
    · rw [World.cell?_setCell_other _ _ _ _ (by simp; try omega), (h5 j hj).1]
      show _ = some (Value.int .u8 (if j = x.1.1 then _ else _))
      rw [if_neg ej]
  · rw [World.frozen?_setCell, World.frozen?_setCell]; exact (h5 j hj).2

set_option maxRecDepth 100000 in
set_option maxHeartbeats 2000000 in
theorem digits_any (n long : Nat) (hn : n < 1024) (hl : long ≤ 20) (w : World) : Calls Tryz.prog 44 #[.int .i64 (n : Int), .int .i64 (long : Int)] w fun e w' => e = .returned (.string ⟨(digL n long).toArray⟩) ∧ Below w.heap.size w w' := by
  obtain ⟨i0, hi, hz0, hz1, hz2⟩ := info_u8
  have hmk : ∀ W : World, (Instr.makeSlice 65 (.int .i64 (long : Int)) (.int .i64 (long : Int))).run Tryz.prog W = .ok (.slice (some ⟨W.heap.size, 0, none⟩) long long) (W.alloc (.cells (madeCells #[.int .u8 0] long) 5)) := fun W => by
    have := run_makeSlice (P := Tryz.prog) W 65 5 i0 (.int .u8 0) Tryz.underlying65 hi hz0 .i64 .i64 long long (by omega) (by omega) (by rw [hz1]; simp; omega) (by rw [hz2]; omega) (by omega)
    rw [hz1, show (Value.int .u8 0).cells = #[.int .u8 0] from rfl] at this
    simpa using this
  obtain ⟨res, hres⟩ : ∃ res, res = (⟨(digL n long).toArray⟩ : ByteArray) := ⟨_, rfl⟩
  rw [← hres]
  have HRES := Lib.hid hres
  clear hres
  refine (callsIn_wide (n := 9)).1 ?_
  refine callsIn_of_wp_marks Tryz.func44 rfl trivial ?_ rfl
  simp only [Tryz.ntmps44, List.size_toArray, List.length_cons, List.length_nil, Nat.reduceAdd, Nat.reduceSub, Array.replicate_succ, Array.replicate_zero, List.push_toArray, List.append_toArray, List.nil_append, List.cons_append]
  gi_wp2_with (refine ⟨trivial, ?_⟩; gi_at_call 77; refine (backward_in Fence.wide 8 trivial rfl _ _ _ _).mono ?_; rintro e w' ⟨rfl, rfl⟩)
  obtain ⟨W4, hW4⟩ : ∃ W4 : World, (((w.alloc (.cells #[.int .i64 (n : Int)] 3)).alloc (.cells (madeCells #[.int .u8 0] long) 5)).alloc (.cells #[.slice (some ⟨w.heap.size + 1, 0, none⟩) long long] 65)).alloc (.cells #[.slice (some ⟨w.heap.size + 1, 0, none⟩) long long] 65) = W4 := ⟨_, rfl⟩
  have hmc : ∀ j, j < long → (madeCells #[.int .u8 0] long)[j]? = some (Value.int .u8 0) := fun j hj => by
    rw [← Array.getElem?_toList, toList_madeCells_one]
    simp [hj]
  have hsz : W4.heap.size = w.heap.size + 4 := by rw [← hW4]; simp
  have hI0 : DigI w n long [] W4 := by
    have f0 := fresh_at w W4 #[.int .i64 (n : Int)] 3 (by
      rw [← hW4]
      exact (((Below.refl _ _).alloc (by simp) _).alloc (by simp; try omega) _).alloc (by simp; try omega) _) 0
    have f1 := fresh_at (w.alloc (.cells #[.int .i64 (n : Int)] 3)) W4 (madeCells #[.int .u8 0] long) 5 (by
      rw [← hW4]
      exact (((Below.refl _ _).alloc (by simp) _).alloc (by simp) _))
    have f2 := fresh_at ((w.alloc (.cells #[.int .i64 (n : Int)] 3)).alloc (.cells (madeCells #[.int .u8 0] long) 5)) W4 #[.slice (some ⟨w.heap.size + 1, 0, none⟩) long long] 65 (by
      rw [← hW4]
      exact ((Below.refl _ _).alloc (by simp) _)) 0
    have f3 := fresh_at (((w.alloc (.cells #[.int .i64 (n : Int)] 3)).alloc (.cells (madeCells #[.int .u8 0] long) 5)).alloc (.cells #[.slice (some ⟨w.heap.size + 1, 0, none⟩) long long] 65)) W4 #[.slice (some ⟨w.heap.size + 1, 0, none⟩) long long] 65 (by
      rw [← hW4]
      exact Below.refl _ _) 0
    simp only [World.size_alloc] at f1 f2 f3
    exact ⟨f0.1, f0.2, f2.1, f3.1, fun j hj => ⟨(f1 j).1.trans (hmc j hj), (f1 j).2⟩⟩
  have hB0 : Below w.heap.size w W4 := by
    rw [← hW4]
    exact ((((Below.refl _ w).alloc (Nat.le_refl _) _).alloc (by simp) _).alloc (by simp; omega) _).alloc (by simp; omega) _
  rw [hW4]
  clear hW4 hmc hmk
  refine wpIn_rangeFunc_ownF rfl (by decide) (gf := 112) (lb := #[.pointer (some ⟨w.heap.size + 1 + 1 + 1, 0, none⟩)]) rfl trivial (enters_of Tryz.func112 (by kernel_rfl) rfl)
    (backward_stops Fence.wide 8 trivial rfl (by decide) (w.heap.size + 1 + 1 + 1) (w.heap.size + 1) long long (by omega) W4 (by omega) (by omega) ⟨hI0.2.2.2.1, fun j hj => ⟨_, (hI0.2.2.2.2 j hj).1⟩⟩)
    (fun h k r => k (h r))
    (fun W l o o' hl ho hc hw hR => ⟨cell_kept hR.1 (grownBy_putObj' W l o') (fun r e => by cases e; exact ⟨o, ho, hc⟩), fun j hj => by
      obtain ⟨v, hv⟩ := hR.2 j hj
      exact ⟨v, cell_kept hv (grownBy_putObj' W l o') (fun r e => by cases e; exact ⟨o, ho, hc⟩)⟩⟩)
    (Below.refl _ _) (fun _ => rfl) (fun pre W => DigI w n long pre W ∧ Below w.heap.size w W) (fun _ _ _ => False)
    (OwnFrom.and (Own.from (DigI.own w n long) _) (ownFrom_below (Nat.le_refl _) (by omega))) (fun _ _ _ _ _ hs _ _ => hs) ⟨hI0, hB0⟩
    (fun x => { tmps := #[.int .i64 (n : Int), .int .i64 (long : Int), .pointer (some ⟨w.heap.size, 0, none⟩), undef, .string ⟨#[]⟩, .pointer (some ⟨w.heap.size + 1 + 1, 0, none⟩), .int .i64 (x.1.1 : Int), .int .i64 (long : Int), .slice (some ⟨w.heap.size + 1, 0, none⟩) long long, .slice (some ⟨w.heap.size + 1, 0, none⟩) long long, .func (.func 112) #[] #[.pointer (some ⟨w.heap.size + 1 + 1 + 1, 0, none⟩)], .int .i64 (x.1.1 : Int), .int .u8 x.1.2, undef, undef, undef, undef, undef, undef, undef, undef, undef, undef, undef], defers := [] }) ?assign ?body ?done ?stop
  case assign =>
    intro l x W K hK
    gi_wp2
    exact hK
  case body =>
    rintro l pre ⟨⟨i, v⟩, hi⟩ W ⟨hI, hB⟩ hlt
    have hstep := hI.step ⟨(i, v), hi⟩
    obtain ⟨h1, h2, h3, h4, h5⟩ := hI
    have hm := stD_le n (pre.map (·.1.1))
    have hc := (h5 i hi).1
    have hf := (h5 i hi).2
    have hBs : Below w.heap.size W ((W.setCell ⟨w.heap.size + 1, i, none⟩ (.int .u8 (48 + (((stD n (pre.map (·.1.1))).1 % 2 : Nat) : Int)))).setCell ⟨w.heap.size, 0, none⟩ (.int .i64 (((stD n (pre.map (·.1.1))).1 : Int) / 2))) := ((Below.refl _ _).setCell (by simp) _).setCell (by simp) _
    have HS := Lib.hid (⟨hstep, hBs, hB⟩ : _ ∧ _ ∧ _)
    clear hstep hBs hB h4 h5
    generalize (stD n (pre.map (·.1.1))).1 = m at h1 hm HS
    have hand := and_one m (by omega)
    have hd0 : (0 : Int) ≤ ((m % 2 : Nat) : Int) := by omega
    have hd1 : ((m % 2 : Nat) : Int) ≤ 1 := by omega
    have hm0 : (0 : Int) ≤ (m : Int) := by omega
    have hm1 : (m : Int) ≤ 1024 := by omega
    have hi0 : (0 : Int) ≤ (i : Int) := by omega
    have hi1 : (i : Int) < (long : Int) := by omega
    generalize ((m % 2 : Nat) : Int) = d at hand hd0 hd1 HS
    generalize (stD n (pre.map (·.1.1))).2 i = cv at hc
    clear hm
    gi_wp2
    exact ⟨(KeepsOthers.setCell _ _ _).trans (KeepsOthers.setCell _ _ _), fun _ => ⟨HS.out.1.2.2.2.1, fun j hj => ⟨_, (HS.out.1.2.2.2.2 j hj).1⟩⟩, HS.out.1, HS.out.2.2.trans HS.out.2.1⟩
  case done =>
    rintro D ys W hD hS ⟨hI, hB⟩ hK
    obtain ⟨h1, h2, h3, h4, h5⟩ := hI
    have hconv : (convert 65 9 (.slice (some ⟨w.heap.size + 1, 0, none⟩) long long)).run Tryz.prog W = .ok (.string ⟨(digL n long).toArray⟩) W := by
      have := run_convert_bytes_back (P := Tryz.prog) W 65 9 5 ⟨w.heap.size + 1, 0, none⟩ long (digL n long) Tryz.underlying65 Tryz.underlying5 Tryz.underlying9 (fun j hj => by
        have hj2 : j < long := by rw [digL_len] at hj; exact hj
        have h6 := digL_at n long j hj2
        have h7 : (digL n long).getD j 0 = (digL n long)[j] := by simp [List.getD, hj]
        rw [h7] at h6
        rw [add_at, Nat.zero_add, (h5 j hj2).1, hS, (stD_down n long long (Nat.le_refl _)).2 j hj2, if_pos (by omega), h6]
        rfl)
      rw [digL_len] at this
      exact this
    have HB := Lib.hid hB
    clear h1 h2 h4 h5 hS hB
    rw [← HRES.out] at hconv
    gi_wp2
    refine ⟨by simp, .inl ⟨_, _, rfl, run_takeDeferred hK, ?_⟩⟩
    exact ⟨_, results_tmp rfl _ _ _, rfl, HB.out.trans (belowK_b (w := w) (Nat.le_refl _) W D _ _ (by omega) hK rfl rfl)⟩
  case stop =>
    rintro D c pre W _ _ h _
    exact h.elim
end Go.Proofs.YtoipgliokelcfaaGreatDoor
