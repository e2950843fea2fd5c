/- Package pattern's digits. -/
import Derived.Test.YtdejjplkignaoaaBackw
import Derived.Test.YtdejjplkignaoaaVgA
import Derived.Laws.MakeOwn
namespace Go.Proofs.Ytdejjplkignaoaa
open Go.RowKit Go.Shelf

attribute [local go_sem] Oper.semAt_some

theorem Try.infoU8d : (Try.prog.info? 5).map (fun i => (i.zero, i.size, i.bytes)) = some (some (.int .u8 0), 1, 1) := by kernel_rfl
theorem info_u8 : ∃ i, Try.prog.info? 5 = some i ∧ i.zero = some (.int .u8 0) ∧ i.size = 1 ∧ i.bytes = 1 := by
  have h := Try.infoU8d
  cases hi : Try.prog.info? 5 with
  | none => rw [hi] at h; simp at h
  | some i =>
    rw [hi] at h
    simp at h
    exact ⟨i, rfl, h.1, h.2.1, h.2.2⟩

theorem add_at (b o j : Nat) : (⟨b, o, none⟩ : Addr).add j = ⟨b, o + j, none⟩ := by unfold Addr.add; split <;> simp_all
theorem fresh_at (X Y : World) (cs : Array Value) (t : TypeId) (hB : Below (X.heap.size + 1) (X.alloc (.cells cs t)) Y) (j : Nat) : Y.cell? ⟨X.heap.size, j, none⟩ = cs[j]? ∧ Y.frozen? ⟨X.heap.size, j, none⟩ = false := by
  have h : Y.heap[X.heap.size]? = some (.cells cs t) := (hB.block X.heap.size (Nat.lt_succ_self _)).trans (by
    show (X.heap.push (.cells cs t))[X.heap.size]? = _
    simp)
  exact ⟨by simp [World.cell?, h], by simp [World.frozen?, h]⟩

/-- What the loop over the digits holds: what is left of the number, and the bytes. -/
def stepD (s : Nat × (Nat → Int)) (i : Nat) : Nat × (Nat → Int) := (s.1 / 2, fun j => if j = i then 48 + ((s.1 % 2 : Nat) : Int) else s.2 j)
def stD (n : Nat) (is : List Nat) : Nat × (Nat → Int) := is.foldl stepD (n, fun _ => 0)
theorem stD_snoc (n : Nat) (is : List Nat) (i : Nat) : stD n (is ++ [i]) = stepD (stD n is) i := by simp [stD]
theorem stD_le (n : Nat) (is : List Nat) : (stD n is).1 ≤ n := by
  have h : ∀ (is : List Nat) (s : Nat × (Nat → Int)), (is.foldl stepD s).1 ≤ s.1 := by
    intro is
    induction is with
    | nil => intro s; exact Nat.le_refl _
    | cons i is ih =>
      intro s
      refine Nat.le_trans (ih _) ?_
      show s.1 / 2 ≤ s.1
      omega
  exact h is _
theorem stD_down (n long : Nat) : ∀ k, k ≤ long → (stD n (downTo long k)).1 = n / 2 ^ k ∧ ∀ j, j < long → (stD n (downTo long k)).2 j = if long - k ≤ j then 48 + ((n / 2 ^ (long - 1 - j) % 2 : Nat) : Int) else 0
  | 0, _ => ⟨by simp [stD, downTo], fun j hj => by rw [if_neg (by omega)]; rfl⟩
  | k + 1, hk => by
    obtain ⟨h1, h2⟩ := stD_down n long k (by omega)
    rw [downTo_succ, stD_snoc]
    refine ⟨?_, fun j hj => ?_⟩
    · show (stD n (downTo long k)).1 / 2 = _
      rw [h1, Nat.div_div_eq_div_mul, Nat.pow_succ]
    · show (if j = long - 1 - k then 48 + (((stD n (downTo long k)).1 % 2 : Nat) : Int) else (stD n (downTo long k)).2 j) = _
      by_cases e : j = long - 1 - k
      · rw [if_pos e, if_pos (by omega), h1, show long - 1 - j = k from by omega]
      · rw [if_neg e, h2 j hj]
        by_cases e2 : long - k ≤ j
        · rw [if_pos e2, if_pos (by omega)]
        · rw [if_neg e2, if_neg (by omega)]
theorem digL_at (n long j : Nat) (hj : j < long) : ((digL n long).getD j 0).toNat = 48 + n / 2 ^ (long - 1 - j) % 2 := by
  have e : (digL n long).getD j 0 = if n.testBit (long - 1 - j) = true then 49 else 48 := by
    unfold digL
    simp [List.getD, hj]
  rw [e, Nat.testBit_eq_decide_div_mod_eq]
  by_cases h : n / 2 ^ (long - 1 - j) % 2 = 1
  · rw [h]; rfl
  · have h0 : n / 2 ^ (long - 1 - j) % 2 = 0 := by omega
    rw [h0]; rfl
theorem and_one : ∀ m : Nat, m < 1024 → bits .and .i64 (m : Int) 1 = ((m % 2 : Nat) : Int) := by decide +kernel

/-- What stands in memory between two rounds. -/
def DigI (w : World) (n long : Nat) (pre : List (Ixb long)) (W : World) : Prop :=
  W.cell? ⟨w.heap.size, 0, none⟩ = some (.int .i64 ((stD n (pre.map (·.1.1))).1 : Int)) ∧ W.frozen? ⟨w.heap.size, 0, none⟩ = false ∧
  W.cell? ⟨w.heap.size + 1 + 1, 0, none⟩ = some (.slice (some ⟨w.heap.size + 1, 0, none⟩) long long) ∧ W.cell? ⟨w.heap.size + 1 + 1 + 1, 0, none⟩ = some (.slice (some ⟨w.heap.size + 1, 0, none⟩) long long) ∧
  ∀ j, j < long → W.cell? ⟨w.heap.size + 1, j, none⟩ = some (.int .u8 ((stD n (pre.map (·.1.1))).2 j)) ∧ W.frozen? ⟨w.heap.size + 1, j, none⟩ = false
theorem DigI.own (w : World) (n long : Nat) : Own (DigI w n long) := fun pre A B row hs hg hr => by
  obtain ⟨h1, h2, h3, h4, h5⟩ := hs
  exact ⟨cell_kept h1 hg hr, (frozen_kept h1 hg hr).trans h2, cell_kept h3 hg hr, cell_kept h4 hg hr, fun j hj => ⟨cell_kept (h5 j hj).1 hg hr, (frozen_kept (h5 j hj).1 hg hr).trans (h5 j hj).2⟩⟩
theorem DigI.step {w : World} {n long : Nat} {pre : List (Ixb long)} {W : World} (h : DigI w n long pre W) (x : Ixb long) :
    DigI w n long (pre ++ [x]) ((W.setCell ⟨w.heap.size + 1, x.1.1, none⟩ (.int .u8 (48 + (((stD n (pre.map (·.1.1))).1 % 2 : Nat) : Int)))).setCell ⟨w.heap.size, 0, none⟩ (.int .i64 (((stD n (pre.map (·.1.1))).1 : Int) / 2))) := by
  obtain ⟨h1, h2, h3, h4, h5⟩ := h
  have e : (pre ++ [x]).map (·.1.1) = pre.map (·.1.1) ++ [x.1.1] := by simp
  unfold DigI
  rw [e, stD_snoc]
  refine ⟨?_, ?_, ?_, ?_, fun j hj => ⟨?_, ?_⟩⟩
  · rw [World.cell?_setCell_same _ _ _ ((World.cell?_setCell_other _ _ _ _ (by simp)).trans h1)]
    show some (Value.int .i64 _) = some (.int .i64 (((stD n (pre.map (·.1.1))).1 / 2 : Nat) : Int))
    congr 2
  · rw [World.frozen?_setCell, World.frozen?_setCell]; exact h2
  · rw [World.cell?_setCell_other _ _ _ _ (by simp), World.cell?_setCell_other _ _ _ _ (by simp)]; exact h3
  · rw [World.cell?_setCell_other _ _ _ _ (by simp), World.cell?_setCell_other _ _ _ _ (by simp)]; exact h4
  · rw [World.cell?_setCell_other _ _ _ _ (by simp)]
    by_cases ej : j = x.1.1
    · subst ej
      rw [World.cell?_setCell_same _ _ _ (h5 _ hj).1]
      show _ = some (Value.int .u8 (if x.1.1 = x.1.1 then _ else _))
      rw [if_pos rfl]
    · rw [World.cell?_setCell_other _ _ _ _ (by simp; try omega), (h5 j hj).1]
      show _ = some (Value.int .u8 (if j = x.1.1 then _ else _))
      rw [if_neg ej]
  · rw [World.frozen?_setCell, World.frozen?_setCell]; exact (h5 j hj).2

end Go.Proofs.Ytdejjplkignaoaa
