/- slices.Delete of one element of a row of structs. Made by gens/del.py. -/
import Derived.Test.YtfoocnhfppjbbaaGreatDoorMcZ
import Derived.Lib.SliceRun
import Derived.Laws.IdiomCopy
import Derived.Deep.RegionLaw
namespace Go.Proofs.YtfoocnhfppjbbaaGreatDoor
open Go.RowKit

theorem cellsOf_lenD : ∀ C : List Opn, (cellsOf C).length = C.length * 3
  | [] => rfl
  | c :: C => by
    show (cellsOf C).length + 1 + 1 + 1 = _
    rw [cellsOf_lenD C, List.length_cons]
    omega
theorem cellsOf_oneD (C : List Opn) : ∀ u ∈ cellsOf C, u.oneCell' = true := by
  intro u hu
  unfold cellsOf at hu
  rw [List.mem_flatMap] at hu
  obtain ⟨c, -, h⟩ := hu
  simp at h
  rcases h with rfl | rfl | rfl <;> rfl
/-- A list with values put in from a place on. -/
def putFromOps : List Value → Nat → List Value → List Value
  | xs, _, [] => xs
  | xs, o, v :: vs => putFromOps (xs.set o v) (o + 1) vs
theorem putFromOps_len : ∀ (vs : List Value) (xs : List Value) (o : Nat), (putFromOps xs o vs).length = xs.length
  | [], _, _ => rfl
  | v :: vs, xs, o => by
    show (putFromOps (xs.set o v) (o + 1) vs).length = _
    rw [putFromOps_len vs, List.length_set]
theorem putFromOps_at : ∀ (vs : List Value) (xs : List Value) (o j : Nat), j < xs.length → (putFromOps xs o vs)[j]? = if o ≤ j ∧ j < o + vs.length then vs[j - o]? else xs[j]?
  | [], xs, o, j, _ => by
    rw [if_neg (by simp only [List.length_nil]; omega)]
    rfl
  | v :: vs, xs, o, j, hj => by
    show (putFromOps (xs.set o v) (o + 1) vs)[j]? = _
    rw [putFromOps_at vs (xs.set o v) (o + 1) j (by simpa using hj)]
    by_cases h1 : j = o
    · subst h1
      rw [if_neg (by omega), if_pos ⟨Nat.le_refl _, by simp⟩, Nat.sub_self, List.getElem?_set_self hj]
      rfl
    · rw [List.getElem?_set_ne (by omega)]
      by_cases h2 : o + 1 ≤ j ∧ j < o + 1 + vs.length
      · rw [if_pos h2, if_pos (by simp; omega), show j - o = (j - (o + 1)) + 1 by omega]
        rfl
      · rw [if_neg h2, if_neg (by simp; omega)]
theorem own_setCellsOps {base e size n : Nat} {g cap : Nat} : ∀ (vs : List Value) (o : Nat) (w : World) (xs : List Value), w.ownsRow base e size (.slice (some ⟨g, 0, none⟩) n cap) n xs → (w.setCells g o vs).ownsRow base e size (.slice (some ⟨g, 0, none⟩) n cap) n (putFromOps xs o vs)
  | [], _, _, _, h => h
  | v :: vs, o, w, xs, h => own_setCellsOps vs (o + 1) (w.setCell ⟨g, o, none⟩ v) (xs.set o v) (World.ownsRow.stored h o v).1
theorem below_setCellsOps {B g : Nat} (hg : B ≤ g) : ∀ (vs : List Value) (o : Nat) (w w' : World), Below B w w' → Below B w (w'.setCells g o vs)
  | [], _, _, _, h => h
  | v :: vs, o, w, w', h => below_setCellsOps hg vs (o + 1) w (w'.setCell ⟨g, o, none⟩ v) (h.setCell (p := ⟨g, o, none⟩) hg v)
theorem own_cutOps {base e size n m : Nat} {g cap : Nat} {w : World} {xs : List Value} (h : w.ownsRow base e size (.slice (some ⟨g, 0, none⟩) n cap) n xs) (hm : m ≤ n) : w.ownsRow base e size (.slice (some ⟨g, 0, none⟩) m cap) m (xs.take (m * size)) := by
  have hms : m * size ≤ n * size := Nat.mul_le_mul_right _ hm
  obtain ⟨hl, h⟩ := h
  refine ⟨by rw [List.length_take, hl]; omega, ?_⟩
  rcases h with ⟨h, _⟩ | ⟨g', cap', cur, hv, hg, hh, hn, hc, hcs, ht⟩
  · simp at h
  · simp at hv
    obtain ⟨rfl, rfl⟩ := hv
    refine Or.inr ⟨g, cap, cur, rfl, hg, hh, by omega, hc, hcs, ?_⟩
    rw [← ht, List.take_take, Nat.min_eq_left hms]
theorem clear_runOps (w : World) (ty : TypeId) (b o c : Nat) (hc : ∀ j, j < 3 → (w.cell? ⟨b, o + j, none⟩).isSome = true) (hf : ∀ j, j < 3 → w.frozen? ⟨b, o + j, none⟩ = false) :
    (Builtin.clear_ #[34] ty #[.slice (some ⟨b, o, none⟩) 1 c]).run Tryz.prog w = .ok (.tuple #[]) (w.setCells b o [.int .i64 0, .int .i64 0, .int .i64 0]) := by
  have ht : Tryz.prog.underlying 34 = some (.slice 51) := by kernel_rfl
  have hzc : (Builtin.zeroCells (Value.agg #[.int .i64 0, .int .i64 0, .int .i64 0]).cells 1).toList = [.int .i64 0, .int .i64 0, .int .i64 0] := by
    apply List.ext_getElem
    · simp [Builtin.zeroCells, Value.cells]
    · intro i h1 h2
      have : i = 0 ∨ i = 1 ∨ i = 2 := by simp at h2; omega
      rcases this with rfl | rfl | rfl <;> simp [Builtin.zeroCells, Value.cells]
  have hst := run_storeCells_cells (P := Tryz.prog) b o [.int .i64 0, .int .i64 0, .int .i64 0] 0 w (by simpa using hc) (by simpa using hf) (by intro v hv'; simp at hv'; subst hv'; rfl)
  simp only [Nat.add_zero] at hst
  simp [Builtin.clear_, run_underlying ht, hzc, hst]
theorem cellsOf_drop (O : List Opn) (k : Nat) : cellsOf (O.drop k) = (cellsOf O).drop (k * 3) := by
  induction k generalizing O with
  | zero => simp
  | succ k ih =>
    cases O with
    | nil => simp [cellsOf]
    | cons o O =>
      rw [List.drop_succ_cons, ih O]
      unfold cellsOf
      rw [List.flatMap_cons, show (k + 1) * 3 = k * 3 + 3 by omega]
      rfl
theorem cellsOf_take (O : List Opn) (k : Nat) : cellsOf (O.take k) = (cellsOf O).take (k * 3) := by
  induction k generalizing O with
  | zero => simp [cellsOf]
  | succ k ih =>
    cases O with
    | nil => simp [cellsOf]
    | cons o O =>
      rw [List.take_succ_cons]
      show cellsOf (o :: O.take k) = _
      unfold cellsOf at ih ⊢
      rw [List.flatMap_cons, List.flatMap_cons, ih O, show (k + 1) * 3 = k * 3 + 3 by omega]
      rfl
theorem del_cellsOps (O : List Opn) (i : Nat) (hi : i < O.length) :
    (putFromOps (putFromOps (cellsOf O) (i * 3) (cellsOf (O.drop (i + 1)))) ((O.length - 1) * 3) [.int .i64 0, .int .i64 0, .int .i64 0]).take ((O.length - 1) * 3) = cellsOf (O.eraseIdx i) := by
  have hl := cellsOf_lenD O
  have hd : (cellsOf (O.drop (i + 1))).length = (O.length - (i + 1)) * 3 := by rw [cellsOf_lenD, List.length_drop]
  have e1 : cellsOf (O.eraseIdx i) = (cellsOf O).take (i * 3) ++ (cellsOf O).drop ((i + 1) * 3) := by
    rw [List.eraseIdx_eq_take_drop_succ, ← cellsOf_take, ← cellsOf_drop]
    unfold cellsOf
    rw [List.flatMap_append]
  have hle : (cellsOf (O.eraseIdx i)).length = (O.length - 1) * 3 := by rw [cellsOf_lenD, List.length_eraseIdx_of_lt hi]
  apply List.ext_getElem?
  intro j
  by_cases hj : j < (O.length - 1) * 3
  · rw [List.getElem?_take_of_lt hj, putFromOps_at _ _ _ _ (by rw [putFromOps_len]; omega), if_neg (by omega), putFromOps_at _ _ _ _ (by omega), e1, hd]
    by_cases h2 : i * 3 ≤ j
    · rw [if_pos (by omega), List.getElem?_append_right (by rw [List.length_take]; omega), List.length_take, cellsOf_drop]
      rw [show min (i * 3) (cellsOf O).length = i * 3 by omega]
    · rw [if_neg (by omega), List.getElem?_append_left (by rw [List.length_take]; omega), List.getElem?_take_of_lt (by omega)]
  · rw [List.getElem?_eq_none (by rw [List.length_take, putFromOps_len, putFromOps_len]; omega), List.getElem?_eq_none (by rw [hle]; omega)]
set_option maxHeartbeats 1600000 in
set_option maxRecDepth 100000 in
theorem delOps_any (O : List Opn) (i : Nat) (hi : i < O.length) (hz : O.length ≤ 1000000) (B : Nat) (w : World) (g cap : Nat) (hrow : w.ownsRow B 51 3 (.slice (some ⟨g, 0, none⟩) O.length cap) O.length (cellsOf O)) :
    Calls Tryz.prog 16 #[.slice (some ⟨g, 0, none⟩) O.length cap, .int .i64 (i : Int), .int .i64 ((i : Int) + 1)] w fun e w' => e = .returned (.slice (some ⟨g, 0, none⟩) (O.length - 1) cap) ∧ w'.ownsRow B 51 3 (.slice (some ⟨g, 0, none⟩) (O.length - 1) cap) (O.length - 1) (cellsOf (O.eraseIdx i)) ∧ Below B w w' := by
  obtain ⟨i0, hi0, hz0, hz1, hz2⟩ := info_parts Tryz.infoOp
  have hund : Tryz.prog.underlying 34 = some (.slice 51) := by kernel_rfl
  have hln := cellsOf_lenD O
  obtain ⟨hcap, hcmax, hgB, hgl⟩ : O.length ≤ cap ∧ cap ≤ maxLen ∧ B ≤ g ∧ g < w.heap.size := by
    obtain ⟨-, ⟨h, _⟩ | ⟨g', cap', cur, hv, hg, hh, hn, hc, hcs, ht⟩⟩ := hrow
    · simp at h
    · simp at hv
      obtain ⟨rfl, rfl⟩ := hv
      exact ⟨hn, hc, hg, (Array.getElem?_eq_some_iff.1 hh).1⟩
  obtain ⟨n, hn⟩ : ∃ n, n = O.length := ⟨_, rfl⟩
  have hcl0 : ∀ k, k < n * 3 → w.cell? ⟨g, k, none⟩ = (cellsOf O)[k]? := fun k hk => hrow.cellAt k (by rw [← hn]; exact hk)
  have hfz : ∀ k, w.frozen? ⟨g, k, none⟩ = false := fun k => hrow.frozenAt k
  obtain ⟨news, hnews⟩ : ∃ news, news = cellsOf (O.drop (i + 1)) := ⟨_, rfl⟩
  have hlen : news.length = (n - (i + 1)) * 3 := by rw [hnews, cellsOf_lenD, List.length_drop, hn]
  have hsome : ∀ k, k < n * 3 → (w.cell? ⟨g, k, none⟩).isSome = true := fun k hk => by
    rw [hcl0 k hk, List.getElem?_eq_getElem (by omega)]
    rfl
  obtain ⟨A, hA, hsrc⟩ : ∃ A : Addr, (if cap = i + 1 then some (⟨g, 0, none⟩ : Addr) else some ⟨g, (i + 1) * 3, none⟩) = some A ∧ Hid (∀ t u, news[t]? = some u → w.drew.cell? (A.add t) = some u) := by
    by_cases h : cap = i + 1
    · refine ⟨⟨g, 0, none⟩, by simp [h], Lib.hid fun t u hu => ?_⟩
      have h0 : news.length = 0 := by rw [hlen]; omega
      rw [List.length_eq_zero_iff.1 h0] at hu
      simp at hu
    · refine ⟨⟨g, (i + 1) * 3, none⟩, by simp [h], Lib.hid fun t u hu => ?_⟩
      have ht : t < (n - (i + 1)) * 3 := by
        have := (List.getElem?_eq_some_iff.1 hu).1
        rwa [hlen] at this
      rw [hnews, cellsOf_drop, List.getElem?_drop] at hu
      rw [show (⟨g, (i + 1) * 3, none⟩ : Addr).add t = ⟨g, (i + 1) * 3 + t, none⟩ from by simp [Addr.add]]
      exact (hcl0 _ (by omega)).trans hu
  have s1 : Hid (news.length = (n - (i + 1)) * 3) := Lib.hid hlen
  have s2 : Hid (∀ u ∈ news, u.oneCell' = true) := Lib.hid (by rw [hnews]; exact cellsOf_oneD _)
  have s3 : Hid (∀ t, t < news.length → (w.drew.cell? ⟨g, 0 + i * 3 + t, none⟩).isSome = true ∧ w.drew.frozen? ⟨g, 0 + i * 3 + t, none⟩ = false) := Lib.hid fun t ht => by
    rw [hlen] at ht
    exact ⟨hsome _ (by omega), hfz _⟩
  obtain ⟨W1, hW1⟩ : ∃ W1, W1 = w.drew.setCells g (0 + i * 3) news := ⟨_, rfl⟩
  have hrowd : w.drew.ownsRow B 51 3 (.slice (some ⟨g, 0, none⟩) O.length cap) O.length (cellsOf O) := hrow
  have hrow1 := own_setCellsOps news (0 + i * 3) w.drew _ hrowd
  rw [← hW1] at hrow1
  have hlp : (putFromOps (cellsOf O) (0 + i * 3) news).length = n * 3 := by rw [putFromOps_len, hln, hn]
  have hcl : ∀ ty, (Builtin.clear_ #[34] ty #[.slice (some ⟨g, (n - 1) * 3, none⟩) 1 (cap - (n - 1))]).run Tryz.prog W1 = .ok (.tuple #[]) (W1.setCells g ((n - 1) * 3) [.int .i64 0, .int .i64 0, .int .i64 0]) :=
    fun ty => clear_runOps W1 ty g ((n - 1) * 3) _ (fun j hj => by rw [hrow1.cellAt _ (by rw [← hn]; omega), List.getElem?_eq_getElem (by rw [hlp]; omega)]; rfl) (fun j _ => hrow1.frozenAt _)
  have hrow2 := own_setCellsOps [.int .i64 0, .int .i64 0, .int .i64 0] ((n - 1) * 3) W1 _ hrow1
  have hrow3 := own_cutOps (m := n - 1) hrow2 (by omega)
  have hdel := del_cellsOps O i hi
  rw [← hnews, ← hn] at hdel
  rw [Nat.zero_add, hdel] at hrow3
  have hB1 : Below B w W1 := by rw [hW1]; exact below_setCellsOps hgB news _ w w.drew ((Below.refl _ _).drew)
  have hB2 := below_setCellsOps hgB [.int .i64 0, .int .i64 0, .int .i64 0] ((n - 1) * 3) w W1 hB1
  have hW : Hid (W1 = w.drew.setCells g (0 + i * 3) news) := Lib.hid hW1
  have HR := Lib.hid (⟨hrow3, hB2⟩ : _ ∧ _)
  have hin : i < n := by omega
  have hic : i ≤ cap := by omega
  have hnc : n ≤ cap := by omega
  have hjc : i + 1 ≤ cap := by omega
  have hnz : n ≤ 1000000 := by omega
  have hj1 : (0 : Int) ≤ (i : Int) + 1 := by omega
  have hj2 : (i : Int) + 1 ≤ (n : Int) := by omega
  rw [← hn]
  clear hW1 hrow hrowd hrow1 hrow2 hrow3 hdel hB1 hB2 hlen hnews hsome hfz hcl0 hln hlp hn hcap hi hz
  go_enter Tryz.func16, Tryz.ntmps16
  go_wp2_with fail
  go_region_law (refine step_append_room rfl (.tmp 22) (.tmp 25) 34 rfl 51 i0 3 hund hi0 hz1 g 0 i cap (by simp [Act.eval, Act.put]) A (n - (i + 1)) (cap - (i + 1)) news (by simp [Act.eval, Act.put]) s1.out hsrc.out s2.out (by omega) s3.out ?_; rw [← hW.out])
  rw [show i + (n - (i + 1)) = n - 1 by omega]
  have hcl2 : ∀ ty, (Builtin.clear_ #[34] ty #[.slice (some ⟨g, (n - 1) * 3, none⟩) (n - (n - 1)) (cap - (n - 1))]).run Tryz.prog W1 = .ok (.tuple #[]) (W1.setCells g ((n - 1) * 3) [.int .i64 0, .int .i64 0, .int .i64 0]) := fun ty => by rw [show n - (n - 1) = 1 by omega]; exact hcl ty
  have hcn : ¬ cap = n - 1 := by omega
  have hn1 : (0 : Int) ≤ ((n - 1 : Nat) : Int) := by omega
  have hn2 : ((n - 1 : Nat) : Int) ≤ (n : Int) := by omega
  have hn3 : n - 1 ≤ n := by omega
  clear hcl hA
  go_wp2_with fail
  go_ret
  exact ⟨rfl, HR.out.1, HR.out.2⟩
end Go.Proofs.YtfoocnhfppjbbaaGreatDoor
