/- A region that draws its order, by an invariant: what is so in whatever order its operations come. -/
import Derived.Test.YtkipkkaloiefpaaGreatDoorPort
import Derived.Orders
namespace Go.Proofs.YtkipkkaloiefpaaGreatDoor
open Go.RowKit

/-- The operations that are not yet listed. -/
def openOps (n : Nat) (l : Array Bool) : List Nat := (List.range n).filter fun i => !l.getD i true

theorem openOps_less {n : Nat} {l : Array Bool} {i : Nat} (hi : i ∈ openOps n l) : (openOps n (l.setIfInBounds i true)).length < (openOps n l).length := by
  unfold openOps at hi ⊢
  have hm := List.mem_filter.1 hi
  have hlt : i < l.size := by
    have h2 := hm.2
    by_cases e : i < l.size
    · exact e
    · simp [Array.getD, e] at h2
  have e : (List.range n).filter (fun j => !(l.setIfInBounds i true).getD j true) = ((List.range n).filter fun j => !l.getD j true).filter (fun j => !(l.setIfInBounds i true).getD j true) := by
    rw [List.filter_filter]
    apply List.filter_congr
    intro j _
    by_cases ej : j = i
    · subst ej
      simp [Array.getD, hlt]
    · by_cases hj : j < l.size
      · simp [Array.getD, hj, Ne.symm ej]
      · simp [Array.getD, hj]
  rw [e]
  refine Nat.lt_of_le_of_ne (List.length_filter_le _ _) fun h => ?_
  have := (List.length_filter_eq_length_iff.1 h) i hi
  simp [Array.getD, hlt] at this

theorem ready_open {md : Region.Mode} {ops : Array Oper} {l : Array Bool} {i : Nat} (h : i ∈ Region.ready md ops l) : i ∈ openOps ops.size l := by
  unfold Region.ready at h
  unfold openOps
  have := List.mem_filter.1 h
  refine List.mem_filter.2 ⟨this.1, ?_⟩
  have h2 := this.2
  simp only [Bool.and_eq_true] at h2
  exact h2.1

theorem wpAny_inv {P : Program} {md : Region.Mode} {ops : Array Oper} {Q : Exit → Act → World → Prop} (I : Array Bool → Act → World → Prop)
    (hend : ∀ l a w, I l a w → Region.ready md ops l = [] → Q .normal a w)
    (hstep : ∀ l a w, I l a w → ∀ i, i ∈ Region.ready md ops l → wpOp P ops Q i (I (l.setIfInBounds i true)) a w) :
    ∀ fuel l a w, I l a w → (openOps ops.size l).length ≤ fuel → wpAny P md ops Q fuel l a w := by
  intro fuel
  induction fuel with
  | zero =>
    intro l a w hI hl
    have hnil : Region.ready md ops l = [] := by
      cases hr : Region.ready md ops l with
      | nil => rfl
      | cons x xs =>
        have hx : x ∈ Region.ready md ops l := by rw [hr]; exact List.mem_cons_self
        have := List.length_pos_of_mem (ready_open hx)
        omega
    exact ⟨hnil, hend l a w hI hnil⟩
  | succ fuel ih =>
    intro l a w hI hl
    refine ⟨hend l a w hI, fun i hi => wpOp_mono (fun a w hI2 => ih _ a w hI2 ?_) (hstep l a w hI i hi)⟩
    have := openOps_less (ready_open hi)
    omega

/-- A region that draws its order. -/
theorem wp_region_inv {P : Program} {ops : Array Oper} {Q : Exit → Act → World → Prop} {id : Nat} {a : Act} {w : World} (hm : P.follows .mixedOrders = true) (I : Array Bool → Act → World → Prop)
    (h0 : I (Array.replicate ops.size false) a w.drew)
    (hend : ∀ l a w, I l a w → Region.ready .any ops l = [] → Q .normal a w)
    (hstep : ∀ l a w, I l a w → ∀ i, i ∈ Region.ready .any ops l → wpOp P ops Q i (I (l.setIfInBounds i true)) a w) : (Code.region id ops true).wp P Q a w := by
  refine wp_region_any hm (wpAny_inv I hend hstep _ _ _ _ h0 ?_)
  have := List.length_filter_le (fun i => !(Array.replicate ops.size false).getD i true) (List.range ops.size)
  simpa [openOps] using this

/-- An operation, what follows behind a variable. -/
theorem wpOp_mk {P : Program} {ops : Array Oper} {Q : Exit → Act → World → Prop} {i : Nat} {o : Oper} {K0 : Act → World → Prop} {a : Act} {w : World} (ho : ops[i]? = some o)
    (h : ∀ K : Act → World → Prop, (∀ a w, K0 a w → K a w) → if Region.wanted o (yielded ops a.tmps) = true then Oper.wp P o a w K Q else K (a.put o.dst undef) w) : wpOp P ops Q i K0 a w := by
  have h1 := h K0 (fun _ _ h => h)
  unfold wpOp
  rw [ho]
  by_cases e : Region.wanted o (yielded ops a.tmps) = true
  · simp only [e, if_true] at h1 ⊢
    exact .inl h1
  · simp only [e] at h1 ⊢
    exact h1
end Go.Proofs.YtkipkkaloiefpaaGreatDoor
