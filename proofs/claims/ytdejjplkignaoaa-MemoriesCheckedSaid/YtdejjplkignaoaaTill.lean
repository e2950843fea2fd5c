/- A region that draws its order: what is loaded holds till the late operations (those that wait for the loads) come: of these nothing is asked. -/
import Derived.Test.YtdejjplkignaoaaStream
import Derived.OrdersHeld
import Derived.Deep.RegionHeld3
namespace Go.Proofs.Ytdejjplkignaoaa
open Go.RowKit

section
variable {P : Program} {md : Region.Mode} {ops : Array Oper} {Q : Exit → Act → World → Prop} {S : World → Prop} {E : List Nat}

/-- In whatever order the rest comes: behind each operation that is not late S holds. -/
def wpTill (P : Program) (md : Region.Mode) (ops : Array Oper) (Q : Exit → Act → World → Prop) (S : World → Prop) (E : List Nat) (n : Nat) : Array Bool → Act → World → Prop :=
  n.rec (fun l a w => Region.ready md ops l = [] ∧ Q .normal a w)
    (fun _ more l a w => (Region.ready md ops l = [] → Q .normal a w) ∧ ∀ i ∈ Region.ready md ops l, wpOp P ops Q i (fun b x => (E.contains i = false → S x) ∧ more (l.setIfInBounds i true) b x) a w)

theorem till_any : ∀ (n : Nat) {l : Array Bool} {a : Act} {w : World}, wpTill P md ops Q S E n l a w → wpAny P md ops Q n l a w := by
  intro n
  induction n with
  | zero => exact fun h => h
  | succ n more => exact fun h => And.intro h.1 fun i hi => wpOp_mono (fun _ _ k => more k.2) (h.2 i hi)

/-- Each late operation waits for operation i, or for another late one. -/
def lateFor (md : Region.Mode) (ops : Array Oper) (E : List Nat) (i : Nat) : Bool :=
  E.all fun j => ((ops[j]?).map fun o => o.after.any fun e => Region.binds md e && (e.on == i || E.contains e.on)).getD true
/-- No late operation has come. -/
def noneYet (E : List Nat) (l : Array Bool) : Bool := E.all fun j => !l.getD j true

theorem lateFor_has {i j : Nat} {o : Oper} (h : lateFor md ops E i = true) (hj : E.contains j = true) (ho : ops[j]? = some o) : ∃ e ∈ o.after, Region.binds md e = true ∧ (e.on = i ∨ E.contains e.on = true) := by
  have h1 := List.all_eq_true.1 h j (by simpa using hj)
  rw [ho] at h1
  obtain ⟨e, he, hb⟩ := Array.any_eq_true'.1 h1
  rw [Bool.and_eq_true, Bool.or_eq_true, beq_iff_eq] at hb
  exact ⟨e, he, hb⟩
theorem noneYet_at {l : Array Bool} {j : Nat} (h : noneYet E l = true) (hj : E.contains j = true) : l.getD j true = false := by
  have h1 := List.all_eq_true.1 h j (by simpa using hj)
  simpa using h1
theorem noneYet_set {l : Array Bool} {j : Nat} (h : noneYet E l = true) (hj : E.contains j = false) : noneYet E (l.setIfInBounds j true) = true := by
  unfold noneYet
  rw [List.all_eq_true]
  intro k hk
  have hk2 : E.contains k = true := by simpa using hk
  have hne : j ≠ k := by
    rintro rfl
    rw [hj] at hk2
    cases hk2
  rw [getD_set_ne true hne, noneYet_at h hk2]
  rfl

/-- What yields in every world that meets S is taken first, if the late operations wait for it and none of them has come. -/
theorem till_first {i : Nat} {o : Oper} {v : Value} (ho : ops[i]? = some o) (hns : ∀ (j : Nat) (x : Oper) cs b, ops[j]? = some x → x.op ≠ .select cs b) (hp : ∀ c a w, Q (.panic c) (a.put o.dst v) w → Q (.panic c) a w) (hl : lateFor md ops E i = true) (n : Nat) :
    ∀ (l : Array Bool) (a : Act) (w : World), (∀ j x, ops[j]? = some x → j ≠ i → l.getD j true = false → (∀ e ∈ x.after, Region.binds md e = true → e.on ≠ i) → o.apart ops x = true) → noneYet E l = true → i ∈ Region.ready md ops l → YieldsIf P ops S o v a → S w → wpTill P md ops Q S E n (l.setIfInBounds i true) (a.put o.dst v) w → wpTill P md ops Q S E (n + 1) l a w := by
  induction n with
  | zero =>
    intro l a w _ _ hr hy hS hq
    refine ⟨fun h0 => (by rw [h0] at hr; cases hr), fun j hj => ?_⟩
    rcases Decidable.em (j = i) with rfl | hne
    · exact hy.wpOp ho hS ⟨fun _ => hS, hq⟩
    · have hm := ready_mono hj hne
      rw [hq.1] at hm
      cases hm
  | succ n more =>
    intro l a w hf hnone hr hy hS hq
    refine ⟨fun h0 => (by rw [h0] at hr; cases hr), fun j hj => ?_⟩
    rcases Decidable.em (j = i) with rfl | hne
    · exact hy.wpOp ho hS ⟨fun _ => hS, hq⟩
    obtain ⟨hju, x, hx, hw⟩ := mem_ready.1 hj
    have hsaid : ∀ e ∈ x.after, Region.binds md e = true → l.getD e.on true = false → False := by
      intro e he hb hiu
      have hli := hw e he hb
      by_cases hsz : e.on < l.size
      · simp [hsz] at hiu hli
        rw [hiu] at hli
        cases hli
      · simp [Array.getElem?_eq_none (Nat.not_lt.1 hsz)] at hli
    have hno : ∀ e ∈ x.after, Region.binds md e = true → e.on ≠ i := fun e he hb hon => hsaid e he hb (by rw [hon]; exact (mem_ready.1 hr).1)
    have hnl : E.contains j = false := by
      cases hc : E.contains j with
      | false => rfl
      | true =>
        obtain ⟨e, he, hb, hon | hon⟩ := lateFor_has hl hc hx
        · exact absurd hon (hno e he hb)
        · exact (hsaid e he hb (noneYet_at hnone hon)).elim
    refine wpOp_mono (fun b y k => ⟨k.2.1, more _ b y (fun p z hz hpi hpu hpn => hf p z hz hpi ?_ hpn) (noneYet_set hnone hnl) (ready_mono hr (Ne.symm hne)) k.1 (k.2.1 hnl) ?_⟩) (wpOp_putIf hx (hf j x hx hne hju hno) (fun cs b => hns i o cs b ho) (fun cs b => hns j x cs b hx) hp hy (hq.2 j (ready_mono hj hne)))
    · rcases Decidable.em (j = p) with rfl | hjp
      · exact hju
      · rwa [getD_set_ne true hjp] at hpu
    · rw [Array.setIfInBounds_comm _ _ hne]
      exact k.2.2

theorem till_take {i : Nat} {o : Oper} {v : Value} {n : Nat} {l : Array Bool} {a : Act} {w : World} (ho : ops[i]? = some o) (hs : Region.noSelect ops = true) (hf : Region.free md ops l i = true) (hr : (Region.ready md ops l).contains i = true) (hl : (lateFor md ops E i && noneYet E l) = true) (hp : ∀ c a w, Q (.panic c) (a.put o.dst v) w → Q (.panic c) a w) (hy : YieldsIf P ops S o v a) (hS : S w) (h : wpTill P md ops Q S E n (l.setIfInBounds i true) (a.put o.dst v) w) : wpTill P md ops Q S E (n + 1) l a w :=
  till_first ho (Region.noSelect_spec hs) hp (Bool.and_eq_true _ _ ▸ hl).1 n l a w (Region.free_spec ho hf) (Bool.and_eq_true _ _ ▸ hl).2 (by simpa using hr) hy hS h

theorem till_done {l : Array Bool} {a : Act} {w : World} (hr : Region.ready md ops l = []) (h : Q .normal a w) (n : Nat) : wpTill P md ops Q S E n l a w := by
  cases n with
  | zero => exact ⟨hr, h⟩
  | succ n => exact ⟨fun _ => h, fun i hi => (by rw [hr] at hi; cases hi)⟩

/-- Each of these may come next. -/
def TillReady (P : Program) (md : Region.Mode) (ops : Array Oper) (Q : Exit → Act → World → Prop) (S : World → Prop) (E : List Nat) (n : Nat) (l : Array Bool) (a : Act) (w : World) (rs : List Nat) : Prop :=
  ∀ i ∈ rs, wpOp P ops Q i (fun b x => (E.contains i = false → S x) ∧ wpTill P md ops Q S E n (l.setIfInBounds i true) b x) a w
theorem TillReady.nil {n : Nat} {l : Array Bool} {a : Act} {w : World} : TillReady P md ops Q S E n l a w [] := fun _ h => by cases h
/-- An operation that is not late: behind it S is shown. -/
theorem TillReady.cons {n : Nat} {l : Array Bool} {a : Act} {w : World} {i : Nat} {o : Oper} {rs : List Nat} (ho : ops[i]? = some o)
    (h : ∀ K : Act → World → Prop, Shut (∀ b x, S x → (S x → wpTill P md ops Q S E n (l.setIfInBounds i true) b x) → K b x) → if Region.wanted o (yielded ops a.tmps) = true then Oper.wp P o a w K Q else K (a.put o.dst undef) w)
    (hs : TillReady P md ops Q S E n l a w rs) : TillReady P md ops Q S E n l a w (i :: rs) := fun j hj => by
  rcases List.mem_cons.1 hj with rfl | hj
  · exact wpOp_step ho fun K hK => h K fun b x hS hW => hK b x ⟨fun _ => hS, hW hS⟩
  · exact hs j hj
/-- A late operation: nothing is shown. -/
theorem TillReady.late {n : Nat} {l : Array Bool} {a : Act} {w : World} {i : Nat} {o : Oper} {rs : List Nat} (ho : ops[i]? = some o) (hE : E.contains i = true)
    (h : ∀ K : Act → World → Prop, Shut (∀ b x, wpTill P md ops Q S E n (l.setIfInBounds i true) b x → K b x) → if Region.wanted o (yielded ops a.tmps) = true then Oper.wp P o a w K Q else K (a.put o.dst undef) w)
    (hs : TillReady P md ops Q S E n l a w rs) : TillReady P md ops Q S E n l a w (i :: rs) := fun j hj => by
  rcases List.mem_cons.1 hj with rfl | hj
  · exact wpOp_step ho fun K hK => h K fun b x hW => hK b x ⟨fun hc => (by rw [hE] at hc; cases hc), hW⟩
  · exact hs j hj
theorem till_ready {rs : List Nat} {n : Nat} {l : Array Bool} {a : Act} {w : World} (hr : Region.ready md ops l = rs) (hne : rs ≠ []) (h : TillReady P md ops Q S E n l a w rs) : wpTill P md ops Q S E (n + 1) l a w :=
  ⟨fun h0 => absurd (hr.symm.trans h0) hne, fun i hi => h i (hr ▸ hi)⟩
/-- The beginning. -/
theorem wp_region_till {id : Nat} {a : Act} {w : World} (E : List Nat) (hm : P.follows .mixedOrders = true) (hS : S w.drew) (h : S w.drew → wpTill P .any ops Q S E ops.size (Array.replicate ops.size false) a w.drew) : (Code.region id ops true).wp P Q a w :=
  wp_region_any hm (till_any _ (h hS))
end
end Go.Proofs.Ytdejjplkignaoaa
