/- A map from numbers to strings that the call itself has made: made, asked, written, each at the operation. -/
import Derived.Test.YtoipgliokelcfaaGreatDoorWalk
import Derived.Maps.OwnSet
import Derived.Maps.StringElems
namespace Go.Proofs.YtoipgliokelcfaaGreatDoor
open Go.RowKit Go.Maps

/-- Block b of w is a map of at most n entries that has M s at each number s below 1000. -/
def NumMap (P : Program) (k e : TypeId) (w : World) (b n : Nat) (M : Nat → Option (List UInt8)) : Prop :=
  ∃ D : DataW Unit, w.ownsMap P k (plainElem P e) b n D ∧ IsMap D ∧ ∀ s : Nat, s < 1000 → Maps.has D (.int .i64 s) = (M s).isSome ∧ D.atKey (.int .i64 s) (.lit (.string [])) = .lit (.string ((M s).getD []))

/-- The map, with an entry more. -/
def putAt (M : Nat → Option (List UInt8)) (s : Nat) (l : List UInt8) : Nat → Option (List UInt8) := fun x => if x = s then some l else M x

section
variable {P : Program} {k e : TypeId} {w : World} {b n : Nat} {M : Nat → Option (List UInt8)}

theorem NumMap.kept {w' : World} {row : Option Nat} (h : NumMap P k e w b n M) (hg : w.grownBy w' row) (hne : some b ≠ row) : NumMap P k e w' b n M := by
  obtain ⟨D, h1, h2, h3⟩ := h
  exact ⟨D, h1.kept hg hne, h2, h3⟩
theorem NumMap.alloc (h : NumMap P k e w b n M) (o : Obj) : NumMap P k e (w.alloc o) b n M := h.kept (World.grownBy_alloc w o none) (by simp)
theorem NumMap.lt (h : NumMap P k e w b n M) : b < w.heap.size := by obtain ⟨D, h1, _⟩ := h; exact h1.lt
theorem NumMap.drew (h : NumMap P k e w b n M) : NumMap P k e w.drew b n M := h
theorem NumMap.drewN (h : NumMap P k e w b n M) (q : Nat) : NumMap P k e (w.drewN q) b n M := h

theorem NumMap.made (P : Program) (k e : TypeId) (w : World) : NumMap P k e (w.alloc (.map #[] 0)) w.heap.size 0 (fun _ => none) :=
  ⟨.map [], World.ownsMap_made _ _ _ _, isMap_empty, fun _ _ => ⟨rfl, rfl⟩⟩

theorem lit_ne {s x : Nat} (h : x ≠ s) : (Lit.int .i64 (x : Int)) ≠ .int .i64 (s : Int) := fun e => h (by cases e; rfl)

theorem NumMap.put_data {D : DataW Unit} (h1 : IsMap D) (h : ∀ s : Nat, s < 1000 → Maps.has D (.int .i64 s) = (M s).isSome ∧ D.atKey (.int .i64 s) (.lit (.string [])) = .lit (.string ((M s).getD []))) (s : Nat) (l : List UInt8) :
    ∀ x : Nat, x < 1000 → Maps.has (D.put (.int .i64 s) (.lit (.string l))) (.int .i64 x) = (putAt M s l x).isSome ∧ (D.put (.int .i64 s) (.lit (.string l))).atKey (.int .i64 x) (.lit (.string [])) = .lit (.string ((putAt M s l x).getD [])) := by
  intro x hx
  by_cases e : x = s
  · subst e
    have hk : WideAt.IsKeyLit (Lit.int .i64 (x : Int)) := trivial
    rw [has_put_same h1 hk, atKey_put_same h1 hk]
    simp [putAt]
  · rw [has_put_other (lit_ne e), atKey_put_other (lit_ne e)]
    simpa [putAt, e] using h x hx

theorem wf_small {s : Nat} (h : s < 1000) : (Lit.int .i64 (s : Int)).wf = true := WalkArith.wf_i64 (by omega)

/-- The map literal's entry, at the operation. -/
theorem wpList_insert_own {ops : Array Oper} {rest : List Oper} {o : Oper} {a : Act} {Q : Exit → Act → World → Prop}
    (hg : o.guard = none) (m x v : Operand) (t : TypeId) (hop : o.op = Op.insert t m x v)
    (hk : P.underlying k = some (.int .i64)) (ht : P.underlying t = some (.map k e)) (he : P.underlying e = some .string)
    (hm : a.eval m = .map (some b)) (hown : NumMap P k e w b n M) (hn : n < 1000000) (s : Nat) (hs : s < 1000) (l : ByteArray) (hl : l.size ≤ 1000000) (hx : a.eval x = .int .i64 s) (hv : a.eval v = .string l)
    (hK : ∀ w', NumMap P k e w' b (n + 1) (putAt M s l.data.toList) → w.grownBy w' (some b) → wpList P ops Q rest (a.put o.dst undef) w') :
    wpList P ops Q (o :: rest) a w := by
  obtain ⟨D, h1, h2, h3⟩ := hown
  refine wpList_plain hg fun K' hK' => ?_
  obtain ⟨w', hrun, r1, r2⟩ := h1.update (int_keyed hk) ht (by unfold maxLen; omega) (keyOf_int_mk hk (wf_small hs)) (plainElem_string he (s := l) (by unfold maxLen; omega))
  unfold Oper.wp
  simp [execOp, hop, hm, hx, hv, hrun, Result.andThen]
  exact hK' _ _ (hK w' ⟨_, r1, h2.put _ _, NumMap.put_data h2 h3 s _⟩ r2)

/-- An entry is set, at the operation. -/
theorem wpList_mapset_own {ops : Array Oper} {rest : List Oper} {o : Oper} {a : Act} {Q : Exit → Act → World → Prop}
    (hg : o.guard = none) (m x v : Operand) (t : TypeId) (hop : o.op = Op.mapUpdate t m x v)
    (hk : P.underlying k = some (.int .i64)) (ht : P.underlying t = some (.map k e)) (he : P.underlying e = some .string)
    (hm : a.eval m = .map (some b)) (hown : NumMap P k e w b n M) (hn : n < 1000000) (s : Nat) (hs : s < 1000) (l : ByteArray) (hl : l.size ≤ 1000000) (hx : a.eval x = .int .i64 s) (hv : a.eval v = .string l)
    (hK : ∀ w', NumMap P k e w' b (n + 1) (putAt M s l.data.toList) → w.grownBy w' (some b) → wpList P ops Q rest (a.put o.dst undef) w') :
    wpList P ops Q (o :: rest) a w := by
  obtain ⟨D, h1, h2, h3⟩ := hown
  refine wpList_plain hg fun K' hK' => ?_
  obtain ⟨w', hrun, r1, r2⟩ := h1.update (int_keyed hk) ht (by unfold maxLen; omega) (keyOf_int_mk hk (wf_small hs)) (plainElem_string he (s := l) (by unfold maxLen; omega))
  unfold Oper.wp
  simp [execOp, hop, hm, hx, hv, hrun, Result.andThen]
  exact hK' _ _ (hK w' ⟨_, r1, h2.put _ _, NumMap.put_data h2 h3 s _⟩ r2)

theorem string_eq (s : ByteArray) : s = ⟨s.data.toList.toArray⟩ := by
  obtain ⟨⟨l⟩⟩ := s
  rfl

/-- The run of a look-up. -/
theorem NumMap.look (hk : P.underlying k = some (.int .i64)) {t : TypeId} (ht : P.underlying t = some (.map k e)) (he : P.underlying e = some .string) (hz : (zeroValue e).run P w = .ok (.string ⟨#[]⟩) w)
    (h : NumMap P k e w b n M) {s : Nat} (hs : s < 1000) : (Instr.lookup t (.map (some b)) (.int .i64 s) false).run P w = .ok (.string ⟨((M s).getD []).toArray⟩) w := by
  obtain ⟨D, h1, h2, h3⟩ := h
  obtain ⟨v, ps, hrun, hv⟩ := h1.lookup (int_keyed hk) ht hz (zd := .lit (.string [])) (zp := []) (plainElem_string he (s := ⟨#[]⟩) (by decide)) (keyOf_int_mk hk (wf_small hs))
  rw [(h3 s hs).2] at hv
  obtain ⟨s', rfl, e1, _⟩ := plainElem_string_inv he hv
  rw [hrun]
  simp only [Prod.mk.injEq, DataW.lit.injEq, Lit.string.injEq] at e1
  rw [e1.1, ← string_eq]

theorem NumMap.look_ok (hk : P.underlying k = some (.int .i64)) {t : TypeId} (ht : P.underlying t = some (.map k e)) (he : P.underlying e = some .string) (hz : (zeroValue e).run P w = .ok (.string ⟨#[]⟩) w)
    (h : NumMap P k e w b n M) {s : Nat} (hs : s < 1000) : (Instr.lookup t (.map (some b)) (.int .i64 s) true).run P w = .ok (.tuple #[.string ⟨((M s).getD []).toArray⟩, .bool (M s).isSome]) w := by
  obtain ⟨D, h1, h2, h3⟩ := h
  obtain ⟨v, ps, hrun, hv⟩ := h1.look_ok (int_keyed hk) ht hz (zd := .lit (.string [])) (zp := []) (plainElem_string he (s := ⟨#[]⟩) (by decide)) (keyOf_int_mk hk (wf_small hs))
  rw [(h3 s hs).2] at hv
  obtain ⟨s', rfl, e1, _⟩ := plainElem_string_inv he hv
  rw [hrun, (h3 s hs).1]
  simp only [Prod.mk.injEq, DataW.lit.injEq, Lit.string.injEq] at e1
  rw [e1.1, ← string_eq]
end
end Go.Proofs.YtoipgliokelcfaaGreatDoor
