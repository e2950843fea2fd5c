/- A map that the call itself has made, whatever its keys and its elements: told by a function from the keys' literals. -/
import Derived.Test.YtoipgliokelcfaaGreatDoorPdC
import Derived.Maps.OwnSet
import Derived.Maps.StringElems
import Derived.StringKeys
import Derived.Deep.AppendLies
namespace Go.Proofs.YtoipgliokelcfaaGreatDoor
open Go.RowKit Go.Maps

/-- Block b of w is a map of at most n entries that has M s at the key that reads as s; R is how elements read. -/
def LMap (P : Program) (k : TypeId) (R : Value → Option (DataW Unit × List MemPlace)) (w : World) (b n : Nat) (M : Lit → Option Lit) : Prop :=
  ∃ D : DataW Unit, w.ownsMap P k R b n D ∧ IsMap D ∧ ∀ s : Lit, WideAt.IsKeyLit s → Maps.has D s = (M s).isSome ∧ ∀ z : Lit, D.atKey s (.lit z) = .lit ((M s).getD z)

open Classical in
/-- The map, with an entry more. -/
noncomputable def putL (M : Lit → Option Lit) (s : Lit) (l : Lit) : Lit → Option Lit := fun x => if x = s then some l else M x

section
variable {P : Program} {k e : TypeId} {R : Value → Option (DataW Unit × List MemPlace)} {w : World} {b n : Nat} {M : Lit → Option Lit}

theorem LMap.kept {w' : World} {row : Option Nat} (h : LMap P k R w b n M) (hg : w.grownBy w' row) (hne : some b ≠ row) : LMap P k R w' b n M := by
  obtain ⟨D, h1, h2, h3⟩ := h
  exact ⟨D, h1.kept hg hne, h2, h3⟩
theorem LMap.alloc (h : LMap P k R w b n M) (o : Obj) : LMap P k R (w.alloc o) b n M := h.kept (World.grownBy_alloc w o none) (by simp)
theorem LMap.lt (h : LMap P k R w b n M) : b < w.heap.size := by obtain ⟨D, h1, _⟩ := h; exact h1.lt
theorem LMap.drew (h : LMap P k R w b n M) : LMap P k R w.drew b n M := h
theorem LMap.drewN (h : LMap P k R w b n M) (q : Nat) : LMap P k R (w.drewN q) b n M := h
theorem LMap.setCell (h : LMap P k R w b n M) {a : Addr} (ha : b ≠ a.block) (u : Value) : LMap P k R (w.setCell a u) b n M := by
  obtain ⟨D, h1, h2, h3⟩ := h
  exact ⟨D, h1.setCell ha u, h2, h3⟩
theorem LMap.below {w' : World} {B : Nat} (h : LMap P k R w b n M) (hb : Below B w w') (hB : b < B) : LMap P k R w' b n M := by
  obtain ⟨D, ⟨es, clock, hbl, r⟩, h2, h3⟩ := h
  exact ⟨D, ⟨es, clock, (hb.block b hB).trans hbl, r⟩, h2, h3⟩
theorem LMap.block {w' : World} (h : LMap P k R w b n M) (hb : w'.heap[b]? = w.heap[b]?) : LMap P k R w' b n M := by
  obtain ⟨D, ⟨es, clock, hbl, r⟩, h2, h3⟩ := h
  exact ⟨D, ⟨es, clock, hb.trans hbl, r⟩, h2, h3⟩
theorem LMap.same {M' : Lit → Option Lit} (h : LMap P k R w b n M) (hM : ∀ s, M' s = M s) : LMap P k R w b n M' := (funext hM : M' = M) ▸ h
theorem LMap.up {n' : Nat} (h : LMap P k R w b n M) (hn : n ≤ n') : LMap P k R w b n' M := by
  obtain ⟨D, ⟨es, clock, h1, h2, h3, h4⟩, r⟩ := h
  exact ⟨D, ⟨es, clock, h1, h2, Nat.le_trans h3 hn, h4⟩, r⟩

theorem LMap.made (P : Program) (k : TypeId) (R : Value → Option (DataW Unit × List MemPlace)) (w : World) : LMap P k R (w.alloc (.map #[] 0)) w.heap.size 0 (fun _ => none) :=
  ⟨.map [], World.ownsMap_made _ _ _ _, isMap_empty, fun _ _ => ⟨rfl, fun _ => rfl⟩⟩

theorem LMap.put_data {D : DataW Unit} (h1 : IsMap D) (h : ∀ s : Lit, WideAt.IsKeyLit s → Maps.has D s = (M s).isSome ∧ ∀ z : Lit, D.atKey s (.lit z) = .lit ((M s).getD z)) (s : Lit) (hs : WideAt.IsKeyLit s) (l : Lit) :
    ∀ x : Lit, WideAt.IsKeyLit x → Maps.has (D.put s (.lit l)) x = (putL M s l x).isSome ∧ ∀ z : Lit, (D.put s (.lit l)).atKey x (.lit z) = .lit ((putL M s l x).getD z) := by
  intro x hx
  by_cases e : x = s
  · subst e
    refine ⟨?_, fun z => ?_⟩
    · rw [has_put_same h1 hx]
      simp [putL]
    · rw [atKey_put_same h1 hx]
      simp [putL]
  · refine ⟨?_, fun z => ?_⟩
    · rw [has_put_other e]
      simpa [putL, e] using (h x hx).1
    · rw [atKey_put_other e]
      simpa [putL, e] using (h x hx).2 z

/-- The map literal's entry, at the operation. -/
theorem wpList_insert_lit {ops : Array Oper} {rest : List Oper} {o : Oper} {a : Act} {Q : Exit → Act → World → Prop}
    (hg : o.guard = none) (m x v : Operand) (t : TypeId) (hop : o.op = Op.insert t m x v)
    (K : Keyed P k) (ht : P.underlying t = some (.map k e))
    (hm : a.eval m = .map (some b)) (hown : LMap P k R w b n M) (hn : n < 1000000) (key : Value) (kl : Lit) (hkey : keyOf P k key = some kl) (l : Lit) (val : Value) (hl : R val = some (.lit l, [])) (hx : a.eval x = key) (hv : a.eval v = val)
    (hK : ∀ w', LMap P k R w' b (n + 1) (putL M kl l) → w.grownBy w' (some b) → wpList P ops Q rest (a.put o.dst undef) w') :
    wpList P ops Q (o :: rest) a w := by
  obtain ⟨D, h1, h2, h3⟩ := hown
  refine wpList_plain hg fun K' hK' => ?_
  obtain ⟨w', hrun, r1, r2⟩ := h1.update K ht (by unfold maxLen; omega) hkey hl
  unfold Oper.wp
  simp [execOp, hop, hm, hx, hv, hrun, Result.andThen]
  exact hK' _ _ (hK w' ⟨_, r1, h2.put _ _, LMap.put_data h2 h3 _ (K.key hkey) _⟩ r2)

/-- An entry is set, at the operation. -/
theorem wpList_mapset_lit {ops : Array Oper} {rest : List Oper} {o : Oper} {a : Act} {Q : Exit → Act → World → Prop}
    (hg : o.guard = none) (m x v : Operand) (t : TypeId) (hop : o.op = Op.mapUpdate t m x v)
    (K : Keyed P k) (ht : P.underlying t = some (.map k e))
    (hm : a.eval m = .map (some b)) (hown : LMap P k R w b n M) (hn : n < 1000000) (key : Value) (kl : Lit) (hkey : keyOf P k key = some kl) (l : Lit) (val : Value) (hl : R val = some (.lit l, [])) (hx : a.eval x = key) (hv : a.eval v = val)
    (hK : ∀ w', LMap P k R w' b (n + 1) (putL M kl l) → w.grownBy w' (some b) → wpList P ops Q rest (a.put o.dst undef) w') :
    wpList P ops Q (o :: rest) a w := by
  obtain ⟨D, h1, h2, h3⟩ := hown
  refine wpList_plain hg fun K' hK' => ?_
  obtain ⟨w', hrun, r1, r2⟩ := h1.update K ht (by unfold maxLen; omega) hkey hl
  unfold Oper.wp
  simp [execOp, hop, hm, hx, hv, hrun, Result.andThen]
  exact hK' _ _ (hK w' ⟨_, r1, h2.put _ _, LMap.put_data h2 h3 _ (K.key hkey) _⟩ r2)

/-- The run of a look-up. -/
theorem LMap.look (K : Keyed P k) {t : TypeId} (ht : P.underlying t = some (.map k e)) (vl : Lit → Value) (hR : ∀ v l ps, R v = some (.lit l, ps) → v = vl l) (z : Lit) (hz : (zeroValue e).run P w = .ok (vl z) w) (hzp : R (vl z) = some (.lit z, []))
    (h : LMap P k R w b n M) (key : Value) (kl : Lit) (hkey : keyOf P k key = some kl) : (Instr.lookup t (.map (some b)) key false).run P w = .ok (vl ((M kl).getD z)) w := by
  obtain ⟨D, h1, h2, h3⟩ := h
  obtain ⟨v, ps, hrun, hv⟩ := h1.lookup K ht hz (zd := .lit z) (zp := []) hzp hkey
  rw [(h3 _ (K.key hkey)).2] at hv
  rw [hrun, hR _ _ _ hv]

theorem LMap.look_ok (K : Keyed P k) {t : TypeId} (ht : P.underlying t = some (.map k e)) (vl : Lit → Value) (hR : ∀ v l ps, R v = some (.lit l, ps) → v = vl l) (z : Lit) (hz : (zeroValue e).run P w = .ok (vl z) w) (hzp : R (vl z) = some (.lit z, []))
    (h : LMap P k R w b n M) (key : Value) (kl : Lit) (hkey : keyOf P k key = some kl) : (Instr.lookup t (.map (some b)) key true).run P w = .ok (.tuple #[vl ((M kl).getD z), .bool (M kl).isSome]) w := by
  obtain ⟨D, h1, h2, h3⟩ := h
  obtain ⟨v, ps, hrun, hv⟩ := h1.look_ok K ht hz (zd := .lit z) (zp := []) hzp hkey
  rw [(h3 _ (K.key hkey)).2] at hv
  rw [hrun, hR _ _ _ hv, (h3 _ (K.key hkey)).1]
end
end Go.Proofs.YtoipgliokelcfaaGreatDoor
