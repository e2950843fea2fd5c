/- A map with strings as keys that the call itself has made: made, asked, written, each at the operation. -/
import Derived.Test.YtkipkkaloiefpaaGreatDoorMaps
import Derived.StringKeys
namespace Go.Proofs.YtkipkkaloiefpaaGreatDoor
open Go.RowKit Go.Maps

/-- The value of a plain datum. -/
def litVal : Lit → Value
  | .bool b => .bool b
  | .int q a => .int q a
  | .string l => .string ⟨l.toArray⟩
  | _ => undef

/-- Block b of w is a map of at most n entries that has M s at the string s. -/
def StrMap (P : Program) (k e : TypeId) (w : World) (b n : Nat) (M : List UInt8 → Option Lit) : Prop :=
  ∃ D : DataW Unit, w.ownsMap P k (plainElem P e) b n D ∧ IsMap D ∧ ∀ s : List UInt8, Maps.has D (.string s) = (M s).isSome ∧ ∀ z : Lit, D.atKey (.string s) (.lit z) = .lit ((M s).getD z)

/-- The map, with an entry more. -/
def putS (M : List UInt8 → Option Lit) (s : List UInt8) (l : Lit) : List UInt8 → Option Lit := fun x => if x = s then some l else M x

section
variable {P : Program} {k e : TypeId} {w : World} {b n : Nat} {M : List UInt8 → Option Lit}

theorem plainElem_litVal {v : Value} {x : Lit} {ps : List MemPlace} (h : plainElem (H := Unit) P e v = some (.lit x, ps)) : v = litVal x := by
  unfold plainElem at h
  split at h
  · cases h
    rfl
  · split at h
    · rename_i hh
      obtain ⟨rfl, _⟩ := hh
      cases h
      rfl
    · cases h
  · split at h
    · cases h
      exact congrArg Value.string (string_eq _)
    · cases h
  · cases h

theorem StrMap.kept {w' : World} {row : Option Nat} (h : StrMap P k e w b n M) (hg : w.grownBy w' row) (hne : some b ≠ row) : StrMap P k e w' b n M := by
  obtain ⟨D, h1, h2, h3⟩ := h
  exact ⟨D, h1.kept hg hne, h2, h3⟩
theorem StrMap.alloc (h : StrMap P k e w b n M) (o : Obj) : StrMap P k e (w.alloc o) b n M := h.kept (World.grownBy_alloc w o none) (by simp)
theorem StrMap.lt (h : StrMap P k e w b n M) : b < w.heap.size := by obtain ⟨D, h1, _⟩ := h; exact h1.lt
theorem StrMap.drew (h : StrMap P k e w b n M) : StrMap P k e w.drew b n M := h
theorem StrMap.drewN (h : StrMap P k e w b n M) (q : Nat) : StrMap P k e (w.drewN q) b n M := h
theorem StrMap.setCell (h : StrMap P k e w b n M) {a : Addr} (ha : b ≠ a.block) (u : Value) : StrMap P k e (w.setCell a u) b n M := by
  obtain ⟨D, h1, h2, h3⟩ := h
  exact ⟨D, h1.setCell ha u, h2, h3⟩
theorem StrMap.below {w' : World} {B : Nat} (h : StrMap P k e w b n M) (hb : Below B w w') (hB : b < B) : StrMap P k e w' b n M := by
  obtain ⟨D, ⟨es, clock, hbl, r⟩, h2, h3⟩ := h
  exact ⟨D, ⟨es, clock, (hb.block b hB).trans hbl, r⟩, h2, h3⟩
theorem StrMap.same {M' : List UInt8 → Option Lit} (h : StrMap P k e w b n M) (hM : ∀ s, M' s = M s) : StrMap P k e w b n M' := (funext hM : M' = M) ▸ h
theorem StrMap.up {n' : Nat} (h : StrMap P k e w b n M) (hn : n ≤ n') : StrMap P k e w b n' M := by
  obtain ⟨D, ⟨es, clock, h1, h2, h3, h4⟩, r⟩ := h
  exact ⟨D, ⟨es, clock, h1, h2, Nat.le_trans h3 hn, h4⟩, r⟩

theorem StrMap.made (P : Program) (k e : TypeId) (w : World) : StrMap P k e (w.alloc (.map #[] 0)) w.heap.size 0 (fun _ => none) :=
  ⟨.map [], World.ownsMap_made _ _ _ _, isMap_empty, fun _ => ⟨rfl, fun _ => rfl⟩⟩

theorem slit_ne {s x : List UInt8} (h : x ≠ s) : (Lit.string x) ≠ .string s := fun e => h (by cases e; rfl)

theorem StrMap.put_data {D : DataW Unit} (h1 : IsMap D) (h : ∀ s : List UInt8, Maps.has D (.string s) = (M s).isSome ∧ ∀ z : Lit, D.atKey (.string s) (.lit z) = .lit ((M s).getD z)) (s : List UInt8) (l : Lit) :
    ∀ x : List UInt8, Maps.has (D.put (.string s) (.lit l)) (.string x) = (putS M s l x).isSome ∧ ∀ z : Lit, (D.put (.string s) (.lit l)).atKey (.string x) (.lit z) = .lit ((putS M s l x).getD z) := by
  intro x
  by_cases e : x = s
  · subst e
    have hk : WideAt.IsKeyLit (Lit.string x) := trivial
    refine ⟨?_, fun z => ?_⟩
    · rw [has_put_same h1 hk]
      simp [putS]
    · rw [atKey_put_same h1 hk]
      simp [putS]
  · refine ⟨?_, fun z => ?_⟩
    · rw [has_put_other (slit_ne e)]
      simpa [putS, e] using (h x).1
    · rw [atKey_put_other (slit_ne e)]
      simpa [putS, e] using (h x).2 z

/-- The map literal's entry, at the operation. -/
theorem wpList_insert_str {ops : Array Oper} {rest : List Oper} {o : Oper} {a : Act} {Q : Exit → Act → World → Prop}
    (hg : o.guard = none) (m x v : Operand) (t : TypeId) (hop : o.op = Op.insert t m x v)
    (hk : P.underlying k = some .string) (ht : P.underlying t = some (.map k e))
    (hm : a.eval m = .map (some b)) (hown : StrMap P k e w b n M) (hn : n < 1000000) (s : ByteArray) (hs : s.size ≤ 1048576) (l : Lit) (val : Value) (hl : plainElem (H := Unit) P e val = some (.lit l, [])) (hx : a.eval x = .string s) (hv : a.eval v = val)
    (hK : ∀ w', StrMap P k e w' b (n + 1) (putS M s.data.toList l) → w.grownBy w' (some b) → wpList P ops Q rest (a.put o.dst undef) w') :
    wpList P ops Q (o :: rest) a w := by
  obtain ⟨D, h1, h2, h3⟩ := hown
  refine wpList_plain hg fun K' hK' => ?_
  obtain ⟨w', hrun, r1, r2⟩ := h1.update (string_keyed hk) ht (by unfold maxLen; omega) (WideMaps.keyOf_string_mk hk (s := s) (by unfold maxLen; omega)) hl
  unfold Oper.wp
  simp [execOp, hop, hm, hx, hv, hrun, Result.andThen]
  exact hK' _ _ (hK w' ⟨_, r1, h2.put _ _, StrMap.put_data h2 h3 _ _⟩ r2)

/-- An entry is set, at the operation. -/
theorem wpList_mapset_str {ops : Array Oper} {rest : List Oper} {o : Oper} {a : Act} {Q : Exit → Act → World → Prop}
    (hg : o.guard = none) (m x v : Operand) (t : TypeId) (hop : o.op = Op.mapUpdate t m x v)
    (hk : P.underlying k = some .string) (ht : P.underlying t = some (.map k e))
    (hm : a.eval m = .map (some b)) (hown : StrMap P k e w b n M) (hn : n < 1000000) (s : ByteArray) (hs : s.size ≤ 1048576) (l : Lit) (val : Value) (hl : plainElem (H := Unit) P e val = some (.lit l, [])) (hx : a.eval x = .string s) (hv : a.eval v = val)
    (hK : ∀ w', StrMap P k e w' b (n + 1) (putS M s.data.toList l) → w.grownBy w' (some b) → wpList P ops Q rest (a.put o.dst undef) w') :
    wpList P ops Q (o :: rest) a w := by
  obtain ⟨D, h1, h2, h3⟩ := hown
  refine wpList_plain hg fun K' hK' => ?_
  obtain ⟨w', hrun, r1, r2⟩ := h1.update (string_keyed hk) ht (by unfold maxLen; omega) (WideMaps.keyOf_string_mk hk (s := s) (by unfold maxLen; omega)) hl
  unfold Oper.wp
  simp [execOp, hop, hm, hx, hv, hrun, Result.andThen]
  exact hK' _ _ (hK w' ⟨_, r1, h2.put _ _, StrMap.put_data h2 h3 _ _⟩ r2)

/-- The run of a look-up. -/
theorem StrMap.look (hk : P.underlying k = some .string) {t : TypeId} (ht : P.underlying t = some (.map k e)) (z : Lit) (hz : (zeroValue e).run P w = .ok (litVal z) w) (hzp : plainElem (H := Unit) P e (litVal z) = some (.lit z, []))
    (h : StrMap P k e w b n M) (s : ByteArray) (hs : s.size ≤ 1048576) : (Instr.lookup t (.map (some b)) (.string s) false).run P w = .ok (litVal ((M s.data.toList).getD z)) w := by
  obtain ⟨D, h1, h2, h3⟩ := h
  obtain ⟨v, ps, hrun, hv⟩ := h1.lookup (string_keyed hk) ht hz (zd := .lit z) (zp := []) hzp (WideMaps.keyOf_string_mk hk (s := s) (by unfold maxLen; omega))
  rw [(h3 _).2] at hv
  rw [hrun, plainElem_litVal hv]

theorem StrMap.look_ok (hk : P.underlying k = some .string) {t : TypeId} (ht : P.underlying t = some (.map k e)) (z : Lit) (hz : (zeroValue e).run P w = .ok (litVal z) w) (hzp : plainElem (H := Unit) P e (litVal z) = some (.lit z, []))
    (h : StrMap P k e w b n M) (s : ByteArray) (hs : s.size ≤ 1048576) : (Instr.lookup t (.map (some b)) (.string s) true).run P w = .ok (.tuple #[litVal ((M s.data.toList).getD z), .bool (M s.data.toList).isSome]) w := by
  obtain ⟨D, h1, h2, h3⟩ := h
  obtain ⟨v, ps, hrun, hv⟩ := h1.look_ok (string_keyed hk) ht hz (zd := .lit z) (zp := []) hzp (WideMaps.keyOf_string_mk hk (s := s) (by unfold maxLen; omega))
  rw [(h3 _).2] at hv
  rw [hrun, plainElem_litVal hv, (h3 _).1]
end
end Go.Proofs.YtkipkkaloiefpaaGreatDoor
