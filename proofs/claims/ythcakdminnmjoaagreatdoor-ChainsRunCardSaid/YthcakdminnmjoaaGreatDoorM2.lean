/- The chain in memory; what it does at a clock. -/
import Derived.Test.YthcakdminnmjoaaGreatDoorM1
import Derived.Test.YthcakdminnmjoaaGreatDoorNewQ
import Derived.Test.YthcakdminnmjoaaGreatDoorIdBy
import Derived.Deep.AppendLies
namespace Go.Proofs.YthcakdminnmjoaaGreatDoor
open Go.RowKit Go.Maps

/-- How a pointer to a whole block reads in a map. -/
def ptrR (v : Value) : Option (DataW Unit × List MemPlace) :=
  match v with
  | .pointer none => some (.lit (.bool false), [])
  | .pointer (some ⟨b, 0, none⟩) => some (.lit (.int .i64 (b : Int)), [])
  | _ => none
def ptrV (l : Lit) : Value :=
  match l with
  | .int _ z => .pointer (some ⟨z.toNat, 0, none⟩)
  | _ => .pointer none
theorem ptrR_ptrV : ∀ v l ps, ptrR v = some (.lit l, ps) → v = ptrV l := by
  intro v l ps h
  unfold ptrR at h
  split at h
  · cases h
    rfl
  · cases h
    simp [ptrV]
  · cases h
/-- The ports by the names of their devices. -/
noncomputable def byM (dev : Nat → Dev) (pbs : Nat → Nat) : Nat → Lit → Option Lit
  | 0 => fun _ => none
  | k + 1 => putL (byM dev pbs k) (.string (dev k).name.data.toList) (.int .i64 (pbs k : Int))

/-- A chain of n devices in block cb. -/
structure ChainAt (o : Nat → Nat) (n N : Nat) (w : World) (cb g cap mb : Nat) (pbs : Nat → Nat) (st : Nat) (dev : Nat → Dev) (ps : Nat → PS) : Prop where
  n_le : n ≤ 20
  st_lt : st < 16
  c0 : w.cell? ⟨cb, 0, none⟩ = some (.int .i64 (st : Int))
  f0 : w.frozen? ⟨cb, 0, none⟩ = false
  c1 : w.cell? ⟨cb, 1, none⟩ = some (.slice (some ⟨g, 0, none⟩) n cap)
  c2 : w.cell? ⟨cb, 2, none⟩ = some (.map (some mb))
  row : ∀ j, j < n → w.cell? ⟨g, j, none⟩ = some (.pointer (some ⟨pbs j, 0, none⟩))
  map2 : LMap Tryz.prog 9 ptrR w mb n (byM dev pbs n)
  own : o cb = n ∧ o g = n ∧ o mb = n ∧ cb ≠ g ∧ cb ≠ mb
  glt : g < w.heap.size
  ports : ∀ k, k < n → PortAt o k N w (pbs k) (dev k) (ps k)

theorem PortAt.over {o o' : Nat → Nat} {j N : Nat} {w w' : World} {pb : Nat} {d : Dev} {p : PS} (h : PortAt o j N w pb d p) (ho : ∀ b, b < w.heap.size → o' b = o b) (hT : ∀ b, b < w.heap.size → o b = j → w'.heap[b]? = w.heap[b]?) : PortAt o' j N w' pb d p := by
  obtain ⟨m1, m3, m4, bb, h⟩ := h
  have h1 : PortOf o' j N w pb m1 m3 m4 bb d p := h.tale fun b hb e => (ho b hb).trans e
  exact ⟨m1, m3, m4, bb, h1.kept fun b hb e => hT b hb ((ho b hb).symm.trans e)⟩
theorem PortAt.up {o : Nat → Nat} {j N N' : Nat} {w : World} {pb : Nat} {d : Dev} {p : PS} (h : PortAt o j N w pb d p) (hN : N ≤ N') : PortAt o j N' w pb d p := by
  obtain ⟨m1, m3, m4, bb, h⟩ := h
  exact ⟨m1, m3, m4, bb, h.up hN⟩

/-- The world when the first k ports have done what they do: f. -/
def ActI (o : Nat → Nat) (n N : Nat) (w : World) (pbs : Nat → Nat) (dev : Nat → Dev) (ps f : Nat → PS) (k : Nat) (W : World) : Prop :=
  ∃ o', (∀ b, b < w.heap.size → o' b = o b) ∧ (∀ j, j < n → PortAt o' j (if j < k then N + 1 else N) W (pbs j) (dev j) (if j < k then f j else ps j)) ∧ Touch (fun b => o b < n) w W

theorem ActI.did {o o' : Nat → Nat} {n N : Nat} {w W W2 : World} {pbs : Nat → Nat} {dev : Nat → Dev} {ps f : Nat → PS} {k : Nat} (hk : k < n) (ho : ∀ b, b < w.heap.size → o' b = o b)
    (hp : ∀ j, j < n → PortAt o' j (if j < k then N + 1 else N) W (pbs j) (dev j) (if j < k then f j else ps j)) (hT : Touch (fun b => o b < n) w W) {N' : Nat} (hN' : N' ≤ N + 1) (hD : PortDid o' k N' W (pbs k) (dev k) (f k) W2) : ActI o n N w pbs dev ps f (k + 1) W2 := by
  obtain ⟨o2, h1, h2, h3⟩ := hD
  refine ⟨o2, fun b hb => (h1 b (Nat.lt_of_lt_of_le hb hT.size)).trans (ho b hb), fun j hj => ?_, ?_⟩
  · by_cases e : j = k
    · rw [if_pos (by omega), if_pos (by omega), e]
      exact h2.up hN'
    · have hj2 := (hp j hj).over h1 (w' := W2) (fun b hb eb => h3.block b hb (fun e2 => e (eb.symm.trans e2)))
      by_cases hlt : j < k
      · rw [if_pos (by omega), if_pos (by omega)]
        rw [if_pos hlt, if_pos hlt] at hj2
        exact hj2
      · rw [if_neg (by omega), if_neg (by omega)]
        rw [if_neg hlt, if_neg hlt] at hj2
        exact hj2
  · exact ⟨h3.os.trans hT.os, h3.tape.trans hT.tape, h3.output.trans hT.output, Nat.le_trans hT.size h3.size, fun b hb hn => (h3.block b (Nat.lt_of_lt_of_le hb hT.size) (fun e => hn (by rw [← ho b hb, e]; exact hk))).trans (hT.block b hb hn)⟩

/-- What a clock leaves of a chain. -/
def ChainDid (o : Nat → Nat) (n N : Nat) (w : World) (cb g cap mb : Nat) (pbs : Nat → Nat) (st : Nat) (dev : Nat → Dev) (ps : Nat → PS) (w' : World) : Prop :=
  ∃ o', (∀ b, b < w.heap.size → o' b = o b) ∧ ChainAt o' n N w' cb g cap mb pbs st dev ps ∧ Touch (fun b => o b ≤ n) w w'

theorem ChainAt.cblt {o : Nat → Nat} {n N : Nat} {w : World} {cb g cap mb : Nat} {pbs : Nat → Nat} {st : Nat} {dev : Nat → Dev} {ps : Nat → PS} (h : ChainAt o n N w cb g cap mb pbs st dev ps) : cb < w.heap.size := World.block_lt_of_cell? w ⟨cb, 0, none⟩ h.c0

theorem ActI.start {o : Nat → Nat} {n N : Nat} {w : World} {cb g cap mb : Nat} {pbs : Nat → Nat} {st : Nat} {dev : Nat → Dev} {ps : Nat → PS} (h : ChainAt o n N w cb g cap mb pbs st dev ps) (f : Nat → PS) : ActI o n N w pbs dev ps f 0 w :=
  ⟨o, fun _ _ => rfl, fun j hj => by simpa using h.ports j hj, Touch.refl _ _⟩
theorem ChainAt.own_kept {o : Nat → Nat} {n N : Nat} {w W : World} {cb g cap mb : Nat} {pbs : Nat → Nat} {st : Nat} {dev : Nat → Dev} {ps : Nat → PS} (h : ChainAt o n N w cb g cap mb pbs st dev ps) (hT : Touch (fun b => o b < n) w W) : (∀ j, W.cell? ⟨cb, j, none⟩ = w.cell? ⟨cb, j, none⟩) ∧ (∀ j, W.frozen? ⟨cb, j, none⟩ = w.frozen? ⟨cb, j, none⟩) ∧ (∀ j, W.cell? ⟨g, j, none⟩ = w.cell? ⟨g, j, none⟩) ∧ W.heap[mb]? = w.heap[mb]? := by
  obtain ⟨h1, h2, h3, _, _⟩ := h.own
  have hcb := hT.block cb h.cblt (by rw [h1]; omega)
  have hg := hT.block g h.glt (by rw [h2]; omega)
  have hm := hT.block mb h.map2.lt (by rw [h3]; omega)
  exact ⟨fun j => World.cell?_of_block (a := ⟨cb, j, none⟩) hcb, fun j => World.frozen?_of_block (a := ⟨cb, j, none⟩) hcb, fun j => World.cell?_of_block (a := ⟨g, j, none⟩) hg, hm⟩
theorem ActI.cells {o : Nat → Nat} {n N : Nat} {w : World} {cb g cap mb : Nat} {pbs : Nat → Nat} {st : Nat} {dev : Nat → Dev} {ps : Nat → PS} (h : ChainAt o n N w cb g cap mb pbs st dev ps) (f : Nat → PS) :
    ∀ k W, ActI o n N w pbs dev ps f k W → W.cell? ⟨cb, 1, none⟩ = some (.slice (some ⟨g, 0, none⟩) n cap) ∧ ∀ j, j < n → W.cell? ⟨g, j, none⟩ = some (.pointer (some ⟨pbs j, 0, none⟩)) := by
  intro k W hI
  obtain ⟨o', h1, h2, hT⟩ := hI
  obtain ⟨k1, k2, k3, k4⟩ := h.own_kept hT
  exact ⟨(k1 1).trans h.c1, fun j hj => (k3 j).trans (h.row j hj)⟩
theorem ActI.done {o : Nat → Nat} {n N : Nat} {w W : World} {cb g cap mb : Nat} {pbs : Nat → Nat} {st : Nat} {dev : Nat → Dev} {ps f : Nat → PS} (h : ChainAt o n N w cb g cap mb pbs st dev ps) (hI : ActI o n N w pbs dev ps f n W) : ChainDid o n (N + 1) w cb g cap mb pbs st dev f W := by
  obtain ⟨o', h1, h2, hT⟩ := hI
  obtain ⟨k1, k2, k3, k4⟩ := h.own_kept hT
  obtain ⟨p1, p2, p3, p4, p5⟩ := h.own
  refine ⟨o', h1, ⟨h.n_le, h.st_lt, (k1 0).trans h.c0, (k2 0).trans h.f0, (k1 1).trans h.c1, (k1 2).trans h.c2, fun j hj => (k3 j).trans (h.row j hj), h.map2.block k4, ⟨(h1 cb h.cblt).trans p1, (h1 g h.glt).trans p2, (h1 mb h.map2.lt).trans p3, p4, p5⟩, Nat.lt_of_lt_of_le h.glt hT.size, fun k hk => ?_⟩, hT.mono fun x _ hx => Nat.le_of_lt hx⟩
  have := h2 k hk
  rw [if_pos hk, if_pos hk] at this
  exact this

theorem ChainAt.up {o : Nat → Nat} {n N N' : Nat} {w : World} {cb g cap mb : Nat} {pbs : Nat → Nat} {st : Nat} {dev : Nat → Dev} {ps : Nat → PS} (h : ChainAt o n N w cb g cap mb pbs st dev ps) (hN : N ≤ N') : ChainAt o n N' w cb g cap mb pbs st dev ps :=
  { h with ports := fun k hk => (h.ports k hk).up hN }

/-- The state is set. -/
theorem ChainDid.state {o : Nat → Nat} {n N : Nat} {w W : World} {cb g cap mb : Nat} {pbs : Nat → Nat} {st st' : Nat} {dev : Nat → Dev} {ps : Nat → PS} (hcb : o cb = n) (h : ChainDid o n N w cb g cap mb pbs st dev ps W) (hst : st' < 16) : ChainDid o n N w cb g cap mb pbs st' dev ps (W.setCell ⟨cb, 0, none⟩ (.int .i64 (st' : Int))) := by
  obtain ⟨o', h1, h2, hT⟩ := h
  obtain ⟨p1, p2, p3, p4, p5⟩ := h2.own
  have hb : ∀ x, x ≠ cb → (W.setCell ⟨cb, 0, none⟩ (.int .i64 (st' : Int))).heap[x]? = W.heap[x]? := fun x hx => Below.heap_setCell _ _ _ x hx
  have hc : ∀ j, j ≠ 0 → (W.setCell ⟨cb, 0, none⟩ (.int .i64 (st' : Int))).cell? ⟨cb, j, none⟩ = W.cell? ⟨cb, j, none⟩ := fun j hj => World.cell?_setCell_other _ _ _ _ (by simp; try omega)
  refine ⟨o', h1, ⟨h2.n_le, hst, World.cell?_setCell_same _ _ _ h2.c0, by rw [World.frozen?_setCell]; exact h2.f0, (hc 1 (by decide)).trans h2.c1, (hc 2 (by decide)).trans h2.c2, fun j hj => (World.cell?_of_block (a := ⟨g, j, none⟩) (hb g (Ne.symm p4))).trans (h2.row j hj), h2.map2.block (hb mb (Ne.symm p5)), h2.own, by simpa [World.setCell] using h2.glt, fun k hk => ?_⟩, ?_⟩
  · exact (h2.ports k hk).over (fun _ _ => rfl) (fun b _ eb => hb b (fun e => by rw [e, p1] at eb; omega))
  · exact Touch.setCell (S := fun b => o b ≤ n) (p := ⟨cb, 0, none⟩) hT (fun _ => by show o cb ≤ n; omega) _

/-- The world when the bit has gone through the first k ports. -/
def ShiftI (o : Nat → Nat) (n N vb : Nat) (w : World) (pbs : Nat → Nat) (dev : Nat → Dev) (ps : Nat → PS) (c : UInt8) (k : Nat) (W : World) : Prop :=
  (∀ j, j < n → PortAt o j N W (pbs j) (dev j) (if j < k then shiftS (ps j) (carry ps c j) else ps j)) ∧ W.cell? ⟨vb, 0, none⟩ = some (.int .u8 ((carry ps c k).toNat : Int)) ∧ W.frozen? ⟨vb, 0, none⟩ = false ∧ Touch (fun b => o b < n ∨ b = vb) w W

theorem ShiftI.did {o : Nat → Nat} {n N vb : Nat} {w W W2 : World} {pbs : Nat → Nat} {dev : Nat → Dev} {ps : Nat → PS} {c : UInt8} {k : Nat} (hk : k < n) (hvb : o vb = n) (h : ShiftI o n N vb w pbs dev ps c k W)
    (h1 : PortAt o k N W2 (pbs k) (dev k) (shiftS (ps k) (carry ps c k))) (h2 : W2.cell? ⟨vb, 0, none⟩ = some (.int .u8 (((ps k).sh.headD 48).toNat : Int))) (h3 : W2.frozen? ⟨vb, 0, none⟩ = false) (hT : Touch (fun b => o b = k ∨ b = vb) W W2) : ShiftI o n N vb w pbs dev ps c (k + 1) W2 := by
  obtain ⟨g1, g2, g3, g4⟩ := h
  refine ⟨fun j hj => ?_, h2, h3, ?_⟩
  · by_cases e : j = k
    · rw [if_pos (by omega), e]
      exact h1
    · have hj2 := (g1 j hj).over (o' := o) (w' := W2) (fun _ _ => rfl) (fun b hb eb => hT.block b hb (fun e2 => e2.elim (fun e3 => e (eb.symm.trans e3)) (fun e3 => by rw [e3, hvb] at eb; omega)))
      by_cases hlt : j < k
      · rw [if_pos (by omega)]
        rw [if_pos hlt] at hj2
        exact hj2
      · rw [if_neg (by omega)]
        rw [if_neg hlt] at hj2
        exact hj2
  · exact ⟨hT.os.trans g4.os, hT.tape.trans g4.tape, hT.output.trans g4.output, Nat.le_trans g4.size hT.size, fun b hb hn => (hT.block b (Nat.lt_of_lt_of_le hb g4.size) (fun e => hn (e.elim (fun e => .inl (by rw [e]; exact hk)) .inr))).trans (g4.block b hb hn)⟩

theorem ChainAt.shiftStart {o : Nat → Nat} {n N : Nat} {w W1 : World} {cb g cap mb : Nat} {pbs : Nat → Nat} {st : Nat} {dev : Nat → Dev} {ps : Nat → PS} {c : UInt8} {t : TypeId} (h : ChainAt o n N w cb g cap mb pbs st dev ps) (hW1 : W1 = w.alloc (.cells #[.int .u8 (c.toNat : Int)] t)) :
    ShiftI (fun b => if b < w.heap.size then o b else n) n N w.heap.size W1 pbs dev ps c 0 W1 := by
  refine ⟨fun j hj => ?_, ?_, ?_, Touch.refl _ _⟩
  · rw [if_neg (by omega)]
    exact (h.ports j hj).over (fun b hb => by simp [hb]) (fun b hb _ => by rw [hW1]; exact Below.heap_alloc w _ b hb)
  · rw [hW1]
    exact cell_fresh _ _ _ rfl
  · rw [hW1]
    exact frozen_fresh _ _ _ _

theorem ShiftI.keeps {o : Nat → Nat} {n N : Nat} {w W1 W : World} {cb g cap mb : Nat} {pbs : Nat → Nat} {st : Nat} {dev : Nat → Dev} {ps : Nat → PS} {c : UInt8} {t : TypeId} {k : Nat} (_h : ChainAt o n N w cb g cap mb pbs st dev ps) (hW1 : W1 = w.alloc (.cells #[.int .u8 (c.toNat : Int)] t))
    (hI : ShiftI (fun b => if b < w.heap.size then o b else n) n N w.heap.size W1 pbs dev ps c k W) : Touch (fun b => o b < n) w W := by
  obtain ⟨_, _, _, hT⟩ := hI
  have hs : w.heap.size ≤ W1.heap.size := by rw [hW1]; simp
  refine ⟨hT.os.trans (by rw [hW1]; rfl), hT.tape.trans (by rw [hW1]; rfl), hT.output.trans (by rw [hW1]; rfl), Nat.le_trans hs hT.size, fun b hb hn => ?_⟩
  refine (hT.block b (Nat.lt_of_lt_of_le hb hs) (fun e => e.elim (fun e => hn (by simpa [hb] using e)) (fun e => by omega))).trans ?_
  rw [hW1]
  exact Below.heap_alloc w _ b hb

theorem ShiftI.done {o : Nat → Nat} {n N : Nat} {w W1 W : World} {cb g cap mb : Nat} {pbs : Nat → Nat} {st : Nat} {dev : Nat → Dev} {ps : Nat → PS} {c : UInt8} {t : TypeId} (h : ChainAt o n N w cb g cap mb pbs st dev ps) (hst : shifts st = true) (hW1 : W1 = w.alloc (.cells #[.int .u8 (c.toNat : Int)] t))
    (hI : ShiftI (fun b => if b < w.heap.size then o b else n) n N w.heap.size W1 pbs dev ps c n W) : ChainDid o n (N + 1) w cb g cap mb pbs st dev (stepS dev st c ps) W := by
  have hT := ShiftI.keeps h hW1 hI
  obtain ⟨k1, k2, k3, k4⟩ := h.own_kept hT
  obtain ⟨p1, p2, p3, p4, p5⟩ := h.own
  have l1 := h.cblt
  have l2 := h.glt
  have l3 := h.map2.lt
  refine ⟨fun b => if b < w.heap.size then o b else n, fun b hb => by simp [hb], ⟨h.n_le, h.st_lt, (k1 0).trans h.c0, (k2 0).trans h.f0, (k1 1).trans h.c1, (k1 2).trans h.c2, fun j hj => (k3 j).trans (h.row j hj), h.map2.block k4, ?_, Nat.lt_of_lt_of_le h.glt hT.size, fun k hk => ?_⟩, hT.mono fun x _ hx => Nat.le_of_lt hx⟩
  · simp [l1, l2, l3, p1, p2, p3, p4, p5]
  · have := hI.1 k hk
    rw [if_pos hk] at this
    have e : stepS dev st c ps k = shiftS (ps k) (carry ps c k) := if_pos hst
    rw [e]
    exact this.up (Nat.le_succ N)

set_option maxRecDepth 100000 in
theorem chainAct_any (o : Nat → Nat) (n N : Nat) (w : World) (cb g cap mb : Nat) (pbs : Nat → Nat) (st : Nat) (dev : Nat → Dev) (ps : Nat → PS) (h : ChainAt o n N w cb g cap mb pbs st dev ps) (hg : ∀ k, k < n → Good (dev k) (ps k)) (hd : ∀ k, k < n → Right (dev k)) (hN : N < 1000000) (c : UInt8) :
    Calls Tryz.prog 57 #[.pointer (some ⟨cb, 0, none⟩), .int .u8 (c.toNat : Int)] w fun e w' => e = .returned (.int .u8 ((outS n st c ps).toNat : Int)) ∧ ChainDid o n (N + 1) w cb g cap mb pbs st dev (stepS dev st c ps) w' := by
  have hn := h.n_le
  have c0 := h.c0
  by_cases e0 : st = 0
  · subst e0
    have hI := eachReset_any w cb g n cap pbs (ActI o n N w pbs dev ps (stepS dev 0 c ps)) (Nat.le_trans hn (by decide)) (ActI.cells h _) (by
      rintro k W hk ⟨o', h1, h2, hT⟩
      have hp := h2 k hk
      rw [if_neg (Nat.lt_irrefl k), if_neg (Nat.lt_irrefl k)] at hp
      exact (portReset_any o' k N W (pbs k) (dev k) (ps k) hp).mono (fun e w' (hh : _ ∧ _) => ⟨hh.1, ActI.did hk h1 h2 hT (Nat.le_succ N) hh.2⟩)) (ActI.start h _)
    have hfin := Lib.hid (fun W (hI : ActI o n N w pbs dev ps (stepS dev 0 c ps) n W) => ActI.done h hI)
    clear h hg hd
    go_enter Tryz.func57, Tryz.ntmps57
    go_wp2_with fail
    refine hI.mono ?_
    rintro e w2 ⟨rfl, hI2⟩
    go_wp2_with fail
    go_ret
    exact ⟨rfl, hfin.out _ hI2⟩
  by_cases e3 : st = 3
  · subst e3
    have hI := eachCapDR_any w cb g n cap pbs (ActI o n N w pbs dev ps (stepS dev 3 c ps)) (Nat.le_trans hn (by decide)) (ActI.cells h _) (by
      rintro k W hk ⟨o', h1, h2, hT⟩
      have hp := h2 k hk
      rw [if_neg (Nat.lt_irrefl k), if_neg (Nat.lt_irrefl k)] at hp
      exact (captureDR_any o' k N W (pbs k) (dev k) (ps k) hp (hg k hk) (hd k hk)).mono (fun e w' (hh : _ ∧ _) => ⟨hh.1, ActI.did hk h1 h2 hT (Nat.le_succ N) hh.2⟩)) (ActI.start h _)
    have hfin := Lib.hid (fun W (hI : ActI o n N w pbs dev ps (stepS dev 3 c ps) n W) => ActI.done h hI)
    clear h hg hd
    go_enter Tryz.func57, Tryz.ntmps57
    go_wp2_with fail
    refine hI.mono ?_
    rintro e w2 ⟨rfl, hI2⟩
    go_wp2_with fail
    go_ret
    exact ⟨rfl, hfin.out _ hI2⟩
  by_cases e8 : st = 8
  · subst e8
    have hI := eachUpDR_any w cb g n cap pbs (ActI o n N w pbs dev ps (stepS dev 8 c ps)) (Nat.le_trans hn (by decide)) (ActI.cells h _) (by
      rintro k W hk ⟨o', h1, h2, hT⟩
      have hp := h2 k hk
      rw [if_neg (Nat.lt_irrefl k), if_neg (Nat.lt_irrefl k)] at hp
      cases hy : ((ps k).out (selOf (dev k) (ps k).code)).isSome with
      | false =>
        have ef : stepS dev 8 c ps k = ps k := (show stepS dev 8 c ps k = (if ((ps k).out (selOf (dev k) (ps k).code)).isSome = true then { ps k with out := putS (ps k).out (selOf (dev k) (ps k).code) (.string (ps k).sh) } else ps k) from rfl).trans (if_neg (by rw [hy]; decide))
        exact (updateDR_no o' k N W (pbs k) (dev k) (ps k) hp (hd k hk) hy).mono (fun e w' (hh : _ ∧ _) => ⟨hh.1, ActI.did hk h1 h2 hT (Nat.le_succ N) (by rw [ef]; exact hh.2)⟩)
      | true =>
        have ef : stepS dev 8 c ps k = { ps k with out := putS (ps k).out (selOf (dev k) (ps k).code) (.string (ps k).sh) } := (show stepS dev 8 c ps k = (if ((ps k).out (selOf (dev k) (ps k).code)).isSome = true then { ps k with out := putS (ps k).out (selOf (dev k) (ps k).code) (.string (ps k).sh) } else ps k) from rfl).trans (if_pos hy)
        exact (updateDR_yes o' k N W (pbs k) (dev k) (ps k) hp (hg k hk) (hd k hk) hN hy).mono (fun e w' (hh : _ ∧ _) => ⟨hh.1, ActI.did hk h1 h2 hT (Nat.le_refl _) (by rw [ef]; exact hh.2)⟩)) (ActI.start h _)
    have hfin := Lib.hid (fun W (hI : ActI o n N w pbs dev ps (stepS dev 8 c ps) n W) => ActI.done h hI)
    clear h hg hd
    go_enter Tryz.func57, Tryz.ntmps57
    go_wp2_with fail
    refine hI.mono ?_
    rintro e w2 ⟨rfl, hI2⟩
    go_wp2_with fail
    go_ret
    exact ⟨rfl, hfin.out _ hI2⟩
  by_cases e10 : st = 10
  · subst e10
    have hI := eachCapIR_any w cb g n cap pbs (ActI o n N w pbs dev ps (stepS dev 10 c ps)) (Nat.le_trans hn (by decide)) (ActI.cells h _) (by
      rintro k W hk ⟨o', h1, h2, hT⟩
      have hp := h2 k hk
      rw [if_neg (Nat.lt_irrefl k), if_neg (Nat.lt_irrefl k)] at hp
      exact (captureIR_any o' k N W (pbs k) (dev k) (ps k) hp (hd k hk)).mono (fun e w' (hh : _ ∧ _) => ⟨hh.1, ActI.did hk h1 h2 hT (Nat.le_succ N) hh.2⟩)) (ActI.start h _)
    have hfin := Lib.hid (fun W (hI : ActI o n N w pbs dev ps (stepS dev 10 c ps) n W) => ActI.done h hI)
    clear h hg hd
    go_enter Tryz.func57, Tryz.ntmps57
    go_wp2_with fail
    refine hI.mono ?_
    rintro e w2 ⟨rfl, hI2⟩
    go_wp2_with fail
    go_ret
    exact ⟨rfl, hfin.out _ hI2⟩
  by_cases e15 : st = 15
  · subst e15
    have hI := eachUpIR_any w cb g n cap pbs (ActI o n N w pbs dev ps (stepS dev 15 c ps)) (Nat.le_trans hn (by decide)) (ActI.cells h _) (by
      rintro k W hk ⟨o', h1, h2, hT⟩
      have hp := h2 k hk
      rw [if_neg (Nat.lt_irrefl k), if_neg (Nat.lt_irrefl k)] at hp
      exact (updateIR_any o' k N W (pbs k) (dev k) (ps k) hp (hg k hk)).mono (fun e w' (hh : _ ∧ _) => ⟨hh.1, ActI.did hk h1 h2 hT (Nat.le_succ N) hh.2⟩)) (ActI.start h _)
    have hfin := Lib.hid (fun W (hI : ActI o n N w pbs dev ps (stepS dev 15 c ps) n W) => ActI.done h hI)
    clear h hg hd
    go_enter Tryz.func57, Tryz.ntmps57
    go_wp2_with fail
    refine hI.mono ?_
    rintro e w2 ⟨rfl, hI2⟩
    go_wp2_with fail
    go_ret
    exact ⟨rfl, hfin.out _ hI2⟩
  by_cases esh : st = 4 ∨ st = 11
  · obtain ⟨W1, hW1⟩ : ∃ W1 : World, W1 = w.alloc (.cells #[.int .u8 (c.toNat : Int)] 5) := ⟨_, rfl⟩
    have hsh : shifts st = true := by rcases esh with rfl | rfl <;> rfl
    have hvo : (fun b => if b < w.heap.size then o b else n) w.heap.size = n := by simp
    have hI := eachShift_any w.heap.size W1 cb g n cap pbs (ShiftI (fun b => if b < w.heap.size then o b else n) n N w.heap.size W1 pbs dev ps c) (Nat.le_trans hn (by decide)) (fun k W hI => by
      obtain ⟨k1, k2, k3, k4⟩ := h.own_kept (ShiftI.keeps h hW1 hI)
      exact ⟨(k1 1).trans h.c1, fun j hj => (k3 j).trans (h.row j hj)⟩) (by
      intro k W hk hI
      have hI' := hI
      obtain ⟨g1, g2, g3, g4⟩ := hI
      have hp := g1 k hk
      rw [if_neg (Nat.lt_irrefl k)] at hp
      refine (act1_any _ k N W (pbs k) w.heap.size (dev k) (ps k) (carry ps c k) hp (by rw [if_neg (Nat.lt_irrefl _)]; omega) g2 g3).mono ?_
      rintro e w' ⟨he, h1, h2, h3, h4⟩
      exact ⟨he, ShiftI.did hk hvo hI' h1 h2 h3 h4⟩) (h.shiftStart hW1)
    have hout : outS n st c ps = carry ps c n := if_pos hsh
    have hfin := Lib.hid (fun W (hI : ShiftI (fun b => if b < w.heap.size then o b else n) n N w.heap.size W1 pbs dev ps c n W) => ShiftI.done h hsh hW1 hI)
    rw [hout]
    clear h hg hd hsh hvo hout
    rcases esh with rfl | rfl
    · go_enter Tryz.func57, Tryz.ntmps57
      go_wp2_with fail
      rw [← hW1]
      refine hI.mono ?_
      rintro e w2 ⟨rfl, hI2⟩
      have hv := hI2.2.1
      have HI2 := Lib.hid hI2
      clear hI2
      go_wp2_with fail
      go_ret
      exact ⟨rfl, hfin.out _ HI2.out⟩
    · go_enter Tryz.func57, Tryz.ntmps57
      go_wp2_with fail
      rw [← hW1]
      refine hI.mono ?_
      rintro e w2 ⟨rfl, hI2⟩
      have hv := hI2.2.1
      have HI2 := Lib.hid hI2
      clear hI2
      go_wp2_with fail
      go_ret
      exact ⟨rfl, hfin.out _ HI2.out⟩
  · have h4 : ¬ st = 4 := fun e => esh (.inl e)
    have h11 : ¬ st = 11 := fun e => esh (.inr e)
    have hsh : shifts st = false := by simp [shifts, h4, h11]
    have hout : outS n st c ps = 122 := if_neg (by rw [hsh]; decide)
    have hstep : stepS dev st c ps = ps := by
      funext k
      have e1 : stepS dev st c ps k = actS st (dev k) (ps k) := if_neg (by rw [hsh]; decide)
      rw [e1]
      unfold actS
      rw [if_neg e0, if_neg e3, if_neg e8, if_neg e10, if_neg e15]
    rw [hout, hstep]
    have b0 : ((st : Int) == 0) = false := by simp; omega
    have b3 : ((st : Int) == 3) = false := by simp; omega
    have b8 : ((st : Int) == 8) = false := by simp; omega
    have b10 : ((st : Int) == 10) = false := by simp; omega
    have b15 : ((st : Int) == 15) = false := by simp; omega
    have b4 : ((st : Int) == 4) = false := by simp; omega
    have b11 : ((st : Int) == 11) = false := by simp; omega
    have H := Lib.hid h
    clear h hg hd hsh hout hstep e0 e3 e8 e10 e15 esh h4 h11
    go_enter Tryz.func57, Tryz.ntmps57
    go_wp2_with fail
    go_ret
    exact ⟨rfl, o, fun _ _ => rfl, H.out.up (Nat.le_succ N), Touch.refl _ _⟩

set_option maxRecDepth 100000 in
/-- A clock of the chain. -/
theorem chainStep_any (o : Nat → Nat) (n N : Nat) (w : World) (cb g cap mb : Nat) (pbs : Nat → Nat) (st : Nat) (dev : Nat → Dev) (ps : Nat → PS) (h : ChainAt o n N w cb g cap mb pbs st dev ps) (hg : ∀ k, k < n → Good (dev k) (ps k)) (hd : ∀ k, k < n → Right (dev k)) (hN : N < 1000000) (t c : UInt8) (ht : bitB t = true) (hT : Tab w) (hoT : n < o 0) :
    Calls Tryz.prog 29 #[.pointer (some ⟨cb, 0, none⟩), .int .u8 (t.toNat : Int), .int .u8 (c.toNat : Int)] w fun e w' => e = .returned (.int .u8 ((outS n st c ps).toNat : Int)) ∧ ChainDid o n (N + 1) w cb g cap mb pbs (nx st t) dev (stepS dev st c ps) w' := by
  have hact := chainAct_any o n N w cb g cap mb pbs st dev ps h hg hd hN c
  have hst := h.st_lt
  have hcbo := h.own.1
  have hcbl := h.cblt
  have hnx := nx_lt st hst t ht
  have HC := Lib.hid hcbo
  clear h hg hd hcbo
  generalize outS n st c ps = co at hact ⊢
  generalize stepS dev st c ps = ps' at hact ⊢
  have haf := fun W (hW : Tab W) => after_any st t W hst ht hW
  generalize nx st t = st' at haf hnx ⊢
  go_enter Tryz.func29, Tryz.ntmps29
  go_wp2_with fail
  refine hact.mono ?_
  rintro e w2 ⟨rfl, hD⟩
  have HD := Lib.hid hD
  obtain ⟨o', h1, h2, h3⟩ := hD
  have c0 := h2.c0
  have f0 := h2.f0
  have hT2 : Tab w2 := hT.kept (h3.block _ hT.lt (by omega))
  have hafW := haf w2 hT2
  clear haf h1 h2 h3 hT hT2 hact
  go_wp2_with fail
  refine hafW.mono ?_
  rintro e w' ⟨rfl, rfl⟩
  go_wp2_with fail
  go_ret
  exact ⟨rfl, ChainDid.state HC.out HD.out hnx⟩
end Go.Proofs.YthcakdminnmjoaaGreatDoor
/- A new chain. -/
namespace Go.Proofs.YthcakdminnmjoaaGreatDoor
open Go.RowKit Go.Maps

theorem Tryz.infoPort : (Tryz.prog.info? 98).map (fun i => (i.zero, i.size, i.bytes)) = some (some (.pointer none), 1, 8) := by kernel_rfl
theorem info_ptr {T : TypeId} (h : (Tryz.prog.info? T).map (fun i => (i.zero, i.size, i.bytes)) = some (some (.pointer none), 1, 8)) : ∃ i, Tryz.prog.info? T = some i ∧ i.zero = some (.pointer none) ∧ i.size = 1 ∧ i.bytes = 8 := by
  cases hi : Tryz.prog.info? T with
  | none => rw [hi] at h; simp at h
  | some i =>
    rw [hi] at h
    simp at h
    exact ⟨i, rfl, h.1, h.2.1, h.2.2⟩

/-- The pointers to the first k ports. -/
def ptrL (pbs : Nat → Nat) (k : Nat) : List Value := (List.range k).map fun j => .pointer (some ⟨pbs j, 0, none⟩)
theorem ptrL_succ (pbs : Nat → Nat) (k : Nat) : ptrL pbs (k + 1) = ptrL pbs k ++ [.pointer (some ⟨pbs k, 0, none⟩)] := by
  unfold ptrL
  rw [List.range_succ, List.map_append]
  rfl
theorem ptrL_congr {f g : Nat → Nat} {k : Nat} (h : ∀ j, j < k → f j = g j) : ptrL f k = ptrL g k := by
  unfold ptrL
  apply List.map_congr_left
  intro j hj
  rw [h j (List.mem_range.1 hj)]
theorem byM_congr (dev : Nat → Dev) {f g : Nat → Nat} : ∀ k, (∀ j, j < k → f j = g j) → byM dev f k = byM dev g k
  | 0, _ => rfl
  | k + 1, h => by
    show putL (byM dev f k) _ (.int .i64 (f k : Int)) = putL (byM dev g k) _ (.int .i64 (g k : Int))
    rw [byM_congr dev k (fun j hj => h j (by omega)), h k (by omega)]

theorem PortAt.over' {o o' : Nat → Nat} {j N : Nat} {w w' : World} {pb : Nat} {d : Dev} {p : PS} (h : PortAt o j N w pb d p) (ho : ∀ b, b < w.heap.size → o b = j → o' b = j) (hT : ∀ b, b < w.heap.size → o b = j → w'.heap[b]? = w.heap[b]?) : PortAt o' j N w' pb d p := by
  obtain ⟨m1, m3, m4, bb, h⟩ := h
  have h1 := h.kept hT
  obtain ⟨l1, l2, l3, l4, l5⟩ := h.lt
  obtain ⟨o1, o2, o3, o4, o5⟩ := h.own
  exact ⟨m1, m3, m4, bb, { h1 with own := ⟨ho _ l1 o1, ho _ l2 o2, ho _ l3 o3, ho _ l4 o4, ho _ l5 o5⟩ }⟩

/-- A chain that is being made: it has k ports of n. Blocks below B were there before it. -/
def NewI (B n : Nat) (w : World) (cb mb : Nat) (dev : Nat → Dev) (k : Nat) (W : World) : Prop :=
  ∃ (o : Nat → Nat) (v : Value) (pbs : Nat → Nat), (∀ b, b < B → o b = n + 1) ∧ o cb = n ∧ o mb = n ∧ (∀ g, v.ownBlock = some g → o g = n) ∧
    W.cell? ⟨cb, 0, none⟩ = some (.int .i64 0) ∧ W.cell? ⟨cb, 1, none⟩ = some v ∧ W.cell? ⟨cb, 2, none⟩ = some (.map (some mb)) ∧ (∀ j, j < 3 → W.frozen? ⟨cb, j, none⟩ = false) ∧
    W.ownsRow (cb + 1) 98 1 v k (ptrL pbs k) ∧ LMap Tryz.prog 9 ptrR W mb k (byM dev pbs k) ∧
    (∀ j, j < k → PortAt o j 100 W (pbs j) (dev j) (newPS (dev j))) ∧ Below B w W

theorem LMap.update_run {P : Program} {k e : TypeId} {R : Value → Option (DataW Unit × List MemPlace)} {w : World} {b n : Nat} {M : Lit → Option Lit} (h : LMap P k R w b n M) (K : Keyed P k) {t : TypeId} (ht : P.underlying t = some (.map k e)) (hn : n < 1000000) (key : Value) (kl : Lit) (hkey : keyOf P k key = some kl) (l : Lit) (val : Value) (hl : R val = some (.lit l, [])) :
    ∃ w', (Instr.mapUpdate t (.map (some b)) key val).run P w = .ok () w' ∧ LMap P k R w' b (n + 1) (putL M kl l) ∧ w.grownBy w' (some b) := by
  obtain ⟨D, h1, h2, h3⟩ := h
  obtain ⟨w', hrun, r1, r2⟩ := h1.update K ht (by unfold maxLen; omega) hkey hl
  exact ⟨w', hrun, ⟨_, r1, h2.put _ _, LMap.put_data h2 h3 _ (K.key hkey) _⟩, r2⟩

/-- The tale of blocks, gone on: what lies from s1 to s2 is k's, what lies behind is n's. -/
def tale3 (o : Nat → Nat) (s1 s2 k n b : Nat) : Nat := if b < s1 then o b else if b < s2 then k else n
theorem tale_lo {o : Nat → Nat} {s1 s2 k n b : Nat} (h : b < s1) : tale3 o s1 s2 k n b = o b := if_pos h
theorem tale_mid {o : Nat → Nat} {s1 s2 k n b : Nat} (h1 : s1 ≤ b) (h2 : b < s2) : tale3 o s1 s2 k n b = k := (if_neg (by omega)).trans (if_pos h2)
theorem tale_hi {o : Nat → Nat} {s1 s2 k n b : Nat} (h1 : s1 ≤ b) (h2 : s2 ≤ b) : tale3 o s1 s2 k n b = n := (if_neg (by omega)).trans (if_neg (by omega))
def setAt (f : Nat → Nat) (k x j : Nat) : Nat := if j = k then x else f j

/-- A port more. -/
theorem NewI.step {B n : Nat} {w W W2 W3 : World} {cb mb k : Nat} {dev : Nat → Dev} {o : Nat → Nat} {v : Value} {pbs : Nat → Nat} {pb g cap : Nat} (hk : k < n) (hBcb : B ≤ cb)
    (ho : ∀ b, b < B → o b = n + 1) (hcb : o cb = n) (hmb : o mb = n) (hv : ∀ g, v.ownBlock = some g → o g = n) (hcl : cb < W.heap.size) (hml : mb < W.heap.size) (hvl : ∀ g, v.ownBlock = some g → g < W.heap.size)
    (hports : ∀ j, j < k → PortAt o j 100 W (pbs j) (dev j) (newPS (dev j))) (hB2 : Below W.heap.size W W2) (hpb : ∀ o j, (∀ b, W.heap.size ≤ b → o b = j) → PortAt o j 100 W2 pb (dev k) (newPS (dev k))) 
    (hT : ∀ b, b < W2.heap.size → b ≠ cb → b ≠ mb → some b ≠ v.ownBlock → W3.heap[b]? = W2.heap[b]?) (hg : v.ownBlock = some g ∨ W2.heap.size ≤ g)
    (c0 : W3.cell? ⟨cb, 0, none⟩ = some (.int .i64 0)) (c1 : W3.cell? ⟨cb, 1, none⟩ = some (.slice (some ⟨g, 0, none⟩) (k + 1) cap)) (c2 : W3.cell? ⟨cb, 2, none⟩ = some (.map (some mb))) (fr : ∀ j, j < 3 → W3.frozen? ⟨cb, j, none⟩ = false)
    (hrow : W3.ownsRow (cb + 1) 98 1 (.slice (some ⟨g, 0, none⟩) (k + 1) cap) (k + 1) (ptrL pbs k ++ [.pointer (some ⟨pb, 0, none⟩)])) (hmap : LMap Tryz.prog 9 ptrR W3 mb (k + 1) (putL (byM dev pbs k) (.string (dev k).name.data.toList) (.int .i64 (pb : Int)))) (hB3 : Below B w W3) :
    NewI B n w cb mb dev (k + 1) W3 := by
  have hWW2 := hB2.size
  have e1 : ∀ j, j < k → setAt pbs k pb j = pbs j := fun j hj => if_neg (by omega)
  have e2 : setAt pbs k pb k = pb := if_pos rfl
  refine ⟨tale3 o W.heap.size W2.heap.size k n, .slice (some ⟨g, 0, none⟩) (k + 1) cap, setAt pbs k pb, fun b hb => ?_, ?_, ?_, fun g' hg' => ?_, c0, c1, c2, fr, ?_, ?_, fun j hj => ?_, hB3⟩
  · rw [tale_lo (by omega)]
    exact ho b hb
  · rw [tale_lo hcl]
    exact hcb
  · rw [tale_lo hml]
    exact hmb
  · have hg'' : g = g' := by simpa [Value.ownBlock] using hg'
    subst hg''
    rcases hg with hg | hg
    · rw [tale_lo (hvl g hg)]
      exact hv g hg
    · rw [tale_hi (by omega) (by omega)]
  · rw [ptrL_succ, ptrL_congr e1, e2]
    exact hrow
  · show LMap Tryz.prog 9 ptrR W3 mb (k + 1) (putL (byM dev (setAt pbs k pb) k) (.string (dev k).name.data.toList) (.int .i64 (setAt pbs k pb k : Int)))
    rw [byM_congr dev k e1, e2]
    exact hmap
  · have hkeep : ∀ b, b < W2.heap.size → tale3 o W.heap.size W2.heap.size k n b < n → W3.heap[b]? = W2.heap[b]? := by
      intro b hb hob
      refine hT b hb (fun e => ?_) (fun e => ?_) (fun e => ?_)
      · rw [e, tale_lo hcl, hcb] at hob
        omega
      · rw [e, tale_lo hml, hmb] at hob
        omega
      · have := hv b e.symm
        rw [tale_lo (hvl b e.symm), this] at hob
        omega
    by_cases e : j = k
    · subst e
      have h1 : PortAt (fun b => if b < W.heap.size then n else j) j 100 W2 pb (dev j) (newPS (dev j)) := hpb _ _ (fun b hb => if_neg (by omega))
      rw [e2]
      refine h1.over' (fun b hb e => ?_) (fun b hb e => ?_)
      · by_cases h5 : b < W.heap.size
        · have : n = j := (if_pos h5).symm.trans e
          omega
        · exact tale_mid (by omega) hb
      · by_cases h5 : b < W.heap.size
        · have : n = j := (if_pos h5).symm.trans e
          omega
        · exact hkeep b hb (by rw [tale_mid (by omega) hb]; exact hk)
    · rw [e1 j (by omega)]
      refine (hports j (by omega)).over' (fun b hb eb => ?_) (fun b hb eb => ?_)
      · rw [tale_lo hb]
        exact eb
      · refine (hkeep b (by omega) ?_).trans (hB2.block b hb)
        rw [tale_lo hb, eb]
        omega

theorem row_block {w w' : World} {base e n : Nat} {v : Value} {xs : List Value} (h : w.ownsRow base e 1 v n xs) (hb : ∀ g, v.ownBlock = some g → w'.heap[g]? = w.heap[g]?) : w'.ownsRow base e 1 v n xs := by
  obtain ⟨hl, h2⟩ := h
  refine ⟨hl, ?_⟩
  rcases h2 with h2 | ⟨g, cap, cur, rfl, hg, hh, r⟩
  · exact .inl h2
  · exact .inr ⟨g, cap, cur, rfl, hg, by rw [hb g rfl]; exact hh, r⟩

set_option maxRecDepth 100000 in
theorem new_err (r : Devs) (w : World) (a : Option Addr) (cap : Nat) (h : DevsAt w.heap.size w a r) (he : devsErr r ≠ 0) :
    Calls Tryz.prog 27 #[.slice a r.n cap] w fun e w' => e = .returned (.tuple #[.pointer none, .int .i64 (devsErr r)]) ∧ Below w.heap.size w w' := by
  have hcon := checkDevices_any w a cap r h
  have hne : (devsErr r != 0) = true := by simpa using he
  generalize devsErr r = ec at hcon hne ⊢
  clear h he
  go_enter Tryz.func27, Tryz.ntmps27
  go_wp2_with fail
  refine hcon.mono ?_
  rintro e w1 ⟨rfl, hB⟩
  go_wp2_with fail
  go_ret2
  exact ⟨rfl, hB⟩

set_option maxRecDepth 100000 in
theorem new_ok (r : Devs) (w : World) (a : Option Addr) (cap : Nat) (h : DevsAt w.heap.size w a r) (he : devsErr r = 0) :
    Calls Tryz.prog 27 #[.slice a r.n cap] w fun e w' => ∃ o cb g cp mb pbs, e = .returned (.tuple #[.pointer (some ⟨cb, 0, none⟩), .int .i64 0]) ∧ Below w.heap.size w w' ∧ (∀ b, b < w.heap.size → o b = r.n + 1) ∧ ChainAt o r.n 100 w' cb g cp mb pbs 0 r.dev (fun k => newPS (r.dev k)) := by
  obtain ⟨⟨hn1, hn20⟩, hsure⟩ := devs_sure h he
  have hcon := checkDevices_any w a cap r h
  rw [he] at hcon
  obtain ⟨i0, hi, hz0, hz1, hz2⟩ := info_ptr Tryz.infoPort
  have hmm := @run_makeMap Tryz.prog
  have hn0 : (0 : Int) < (r.n : Int) := by omega
  go_enter Tryz.func27, Tryz.ntmps27
  go_wp2_with fail
  refine hcon.mono ?_
  rintro e w1 ⟨rfl, hB1⟩
  clear hcon
  go_wp2_with fail
  have hsz1 := hB1.size
  obtain ⟨mb, hmb⟩ : ∃ mb, mb = w1.heap.size := ⟨_, rfl⟩
  obtain ⟨cb, hcb⟩ : ∃ cb, cb = w1.heap.size + 1 := ⟨_, rfl⟩
  obtain ⟨W0, hW0⟩ : ∃ W0 : World, W0 = (w1.alloc (.map #[] 0)).alloc (.cells #[.int .i64 0, .slice none 0 0, .map (some w1.heap.size)] 97) := ⟨_, rfl⟩
  have hs2 : (w1.alloc (.map #[] 0)).heap.size = w1.heap.size + 1 := by simp
  have hs3 : W0.heap.size = w1.heap.size + 2 := by rw [hW0]; simp
  have hstart : NewI w.heap.size r.n w cb mb r.dev 0 W0 := by
    refine ⟨fun b => if b < w.heap.size then r.n + 1 else r.n, .slice none 0 0, fun _ => 0, fun b hb => if_pos hb, if_neg (by omega), if_neg (by omega), fun g hg => by simp [Value.ownBlock] at hg, ?_, ?_, ?_, fun j _ => ?_, ?_, ?_, fun j hj => by omega, ?_⟩
    · rw [hW0, hcb, ← hs2]; exact cell_fresh _ _ _ rfl
    · rw [hW0, hcb, ← hs2]; exact cell_fresh _ _ _ rfl
    · rw [hW0, hcb, hmb, ← hs2]; exact cell_fresh _ _ _ rfl
    · rw [hW0, hcb, ← hs2]; exact frozen_fresh _ _ _ _
    · exact World.ownsRow_nil _ _ _ _
    · rw [hW0, hmb]
      exact (LMap.made Tryz.prog 9 ptrR w1).alloc _
    · rw [hW0]
      exact (hB1.alloc hsz1 _).alloc (by rw [hs2]; omega) _
  have hcm : mb < cb := by omega
  have hBcb : w.heap.size ≤ cb := by omega
  have hBmb : w.heap.size ≤ mb := by omega
  rw [← hW0]
  have e16 : (w1.alloc (.map #[] 0)).heap.size = cb := by omega
  rw [← hcb]
  clear hB1 hmm hs2 hs3 e16 hcb hmb
  have HW0 := Lib.hid hW0
  clear hW0
  go_loopw [19] (fun i wr => ∃ k : Nat, k ≤ r.n ∧ i = .int .i64 (k : Int) ∧ NewI w.heap.size r.n w cb mb r.dev k wr) (fun i _ => r.n - (intOf i).toNat)
  case atStart => exact ⟨0, by omega, rfl, hstart⟩
  case round =>
    clear hstart
    obtain ⟨k, hk, rfl, hI⟩ := hrel
    by_cases hlt : k < r.n
    · obtain ⟨o, v, pbs, ho, hco, hmo, hv, c0, c1, c2, fr, hrow, hmap, hports, hB⟩ := hI
      obtain ⟨⟨rsure, rlongs, rid, _, rregs⟩, _⟩ := hsure k hlt
      obtain ⟨b, off, rfl, hbB, hcells⟩ := (h.below hB (Nat.le_refl _)).cells (by omega)
      obtain ⟨⟨d0, d1, d2, d3, d4⟩, hdo⟩ := hcells k hlt
      clear hcells h hsure
      obtain ⟨Wr, hWr⟩ : ∃ Wr : World, Wr = wr.alloc (.cells #[.string (r.dev k).name, .int .i64 (r.dev k).long, .int .i64 (r.dev k).id, .slice (r.plc k).ra (r.dev k).regs.n (r.plc k).rc, .slice (r.plc k).ia (r.dev k).ins.n (r.plc k).ic] 49) := ⟨_, rfl⟩
      have hBr : Below wr.heap.size wr Wr := by rw [hWr]; exact (Below.refl _ wr).alloc (Nat.le_refl _) _
      have hnp := newPort_any (r.dev k) (r.plc k) Wr ((hdo.below hBr hB.size).up (Nat.le_trans hB.size hBr.size)) rsure rlongs rid
      have hnz := hdo.name
      clear hdo rsure rlongs rid
      go_wp2_with fail
      rw [← hWr]
      have HWr := Lib.hid hWr
      clear hWr d0 d1 d2 d3 d4
      refine hnp.mono ?_
      rintro e w2 ⟨pb, rfl, hB2, hpbl, hport⟩
      have hBc : Below wr.heap.size wr w2 := hBr.trans (hB2.mono hBr.size)
      have hcl := World.block_lt_of_cell? wr ⟨cb, 0, none⟩ c0
      have hml := hmap.lt
      have hvl := fun g hg => (hrow.lt g hg).2
      have hvb := fun g hg => (hrow.lt g hg).1
      have hbx : w2.cell? ⟨wr.heap.size, 0, none⟩ = some (.string (r.dev k).name) := by
        refine (hB2.cell (p := ⟨wr.heap.size, 0, none⟩) (by rw [HWr.out]; simp)).trans ?_
        rw [HWr.out]
        exact cell_fresh _ _ _ rfl
      have hs1 : wr.heap.size < w2.heap.size := by have := hB2.size; rw [HWr.out] at this; simp at this; omega
      have c0' := (hBc.cell (p := ⟨cb, 0, none⟩) hcl).trans c0
      have c1' := (hBc.cell (p := ⟨cb, 1, none⟩) hcl).trans c1
      have c2' := (hBc.cell (p := ⟨cb, 2, none⟩) hcl).trans c2
      have fr' := fun j hj => (World.frozen?_of_block (a := ⟨cb, j, none⟩) (hBc.block cb hcl)).trans (fr j hj)
      have hrow' := row_below hrow hBc
      have hmap' := hmap.block (hBc.block mb hml)
      have hcells := Lib.hid fr'
      have f1 := fr' 1 (by decide)
      have HI := Lib.hid (⟨ho, hco, hmo, hv, hports, hB, hport⟩ : _ ∧ _ ∧ _ ∧ _ ∧ _ ∧ _ ∧ _)
      have hkey : keyOf Tryz.prog 9 (.string (r.dev k).name) = some (.string (r.dev k).name.data.toList) := WideMaps.keyOf_string_mk Tryz.underlying9 (s := (r.dev k).name) (by unfold maxLen; omega)
      clear ho hco hmo hv hports hport c0 c1 c2 fr fr' hrow hmap hnp hB
      go_wp2_with (at_builtin; refine wpList_append_lies _ rfl _ _ 95 rfl (cb + 1) 98 i0 (.pointer none) 1 8 Tryz.underlying95 hi hz0 hz1 hz2 rfl (by decide) _ _ _ rfl (hrow'.alloc _) ⟨w2.heap.size, 0, none⟩ 1 1 [.pointer (some ⟨pb, 0, none⟩)] rfl rfl ?c1 ?c2 ?c3 ?c4 ?c5 ?c6 _ rfl ?_)
      case c1 => exact cell_one_new _ _ _
      case c2 => intro u hu; simp at hu; subst hu; rfl
      case c3 => decide
      case c4 => unfold maxLen; omega
      case c5 => omega
      case c6 => simp; omega
      intro g cp w4 hown4 hg4 hat4 hlt4
      have hne1 : some cb ≠ v.ownBlock := fun e => by have := hvb cb e.symm; omega
      have hne2 : some wr.heap.size ≠ v.ownBlock := fun e => by have := hvl _ e.symm; omega
      have hne3 : some mb ≠ v.ownBlock := fun e => by have := hvb mb e.symm; omega
      have hcw2 : cb < w2.heap.size := Nat.lt_of_lt_of_le hcl hBc.size
      have hmw2 : mb < w2.heap.size := Nat.lt_of_lt_of_le hml hBc.size
      have hb4 : ∀ b, b < w2.heap.size → some b ≠ v.ownBlock → w4.heap[b]? = w2.heap[b]? := fun b hb hne => (hg4.block b (by simp; omega) hne).trans (Below.heap_alloc w2 _ b hb)
      have hs4 := hg4.size
      simp only [World.size_alloc] at hs4
      have c1w4 := (World.cell?_of_block (a := ⟨cb, 1, none⟩) (hb4 cb hcw2 hne1)).trans c1'
      have f1w4 := (World.frozen?_of_block (a := ⟨cb, 1, none⟩) (hb4 cb hcw2 hne1)).trans f1
      obtain ⟨W5, hW5⟩ : ∃ W5 : World, W5 = w4.setCell ⟨cb, 1, none⟩ (.slice (some ⟨g, 0, none⟩) (k + 1) cp) := ⟨_, rfl⟩
      have hs5 : W5.heap.size = w4.heap.size := by rw [hW5]; simp [World.setCell]
      have hb5 : ∀ b, b ≠ cb → W5.heap[b]? = w4.heap[b]? := fun b hb => by rw [hW5]; exact Below.heap_setCell _ _ _ b hb
      have hc5 : ∀ j, j ≠ 1 → W5.cell? ⟨cb, j, none⟩ = w2.cell? ⟨cb, j, none⟩ := fun j hj => by
        rw [hW5, World.cell?_setCell_other _ _ _ _ (by simp; try omega)]
        exact World.cell?_of_block (a := ⟨cb, j, none⟩) (hb4 cb hcw2 hne1)
      have c1W5 : W5.cell? ⟨cb, 1, none⟩ = some (.slice (some ⟨g, 0, none⟩) (k + 1) cp) := by rw [hW5]; exact World.cell?_setCell_same _ _ _ c1w4
      have c2W5 : W5.cell? ⟨cb, 2, none⟩ = some (.map (some mb)) := (hc5 2 (by decide)).trans c2'
      have hbx5 : W5.cell? ⟨wr.heap.size, 0, none⟩ = some (.string (r.dev k).name) := (World.cell?_of_block (a := ⟨wr.heap.size, 0, none⟩) ((hb5 wr.heap.size (by omega)).trans (hb4 wr.heap.size hs1 hne2))).trans hbx
      have hmap5 : LMap Tryz.prog 9 ptrR W5 mb k (byM r.dev pbs k) := hmap'.block ((hb5 mb (by omega)).trans (hb4 mb hmw2 hne3))
      obtain ⟨w6, hrun, hm6, hg6⟩ := (hmap5.drew).update_run (string_keyed Tryz.underlying9) Tryz.underlying94 (by omega) _ _ hkey (.int .i64 (pb : Int)) (.pointer (some ⟨pb, 0, none⟩)) rfl
      have hs6 := hg6.size
      have hb6 : ∀ b, b < W5.heap.size → b ≠ mb → w6.heap[b]? = W5.heap[b]? := fun b hb hne => hg6.block b hb (fun e => hne (Option.some.inj e))
      have hfin : NewI w.heap.size r.n w cb mb r.dev (k + 1) w6 := by
        obtain ⟨ho, hco, hmo, hv, hports, hB, hport⟩ := HI.out
        have hgn : g ≠ cb ∧ g ≠ mb := by
          have := (hown4.lt g rfl).1
          exact ⟨by omega, by omega⟩
        have hcb6 : ∀ j, w6.cell? ⟨cb, j, none⟩ = W5.cell? ⟨cb, j, none⟩ := fun j => World.cell?_of_block (a := ⟨cb, j, none⟩) (hb6 cb (by omega) (by omega))
        refine NewI.step (W := wr) (W2 := w2) (g := g) (cap := cp) (pbs := pbs) (o := o) (v := v) (pb := pb) hlt hBcb ho hco hmo hv hcl hml hvl hports hBc (fun o j hoj => ?_) (fun b hb h1 h2 h3 => ?_) (hat4.imp id (fun e => by rw [e]; simp)) ((hcb6 0).trans ((hc5 0 (by decide)).trans c0')) ((hcb6 1).trans c1W5) ((hcb6 2).trans c2W5) (fun j hj => ?_) ?_ hm6 ?_
        · obtain ⟨m1, m3, m4, bb, hp⟩ := hport o j (fun b hb => hoj b (Nat.le_trans hBr.size hb))
          exact ⟨m1, m3, m4, bb, hp.up (by omega)⟩
        · exact (hb6 b (by omega) h2).trans ((hb5 b h1).trans (hb4 b hb h3))
        · refine (World.frozen?_of_block (a := ⟨cb, j, none⟩) (hb6 cb (by omega) (by omega))).trans ?_
          rw [hW5, World.frozen?_setCell]
          exact (World.frozen?_of_block (a := ⟨cb, j, none⟩) (hb4 cb hcw2 hne1)).trans (hcells.out j hj)
        · exact row_block hown4 (fun g' hg' => by
            have e : g = g' := by simpa [Value.ownBlock] using hg'
            subst e
            exact (hb6 g (by omega) hgn.2).trans (hb5 g hgn.1))
        · have hB2' : Below w.heap.size w w2 := hB.trans (hBc.mono hB.size)
          have h3 := (hB2'.alloc hB2'.size (.cells #[.pointer (some ⟨pb, 0, none⟩)] 98)).grown hg4 (by simp; have := hB2'.size; omega) (fun x hx => by have := hvb x hx; omega)
          have h4 : Below w.heap.size w W5 := by rw [hW5]; exact h3.setCell (by show w.heap.size ≤ cb; omega) _
          exact h4.drew.grown hg6 h4.size (fun x hx => by cases hx; omega)
      have HF := Lib.hid hfin
      have HW5 := Lib.hid hW5
      clear hfin hW5 hb6 hs6 hm6 hg6 hmap5 hb5 hc5 hb4 hcells hown4 hg4 hmap' hrow' hvb hvl c0' c1' c2' hbx HI hBr hBc
      go_wp2_with fail
      rw [← HW5.out]
      clear c1w4 f1w4 HW5
      go_region
      all_goals
        go_wp2_with fail
        go_roundw
        case rel => exact ⟨k + 1, by omega, by go_num, HF.out⟩
        case measure => simp [intOf]; omega
    · obtain rfl : k = r.n := by omega
      have HI := Lib.hid hI
      clear hI h hsure
      go_wp2_with fail
      go_ret2
      obtain ⟨o, v, pbs, ho, hco, hmo, hv, c0, c1, c2, fr, hrow, hmap, hports, hB⟩ := HI.out
      obtain ⟨hl, ⟨_, h0⟩ | ⟨g, cp, cur, rfl, hg, hgb, hn, hc, hcs, ht⟩⟩ := hrow
      · omega
      · refine ⟨o, cb, g, cp, mb, pbs, rfl, hB, ho, ⟨hn20, by decide, c0, fr 0 (by decide), c1, c2, fun j hj => ?_, hmap, ⟨hco, hv g rfl, hmo, by omega, by omega⟩, (Array.getElem?_eq_some_iff.1 hgb).1, hports⟩⟩
        have h5 := ht
        have h6 : cur[j]? = some (.pointer (some ⟨pbs j, 0, none⟩)) := by
          have h7 : (cur.toList.take (r.n * 1))[j]? = (ptrL pbs r.n)[j]? := by rw [ht]
          rw [List.getElem?_take_of_lt (by omega)] at h7
          simp only [Array.getElem?_toList] at h7
          rw [h7]
          simp [ptrL, hj]
        unfold World.cell?
        simp only [hgb]
        simpa using h6
end Go.Proofs.YthcakdminnmjoaaGreatDoor
