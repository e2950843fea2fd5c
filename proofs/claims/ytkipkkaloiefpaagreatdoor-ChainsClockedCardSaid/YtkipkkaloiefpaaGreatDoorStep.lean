/- The chain in memory; what it does at a clock. -/
import Derived.Test.YtkipkkaloiefpaaGreatDoorM3
namespace Go.Proofs.YtkipkkaloiefpaaGreatDoor
open Go.RowKit Go.Maps

/-- How a pointer to a whole block reads in a map. -/
def ptrR (v : Value) : Option (DataW Unit × List MemPlace) :=
  match v with
  | .pointer none => some (.lit (.bool false), [])
  | .pointer (some ⟨b, 0, none⟩) => some (.lit (.int .i64 (b : Int)), [])
  | _ => none
def ptrV (l : Lit) : Value :=
  match l with
  | .int _ z => .pointer (some ⟨z.toNat, 0, none⟩)
  | _ => .pointer none
theorem ptrR_ptrV : ∀ v l ps, ptrR v = some (.lit l, ps) → v = ptrV l := by
  intro v l ps h
  unfold ptrR at h
  split at h
  · cases h
    rfl
  · cases h
    simp [ptrV]
  · cases h
/-- The ports by the names of their devices. -/
noncomputable def byM (dev : Nat → Dev) (pbs : Nat → Nat) : Nat → Lit → Option Lit
  | 0 => fun _ => none
  | k + 1 => putL (byM dev pbs k) (.string (dev k).name.data.toList) (.int .i64 (pbs k : Int))

/-- A chain of n devices in block cb. -/
structure ChainAt (o : Nat → Nat) (n N : Nat) (w : World) (cb g cap mb : Nat) (pbs : Nat → Nat) (st : Nat) (dev : Nat → Dev) (ps : Nat → PS) : Prop where
  n_le : n ≤ 20
  st_lt : st < 16
  c0 : w.cell? ⟨cb, 0, none⟩ = some (.int .i64 (st : Int))
  f0 : w.frozen? ⟨cb, 0, none⟩ = false
  c1 : w.cell? ⟨cb, 1, none⟩ = some (.slice (some ⟨g, 0, none⟩) n cap)
  c2 : w.cell? ⟨cb, 2, none⟩ = some (.map (some mb))
  row : ∀ j, j < n → w.cell? ⟨g, j, none⟩ = some (.pointer (some ⟨pbs j, 0, none⟩))
  map2 : LMap Tryz.prog 9 ptrR w mb n (byM dev pbs n)
  own : o cb = n ∧ o g = n ∧ o mb = n ∧ cb ≠ g ∧ cb ≠ mb
  glt : g < w.heap.size
  ports : ∀ k, k < n → PortAt o k N w (pbs k) (dev k) (ps k)

theorem PortAt.over {o o' : Nat → Nat} {j N : Nat} {w w' : World} {pb : Nat} {d : Dev} {p : PS} (h : PortAt o j N w pb d p) (ho : ∀ b, b < w.heap.size → o' b = o b) (hT : ∀ b, b < w.heap.size → o b = j → w'.heap[b]? = w.heap[b]?) : PortAt o' j N w' pb d p := by
  obtain ⟨m1, m3, m4, bb, h⟩ := h
  have h1 : PortOf o' j N w pb m1 m3 m4 bb d p := h.tale fun b hb e => (ho b hb).trans e
  exact ⟨m1, m3, m4, bb, h1.kept fun b hb e => hT b hb ((ho b hb).symm.trans e)⟩
theorem PortAt.up {o : Nat → Nat} {j N N' : Nat} {w : World} {pb : Nat} {d : Dev} {p : PS} (h : PortAt o j N w pb d p) (hN : N ≤ N') : PortAt o j N' w pb d p := by
  obtain ⟨m1, m3, m4, bb, h⟩ := h
  exact ⟨m1, m3, m4, bb, h.up hN⟩

/-- The world when the first k ports have done what they do: f. -/
def ActI (o : Nat → Nat) (n N : Nat) (w : World) (pbs : Nat → Nat) (dev : Nat → Dev) (ps f : Nat → PS) (k : Nat) (W : World) : Prop :=
  ∃ o', (∀ b, b < w.heap.size → o' b = o b) ∧ (∀ j, j < n → PortAt o' j (if j < k then N + 1 else N) W (pbs j) (dev j) (if j < k then f j else ps j)) ∧ Touch (fun b => o b < n) w W

theorem ActI.did {o o' : Nat → Nat} {n N : Nat} {w W W2 : World} {pbs : Nat → Nat} {dev : Nat → Dev} {ps f : Nat → PS} {k : Nat} (hk : k < n) (ho : ∀ b, b < w.heap.size → o' b = o b)
    (hp : ∀ j, j < n → PortAt o' j (if j < k then N + 1 else N) W (pbs j) (dev j) (if j < k then f j else ps j)) (hT : Touch (fun b => o b < n) w W) {N' : Nat} (hN' : N' ≤ N + 1) (hD : PortDid o' k N' W (pbs k) (dev k) (f k) W2) : ActI o n N w pbs dev ps f (k + 1) W2 := by
  obtain ⟨o2, h1, h2, h3⟩ := hD
  refine ⟨o2, fun b hb => (h1 b (Nat.lt_of_lt_of_le hb hT.size)).trans (ho b hb), fun j hj => ?_, ?_⟩
  · by_cases e : j = k
    · rw [if_pos (by omega), if_pos (by omega), e]
      exact h2.up hN'
    · have hj2 := (hp j hj).over h1 (w' := W2) (fun b hb eb => h3.block b hb (fun e2 => e (eb.symm.trans e2)))
      by_cases hlt : j < k
      · rw [if_pos (by omega), if_pos (by omega)]
        rw [if_pos hlt, if_pos hlt] at hj2
        exact hj2
      · rw [if_neg (by omega), if_neg (by omega)]
        rw [if_neg hlt, if_neg hlt] at hj2
        exact hj2
  · exact ⟨h3.os.trans hT.os, h3.tape.trans hT.tape, h3.output.trans hT.output, Nat.le_trans hT.size h3.size, fun b hb hn => (h3.block b (Nat.lt_of_lt_of_le hb hT.size) (fun e => hn (by rw [← ho b hb, e]; exact hk))).trans (hT.block b hb hn)⟩

/-- What a clock leaves of a chain. -/
def ChainDid (o : Nat → Nat) (n N : Nat) (w : World) (cb g cap mb : Nat) (pbs : Nat → Nat) (st : Nat) (dev : Nat → Dev) (ps : Nat → PS) (w' : World) : Prop :=
  ∃ o', (∀ b, b < w.heap.size → o' b = o b) ∧ ChainAt o' n N w' cb g cap mb pbs st dev ps ∧ Touch (fun b => o b ≤ n) w w'

theorem ChainAt.cblt {o : Nat → Nat} {n N : Nat} {w : World} {cb g cap mb : Nat} {pbs : Nat → Nat} {st : Nat} {dev : Nat → Dev} {ps : Nat → PS} (h : ChainAt o n N w cb g cap mb pbs st dev ps) : cb < w.heap.size := World.block_lt_of_cell? w ⟨cb, 0, none⟩ h.c0

theorem ActI.start {o : Nat → Nat} {n N : Nat} {w : World} {cb g cap mb : Nat} {pbs : Nat → Nat} {st : Nat} {dev : Nat → Dev} {ps : Nat → PS} (h : ChainAt o n N w cb g cap mb pbs st dev ps) (f : Nat → PS) : ActI o n N w pbs dev ps f 0 w :=
  ⟨o, fun _ _ => rfl, fun j hj => by simpa using h.ports j hj, Touch.refl _ _⟩
theorem ChainAt.own_kept {o : Nat → Nat} {n N : Nat} {w W : World} {cb g cap mb : Nat} {pbs : Nat → Nat} {st : Nat} {dev : Nat → Dev} {ps : Nat → PS} (h : ChainAt o n N w cb g cap mb pbs st dev ps) (hT : Touch (fun b => o b < n) w W) : (∀ j, W.cell? ⟨cb, j, none⟩ = w.cell? ⟨cb, j, none⟩) ∧ (∀ j, W.frozen? ⟨cb, j, none⟩ = w.frozen? ⟨cb, j, none⟩) ∧ (∀ j, W.cell? ⟨g, j, none⟩ = w.cell? ⟨g, j, none⟩) ∧ W.heap[mb]? = w.heap[mb]? := by
  obtain ⟨h1, h2, h3, _, _⟩ := h.own
  have hcb := hT.block cb h.cblt (by rw [h1]; omega)
  have hg := hT.block g h.glt (by rw [h2]; omega)
  have hm := hT.block mb h.map2.lt (by rw [h3]; omega)
  exact ⟨fun j => World.cell?_of_block (a := ⟨cb, j, none⟩) hcb, fun j => World.frozen?_of_block (a := ⟨cb, j, none⟩) hcb, fun j => World.cell?_of_block (a := ⟨g, j, none⟩) hg, hm⟩
theorem ActI.cells {o : Nat → Nat} {n N : Nat} {w : World} {cb g cap mb : Nat} {pbs : Nat → Nat} {st : Nat} {dev : Nat → Dev} {ps : Nat → PS} (h : ChainAt o n N w cb g cap mb pbs st dev ps) (f : Nat → PS) :
    ∀ k W, ActI o n N w pbs dev ps f k W → W.cell? ⟨cb, 1, none⟩ = some (.slice (some ⟨g, 0, none⟩) n cap) ∧ ∀ j, j < n → W.cell? ⟨g, j, none⟩ = some (.pointer (some ⟨pbs j, 0, none⟩)) := by
  intro k W hI
  obtain ⟨o', h1, h2, hT⟩ := hI
  obtain ⟨k1, k2, k3, k4⟩ := h.own_kept hT
  exact ⟨(k1 1).trans h.c1, fun j hj => (k3 j).trans (h.row j hj)⟩
theorem ActI.done {o : Nat → Nat} {n N : Nat} {w W : World} {cb g cap mb : Nat} {pbs : Nat → Nat} {st : Nat} {dev : Nat → Dev} {ps f : Nat → PS} (h : ChainAt o n N w cb g cap mb pbs st dev ps) (hI : ActI o n N w pbs dev ps f n W) : ChainDid o n (N + 1) w cb g cap mb pbs st dev f W := by
  obtain ⟨o', h1, h2, hT⟩ := hI
  obtain ⟨k1, k2, k3, k4⟩ := h.own_kept hT
  obtain ⟨p1, p2, p3, p4, p5⟩ := h.own
  refine ⟨o', h1, ⟨h.n_le, h.st_lt, (k1 0).trans h.c0, (k2 0).trans h.f0, (k1 1).trans h.c1, (k1 2).trans h.c2, fun j hj => (k3 j).trans (h.row j hj), h.map2.block k4, ⟨(h1 cb h.cblt).trans p1, (h1 g h.glt).trans p2, (h1 mb h.map2.lt).trans p3, p4, p5⟩, Nat.lt_of_lt_of_le h.glt hT.size, fun k hk => ?_⟩, hT.mono fun x _ hx => Nat.le_of_lt hx⟩
  have := h2 k hk
  rw [if_pos hk, if_pos hk] at this
  exact this

theorem ChainAt.up {o : Nat → Nat} {n N N' : Nat} {w : World} {cb g cap mb : Nat} {pbs : Nat → Nat} {st : Nat} {dev : Nat → Dev} {ps : Nat → PS} (h : ChainAt o n N w cb g cap mb pbs st dev ps) (hN : N ≤ N') : ChainAt o n N' w cb g cap mb pbs st dev ps :=
  { h with ports := fun k hk => (h.ports k hk).up hN }

/-- The state is set. -/
theorem ChainDid.state {o : Nat → Nat} {n N : Nat} {w W : World} {cb g cap mb : Nat} {pbs : Nat → Nat} {st st' : Nat} {dev : Nat → Dev} {ps : Nat → PS} (hcb : o cb = n) (h : ChainDid o n N w cb g cap mb pbs st dev ps W) (hst : st' < 16) : ChainDid o n N w cb g cap mb pbs st' dev ps (W.setCell ⟨cb, 0, none⟩ (.int .i64 (st' : Int))) := by
  obtain ⟨o', h1, h2, hT⟩ := h
  obtain ⟨p1, p2, p3, p4, p5⟩ := h2.own
  have hb : ∀ x, x ≠ cb → (W.setCell ⟨cb, 0, none⟩ (.int .i64 (st' : Int))).heap[x]? = W.heap[x]? := fun x hx => Below.heap_setCell _ _ _ x hx
  have hc : ∀ j, j ≠ 0 → (W.setCell ⟨cb, 0, none⟩ (.int .i64 (st' : Int))).cell? ⟨cb, j, none⟩ = W.cell? ⟨cb, j, none⟩ := fun j hj => World.cell?_setCell_other _ _ _ _ (by simp; try omega)
  refine ⟨o', h1, ⟨h2.n_le, hst, World.cell?_setCell_same _ _ _ h2.c0, by rw [World.frozen?_setCell]; exact h2.f0, (hc 1 (by decide)).trans h2.c1, (hc 2 (by decide)).trans h2.c2, fun j hj => (World.cell?_of_block (a := ⟨g, j, none⟩) (hb g (Ne.symm p4))).trans (h2.row j hj), h2.map2.block (hb mb (Ne.symm p5)), h2.own, by simpa [World.setCell] using h2.glt, fun k hk => ?_⟩, ?_⟩
  · exact (h2.ports k hk).over (fun _ _ => rfl) (fun b _ eb => hb b (fun e => by rw [e, p1] at eb; omega))
  · exact Touch.setCell (S := fun b => o b ≤ n) (p := ⟨cb, 0, none⟩) hT (fun _ => by show o cb ≤ n; omega) _

/-- The world when the bit has gone through the first k ports. -/
def ShiftI (o : Nat → Nat) (n N vb : Nat) (w : World) (pbs : Nat → Nat) (dev : Nat → Dev) (ps : Nat → PS) (c : UInt8) (k : Nat) (W : World) : Prop :=
  (∀ j, j < n → PortAt o j N W (pbs j) (dev j) (if j < k then shiftS (ps j) (carry ps c j) else ps j)) ∧ W.cell? ⟨vb, 0, none⟩ = some (.int .u8 ((carry ps c k).toNat : Int)) ∧ W.frozen? ⟨vb, 0, none⟩ = false ∧ Touch (fun b => o b < n ∨ b = vb) w W

theorem ShiftI.did {o : Nat → Nat} {n N vb : Nat} {w W W2 : World} {pbs : Nat → Nat} {dev : Nat → Dev} {ps : Nat → PS} {c : UInt8} {k : Nat} (hk : k < n) (hvb : o vb = n) (h : ShiftI o n N vb w pbs dev ps c k W)
    (h1 : PortAt o k N W2 (pbs k) (dev k) (shiftS (ps k) (carry ps c k))) (h2 : W2.cell? ⟨vb, 0, none⟩ = some (.int .u8 (((ps k).sh.headD 48).toNat : Int))) (h3 : W2.frozen? ⟨vb, 0, none⟩ = false) (hT : Touch (fun b => o b = k ∨ b = vb) W W2) : ShiftI o n N vb w pbs dev ps c (k + 1) W2 := by
  obtain ⟨g1, g2, g3, g4⟩ := h
  refine ⟨fun j hj => ?_, h2, h3, ?_⟩
  · by_cases e : j = k
    · rw [if_pos (by omega), e]
      exact h1
    · have hj2 := (g1 j hj).over (o' := o) (w' := W2) (fun _ _ => rfl) (fun b hb eb => hT.block b hb (fun e2 => e2.elim (fun e3 => e (eb.symm.trans e3)) (fun e3 => by rw [e3, hvb] at eb; omega)))
      by_cases hlt : j < k
      · rw [if_pos (by omega)]
        rw [if_pos hlt] at hj2
        exact hj2
      · rw [if_neg (by omega)]
        rw [if_neg hlt] at hj2
        exact hj2
  · exact ⟨hT.os.trans g4.os, hT.tape.trans g4.tape, hT.output.trans g4.output, Nat.le_trans g4.size hT.size, fun b hb hn => (hT.block b (Nat.lt_of_lt_of_le hb g4.size) (fun e => hn (e.elim (fun e => .inl (by rw [e]; exact hk)) .inr))).trans (g4.block b hb hn)⟩

theorem ChainAt.shiftStart {o : Nat → Nat} {n N : Nat} {w W1 : World} {cb g cap mb : Nat} {pbs : Nat → Nat} {st : Nat} {dev : Nat → Dev} {ps : Nat → PS} {c : UInt8} {t : TypeId} (h : ChainAt o n N w cb g cap mb pbs st dev ps) (hW1 : W1 = w.alloc (.cells #[.int .u8 (c.toNat : Int)] t)) :
    ShiftI (fun b => if b < w.heap.size then o b else n) n N w.heap.size W1 pbs dev ps c 0 W1 := by
  refine ⟨fun j hj => ?_, ?_, ?_, Touch.refl _ _⟩
  · rw [if_neg (by omega)]
    exact (h.ports j hj).over (fun b hb => by simp [hb]) (fun b hb _ => by rw [hW1]; exact Below.heap_alloc w _ b hb)
  · rw [hW1]
    exact cell_fresh _ _ _ rfl
  · rw [hW1]
    exact frozen_fresh _ _ _ _

theorem ShiftI.keeps {o : Nat → Nat} {n N : Nat} {w W1 W : World} {cb g cap mb : Nat} {pbs : Nat → Nat} {st : Nat} {dev : Nat → Dev} {ps : Nat → PS} {c : UInt8} {t : TypeId} {k : Nat} (_h : ChainAt o n N w cb g cap mb pbs st dev ps) (hW1 : W1 = w.alloc (.cells #[.int .u8 (c.toNat : Int)] t))
    (hI : ShiftI (fun b => if b < w.heap.size then o b else n) n N w.heap.size W1 pbs dev ps c k W) : Touch (fun b => o b < n) w W := by
  obtain ⟨_, _, _, hT⟩ := hI
  have hs : w.heap.size ≤ W1.heap.size := by rw [hW1]; simp
  refine ⟨hT.os.trans (by rw [hW1]; rfl), hT.tape.trans (by rw [hW1]; rfl), hT.output.trans (by rw [hW1]; rfl), Nat.le_trans hs hT.size, fun b hb hn => ?_⟩
  refine (hT.block b (Nat.lt_of_lt_of_le hb hs) (fun e => e.elim (fun e => hn (by simpa [hb] using e)) (fun e => by omega))).trans ?_
  rw [hW1]
  exact Below.heap_alloc w _ b hb

theorem ShiftI.done {o : Nat → Nat} {n N : Nat} {w W1 W : World} {cb g cap mb : Nat} {pbs : Nat → Nat} {st : Nat} {dev : Nat → Dev} {ps : Nat → PS} {c : UInt8} {t : TypeId} (h : ChainAt o n N w cb g cap mb pbs st dev ps) (hst : shifts st = true) (hW1 : W1 = w.alloc (.cells #[.int .u8 (c.toNat : Int)] t))
    (hI : ShiftI (fun b => if b < w.heap.size then o b else n) n N w.heap.size W1 pbs dev ps c n W) : ChainDid o n (N + 1) w cb g cap mb pbs st dev (stepS dev st c ps) W := by
  have hT := ShiftI.keeps h hW1 hI
  obtain ⟨k1, k2, k3, k4⟩ := h.own_kept hT
  obtain ⟨p1, p2, p3, p4, p5⟩ := h.own
  have l1 := h.cblt
  have l2 := h.glt
  have l3 := h.map2.lt
  refine ⟨fun b => if b < w.heap.size then o b else n, fun b hb => by simp [hb], ⟨h.n_le, h.st_lt, (k1 0).trans h.c0, (k2 0).trans h.f0, (k1 1).trans h.c1, (k1 2).trans h.c2, fun j hj => (k3 j).trans (h.row j hj), h.map2.block k4, ?_, Nat.lt_of_lt_of_le h.glt hT.size, fun k hk => ?_⟩, hT.mono fun x _ hx => Nat.le_of_lt hx⟩
  · simp [l1, l2, l3, p1, p2, p3, p4, p5]
  · have := hI.1 k hk
    rw [if_pos hk] at this
    have e : stepS dev st c ps k = shiftS (ps k) (carry ps c k) := if_pos hst
    rw [e]
    exact this.up (Nat.le_succ N)

set_option maxRecDepth 100000 in
theorem chainAct_any (o : Nat → Nat) (n N : Nat) (w : World) (cb g cap mb : Nat) (pbs : Nat → Nat) (st : Nat) (dev : Nat → Dev) (ps : Nat → PS) (h : ChainAt o n N w cb g cap mb pbs st dev ps) (hg : ∀ k, k < n → Good (dev k) (ps k)) (hd : ∀ k, k < n → Right (dev k)) (hN : N < 1000000) (c : UInt8) :
    Calls Tryz.prog 71 #[.pointer (some ⟨cb, 0, none⟩), .int .u8 (c.toNat : Int)] w fun e w' => e = .returned (.int .u8 ((outS n st c ps).toNat : Int)) ∧ ChainDid o n (N + 1) w cb g cap mb pbs st dev (stepS dev st c ps) w' := by
  have hn := h.n_le
  have c0 := h.c0
  by_cases e0 : st = 0
  · subst e0
    have hI := eachReset_any w cb g n cap pbs (ActI o n N w pbs dev ps (stepS dev 0 c ps)) (Nat.le_trans hn (by decide)) (ActI.cells h _) (by
      rintro k W hk ⟨o', h1, h2, hT⟩
      have hp := h2 k hk
      rw [if_neg (Nat.lt_irrefl k), if_neg (Nat.lt_irrefl k)] at hp
      exact (portReset_any o' k N W (pbs k) (dev k) (ps k) hp).mono (fun e w' (hh : _ ∧ _) => ⟨hh.1, ActI.did hk h1 h2 hT (Nat.le_succ N) hh.2⟩)) (ActI.start h _)
    have hfin := Lib.hid (fun W (hI : ActI o n N w pbs dev ps (stepS dev 0 c ps) n W) => ActI.done h hI)
    clear h hg hd
    go_enter Tryz.func71, Tryz.ntmps71
    go_wp2_with fail
    refine hI.mono ?_
    rintro e w2 ⟨rfl, hI2⟩
    go_wp2_with fail
    go_ret
    exact ⟨rfl, hfin.out _ hI2⟩
  by_cases e3 : st = 3
  · subst e3
    have hI := eachCapDR_any w cb g n cap pbs (ActI o n N w pbs dev ps (stepS dev 3 c ps)) (Nat.le_trans hn (by decide)) (ActI.cells h _) (by
      rintro k W hk ⟨o', h1, h2, hT⟩
      have hp := h2 k hk
      rw [if_neg (Nat.lt_irrefl k), if_neg (Nat.lt_irrefl k)] at hp
      exact (captureDR_any o' k N W (pbs k) (dev k) (ps k) hp (hg k hk) (hd k hk)).mono (fun e w' (hh : _ ∧ _) => ⟨hh.1, ActI.did hk h1 h2 hT (Nat.le_succ N) hh.2⟩)) (ActI.start h _)
    have hfin := Lib.hid (fun W (hI : ActI o n N w pbs dev ps (stepS dev 3 c ps) n W) => ActI.done h hI)
    clear h hg hd
    go_enter Tryz.func71, Tryz.ntmps71
    go_wp2_with fail
    refine hI.mono ?_
    rintro e w2 ⟨rfl, hI2⟩
    go_wp2_with fail
    go_ret
    exact ⟨rfl, hfin.out _ hI2⟩
  by_cases e8 : st = 8
  · subst e8
    have hI := eachUpDR_any w cb g n cap pbs (ActI o n N w pbs dev ps (stepS dev 8 c ps)) (Nat.le_trans hn (by decide)) (ActI.cells h _) (by
      rintro k W hk ⟨o', h1, h2, hT⟩
      have hp := h2 k hk
      rw [if_neg (Nat.lt_irrefl k), if_neg (Nat.lt_irrefl k)] at hp
      cases hy : ((ps k).out (selOf (dev k) (ps k).code)).isSome with
      | false =>
        have ef : stepS dev 8 c ps k = ps k := (show stepS dev 8 c ps k = (if ((ps k).out (selOf (dev k) (ps k).code)).isSome = true then { ps k with out := putS (ps k).out (selOf (dev k) (ps k).code) (.string (ps k).sh) } else ps k) from rfl).trans (if_neg (by rw [hy]; decide))
        exact (updateDR_no o' k N W (pbs k) (dev k) (ps k) hp (hd k hk) hy).mono (fun e w' (hh : _ ∧ _) => ⟨hh.1, ActI.did hk h1 h2 hT (Nat.le_succ N) (by rw [ef]; exact hh.2)⟩)
      | true =>
        have ef : stepS dev 8 c ps k = { ps k with out := putS (ps k).out (selOf (dev k) (ps k).code) (.string (ps k).sh) } := (show stepS dev 8 c ps k = (if ((ps k).out (selOf (dev k) (ps k).code)).isSome = true then { ps k with out := putS (ps k).out (selOf (dev k) (ps k).code) (.string (ps k).sh) } else ps k) from rfl).trans (if_pos hy)
        exact (updateDR_yes o' k N W (pbs k) (dev k) (ps k) hp (hg k hk) (hd k hk) hN hy).mono (fun e w' (hh : _ ∧ _) => ⟨hh.1, ActI.did hk h1 h2 hT (Nat.le_refl _) (by rw [ef]; exact hh.2)⟩)) (ActI.start h _)
    have hfin := Lib.hid (fun W (hI : ActI o n N w pbs dev ps (stepS dev 8 c ps) n W) => ActI.done h hI)
    clear h hg hd
    go_enter Tryz.func71, Tryz.ntmps71
    go_wp2_with fail
    refine hI.mono ?_
    rintro e w2 ⟨rfl, hI2⟩
    go_wp2_with fail
    go_ret
    exact ⟨rfl, hfin.out _ hI2⟩
  by_cases e10 : st = 10
  · subst e10
    have hI := eachCapIR_any w cb g n cap pbs (ActI o n N w pbs dev ps (stepS dev 10 c ps)) (Nat.le_trans hn (by decide)) (ActI.cells h _) (by
      rintro k W hk ⟨o', h1, h2, hT⟩
      have hp := h2 k hk
      rw [if_neg (Nat.lt_irrefl k), if_neg (Nat.lt_irrefl k)] at hp
      exact (captureIR_any o' k N W (pbs k) (dev k) (ps k) hp (hd k hk)).mono (fun e w' (hh : _ ∧ _) => ⟨hh.1, ActI.did hk h1 h2 hT (Nat.le_succ N) hh.2⟩)) (ActI.start h _)
    have hfin := Lib.hid (fun W (hI : ActI o n N w pbs dev ps (stepS dev 10 c ps) n W) => ActI.done h hI)
    clear h hg hd
    go_enter Tryz.func71, Tryz.ntmps71
    go_wp2_with fail
    refine hI.mono ?_
    rintro e w2 ⟨rfl, hI2⟩
    go_wp2_with fail
    go_ret
    exact ⟨rfl, hfin.out _ hI2⟩
  by_cases e15 : st = 15
  · subst e15
    have hI := eachUpIR_any w cb g n cap pbs (ActI o n N w pbs dev ps (stepS dev 15 c ps)) (Nat.le_trans hn (by decide)) (ActI.cells h _) (by
      rintro k W hk ⟨o', h1, h2, hT⟩
      have hp := h2 k hk
      rw [if_neg (Nat.lt_irrefl k), if_neg (Nat.lt_irrefl k)] at hp
      exact (updateIR_any o' k N W (pbs k) (dev k) (ps k) hp (hg k hk)).mono (fun e w' (hh : _ ∧ _) => ⟨hh.1, ActI.did hk h1 h2 hT (Nat.le_succ N) hh.2⟩)) (ActI.start h _)
    have hfin := Lib.hid (fun W (hI : ActI o n N w pbs dev ps (stepS dev 15 c ps) n W) => ActI.done h hI)
    clear h hg hd
    go_enter Tryz.func71, Tryz.ntmps71
    go_wp2_with fail
    refine hI.mono ?_
    rintro e w2 ⟨rfl, hI2⟩
    go_wp2_with fail
    go_ret
    exact ⟨rfl, hfin.out _ hI2⟩
  by_cases esh : st = 4 ∨ st = 11
  · obtain ⟨W1, hW1⟩ : ∃ W1 : World, W1 = w.alloc (.cells #[.int .u8 (c.toNat : Int)] 5) := ⟨_, rfl⟩
    have hsh : shifts st = true := by rcases esh with rfl | rfl <;> rfl
    have hvo : (fun b => if b < w.heap.size then o b else n) w.heap.size = n := by simp
    have hI := eachShift_any w.heap.size W1 cb g n cap pbs (ShiftI (fun b => if b < w.heap.size then o b else n) n N w.heap.size W1 pbs dev ps c) (Nat.le_trans hn (by decide)) (fun k W hI => by
      obtain ⟨k1, k2, k3, k4⟩ := h.own_kept (ShiftI.keeps h hW1 hI)
      exact ⟨(k1 1).trans h.c1, fun j hj => (k3 j).trans (h.row j hj)⟩) (by
      intro k W hk hI
      have hI' := hI
      obtain ⟨g1, g2, g3, g4⟩ := hI
      have hp := g1 k hk
      rw [if_neg (Nat.lt_irrefl k)] at hp
      refine (act1_any _ k N W (pbs k) w.heap.size (dev k) (ps k) (carry ps c k) hp (by rw [if_neg (Nat.lt_irrefl _)]; omega) g2 g3).mono ?_
      rintro e w' ⟨he, h1, h2, h3, h4⟩
      exact ⟨he, ShiftI.did hk hvo hI' h1 h2 h3 h4⟩) (h.shiftStart hW1)
    have hout : outS n st c ps = carry ps c n := if_pos hsh
    have hfin := Lib.hid (fun W (hI : ShiftI (fun b => if b < w.heap.size then o b else n) n N w.heap.size W1 pbs dev ps c n W) => ShiftI.done h hsh hW1 hI)
    rw [hout]
    clear h hg hd hsh hvo hout
    rcases esh with rfl | rfl
    · go_enter Tryz.func71, Tryz.ntmps71
      go_wp2_with fail
      rw [← hW1]
      refine hI.mono ?_
      rintro e w2 ⟨rfl, hI2⟩
      have hv := hI2.2.1
      have HI2 := Lib.hid hI2
      clear hI2
      go_wp2_with fail
      go_ret
      exact ⟨rfl, hfin.out _ HI2.out⟩
    · go_enter Tryz.func71, Tryz.ntmps71
      go_wp2_with fail
      rw [← hW1]
      refine hI.mono ?_
      rintro e w2 ⟨rfl, hI2⟩
      have hv := hI2.2.1
      have HI2 := Lib.hid hI2
      clear hI2
      go_wp2_with fail
      go_ret
      exact ⟨rfl, hfin.out _ HI2.out⟩
  · have h4 : ¬ st = 4 := fun e => esh (.inl e)
    have h11 : ¬ st = 11 := fun e => esh (.inr e)
    have hsh : shifts st = false := by simp [shifts, h4, h11]
    have hout : outS n st c ps = 122 := if_neg (by rw [hsh]; decide)
    have hstep : stepS dev st c ps = ps := by
      funext k
      have e1 : stepS dev st c ps k = actS st (dev k) (ps k) := if_neg (by rw [hsh]; decide)
      rw [e1]
      unfold actS
      rw [if_neg e0, if_neg e3, if_neg e8, if_neg e10, if_neg e15]
    rw [hout, hstep]
    have b0 : ((st : Int) == 0) = false := by simp; omega
    have b3 : ((st : Int) == 3) = false := by simp; omega
    have b8 : ((st : Int) == 8) = false := by simp; omega
    have b10 : ((st : Int) == 10) = false := by simp; omega
    have b15 : ((st : Int) == 15) = false := by simp; omega
    have b4 : ((st : Int) == 4) = false := by simp; omega
    have b11 : ((st : Int) == 11) = false := by simp; omega
    have H := Lib.hid h
    clear h hg hd hsh hout hstep e0 e3 e8 e10 e15 esh h4 h11
    go_enter Tryz.func71, Tryz.ntmps71
    go_wp2_with fail
    go_ret
    exact ⟨rfl, o, fun _ _ => rfl, H.out.up (Nat.le_succ N), Touch.refl _ _⟩

set_option maxRecDepth 100000 in
/-- A clock of the chain. -/
theorem chainStep_any (o : Nat → Nat) (n N : Nat) (w : World) (cb g cap mb : Nat) (pbs : Nat → Nat) (st : Nat) (dev : Nat → Dev) (ps : Nat → PS) (h : ChainAt o n N w cb g cap mb pbs st dev ps) (hg : ∀ k, k < n → Good (dev k) (ps k)) (hd : ∀ k, k < n → Right (dev k)) (hN : N < 1000000) (t c : UInt8) (ht : bitB t = true) (hT : Tab w) (hoT : n < o 0) :
    Calls Tryz.prog 30 #[.pointer (some ⟨cb, 0, none⟩), .int .u8 (t.toNat : Int), .int .u8 (c.toNat : Int)] w fun e w' => e = .returned (.int .u8 ((outS n st c ps).toNat : Int)) ∧ ChainDid o n (N + 1) w cb g cap mb pbs (nx st t) dev (stepS dev st c ps) w' := by
  have hact := chainAct_any o n N w cb g cap mb pbs st dev ps h hg hd hN c
  have hst := h.st_lt
  have hcbo := h.own.1
  have hcbl := h.cblt
  have hnx := nx_lt st hst t ht
  have HC := Lib.hid hcbo
  clear h hg hd hcbo
  generalize outS n st c ps = co at hact ⊢
  generalize stepS dev st c ps = ps' at hact ⊢
  have haf := fun W (hW : Tab W) => after_any st t W hst ht hW
  generalize nx st t = st' at haf hnx ⊢
  go_enter Tryz.func30, Tryz.ntmps30
  go_wp2_with fail
  refine hact.mono ?_
  rintro e w2 ⟨rfl, hD⟩
  have HD := Lib.hid hD
  obtain ⟨o', h1, h2, h3⟩ := hD
  have c0 := h2.c0
  have f0 := h2.f0
  have hT2 : Tab w2 := hT.kept (h3.block _ hT.lt (by omega))
  have hafW := haf w2 hT2
  clear haf h1 h2 h3 hT hT2 hact
  go_wp2_with fail
  refine hafW.mono ?_
  rintro e w' ⟨rfl, rfl⟩
  go_wp2_with fail
  go_ret
  exact ⟨rfl, ChainDid.state HC.out HD.out hnx⟩
end Go.Proofs.YtkipkkaloiefpaaGreatDoor
