/- A port in memory, and what it does in each state. -/
import Derived.Test.YtkipkkaloiefpaaGreatDoorShiftR
import Derived.Deep.RegionLaw
namespace Go.Proofs.YtkipkkaloiefpaaGreatDoor
open Go.RowKit Go.Maps

/-- The string of some bytes. -/
abbrev bs (l : List UInt8) : ByteArray := ⟨l.toArray⟩
theorem bs_size (l : List UInt8) : (bs l).size = l.length := by
  show l.toArray.size = _
  simp
theorem bs_list (l : List UInt8) : (bs l).data.toList = l := by simp

/-- The port of a device in block pb, with its maps and its bits; o tells whose each block is: its blocks are k's. At most N entries of outputs were written. -/
structure PortOf (o : Nat → Nat) (k N : Nat) (w : World) (pb m1 m3 m4 bb : Nat) (d : Dev) (p : PS) : Prop where
  c0 : w.cell? ⟨pb, 0, none⟩ = some (.string (bs (firstReg d)))
  c1 : w.cell? ⟨pb, 1, none⟩ = some (.map (some m1))
  c2 : w.cell? ⟨pb, 2, none⟩ = some (.string (bs (capCode d)))
  c3 : w.cell? ⟨pb, 3, none⟩ = some (.map (some m3))
  c4 : w.cell? ⟨pb, 4, none⟩ = some (.map (some m4))
  c5 : w.cell? ⟨pb, 5, none⟩ = some (.string (bs p.code))
  c6 : w.cell? ⟨pb, 6, none⟩ = some (.string (bs (selOf d p.code)))
  free : ∀ j, j < 9 → w.frozen? ⟨pb, j, none⟩ = false
  sh : ShiftAt w pb bb p.sh
  map1 : StrMap Tryz.prog 9 9 w m1 d.ins.n (codesM d.ins d.ins.n)
  map3 : StrMap Tryz.prog 9 9 w m3 N p.inp
  map4 : StrMap Tryz.prog 9 9 w m4 N p.out
  own : o pb = k ∧ o m1 = k ∧ o m3 = k ∧ o m4 = k ∧ o bb = k
  far : pb ≠ m1 ∧ pb ≠ m3 ∧ pb ≠ m4 ∧ pb ≠ bb ∧ bb ≠ m1 ∧ bb ≠ m3 ∧ bb ≠ m4 ∧ m1 ≠ m3 ∧ m1 ≠ m4 ∧ m3 ≠ m4

theorem StrMap.block {P : Program} {k e : TypeId} {w w' : World} {b n : Nat} {M : List UInt8 → Option Lit} (h : StrMap P k e w b n M) (hb : w'.heap[b]? = w.heap[b]?) : StrMap P k e w' b n M := by
  obtain ⟨D, ⟨es, clock, hbl, r⟩, h2, h3⟩ := h
  exact ⟨D, ⟨es, clock, hb.trans hbl, r⟩, h2, h3⟩
theorem ShiftAt.block {w w' : World} {pb bb : Nat} {l : List UInt8} (h : ShiftAt w pb bb l) (h1 : w'.heap[pb]? = w.heap[pb]?) (h2 : w'.heap[bb]? = w.heap[bb]?) : ShiftAt w' pb bb l := by
  obtain ⟨b, f, cap, hf, e, hb, hcap, h7, h8, hr⟩ := h
  exact ⟨b, f, cap, hf, e, hb, hcap, (World.cell?_of_block (a := ⟨pb, 7, none⟩) h1).trans h7, (World.cell?_of_block (a := ⟨pb, 8, none⟩) h1).trans h8, hr.block h2⟩

theorem PortOf.lt {o : Nat → Nat} {k N : Nat} {w : World} {pb m1 m3 m4 bb : Nat} {d : Dev} {p : PS} (h : PortOf o k N w pb m1 m3 m4 bb d p) : pb < w.heap.size ∧ m1 < w.heap.size ∧ m3 < w.heap.size ∧ m4 < w.heap.size ∧ bb < w.heap.size := by
  obtain ⟨b, f, cap, hf, e, hb, hcap, h7, h8, hr⟩ := h.sh
  exact ⟨World.block_lt_of_cell? w ⟨pb, 0, none⟩ h.c0, h.map1.lt, h.map3.lt, h.map4.lt, World.block_lt_of_cell? w ⟨bb, f, none⟩ (hr.cell f hf)⟩

/-- A port whose blocks are as they were. -/
theorem PortOf.kept {o : Nat → Nat} {k N : Nat} {w w' : World} {pb m1 m3 m4 bb : Nat} {d : Dev} {p : PS} (h : PortOf o k N w pb m1 m3 m4 bb d p) (hb : ∀ b, b < w.heap.size → o b = k → w'.heap[b]? = w.heap[b]?) : PortOf o k N w' pb m1 m3 m4 bb d p := by
  obtain ⟨l1, l2, l3, l4, l5⟩ := h.lt
  obtain ⟨o1, o2, o3, o4, o5⟩ := h.own
  have hp := hb pb l1 o1
  have hc : ∀ j, w'.cell? ⟨pb, j, none⟩ = w.cell? ⟨pb, j, none⟩ := fun j => World.cell?_of_block (a := ⟨pb, j, none⟩) hp
  exact ⟨(hc 0).trans h.c0, (hc 1).trans h.c1, (hc 2).trans h.c2, (hc 3).trans h.c3, (hc 4).trans h.c4, (hc 5).trans h.c5, (hc 6).trans h.c6, fun j hj => (World.frozen?_of_block (a := ⟨pb, j, none⟩) hp).trans (h.free j hj),
    h.sh.block hp (hb bb l5 o5), h.map1.block (hb m1 l2 o2), h.map3.block (hb m3 l3 o3), h.map4.block (hb m4 l4 o4), h.own, h.far⟩
theorem PortOf.up {o : Nat → Nat} {k N N' : Nat} {w : World} {pb m1 m3 m4 bb : Nat} {d : Dev} {p : PS} (h : PortOf o k N w pb m1 m3 m4 bb d p) (hN : N ≤ N') : PortOf o k N' w pb m1 m3 m4 bb d p :=
  { h with map3 := h.map3.up hN, map4 := h.map4.up hN }
/-- Another tale of whose each block is, the same where blocks are. -/
theorem PortOf.tale {o o' : Nat → Nat} {k N : Nat} {w : World} {pb m1 m3 m4 bb : Nat} {d : Dev} {p : PS} (h : PortOf o k N w pb m1 m3 m4 bb d p) (ho : ∀ b, b < w.heap.size → o b = k → o' b = k) : PortOf o' k N w pb m1 m3 m4 bb d p := by
  obtain ⟨l1, l2, l3, l4, l5⟩ := h.lt
  obtain ⟨o1, o2, o3, o4, o5⟩ := h.own
  exact { h with own := ⟨ho _ l1 o1, ho _ l2 o2, ho _ l3 o3, ho _ l4 o4, ho _ l5 o5⟩ }

/-- The port in block pb: some maps, some bits. -/
def PortAt (o : Nat → Nat) (k N : Nat) (w : World) (pb : Nat) (d : Dev) (p : PS) : Prop := ∃ m1 m3 m4 bb, PortOf o k N w pb m1 m3 m4 bb d p

/-- What a call leaves that is one port's: the port holds p', only its blocks and new ones are other than they were; the tale of blocks goes on. -/
def PortDid (o : Nat → Nat) (k N : Nat) (w : World) (pb : Nat) (d : Dev) (p' : PS) (w' : World) : Prop :=
  ∃ o', (∀ b, b < w.heap.size → o' b = o b) ∧ PortAt o' k N w' pb d p' ∧ Touch (fun b => o b = k) w w'

/-- Cells 5 and 6 of a port are set. -/
theorem PortOf.set56 {o : Nat → Nat} {k N : Nat} {w : World} {pb m1 m3 m4 bb : Nat} {d : Dev} {p : PS} (h : PortOf o k N w pb m1 m3 m4 bb d p) (c : List UInt8) : PortOf o k N ((w.setCell ⟨pb, 5, none⟩ (.string (bs c))).setCell ⟨pb, 6, none⟩ (.string (bs (selOf d c)))) pb m1 m3 m4 bb d { p with code := c } := by
  obtain ⟨n1, n2, n3, n4, n5, n6, n7, n8, n9, n10⟩ := h.far
  have hc : ∀ j, j ≠ 5 → j ≠ 6 → ((w.setCell ⟨pb, 5, none⟩ (.string (bs c))).setCell ⟨pb, 6, none⟩ (.string (bs (selOf d c)))).cell? ⟨pb, j, none⟩ = w.cell? ⟨pb, j, none⟩ := fun j h5 h6 => by
    rw [World.cell?_setCell_other _ _ _ _ (by simp; try omega), World.cell?_setCell_other _ _ _ _ (by simp; try omega)]
  have hb : ∀ x, x ≠ pb → ((w.setCell ⟨pb, 5, none⟩ (.string (bs c))).setCell ⟨pb, 6, none⟩ (.string (bs (selOf d c)))).heap[x]? = w.heap[x]? := fun x hx => (Below.heap_setCell _ _ _ x hx).trans (Below.heap_setCell _ _ _ x hx)
  refine ⟨(hc 0 (by decide) (by decide)).trans h.c0, (hc 1 (by decide) (by decide)).trans h.c1, (hc 2 (by decide) (by decide)).trans h.c2, (hc 3 (by decide) (by decide)).trans h.c3, (hc 4 (by decide) (by decide)).trans h.c4, ?_, ?_, ?_, ?_, h.map1.block (hb _ (Ne.symm n1)), h.map3.block (hb _ (Ne.symm n2)), h.map4.block (hb _ (Ne.symm n3)), h.own, h.far⟩
  · rw [World.cell?_setCell_other _ _ _ _ (by simp)]
    exact World.cell?_setCell_same _ _ _ h.c5
  · have : (w.setCell ⟨pb, 5, none⟩ (.string (bs c))).cell? ⟨pb, 6, none⟩ = some (.string (bs (selOf d p.code))) := by
      rw [World.cell?_setCell_other _ _ _ _ (by simp)]
      exact h.c6
    exact World.cell?_setCell_same _ _ _ this
  · intro j hj
    rw [World.frozen?_setCell, World.frozen?_setCell]
    exact h.free j hj
  · obtain ⟨b, f, cap, hf, e, hb', hcap, h7, h8, hr⟩ := h.sh
    exact ⟨b, f, cap, hf, e, hb', hcap, (hc 7 (by decide) (by decide)).trans h7, (hc 8 (by decide) (by decide)).trans h8, hr.block (hb _ (Ne.symm n4))⟩

set_option maxRecDepth 100000 in
theorem portReset_any (o : Nat → Nat) (k N : Nat) (w : World) (pb : Nat) (d : Dev) (p : PS) (h : PortAt o k N w pb d p) :
    Calls Tryz.prog 62 #[.pointer (some ⟨pb, 0, none⟩)] w fun e w' => e = .returned (.tuple #[]) ∧ PortDid o k N w pb d { p with code := [] } w' := by
  obtain ⟨m1, m3, m4, bb, h⟩ := h
  have hfin := h.set56 []
  have c0 := h.c0
  have c5 := h.c5
  have c6 := h.c6
  have f5 := h.free 5 (by decide)
  have f6 := h.free 6 (by decide)
  have ho := h.own.1
  have HF := Lib.hid hfin
  have HO := Lib.hid ho
  clear hfin h ho
  go_enter Tryz.func62, Tryz.ntmps62
  go_wp2_with fail
  go_end0
  refine ⟨rfl, o, fun _ _ => rfl, ⟨m1, m3, m4, bb, HF.out⟩, ?_⟩
  exact Touch.setCell (S := fun b => o b = k) (p := ⟨pb, 6, none⟩) (Touch.setCell (S := fun b => o b = k) (p := ⟨pb, 5, none⟩) (Touch.refl _ w) (fun _ => HO.out) _) (fun _ => HO.out) _

/-- Behind a load. -/
theorem PortOf.loaded {o : Nat → Nat} {k N : Nat} {w w' : World} {pb m1 m3 m4 bb : Nat} {d : Dev} {p : PS} (h : PortOf o k N w pb m1 m3 m4 bb d p) (l : List UInt8) (hS : ShiftAt w' pb w.heap.size l) (hk : PortKept pb w w') (hT : Touch (fun b => b = pb) w w') :
    PortDid o k N w pb d { p with sh := l } w' := by
  obtain ⟨l1, l2, l3, l4, l5⟩ := h.lt
  obtain ⟨o1, o2, o3, o4, o5⟩ := h.own
  obtain ⟨n1, n2, n3, n4, n5, n6, n7, n8, n9, n10⟩ := h.far
  have hb := hT.block
  refine ⟨fun b => if b < w.heap.size then o b else k, fun b hb => by simp [hb], ⟨m1, m3, m4, w.heap.size, ?_⟩, hT.mono fun x _ hx => by rw [hx]; exact o1⟩
  refine ⟨(hk.1 0 (by decide)).trans h.c0, (hk.1 1 (by decide)).trans h.c1, (hk.1 2 (by decide)).trans h.c2, (hk.1 3 (by decide)).trans h.c3, (hk.1 4 (by decide)).trans h.c4, (hk.1 5 (by decide)).trans h.c5, (hk.1 6 (by decide)).trans h.c6, fun j hj => (hk.2 j).trans (h.free j hj), hS,
    h.map1.block (hb m1 l2 (Ne.symm n1)), h.map3.block (hb m3 l3 (Ne.symm n2)), h.map4.block (hb m4 l4 (Ne.symm n3)), ?_, ?_⟩
  · simp [l1, l2, l3, l4, o1, o2, o3, o4]
  · exact ⟨n1, n2, n3, by omega, by omega, by omega, by omega, n8, n9, n10⟩

theorem cell78 {w : World} {pb bb : Nat} {l : List UInt8} (h : ShiftAt w pb bb l) : (∃ v, w.cell? ⟨pb, 7, none⟩ = some v) ∧ ∃ v, w.cell? ⟨pb, 8, none⟩ = some v := by
  obtain ⟨b, f, cap, hf, e, hb, hcap, h7, h8, hr⟩ := h
  exact ⟨⟨_, h7⟩, _, h8⟩

/-- load, for a port. -/
theorem load_port (o : Nat → Nat) (k N : Nat) (w : World) (pb m1 m3 m4 bb : Nat) (d : Dev) (p : PS) (h : PortOf o k N w pb m1 m3 m4 bb d p) (s : ByteArray) (hs1 : 1 ≤ s.size) (hs2 : s.size ≤ 1000) :
    Calls Tryz.prog 61 #[.pointer (some ⟨pb, 7, none⟩), .string s] w fun e w' => e = .returned (.tuple #[]) ∧ PortDid o k N w pb d { p with sh := s.data.toList } w' := by
  obtain ⟨⟨v7, h7⟩, v8, h8⟩ := cell78 h.sh
  refine (load_any w pb s hs1 hs2 v7 v8 h.lt.1 h7 h8 (h.free 7 (by decide)) (h.free 8 (by decide))).mono ?_
  rintro e w' ⟨he, hS, hK, hT, _⟩
  exact ⟨he, h.loaded _ hS hK hT⟩
/-- Ahead of a draw. -/
theorem PortDid.drew {o : Nat → Nat} {k N : Nat} {w w' : World} {pb : Nat} {d : Dev} {p : PS} (h : PortDid o k N w.drew pb d p w') : PortDid o k N w pb d p w' := by
  obtain ⟨o', h1, h2, h3⟩ := h
  exact ⟨o', h1, h2, ⟨h3.os, h3.tape, h3.output, h3.size, h3.block⟩⟩

theorem capCode_len {d : Dev} (hd : Right d) : 1 ≤ (bs (capCode d)).size ∧ (bs (capCode d)).size ≤ 1000 := by
  have h2 := hd.long2
  have h3 := hd.long32
  rw [bs_size]
  simp [capCode]
  omega

set_option maxRecDepth 100000 in
theorem captureIR_any (o : Nat → Nat) (k N : Nat) (w : World) (pb : Nat) (d : Dev) (p : PS) (h : PortAt o k N w pb d p) (hd : Right d) :
    Calls Tryz.prog 114 #[.pointer (some ⟨pb, 0, none⟩)] w fun e w' => e = .returned (.tuple #[]) ∧ PortDid o k N w pb d { p with sh := capCode d } w' := by
  obtain ⟨m1, m3, m4, bb, h⟩ := h
  have c2 := h.c2
  obtain ⟨hl1, hl2⟩ := capCode_len hd
  have hload := load_port o k N w.drew pb m1 m3 m4 bb d p (h.kept (fun _ _ _ => rfl)) (bs (capCode d)) hl1 hl2
  rw [bs_list] at hload
  clear h hl1 hl2
  generalize bs (capCode d) = cc at c2 hload
  go_enter Tryz.func114, Tryz.ntmps114
  go_wp2_with fail
  go_still_tail 7, (by kernel_rfl)
  change wpList _ _ _ _ _ w.drew
  go_wp2_with fail
  refine hload.mono ?_
  rintro e w2 ⟨rfl, hP⟩
  go_wp2_with fail
  go_end0
  exact ⟨rfl, hP.drew⟩

set_option maxRecDepth 100000 in
theorem captureDR_any (o : Nat → Nat) (k N : Nat) (w : World) (pb : Nat) (d : Dev) (p : PS) (h : PortAt o k N w pb d p) (hg : Good d p) (hd : Right d) :
    Calls Tryz.prog 112 #[.pointer (some ⟨pb, 0, none⟩)] w fun e w' => e = .returned (.tuple #[]) ∧ PortDid o k N w pb d { p with sh := strOf (p.inp (selOf d p.code)) } w' := by
  obtain ⟨m1, m3, m4, bb, h⟩ := h
  obtain ⟨s, hs, hkn, hssz⟩ := selOf_known d hd p.code
  obtain ⟨l, hl, hl1, hl2, hl3⟩ := hg.inpS s hkn
  have c3 := h.c3
  have c6 := h.c6
  rw [hs, hl]
  rw [hs] at c6
  have hlook := (h.kept (w' := w.drew) (fun _ _ _ => rfl)).map3.look Tryz.underlying9 Tryz.underlying107 (.string []) (Tryz.zeroStr w.drew) (plain_str ⟨#[]⟩ (by decide)) s hssz
  rw [hl] at hlook
  change _ = Result.ok (Value.string ⟨l.toArray⟩) w.drew at hlook
  have hload := load_port o k N w.drew pb m1 m3 m4 bb d p (h.kept (fun _ _ _ => rfl)) (bs l) (by rw [bs_size]; have : l.length ≠ 0 := fun e => hl1 (List.length_eq_zero_iff.1 e); omega) (by rw [bs_size]; exact hl3)
  rw [bs_list] at hload
  have hss : bs s.data.toList = s := by simp
  rw [hss] at c6
  clear h hl hs hl1 hl2 hl3 hss
  change Calls _ _ #[_, .string ⟨l.toArray⟩] _ _ at hload
  generalize (⟨l.toArray⟩ : ByteArray) = cc at hlook hload
  go_enter Tryz.func112, Tryz.ntmps112
  go_wp2_with fail
  go_still_tail 12, (by kernel_rfl)
  change wpList _ _ _ _ _ w.drew
  go_wp2_with fail
  refine hload.mono ?_
  rintro e w2 ⟨rfl, hP⟩
  go_wp2_with fail
  go_end0
  exact ⟨rfl, hP.drew⟩

/-- An entry is set: the run. -/
theorem StrMap.update_run {P : Program} {k e : TypeId} {w : World} {b n : Nat} {M : List UInt8 → Option Lit} (h : StrMap P k e w b n M) (hk : P.underlying k = some .string) {t : TypeId} (ht : P.underlying t = some (.map k e)) (hn : n < 1000000) (s : ByteArray) (hs : s.size ≤ 1048576) (l : Lit) (val : Value) (hl : plainElem (H := Unit) P e val = some (.lit l, [])) :
    ∃ w', (Instr.mapUpdate t (.map (some b)) (.string s) val).run P w = .ok () w' ∧ StrMap P k e w' b (n + 1) (putS M s.data.toList l) ∧ w.grownBy w' (some b) := by
  obtain ⟨D, h1, h2, h3⟩ := h
  obtain ⟨w', hrun, r1, r2⟩ := h1.update (string_keyed hk) ht (by unfold maxLen; omega) (WideMaps.keyOf_string_mk hk (s := s) (by unfold maxLen; omega)) hl
  exact ⟨w', hrun, ⟨_, r1, h2.put _ _, StrMap.put_data h2 h3 _ _⟩, r2⟩

set_option maxRecDepth 100000 in
theorem updateIR_any (o : Nat → Nat) (k N : Nat) (w : World) (pb : Nat) (d : Dev) (p : PS) (h : PortAt o k N w pb d p) (hg : Good d p) :
    Calls Tryz.prog 115 #[.pointer (some ⟨pb, 0, none⟩)] w fun e w' => e = .returned (.tuple #[]) ∧ PortDid o k N w pb d { p with code := p.sh } w' := by
  obtain ⟨m1, m3, m4, bb, h⟩ := h
  have hcon := content_any w pb bb p.sh h.sh
  have hl := hg.shL
  have h0 := hg.sh0
  have hsel : selOf d p.sh = regOf d.ins p.sh := by unfold selOf; rw [if_neg h0]
  have hfin := h.set56 p.sh
  have hreg := fun W hW => registerOf_any d.ins W m1 d.ins.n (bs p.sh) (by rw [bs_size]; omega) hW
  rw [bs_list, ← hsel] at hreg
  have c1 := h.c1
  have c5 := h.c5
  have c6 := h.c6
  have f5 := h.free 5 (by decide)
  have f6 := h.free 6 (by decide)
  have HO := Lib.hid h.own.1
  have hfar := h.far.1
  have hm1 := h.map1
  have HF := Lib.hid hfin
  clear hfin h hl h0 hsel
  change Calls _ _ _ _ (fun e w' => e = .returned (.string (bs p.sh)) ∧ _) at hcon
  change ∀ W, _ → Calls _ _ _ _ (fun e w' => e = .returned (.string (bs (selOf d p.sh))) ∧ _) at hreg
  obtain ⟨x, hx⟩ : ∃ x, x = bs p.sh := ⟨_, rfl⟩
  obtain ⟨y, hy⟩ : ∃ y, y = bs (selOf d p.sh) := ⟨_, rfl⟩
  rw [← hx] at hcon hreg HF
  rw [← hy] at hreg HF
  clear hx hy
  go_enter Tryz.func115, Tryz.ntmps115
  go_wp2_with fail
  refine hcon.mono ?_
  rintro e w2 ⟨rfl, q, rfl⟩
  go_wp2_with fail
  obtain ⟨W, hW⟩ : ∃ W : World, W = (w.drewN q).setCell ⟨pb, 5, none⟩ (.string x) := ⟨_, rfl⟩
  rw [← hW]
  have c1W : W.cell? ⟨pb, 1, none⟩ = some (.map (some m1)) := by
    rw [hW, World.cell?_setCell_other _ _ _ _ (by simp), World.cell?_drewN]
    exact c1
  have c5W : W.cell? ⟨pb, 5, none⟩ = some (.string x) := by
    rw [hW]
    have h5 : (w.drewN q).cell? ⟨pb, 5, none⟩ = some (.string (bs p.code)) := by rw [World.cell?_drewN]; exact c5
    exact World.cell?_setCell_same _ _ _ h5
  have c6W : W.cell? ⟨pb, 6, none⟩ = some (.string (bs (selOf d p.code))) := by
    rw [hW, World.cell?_setCell_other _ _ _ _ (by simp), World.cell?_drewN]
    exact c6
  have f6W : W.frozen? ⟨pb, 6, none⟩ = false := by
    rw [hW, World.frozen?_setCell, World.frozen?_drewN]
    exact f6
  have hregW := (hreg W.drew (by rw [hW]; exact ((hm1.drewN q).setCell (a := ⟨pb, 5, none⟩) (Ne.symm hfar) _).drew)).mono (fun e w' (hh : _ ∧ _) => (⟨hh.1, hh.2.symm⟩ : _ ∧ w' = W.drew))
  clear c1 c5 c6 f5 f6 hm1 hreg hcon
  have HW := Lib.hid hW
  clear hW
  go_still_tail 12, (by kernel_rfl)
  refine wpStill_step (fun K hK => ?_)
  go_simp
  refine ⟨_, hregW, hK _ ?_⟩
  clear hK K
  repeat still_step
  refine wpStill_nil ?_
  change wpList _ _ _ _ _ W.drew
  go_wp2_with fail
  go_end0
  refine ⟨rfl, o, fun _ _ => rfl, ⟨m1, m3, m4, bb, ?_⟩, ?_⟩
  · rw [HW.out]
    exact HF.out.kept (fun _ _ _ => rfl)
  · rw [HW.out]
    exact Touch.setCell (S := fun b => o b = k) (p := ⟨pb, 6, none⟩) (Touch.setCell (S := fun b => o b = k) (p := ⟨pb, 5, none⟩) ((Touch.refl _ w).drewN q) (fun _ => HO.out) _).drew (fun _ => HO.out) _

theorem PortOf.shifted {o : Nat → Nat} {k N : Nat} {w w' : World} {pb m1 m3 m4 bb : Nat} {d : Dev} {p : PS} (h : PortOf o k N w pb m1 m3 m4 bb d p) (l : List UInt8) (hS : ShiftAt w' pb bb l) (hk : PortKept pb w w') (hT : Touch (fun b => b = pb ∨ b = bb) w w') :
    PortOf o k N w' pb m1 m3 m4 bb d { p with sh := l } := by
  obtain ⟨l1, l2, l3, l4, l5⟩ := h.lt
  obtain ⟨n1, n2, n3, n4, n5, n6, n7, n8, n9, n10⟩ := h.far
  have hb := fun b hb h1 h2 => hT.block b hb (fun e => e.elim h1 h2)
  exact ⟨(hk.1 0 (by decide)).trans h.c0, (hk.1 1 (by decide)).trans h.c1, (hk.1 2 (by decide)).trans h.c2, (hk.1 3 (by decide)).trans h.c3, (hk.1 4 (by decide)).trans h.c4, (hk.1 5 (by decide)).trans h.c5, (hk.1 6 (by decide)).trans h.c6, fun j hj => (hk.2 j).trans (h.free j hj), hS,
    h.map1.block (hb m1 l2 (Ne.symm n1) (Ne.symm n5)), h.map3.block (hb m3 l3 (Ne.symm n2) (Ne.symm n6)), h.map4.block (hb m4 l4 (Ne.symm n3) (Ne.symm n7)), h.own, h.far⟩

set_option maxRecDepth 100000 in
/-- The closure that shifts: the bit, in block vb, goes through the port. -/
theorem act1_any (o : Nat → Nat) (k N : Nat) (w : World) (pb vb : Nat) (d : Dev) (p : PS) (c : UInt8) (h : PortAt o k N w pb d p) (hvo : o vb ≠ k) (hv : w.cell? ⟨vb, 0, none⟩ = some (.int .u8 (c.toNat : Int))) (hvf : w.frozen? ⟨vb, 0, none⟩ = false) :
    Calls Tryz.prog 116 #[.pointer (some ⟨pb, 0, none⟩), .pointer (some ⟨vb, 0, none⟩)] w fun e w' => e = .returned (.tuple #[]) ∧ PortAt o k N w' pb d (shiftS p c) ∧ w'.cell? ⟨vb, 0, none⟩ = some (.int .u8 ((p.sh.headD 48).toNat : Int)) ∧ w'.frozen? ⟨vb, 0, none⟩ = false ∧ Touch (fun b => o b = k ∨ b = vb) w w' := by
  obtain ⟨m1, m3, m4, bb, h⟩ := h
  have hd : PortOf o k N w.drew pb m1 m3 m4 bb d p := h.kept (fun _ _ _ => rfl)
  have hsh := shiftR_port w.drew pb bb p.sh c hd.sh (Ne.symm h.far.2.2.2.1) (h.free 8 (by decide))
  have hvl := World.block_lt_of_cell? w ⟨vb, 0, none⟩ hv
  have hvp : vb ≠ pb := fun e => hvo (by rw [e]; exact h.own.1)
  have hvb : vb ≠ bb := fun e => hvo (by rw [e]; exact h.own.2.2.2.2)
  have H := Lib.hid hd
  clear h hd
  generalize p.sh.headD 48 = hd0 at hsh ⊢
  go_enter Tryz.func116, Tryz.ntmps116
  go_wp2_with fail
  go_still_tail 4, (by kernel_rfl)
  change wpList _ _ _ _ _ w.drew
  go_wp2_with fail
  refine hsh.mono ?_
  rintro e w2 ⟨rfl, hS, hK, hT⟩
  have hP := Lib.hid (H.out.shifted _ hS hK hT)
  have hvblk := hT.block vb hvl (fun e => e.elim hvp hvb)
  have hv2 : w2.cell? ⟨vb, 0, none⟩ = some (.int .u8 (c.toNat : Int)) := (World.cell?_of_block (a := ⟨vb, 0, none⟩) hvblk).trans hv
  have hvf2 : w2.frozen? ⟨vb, 0, none⟩ = false := (World.frozen?_of_block (a := ⟨vb, 0, none⟩) hvblk).trans hvf
  clear hvblk hS hK hv hvf
  have HT := Lib.hid hT
  clear hT
  go_wp2_with fail
  go_end0
  have hown := H.out.own
  refine ⟨rfl, ⟨m1, m3, m4, bb, hP.out.kept fun b _ hb => Below.heap_setCell _ _ _ b (fun e => hvo ((congrArg o e).symm.trans hb))⟩, World.cell?_setCell_same _ _ _ hv2, ?_, ?_⟩
  · rw [World.frozen?_setCell]
    exact hvf2
  · have h1 : Touch (fun b => o b = k ∨ b = vb) w w2 := by
      have h2 := HT.out
      exact ⟨h2.os, h2.tape, h2.output, h2.size, fun b hb hn => h2.block b hb (fun e => hn (.inl (e.elim (fun e => by rw [e]; exact hown.1) (fun e => by rw [e]; exact hown.2.2.2.2))))⟩
    exact Touch.setCell (S := fun b => o b = k ∨ b = vb) (p := ⟨vb, 0, none⟩) h1 (fun _ => .inr rfl) _

/-- Behind an update of the outputs. -/
theorem PortOf.updated {o : Nat → Nat} {k N : Nat} {w w' : World} {pb m1 m3 m4 bb : Nat} {d : Dev} {p : PS} (h : PortOf o k N w pb m1 m3 m4 bb d p) (M : List UInt8 → Option Lit) (hm : StrMap Tryz.prog 9 9 w' m4 (N + 1) M) (hg : w.grownBy w' (some m4)) :
    PortOf o k (N + 1) w' pb m1 m3 m4 bb d { p with out := M } := by
  obtain ⟨l1, l2, l3, l4, l5⟩ := h.lt
  obtain ⟨n1, n2, n3, n4, n5, n6, n7, n8, n9, n10⟩ := h.far
  have hb : ∀ b, b < w.heap.size → b ≠ m4 → w'.heap[b]? = w.heap[b]? := fun b hb h1 => hg.block b hb (fun e => h1 (Option.some.inj e))
  have hp := hb pb l1 n3
  have hc : ∀ j, w'.cell? ⟨pb, j, none⟩ = w.cell? ⟨pb, j, none⟩ := fun j => World.cell?_of_block (a := ⟨pb, j, none⟩) hp
  exact ⟨(hc 0).trans h.c0, (hc 1).trans h.c1, (hc 2).trans h.c2, (hc 3).trans h.c3, (hc 4).trans h.c4, (hc 5).trans h.c5, (hc 6).trans h.c6, fun j hj => (World.frozen?_of_block (a := ⟨pb, j, none⟩) hp).trans (h.free j hj),
    h.sh.block hp (hb bb l5 n7), h.map1.block (hb m1 l2 n9), (h.map3.block (hb m3 l3 n10)).up (by omega), hm, h.own, h.far⟩

set_option maxRecDepth 100000 in
theorem updateDR_no (o : Nat → Nat) (k N : Nat) (w : World) (pb : Nat) (d : Dev) (p : PS) (h : PortAt o k N w pb d p) (hd : Right d) (hno : (p.out (selOf d p.code)).isSome = false) :
    Calls Tryz.prog 113 #[.pointer (some ⟨pb, 0, none⟩)] w fun e w' => e = .returned (.tuple #[]) ∧ PortDid o k N w pb d p w' := by
  obtain ⟨m1, m3, m4, bb, h⟩ := h
  obtain ⟨s, hs, hkn, hssz⟩ := selOf_known d hd p.code
  have c4 := h.c4
  have c6 := h.c6
  rw [hs] at c6 hno
  have hlook := (h.kept (w' := w.drew) (fun _ _ _ => rfl)).map4.look_ok Tryz.underlying9 Tryz.underlying107 (.string []) (Tryz.zeroStr w.drew) (plain_str ⟨#[]⟩ (by decide)) s hssz
  rw [hno] at hlook
  have hss : bs s.data.toList = s := by simp
  rw [hss] at c6
  generalize litVal ((p.out s.data.toList).getD (.string [])) = v at hlook
  have H := Lib.hid h
  clear h hno hs hss
  go_enter Tryz.func113, Tryz.ntmps113
  go_wp2_with fail
  go_still_tail 13, (by kernel_rfl)
  change wpList _ _ _ _ _ w.drew
  go_wp2_with fail
  go_end0
  exact ⟨rfl, o, fun _ _ => rfl, ⟨m1, m3, m4, bb, H.out.kept (fun _ _ _ => rfl)⟩, (Touch.refl _ w).drew⟩

set_option maxRecDepth 100000 in
theorem updateDR_yes (o : Nat → Nat) (k N : Nat) (w : World) (pb : Nat) (d : Dev) (p : PS) (h : PortAt o k N w pb d p) (hg : Good d p) (hd : Right d) (hN : N < 1000000) (hyes : (p.out (selOf d p.code)).isSome = true) :
    Calls Tryz.prog 113 #[.pointer (some ⟨pb, 0, none⟩)] w fun e w' => e = .returned (.tuple #[]) ∧ PortDid o k (N + 1) w pb d { p with out := putS p.out (selOf d p.code) (.string p.sh) } w' := by
  obtain ⟨m1, m3, m4, bb, h⟩ := h
  obtain ⟨s, hs, hkn, hssz⟩ := selOf_known d hd p.code
  have c4 := h.c4
  have c6 := h.c6
  have hlen := hg.shL
  rw [hs] at c6 hyes
  rw [hs]
  have hlook := (h.kept (w' := w.drew) (fun _ _ _ => rfl)).map4.look_ok Tryz.underlying9 Tryz.underlying107 (.string []) (Tryz.zeroStr w.drew) (plain_str ⟨#[]⟩ (by decide)) s hssz
  rw [hyes] at hlook
  have hss : bs s.data.toList = s := by simp
  rw [hss] at c6
  have hcon := fun n => content_any (w.drew.drewN n) pb bb p.sh (h.kept (w' := w.drew.drewN n) (fun _ _ _ => rfl)).sh
  have hplain := plain_str (bs p.sh) (by rw [bs_size]; omega)
  rw [bs_list] at hplain
  generalize litVal ((p.out s.data.toList).getD (.string [])) = v at hlook
  have H := Lib.hid h
  clear h hyes hs hss
  go_enter Tryz.func113, Tryz.ntmps113
  go_wp2_with fail
  go_still_tail 13, (by kernel_rfl)
  change wpList _ _ _ _ _ w.drew
  go_wp2_with fail
  have c4W : w.drew.cell? ⟨pb, 4, none⟩ = some (.map (some m4)) := c4
  have c6W : w.drew.cell? ⟨pb, 6, none⟩ = some (.string s) := c6
  have hmW := H.out.map4.drew
  generalize hW : w.drew = W at c4W c6W hcon hmW ⊢
  have HW := Lib.hid hW
  clear hW c4 c6 hlook
  change ∀ n : Nat, Calls _ _ _ _ (fun e w' => e = .returned (.string (bs p.sh)) ∧ _) at hcon
  generalize bs p.sh = x at hcon hplain
  obtain ⟨W3, hW3⟩ := Classical.axiomOfChoice (fun n : Nat => (hmW.drewN n).update_run Tryz.underlying9 Tryz.underlying107 hN s hssz (.string p.sh) _ hplain)
  have hrun := fun n => (hW3 n).1
  have hfin : ∀ n, PortDid o k (N + 1) w pb d { p with out := putS p.out s.data.toList (.string p.sh) } (W3 n) := fun n => by
    obtain ⟨_, hm3, hg3⟩ := hW3 n
    rw [← HW.out] at hg3
    have h1 := H.out.kept (w' := w.drew.drewN n) (fun _ _ _ => rfl)
    refine ⟨o, fun _ _ => rfl, ⟨m1, m3, m4, bb, h1.updated _ hm3 hg3⟩, ?_⟩
    have ho := H.out.own.2.2.2.1
    exact Touch.grown (S := fun b => o b = k) ((Touch.refl _ w).drew.drewN n) hg3 (fun x e _ => by cases e; exact ho)
  have H3 := Lib.hid hfin
  clear hW3 hfin
  go_region_law (go_simp; go_at_call 140; refine (hcon _).mono ?_; rintro e w2 ⟨rfl, q, rfl⟩)
  all_goals
    go_wp2_with fail
    go_end0
    exact ⟨rfl, H3.out _⟩
end Go.Proofs.YtkipkkaloiefpaaGreatDoor
