/- A new port: the making of its struct, in whatever order its parts are made. -/
import Derived.Test.YtkipkkaloiefpaaGreatDoorNewP
import Derived.IntWalk
namespace Go.Proofs.YtkipkkaloiefpaaGreatDoor
open Go.RowKit Go.Maps

def emptyM : List UInt8 → Option Lit := fun _ => none
def byp0 : List UInt8 → Option Lit := putS emptyM bypassS.data.toList (.string [48])
/-- The cells of a new port. -/
abbrev portV (m1 m3 m4 : Nat) (d : Dev) : Array Value := #[.string bypassS, .map (some m1), .string (bs (capCode d)), .map (some m3), .map (some m4), .string ⟨#[]⟩, .string ⟨#[]⟩, .slice none 0 0, .int .i64 0]
/-- What the parts of the struct are, as far as they are made. -/
structure NPF (d : Dev) (p : Plc) (W0 : World) (hb : Nat) (l : Array Bool) (w : World) (s3 s6 s7 s8 s9 s10 s11 s12 s13 s14 s15 s16 s17 : Value) (m1 m3 m4 pb : Nat) : Prop where
  sz : l.size = 14
  below : Below (hb + 1) W0 w
  f0 : l[0]?.getD false = true → s6 = devV d p
  f1 : l[1]?.getD false = true → s7 = .map (some m1) ∧ hb < m1 ∧ StrMap Tryz.prog 9 9 w m1 d.ins.n (codesM d.ins d.ins.n)
  f2 : l[2]?.getD false = true → s8 = .pointer (some ⟨hb, 1, none⟩)
  f3 : l[3]?.getD false = true → s9 = .int .i64 d.long
  f4 : l[4]?.getD false = true → s10 = .int .i64 (d.long - 1)
  f5 : l[5]?.getD false = true → s11 = .string (bs (zerosL (d.long - 1)))
  f6 : l[6]?.getD false = true → s12 = .string (bs (capCode d))
  f7 : l[7]?.getD false = true → s13 = .map (some m3) ∧ hb < m3 ∧ StrMap Tryz.prog 9 9 w m3 (if l[8]?.getD false = true then 2 else 1) (if l[8]?.getD false = true then byp0 else emptyM)
  f9 : l[9]?.getD false = true → s14 = .map (some m3)
  f10 : l[10]?.getD false = true → s15 = .map (some m4) ∧ hb < m4 ∧ StrMap Tryz.prog 9 9 w m4 0 emptyM
  f11 : l[11]?.getD false = true → s16 = .agg (portV m1 m3 m4 d)
  f12 : l[12]?.getD false = true → s17 = .pointer (some ⟨pb, 0, none⟩) ∧ hb < pb ∧ w.heap[pb]? = some (.cells (portV m1 m3 m4 d) 112)
  f13 : l[13]?.getD false = true → s3 = .pointer (some ⟨pb, 0, none⟩)
  n13 : l[1]?.getD false = true → l[7]?.getD false = true → m1 ≠ m3
  n14 : l[1]?.getD false = true → l[10]?.getD false = true → m1 ≠ m4
  n34 : l[7]?.getD false = true → l[10]?.getD false = true → m3 ≠ m4
  d8 : l[8]?.getD false = true → l[7]?.getD false = true
  d9 : l[9]?.getD false = true → l[7]?.getD false = true ∧ l[8]?.getD false = true
  d11 : l[11]?.getD false = true → l[1]?.getD false = true ∧ l[9]?.getD false = true ∧ l[10]?.getD false = true
  d12 : l[12]?.getD false = true → l[11]?.getD false = true
  d13 : l[13]?.getD false = true → l[12]?.getD false = true
/-- The state of the region. -/
def NPI (d : Dev) (p : Plc) (W0 : World) (hb : Nat) (l : Array Bool) (a : Act) (w : World) : Prop :=
  ∃ s3 s6 s7 s8 s9 s10 s11 s12 s13 s14 s15 s16 s17 m1 m3 m4 pb, a = ⟨((devV d p) :: (.pointer (some ⟨hb, 0, none⟩)) :: (.pointer none) :: s3 :: undef :: undef :: s6 :: s7 :: s8 :: s9 :: s10 :: s11 :: s12 :: s13 :: s14 :: s15 :: s16 :: s17 :: undef :: undef :: undef :: undef :: undef :: undef :: undef :: undef :: undef :: undef :: undef :: undef :: undef :: undef :: undef :: undef :: undef :: undef :: undef :: undef :: undef :: undef :: undef :: undef :: undef :: undef :: undef :: undef :: undef :: undef :: undef :: undef :: undef :: undef :: undef :: undef :: undef :: undef :: undef :: undef :: undef :: undef :: undef :: undef :: undef :: undef :: []).toArray, []⟩ ∧ NPF d p W0 hb l w s3 s6 s7 s8 s9 s10 s11 s12 s13 s14 s15 s16 s17 m1 m3 m4 pb

theorem flag_other (l : Array Bool) (i j : Nat) (e : j ≠ i) : (l.setIfInBounds i true)[j]?.getD false = l[j]?.getD false := by
  rw [Array.getElem?_setIfInBounds_ne (Ne.symm e)]
theorem flag_off {l : Array Bool} {i : Nat} (h : l[i]?.getD true = false) : ¬ l[i]?.getD false = true := by
  cases hx : l[i]? with
  | none => simp [hx] at h
  | some b => cases b <;> simp_all
theorem map_not_cells {P : Program} {k e : TypeId} {w : World} {b n : Nat} {M : List UInt8 → Option Lit} (h : StrMap P k e w b n M) {cs : Array Value} {t : TypeId} {fr : Nat × Nat} : w.heap[b]? ≠ some (.cells cs t fr) := by
  obtain ⟨D, ⟨es, clock, hb, _⟩, _⟩ := h
  rw [hb]
  intro e
  cases e
theorem block_lt {w : World} {b : Nat} {o : Obj} (h : w.heap[b]? = some o) : b < w.heap.size := (Array.getElem?_eq_some_iff.1 h).1
theorem flag_on {l : Array Bool} {i : Nat} (hs : i < l.size) (h : l.getD i true = true) : l[i]?.getD false = true := by
  simp [Array.getD, hs] at h
  simp [hs, h]
theorem ready_nil {md : Region.Mode} {ops : Array Oper} {l : Array Bool} (h : Region.ready md ops l = []) : ∀ i, i < ops.size → ((ops[i]?).map (·.after.all fun e => !Region.binds md e || l.getD e.on false)).getD false = true → l.getD i true = true := by
  intro i hi hd
  cases hl : l.getD i true with
  | true => rfl
  | false =>
    have : i ∈ Region.ready md ops l := List.mem_filter.2 ⟨List.mem_range.2 hi, by rw [hl, hd]; rfl⟩
    rw [h] at this
    simp at this

/-- A port that has no bits yet. -/
structure RawAt (w : World) (pb m1 m3 m4 N : Nat) (d : Dev) (first : ByteArray) (inp out : List UInt8 → Option Lit) : Prop where
  c : ∀ j, j < 9 → w.cell? ⟨pb, j, none⟩ = (#[.string first, .map (some m1), .string (bs (capCode d)), .map (some m3), .map (some m4), .string ⟨#[]⟩, .string ⟨#[]⟩, .slice none 0 0, .int .i64 0] : Array Value)[j]?
  free : ∀ j, j < 9 → w.frozen? ⟨pb, j, none⟩ = false
  map1 : StrMap Tryz.prog 9 9 w m1 d.ins.n (codesM d.ins d.ins.n)
  map3 : StrMap Tryz.prog 9 9 w m3 N inp
  map4 : StrMap Tryz.prog 9 9 w m4 N out
  far : pb ≠ m1 ∧ pb ≠ m3 ∧ pb ≠ m4 ∧ m1 ≠ m3 ∧ m1 ≠ m4 ∧ m3 ≠ m4
theorem RawAt.start {w : World} {pb m1 m3 m4 N : Nat} {d : Dev} {inp out : List UInt8 → Option Lit} {t : TypeId} (h : w.heap[pb]? = some (.cells (portV m1 m3 m4 d) t)) (h1 : StrMap Tryz.prog 9 9 w m1 d.ins.n (codesM d.ins d.ins.n)) (h3 : StrMap Tryz.prog 9 9 w m3 N inp) (h4 : StrMap Tryz.prog 9 9 w m4 N out) (n13 : m1 ≠ m3) (n14 : m1 ≠ m4) (n34 : m3 ≠ m4) : RawAt w pb m1 m3 m4 N d bypassS inp out :=
  ⟨fun j _ => by unfold World.cell?; simp only [h]; rfl, fun j hj => by unfold World.frozen?; simp only [h]; simp, h1, h3, h4, fun e => map_not_cells h1 (e ▸ h), fun e => map_not_cells h3 (e ▸ h), fun e => map_not_cells h4 (e ▸ h), n13, n14, n34⟩
theorem below_drew {w w' : World} (h : Below w.drew.heap.size w.drew w') : Below w.heap.size w w' := ⟨h.os, h.tape, h.output, h.size, h.block⟩
theorem RawAt.lt {w : World} {pb m1 m3 m4 N : Nat} {d : Dev} {first : ByteArray} {inp out : List UInt8 → Option Lit} (h : RawAt w pb m1 m3 m4 N d first inp out) : pb < w.heap.size ∧ m1 < w.heap.size ∧ m3 < w.heap.size ∧ m4 < w.heap.size :=
  ⟨World.block_lt_of_cell? w ⟨pb, 0, none⟩ (u := .string first) (h.c 0 (by decide)), h.map1.lt, h.map3.lt, h.map4.lt⟩
/-- What other than one of the maps is as it was. -/
theorem RawAt.put3 {W w2 w3 : World} {pb m1 m3 m4 N : Nat} {d : Dev} {first : ByteArray} {inp inp' out : List UInt8 → Option Lit} (h : RawAt W pb m1 m3 m4 N d first inp out) (hB2 : Below W.heap.size W w2) (hm3 : StrMap Tryz.prog 9 9 w3 m3 (N + 1) inp') (hg3 : w2.grownBy w3 (some m3)) : RawAt w3 pb m1 m3 m4 (N + 1) d first inp' out := by
  obtain ⟨l1, l2, l3, l4⟩ := h.lt
  obtain ⟨n1, n2, n3, n4, n5, n6⟩ := h.far
  have hb : ∀ b, b < W.heap.size → b ≠ m3 → w3.heap[b]? = W.heap[b]? := fun b hb hne => (hg3.block b (Nat.lt_of_lt_of_le hb hB2.size) (fun e => hne (Option.some.inj e))).trans (hB2.block b hb)
  exact ⟨fun j hj => (World.cell?_of_block (a := ⟨pb, j, none⟩) (hb pb l1 n2)).trans (h.c j hj), fun j hj => (World.frozen?_of_block (a := ⟨pb, j, none⟩) (hb pb l1 n2)).trans (h.free j hj), h.map1.block (hb m1 l2 n4), hm3, (h.map4.block (hb m4 l4 (Ne.symm n6))).up (by omega), h.far⟩
theorem RawAt.put4 {W w2 w3 : World} {pb m1 m3 m4 N : Nat} {d : Dev} {first : ByteArray} {inp out out' : List UInt8 → Option Lit} (h : RawAt W pb m1 m3 m4 N d first inp out) (hB2 : Below W.heap.size W w2) (hm4 : StrMap Tryz.prog 9 9 w3 m4 (N + 1) out') (hg4 : w2.grownBy w3 (some m4)) : RawAt w3 pb m1 m3 m4 (N + 1) d first inp out' := by
  obtain ⟨l1, l2, l3, l4⟩ := h.lt
  obtain ⟨n1, n2, n3, n4, n5, n6⟩ := h.far
  have hb : ∀ b, b < W.heap.size → b ≠ m4 → w3.heap[b]? = W.heap[b]? := fun b hb hne => (hg4.block b (Nat.lt_of_lt_of_le hb hB2.size) (fun e => hne (Option.some.inj e))).trans (hB2.block b hb)
  exact ⟨fun j hj => (World.cell?_of_block (a := ⟨pb, j, none⟩) (hb pb l1 n3)).trans (h.c j hj), fun j hj => (World.frozen?_of_block (a := ⟨pb, j, none⟩) (hb pb l1 n3)).trans (h.free j hj), h.map1.block (hb m1 l2 n5), (h.map3.block (hb m3 l3 n6)).up (by omega), hm4, h.far⟩
theorem RawAt.up {w : World} {pb m1 m3 m4 N N' : Nat} {d : Dev} {first : ByteArray} {inp out : List UInt8 → Option Lit} (h : RawAt w pb m1 m3 m4 N d first inp out) (hN : N ≤ N') : RawAt w pb m1 m3 m4 N' d first inp out :=
  { h with map3 := h.map3.up hN, map4 := h.map4.up hN }
theorem RawAt.below {w w' : World} {pb m1 m3 m4 N : Nat} {d : Dev} {first : ByteArray} {inp out : List UInt8 → Option Lit} (h : RawAt w pb m1 m3 m4 N d first inp out) (hB : Below w.heap.size w w') : RawAt w' pb m1 m3 m4 N d first inp out := by
  obtain ⟨l1, l2, l3, l4⟩ := h.lt
  exact ⟨fun j hj => (World.cell?_of_block (a := ⟨pb, j, none⟩) (hB.block pb l1)).trans (h.c j hj), fun j hj => (World.frozen?_of_block (a := ⟨pb, j, none⟩) (hB.block pb l1)).trans (h.free j hj), h.map1.block (hB.block m1 l2), h.map3.block (hB.block m3 l3), h.map4.block (hB.block m4 l4), h.far⟩
theorem RawAt.first {w : World} {pb m1 m3 m4 N : Nat} {d : Dev} {first : ByteArray} {inp out : List UInt8 → Option Lit} (h : RawAt w pb m1 m3 m4 N d first inp out) (s : ByteArray) : RawAt (w.setCell ⟨pb, 0, none⟩ (.string s)) pb m1 m3 m4 N d s inp out := by
  obtain ⟨n1, n2, n3, n4, n5, n6⟩ := h.far
  have hb : ∀ b, b ≠ pb → (w.setCell ⟨pb, 0, none⟩ (.string s)).heap[b]? = w.heap[b]? := fun b hb => Below.heap_setCell _ _ _ b hb
  refine ⟨fun j hj => ?_, fun j hj => by rw [World.frozen?_setCell]; exact h.free j hj, h.map1.block (hb m1 (Ne.symm n1)), h.map3.block (hb m3 (Ne.symm n2)), h.map4.block (hb m4 (Ne.symm n3)), h.far⟩
  by_cases e : j = 0
  · subst e
    exact World.cell?_setCell_same _ _ _ (h.c 0 (by decide))
  · rw [World.cell?_setCell_other _ _ _ _ (by simp; try omega), h.c j hj]
    match j, hj, e with
    | 1, _, _ | 2, _, _ | 3, _, _ | 4, _, _ | 5, _, _ | 6, _, _ | 7, _, _ | 8, _, _ => rfl
    | n + 9, h9, _ => omega
set_option maxRecDepth 100000 in
/-- reset, of a port that has not been reset. -/
theorem portReset_raw (w : World) (pb : Nat) (first : ByteArray) (v5 v6 : Value) (c0 : w.cell? ⟨pb, 0, none⟩ = some (.string first)) (c5 : w.cell? ⟨pb, 5, none⟩ = some v5) (c6 : w.cell? ⟨pb, 6, none⟩ = some v6) (f5 : w.frozen? ⟨pb, 5, none⟩ = false) (f6 : w.frozen? ⟨pb, 6, none⟩ = false) :
    Calls Tryz.prog 62 #[.pointer (some ⟨pb, 0, none⟩)] w fun e w' => e = .returned (.tuple #[]) ∧ (w.setCell ⟨pb, 5, none⟩ (.string ⟨#[]⟩)).setCell ⟨pb, 6, none⟩ (.string first) = w' := by
  go_enter Tryz.func62, Tryz.ntmps62
  go_wp2_with fail
  go_end0
  exact ⟨rfl, rfl⟩
theorem cold_port {wr w2 : World} {pb m1 m3 m4 N : Nat} {d : Dev} (h : RawAt wr pb m1 m3 m4 N d (bs (firstReg d)) (inpM d d.regs.n) (outM d d.regs.n)) (hS : ShiftAt w2 pb wr.heap.size [48]) (hK : PortKept pb wr w2) (hT : Touch (fun b => b = pb) wr w2) (o : Nat → Nat) (k : Nat)
    (ho : o pb = k ∧ o m1 = k ∧ o m3 = k ∧ o m4 = k ∧ o wr.heap.size = k) : PortOf o k N ((w2.setCell ⟨pb, 5, none⟩ (.string ⟨#[]⟩)).setCell ⟨pb, 6, none⟩ (.string (bs (firstReg d)))) pb m1 m3 m4 wr.heap.size d (newPS d) := by
  obtain ⟨l1, l2, l3, l4⟩ := h.lt
  obtain ⟨n1, n2, n3, n4, n5, n6⟩ := h.far
  have hc : ∀ j, j ≠ 5 → j ≠ 6 → ((w2.setCell ⟨pb, 5, none⟩ (.string ⟨#[]⟩)).setCell ⟨pb, 6, none⟩ (.string (bs (firstReg d)))).cell? ⟨pb, j, none⟩ = w2.cell? ⟨pb, j, none⟩ := fun j h5 h6 => by
    rw [World.cell?_setCell_other _ _ _ _ (by simp; try omega), World.cell?_setCell_other _ _ _ _ (by simp; try omega)]
  have hb : ∀ x, x < wr.heap.size → x ≠ pb → ((w2.setCell ⟨pb, 5, none⟩ (.string ⟨#[]⟩)).setCell ⟨pb, 6, none⟩ (.string (bs (firstReg d)))).heap[x]? = wr.heap[x]? := fun x hx hne => ((Below.heap_setCell _ _ _ x hne).trans (Below.heap_setCell _ _ _ x hne)).trans (hT.block x hx hne)
  have hcw : ∀ j, j < 7 → j ≠ 5 → j ≠ 6 → ((w2.setCell ⟨pb, 5, none⟩ (.string ⟨#[]⟩)).setCell ⟨pb, 6, none⟩ (.string (bs (firstReg d)))).cell? ⟨pb, j, none⟩ = wr.cell? ⟨pb, j, none⟩ := fun j h7 h5 h6 => (hc j h5 h6).trans (hK.1 j h7)
  refine ⟨(hcw 0 (by decide) (by decide) (by decide)).trans (h.c 0 (by decide)), (hcw 1 (by decide) (by decide) (by decide)).trans (h.c 1 (by decide)), (hcw 2 (by decide) (by decide) (by decide)).trans (h.c 2 (by decide)), (hcw 3 (by decide) (by decide) (by decide)).trans (h.c 3 (by decide)), (hcw 4 (by decide) (by decide) (by decide)).trans (h.c 4 (by decide)), ?_, ?_, fun j hj => ?_, ?_, h.map1.block (hb m1 l2 (Ne.symm n1)), h.map3.block (hb m3 l3 (Ne.symm n2)), h.map4.block (hb m4 l4 (Ne.symm n3)), ho, ⟨n1, n2, n3, by omega, by omega, by omega, by omega, n4, n5, n6⟩⟩
  · rw [World.cell?_setCell_other _ _ _ _ (by simp)]
    exact World.cell?_setCell_same _ _ _ ((hK.1 5 (by decide)).trans (h.c 5 (by decide)))
  · have : (w2.setCell ⟨pb, 5, none⟩ (.string ⟨#[]⟩)).cell? ⟨pb, 6, none⟩ = some (.string ⟨#[]⟩) := by
      rw [World.cell?_setCell_other _ _ _ _ (by simp)]
      exact (hK.1 6 (by decide)).trans (h.c 6 (by decide))
    exact World.cell?_setCell_same _ _ _ this
  · rw [World.frozen?_setCell, World.frozen?_setCell]
    exact (hK.2 j).trans (h.free j hj)
  · obtain ⟨b, f, cap, hf, e, hb', hcap, h7, h8, hr⟩ := hS
    refine ⟨b, f, cap, hf, e, hb', hcap, (hc 7 (by decide) (by decide)).trans h7, (hc 8 (by decide) (by decide)).trans h8, hr.block ?_⟩
    exact (Below.heap_setCell _ _ _ _ (by show wr.heap.size ≠ pb; omega)).trans (Below.heap_setCell _ _ _ _ (by show wr.heap.size ≠ pb; omega))
theorem cap_code {d : Dev} : (⟨#[49]⟩ : ByteArray) ++ bs (zerosL (d.long - 1)) = bs (capCode d) := by
  apply ByteArray.ext
  rw [ByteArray.data_append]
  have h : ∀ n, Lib.repeatL [48] n = List.replicate n (48 : UInt8) := by
    intro n
    induction n with
    | zero => rfl
    | succ n ih =>
      show [48] ++ Lib.repeatL [48] n = _
      rw [ih]
      rfl
  have e : (d.long - 1).toNat = d.long.toNat - 1 := by omega
  unfold zerosL capCode
  rw [h, e]
  simp

theorem set_true (l : Array Bool) (i j : Nat) (hs : l.size = 14) (h : l[j]?.getD false = true) (hi : i < 14 := by decide) : (l.setIfInBounds i true)[j]?.getD false = true := by
  by_cases e : j = i
  · subst e
    rw [Array.getElem?_setIfInBounds_self_of_lt (by omega)]
    rfl
  · rw [flag_other l i j e]
    exact h

set_option maxRecDepth 100000 in
set_option maxHeartbeats 1000000 in
theorem newPort_any (d : Dev) (p : Plc) (w : World) (h : DevOk w.heap.size w d p) (hd : Right d) (hl : ∀ k, k < d.regs.n → 1 ≤ d.regs.long k ∧ d.regs.long k ≤ 1000) (hid : ∃ i : Nat, d.id = (i : Int) ∧ i < 4294967296) :
    Calls Tryz.prog 22 #[devV d p] w fun e w' => ∃ pb, e = .returned (.pointer (some ⟨pb, 0, none⟩)) ∧ Below w.heap.size w w' ∧ w.heap.size ≤ pb ∧ ∀ o k, (∀ b, w.heap.size ≤ b → o b = k) → PortAt o k (4 + 2 * d.regs.n) w' pb d (newPS d) := by
  obtain ⟨ra, rc, ia, ic⟩ := p
  obtain ⟨hlo, hhi, _, _⟩ := hd
  go_enter Tryz.func22, Tryz.ntmps22
  go_wp2_with fail
  obtain ⟨W0, hW0⟩ : ∃ W0 : World, W0 = w.alloc (.cells #[.string d.name, .int .i64 d.long, .int .i64 d.id, .slice ra d.regs.n rc, .slice ia d.ins.n ic] 48) := ⟨_, rfl⟩
  rw [← hW0]
  have hW0s : W0.heap.size = w.heap.size + 1 := by rw [hW0]; simp
  have q0 : W0.cell? ⟨w.heap.size, 0, none⟩ = some (.string d.name) := by rw [hW0]; exact cell_fresh _ _ _ rfl
  have q1 : W0.cell? ⟨w.heap.size, 1, none⟩ = some (.int .i64 d.long) := by rw [hW0]; exact cell_fresh _ _ _ rfl
  have q2 : W0.cell? ⟨w.heap.size, 2, none⟩ = some (.int .i64 d.id) := by rw [hW0]; exact cell_fresh _ _ _ rfl
  have q3 : W0.cell? ⟨w.heap.size, 3, none⟩ = some (.slice ra d.regs.n rc) := by rw [hW0]; exact cell_fresh _ _ _ rfl
  have q4 : W0.cell? ⟨w.heap.size, 4, none⟩ = some (.slice ia d.ins.n ic) := by rw [hW0]; exact cell_fresh _ _ _ rfl
  have hdev0 : DevOk w.heap.size W0 d ⟨ra, rc, ia, ic⟩ := by rw [hW0]; exact h.below ((Below.refl _ w).alloc (Nat.le_refl _) _) (Nat.le_refl _)
  have HW0 := Lib.hid hW0
  clear hW0
  refine wp_region_inv (by kernel_rfl) (NPI d ⟨ra, rc, ia, ic⟩ W0 w.heap.size) ?start ?fin ?step
  case start =>
    refine ⟨undef, undef, undef, undef, undef, undef, undef, undef, undef, undef, undef, undef, undef, 0, 0, 0, 0, rfl, ?_⟩
    constructor <;> first | rfl | exact (Below.refl _ W0).drew | (intro e; simp at e) | (intro e _; simp at e)
  case step =>
    intro l a w1 hI i hi
    obtain ⟨s3, s6, s7, s8, s9, s10, s11, s12, s13, s14, s15, s16, s17, m1, m3, m4, pb, rfl, hF⟩ := hI
    have hi2 := List.mem_filter.1 hi
    have hlt : i < 14 := by simpa using List.mem_range.1 hi2.1
    have hdeps := hi2.2
    clear hi hi2
    have hB := hF.below
    have hsz : w.heap.size + 1 ≤ w1.heap.size := by have := hB.size; omega
    have r0 : w1.cell? ⟨w.heap.size, 0, none⟩ = some (.string d.name) := (hB.cell (p := ⟨w.heap.size, 0, none⟩) (Nat.lt_succ_self _)).trans q0
    have r1 : w1.cell? ⟨w.heap.size, 1, none⟩ = some (.int .i64 d.long) := (hB.cell (p := ⟨w.heap.size, 1, none⟩) (Nat.lt_succ_self _)).trans q1
    have r2 : w1.cell? ⟨w.heap.size, 2, none⟩ = some (.int .i64 d.id) := (hB.cell (p := ⟨w.heap.size, 2, none⟩) (Nat.lt_succ_self _)).trans q2
    have r3 : w1.cell? ⟨w.heap.size, 3, none⟩ = some (.slice ra d.regs.n rc) := (hB.cell (p := ⟨w.heap.size, 3, none⟩) (Nat.lt_succ_self _)).trans q3
    have r4 : w1.cell? ⟨w.heap.size, 4, none⟩ = some (.slice ia d.ins.n ic) := (hB.cell (p := ⟨w.heap.size, 4, none⟩) (Nat.lt_succ_self _)).trans q4
    have hdev : DevOk w1.heap.size w1 d ⟨ra, rc, ia, ic⟩ := (hdev0.below hB (by omega)).up (by omega)
    clear q0 q1 q2 q3 q4 hdev0 h hB
    have : i = 0 ∨ i = 1 ∨ i = 2 ∨ i = 3 ∨ i = 4 ∨ i = 5 ∨ i = 6 ∨ i = 7 ∨ i = 8 ∨ i = 9 ∨ i = 10 ∨ i = 11 ∨ i = 12 ∨ i = 13 := by omega
    rcases this with rfl | rfl | rfl | rfl | rfl | rfl | rfl | rfl | rfl | rfl | rfl | rfl | rfl | rfl
    · simp [Region.binds] at hdeps
      have HF := Lib.hid hF
      clear hF
      refine wpOp_mk rfl (fun K hK => ?_)
      go_simp
      refine hK _ _ ?_
      have hF := HF.out
      refine ⟨s3, devV d ⟨ra, rc, ia, ic⟩, s7, s8, s9, s10, s11, s12, s13, s14, s15, s16, s17, m1, m3, m4, pb, rfl, ?_⟩
      exact {
        sz := Array.size_setIfInBounds.trans hF.sz,
        below := hF.below,
        f0 := fun _ => rfl,
        f1 := fun e => hF.f1 ((flag_other l 0 1 (by decide)).symm.trans e),
        f2 := fun e => hF.f2 ((flag_other l 0 2 (by decide)).symm.trans e),
        f3 := fun e => hF.f3 ((flag_other l 0 3 (by decide)).symm.trans e),
        f4 := fun e => hF.f4 ((flag_other l 0 4 (by decide)).symm.trans e),
        f5 := fun e => hF.f5 ((flag_other l 0 5 (by decide)).symm.trans e),
        f6 := fun e => hF.f6 ((flag_other l 0 6 (by decide)).symm.trans e),
        f7 := fun e => (by
          obtain ⟨x1, x2, x3⟩ := hF.f7 ((flag_other l 0 7 (by decide)).symm.trans e)
          rw [flag_other l 0 8 (by decide)]
          exact ⟨x1, x2, x3⟩),
        f9 := fun e => hF.f9 ((flag_other l 0 9 (by decide)).symm.trans e),
        f10 := fun e => hF.f10 ((flag_other l 0 10 (by decide)).symm.trans e),
        f11 := fun e => hF.f11 ((flag_other l 0 11 (by decide)).symm.trans e),
        f12 := fun e => hF.f12 ((flag_other l 0 12 (by decide)).symm.trans e),
        f13 := fun e => hF.f13 ((flag_other l 0 13 (by decide)).symm.trans e),
        n13 := fun e e' => hF.n13 ((flag_other l 0 1 (by decide)).symm.trans e) ((flag_other l 0 7 (by decide)).symm.trans e'),
        n14 := fun e e' => hF.n14 ((flag_other l 0 1 (by decide)).symm.trans e) ((flag_other l 0 10 (by decide)).symm.trans e'),
        n34 := fun e e' => hF.n34 ((flag_other l 0 7 (by decide)).symm.trans e) ((flag_other l 0 10 (by decide)).symm.trans e'),
        d8 := fun e => set_true l 0 7 hF.sz (hF.d8 ((flag_other l 0 8 (by decide)).symm.trans e)),
        d9 := fun e => ⟨set_true l 0 7 hF.sz ((hF.d9 ((flag_other l 0 9 (by decide)).symm.trans e)).1), set_true l 0 8 hF.sz ((hF.d9 ((flag_other l 0 9 (by decide)).symm.trans e)).2)⟩,
        d11 := fun e => ⟨set_true l 0 1 hF.sz ((hF.d11 ((flag_other l 0 11 (by decide)).symm.trans e)).1), set_true l 0 9 hF.sz ((hF.d11 ((flag_other l 0 11 (by decide)).symm.trans e)).2.1), set_true l 0 10 hF.sz ((hF.d11 ((flag_other l 0 11 (by decide)).symm.trans e)).2.2)⟩,
        d12 := fun e => set_true l 0 11 hF.sz (hF.d12 ((flag_other l 0 12 (by decide)).symm.trans e)),
        d13 := fun e => set_true l 0 12 hF.sz (hF.d13 ((flag_other l 0 13 (by decide)).symm.trans e)) }
    · simp [Region.binds] at hdeps
      obtain rfl := hF.f0 (by simp [hdeps])
      have hcr := codeRegisters_any d ⟨ra, rc, ia, ic⟩ w1 hdev
      have hoff : ¬ l[1]?.getD false = true := flag_off (by simp [hdeps])
      have HF := Lib.hid hF
      clear hF
      refine wpOp_mk rfl (fun K hK => ?_)
      go_simp
      refine hcr.mono ?_
      rintro e w2 ⟨rfl, hS, hB2⟩
      try go_simp
      refine hK _ _ ?_
      have hF := HF.out
      have hk : ∀ b, b < w1.heap.size → w2.heap[b]? = w1.heap[b]? := fun b hb => hB2.block b hb
      refine ⟨s3, _, .map (some (w1.heap.size + 1)), s8, s9, s10, s11, s12, s13, s14, s15, s16, s17, w1.heap.size + 1, m3, m4, pb, rfl, ?_⟩
      exact {
        sz := Array.size_setIfInBounds.trans hF.sz,
        below := hF.below.trans (hB2.mono (by omega)),
        f0 := fun e => hF.f0 ((flag_other l 1 0 (by decide)).symm.trans e),
        f1 := fun _ => ⟨rfl, by omega, hS⟩,
        f2 := fun e => hF.f2 ((flag_other l 1 2 (by decide)).symm.trans e),
        f3 := fun e => hF.f3 ((flag_other l 1 3 (by decide)).symm.trans e),
        f4 := fun e => hF.f4 ((flag_other l 1 4 (by decide)).symm.trans e),
        f5 := fun e => hF.f5 ((flag_other l 1 5 (by decide)).symm.trans e),
        f6 := fun e => hF.f6 ((flag_other l 1 6 (by decide)).symm.trans e),
        f7 := fun e => (by
          obtain ⟨x1, x2, x3⟩ := hF.f7 ((flag_other l 1 7 (by decide)).symm.trans e)
          rw [flag_other l 1 8 (by decide)]
          exact ⟨x1, x2, x3.block (hk m3 x3.lt)⟩),
        f9 := fun e => hF.f9 ((flag_other l 1 9 (by decide)).symm.trans e),
        f10 := fun e => (by
          obtain ⟨x1, x2, x3⟩ := hF.f10 ((flag_other l 1 10 (by decide)).symm.trans e)
          exact ⟨x1, x2, x3.block (hk m4 x3.lt)⟩),
        f11 := fun e => absurd (hF.d11 ((flag_other l 1 11 (by decide)).symm.trans e)).1 hoff,
        f12 := fun e => absurd (hF.d11 (hF.d12 ((flag_other l 1 12 (by decide)).symm.trans e))).1 hoff,
        f13 := fun e => hF.f13 ((flag_other l 1 13 (by decide)).symm.trans e),
        n13 := fun _ e => (by
          have := (hF.f7 ((flag_other l 1 7 (by decide)).symm.trans e)).2.2.lt
          omega),
        n14 := fun _ e => (by
          have := (hF.f10 ((flag_other l 1 10 (by decide)).symm.trans e)).2.2.lt
          omega),
        n34 := fun e e' => hF.n34 ((flag_other l 1 7 (by decide)).symm.trans e) ((flag_other l 1 10 (by decide)).symm.trans e'),
        d8 := fun e => set_true l 1 7 hF.sz (hF.d8 ((flag_other l 1 8 (by decide)).symm.trans e)),
        d9 := fun e => ⟨set_true l 1 7 hF.sz ((hF.d9 ((flag_other l 1 9 (by decide)).symm.trans e)).1), set_true l 1 8 hF.sz ((hF.d9 ((flag_other l 1 9 (by decide)).symm.trans e)).2)⟩,
        d11 := fun e => ⟨set_true l 1 1 hF.sz ((hF.d11 ((flag_other l 1 11 (by decide)).symm.trans e)).1), set_true l 1 9 hF.sz ((hF.d11 ((flag_other l 1 11 (by decide)).symm.trans e)).2.1), set_true l 1 10 hF.sz ((hF.d11 ((flag_other l 1 11 (by decide)).symm.trans e)).2.2)⟩,
        d12 := fun e => set_true l 1 11 hF.sz (hF.d12 ((flag_other l 1 12 (by decide)).symm.trans e)),
        d13 := fun e => set_true l 1 12 hF.sz (hF.d13 ((flag_other l 1 13 (by decide)).symm.trans e)) }
    · simp [Region.binds] at hdeps
      have HF := Lib.hid hF
      clear hF
      refine wpOp_mk rfl (fun K hK => ?_)
      go_simp
      refine hK _ _ ?_
      have hF := HF.out
      refine ⟨s3, s6, s7, .pointer (some ⟨w.heap.size, 1, none⟩), s9, s10, s11, s12, s13, s14, s15, s16, s17, m1, m3, m4, pb, rfl, ?_⟩
      exact {
        sz := Array.size_setIfInBounds.trans hF.sz,
        below := hF.below,
        f0 := fun e => hF.f0 ((flag_other l 2 0 (by decide)).symm.trans e),
        f1 := fun e => hF.f1 ((flag_other l 2 1 (by decide)).symm.trans e),
        f2 := fun _ => rfl,
        f3 := fun e => hF.f3 ((flag_other l 2 3 (by decide)).symm.trans e),
        f4 := fun e => hF.f4 ((flag_other l 2 4 (by decide)).symm.trans e),
        f5 := fun e => hF.f5 ((flag_other l 2 5 (by decide)).symm.trans e),
        f6 := fun e => hF.f6 ((flag_other l 2 6 (by decide)).symm.trans e),
        f7 := fun e => (by
          obtain ⟨x1, x2, x3⟩ := hF.f7 ((flag_other l 2 7 (by decide)).symm.trans e)
          rw [flag_other l 2 8 (by decide)]
          exact ⟨x1, x2, x3⟩),
        f9 := fun e => hF.f9 ((flag_other l 2 9 (by decide)).symm.trans e),
        f10 := fun e => hF.f10 ((flag_other l 2 10 (by decide)).symm.trans e),
        f11 := fun e => hF.f11 ((flag_other l 2 11 (by decide)).symm.trans e),
        f12 := fun e => hF.f12 ((flag_other l 2 12 (by decide)).symm.trans e),
        f13 := fun e => hF.f13 ((flag_other l 2 13 (by decide)).symm.trans e),
        n13 := fun e e' => hF.n13 ((flag_other l 2 1 (by decide)).symm.trans e) ((flag_other l 2 7 (by decide)).symm.trans e'),
        n14 := fun e e' => hF.n14 ((flag_other l 2 1 (by decide)).symm.trans e) ((flag_other l 2 10 (by decide)).symm.trans e'),
        n34 := fun e e' => hF.n34 ((flag_other l 2 7 (by decide)).symm.trans e) ((flag_other l 2 10 (by decide)).symm.trans e'),
        d8 := fun e => set_true l 2 7 hF.sz (hF.d8 ((flag_other l 2 8 (by decide)).symm.trans e)),
        d9 := fun e => ⟨set_true l 2 7 hF.sz ((hF.d9 ((flag_other l 2 9 (by decide)).symm.trans e)).1), set_true l 2 8 hF.sz ((hF.d9 ((flag_other l 2 9 (by decide)).symm.trans e)).2)⟩,
        d11 := fun e => ⟨set_true l 2 1 hF.sz ((hF.d11 ((flag_other l 2 11 (by decide)).symm.trans e)).1), set_true l 2 9 hF.sz ((hF.d11 ((flag_other l 2 11 (by decide)).symm.trans e)).2.1), set_true l 2 10 hF.sz ((hF.d11 ((flag_other l 2 11 (by decide)).symm.trans e)).2.2)⟩,
        d12 := fun e => set_true l 2 11 hF.sz (hF.d12 ((flag_other l 2 12 (by decide)).symm.trans e)),
        d13 := fun e => set_true l 2 12 hF.sz (hF.d13 ((flag_other l 2 13 (by decide)).symm.trans e)) }
    · simp [Region.binds] at hdeps
      obtain rfl := hF.f2 (by simp [hdeps])
      have HF := Lib.hid hF
      clear hF
      refine wpOp_mk rfl (fun K hK => ?_)
      go_simp
      refine hK _ _ ?_
      have hF := HF.out
      refine ⟨s3, s6, s7, _, .int .i64 d.long, s10, s11, s12, s13, s14, s15, s16, s17, m1, m3, m4, pb, rfl, ?_⟩
      exact {
        sz := Array.size_setIfInBounds.trans hF.sz,
        below := hF.below,
        f0 := fun e => hF.f0 ((flag_other l 3 0 (by decide)).symm.trans e),
        f1 := fun e => hF.f1 ((flag_other l 3 1 (by decide)).symm.trans e),
        f2 := fun e => hF.f2 ((flag_other l 3 2 (by decide)).symm.trans e),
        f3 := fun _ => rfl,
        f4 := fun e => hF.f4 ((flag_other l 3 4 (by decide)).symm.trans e),
        f5 := fun e => hF.f5 ((flag_other l 3 5 (by decide)).symm.trans e),
        f6 := fun e => hF.f6 ((flag_other l 3 6 (by decide)).symm.trans e),
        f7 := fun e => (by
          obtain ⟨x1, x2, x3⟩ := hF.f7 ((flag_other l 3 7 (by decide)).symm.trans e)
          rw [flag_other l 3 8 (by decide)]
          exact ⟨x1, x2, x3⟩),
        f9 := fun e => hF.f9 ((flag_other l 3 9 (by decide)).symm.trans e),
        f10 := fun e => hF.f10 ((flag_other l 3 10 (by decide)).symm.trans e),
        f11 := fun e => hF.f11 ((flag_other l 3 11 (by decide)).symm.trans e),
        f12 := fun e => hF.f12 ((flag_other l 3 12 (by decide)).symm.trans e),
        f13 := fun e => hF.f13 ((flag_other l 3 13 (by decide)).symm.trans e),
        n13 := fun e e' => hF.n13 ((flag_other l 3 1 (by decide)).symm.trans e) ((flag_other l 3 7 (by decide)).symm.trans e'),
        n14 := fun e e' => hF.n14 ((flag_other l 3 1 (by decide)).symm.trans e) ((flag_other l 3 10 (by decide)).symm.trans e'),
        n34 := fun e e' => hF.n34 ((flag_other l 3 7 (by decide)).symm.trans e) ((flag_other l 3 10 (by decide)).symm.trans e'),
        d8 := fun e => set_true l 3 7 hF.sz (hF.d8 ((flag_other l 3 8 (by decide)).symm.trans e)),
        d9 := fun e => ⟨set_true l 3 7 hF.sz ((hF.d9 ((flag_other l 3 9 (by decide)).symm.trans e)).1), set_true l 3 8 hF.sz ((hF.d9 ((flag_other l 3 9 (by decide)).symm.trans e)).2)⟩,
        d11 := fun e => ⟨set_true l 3 1 hF.sz ((hF.d11 ((flag_other l 3 11 (by decide)).symm.trans e)).1), set_true l 3 9 hF.sz ((hF.d11 ((flag_other l 3 11 (by decide)).symm.trans e)).2.1), set_true l 3 10 hF.sz ((hF.d11 ((flag_other l 3 11 (by decide)).symm.trans e)).2.2)⟩,
        d12 := fun e => set_true l 3 11 hF.sz (hF.d12 ((flag_other l 3 12 (by decide)).symm.trans e)),
        d13 := fun e => set_true l 3 12 hF.sz (hF.d13 ((flag_other l 3 13 (by decide)).symm.trans e)) }
    · simp [Region.binds] at hdeps
      obtain rfl := hF.f3 (by simp [hdeps])
      have hwr : IntKind.i64.wrap (d.long - 1) = d.long - 1 := IntWalk.i64_in _ (by omega)
      have HF := Lib.hid hF
      clear hF
      refine wpOp_mk rfl (fun K hK => ?_)
      go_simp
      refine hK _ _ ?_
      have hF := HF.out
      refine ⟨s3, s6, s7, s8, _, .int .i64 (d.long - 1), s11, s12, s13, s14, s15, s16, s17, m1, m3, m4, pb, rfl, ?_⟩
      exact {
        sz := Array.size_setIfInBounds.trans hF.sz,
        below := hF.below,
        f0 := fun e => hF.f0 ((flag_other l 4 0 (by decide)).symm.trans e),
        f1 := fun e => hF.f1 ((flag_other l 4 1 (by decide)).symm.trans e),
        f2 := fun e => hF.f2 ((flag_other l 4 2 (by decide)).symm.trans e),
        f3 := fun e => hF.f3 ((flag_other l 4 3 (by decide)).symm.trans e),
        f4 := fun _ => rfl,
        f5 := fun e => hF.f5 ((flag_other l 4 5 (by decide)).symm.trans e),
        f6 := fun e => hF.f6 ((flag_other l 4 6 (by decide)).symm.trans e),
        f7 := fun e => (by
          obtain ⟨x1, x2, x3⟩ := hF.f7 ((flag_other l 4 7 (by decide)).symm.trans e)
          rw [flag_other l 4 8 (by decide)]
          exact ⟨x1, x2, x3⟩),
        f9 := fun e => hF.f9 ((flag_other l 4 9 (by decide)).symm.trans e),
        f10 := fun e => hF.f10 ((flag_other l 4 10 (by decide)).symm.trans e),
        f11 := fun e => hF.f11 ((flag_other l 4 11 (by decide)).symm.trans e),
        f12 := fun e => hF.f12 ((flag_other l 4 12 (by decide)).symm.trans e),
        f13 := fun e => hF.f13 ((flag_other l 4 13 (by decide)).symm.trans e),
        n13 := fun e e' => hF.n13 ((flag_other l 4 1 (by decide)).symm.trans e) ((flag_other l 4 7 (by decide)).symm.trans e'),
        n14 := fun e e' => hF.n14 ((flag_other l 4 1 (by decide)).symm.trans e) ((flag_other l 4 10 (by decide)).symm.trans e'),
        n34 := fun e e' => hF.n34 ((flag_other l 4 7 (by decide)).symm.trans e) ((flag_other l 4 10 (by decide)).symm.trans e'),
        d8 := fun e => set_true l 4 7 hF.sz (hF.d8 ((flag_other l 4 8 (by decide)).symm.trans e)),
        d9 := fun e => ⟨set_true l 4 7 hF.sz ((hF.d9 ((flag_other l 4 9 (by decide)).symm.trans e)).1), set_true l 4 8 hF.sz ((hF.d9 ((flag_other l 4 9 (by decide)).symm.trans e)).2)⟩,
        d11 := fun e => ⟨set_true l 4 1 hF.sz ((hF.d11 ((flag_other l 4 11 (by decide)).symm.trans e)).1), set_true l 4 9 hF.sz ((hF.d11 ((flag_other l 4 11 (by decide)).symm.trans e)).2.1), set_true l 4 10 hF.sz ((hF.d11 ((flag_other l 4 11 (by decide)).symm.trans e)).2.2)⟩,
        d12 := fun e => set_true l 4 11 hF.sz (hF.d12 ((flag_other l 4 12 (by decide)).symm.trans e)),
        d13 := fun e => set_true l 4 12 hF.sz (hF.d13 ((flag_other l 4 13 (by decide)).symm.trans e)) }
    · simp [Region.binds] at hdeps
      obtain rfl := hF.f4 (by simp [hdeps])
      obtain ⟨c, hc⟩ : ∃ c : Nat, d.long - 1 = (c : Int) := ⟨(d.long - 1).toNat, by omega⟩
      have hrep := Tryz.strings_Repeat ⟨#[48]⟩ c w1 (by omega) (by show 1 * c ≤ _; omega)
      rw [← hc] at hrep
      have hz : zerosL (d.long - 1) = Lib.repeatL [48] c := by unfold zerosL; rw [hc]; rfl
      have HZ := Lib.hid hz
      have HC := Lib.hid hc
      clear hz hc
      have HF := Lib.hid hF
      clear hF
      refine wpOp_mk rfl (fun K hK => ?_)
      go_simp
      refine hrep.mono ?_
      rintro e w2 ⟨rfl, hB2⟩
      try go_simp
      refine hK _ _ ?_
      have hF := HF.out
      have hk : ∀ b, b < w1.heap.size → w2.heap[b]? = w1.heap[b]? := fun b hb => hB2.block b hb
      refine ⟨s3, s6, s7, s8, s9, _, .string (bs (Lib.repeatL [48] c)), s12, s13, s14, s15, s16, s17, m1, m3, m4, pb, rfl, ?_⟩
      exact {
        sz := Array.size_setIfInBounds.trans hF.sz,
        below := hF.below.trans (hB2.mono (by omega)),
        f0 := fun e => hF.f0 ((flag_other l 5 0 (by decide)).symm.trans e),
        f1 := fun e => (by
          obtain ⟨x1, x2, x3⟩ := hF.f1 ((flag_other l 5 1 (by decide)).symm.trans e)
          exact ⟨x1, x2, x3.block (hk m1 x3.lt)⟩),
        f2 := fun e => hF.f2 ((flag_other l 5 2 (by decide)).symm.trans e),
        f3 := fun e => hF.f3 ((flag_other l 5 3 (by decide)).symm.trans e),
        f4 := fun e => hF.f4 ((flag_other l 5 4 (by decide)).symm.trans e),
        f5 := fun _ => (by rw [HZ.out]),
        f6 := fun e => hF.f6 ((flag_other l 5 6 (by decide)).symm.trans e),
        f7 := fun e => (by
          obtain ⟨x1, x2, x3⟩ := hF.f7 ((flag_other l 5 7 (by decide)).symm.trans e)
          rw [flag_other l 5 8 (by decide)]
          exact ⟨x1, x2, x3.block (hk m3 x3.lt)⟩),
        f9 := fun e => hF.f9 ((flag_other l 5 9 (by decide)).symm.trans e),
        f10 := fun e => (by
          obtain ⟨x1, x2, x3⟩ := hF.f10 ((flag_other l 5 10 (by decide)).symm.trans e)
          exact ⟨x1, x2, x3.block (hk m4 x3.lt)⟩),
        f11 := fun e => hF.f11 ((flag_other l 5 11 (by decide)).symm.trans e),
        f12 := fun e => (by
          obtain ⟨x1, x2, x3⟩ := hF.f12 ((flag_other l 5 12 (by decide)).symm.trans e)
          exact ⟨x1, x2, (hk pb (block_lt x3)).trans x3⟩),
        f13 := fun e => hF.f13 ((flag_other l 5 13 (by decide)).symm.trans e),
        n13 := fun e e' => hF.n13 ((flag_other l 5 1 (by decide)).symm.trans e) ((flag_other l 5 7 (by decide)).symm.trans e'),
        n14 := fun e e' => hF.n14 ((flag_other l 5 1 (by decide)).symm.trans e) ((flag_other l 5 10 (by decide)).symm.trans e'),
        n34 := fun e e' => hF.n34 ((flag_other l 5 7 (by decide)).symm.trans e) ((flag_other l 5 10 (by decide)).symm.trans e'),
        d8 := fun e => set_true l 5 7 hF.sz (hF.d8 ((flag_other l 5 8 (by decide)).symm.trans e)),
        d9 := fun e => ⟨set_true l 5 7 hF.sz ((hF.d9 ((flag_other l 5 9 (by decide)).symm.trans e)).1), set_true l 5 8 hF.sz ((hF.d9 ((flag_other l 5 9 (by decide)).symm.trans e)).2)⟩,
        d11 := fun e => ⟨set_true l 5 1 hF.sz ((hF.d11 ((flag_other l 5 11 (by decide)).symm.trans e)).1), set_true l 5 9 hF.sz ((hF.d11 ((flag_other l 5 11 (by decide)).symm.trans e)).2.1), set_true l 5 10 hF.sz ((hF.d11 ((flag_other l 5 11 (by decide)).symm.trans e)).2.2)⟩,
        d12 := fun e => set_true l 5 11 hF.sz (hF.d12 ((flag_other l 5 12 (by decide)).symm.trans e)),
        d13 := fun e => set_true l 5 12 hF.sz (hF.d13 ((flag_other l 5 13 (by decide)).symm.trans e)) }
    · simp [Region.binds] at hdeps
      obtain rfl := hF.f5 (by simp [hdeps])
      have hcat : ¬ 9223372036854775807 < 1 + (bs (zerosL (d.long - 1))).size := by rw [bs_size, zerosL, zerosL_len]; omega
      generalize hx : bs (zerosL (d.long - 1)) = x at hcat
      have HX := Lib.hid hx
      clear hx
      have HF := Lib.hid hF
      clear hF
      refine wpOp_mk rfl (fun K hK => ?_)
      go_simp
      refine hK _ _ ?_
      have hF := HF.out
      rw [show (⟨#[49]⟩ : ByteArray) ++ x = bs (capCode d) from by rw [← HX.out]; exact cap_code]
      refine ⟨s3, s6, s7, s8, s9, s10, .string x, .string (bs (capCode d)), s13, s14, s15, s16, s17, m1, m3, m4, pb, rfl, ?_⟩
      exact {
        sz := Array.size_setIfInBounds.trans hF.sz,
        below := hF.below,
        f0 := fun e => hF.f0 ((flag_other l 6 0 (by decide)).symm.trans e),
        f1 := fun e => hF.f1 ((flag_other l 6 1 (by decide)).symm.trans e),
        f2 := fun e => hF.f2 ((flag_other l 6 2 (by decide)).symm.trans e),
        f3 := fun e => hF.f3 ((flag_other l 6 3 (by decide)).symm.trans e),
        f4 := fun e => hF.f4 ((flag_other l 6 4 (by decide)).symm.trans e),
        f5 := fun _ => (by rw [HX.out]),
        f6 := fun _ => rfl,
        f7 := fun e => (by
          obtain ⟨x1, x2, x3⟩ := hF.f7 ((flag_other l 6 7 (by decide)).symm.trans e)
          rw [flag_other l 6 8 (by decide)]
          exact ⟨x1, x2, x3⟩),
        f9 := fun e => hF.f9 ((flag_other l 6 9 (by decide)).symm.trans e),
        f10 := fun e => hF.f10 ((flag_other l 6 10 (by decide)).symm.trans e),
        f11 := fun e => hF.f11 ((flag_other l 6 11 (by decide)).symm.trans e),
        f12 := fun e => hF.f12 ((flag_other l 6 12 (by decide)).symm.trans e),
        f13 := fun e => hF.f13 ((flag_other l 6 13 (by decide)).symm.trans e),
        n13 := fun e e' => hF.n13 ((flag_other l 6 1 (by decide)).symm.trans e) ((flag_other l 6 7 (by decide)).symm.trans e'),
        n14 := fun e e' => hF.n14 ((flag_other l 6 1 (by decide)).symm.trans e) ((flag_other l 6 10 (by decide)).symm.trans e'),
        n34 := fun e e' => hF.n34 ((flag_other l 6 7 (by decide)).symm.trans e) ((flag_other l 6 10 (by decide)).symm.trans e'),
        d8 := fun e => set_true l 6 7 hF.sz (hF.d8 ((flag_other l 6 8 (by decide)).symm.trans e)),
        d9 := fun e => ⟨set_true l 6 7 hF.sz ((hF.d9 ((flag_other l 6 9 (by decide)).symm.trans e)).1), set_true l 6 8 hF.sz ((hF.d9 ((flag_other l 6 9 (by decide)).symm.trans e)).2)⟩,
        d11 := fun e => ⟨set_true l 6 1 hF.sz ((hF.d11 ((flag_other l 6 11 (by decide)).symm.trans e)).1), set_true l 6 9 hF.sz ((hF.d11 ((flag_other l 6 11 (by decide)).symm.trans e)).2.1), set_true l 6 10 hF.sz ((hF.d11 ((flag_other l 6 11 (by decide)).symm.trans e)).2.2)⟩,
        d12 := fun e => set_true l 6 11 hF.sz (hF.d12 ((flag_other l 6 12 (by decide)).symm.trans e)),
        d13 := fun e => set_true l 6 12 hF.sz (hF.d13 ((flag_other l 6 13 (by decide)).symm.trans e)) }
    · simp [Region.binds] at hdeps
      have hoff : ¬ l[7]?.getD false = true := flag_off (by simp [hdeps])
      have hm0 := StrMap.made Tryz.prog 9 9 w1
      have HF := Lib.hid hF
      clear hF
      refine wpOp_mk rfl (fun K hK => ?_)
      go_simp
      refine hK _ _ ?_
      have hF := HF.out
      have hk : ∀ b, b < w1.heap.size → (w1.alloc (.map #[] 0)).heap[b]? = w1.heap[b]? := fun b hb => Below.heap_alloc w1 _ b hb
      refine ⟨s3, s6, s7, s8, s9, s10, s11, s12, .map (some w1.heap.size), s14, s15, s16, s17, m1, w1.heap.size, m4, pb, rfl, ?_⟩
      exact {
        sz := Array.size_setIfInBounds.trans hF.sz,
        below := hF.below.alloc hsz _,
        f0 := fun e => hF.f0 ((flag_other l 7 0 (by decide)).symm.trans e),
        f1 := fun e => (by
          obtain ⟨x1, x2, x3⟩ := hF.f1 ((flag_other l 7 1 (by decide)).symm.trans e)
          exact ⟨x1, x2, x3.block (hk m1 x3.lt)⟩),
        f2 := fun e => hF.f2 ((flag_other l 7 2 (by decide)).symm.trans e),
        f3 := fun e => hF.f3 ((flag_other l 7 3 (by decide)).symm.trans e),
        f4 := fun e => hF.f4 ((flag_other l 7 4 (by decide)).symm.trans e),
        f5 := fun e => hF.f5 ((flag_other l 7 5 (by decide)).symm.trans e),
        f6 := fun e => hF.f6 ((flag_other l 7 6 (by decide)).symm.trans e),
        f7 := fun _ => (by
          rw [flag_other l 7 8 (by decide), if_neg (fun e => hoff (hF.d8 e)), if_neg (fun e => hoff (hF.d8 e))]
          exact ⟨rfl, by omega, hm0.up (by omega)⟩),
        f9 := fun e => absurd (hF.d9 ((flag_other l 7 9 (by decide)).symm.trans e)).1 hoff,
        f10 := fun e => (by
          obtain ⟨x1, x2, x3⟩ := hF.f10 ((flag_other l 7 10 (by decide)).symm.trans e)
          exact ⟨x1, x2, x3.block (hk m4 x3.lt)⟩),
        f11 := fun e => absurd (hF.d9 (hF.d11 ((flag_other l 7 11 (by decide)).symm.trans e)).2.1).1 hoff,
        f12 := fun e => absurd (hF.d9 (hF.d11 (hF.d12 ((flag_other l 7 12 (by decide)).symm.trans e))).2.1).1 hoff,
        f13 := fun e => hF.f13 ((flag_other l 7 13 (by decide)).symm.trans e),
        n13 := fun e _ => (by
          have := (hF.f1 ((flag_other l 7 1 (by decide)).symm.trans e)).2.2.lt
          omega),
        n14 := fun e e' => hF.n14 ((flag_other l 7 1 (by decide)).symm.trans e) ((flag_other l 7 10 (by decide)).symm.trans e'),
        n34 := fun _ e => (by
          have := (hF.f10 ((flag_other l 7 10 (by decide)).symm.trans e)).2.2.lt
          omega),
        d8 := fun e => set_true l 7 7 hF.sz (hF.d8 ((flag_other l 7 8 (by decide)).symm.trans e)),
        d9 := fun e => ⟨set_true l 7 7 hF.sz ((hF.d9 ((flag_other l 7 9 (by decide)).symm.trans e)).1), set_true l 7 8 hF.sz ((hF.d9 ((flag_other l 7 9 (by decide)).symm.trans e)).2)⟩,
        d11 := fun e => ⟨set_true l 7 1 hF.sz ((hF.d11 ((flag_other l 7 11 (by decide)).symm.trans e)).1), set_true l 7 9 hF.sz ((hF.d11 ((flag_other l 7 11 (by decide)).symm.trans e)).2.1), set_true l 7 10 hF.sz ((hF.d11 ((flag_other l 7 11 (by decide)).symm.trans e)).2.2)⟩,
        d12 := fun e => set_true l 7 11 hF.sz (hF.d12 ((flag_other l 7 12 (by decide)).symm.trans e)),
        d13 := fun e => set_true l 7 12 hF.sz (hF.d13 ((flag_other l 7 13 (by decide)).symm.trans e)) }
    · simp [Region.binds] at hdeps
      have hd1 : l[7]?.getD false = true := by simp [hdeps]
      obtain ⟨rfl, hm3, hS3⟩ := hF.f7 hd1
      have hoff : ¬ l[8]?.getD false = true := flag_off (by simp [hdeps])
      rw [if_neg hoff, if_neg hoff] at hS3
      obtain ⟨w2, hrun, hS2, hg2⟩ := hS3.update_run Tryz.underlying9 Tryz.underlying107 (by decide) bypassS (by decide) (.string [48]) (.string ⟨#[48]⟩) (plain_str ⟨#[48]⟩ (by decide))
      have hS3lt := hS3.lt
      have HF := Lib.hid hF
      clear hF
      refine wpOp_mk rfl (fun K hK => ?_)
      go_simp
      refine hK _ _ ?_
      have hF := HF.out
      have hk : ∀ b, b < w1.heap.size → b ≠ m3 → w2.heap[b]? = w1.heap[b]? := fun b hb hne => hg2.block b hb (fun e => hne (Option.some.inj e))
      refine ⟨s3, s6, s7, s8, s9, s10, s11, s12, .map (some m3), s14, s15, s16, s17, m1, m3, m4, pb, rfl, ?_⟩
      exact {
        sz := Array.size_setIfInBounds.trans hF.sz,
        below := hF.below.grown hg2 (by omega) (fun k hk => by cases hk; omega),
        f0 := fun e => hF.f0 ((flag_other l 8 0 (by decide)).symm.trans e),
        f1 := fun e => (by
          obtain ⟨x1, x2, x3⟩ := hF.f1 ((flag_other l 8 1 (by decide)).symm.trans e)
          exact ⟨x1, x2, x3.block (hk m1 x3.lt (hF.n13 ((flag_other l 8 1 (by decide)).symm.trans e) hd1))⟩),
        f2 := fun e => hF.f2 ((flag_other l 8 2 (by decide)).symm.trans e),
        f3 := fun e => hF.f3 ((flag_other l 8 3 (by decide)).symm.trans e),
        f4 := fun e => hF.f4 ((flag_other l 8 4 (by decide)).symm.trans e),
        f5 := fun e => hF.f5 ((flag_other l 8 5 (by decide)).symm.trans e),
        f6 := fun e => hF.f6 ((flag_other l 8 6 (by decide)).symm.trans e),
        f7 := fun _ => (by
          have h8 : (l.setIfInBounds 8 true)[8]?.getD false = true := by rw [Array.getElem?_setIfInBounds_self_of_lt (by have := hF.sz; omega)]; rfl
          rw [if_pos h8, if_pos h8]
          exact ⟨rfl, hm3, hS2⟩),
        f9 := fun e => hF.f9 ((flag_other l 8 9 (by decide)).symm.trans e),
        f10 := fun e => (by
          obtain ⟨x1, x2, x3⟩ := hF.f10 ((flag_other l 8 10 (by decide)).symm.trans e)
          exact ⟨x1, x2, x3.block (hk m4 x3.lt (Ne.symm (hF.n34 hd1 ((flag_other l 8 10 (by decide)).symm.trans e))))⟩),
        f11 := fun e => hF.f11 ((flag_other l 8 11 (by decide)).symm.trans e),
        f12 := fun e => (by
          obtain ⟨x1, x2, x3⟩ := hF.f12 ((flag_other l 8 12 (by decide)).symm.trans e)
          exact ⟨x1, x2, (hk pb (block_lt x3) (fun e => map_not_cells (hF.f7 hd1).2.2 (e ▸ x3))).trans x3⟩),
        f13 := fun e => hF.f13 ((flag_other l 8 13 (by decide)).symm.trans e),
        n13 := fun e e' => hF.n13 ((flag_other l 8 1 (by decide)).symm.trans e) ((flag_other l 8 7 (by decide)).symm.trans e'),
        n14 := fun e e' => hF.n14 ((flag_other l 8 1 (by decide)).symm.trans e) ((flag_other l 8 10 (by decide)).symm.trans e'),
        n34 := fun e e' => hF.n34 ((flag_other l 8 7 (by decide)).symm.trans e) ((flag_other l 8 10 (by decide)).symm.trans e'),
        d8 := fun _ => set_true l 8 7 hF.sz (by simp [hdeps]),
        d9 := fun e => ⟨set_true l 8 7 hF.sz ((hF.d9 ((flag_other l 8 9 (by decide)).symm.trans e)).1), set_true l 8 8 hF.sz ((hF.d9 ((flag_other l 8 9 (by decide)).symm.trans e)).2)⟩,
        d11 := fun e => ⟨set_true l 8 1 hF.sz ((hF.d11 ((flag_other l 8 11 (by decide)).symm.trans e)).1), set_true l 8 9 hF.sz ((hF.d11 ((flag_other l 8 11 (by decide)).symm.trans e)).2.1), set_true l 8 10 hF.sz ((hF.d11 ((flag_other l 8 11 (by decide)).symm.trans e)).2.2)⟩,
        d12 := fun e => set_true l 8 11 hF.sz (hF.d12 ((flag_other l 8 12 (by decide)).symm.trans e)),
        d13 := fun e => set_true l 8 12 hF.sz (hF.d13 ((flag_other l 8 13 (by decide)).symm.trans e)) }
    · simp [Region.binds] at hdeps
      have hd1 : l[7]?.getD false = true := by simp [hdeps]
      obtain ⟨rfl, _, _⟩ := hF.f7 hd1
      have HF := Lib.hid hF
      clear hF
      refine wpOp_mk rfl (fun K hK => ?_)
      go_simp
      refine hK _ _ ?_
      have hF := HF.out
      refine ⟨s3, s6, s7, s8, s9, s10, s11, s12, .map (some m3), .map (some m3), s15, s16, s17, m1, m3, m4, pb, rfl, ?_⟩
      exact {
        sz := Array.size_setIfInBounds.trans hF.sz,
        below := hF.below,
        f0 := fun e => hF.f0 ((flag_other l 9 0 (by decide)).symm.trans e),
        f1 := fun e => hF.f1 ((flag_other l 9 1 (by decide)).symm.trans e),
        f2 := fun e => hF.f2 ((flag_other l 9 2 (by decide)).symm.trans e),
        f3 := fun e => hF.f3 ((flag_other l 9 3 (by decide)).symm.trans e),
        f4 := fun e => hF.f4 ((flag_other l 9 4 (by decide)).symm.trans e),
        f5 := fun e => hF.f5 ((flag_other l 9 5 (by decide)).symm.trans e),
        f6 := fun e => hF.f6 ((flag_other l 9 6 (by decide)).symm.trans e),
        f7 := fun e => (by
          obtain ⟨x1, x2, x3⟩ := hF.f7 ((flag_other l 9 7 (by decide)).symm.trans e)
          rw [flag_other l 9 8 (by decide)]
          exact ⟨x1, x2, x3⟩),
        f9 := fun _ => rfl,
        f10 := fun e => hF.f10 ((flag_other l 9 10 (by decide)).symm.trans e),
        f11 := fun e => hF.f11 ((flag_other l 9 11 (by decide)).symm.trans e),
        f12 := fun e => hF.f12 ((flag_other l 9 12 (by decide)).symm.trans e),
        f13 := fun e => hF.f13 ((flag_other l 9 13 (by decide)).symm.trans e),
        n13 := fun e e' => hF.n13 ((flag_other l 9 1 (by decide)).symm.trans e) ((flag_other l 9 7 (by decide)).symm.trans e'),
        n14 := fun e e' => hF.n14 ((flag_other l 9 1 (by decide)).symm.trans e) ((flag_other l 9 10 (by decide)).symm.trans e'),
        n34 := fun e e' => hF.n34 ((flag_other l 9 7 (by decide)).symm.trans e) ((flag_other l 9 10 (by decide)).symm.trans e'),
        d8 := fun e => set_true l 9 7 hF.sz (hF.d8 ((flag_other l 9 8 (by decide)).symm.trans e)),
        d9 := fun _ => ⟨set_true l 9 7 hF.sz (by simp [hdeps]), set_true l 9 8 hF.sz (by simp [hdeps])⟩,
        d11 := fun e => ⟨set_true l 9 1 hF.sz ((hF.d11 ((flag_other l 9 11 (by decide)).symm.trans e)).1), set_true l 9 9 hF.sz ((hF.d11 ((flag_other l 9 11 (by decide)).symm.trans e)).2.1), set_true l 9 10 hF.sz ((hF.d11 ((flag_other l 9 11 (by decide)).symm.trans e)).2.2)⟩,
        d12 := fun e => set_true l 9 11 hF.sz (hF.d12 ((flag_other l 9 12 (by decide)).symm.trans e)),
        d13 := fun e => set_true l 9 12 hF.sz (hF.d13 ((flag_other l 9 13 (by decide)).symm.trans e)) }
    · simp [Region.binds] at hdeps
      have hoff : ¬ l[10]?.getD false = true := flag_off (by simp [hdeps])
      have hm0 := StrMap.made Tryz.prog 9 9 w1
      have HF := Lib.hid hF
      clear hF
      refine wpOp_mk rfl (fun K hK => ?_)
      go_simp
      refine hK _ _ ?_
      have hF := HF.out
      have hk : ∀ b, b < w1.heap.size → (w1.alloc (.map #[] 0)).heap[b]? = w1.heap[b]? := fun b hb => Below.heap_alloc w1 _ b hb
      refine ⟨s3, s6, s7, s8, s9, s10, s11, s12, s13, s14, .map (some w1.heap.size), s16, s17, m1, m3, w1.heap.size, pb, rfl, ?_⟩
      exact {
        sz := Array.size_setIfInBounds.trans hF.sz,
        below := hF.below.alloc hsz _,
        f0 := fun e => hF.f0 ((flag_other l 10 0 (by decide)).symm.trans e),
        f1 := fun e => (by
          obtain ⟨x1, x2, x3⟩ := hF.f1 ((flag_other l 10 1 (by decide)).symm.trans e)
          exact ⟨x1, x2, x3.block (hk m1 x3.lt)⟩),
        f2 := fun e => hF.f2 ((flag_other l 10 2 (by decide)).symm.trans e),
        f3 := fun e => hF.f3 ((flag_other l 10 3 (by decide)).symm.trans e),
        f4 := fun e => hF.f4 ((flag_other l 10 4 (by decide)).symm.trans e),
        f5 := fun e => hF.f5 ((flag_other l 10 5 (by decide)).symm.trans e),
        f6 := fun e => hF.f6 ((flag_other l 10 6 (by decide)).symm.trans e),
        f7 := fun e => (by
          obtain ⟨x1, x2, x3⟩ := hF.f7 ((flag_other l 10 7 (by decide)).symm.trans e)
          rw [flag_other l 10 8 (by decide)]
          exact ⟨x1, x2, x3.block (hk m3 x3.lt)⟩),
        f9 := fun e => hF.f9 ((flag_other l 10 9 (by decide)).symm.trans e),
        f10 := fun _ => ⟨rfl, by omega, hm0⟩,
        f11 := fun e => absurd (hF.d11 ((flag_other l 10 11 (by decide)).symm.trans e)).2.2 hoff,
        f12 := fun e => absurd (hF.d11 (hF.d12 ((flag_other l 10 12 (by decide)).symm.trans e))).2.2 hoff,
        f13 := fun e => hF.f13 ((flag_other l 10 13 (by decide)).symm.trans e),
        n13 := fun e e' => hF.n13 ((flag_other l 10 1 (by decide)).symm.trans e) ((flag_other l 10 7 (by decide)).symm.trans e'),
        n14 := fun e _ => (by
          have := (hF.f1 ((flag_other l 10 1 (by decide)).symm.trans e)).2.2.lt
          omega),
        n34 := fun e _ => (by
          have := (hF.f7 ((flag_other l 10 7 (by decide)).symm.trans e)).2.2.lt
          omega),
        d8 := fun e => set_true l 10 7 hF.sz (hF.d8 ((flag_other l 10 8 (by decide)).symm.trans e)),
        d9 := fun e => ⟨set_true l 10 7 hF.sz ((hF.d9 ((flag_other l 10 9 (by decide)).symm.trans e)).1), set_true l 10 8 hF.sz ((hF.d9 ((flag_other l 10 9 (by decide)).symm.trans e)).2)⟩,
        d11 := fun e => ⟨set_true l 10 1 hF.sz ((hF.d11 ((flag_other l 10 11 (by decide)).symm.trans e)).1), set_true l 10 9 hF.sz ((hF.d11 ((flag_other l 10 11 (by decide)).symm.trans e)).2.1), set_true l 10 10 hF.sz ((hF.d11 ((flag_other l 10 11 (by decide)).symm.trans e)).2.2)⟩,
        d12 := fun e => set_true l 10 11 hF.sz (hF.d12 ((flag_other l 10 12 (by decide)).symm.trans e)),
        d13 := fun e => set_true l 10 12 hF.sz (hF.d13 ((flag_other l 10 13 (by decide)).symm.trans e)) }
    · simp [Region.binds] at hdeps
      obtain ⟨rfl, _, _⟩ := hF.f1 (by simp [hdeps])
      obtain rfl := hF.f6 (by simp [hdeps])
      obtain rfl := hF.f9 (by simp [hdeps])
      obtain ⟨rfl, _, _⟩ := hF.f10 (by simp [hdeps])
      have HF := Lib.hid hF
      clear hF
      refine wpOp_mk rfl (fun K hK => ?_)
      go_simp
      refine hK _ _ ?_
      have hF := HF.out
      refine ⟨s3, s6, .map (some m1), s8, s9, s10, s11, .string (bs (capCode d)), s13, .map (some m3), .map (some m4), .agg (portV m1 m3 m4 d), s17, m1, m3, m4, pb, rfl, ?_⟩
      exact {
        sz := Array.size_setIfInBounds.trans hF.sz,
        below := hF.below,
        f0 := fun e => hF.f0 ((flag_other l 11 0 (by decide)).symm.trans e),
        f1 := fun e => hF.f1 ((flag_other l 11 1 (by decide)).symm.trans e),
        f2 := fun e => hF.f2 ((flag_other l 11 2 (by decide)).symm.trans e),
        f3 := fun e => hF.f3 ((flag_other l 11 3 (by decide)).symm.trans e),
        f4 := fun e => hF.f4 ((flag_other l 11 4 (by decide)).symm.trans e),
        f5 := fun e => hF.f5 ((flag_other l 11 5 (by decide)).symm.trans e),
        f6 := fun e => hF.f6 ((flag_other l 11 6 (by decide)).symm.trans e),
        f7 := fun e => (by
          obtain ⟨x1, x2, x3⟩ := hF.f7 ((flag_other l 11 7 (by decide)).symm.trans e)
          rw [flag_other l 11 8 (by decide)]
          exact ⟨x1, x2, x3⟩),
        f9 := fun e => hF.f9 ((flag_other l 11 9 (by decide)).symm.trans e),
        f10 := fun e => hF.f10 ((flag_other l 11 10 (by decide)).symm.trans e),
        f11 := fun _ => rfl,
        f12 := fun e => hF.f12 ((flag_other l 11 12 (by decide)).symm.trans e),
        f13 := fun e => hF.f13 ((flag_other l 11 13 (by decide)).symm.trans e),
        n13 := fun e e' => hF.n13 ((flag_other l 11 1 (by decide)).symm.trans e) ((flag_other l 11 7 (by decide)).symm.trans e'),
        n14 := fun e e' => hF.n14 ((flag_other l 11 1 (by decide)).symm.trans e) ((flag_other l 11 10 (by decide)).symm.trans e'),
        n34 := fun e e' => hF.n34 ((flag_other l 11 7 (by decide)).symm.trans e) ((flag_other l 11 10 (by decide)).symm.trans e'),
        d8 := fun e => set_true l 11 7 hF.sz (hF.d8 ((flag_other l 11 8 (by decide)).symm.trans e)),
        d9 := fun e => ⟨set_true l 11 7 hF.sz ((hF.d9 ((flag_other l 11 9 (by decide)).symm.trans e)).1), set_true l 11 8 hF.sz ((hF.d9 ((flag_other l 11 9 (by decide)).symm.trans e)).2)⟩,
        d11 := fun _ => ⟨set_true l 11 1 hF.sz (by simp [hdeps]), set_true l 11 9 hF.sz (by simp [hdeps]), set_true l 11 10 hF.sz (by simp [hdeps])⟩,
        d12 := fun e => set_true l 11 11 hF.sz (hF.d12 ((flag_other l 11 12 (by decide)).symm.trans e)),
        d13 := fun e => set_true l 11 12 hF.sz (hF.d13 ((flag_other l 11 13 (by decide)).symm.trans e)) }
    · simp [Region.binds] at hdeps
      have hoff : ¬ l[12]?.getD false = true := flag_off (by simp [hdeps])
      obtain rfl := hF.f11 (by simp [hdeps])
      have HF := Lib.hid hF
      clear hF
      refine wpOp_mk rfl (fun K hK => ?_)
      go_simp
      refine hK _ _ ?_
      have hF := HF.out
      have hk : ∀ b, b < w1.heap.size → (w1.alloc (.cells (portV m1 m3 m4 d) 112)).heap[b]? = w1.heap[b]? := fun b hb => Below.heap_alloc w1 _ b hb
      refine ⟨s3, s6, s7, s8, s9, s10, s11, s12, s13, s14, s15, .agg (portV m1 m3 m4 d), .pointer (some ⟨w1.heap.size, 0, none⟩), m1, m3, m4, w1.heap.size, rfl, ?_⟩
      exact {
        sz := Array.size_setIfInBounds.trans hF.sz,
        below := hF.below.alloc hsz _,
        f0 := fun e => hF.f0 ((flag_other l 12 0 (by decide)).symm.trans e),
        f1 := fun e => (by
          obtain ⟨x1, x2, x3⟩ := hF.f1 ((flag_other l 12 1 (by decide)).symm.trans e)
          exact ⟨x1, x2, x3.block (hk m1 x3.lt)⟩),
        f2 := fun e => hF.f2 ((flag_other l 12 2 (by decide)).symm.trans e),
        f3 := fun e => hF.f3 ((flag_other l 12 3 (by decide)).symm.trans e),
        f4 := fun e => hF.f4 ((flag_other l 12 4 (by decide)).symm.trans e),
        f5 := fun e => hF.f5 ((flag_other l 12 5 (by decide)).symm.trans e),
        f6 := fun e => hF.f6 ((flag_other l 12 6 (by decide)).symm.trans e),
        f7 := fun e => (by
          obtain ⟨x1, x2, x3⟩ := hF.f7 ((flag_other l 12 7 (by decide)).symm.trans e)
          rw [flag_other l 12 8 (by decide)]
          exact ⟨x1, x2, x3.block (hk m3 x3.lt)⟩),
        f9 := fun e => hF.f9 ((flag_other l 12 9 (by decide)).symm.trans e),
        f10 := fun e => (by
          obtain ⟨x1, x2, x3⟩ := hF.f10 ((flag_other l 12 10 (by decide)).symm.trans e)
          exact ⟨x1, x2, x3.block (hk m4 x3.lt)⟩),
        f11 := fun e => hF.f11 ((flag_other l 12 11 (by decide)).symm.trans e),
        f12 := fun _ => ⟨rfl, by omega, heap_alloc_new w1 _⟩,
        f13 := fun e => absurd (hF.d13 ((flag_other l 12 13 (by decide)).symm.trans e)) hoff,
        n13 := fun e e' => hF.n13 ((flag_other l 12 1 (by decide)).symm.trans e) ((flag_other l 12 7 (by decide)).symm.trans e'),
        n14 := fun e e' => hF.n14 ((flag_other l 12 1 (by decide)).symm.trans e) ((flag_other l 12 10 (by decide)).symm.trans e'),
        n34 := fun e e' => hF.n34 ((flag_other l 12 7 (by decide)).symm.trans e) ((flag_other l 12 10 (by decide)).symm.trans e'),
        d8 := fun e => set_true l 12 7 hF.sz (hF.d8 ((flag_other l 12 8 (by decide)).symm.trans e)),
        d9 := fun e => ⟨set_true l 12 7 hF.sz ((hF.d9 ((flag_other l 12 9 (by decide)).symm.trans e)).1), set_true l 12 8 hF.sz ((hF.d9 ((flag_other l 12 9 (by decide)).symm.trans e)).2)⟩,
        d11 := fun e => ⟨set_true l 12 1 hF.sz ((hF.d11 ((flag_other l 12 11 (by decide)).symm.trans e)).1), set_true l 12 9 hF.sz ((hF.d11 ((flag_other l 12 11 (by decide)).symm.trans e)).2.1), set_true l 12 10 hF.sz ((hF.d11 ((flag_other l 12 11 (by decide)).symm.trans e)).2.2)⟩,
        d12 := fun _ => set_true l 12 11 hF.sz (by simp [hdeps]),
        d13 := fun e => set_true l 12 12 hF.sz (hF.d13 ((flag_other l 12 13 (by decide)).symm.trans e)) }
    · simp [Region.binds] at hdeps
      obtain ⟨rfl, _, _⟩ := hF.f12 (by simp [hdeps])
      have HF := Lib.hid hF
      clear hF
      refine wpOp_mk rfl (fun K hK => ?_)
      go_simp
      refine hK _ _ ?_
      have hF := HF.out
      refine ⟨.pointer (some ⟨pb, 0, none⟩), s6, s7, s8, s9, s10, s11, s12, s13, s14, s15, s16, .pointer (some ⟨pb, 0, none⟩), m1, m3, m4, pb, rfl, ?_⟩
      exact {
        sz := Array.size_setIfInBounds.trans hF.sz,
        below := hF.below,
        f0 := fun e => hF.f0 ((flag_other l 13 0 (by decide)).symm.trans e),
        f1 := fun e => hF.f1 ((flag_other l 13 1 (by decide)).symm.trans e),
        f2 := fun e => hF.f2 ((flag_other l 13 2 (by decide)).symm.trans e),
        f3 := fun e => hF.f3 ((flag_other l 13 3 (by decide)).symm.trans e),
        f4 := fun e => hF.f4 ((flag_other l 13 4 (by decide)).symm.trans e),
        f5 := fun e => hF.f5 ((flag_other l 13 5 (by decide)).symm.trans e),
        f6 := fun e => hF.f6 ((flag_other l 13 6 (by decide)).symm.trans e),
        f7 := fun e => (by
          obtain ⟨x1, x2, x3⟩ := hF.f7 ((flag_other l 13 7 (by decide)).symm.trans e)
          rw [flag_other l 13 8 (by decide)]
          exact ⟨x1, x2, x3⟩),
        f9 := fun e => hF.f9 ((flag_other l 13 9 (by decide)).symm.trans e),
        f10 := fun e => hF.f10 ((flag_other l 13 10 (by decide)).symm.trans e),
        f11 := fun e => hF.f11 ((flag_other l 13 11 (by decide)).symm.trans e),
        f12 := fun e => hF.f12 ((flag_other l 13 12 (by decide)).symm.trans e),
        f13 := fun _ => rfl,
        n13 := fun e e' => hF.n13 ((flag_other l 13 1 (by decide)).symm.trans e) ((flag_other l 13 7 (by decide)).symm.trans e'),
        n14 := fun e e' => hF.n14 ((flag_other l 13 1 (by decide)).symm.trans e) ((flag_other l 13 10 (by decide)).symm.trans e'),
        n34 := fun e e' => hF.n34 ((flag_other l 13 7 (by decide)).symm.trans e) ((flag_other l 13 10 (by decide)).symm.trans e'),
        d8 := fun e => set_true l 13 7 hF.sz (hF.d8 ((flag_other l 13 8 (by decide)).symm.trans e)),
        d9 := fun e => ⟨set_true l 13 7 hF.sz ((hF.d9 ((flag_other l 13 9 (by decide)).symm.trans e)).1), set_true l 13 8 hF.sz ((hF.d9 ((flag_other l 13 9 (by decide)).symm.trans e)).2)⟩,
        d11 := fun e => ⟨set_true l 13 1 hF.sz ((hF.d11 ((flag_other l 13 11 (by decide)).symm.trans e)).1), set_true l 13 9 hF.sz ((hF.d11 ((flag_other l 13 11 (by decide)).symm.trans e)).2.1), set_true l 13 10 hF.sz ((hF.d11 ((flag_other l 13 11 (by decide)).symm.trans e)).2.2)⟩,
        d12 := fun e => set_true l 13 11 hF.sz (hF.d12 ((flag_other l 13 12 (by decide)).symm.trans e)),
        d13 := fun _ => set_true l 13 12 hF.sz (by simp [hdeps]) }
  case fin =>
    intro l a w1 hI hr
    obtain ⟨s3, s6, s7, s8, s9, s10, s11, s12, s13, s14, s15, s16, s17, m1, m3, m4, pb, rfl, hF⟩ := hI
    have hn := ready_nil hr
    clear hr
    have hsz := hF.sz
    have h0 := hn 0 (by decide) (by simp [Region.binds])
    have h1 := hn 1 (by decide) (by simp [Region.binds, flag_on (by omega) h0])
    have h2 := hn 2 (by decide) (by simp [Region.binds])
    have h3 := hn 3 (by decide) (by simp [Region.binds, flag_on (by omega) h2])
    have h4 := hn 4 (by decide) (by simp [Region.binds, flag_on (by omega) h3])
    have h5 := hn 5 (by decide) (by simp [Region.binds, flag_on (by omega) h4, flag_on (by omega) h1])
    have h6 := hn 6 (by decide) (by simp [Region.binds, flag_on (by omega) h5])
    have h7 := hn 7 (by decide) (by simp [Region.binds])
    have h8 := hn 8 (by decide) (by simp [Region.binds, flag_on (by omega) h7])
    have h9 := hn 9 (by decide) (by simp [Region.binds, flag_on (by omega) h7, flag_on (by omega) h8])
    have h10 := hn 10 (by decide) (by simp [Region.binds])
    have h11 := hn 11 (by decide) (by simp [Region.binds, flag_on (by omega) h1, flag_on (by omega) h6, flag_on (by omega) h9, flag_on (by omega) h10])
    have h12 := hn 12 (by decide) (by simp [Region.binds, flag_on (by omega) h11])
    have h13 := hn 13 (by decide) (by simp [Region.binds, flag_on (by omega) h0, flag_on (by omega) h1, flag_on (by omega) h2, flag_on (by omega) h3, flag_on (by omega) h4, flag_on (by omega) h5, flag_on (by omega) h6, flag_on (by omega) h7, flag_on (by omega) h8, flag_on (by omega) h9, flag_on (by omega) h10, flag_on (by omega) h11, flag_on (by omega) h12])
    clear hn
    obtain ⟨_, x1, hm1⟩ := hF.f1 (flag_on (by omega) h1)
    obtain ⟨_, x3, hm3⟩ := hF.f7 (flag_on (by omega) h7)
    rw [if_pos (flag_on (by omega) h8), if_pos (flag_on (by omega) h8)] at hm3
    obtain ⟨_, x4, hm4⟩ := hF.f10 (flag_on (by omega) h10)
    obtain ⟨_, xp, hpb⟩ := hF.f12 (flag_on (by omega) h12)
    obtain rfl := hF.f13 (flag_on (by omega) h13)
    have n13 := hF.n13 (flag_on (by omega) h1) (flag_on (by omega) h7)
    have n14 := hF.n14 (flag_on (by omega) h1) (flag_on (by omega) h10)
    have n34 := hF.n34 (flag_on (by omega) h7) (flag_on (by omega) h10)
    have hB := hF.below
    clear h0 h1 h2 h3 h4 h5 h6 h7 h8 h9 h10 h11 h12 h13 hF hsz
    have hraw : RawAt w1 pb m1 m3 m4 2 d bypassS byp0 emptyM := RawAt.start hpb hm1 hm3 (hm4.up (by decide)) n13 n14 n34
    clear hm1 hm3 hm4 hpb n13 n14 n34
    have r2 : w1.cell? ⟨w.heap.size, 2, none⟩ = some (.int .i64 d.id) := (hB.cell (p := ⟨w.heap.size, 2, none⟩) (Nat.lt_succ_self _)).trans q2
    clear q0 q1 q2 q4
    have hlt := hraw.lt
    go_upto_if 20 with (fail)
    go_cut [21] (fun _ wx => RawAt wx pb m1 m3 m4 4 d (bs (firstReg d)) (inpM d 0) emptyM ∧ Below (w.heap.size + 1) W0 wx)
    case first =>
      by_cases hz : d.id = 0
      · have hb0 : (d.id != 0) = false := by simp [hz]
        have e1 : bs (firstReg d) = bypassS := by unfold firstReg; rw [if_pos (by simp [hz])]
        have e2 : inpM d 0 = byp0 := by unfold inpM; rw [if_pos (by simp [hz])]; rfl
        have hfin : RawAt w1 pb m1 m3 m4 4 d (bs (firstReg d)) (inpM d 0) emptyM ∧ Below (w.heap.size + 1) W0 w1 := by
          rw [e1, e2]
          exact ⟨hraw.up (by decide), hB⟩
        have HFN := Lib.hid hfin
        clear hfin
        clear e1 e2 hz hraw
        go_wp2_with fail
        go_meet
        exact HFN.out
      · have hb0 : (d.id != 0) = true := by simp [hz]
        have e1 : bs (firstReg d) = idcodeS := by unfold firstReg; rw [if_neg (by simp [hz])]
        have e2 : inpM d 0 = putS byp0 idcodeS.data.toList (.string (idBits d.id.toNat)) := by unfold inpM; rw [if_neg (by simp [hz])]; rfl
        obtain ⟨i, hi, hi2⟩ := hid
        have hbits : ∀ W, Calls Tryz.prog 60 #[.int .i64 d.id] W fun e w' => e = .returned (.string (bs (idBits d.id.toNat))) ∧ Below W.heap.size W w' := by
          intro W
          rw [hi]
          exact idcodeBits_any i W hi2
        have hplain := plain_str (bs (idBits d.id.toNat)) (by rw [bs_size, idBits_len]; decide)
        rw [bs_list] at hplain
        have c0 := hraw.c 0 (by decide)
        have f0 := hraw.free 0 (by decide)
        change _ = some (Value.string bypassS) at c0
        have hr2 := hraw.first idcodeS
        obtain ⟨W, hW⟩ : ∃ W : World, W = w1.setCell ⟨pb, 0, none⟩ (.string idcodeS) := ⟨_, rfl⟩
        have hWsz : W.heap.size = w1.heap.size := by rw [hW]; simp [World.setCell]
        have hltW : m3 < W.heap.size ∧ pb < W.heap.size := by omega
        clear hWsz
        have hBW : Below (w.heap.size + 1) W0 W := by rw [hW]; exact hB.setCell (by show w.heap.size + 1 ≤ pb; omega) _
        rw [← hW] at hr2
        have c3W := hr2.c 3 (by decide)
        change _ = some (Value.map (some m3)) at c3W
        have r2W : W.cell? ⟨w.heap.size, 2, none⟩ = some (.int .i64 d.id) := by rw [hW, World.cell?_setCell_other _ _ _ _ (by simp; try omega)]; exact r2
        have HR := Lib.hid hr2
        have HBW := Lib.hid hBW
        have E1 := Lib.hid e1
        have E2 := Lib.hid e2
        clear e1 e2 hz hraw hi hi2 hr2 hB hBW
        go_wp2_with fail
        rw [← hW]
        have HWW := Lib.hid hW
        clear hW c0 f0 r2
        go_region_law (go_simp; go_at_call 60; refine (hbits _).mono ?_; rintro e w2 ⟨rfl, hB2d⟩; have hB2 := below_drew hB2d; obtain ⟨w3, hrun3, hm3, hg3⟩ := (HR.out.map3.block (hB2.block m3 hltW.1)).update_run Tryz.underlying9 Tryz.underlying107 (by decide) idcodeS (by decide) (.string (idBits d.id.toNat)) _ hplain; have c3w2 : w2.cell? ⟨pb, 3, none⟩ = some (Value.map (some m3)) := (World.cell?_of_block (a := ⟨pb, 3, none⟩) (hB2.block pb hltW.2)).trans c3W)
        all_goals
          go_wp2_with fail
          go_meet
          refine ⟨?_, ?_⟩
          · rw [E1.out, E2.out]
            exact (HR.out.put3 hB2 hm3 hg3).up (by decide)
          · have h5 := HBW.out.size
            have := HBW.out.trans (hB2.mono (by omega))
            exact this.grown hg3 (by have := this.size; omega) (fun k hk => by cases hk; omega)
    case rest =>
      obtain ⟨hraw2, hB2⟩ := hcut
      clear hraw hB hlt r2
      have r3 : wc.cell? ⟨w.heap.size, 3, none⟩ = some (.slice ra d.regs.n rc) := (hB2.cell (p := ⟨w.heap.size, 3, none⟩) (Nat.lt_succ_self _)).trans q3
      clear q3
      have hregs := hdev0.regs
      have hrn := hregs.n_le
      clear hdev0
      go_wp2_with fail
      go_loopw [34] (fun i wr => ∃ k : Nat, k ≤ d.regs.n ∧ i = .int .i64 (k : Int) ∧ RawAt wr pb m1 m3 m4 (4 + 2 * k) d (bs (firstReg d)) (inpM d k) (outM d k) ∧ Below (w.heap.size + 1) W0 wr) (fun i _ => d.regs.n - (intOf i).toNat)
      case atStart => exact ⟨0, by omega, rfl, hraw2, hB2⟩
      case round =>
        clear hraw2 hB2 r3
        obtain ⟨k, hk, rfl, hraw, hB⟩ := hrel
        by_cases hlt : k < d.regs.n
        · obtain ⟨rb, ro, rfl, hrb, hcells⟩ := hregs.cells (by omega)
          obtain ⟨hn, hlg, hnz⟩ := hcells k hlt
          have hn' := (hB.cell (p := ⟨rb, ro + k * 2, none⟩) (by show rb < _; omega)).trans hn
          have hlg' := (hB.cell (p := ⟨rb, ro + k * 2 + 1, none⟩) (by show rb < _; omega)).trans hlg
          obtain ⟨hl1, hl2⟩ := hl k hlt
          clear hcells hn hlg hl hregs
          have e1 := Lib.hid (show inpM d (k + 1) = putS (inpM d k) (d.regs.name k).data.toList (.string (zerosL (d.regs.long k))) from rfl)
          have e2 := Lib.hid (show outM d (k + 1) = putS (outM d k) (d.regs.name k).data.toList (.string (zerosL (d.regs.long k))) from rfl)
          have hrep : ∀ W, Calls Tryz.prog 19 #[.string ⟨#[48]⟩, .int .i64 (d.regs.long k)] W fun e w' => e = .returned (.string (bs (zerosL (d.regs.long k)))) ∧ Below W.heap.size W w' := by
            intro W
            obtain ⟨c, hc⟩ : ∃ c : Nat, d.regs.long k = (c : Int) := ⟨(d.regs.long k).toNat, by omega⟩
            rw [hc]
            exact Tryz.strings_Repeat ⟨#[48]⟩ c W (by omega) (by show 1 * c ≤ _; omega)
          have hplain := plain_str (bs (zerosL (d.regs.long k))) (by rw [bs_size, zerosL, zerosL_len]; omega)
          rw [bs_list] at hplain
          obtain ⟨Wr, hWr⟩ : ∃ Wr : World, Wr = wr.alloc (.cells #[.string (d.regs.name k), .int .i64 (d.regs.long k)] 50) := ⟨_, rfl⟩
          have hBr : Below wr.heap.size wr Wr := by rw [hWr]; exact (Below.refl _ wr).alloc (Nat.le_refl _) _
          have hrawr := hraw.below hBr
          have hBW : Below (w.heap.size + 1) W0 Wr := hB.trans (hBr.mono (by have := hB.size; omega))
          have hbx0 : Wr.cell? ⟨wr.heap.size, 0, none⟩ = some (.string (d.regs.name k)) := by rw [hWr]; exact cell_fresh _ _ _ rfl
          have hbx1 : Wr.cell? ⟨wr.heap.size, 1, none⟩ = some (.int .i64 (d.regs.long k)) := by rw [hWr]; exact cell_fresh _ _ _ rfl
          obtain ⟨bx, hbx⟩ : ∃ bx, bx = wr.heap.size := ⟨_, rfl⟩
          rw [← hbx] at hbx0 hbx1
          have hbxlt : bx < Wr.heap.size := by rw [hbx, hWr]; simp
          have hrl := hraw.lt
          have hbxn : bx ≠ m3 ∧ bx ≠ m4 := ⟨by omega, by omega⟩
          have HBX := Lib.hid hbx
          clear hraw hBr hB hbx
          have HWr := Lib.hid hWr
          clear hWr
          go_wp2_with fail
          rw [← HWr.out, ← HBX.out]
          go_cut [46] (fun _ wx => RawAt wx pb m1 m3 m4 (4 + 2 * k + 1) d (bs (firstReg d)) (inpM d (k + 1)) (outM d k) ∧ Below (w.heap.size + 1) W0 wx ∧ wx.cell? ⟨bx, 0, none⟩ = some (.string (d.regs.name k)) ∧ wx.cell? ⟨bx, 1, none⟩ = some (.int .i64 (d.regs.long k)) ∧ bx < wx.heap.size)
          case first =>
            have c3 := hrawr.c 3 (by decide)
            change _ = some (Value.map (some m3)) at c3
            have hl := hrawr.lt
            have HR := Lib.hid hrawr
            have HBW := Lib.hid hBW
            clear hrawr hBW hrl
            go_region_law (go_simp; go_at_call 19; refine (hrep _).mono ?_; rintro e w2 ⟨rfl, hB2d⟩; have hB2 := below_drew hB2d; obtain ⟨w3, hrun3, hm3, hg3⟩ := (HR.out.map3.block (hB2.block m3 hl.2.2.1)).update_run Tryz.underlying9 Tryz.underlying107 (by omega) (d.regs.name k) hnz (.string (zerosL (d.regs.long k))) _ hplain; have c3w2 : w2.cell? ⟨pb, 3, none⟩ = some (Value.map (some m3)) := (World.cell?_of_block (a := ⟨pb, 3, none⟩) (hB2.block pb hl.1)).trans c3; have b0w2 := (World.cell?_of_block (a := ⟨bx, 0, none⟩) (hB2.block bx hbxlt)).trans hbx0; have b1w2 := (World.cell?_of_block (a := ⟨bx, 1, none⟩) (hB2.block bx hbxlt)).trans hbx1)
            all_goals
              go_wp2_with fail
              go_meet
              have h5 := HBW.out.size
              have h6 := hB2.size
              have h7 := HBW.out.trans (hB2.mono (by omega))
              refine ⟨?_, h7.grown hg3 (by have := h7.size; omega) (fun k hk => by cases hk; omega), hg3.cell (a := ⟨bx, 0, none⟩) b0w2 (fun e => hbxn.1 (Option.some.inj e)), hg3.cell (a := ⟨bx, 1, none⟩) b1w2 (fun e => hbxn.1 (Option.some.inj e)), by have := hg3.size; omega⟩
              rw [e1.out]
              exact HR.out.put3 hB2 hm3 hg3
          case rest =>
            obtain ⟨hraw3, hBW3, k0, k1, hbxlt3⟩ := hcut
            clear hrawr hBW hbx0 hbx1 hbxlt
            have c4 := hraw3.c 4 (by decide)
            change _ = some (Value.map (some m4)) at c4
            have hl := hraw3.lt
            have HR := Lib.hid hraw3
            have HBW := Lib.hid hBW3
            clear hraw3 hBW3 hrl
            go_wp2_with fail
            go_region_law (go_simp; go_at_call 19; refine (hrep _).mono ?_; rintro e w2 ⟨rfl, hB2d⟩; have hB2 := below_drew hB2d; obtain ⟨w3, hrun3, hm3, hg3⟩ := (HR.out.map4.block (hB2.block m4 hl.2.2.2)).update_run Tryz.underlying9 Tryz.underlying107 (by omega) (d.regs.name k) hnz (.string (zerosL (d.regs.long k))) _ hplain; have c4w2 : w2.cell? ⟨pb, 4, none⟩ = some (Value.map (some m4)) := (World.cell?_of_block (a := ⟨pb, 4, none⟩) (hB2.block pb hl.1)).trans c4; have b0w2 := (World.cell?_of_block (a := ⟨bx, 0, none⟩) (hB2.block bx hbxlt3)).trans k0; have b1w2 := (World.cell?_of_block (a := ⟨bx, 1, none⟩) (hB2.block bx hbxlt3)).trans k1)
            all_goals
              go_wp2_with fail
              go_roundw
              case rel =>
                have h5 := HBW.out.size
                have h6 := hB2.size
                have h7 := HBW.out.trans (hB2.mono (by omega))
                refine ⟨k + 1, by omega, by go_num, ?_, h7.grown hg3 (by have := h7.size; omega) (fun k hk => by cases hk; omega)⟩
                rw [e2.out]
                exact (HR.out.put4 hB2 hm3 hg3).up (by omega)
              case measure => simp [intOf]; omega
        · obtain rfl : k = d.regs.n := by omega
          have hlt9 := hraw.lt
          have e7 := hraw.c 7 (by decide)
          have e8 := hraw.c 8 (by decide)
          have hload := load_any wr pb ⟨#[48]⟩ (by decide) (by decide) _ _ hlt9.1 e7 e8 (hraw.free 7 (by decide)) (hraw.free 8 (by decide))
          have HR := Lib.hid hraw
          have HB := Lib.hid hB
          clear hraw hB e7 e8 hregs hl
          go_wp2_with fail
          refine hload.mono ?_
          rintro e w2 ⟨rfl, hS, hK, hT, hsz2⟩
          have hB2 : Below (w.heap.size + 1) W0 w2 := by
            have h5 := HB.out
            exact ⟨hT.os.trans h5.os, hT.tape.trans h5.tape, hT.output.trans h5.output, Nat.le_trans h5.size hT.size, fun b hb => (hT.block b (by have := h5.size; omega) (by omega)).trans (h5.block b hb)⟩
          have g0 := (hK.1 0 (by decide)).trans (HR.out.c 0 (by decide))
          have g5 := (hK.1 5 (by decide)).trans (HR.out.c 5 (by decide))
          have g6 := (hK.1 6 (by decide)).trans (HR.out.c 6 (by decide))
          have hres := portReset_raw w2 pb (bs (firstReg d)) _ _ g0 g5 g6 ((hK.2 5).trans (HR.out.free 5 (by decide))) ((hK.2 6).trans (HR.out.free 6 (by decide)))
          have hcold := fun o k ho => cold_port HR.out hS hK hT o k ho
          have HCold := Lib.hid hcold
          have HB2 := Lib.hid hB2
          clear hcold hB2 hS hK hT g0 g5 g6
          go_wp2_with fail
          refine hres.mono ?_
          rintro e w3 ⟨rfl, hw3⟩
          have HW3 := Lib.hid hw3
          clear hw3
          go_wp2_with fail
          go_ret
          refine ⟨pb, rfl, ?_, by omega, fun o k ho => ⟨m1, m3, m4, wr.heap.size, ?_⟩⟩
          · rw [← HW3.out]
            have h5 : Below w.heap.size w W0 := by rw [HW0.out]; exact (Below.refl _ w).alloc (Nat.le_refl _) _
            have h6 := h5.trans (HB2.out.mono (by omega))
            exact (h6.setCell (by show w.heap.size ≤ pb; omega) _).setCell (by show w.heap.size ≤ pb; omega) _
          · rw [← HW3.out]
            exact HCold.out o k ⟨ho pb (by omega), ho m1 (by omega), ho m3 (by omega), ho m4 (by omega), ho wr.heap.size (by have := HB.out.size; omega)⟩
end Go.Proofs.YtkipkkaloiefpaaGreatDoor
