/- The reference's port of a chain: what it holds; what a device captures. -/
import Derived.Test.YtkipkkaloiefpaaGreatDoorM6
import Derived.Test.YtkipkkaloiefpaaGreatDoorNewP
import Derived.Deep.RegionHeld3
import Derived.Test.YtkipkkaloiefpaaGreatDoorM5
import Derived.WideKeyEntry
import Derived.Test.YtkipkkaloiefpaaGreatDoorM3
import Derived.Deep.RegionLaw
namespace Go.Proofs.YtkipkkaloiefpaaGreatDoor
open Go.RowKit Go.Maps

/-- A map has nothing at a pair that is not of a device and a register of its own. -/
def NoPair (r : Devs) (M : Lit → Option Lit) : Prop :=
  ∀ nm s : ByteArray, nm.size ≤ 1048576 → s.size ≤ 1048576 → (∀ k, k < r.n → (r.dev k).name = nm → hasName (r.dev k).regs.name s (r.dev k).regs.n = false) → M (pairL nm.data.toList s.data.toList) = none
/-- An entry that is set where one is. -/
theorem NoPair.put {r : Devs} {M : Lit → Option Lit} (h : NoPair r M) {nm s : ByteArray} (hn : nm.size ≤ 1048576) (hs : s.size ≤ 1048576) {k : Nat} (hk : k < r.n) (hkn : (r.dev k).name = nm) (ho : hasName (r.dev k).regs.name s (r.dev k).regs.n = true) (l : Lit) : NoPair r (putL M (pairL nm.data.toList s.data.toList) l) := by
  intro nm' s' hn' hs' hno
  unfold putL
  rw [if_neg]
  · exact h nm' s' hn' hs' hno
  · intro e
    obtain ⟨rfl, rfl⟩ := pair_inj hn' hs' hn hs e
    have := hno k hk hkn
    rw [ho] at this
    cases this
/-- .. or where the map already has something. -/
theorem NoPair.over {r : Devs} {M : Lit → Option Lit} (h : NoPair r M) {nm s : ByteArray} (hn : nm.size ≤ 1048576) (hs : s.size ≤ 1048576) (ho : (M (pairL nm.data.toList s.data.toList)).isSome = true) (l : Lit) : NoPair r (putL M (pairL nm.data.toList s.data.toList) l) := by
  intro nm' s' hn' hs' hno
  unfold putL
  rw [if_neg]
  · exact h nm' s' hn' hs' hno
  · intro e
    obtain ⟨rfl, rfl⟩ := pair_inj hn' hs' hn hs e
    rw [h nm' s' hn' hs' hno] at ho
    cases ho

/-- The reference's port in block rb, with the rows of codes and of registers in gc and gs, and the maps mi and mo; the devices lie below B. -/
structure RefAt (B N : Nat) (w : World) (rb gc gs mi mo : Nat) (da : Option Addr) (dcap st : Nat) (r : Devs) (ps : Nat → PS) : Prop where
  n1 : 1 ≤ r.n
  n20 : r.n ≤ 20
  devs : DevsAt B w da r
  st16 : st < 16
  c0 : w.cell? ⟨rb, 0, none⟩ = some (.slice da r.n dcap)
  c1 : w.cell? ⟨rb, 1, none⟩ = some (.int .i64 (st : Int))
  f1 : w.frozen? ⟨rb, 1, none⟩ = false
  c2 : ∃ cp, w.cell? ⟨rb, 2, none⟩ = some (.slice (some ⟨gc, 0, none⟩) r.n cp)
  c3 : ∃ cp, w.cell? ⟨rb, 3, none⟩ = some (.slice (some ⟨gs, 0, none⟩) r.n cp)
  c4 : w.cell? ⟨rb, 4, none⟩ = some (.map (some mi))
  c5 : w.cell? ⟨rb, 5, none⟩ = some (.map (some mo))
  codes : ∀ k, k < r.n → w.cell? ⟨gc, k, none⟩ = some (.string (bs (ps k).code)) ∧ w.frozen? ⟨gc, k, none⟩ = false
  shift : ∀ k, k < r.n → w.cell? ⟨gs, k, none⟩ = some (.string (bs (ps k).sh)) ∧ w.frozen? ⟨gs, k, none⟩ = false
  inM : ∃ M, LMap Tryz.prog 75 (plainElem Tryz.prog 9) w mi N M ∧ (∀ k, k < r.n → ∀ s : ByteArray, hasName (r.dev k).regs.name s (r.dev k).regs.n = true → M (pairL (r.dev k).name.data.toList s.data.toList) = (ps k).inp s.data.toList) ∧ NoPair r M
  outM : ∃ M, LMap Tryz.prog 75 (plainElem Tryz.prog 9) w mo N M ∧ (∀ k, k < r.n → ∀ s : ByteArray, s.size ≤ 1048576 → M (pairL (r.dev k).name.data.toList s.data.toList) = (ps k).out s.data.toList) ∧ NoPair r M
  byp : ∀ k, k < r.n → (ps k).inp bypassS.data.toList = some (.string [48])
  idc : ∀ k, k < r.n → ((r.dev k).id == 0) = false → (ps k).inp idcodeS.data.toList = some (.string (idBits (r.dev k).id.toNat))
  sure : ∀ k, k < r.n → Sure (r.dev k)
  names : ∀ i j, i < r.n → j < r.n → i ≠ j → (r.dev i).name ≠ (r.dev j).name
  good : ∀ k, k < r.n → Good (r.dev k) (ps k)
  up : B ≤ rb ∧ B ≤ gc ∧ B ≤ gs ∧ B ≤ mi ∧ B ≤ mo
  far : rb ≠ gc ∧ rb ≠ gs ∧ rb ≠ mi ∧ rb ≠ mo ∧ gc ≠ gs ∧ gc ≠ mi ∧ gc ≠ mo ∧ gs ≠ mi ∧ gs ≠ mo ∧ mi ≠ mo

theorem RefAt.lt {B N : Nat} {w : World} {rb gc gs mi mo : Nat} {da : Option Addr} {dcap st : Nat} {r : Devs} {ps : Nat → PS} (h : RefAt B N w rb gc gs mi mo da dcap st r ps) : rb < w.heap.size ∧ gc < w.heap.size ∧ gs < w.heap.size ∧ mi < w.heap.size ∧ mo < w.heap.size := by
  obtain ⟨M, hM, _⟩ := h.inM
  obtain ⟨M', hM', _⟩ := h.outM
  have h0 := h.n1
  exact ⟨World.block_lt_of_cell? w ⟨rb, 0, none⟩ h.c0, World.block_lt_of_cell? w ⟨gc, 0, none⟩ (h.codes 0 (by omega)).1, World.block_lt_of_cell? w ⟨gs, 0, none⟩ (h.shift 0 (by omega)).1, hM.lt, hM'.lt⟩

theorem RefAt.below {B N : Nat} {w w' : World} {rb gc gs mi mo : Nat} {da : Option Addr} {dcap st : Nat} {r : Devs} {ps : Nat → PS} (h : RefAt B N w rb gc gs mi mo da dcap st r ps) (hB : Below w.heap.size w w') : RefAt B N w' rb gc gs mi mo da dcap st r ps := by
  obtain ⟨l1, l2, l3, l4, l5⟩ := h.lt
  have hc : ∀ j, w'.cell? ⟨rb, j, none⟩ = w.cell? ⟨rb, j, none⟩ := fun j => World.cell?_of_block (a := ⟨rb, j, none⟩) (hB.block rb l1)
  obtain ⟨p2, h2⟩ := h.c2
  obtain ⟨p3, h3⟩ := h.c3
  obtain ⟨M, hM, hM2⟩ := h.inM
  obtain ⟨M', hM', hM2'⟩ := h.outM
  have hBw : B ≤ w.heap.size := by have := h.up.1; omega
  exact { h with
    devs := h.devs.below (hB.mono hBw) (Nat.le_refl _)
    c0 := (hc 0).trans h.c0
    c1 := (hc 1).trans h.c1
    f1 := (World.frozen?_of_block (a := ⟨rb, 1, none⟩) (hB.block rb l1)).trans h.f1
    c2 := ⟨p2, (hc 2).trans h2⟩
    c3 := ⟨p3, (hc 3).trans h3⟩
    c4 := (hc 4).trans h.c4
    c5 := (hc 5).trans h.c5
    codes := fun k hk => ⟨(World.cell?_of_block (a := ⟨gc, k, none⟩) (hB.block gc l2)).trans (h.codes k hk).1, (World.frozen?_of_block (a := ⟨gc, k, none⟩) (hB.block gc l2)).trans (h.codes k hk).2⟩
    shift := fun k hk => ⟨(World.cell?_of_block (a := ⟨gs, k, none⟩) (hB.block gs l3)).trans (h.shift k hk).1, (World.frozen?_of_block (a := ⟨gs, k, none⟩) (hB.block gs l3)).trans (h.shift k hk).2⟩
    inM := ⟨M, hM.block (hB.block mi l4), hM2⟩
    outM := ⟨M', hM'.block (hB.block mo l5), hM2'⟩ }

theorem bit_nat (i j : Nat) (hi : i < 4294967296) : ∃ b : Nat, b ≤ 1 ∧ bits .and .i64 ((i : Int) / 2 ^ j) 1 = (b : Int) ∧ bitAt i j = (if b = 1 then 49 else 48) := by
  have e : (i : Int) / 2 ^ j = ((i / 2 ^ j : Nat) : Int) := by
    rw [Int.natCast_ediv]
    congr 1
  have h1 : i / 2 ^ j < 4294967296 := Nat.lt_of_le_of_lt (Nat.div_le_self _ _) hi
  have h2 : bits .and .i64 ((i / 2 ^ j : Nat) : Int) 1 = ((i / 2 ^ j &&& 1 : Nat) : Int) := bits_and_nat (i / 2 ^ j) 1 h1 (by decide)
  refine ⟨i / 2 ^ j % 2, by omega, ?_, ?_⟩
  · rw [e, h2, Nat.and_one_is_mod]
  · unfold bitAt
    rw [Nat.testBit_eq_decide_div_mod_eq]
    simp

/-- What the reference's map of inputs has at a register of the device's own. -/
theorem RefAt.look {B N : Nat} {w : World} {rb gc gs mi mo : Nat} {da : Option Addr} {dcap st : Nat} {r : Devs} {ps : Nat → PS} (h : RefAt B N w rb gc gs mi mo da dcap st r ps) {k : Nat} (hk : k < r.n) (s : ByteArray) (W : World) (hB : Below w.heap.size w W) (hs : hasName (r.dev k).regs.name s (r.dev k).regs.n = true) (hz : s.size ≤ 1048576) (q : Nat) :
    (Instr.lookup 72 (.map (some mi)) (.agg #[.string (r.dev k).name, .string s]) false).run Tryz.prog (W.drewN q) = .ok (.string (bs (strOf ((ps k).inp s.data.toList)))) (W.drewN q) := by
  obtain ⟨M, hM, hM2⟩ := h.inM
  have hM3 : LMap Tryz.prog 75 (plainElem Tryz.prog 9) (W.drewN q) mi N M := hM.block (hB.block mi h.lt.2.2.2.1)
  have hnz := (h.devs.ok hk).name
  have hl := hM3.look pair_law Tryz.underlying72 litVal (fun v l ps hv => plainElem_litVal hv) (.string []) (Tryz.zeroStr _) (plain_str ⟨#[]⟩ (by decide)) _ _ (pair_key (r.dev k).name s hnz hz)
  rw [hl, hM2.1 k hk s hs]
  obtain ⟨l, hl2, _⟩ := (h.good k hk).inpS s (by unfold knownB; rw [hs]; simp)
  rw [hl2]
  rfl

theorem bcell {W w1 : World} (hb : Below W.heap.size W w1) : (∀ b o, b < W.heap.size → w1.cell? ⟨b, o, none⟩ = W.cell? ⟨b, o, none⟩) ∧ (∀ b o, b < W.heap.size → w1.frozen? ⟨b, o, none⟩ = W.frozen? ⟨b, o, none⟩) :=
  ⟨fun b o h => hb.cell (p := ⟨b, o, none⟩) h, fun b o h => hb.frozen (p := ⟨b, o, none⟩) h⟩

set_option maxRecDepth 100000 in
theorem captured_any (B N : Nat) (w : World) (rb gc gs mi mo : Nat) (da : Option Addr) (dcap st : Nat) (r : Devs) (ps : Nat → PS) (h : RefAt B N w rb gc gs mi mo da dcap st r ps) (k : Nat) (hk : k < r.n) :
    Calls Tryz.prog 74 #[.pointer (some ⟨rb, 0, none⟩), .int .i64 (k : Int)] w fun e w' => e = .returned (.string (bs (strOf ((ps k).inp (selOf (r.dev k) (ps k).code))))) ∧ Below w.heap.size w w' := by
  obtain ⟨l1, l2, l3, l4, l5⟩ := h.lt
  obtain ⟨p2, c2⟩ := h.c2
  have c0 := h.c0
  have c4 := h.c4
  have cc := (h.codes k hk).1
  obtain ⟨b, off, rfl, hbB, hcells⟩ := h.devs.cells (by omega)
  obtain ⟨⟨d0, d1, d2, d3, d4⟩, hdo⟩ := hcells k hk
  have hBw : B ≤ w.heap.size := by have := h.up.1; omega
  have hkeep : ∀ W, Below w.heap.size w W → W.cell? ⟨rb, 0, none⟩ = some (.slice (some ⟨b, off, none⟩) r.n dcap) ∧ W.cell? ⟨b, off + k * 5, none⟩ = some (.string (r.dev k).name) ∧ W.cell? ⟨b, off + k * 5 + 1, none⟩ = some (.int .i64 (r.dev k).long) ∧ W.cell? ⟨b, off + k * 5 + 2, none⟩ = some (.int .i64 (r.dev k).id) ∧ W.cell? ⟨b, off + k * 5 + 3, none⟩ = some (.slice (r.plc k).ra (r.dev k).regs.n (r.plc k).rc) ∧ W.cell? ⟨b, off + k * 5 + 4, none⟩ = some (.slice (r.plc k).ia (r.dev k).ins.n (r.plc k).ic) ∧ W.cell? ⟨rb, 2, none⟩ = some (.slice (some ⟨gc, 0, none⟩) r.n p2) ∧ W.cell? ⟨gc, k, none⟩ = some (.string (bs (ps k).code)) := fun W hB =>
    ⟨(hB.cell (p := ⟨rb, 0, none⟩) l1).trans c0, (hB.cell (p := ⟨b, off + k * 5, none⟩) (by show b < _; omega)).trans d0, (hB.cell (p := ⟨b, off + k * 5 + 1, none⟩) (by show b < _; omega)).trans d1, (hB.cell (p := ⟨b, off + k * 5 + 2, none⟩) (by show b < _; omega)).trans d2, (hB.cell (p := ⟨b, off + k * 5 + 3, none⟩) (by show b < _; omega)).trans d3, (hB.cell (p := ⟨b, off + k * 5 + 4, none⟩) (by show b < _; omega)).trans d4, (hB.cell (p := ⟨rb, 2, none⟩) l1).trans c2, (hB.cell (p := ⟨gc, k, none⟩) l2).trans cc⟩
  have hsel : ∀ W, Below w.heap.size w W → Calls Tryz.prog 75 #[devV (r.dev k) (r.plc k), .string (bs (ps k).code)] W fun e w' => e = .returned (.agg #[.string (selN (r.dev k) (bs (ps k).code) (r.dev k).ins.n), .int .i64 (refLong (r.dev k) (selN (r.dev k) (bs (ps k).code) (r.dev k).ins.n) (r.dev k).regs.n)]) ∧ Below w.heap.size w w' ∧ Below W.heap.size W w' ∧ (w'.cell? ⟨rb, 0, none⟩ = some (.slice (some ⟨b, off, none⟩) r.n dcap) ∧ w'.cell? ⟨b, off + k * 5, none⟩ = some (.string (r.dev k).name) ∧ w'.cell? ⟨b, off + k * 5 + 1, none⟩ = some (.int .i64 (r.dev k).long) ∧ w'.cell? ⟨b, off + k * 5 + 2, none⟩ = some (.int .i64 (r.dev k).id) ∧ w'.cell? ⟨b, off + k * 5 + 3, none⟩ = some (.slice (r.plc k).ra (r.dev k).regs.n (r.plc k).rc) ∧ w'.cell? ⟨b, off + k * 5 + 4, none⟩ = some (.slice (r.plc k).ia (r.dev k).ins.n (r.plc k).ic) ∧ w'.cell? ⟨rb, 2, none⟩ = some (.slice (some ⟨gc, 0, none⟩) r.n p2) ∧ w'.cell? ⟨gc, k, none⟩ = some (.string (bs (ps k).code))) := fun W hB =>
    (selectedOf_any (r.dev k) (r.plc k) (bs (ps k).code) W ((hdo.below (hB.mono hBw) (Nat.le_refl _)).up (Nat.le_trans hBw hB.size))).mono fun e w' hh => ⟨hh.1, hB.trans (hh.2.mono hB.size), hh.2, hkeep w' (hB.trans (hh.2.mono hB.size))⟩
  obtain ⟨nm, hnm⟩ : ∃ nm, nm = selN (r.dev k) (bs (ps k).code) (r.dev k).ins.n := ⟨_, rfl⟩
  rw [← hnm] at hsel
  generalize refLong (r.dev k) nm (r.dev k).regs.n = lg at hsel
  have HNM := Lib.hid hnm
  have HK := Lib.hid hkeep
  clear hnm hkeep
  have hk0 : (0 : Int) ≤ (k : Int) := by omega
  have hk1 : (k : Int) < (r.n : Int) := by omega
  clear hcells
  have H := Lib.hid h
  clear h
  go_enter Tryz.func74, Tryz.ntmps74
  go_wp2_with fail
  go_cut [5] (fun v wx => ∃ bx, v = .pointer (some ⟨bx, 0, none⟩) ∧ wx.cell? ⟨bx, 0, none⟩ = some (.string nm) ∧ Below w.heap.size w wx)
  case first =>
    go_region_held3 (fun w' => w'.cell? ⟨rb, 0, none⟩ = some (.slice (some ⟨b, off, none⟩) r.n dcap) ∧ w'.cell? ⟨b, off + k * 5, none⟩ = some (.string (r.dev k).name) ∧ w'.cell? ⟨b, off + k * 5 + 1, none⟩ = some (.int .i64 (r.dev k).long) ∧ w'.cell? ⟨b, off + k * 5 + 2, none⟩ = some (.int .i64 (r.dev k).id) ∧ w'.cell? ⟨b, off + k * 5 + 3, none⟩ = some (.slice (r.plc k).ra (r.dev k).regs.n (r.plc k).rc) ∧ w'.cell? ⟨b, off + k * 5 + 4, none⟩ = some (.slice (r.plc k).ia (r.dev k).ins.n (r.plc k).ic) ∧ w'.cell? ⟨rb, 2, none⟩ = some (.slice (some ⟨gc, 0, none⟩) r.n p2) ∧ w'.cell? ⟨gc, k, none⟩ = some (.string (bs (ps k).code)))
      (first | exact ⟨c0, d0, d1, d2, d3, d4, c2, cc⟩ | assumption | exact HK.out _ ((hB2.setCell (Nat.le_refl _) _).setCell (Nat.le_refl _) _) | exact HK.out _ (hB2.alloc hB2.size _) | exact HK.out _ (((hB2.alloc hB2.size _).setCell hB2.size _).setCell hB2.size _) | go_keep)
      ((go_at_call 75; refine (hsel _ (by first | exact (Below.refl _ w).drew | exact (((Below.refl _ w).drew).alloc (Nat.le_refl _) _))).mono ?_; rintro e w2 ⟨rfl, hB2, hBW, hS2⟩; have hcl := (bcell hBW).1; have hfz := (bcell hBW).2))
    all_goals
      go_wp2_with fail
      go_meet
      first
        | exact ⟨_, rfl, cell_fresh _ _ _ rfl, hB2.alloc hB2.size _⟩
        | exact ⟨_, rfl, by rw [World.cell?_setCell_other _ _ _ _ (by simp)]; exact World.cell?_setCell_same _ _ _ ((hcl _ _ (by simp)).trans (cell_fresh _ _ _ rfl)), (hB2.setCell (Nat.le_refl _) _).setCell (Nat.le_refl _) _⟩
  case rest =>
    obtain ⟨bx, rfl, hbx, hB⟩ := hcut
    clear hsel hdo
    have hsure := H.out.sure k hk
    have hgood := H.out.good k hk
    have hnm : nm.data.toList = selOf (r.dev k) (ps k).code := by
      rw [HNM.out, selN_sel _ _ hsure, bs_list]
    obtain ⟨e0, e1, e2, e3, e4, e5, e6, e7⟩ := HK.out wc hB
    have hlk := fun hs hz q => RefAt.look H.out hk nm wc hB hs hz q
    have hbyp := H.out.byp k hk
    have hidc := H.out.idc k hk
    obtain ⟨sk, hsk, hkn, hskz⟩ := selOf_known (r.dev k) hsure.right (ps k).code
    have hnmsk : nm = sk := by
      apply ByteArray.ext
      apply Array.ext'
      rw [hnm, hsk]
    subst hnmsk
    have et : ∀ l : List UInt8, (nm.toList == l) = decide (nm.data.toList = l) := fun l => by
      rw [ByteArray.toList_eq, Bool.eq_iff_iff]
      simp
    by_cases n1 : nm.data.toList = bypassS.data.toList
    · have t1 : (nm.toList == [98, 121, 112, 97, 115, 115]) = true := by rw [et]; exact decide_eq_true n1
      have hres : bs (strOf ((ps k).inp (selOf (r.dev k) (ps k).code))) = ⟨#[48]⟩ := by rw [← hnm, n1, hbyp]; rfl
      have HRES := Lib.hid hres
      clear et hres n1 hlk hbyp hidc hnm hkn hsk e0 e1 e2 e3 e4 e5 e6 e7 c0 c2 c4 cc d0 d1 d2 d3 d4
      go_wp2_with fail
      go_ret
      exact ⟨congrArg (fun x => Ending.returned (Value.string x)) HRES.out.symm, hB⟩
    have t1 : (nm.toList == [98, 121, 112, 97, 115, 115]) = false := by rw [et]; exact decide_eq_false n1
    by_cases n2 : nm.data.toList = idcodeS.data.toList
    · have t2 : (nm.toList == [105, 100, 99, 111, 100, 101]) = true := by rw [et]; exact decide_eq_true n2
      have hid0 : ((r.dev k).id == 0) = false := by
        have h5 := hkn
        unfold knownB at h5
        have h6 := hsure.notIdc
        have h7 : nm = idcodeS := by
          apply ByteArray.ext
          apply Array.ext'
          exact n2
        rw [h7, h6] at h5
        have h8 : (idcodeS.toList == bypassS.toList) = false := by rw [ByteArray.toList_eq, ByteArray.toList_eq]; decide
        rw [h8] at h5
        simpa using h5
      obtain ⟨i, hi, hi2⟩ := hsure.id
      have hres : bs (strOf ((ps k).inp (selOf (r.dev k) (ps k).code))) = bs ((List.range 32).map (bitAt i)) := by
        rw [← hnm, n2, hidc hid0, hi]
        rfl
      have HRES := Lib.hid hres
      rw [hi] at e3
      clear et hres n1 n2 hlk hbyp hidc hnm hkn hsk hid0 hi e1 e2 e4 e5 e6 e7 c0 c2 c4 cc d0 d1 d2 d3 d4 H hsure hgood
      have hit : ∀ (j : Nat) (W : World), Calls Tryz.prog 31 #[.int .i64 (bits .and .i64 ((i : Int) / 2 ^ j) 1)] W fun e w' => e = .returned (.string (bs [bitAt i j])) ∧ W = w' := by
        intro j W
        have h5 := bit_byte i j hi2
        have h6 : ∃ b : Nat, b ≤ 1 ∧ bits .and .i64 ((i : Int) / 2 ^ j) 1 = (b : Int) ∧ bitAt i j = (if b = 1 then 49 else 48) := bit_nat i j hi2
        obtain ⟨b, hb, hbe, hba⟩ := h6
        rw [hbe, hba]
        refine (Tryz.strconv_Itoa_small b (by omega) W).mono ?_
        rintro e w' ⟨rfl, rfl⟩
        have : b = 0 ∨ b = 1 := by omega
        rcases this with rfl | rfl
        · exact ⟨by simp [Lib.decDigits], rfl⟩
        · exact ⟨by simp [Lib.decDigits], rfl⟩
      go_wp2_with fail
      go_loop [6, 29] (fun out j => ∃ q : Nat, q ≤ 32 ∧ j = .int .i64 (q : Int) ∧ out = .string (bs ((List.range q).map (bitAt i)))) (fun _ j => 32 - (intOf j).toNat)
      case atStart => exact ⟨0, by omega, rfl, rfl⟩
      case round =>
        obtain ⟨q, hq, rfl, rfl⟩ := hrel
        by_cases hlt : q < 32
        · have hitq := fun W => hit q W
          have hq0 : (0 : Int) ≤ (q : Int) := by omega
          have hq1 : (q : Int) ≤ 64 := by omega
          have hsnoc : Hid (bs ((List.range (q + 1)).map (bitAt i)) = bs ((List.range q).map (bitAt i)) ++ bs [bitAt i q]) := Lib.hid (by
            rw [List.range_succ, List.map_append]
            apply ByteArray.ext
            rw [ByteArray.data_append]
            simp)
          have hcat : ¬ 9223372036854775807 < (bs ((List.range q).map (bitAt i))).size + (bs [bitAt i q]).size := by
            rw [bs_size, bs_size]
            simp
            omega
          clear hit
          generalize bs ((List.range q).map (bitAt i)) = x1 at hcat hsnoc
          generalize bs [bitAt i q] = x2 at hcat hsnoc hitq
          go_wp2_with fail
          refine (hitq _).mono ?_
          rintro e w' ⟨rfl, rfl⟩
          go_wp2_with fail
          go_round
          case rel => exact ⟨q + 1, by omega, by go_num, by rw [hsnoc.out]⟩
          case measure => simp [intOf]; omega
        · obtain rfl : q = 32 := by omega
          clear hit
          go_wp2_with fail
          go_ret
          exact ⟨congrArg (fun x => Ending.returned (Value.string x)) HRES.out.symm, hB⟩
    · have t2 : (nm.toList == [105, 100, 99, 111, 100, 101]) = false := by rw [et]; exact decide_eq_false n2
      have hown : hasName (r.dev k).regs.name nm (r.dev k).regs.n = true := by
        have h5 := hkn
        unfold knownB at h5
        have h6 : (nm.toList == bypassS.toList) = false := by rw [et, ByteArray.toList_eq]; exact decide_eq_false n1
        have h7 : (nm.toList == idcodeS.toList) = false := by rw [et, ByteArray.toList_eq]; exact decide_eq_false n2
        rw [h6, h7] at h5
        simpa using h5
      have hlook := fun q => hlk hown hskz q
      have hres : bs (strOf ((ps k).inp nm.data.toList)) = bs (strOf ((ps k).inp (selOf (r.dev k) (ps k).code))) := by rw [← hnm]
      have HRES := Lib.hid hres
      have c4w : wc.cell? ⟨rb, 4, none⟩ = some (.map (some mi)) := (hB.cell (p := ⟨rb, 4, none⟩) l1).trans c4
      generalize bs (strOf ((ps k).inp nm.data.toList)) = res at hlook HRES
      clear et hres n1 n2 hlk hbyp hidc hnm hkn hsk hown e6 e7 c0 c2 c4 cc d0 d1 d2 d3 d4 hsure hgood
      go_wp2_with fail
      go_quiet (fail)
      go_wp2_with fail
      go_ret
      exact ⟨congrArg (fun x => Ending.returned (Value.string x)) HRES.out, ⟨hB.os, hB.tape, hB.output, hB.size, hB.block⟩⟩
end Go.Proofs.YtkipkkaloiefpaaGreatDoor
/- An entry of a map, then the store through it. -/
namespace Go.Proofs.YtkipkkaloiefpaaGreatDoor
open Go.RowKit Go.Maps

theorem Tryz.pairKeyLaw : Go.WideMaps.KeyLaw Tryz.prog 75 := deep_law_laid Tryz.laidOutP (m := 3) (by omega) Tryz.rowPair (by kernel_rfl) (by kernel_rfl)

/-- m[key] = val, in two steps: the entry (world w1), later the store through it, in any world that has the map's block as the entry left it; behind it each world that has the block as the store left it holds the map with an entry more. -/
theorem LMap.entry {P : Program} {k e : TypeId} {R : Value → Option (DataW Unit × List MemPlace)} {w : World} {b n : Nat} {M : Lit → Option Lit} (h : LMap P k R w b n M) (K : Go.WideMaps.KeyLaw P k) {t : TypeId} (ht : P.underlying t = some (.map k e)) (hn : n < 1000000) {z : Value} (hz : ∀ u : World, (zeroValue e).run P u = .ok z u) (key : Value) (kl : Lit) (hkey : keyOf P k key = some kl) :
    ∃ (v0 : Value) (st : Nat) (o1 : Obj), (Instr.mapEntry t (.map (some b)) key).run P w = .ok (.tuple #[v0, .int .i64 (st : Int)]) (Go.ChangeMaps.setBlock w b o1) ∧
      ∀ (w2 : World) (l : Lit) (val : Value), R val = some (.lit l, []) → w2.heap[b]? = some o1 → ∃ o2, (Instr.entryStore t (.map (some b)) (.int .i64 (st : Int)) val).run P w2 = .ok () (Go.ChangeMaps.setBlock w2 b o2) ∧
        ∀ w3 : World, w3.heap[b]? = some o2 → LMap P k R w3 b (n + 1) (putL M kl l) := by
  obtain ⟨D, ⟨es, clock, hb, F, hsz, hD⟩, h2, h3⟩ := h
  obtain ⟨v0, st, es1, clock1, e1, _, e3⟩ := Go.WideElems.entry_then_store K ht hz hb F hkey
  refine ⟨v0, st, .map es1 clock1, e1, fun w2 l val hl hw2 => ?_⟩
  obtain ⟨es', clock', f1, f2⟩ := e3 w2 val hw2
  refine ⟨.map es' clock', f1, fun w3 hw3 => ?_⟩
  obtain ⟨w', hrun, hM, _⟩ := LMap.update_run (⟨D, ⟨es, clock, hb, F, hsz, hD⟩, h2, h3⟩ : LMap P k R w b n M) (Keyed.of_law K) ht hn key kl hkey l val hl
  rw [f2] at hrun
  obtain rfl : Go.ChangeMaps.setBlock w b (.map es' clock') = w' := by injection hrun
  refine hM.block ?_
  rw [hw3]
  have hlt : b < w.heap.size := by
    rcases Nat.lt_or_ge b w.heap.size with h | h
    · exact h
    · rw [Array.getElem?_eq_none h] at hb
      cases hb
  unfold Go.ChangeMaps.setBlock
  simp [hlt]

/-- M at the pairs of a device's name and a register's: behind k devices and m registers of the next one. -/
def NewPairs (r : Devs) (M : Lit → Option Lit) (k m : Nat) : Prop :=
  (∀ i, i < r.n → ∀ s : ByteArray, s.size ≤ 1048576 → M (pairL (r.dev i).name.data.toList s.data.toList) = if i < k then outM (r.dev i) (r.dev i).regs.n s.data.toList else if i = k then outM (r.dev i) m s.data.toList else none) ∧ NoPair r M

theorem NewPairs.start (r : Devs) : NewPairs r (fun _ => none) 0 0 := ⟨fun i _ s _ => by
  rw [if_neg (Nat.not_lt_zero i)]
  split
  · rfl
  · rfl, fun _ _ _ _ _ => rfl⟩
theorem NewPairs.next {r : Devs} {M : Lit → Option Lit} {k : Nat} (h : NewPairs r M k (r.dev k).regs.n) : NewPairs r M (k + 1) 0 := ⟨fun i hi s hs => by
  rw [h.1 i hi s hs]
  by_cases e : i < k
  · rw [if_pos e, if_pos (by omega)]
  · by_cases e2 : i = k
    · subst e2
      rw [if_neg e, if_pos rfl, if_pos (by omega)]
    · rw [if_neg e, if_neg e2, if_neg (by omega)]
      split
      · rfl
      · rfl, h.2⟩
theorem NewPairs.put {r : Devs} {M : Lit → Option Lit} {k m : Nat} (h : NewPairs r M k m) (hk : k < r.n) (hname : ∀ i j, i < r.n → j < r.n → i ≠ j → (r.dev i).name ≠ (r.dev j).name) (hsz : ∀ i, i < r.n → (r.dev i).name.size ≤ 1048576) (hreg : ((r.dev k).regs.name m).size ≤ 1048576) (hm : m < (r.dev k).regs.n) :
    NewPairs r (putL M (pairL (r.dev k).name.data.toList ((r.dev k).regs.name m).data.toList) (.string (zerosL ((r.dev k).regs.long m)))) k (m + 1) := ⟨fun i hi s hs => by
  have hp := h.1 i hi s hs
  unfold putL
  by_cases e : pairL (r.dev i).name.data.toList s.data.toList = pairL (r.dev k).name.data.toList ((r.dev k).regs.name m).data.toList
  · obtain ⟨h1, h2⟩ := pair_inj (hsz i hi) hs (hsz k hk) hreg e
    have hik : i = k := Classical.byContradiction fun hne => hname i k hi hk hne h1
    subst hik
    rw [if_pos e, if_neg (Nat.lt_irrefl i), if_pos rfl, h2]
    unfold outM putS
    rw [if_pos rfl]
  · rw [if_neg e, hp]
    by_cases e1 : i < k
    · rw [if_pos e1, if_pos e1]
    · by_cases e2 : i = k
      · subst e2
        rw [if_neg e1, if_pos rfl, if_neg e1, if_pos rfl]
        have hne : s.data.toList ≠ ((r.dev i).regs.name m).data.toList := fun e3 => e (by rw [e3])
        show _ = putS (outM (r.dev i) m) _ _ _
        unfold putS
        rw [if_neg hne]
      · rw [if_neg e1, if_neg e2, if_neg e1, if_neg e2], h.2.put (hsz k hk) hreg hk rfl (hasName_hit (xs := (r.dev k).regs.name) (k := m) (by simp) _ hm) _⟩
/-- At the end. -/
theorem NewPairs.done {r : Devs} {M : Lit → Option Lit} (h : NewPairs r M r.n 0) {i : Nat} (hi : i < r.n) (s : ByteArray) (hs : s.size ≤ 1048576) : M (pairL (r.dev i).name.data.toList s.data.toList) = (newPS (r.dev i)).out s.data.toList := by
  rw [h.1 i hi s hs, if_pos hi]
  rfl
/-- At a register's own name inputs and outputs begin the same. -/
theorem inp_out (d : Dev) (s : ByteArray) : ∀ k, hasName d.regs.name s k = true → inpM d k s.data.toList = outM d k s.data.toList
  | 0, h => by cases h
  | k + 1, h => by
    show putS (inpM d k) _ _ _ = putS (outM d k) _ _ _
    unfold putS
    by_cases e : s.data.toList = (d.regs.name k).data.toList
    · rw [if_pos e, if_pos e]
    · rw [if_neg e, if_neg e]
      refine inp_out d s k ?_
      unfold hasName at h
      rcases Bool.or_eq_true _ _ ▸ h with h | h
      · exact h
      · exfalso
        rw [ByteArray.toList_eq, ByteArray.toList_eq] at h
        exact e (eq_of_beq h).symm
theorem NewPairs.done_in {r : Devs} {M : Lit → Option Lit} (h : NewPairs r M r.n 0) {i : Nat} (hi : i < r.n) (s : ByteArray) (hs : s.size ≤ 1048576) (hn : hasName (r.dev i).regs.name s (r.dev i).regs.n = true) : M (pairL (r.dev i).name.data.toList s.data.toList) = (newPS (r.dev i)).inp s.data.toList := by
  rw [h.done hi s hs]
  exact (inp_out (r.dev i) s _ hn).symm
/-- A name that no register has is as at the start. -/
theorem inp_start (d : Dev) (s : ByteArray) : ∀ k, hasName d.regs.name s k = false → inpM d k s.data.toList = inpM d 0 s.data.toList
  | 0, _ => rfl
  | k + 1, h => by
    unfold hasName at h
    obtain ⟨h1, h2⟩ := Bool.or_eq_false_iff.1 h
    rw [← inp_start d s k h1]
    show putS (inpM d k) _ _ _ = _
    unfold putS
    rw [ByteArray.toList_eq, ByteArray.toList_eq] at h2
    exact if_neg fun e => by rw [e] at h2; simp at h2
theorem newPS_byp (d : Dev) (h : hasName d.regs.name bypassS d.regs.n = false) : (newPS d).inp bypassS.data.toList = some (.string [48]) := by
  show inpM d d.regs.n bypassS.data.toList = _
  rw [inp_start d bypassS _ h]
  have hne : bypassS.data.toList ≠ idcodeS.data.toList := by decide
  unfold inpM
  split
  · unfold putS
    exact if_pos rfl
  · unfold putS
    rw [if_neg hne]
    exact if_pos rfl
theorem newPS_idc (d : Dev) (h : hasName d.regs.name idcodeS d.regs.n = false) (hid : (d.id == 0) = false) : (newPS d).inp idcodeS.data.toList = some (.string (idBits d.id.toNat)) := by
  show inpM d d.regs.n idcodeS.data.toList = _
  rw [inp_start d idcodeS _ h]
  unfold inpM
  rw [if_neg (by rw [hid]; decide)]
  unfold putS
  exact if_pos rfl
theorem hasName_at {xs : Nat → ByteArray} {s : ByteArray} : ∀ n, hasName xs s n = true → ∃ m, m < n ∧ xs m = s
  | 0, h => by cases h
  | n + 1, h => by
    unfold hasName at h
    rcases Bool.or_eq_true _ _ ▸ h with h | h
    · obtain ⟨m, hm, e⟩ := hasName_at n h
      exact ⟨m, by omega, e⟩
    · rw [ByteArray.toList_eq, ByteArray.toList_eq] at h
      exact ⟨n, by omega, ByteArray.ext (Array.ext' (eq_of_beq h))⟩

/-- A new port of the reference, from what its cells and maps hold. -/
theorem RefAt.fresh {B N : Nat} {w : World} {rb gc gs mi mo : Nat} {da : Option Addr} {dcap : Nat} {r : Devs} (hn : 1 ≤ r.n ∧ r.n ≤ 20) (hdevs : DevsAt B w da r) (hsure : ∀ k, k < r.n → Sure (r.dev k)) (hnames : ∀ i j, i < r.n → j < r.n → i ≠ j → (r.dev i).name ≠ (r.dev j).name) (hregs : ∀ k, k < r.n → ∀ m, m < (r.dev k).regs.n → ((r.dev k).regs.name m).size ≤ 1048576)
    (c0 : w.cell? ⟨rb, 0, none⟩ = some (.slice da r.n dcap)) (c1 : w.cell? ⟨rb, 1, none⟩ = some (.int .i64 0)) (f1 : w.frozen? ⟨rb, 1, none⟩ = false) (c2 : ∃ cp, w.cell? ⟨rb, 2, none⟩ = some (.slice (some ⟨gc, 0, none⟩) r.n cp)) (c3 : ∃ cp, w.cell? ⟨rb, 3, none⟩ = some (.slice (some ⟨gs, 0, none⟩) r.n cp)) (c4 : w.cell? ⟨rb, 4, none⟩ = some (.map (some mi))) (c5 : w.cell? ⟨rb, 5, none⟩ = some (.map (some mo)))
    (hcodes : ∀ k, k < r.n → w.cell? ⟨gc, k, none⟩ = some (.string ⟨#[]⟩) ∧ w.frozen? ⟨gc, k, none⟩ = false) (hshift : ∀ k, k < r.n → w.cell? ⟨gs, k, none⟩ = some (.string ⟨#[48]⟩) ∧ w.frozen? ⟨gs, k, none⟩ = false)
    (hin : ∃ M, LMap Tryz.prog 75 (plainElem Tryz.prog 9) w mi N M ∧ NewPairs r M r.n 0) (hout : ∃ M, LMap Tryz.prog 75 (plainElem Tryz.prog 9) w mo N M ∧ NewPairs r M r.n 0)
    (hup : B ≤ rb ∧ B ≤ gc ∧ B ≤ gs ∧ B ≤ mi ∧ B ≤ mo) (hfar : rb ≠ gc ∧ rb ≠ gs ∧ rb ≠ mi ∧ rb ≠ mo ∧ gc ≠ gs ∧ gc ≠ mi ∧ gc ≠ mo ∧ gs ≠ mi ∧ gs ≠ mo ∧ mi ≠ mo) :
    RefAt B N w rb gc gs mi mo da dcap 0 r (fun k => newPS (r.dev k)) := by
  obtain ⟨M, hM, hM2⟩ := hin
  obtain ⟨M', hM', hM2'⟩ := hout
  exact {
    n1 := hn.1
    n20 := hn.2
    devs := hdevs
    st16 := by decide
    c0 := c0
    c1 := c1
    f1 := f1
    c2 := c2
    c3 := c3
    c4 := c4
    c5 := c5
    codes := hcodes
    shift := hshift
    inM := ⟨M, hM, fun k hk s hs => by
      obtain ⟨m, hm, rfl⟩ := hasName_at _ hs
      exact hM2.done_in hk _ (hregs k hk m hm) hs, hM2.2⟩
    outM := ⟨M', hM', fun k hk s hs => hM2'.done hk s hs, hM2'.2⟩
    byp := fun k hk => newPS_byp _ (hsure k hk).notByp
    idc := fun k hk hid => newPS_idc _ (hsure k hk).notIdc hid
    sure := hsure
    names := hnames
    good := fun k hk => newPS_good _ (hsure k hk).longs
    up := hup
    far := hfar }
end Go.Proofs.YtkipkkaloiefpaaGreatDoor
/- What a device does in the reference at a clock. -/
namespace Go.Proofs.YtkipkkaloiefpaaGreatDoor
open Go.RowKit Go.Maps

/-- One port's state is another one. -/
def updP (ps : Nat → PS) (k : Nat) (p : PS) (j : Nat) : PS := if j = k then p else ps j
theorem updP_at (ps : Nat → PS) (k : Nat) (p : PS) : updP ps k p k = p := if_pos rfl
theorem updP_ne (ps : Nat → PS) {k j : Nat} (p : PS) (h : j ≠ k) : updP ps k p j = ps j := if_neg h

theorem RefAt.upd {B N N' : Nat} {w w' : World} {rb gc gs mi mo : Nat} {da : Option Addr} {dcap st : Nat} {r : Devs} {ps : Nat → PS} (h : RefAt B N w rb gc gs mi mo da dcap st r ps) {k : Nat} {p : PS} (hT : Touch (fun b => b = gc ∨ b = gs ∨ b = mo) w w')
    (hc : ∀ j, j < r.n → w'.cell? ⟨gc, j, none⟩ = some (.string (bs (updP ps k p j).code)) ∧ w'.frozen? ⟨gc, j, none⟩ = false) (hs : ∀ j, j < r.n → w'.cell? ⟨gs, j, none⟩ = some (.string (bs (updP ps k p j).sh)) ∧ w'.frozen? ⟨gs, j, none⟩ = false)
    (ho : ∃ M, LMap Tryz.prog 75 (plainElem Tryz.prog 9) w' mo N' M ∧ (∀ j, j < r.n → ∀ s : ByteArray, s.size ≤ 1048576 → M (pairL (r.dev j).name.data.toList s.data.toList) = (updP ps k p j).out s.data.toList) ∧ NoPair r M)
    (hin : p.inp = (ps k).inp) (hg : k < r.n → Good (r.dev k) p) (hN : N ≤ N') : RefAt B N' w' rb gc gs mi mo da dcap st r (updP ps k p) := by
  obtain ⟨l1, l2, l3, l4, l5⟩ := h.lt
  obtain ⟨u1, u2, u3, u4, u5⟩ := h.up
  obtain ⟨n1, n2, n3, n4, n5, n6, n7, n8, n9, n10⟩ := h.far
  have hrb := hT.block rb l1 (fun e => by rcases e with e | e | e <;> contradiction)
  have hmi := hT.block mi l4 (fun e => by rcases e with e | e | e; exact n6 e.symm; exact n8 e.symm; exact n10 e)
  have hB : Below B w w' := ⟨hT.os, hT.tape, hT.output, hT.size, fun b hb => hT.block b (by omega) (fun e => by rcases e with e | e | e <;> omega)⟩
  have hcl : ∀ j, w'.cell? ⟨rb, j, none⟩ = w.cell? ⟨rb, j, none⟩ := fun j => World.cell?_of_block (a := ⟨rb, j, none⟩) hrb
  obtain ⟨p2, h2⟩ := h.c2
  obtain ⟨p3, h3⟩ := h.c3
  obtain ⟨M, hM, hM2⟩ := h.inM
  have hinp : ∀ j, (updP ps k p j).inp = (ps j).inp := fun j => by
    by_cases e : j = k
    · rw [e, updP_at, hin]
    · rw [updP_ne _ _ e]
  exact { h with
    devs := h.devs.below hB (Nat.le_refl _)
    c0 := (hcl 0).trans h.c0
    c1 := (hcl 1).trans h.c1
    f1 := (World.frozen?_of_block (a := ⟨rb, 1, none⟩) hrb).trans h.f1
    c2 := ⟨p2, (hcl 2).trans h2⟩
    c3 := ⟨p3, (hcl 3).trans h3⟩
    c4 := (hcl 4).trans h.c4
    c5 := (hcl 5).trans h.c5
    codes := hc
    shift := hs
    inM := ⟨M, (hM.block hmi).up hN, fun j hj s hs => by rw [hinp]; exact hM2.1 j hj s hs, hM2.2⟩
    outM := ho
    byp := fun j hj => by rw [hinp]; exact h.byp j hj
    idc := fun j hj hi => by rw [hinp]; exact h.idc j hj hi
    good := fun j hj => by
      by_cases e : j = k
      · subst e
        rw [updP_at]
        exact hg hj
      · rw [updP_ne _ _ e]
        exact h.good j hj }

/-- A code is set. -/
theorem RefAt.setCode {B N : Nat} {w : World} {rb gc gs mi mo : Nat} {da : Option Addr} {dcap st : Nat} {r : Devs} {ps : Nat → PS} (h : RefAt B N w rb gc gs mi mo da dcap st r ps) {k : Nat} (hk : k < r.n) (c : List UInt8) (hg : Good (r.dev k) { ps k with code := c }) :
    RefAt B N (w.setCell ⟨gc, k, none⟩ (.string (bs c))) rb gc gs mi mo da dcap st r (updP ps k { ps k with code := c }) := by
  obtain ⟨n1, n2, n3, n4, n5, n6, n7, n8, n9, n10⟩ := h.far
  have hb : ∀ x, x ≠ gc → (w.setCell ⟨gc, k, none⟩ (.string (bs c))).heap[x]? = w.heap[x]? := fun x hx => Below.heap_setCell _ _ _ x hx
  obtain ⟨M, hM, hM2⟩ := h.outM
  refine h.upd (Touch.setCell (S := fun b => b = gc ∨ b = gs ∨ b = mo) (p := ⟨gc, k, none⟩) (Touch.refl _ w) (fun _ => .inl rfl) _) (fun j hj => ⟨?_, by rw [World.frozen?_setCell]; exact (h.codes j hj).2⟩) (fun j hj => ⟨?_, (World.frozen?_of_block (a := ⟨gs, j, none⟩) (hb gs (Ne.symm n5))).trans (h.shift j hj).2⟩) ⟨M, hM.block (hb mo (Ne.symm n7)), fun j hj s hs => ?_, hM2.2⟩ rfl (fun _ => hg) (Nat.le_refl _)
  · by_cases e : j = k
    · subst e
      rw [updP_at]
      exact World.cell?_setCell_same _ _ _ (h.codes j hj).1
    · rw [updP_ne _ _ e, World.cell?_setCell_other _ _ _ _ (by simp; try omega)]
      exact (h.codes j hj).1
  · refine (World.cell?_of_block (a := ⟨gs, j, none⟩) (hb gs (Ne.symm n5))).trans ?_
    by_cases e : j = k
    · subst e
      rw [updP_at]
      exact (h.shift j hj).1
    · rw [updP_ne _ _ e]
      exact (h.shift j hj).1
  · rw [hM2.1 j hj s hs]
    by_cases e : j = k
    · subst e
      rw [updP_at]
    · rw [updP_ne _ _ e]
/-- The register's bits are set. -/
theorem RefAt.setShift {B N : Nat} {w : World} {rb gc gs mi mo : Nat} {da : Option Addr} {dcap st : Nat} {r : Devs} {ps : Nat → PS} (h : RefAt B N w rb gc gs mi mo da dcap st r ps) {k : Nat} (hk : k < r.n) (c : List UInt8) (hg : Good (r.dev k) { ps k with sh := c }) :
    RefAt B N (w.setCell ⟨gs, k, none⟩ (.string (bs c))) rb gc gs mi mo da dcap st r (updP ps k { ps k with sh := c }) := by
  obtain ⟨n1, n2, n3, n4, n5, n6, n7, n8, n9, n10⟩ := h.far
  have hb : ∀ x, x ≠ gs → (w.setCell ⟨gs, k, none⟩ (.string (bs c))).heap[x]? = w.heap[x]? := fun x hx => Below.heap_setCell _ _ _ x hx
  obtain ⟨M, hM, hM2⟩ := h.outM
  refine h.upd (Touch.setCell (S := fun b => b = gc ∨ b = gs ∨ b = mo) (p := ⟨gs, k, none⟩) (Touch.refl _ w) (fun _ => .inr (.inl rfl)) _) (fun j hj => ⟨?_, (World.frozen?_of_block (a := ⟨gc, j, none⟩) (hb gc n5)).trans (h.codes j hj).2⟩) (fun j hj => ⟨?_, by rw [World.frozen?_setCell]; exact (h.shift j hj).2⟩) ⟨M, hM.block (hb mo (Ne.symm n9)), fun j hj s hs => ?_, hM2.2⟩ rfl (fun _ => hg) (Nat.le_refl _)
  · refine (World.cell?_of_block (a := ⟨gc, j, none⟩) (hb gc n5)).trans ?_
    by_cases e : j = k
    · subst e
      rw [updP_at]
      exact (h.codes j hj).1
    · rw [updP_ne _ _ e]
      exact (h.codes j hj).1
  · by_cases e : j = k
    · subst e
      rw [updP_at]
      exact World.cell?_setCell_same _ _ _ (h.shift j hj).1
    · rw [updP_ne _ _ e, World.cell?_setCell_other _ _ _ _ (by simp; try omega)]
      exact (h.shift j hj).1
  · rw [hM2.1 j hj s hs]
    by_cases e : j = k
    · subst e
      rw [updP_at]
    · rw [updP_ne _ _ e]
end Go.Proofs.YtkipkkaloiefpaaGreatDoor
