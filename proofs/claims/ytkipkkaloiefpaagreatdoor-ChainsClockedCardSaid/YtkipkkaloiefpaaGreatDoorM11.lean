/- Run as one contract; equal rows of numbers; devices that stay while the stream runs on. -/
import Derived.Test.YtkipkkaloiefpaaGreatDoorM2
import Derived.Test.YtkipkkaloiefpaaGreatDoorM6
import Derived.Test.YtkipkkaloiefpaaGreatDoorNewS
import Derived.Test.YtkipkkaloiefpaaGreatDoorOr
import Derived.Test.YtkipkkaloiefpaaGreatDoorM5
import Derived.Test.YtkipkkaloiefpaaGreatDoorM7
namespace Go.Proofs.YtkipkkaloiefpaaGreatDoor
open Go.RowKit Go.Maps

theorem RegsAt.ran {sb t K : Nat} {w w' : World} {a : Option Addr} {r : Regs} (h : RegsAt w.heap.size w a r) (hf : FarA sb a) (hr : Ran sb t K w w') : RegsAt w'.heap.size w' a r := by
  refine ⟨h.n_le, fun h0 => ?_⟩
  obtain ⟨b, off, rfl, hl, hc⟩ := h.cells h0
  have hne : b ≠ sb := hf _ rfl
  exact ⟨b, off, rfl, Nat.lt_of_lt_of_le hl hr.1.size, fun k hk => ⟨hr.cell (hc k hk).1 hne, hr.cell (hc k hk).2.1 hne, (hc k hk).2.2⟩⟩
theorem InsAt.ran {sb t K : Nat} {w w' : World} {a : Option Addr} {r : Inss} (h : InsAt w.heap.size w a r) (hf : FarA sb a) (hr : Ran sb t K w w') : InsAt w'.heap.size w' a r := by
  refine ⟨h.n_le, fun h0 => ?_⟩
  obtain ⟨b, off, rfl, hl, hc⟩ := h.cells h0
  have hne : b ≠ sb := hf _ rfl
  exact ⟨b, off, rfl, Nat.lt_of_lt_of_le hl hr.1.size, fun k hk => ⟨hr.cell (hc k hk).1 hne, hr.cell (hc k hk).2.1 hne, (hc k hk).2.2⟩⟩
theorem DevsAt.ran {sb t K : Nat} {w w' : World} {a : Option Addr} {r : Devs} (h : DevsAt w.heap.size w a r) (hf : FarA sb a) (hp : ∀ k, k < r.n → FarA sb (r.plc k).ra ∧ FarA sb (r.plc k).ia) (hr : Ran sb t K w w') : DevsAt w'.heap.size w' a r := by
  refine ⟨h.n_le, fun h0 => ?_⟩
  obtain ⟨b, off, rfl, hl, hc⟩ := h.cells h0
  have hne : b ≠ sb := hf _ rfl
  refine ⟨b, off, rfl, Nat.lt_of_lt_of_le hl hr.1.size, fun k hk => ?_⟩
  obtain ⟨⟨c1, c2, c3, c4, c5⟩, hok⟩ := hc k hk
  exact ⟨⟨hr.cell c1 hne, hr.cell c2 hne, hr.cell c3 hne, hr.cell c4 hne, hr.cell c5 hne⟩, hok.regs.ran (hp k hk).1 hr, hok.ins.ran (hp k hk).2 hr, hok.name, hok.capR, hok.capI⟩

/-- What Run says. -/
def runE (r : Devs) (tms tdi : ByteArray) : Int := if devsErr r = 0 then runErr tms tdi else devsErr r
def runV (r : Devs) (tms tdi : ByteArray) : ByteArray := if runE r tms tdi = 0 then bs (runOut r.dev r.n tms.data.toList tdi.data.toList) else ⟨#[]⟩
theorem runE_or (r : Devs) (tms tdi : ByteArray) : or2 (devsErr r) (runErr tms tdi) = runE r tms tdi := by
  unfold or2 runE
  by_cases h : devsErr r = 0
  · simp [h]
  · simp [h]
end Go.Proofs.YtkipkkaloiefpaaGreatDoor
/- How long what a port holds is: inputs and outputs of a register are as long, and so is what is shifted between a capture and an update. -/
namespace Go.Proofs.YtkipkkaloiefpaaGreatDoor
open Go.RowKit Go.Maps

/-- Inputs and outputs of a register of the device's own are as long; from the capture to the update what is shifted is as long as well. -/
structure LenS (st : Nat) (d : Dev) (p : PS) : Prop where
  own : ∀ s : ByteArray, hasName d.regs.name s d.regs.n = true → ∃ l l', p.inp s.data.toList = some (.string l) ∧ p.out s.data.toList = some (.string l') ∧ l.length = l'.length
  dr : 4 ≤ st → st ≤ 8 → ∀ s : ByteArray, hasName d.regs.name s d.regs.n = true → selOf d p.code = s.data.toList → ∃ l, p.inp s.data.toList = some (.string l) ∧ p.sh.length = l.length
  str : ∀ x v, p.out x = some v → ∃ l, v = .string l

/-- From where the states between capture and update are reached. -/
theorem nx_dr (st : Nat) (hst : st < 16) (t : UInt8) (ht : bitB t = true) (h4 : 4 ≤ nx st t) (h8 : nx st t ≤ 8) : 3 ≤ st ∧ st ≤ 7 := by
  have h : ∀ st, st < 16 → (4 ≤ nx st 48 → nx st 48 ≤ 8 → 3 ≤ st ∧ st ≤ 7) ∧ (4 ≤ nx st 49 → nx st 49 ≤ 8 → 3 ≤ st ∧ st ≤ 7) := by decide
  have h48 : t = 48 ∨ t = 49 := by simpa [bitB] using ht
  rcases h48 with rfl | rfl
  · exact (h st hst).1 h4 h8
  · exact (h st hst).2 h4 h8

theorem LenS.shift {st : Nat} {d : Dev} {p : PS} (h : LenS st d p) (hg : Good d p) (c : UInt8) (st' : Nat) (h' : 4 ≤ st' → st' ≤ 8 → 4 ≤ st ∧ st ≤ 8) : LenS st' d (shiftS p c) := by
  refine ⟨h.own, fun a b s hs hsel => ?_, h.str⟩
  obtain ⟨x, y⟩ := h' a b
  obtain ⟨l, h1, h2⟩ := h.dr x y s hs hsel
  refine ⟨l, h1, ?_⟩
  show (p.sh.tail ++ [c]).length = _
  rw [List.length_append, List.length_tail, ← h2]
  have : p.sh.length ≠ 0 := fun e => hg.sh0 (List.length_eq_zero_iff.1 e)
  simp
  omega

theorem LenS.act {st : Nat} {d : Dev} {p : PS} (h : LenS st d p) (st' : Nat) (h' : 4 ≤ st' → st' ≤ 8 → st = 3 ∨ st = 5 ∨ st = 6 ∨ st = 7) : LenS st' d (actS st d p) := by
  by_cases e8 : st = 8
  · subst e8
    have hno : ¬ (4 ≤ st' ∧ st' ≤ 8) := fun ⟨a, b⟩ => by rcases h' a b with e | e | e | e <;> cases e
    have ea : actS 8 d p = (if (p.out (selOf d p.code)).isSome = true then { p with out := putS p.out (selOf d p.code) (.string p.sh) } else p) := rfl
    rw [ea]
    refine ⟨fun s hs => ?_, fun a b => absurd ⟨a, b⟩ hno, fun x v hv => ?_⟩
    rotate_left
    · split at hv
      · have hv : putS p.out (selOf d p.code) (.string p.sh) x = some v := hv
        unfold putS at hv
        split at hv
        · cases hv
          exact ⟨_, rfl⟩
        · exact h.str x v hv
      · exact h.str x v hv
    obtain ⟨l, l', h1, h2, h3⟩ := h.own s hs
    split
    · by_cases e : s.data.toList = selOf d p.code
      · obtain ⟨l2, h4, h5⟩ := h.dr (by decide) (by decide) s hs e.symm
        refine ⟨l2, p.sh, h4, ?_, h5.symm⟩
        show putS p.out _ _ _ = _
        unfold putS
        exact if_pos e
      · refine ⟨l, l', h1, ?_, h3⟩
        show putS p.out _ _ _ = _
        unfold putS
        rw [if_neg e]
        exact h2
    · exact ⟨l, l', h1, h2, h3⟩
  by_cases e3 : st = 3
  · subst e3
    have ea : actS 3 d p = { p with sh := strOf (p.inp (selOf d p.code)) } := rfl
    rw [ea]
    refine ⟨h.own, fun _ _ s hs hsel => ?_, h.str⟩
    obtain ⟨l, l', h1, h2, h3⟩ := h.own s hs
    have hsel' : selOf d p.code = s.data.toList := hsel
    refine ⟨l, h1, ?_⟩
    show (strOf (p.inp (selOf d p.code))).length = _
    rw [hsel', h1]
    rfl
  have hinp : (actS st d p).inp = p.inp ∧ (actS st d p).out = p.out := by
    unfold actS
    rw [if_neg e3, if_neg e8]
    split
    · exact ⟨rfl, rfl⟩
    split
    · exact ⟨rfl, rfl⟩
    split
    · exact ⟨rfl, rfl⟩
    · exact ⟨rfl, rfl⟩
  refine ⟨fun s hs => by rw [hinp.1, hinp.2]; exact h.own s hs, fun a b s hs hsel => ?_, by rw [hinp.2]; exact h.str⟩
  have hst : st = 5 ∨ st = 6 ∨ st = 7 := by
    rcases h' a b with e | e
    · exact absurd e e3
    · exact e
  have ea : actS st d p = p := by
    unfold actS
    rcases hst with rfl | rfl | rfl <;> rfl
  rw [ea] at hsel ⊢
  exact h.dr (by omega) (by omega) s hs hsel

theorem LenS.step {st : Nat} {d : Nat → Dev} {ps : Nat → PS} {k : Nat} (h : LenS st (d k) (ps k)) (hg : Good (d k) (ps k)) (hst : st < 16) (t c : UInt8) (ht : bitB t = true) : LenS (nx st t) (d k) (stepS d st c ps k) := by
  unfold stepS
  cases hs : shifts st with
  | true =>
    rw [if_pos rfl]
    refine h.shift hg _ _ fun a b => ?_
    have h1 := nx_dr st hst t ht a b
    have h2 : st = 4 ∨ st = 11 := by simpa [shifts] using hs
    omega
  | false =>
    rw [if_neg (by decide)]
    refine h.act _ fun a b => ?_
    have h1 := nx_dr st hst t ht a b
    have h2 : st ≠ 4 := fun e => by rw [e] at hs; cases hs
    omega

theorem out_zero (d : Dev) (s : ByteArray) : ∀ k, hasName d.regs.name s k = true → ∃ l, outM d k s.data.toList = some (.string l)
  | 0, h => by cases h
  | k + 1, h => by
    show ∃ l, putS (outM d k) _ _ _ = _
    unfold putS
    by_cases e : s.data.toList = (d.regs.name k).data.toList
    · rw [if_pos e]
      exact ⟨_, rfl⟩
    · rw [if_neg e]
      refine out_zero d s k ?_
      unfold hasName at h
      rcases Bool.or_eq_true _ _ ▸ h with h | h
      · exact h
      · exfalso
        rw [ByteArray.toList_eq, ByteArray.toList_eq] at h
        exact e (eq_of_beq h).symm
theorem out_str (d : Dev) (x : List UInt8) : ∀ k v, outM d k x = some v → ∃ l, v = .string l
  | 0, v, h => by cases h
  | k + 1, v, h => by
    have h : putS (outM d k) _ _ x = some v := h
    unfold putS at h
    split at h
    · cases h
      exact ⟨_, rfl⟩
    · exact out_str d x k v h
theorem LenS.new (d : Dev) : LenS 0 d (newPS d) := by
  refine ⟨fun s hs => ?_, fun a => absurd a (by decide), fun x v hv => out_str d x _ v hv⟩
  obtain ⟨l, hl⟩ := out_zero d s _ hs
  exact ⟨l, l, (inp_out d s _ hs).trans hl, hl, rfl⟩

/-- An input is set. -/
def putInp (p : PS) (s : List UInt8) (l : List UInt8) : PS := { p with inp := putS p.inp s (.string l) }
theorem LenS.input {st : Nat} {d : Dev} {p : PS} (h : LenS st d p) {x : ByteArray} {l0 l : List UInt8} (hx : p.inp x.data.toList = some (.string l0)) (hl : l.length = l0.length) : LenS st d (putInp p x.data.toList l) := by
  refine ⟨fun s hs => ?_, fun a b s hs hsel => ?_, h.str⟩
  · obtain ⟨l1, l', h1, h2, h3⟩ := h.own s hs
    show ∃ l2 l', putS p.inp _ _ _ = _ ∧ _
    unfold putS
    by_cases e : s.data.toList = x.data.toList
    · rw [if_pos e]
      rw [e, hx] at h1
      cases h1
      exact ⟨l, l', rfl, h2, hl.trans h3⟩
    · rw [if_neg e]
      exact ⟨l1, l', h1, h2, h3⟩
  · obtain ⟨l1, h1, h2⟩ := h.dr a b s hs hsel
    show ∃ l2, putS p.inp _ _ _ = _ ∧ _
    unfold putS
    by_cases e : s.data.toList = x.data.toList
    · rw [if_pos e]
      rw [e, hx] at h1
      cases h1
      exact ⟨l, rfl, h2.trans hl.symm⟩
    · rw [if_neg e]
      exact ⟨l1, h1, h2⟩
theorem Good.input {d : Dev} {p : PS} (h : Good d p) (x : ByteArray) {l : List UInt8} (h0 : l ≠ []) (hb : l.all bitB = true) (hl : l.length ≤ 1000) : Good d (putInp p x.data.toList l) := by
  refine ⟨h.sh0, h.shB, h.shL, h.codeL, fun s hs => ?_⟩
  show ∃ l2, putS p.inp _ _ _ = _ ∧ _
  unfold putS
  by_cases e : s.data.toList = x.data.toList
  · rw [if_pos e]
    exact ⟨l, rfl, h0, hb, hl⟩
  · rw [if_neg e]
    exact h.inpS s hs
end Go.Proofs.YtkipkkaloiefpaaGreatDoor
/- A chain of the program's and a port of the reference's, of the same devices, side by side in memory. -/
namespace Go.Proofs.YtkipkkaloiefpaaGreatDoor
open Go.RowKit Go.Maps

/-- Where both lie: the chain's struct, row and map, its ports; the reference's struct, rows and maps; the devices. -/
structure Tw where
  cb : Nat
  g : Nat
  cap : Nat
  mb : Nat
  pbs : Nat → Nat
  rb : Nat
  gc : Nat
  gs : Nat
  mi : Nat
  mo : Nat
  da : Option Addr
  dcap : Nat
  r : Devs

/-- Both, above block B: the chain in state s1 with ports p1, the reference in s2 with p2; block x is of neither. -/
def Two (q : Tw) (B x N : Nat) (w : World) (s1 s2 : Nat) (p1 p2 : Nat → PS) : Prop :=
  ∃ o : Nat → Nat, (∀ b, b < B → o b = q.r.n + 1) ∧ (o q.rb = q.r.n + 1 ∧ o q.gc = q.r.n + 1 ∧ o q.gs = q.r.n + 1 ∧ o q.mi = q.r.n + 1 ∧ o q.mo = q.r.n + 1) ∧ (o x = q.r.n + 1 ∧ x < w.heap.size) ∧
    ChainAt o q.r.n N w q.cb q.g q.cap q.mb q.pbs s1 q.r.dev p1 ∧ RefAt B N w q.rb q.gc q.gs q.mi q.mo q.da q.dcap s2 q.r p2 ∧ (∀ k, k < q.r.n → Good (q.r.dev k) (p1 k)) ∧ Tab w ∧ 0 < B

theorem RefAt.stay {B N : Nat} {w w' : World} {rb gc gs mi mo : Nat} {da : Option Addr} {dcap st : Nat} {r : Devs} {ps : Nat → PS} (h : RefAt B N w rb gc gs mi mo da dcap st r ps) (hd : DevsAt B w' da r)
    (hrb : w'.heap[rb]? = w.heap[rb]?) (hgc : w'.heap[gc]? = w.heap[gc]?) (hgs : w'.heap[gs]? = w.heap[gs]?) (hmi : w'.heap[mi]? = w.heap[mi]?) (hmo : w'.heap[mo]? = w.heap[mo]?) : RefAt B N w' rb gc gs mi mo da dcap st r ps := by
  have hc : ∀ j, w'.cell? ⟨rb, j, none⟩ = w.cell? ⟨rb, j, none⟩ := fun j => World.cell?_of_block (a := ⟨rb, j, none⟩) hrb
  obtain ⟨p2, h2⟩ := h.c2
  obtain ⟨p3, h3⟩ := h.c3
  obtain ⟨M, hM, hM2⟩ := h.inM
  obtain ⟨M', hM', hM2'⟩ := h.outM
  exact { h with
    devs := hd
    c0 := (hc 0).trans h.c0
    c1 := (hc 1).trans h.c1
    f1 := (World.frozen?_of_block (a := ⟨rb, 1, none⟩) hrb).trans h.f1
    c2 := ⟨p2, (hc 2).trans h2⟩
    c3 := ⟨p3, (hc 3).trans h3⟩
    c4 := (hc 4).trans h.c4
    c5 := (hc 5).trans h.c5
    codes := fun k hk => ⟨(World.cell?_of_block (a := ⟨gc, k, none⟩) hgc).trans (h.codes k hk).1, (World.frozen?_of_block (a := ⟨gc, k, none⟩) hgc).trans (h.codes k hk).2⟩
    shift := fun k hk => ⟨(World.cell?_of_block (a := ⟨gs, k, none⟩) hgs).trans (h.shift k hk).1, (World.frozen?_of_block (a := ⟨gs, k, none⟩) hgs).trans (h.shift k hk).2⟩
    inM := ⟨M, hM.block hmi, hM2⟩
    outM := ⟨M', hM'.block hmo, hM2'⟩ }

section
variable {q : Tw} {B x N : Nat} {w w' : World} {s1 s2 : Nat} {p1 p2 : Nat → PS}

theorem Two.lt (h : Two q B x N w s1 s2 p1 p2) : q.cb < w.heap.size ∧ q.g < w.heap.size ∧ q.mb < w.heap.size ∧ q.rb < w.heap.size ∧ q.gc < w.heap.size ∧ q.gs < w.heap.size ∧ q.mi < w.heap.size ∧ q.mo < w.heap.size ∧ B ≤ w.heap.size ∧ x < w.heap.size := by
  obtain ⟨o, _, _, ⟨_, lx⟩, hC, hR, _, _, _⟩ := h
  obtain ⟨l1, l2, l3, l4, l5⟩ := hR.lt
  have := hR.up.1
  exact ⟨hC.cblt, hC.glt, hC.map2.lt, l1, l2, l3, l4, l5, by omega, lx⟩
theorem Two.st (h : Two q B x N w s1 s2 p1 p2) : s1 < 16 ∧ s2 < 16 ∧ 1 ≤ q.r.n ∧ q.r.n ≤ 20 := by
  obtain ⟨o, _, _, _, hC, hR, _, _, _⟩ := h
  exact ⟨hC.st_lt, hR.st16, hR.n1, hR.n20⟩
theorem Two.good1 (h : Two q B x N w s1 s2 p1 p2) : ∀ k, k < q.r.n → Good (q.r.dev k) (p1 k) := by
  obtain ⟨o, _, _, _, hC, hR, hg, _, _⟩ := h
  exact hg
theorem Two.good2 (h : Two q B x N w s1 s2 p1 p2) : ∀ k, k < q.r.n → Good (q.r.dev k) (p2 k) := by
  obtain ⟨o, _, _, _, hC, hR, hg, _, _⟩ := h
  exact hR.good
theorem Two.tab (h : Two q B x N w s1 s2 p1 p2) : Tab w := by
  obtain ⟨o, _, _, _, hC, hR, hg, hT, _⟩ := h
  exact hT

/-- A step of the chain: the reference stays, and all below B, and block x. -/
theorem Two.chain {o : Nat → Nat} {N' s' : Nat} {p' : Nat → PS} (hB : ∀ b, b < B → o b = q.r.n + 1) (ho : o q.rb = q.r.n + 1 ∧ o q.gc = q.r.n + 1 ∧ o q.gs = q.r.n + 1 ∧ o q.mi = q.r.n + 1 ∧ o q.mo = q.r.n + 1) (hx : o x = q.r.n + 1 ∧ x < w.heap.size)
    (hR : RefAt B N w q.rb q.gc q.gs q.mi q.mo q.da q.dcap s2 q.r p2) {o' : Nat → Nat} (h1 : ∀ b, b < w.heap.size → o' b = o b) (h2 : ChainAt o' q.r.n N' w' q.cb q.g q.cap q.mb q.pbs s' q.r.dev p') (h3 : Touch (fun b => o b ≤ q.r.n) w w') (hN : N ≤ N') (hg : ∀ k, k < q.r.n → Good (q.r.dev k) (p' k)) (hT : Tab w) (hTB : 0 < B) :
    Two q B x N' w' s' s2 p' p2 ∧ Below B w w' ∧ w'.heap[x]? = w.heap[x]? := by
  obtain ⟨l1, l2, l3, l4, l5⟩ := hR.lt
  obtain ⟨e1, e2, e3, e4, e5⟩ := ho
  have hu := hR.up.1
  have hk : ∀ b, b < w.heap.size → o b = q.r.n + 1 → w'.heap[b]? = w.heap[b]? := fun b hb e => h3.block b hb (by show ¬ o b ≤ q.r.n; omega)
  have hbl : Below B w w' := ⟨h3.os, h3.tape, h3.output, h3.size, fun b hb => hk b (by omega) (hB b hb)⟩
  exact ⟨⟨o', fun b hb => (h1 b (by omega)).trans (hB b hb), ⟨(h1 _ l1).trans e1, (h1 _ l2).trans e2, (h1 _ l3).trans e3, (h1 _ l4).trans e4, (h1 _ l5).trans e5⟩, ⟨(h1 _ hx.2).trans hx.1, Nat.lt_of_lt_of_le hx.2 h3.size⟩, h2,
    (hR.stay (hR.devs.below hbl (Nat.le_refl _)) (hk _ l1 e1) (hk _ l2 e2) (hk _ l3 e3) (hk _ l4 e4) (hk _ l5 e5)).more hN, hg, hT.below hbl hTB, hTB⟩, hbl, hk x hx.2 hx.1⟩

/-- A step of the reference: the chain stays, and all below B. -/
theorem Two.ref {N' s' : Nat} {p' : Nat → PS} (h : Two q B x N w s1 s2 p1 p2) (hN : N ≤ N') (h2 : RefAt B N' w' q.rb q.gc q.gs q.mi q.mo q.da q.dcap s' q.r p') (h3 : Touch (fun b => b = q.rb ∨ b = q.gc ∨ b = q.gs ∨ b = q.mi ∨ b = q.mo) w w') : Two q B x N' w' s1 s' p1 p' ∧ Below B w w' := by
  obtain ⟨o, hB, ⟨e1, e2, e3, e4, e5⟩, hx, hC, hR, hg, hT, hTB⟩ := h
  obtain ⟨u1, u2, u3, u4, u5⟩ := hR.up
  have hu := hR.lt.1
  have hbl : Below B w w' := ⟨h3.os, h3.tape, h3.output, h3.size, fun b hb => h3.block b (by omega) (fun e => by rcases e with rfl | rfl | rfl | rfl | rfl <;> omega)⟩
  refine ⟨⟨o, hB, ⟨e1, e2, e3, e4, e5⟩, ⟨hx.1, Nat.lt_of_lt_of_le hx.2 h3.size⟩, (hC.keep h3.size fun b hb hob => h3.block b hb ?_).up hN, h2, hg, hT.below hbl hTB, hTB⟩, hbl⟩
  intro e
  rcases e with rfl | rfl | rfl | rfl | rfl <;> omega

/-- New memory. -/
theorem Two.later (h : Two q B x N w s1 s2 p1 p2) (hb : Below w.heap.size w w') : Two q B x N w' s1 s2 p1 p2 := by
  have hBs := h.lt.2.2.2.2.2.2.2.2.1
  obtain ⟨o, hB, ho, hx, hC, hR, hg, hT, hTB⟩ := h
  exact ⟨o, hB, ho, ⟨hx.1, Nat.lt_of_lt_of_le hx.2 hb.size⟩, hC.later (fun _ _ => rfl) hb, hR.below hb, hg, hT.below hb (by omega), hTB⟩
/-- New memory, a block of which is of neither. -/
theorem Two.take (h : Two q B x N w s1 s2 p1 p2) (hb : Below w.heap.size w w') {g : Nat} (hg1 : w.heap.size ≤ g) (hg2 : g < w'.heap.size) : Two q B g N w' s1 s2 p1 p2 := by
  have hBs := h.lt.2.2.2.2.2.2.2.2.1
  obtain ⟨o, hB, ⟨e1, e2, e3, e4, e5⟩, hx, hC, hR, hg, hT, hTB⟩ := h
  obtain ⟨l1, l2, l3, l4, l5⟩ := hR.lt
  exact ⟨fun b => if b < w.heap.size then o b else q.r.n + 1, fun b hb => (if_pos (by omega)).trans (hB b hb), ⟨(if_pos l1).trans e1, (if_pos l2).trans e2, (if_pos l3).trans e3, (if_pos l4).trans e4, (if_pos l5).trans e5⟩, ⟨if_neg (by omega), hg2⟩, hC.later (fun b hb => if_pos hb) hb, hR.below hb, hg, hT.below hb (by omega), hTB⟩
theorem Two.back (h : Two q B x N w s1 s2 p1 p2) : Two q B q.rb N w s1 s2 p1 p2 := by
  obtain ⟨o, hB, ho, hx, hC, hR, hg, hT, hTB⟩ := h
  exact ⟨o, hB, ho, ⟨ho.1, hR.lt.1⟩, hC, hR, hg, hT, hTB⟩
/-- A cell of block x is set. -/
theorem Two.setx (h : Two q B x N w s1 s2 p1 p2) (hBx : B ≤ x) (hf : q.rb ≠ x ∧ q.gc ≠ x ∧ q.gs ≠ x ∧ q.mi ≠ x ∧ q.mo ≠ x) (j : Nat) (v : Value) : Two q B x N (w.setCell ⟨x, j, none⟩ v) s1 s2 p1 p2 := by
  obtain ⟨o, hB, ho, hx, hC, hR, hg, hT, hTB⟩ := h
  obtain ⟨f1, f2, f3, f4, f5⟩ := hf
  have hk : ∀ b, b ≠ x → (w.setCell ⟨x, j, none⟩ v).heap[b]? = w.heap[b]? := fun b hne => Below.heap_setCell w ⟨x, j, none⟩ v b hne
  have hs : (w.setCell ⟨x, j, none⟩ v).heap.size = w.heap.size := by simp [World.setCell]
  have hbl : Below B w (w.setCell ⟨x, j, none⟩ v) := (Below.refl B w).setCell (by show B ≤ x; exact hBx) _
  exact ⟨o, hB, ho, ⟨hx.1, by rw [hs]; exact hx.2⟩, hC.keep (Nat.le_of_eq hs.symm) (fun b hb hob => hk b (fun e => by rw [e, hx.1] at hob; omega)), hR.stay (hR.devs.below hbl (Nat.le_refl _)) (hk _ f1) (hk _ f2) (hk _ f3) (hk _ f4) (hk _ f5), hg, hT.below hbl hTB, hTB⟩

theorem Two.more {N' : Nat} (h : Two q B x N w s1 s2 p1 p2) (hN : N ≤ N') : Two q B x N' w s1 s2 p1 p2 := by
  obtain ⟨o, hB, ho, hx, hC, hR, hg, hT, hTB⟩ := h
  exact ⟨o, hB, ho, hx, hC.up hN, hR.more hN, hg, hT, hTB⟩
end

theorem DevsAt.grown {B sb : Nat} {w w' : World} {a : Option Addr} {r : Devs} (h : DevsAt B w a r) (hf : FarA sb a) (hp : ∀ k, k < r.n → FarA sb (r.plc k).ra ∧ FarA sb (r.plc k).ia) (hr : w.grownBy w' (some sb)) : DevsAt B w' a r := by
  have hcell : ∀ {x : Addr} {v : Value}, w.cell? x = some v → x.block ≠ sb → w'.cell? x = some v := fun hc hne => hr.cell hc (fun e => hne (Option.some.inj e))
  refine ⟨h.n_le, fun h0 => ?_⟩
  obtain ⟨b, off, rfl, hl, hc⟩ := h.cells h0
  have hne : b ≠ sb := hf _ rfl
  refine ⟨b, off, rfl, hl, fun k hk => ?_⟩
  obtain ⟨⟨c1, c2, c3, c4, c5⟩, hok⟩ := hc k hk
  refine ⟨⟨hcell c1 hne, hcell c2 hne, hcell c3 hne, hcell c4 hne, hcell c5 hne⟩, ⟨hok.regs.n_le, fun h1 => ?_⟩, ⟨hok.ins.n_le, fun h1 => ?_⟩, hok.name, hok.capR, hok.capI⟩
  · obtain ⟨b2, off2, e2, hl2, hc2⟩ := hok.regs.cells h1
    have hne2 : b2 ≠ sb := (hp k hk).1 _ e2
    exact ⟨b2, off2, e2, hl2, fun j hj => ⟨hcell (hc2 j hj).1 hne2, hcell (hc2 j hj).2.1 hne2, (hc2 j hj).2.2⟩⟩
  · obtain ⟨b2, off2, e2, hl2, hc2⟩ := hok.ins.cells h1
    have hne2 : b2 ≠ sb := (hp k hk).2 _ e2
    exact ⟨b2, off2, e2, hl2, fun j hj => ⟨hcell (hc2 j hj).1 hne2, hcell (hc2 j hj).2.1 hne2, (hc2 j hj).2.2⟩⟩

/-- The stream goes on. -/
theorem Two.grown {q : Tw} {B x N sb : Nat} {w w' : World} {s1 s2 : Nat} {p1 p2 : Nat → PS} (h : Two q B x N w s1 s2 p1 p2) (hsb : sb < B) (hf : FarA sb q.da) (hp : ∀ k, k < q.r.n → FarA sb (q.r.plc k).ra ∧ FarA sb (q.r.plc k).ia) (hst : sb ≠ 0) (hr : w.grownBy w' (some sb)) : Two q B x N w' s1 s2 p1 p2 := by
  have hBs := h.lt.2.2.2.2.2.2.2.2.1
  obtain ⟨o, hB, ho, hx, hC, hR, hg, hT, hTB⟩ := h
  obtain ⟨l1, l2, l3, l4, l5⟩ := hR.lt
  obtain ⟨u1, u2, u3, u4, u5⟩ := hR.up
  have hk : ∀ b, b < w.heap.size → b ≠ sb → w'.heap[b]? = w.heap[b]? := fun b hb hne => hr.block b hb (fun e => hne (Option.some.inj e))
  exact ⟨o, hB, ho, ⟨hx.1, Nat.lt_of_lt_of_le hx.2 hr.size⟩, hC.keep hr.size (fun b hb hob => hk b hb (fun e => by rw [e, hB sb hsb] at hob; omega)), hR.stay (hR.devs.grown hf hp hr) (hk _ l1 (by omega)) (hk _ l2 (by omega)) (hk _ l3 (by omega)) (hk _ l4 (by omega)) (hk _ l5 (by omega)), hg, hT.kept (hk _ (by omega) (Ne.symm hst)), hTB⟩
end Go.Proofs.YtkipkkaloiefpaaGreatDoor
/- What a chain of devices is asked: by names. -/
namespace Go.Proofs.YtkipkkaloiefpaaGreatDoor
open Go.RowKit Go.Maps

/-- The number of the device with a name. -/
def devIx (xs : Nat → ByteArray) (s : ByteArray) : Nat → Option Nat
  | 0 => none
  | k + 1 => if ((xs k).toList == s.toList) = true then some k else devIx xs s k
theorem name_eq {a b : ByteArray} : (a.toList == b.toList) = true ↔ a = b := by
  rw [ByteArray.toList_eq, ByteArray.toList_eq]
  constructor
  · intro h
    apply ByteArray.ext
    apply Array.ext'
    exact eq_of_beq h
  · rintro rfl
    simp
theorem devIx_some {xs : Nat → ByteArray} {s : ByteArray} {k : Nat} : ∀ n, devIx xs s n = some k → k < n ∧ xs k = s
  | 0, h => by cases h
  | n + 1, h => by
    unfold devIx at h
    split at h
    · rename_i he
      cases h
      exact ⟨by omega, name_eq.1 he⟩
    · have := devIx_some n h
      exact ⟨by omega, this.2⟩
theorem devIx_none {xs : Nat → ByteArray} {s : ByteArray} : ∀ n, devIx xs s n = none → ∀ k, k < n → xs k ≠ s
  | 0, _ => fun k hk => by omega
  | n + 1, h => by
    intro k hk
    unfold devIx at h
    split at h
    · cases h
    · rename_i he
      by_cases e : k = n
      · subst e
        exact fun e2 => he (name_eq.2 e2)
      · exact devIx_none n h k (by omega)
theorem devIx_has {xs : Nat → ByteArray} {s : ByteArray} : ∀ n, hasName xs s n = (devIx xs s n).isSome
  | 0 => rfl
  | n + 1 => by
    unfold hasName devIx
    rw [devIx_has n]
    split
    · rename_i he
      rw [he]
      simp
    · rename_i he
      rw [show ((xs n).toList == s.toList) = false by simpa using he]
      simp

/-- What the map of ports by names has. -/
theorem byM_at (dev : Nat → Dev) (pbs : Nat → Nat) (s : ByteArray) : ∀ n, byM dev pbs n (.string s.data.toList) = (devIx (fun k => (dev k).name) s n).map fun k => .int .i64 (pbs k : Int)
  | 0 => rfl
  | n + 1 => by
    have ih := byM_at dev pbs s n
    show putL (byM dev pbs n) _ _ _ = _
    unfold putL devIx
    by_cases e : ((dev n).name.toList == s.toList) = true
    · rw [if_pos e, if_pos (by rw [name_eq.1 e])]
      rfl
    · rw [if_neg e, if_neg, ih]
      intro h
      apply e
      rw [ByteArray.toList_eq, ByteArray.toList_eq]
      injection h with h
      rw [h]
      simp

/-- The instruction of a device. -/
def codeQ (r : Devs) (ps : Nat → PS) (dv : ByteArray) : Option (List UInt8) := (devIx r.name dv r.n).map fun k => (ps k).code
/-- The output of a register of a device. -/
def outQ (r : Devs) (ps : Nat → PS) (dv rg : ByteArray) : Option Lit := (devIx r.name dv r.n).bind fun k => (ps k).out rg.data.toList
/-- What is wrong with an input. -/
def setQ (r : Devs) (ps : Nat → PS) (dv rg bits : ByteArray) : Int :=
  match outQ r ps dv rg with
  | none => 8
  | some v => codeErr bits ((bs (strOf (some v))).size : Int)
/-- The ports, an input set. -/
def setP (r : Devs) (ps : Nat → PS) (dv rg bits : ByteArray) : Nat → PS :=
  match devIx r.name dv r.n with
  | none => ps
  | some k => updP ps k (putInp (ps k) rg.data.toList bits.data.toList)

/-- All lengths are right. -/
def LenAll (r : Devs) (st : Nat) (ps : Nat → PS) : Prop := ∀ k, k < r.n → LenS st (r.dev k) (ps k)

theorem outQ_str {r : Devs} {ps : Nat → PS} {st : Nat} (h : LenAll r st ps) (dv rg : ByteArray) : outQ r ps dv rg = none ∨ ∃ l, outQ r ps dv rg = some (.string l) := by
  unfold outQ
  cases hx : devIx r.name dv r.n with
  | none => exact .inl rfl
  | some k =>
    obtain ⟨hk, _⟩ := devIx_some _ hx
    show (ps k).out _ = none ∨ ∃ l, (ps k).out _ = _
    cases ho : (ps k).out rg.data.toList with
    | none => exact .inl rfl
    | some v =>
      obtain ⟨l, rfl⟩ := (h k hk).str _ _ ho
      exact .inr ⟨l, rfl⟩

section
variable {B N : Nat} {w : World} {rb gc gs mi mo : Nat} {da : Option Addr} {dcap st : Nat} {r : Devs} {ps : Nat → PS}

/-- What the reference's map of outputs has. -/
theorem RefAt.outQ (h : RefAt B N w rb gc gs mi mo da dcap st r ps) (dv rg : ByteArray) (hd : dv.size ≤ 1048576) (hr : rg.size ≤ 1048576) : ∃ M, LMap Tryz.prog 75 (plainElem Tryz.prog 9) w mo N M ∧ M (pairL dv.data.toList rg.data.toList) = outQ r ps dv rg := by
  obtain ⟨M, hM, h1, h2⟩ := h.outM
  refine ⟨M, hM, ?_⟩
  unfold Go.Proofs.YtkipkkaloiefpaaGreatDoor.outQ
  cases hx : devIx r.name dv r.n with
  | none => exact h2 dv rg hd hr fun k hk e => absurd e (devIx_none _ hx k hk)
  | some k =>
    obtain ⟨hk, rfl⟩ := devIx_some _ hx
    exact h1 k hk rg hr

/-- A register that is not a device's own has no output. -/
theorem RefAt.own (h : RefAt B N w rb gc gs mi mo da dcap st r ps) {k : Nat} (hk : k < r.n) (rg : ByteArray) (hr : rg.size ≤ 1048576) (hno : hasName (r.dev k).regs.name rg (r.dev k).regs.n = false) : (ps k).out rg.data.toList = none := by
  obtain ⟨M, hM, h1, h2⟩ := h.outM
  have hz := (h.devs.ok hk).name
  rw [← h1 k hk rg hr]
  refine h2 _ rg hz hr fun j hj e => ?_
  by_cases hjk : j = k
  · rw [hjk]
    exact hno
  · exact absurd e (h.names j k hj hk hjk)

/-- What the reference's map of inputs has. -/
theorem RefAt.inQ (h : RefAt B N w rb gc gs mi mo da dcap st r ps) (hL : LenAll r st ps) (dv rg : ByteArray) (hd : dv.size ≤ 1048576) (hr : rg.size ≤ 1048576) : ∃ M, LMap Tryz.prog 75 (plainElem Tryz.prog 9) w mi N M ∧
    ((Go.Proofs.YtkipkkaloiefpaaGreatDoor.outQ r ps dv rg = none ∧ M (pairL dv.data.toList rg.data.toList) = none) ∨
      ∃ k l l', k < r.n ∧ devIx r.name dv r.n = some k ∧ (r.dev k).name = dv ∧ hasName (r.dev k).regs.name rg (r.dev k).regs.n = true ∧ Go.Proofs.YtkipkkaloiefpaaGreatDoor.outQ r ps dv rg = some (.string l') ∧ (ps k).inp rg.data.toList = some (.string l) ∧ M (pairL dv.data.toList rg.data.toList) = some (.string l) ∧ l.length = l'.length) := by
  obtain ⟨M, hM, h1, h2⟩ := h.inM
  refine ⟨M, hM, ?_⟩
  unfold Go.Proofs.YtkipkkaloiefpaaGreatDoor.outQ
  cases hx : devIx r.name dv r.n with
  | none => exact .inl ⟨rfl, h2 dv rg hd hr fun k hk e => absurd e (devIx_none _ hx k hk)⟩
  | some k =>
    obtain ⟨hk, rfl⟩ := devIx_some _ hx
    cases ho : hasName (r.dev k).regs.name rg (r.dev k).regs.n with
    | false =>
      refine .inl ⟨h.own hk rg hr ho, h2 _ rg hd hr fun j hj e => ?_⟩
      by_cases hjk : j = k
      · rw [hjk]
        exact ho
      · exact absurd e (h.names j k hj hk hjk)
    | true =>
      obtain ⟨l, l', e1, e2, e3⟩ := (hL k hk).own rg ho
      exact .inr ⟨k, l, l', hk, rfl, rfl, ho, e2, e1, (h1 k hk rg ho).trans e1, e3⟩
end

/-- A clock of the model. -/
def clk (dev : Nat → Dev) (x : Nat × (Nat → PS)) (t c : UInt8) : Nat × (Nat → PS) := (nx x.1 t, stepS dev x.1 c x.2)
/-- A sequence of TMS, with TDI 0. -/
def fol (dev : Nat → Dev) (x : Nat × (Nat → PS)) (l : List UInt8) : Nat × (Nat → PS) := l.foldl (fun x t => clk dev x t 48) x
theorem fol_snoc (dev : Nat → Dev) (x : Nat × (Nat → PS)) (l : List UInt8) (t : UInt8) : fol dev x (l ++ [t]) = clk dev (fol dev x l) t 48 := by simp [fol]
theorem fol_state (dev : Nat → Dev) (l : List UInt8) : ∀ (x : Nat × (Nat → PS)), (fol dev x l).1 = nxs x.1 l := by
  induction l with
  | nil => intro x; rfl
  | cons t l ih => intro x; exact ih _
/-- Bits that are shifted, the last one with TMS 1. -/
def shTo (dev : Nat → Dev) (x : Nat × (Nat → PS)) (b : List UInt8) : Nat → Nat × (Nat → PS)
  | 0 => x
  | k + 1 => clk dev (shTo dev x b k) (if k + 1 = b.length then 49 else 48) (b.getD k 0)
theorem shTo_state (dev : Nat → Dev) (x : Nat × (Nat → PS)) (b : List UInt8) (hx : x.1 = 4 ∨ x.1 = 11) : ∀ k, k < b.length → (shTo dev x b k).1 = x.1
  | 0, _ => rfl
  | k + 1, hk => by
    have ih := shTo_state dev x b hx k (by omega)
    show nx (shTo dev x b k).1 (if k + 1 = b.length then 49 else 48) = _
    rw [ih, if_neg (by omega)]
    rcases hx with e | e <;> rw [e] <;> rfl
/-- What comes out. -/
def shOut (dev : Nat → Dev) (n : Nat) (x : Nat × (Nat → PS)) (b : List UInt8) (k : Nat) : UInt8 := carry (shTo dev x b k).2 (b.getD k 0) n
/-- The path to a state in which bits are shifted, and all that is shifted. -/
def toShift (dev : Nat → Dev) (x : Nat × (Nat → PS)) (s : Nat) : Nat × (Nat → PS) := fol dev x (pathOf x.1 s)
def shifted (dev : Nat → Dev) (x : Nat × (Nat → PS)) (s : Nat) (b : List UInt8) : Nat × (Nat → PS) := fol dev (shTo dev (toShift dev x s) b b.length) [49, 48]
def shiftOut (dev : Nat → Dev) (n : Nat) (x : Nat × (Nat → PS)) (s : Nat) (b : List UInt8) : List UInt8 := (List.range b.length).map (shOut dev n (toShift dev x s) b)
theorem toShift_state (dev : Nat → Dev) (x : Nat × (Nat → PS)) (s : Nat) (hx : x.1 = 0 ∨ x.1 = 1) (hs : s = 4 ∨ s = 11) : (toShift dev x s).1 = s := by
  unfold toShift
  rw [fol_state]
  rcases hx with e | e <;> rcases hs with rfl | rfl <;> rw [e] <;> decide +kernel
theorem LenAll.clk {r : Devs} {x : Nat × (Nat → PS)} (h : LenAll r x.1 x.2) (hg : ∀ k, k < r.n → Good (r.dev k) (x.2 k)) (hst : x.1 < 16) (t c : UInt8) (ht : bitB t = true) : LenAll r (clk r.dev x t c).1 (clk r.dev x t c).2 :=
  fun k hk => (h k hk).step (hg k hk) hst t c ht
end Go.Proofs.YtkipkkaloiefpaaGreatDoor
