/- The reference's RunFault. -/
import Derived.Test.YtkipkkaloiefpaaGreatDoorM1
import Derived.Test.YtkipkkaloiefpaaGreatDoorOr
import Derived.Test.YtkipkkaloiefpaaGreatDoorM5
import Derived.Test.YtkipkkaloiefpaaGreatDoorM3
import Derived.DeepKeys4
import Derived.DeepKeys3
import Derived.Test.YtkipkkaloiefpaaGreatDoorPort
namespace Go.Proofs.YtkipkkaloiefpaaGreatDoor
open Go.RowKit

def bitsErr (s : ByteArray) : Int := if s.data.toList.all bitB = true then 0 else 9
/-- What is wrong with the sequences of a run. -/
def runErr (tms tdi : ByteArray) : Int := if 20000 < tms.size ∨ 20000 < tdi.size then 2 else if ((tms.size : Int) == (tdi.size : Int)) = false then 3 else or2 (bitsErr tms) (bitsErr tdi)

end Go.Proofs.YtkipkkaloiefpaaGreatDoor
/- The program's Run. -/
namespace Go.Proofs.YtkipkkaloiefpaaGreatDoor
open Go.RowKit Go.Maps

/-- The state behind k clocks of a new chain. -/
def stAt (tms : List UInt8) (k : Nat) : Nat := nxs 0 (tms.take k)
/-- What the ports hold behind k clocks. -/
def psAt (dev : Nat → Dev) (tms tdi : List UInt8) : Nat → Nat → PS
  | 0 => fun k => newPS (dev k)
  | k + 1 => stepS dev (stAt tms k) (tdi.getD k 0) (psAt dev tms tdi k)
/-- What comes out at clock k. -/
def outAt (dev : Nat → Dev) (n : Nat) (tms tdi : List UInt8) (k : Nat) : UInt8 := outS n (stAt tms k) (tdi.getD k 0) (psAt dev tms tdi k)
/-- What comes out of a run. -/
def runOut (dev : Nat → Dev) (n : Nat) (tms tdi : List UInt8) : List UInt8 := (List.range tms.length).map (outAt dev n tms tdi)

theorem psAt_good {dev : Nat → Dev} {n : Nat} {tms tdi : List UInt8} (hs : ∀ k, k < n → Sure (dev k)) (hb : tdi.all bitB = true) : ∀ j, j ≤ tdi.length → ∀ k, k < n → Good (dev k) (psAt dev tms tdi j k)
  | 0, _ => fun k hk => newPS_good (dev k) (hs k hk).longs
  | j + 1, hj => by
    have hbit : bitB (tdi.getD j 0) = true := by
      have h1 : j < tdi.length := by omega
      have : tdi.getD j 0 = tdi[j] := by simp [List.getD, h1]
      rw [this]
      exact (List.all_eq_true.1 hb) _ (List.getElem_mem h1)
    exact Good.step (psAt_good hs hb j (by omega)) (fun k hk => (hs k hk).right) hbit _

theorem ChainAt.later {o o' : Nat → Nat} {n N : Nat} {w w' : World} {cb g cap mb : Nat} {pbs : Nat → Nat} {st : Nat} {dev : Nat → Dev} {ps : Nat → PS} (h : ChainAt o n N w cb g cap mb pbs st dev ps) (ho : ∀ b, b < w.heap.size → o' b = o b) (hB : Below w.heap.size w w') : ChainAt o' n N w' cb g cap mb pbs st dev ps := by
  obtain ⟨p1, p2, p3, p4, p5⟩ := h.own
  have l1 := h.cblt
  have l2 := h.glt
  have l3 := h.map2.lt
  have hc : ∀ j, w'.cell? ⟨cb, j, none⟩ = w.cell? ⟨cb, j, none⟩ := fun j => World.cell?_of_block (a := ⟨cb, j, none⟩) (hB.block cb l1)
  exact ⟨h.n_le, h.st_lt, (hc 0).trans h.c0, (World.frozen?_of_block (a := ⟨cb, 0, none⟩) (hB.block cb l1)).trans h.f0, (hc 1).trans h.c1, (hc 2).trans h.c2, fun j hj => (World.cell?_of_block (a := ⟨g, j, none⟩) (hB.block g l2)).trans (h.row j hj), h.map2.block (hB.block mb l3), ⟨(ho cb l1).trans p1, (ho g l2).trans p2, (ho mb l3).trans p3, p4, p5⟩, Nat.lt_of_lt_of_le l2 hB.size,
    fun k hk => (h.ports k hk).over' (fun b hb e => (ho b hb).trans e) (fun b hb _ => hB.block b hb)⟩

theorem runErr_ok {tms tdi : ByteArray} (h : runErr tms tdi = 0) : tms.size ≤ 20000 ∧ tdi.size = tms.size ∧ tms.data.toList.all bitB = true ∧ tdi.data.toList.all bitB = true := by
  unfold runErr at h
  split at h
  · cases h
  · rename_i h1
    split at h
    · cases h
    · rename_i h2
      have h3 : (tms.size : Int) = (tdi.size : Int) := by simpa using h2
      unfold or2 bitsErr at h
      cases hb1 : tms.data.toList.all bitB with
      | false => rw [hb1] at h; simp at h
      | true =>
        rw [hb1] at h
        cases hb2 : tdi.data.toList.all bitB with
        | false => rw [hb2] at h; simp at h
        | true => exact ⟨by omega, by omega, rfl, rfl⟩

/-- A run under way. -/
def RunI (B n : Nat) (w : World) (cb gg cp mb g : Nat) (pbs : Nat → Nat) (dev : Nat → Dev) (tms tdi : List UInt8) (k : Nat) (W : World) : Prop :=
  ∃ o, (∀ b, b < B → o b = n + 1) ∧ o g = n + 1 ∧ ChainAt o n (100 + k) W cb gg cp mb pbs (stAt tms k) dev (psAt dev tms tdi k) ∧ BytesOf W g tms.length (outAt dev n tms tdi) k ∧ Below B w W

theorem Touch.under {S : Nat → Prop} {w w1 w2 : World} {B : Nat} (h : Below B w w1) (hBs : B ≤ w1.heap.size) (hT : Touch S w1 w2) (hS : ∀ b, b < B → ¬ S b) : Below B w w2 :=
  ⟨hT.os.trans h.os, hT.tape.trans h.tape, hT.output.trans h.output, Nat.le_trans h.size hT.size, fun b hb => (hT.block b (by omega) (hS b hb)).trans (h.block b hb)⟩
theorem ChainAt.keep {o : Nat → Nat} {n N : Nat} {w w' : World} {cb g cap mb : Nat} {pbs : Nat → Nat} {st : Nat} {dev : Nat → Dev} {ps : Nat → PS} (h : ChainAt o n N w cb g cap mb pbs st dev ps) (hs : w.heap.size ≤ w'.heap.size) (hb : ∀ b, b < w.heap.size → o b ≤ n → w'.heap[b]? = w.heap[b]?) : ChainAt o n N w' cb g cap mb pbs st dev ps := by
  obtain ⟨p1, p2, p3, p4, p5⟩ := h.own
  have l1 := h.cblt
  have l2 := h.glt
  have l3 := h.map2.lt
  have b1 := hb cb l1 (by omega)
  have b2 := hb g l2 (by omega)
  have b3 := hb mb l3 (by omega)
  have hc : ∀ j, w'.cell? ⟨cb, j, none⟩ = w.cell? ⟨cb, j, none⟩ := fun j => World.cell?_of_block (a := ⟨cb, j, none⟩) b1
  exact ⟨h.n_le, h.st_lt, (hc 0).trans h.c0, (World.frozen?_of_block (a := ⟨cb, 0, none⟩) b1).trans h.f0, (hc 1).trans h.c1, (hc 2).trans h.c2, fun j hj => (World.cell?_of_block (a := ⟨g, j, none⟩) b2).trans (h.row j hj), h.map2.block b3, h.own, Nat.lt_of_lt_of_le l2 hs,
    fun k hk => (h.ports k hk).over' (fun _ _ e => e) (fun b hb' e => hb b hb' (by omega))⟩
theorem BytesOf.block {w w' : World} {g n : Nat} {f : Nat → UInt8} {k : Nat} (h : BytesOf w g n f k) (hb : w'.heap[g]? = w.heap[g]?) : BytesOf w' g n f k := by
  obtain ⟨h1, h2⟩ := h
  refine ⟨fun j hj => ⟨(World.frozen?_of_block (a := ⟨g, j, none⟩) hb).trans (h1 j hj).1, ?_⟩, fun j hj => (World.cell?_of_block (a := ⟨g, j, none⟩) hb).trans (h2 j hj)⟩
  obtain ⟨v, hv⟩ := (h1 j hj).2
  exact ⟨v, (World.cell?_of_block (a := ⟨g, j, none⟩) hb).trans hv⟩

/-- A run, its next clock done, what came out not yet laid. -/
def RunMid (B n : Nat) (w : World) (cb gg cp mb g : Nat) (pbs : Nat → Nat) (dev : Nat → Dev) (tms tdi : List UInt8) (k : Nat) (W : World) : Prop :=
  ∃ o, (∀ b, b < B → o b = n + 1) ∧ o g = n + 1 ∧ ChainAt o n (100 + (k + 1)) W cb gg cp mb pbs (stAt tms (k + 1)) dev (psAt dev tms tdi (k + 1)) ∧ BytesOf W g tms.length (outAt dev n tms tdi) k ∧ Below B w W ∧ B ≤ g
theorem RunMid.store {B n : Nat} {w : World} {cb gg cp mb g : Nat} {pbs : Nat → Nat} {dev : Nat → Dev} {tms tdi : List UInt8} {k : Nat} {W : World} (h : RunMid B n w cb gg cp mb g pbs dev tms tdi k W) (hk : k < tms.length) : RunI B n w cb gg cp mb g pbs dev tms tdi (k + 1) (W.setCell ⟨g, k, none⟩ (.int .u8 ((outAt dev n tms tdi k).toNat : Int))) := by
  obtain ⟨o, h1, h2, h3, h4, h5, h6⟩ := h
  exact ⟨o, h1, h2, h3.keep (by simp [World.setCell]) (fun b _ hb => Below.heap_setCell _ _ _ b (fun e => by rw [e] at hb; have : o g ≤ n := hb; omega)), h4.set hk rfl, h5.setCell (by show B ≤ g; exact h6) _⟩

theorem RunMid.row {B n : Nat} {w : World} {cb gg cp mb g : Nat} {pbs : Nat → Nat} {dev : Nat → Dev} {tms tdi : List UInt8} {k : Nat} {W : World} (h : RunMid B n w cb gg cp mb g pbs dev tms tdi k W) (hk : k < tms.length) : W.frozen? ⟨g, k, none⟩ = false ∧ ∃ v, W.cell? ⟨g, k, none⟩ = some v := by
  obtain ⟨o, h1, h2, h3, h4, h5, h6⟩ := h
  exact h4.1 k hk

theorem stAt_succ (tms : ByteArray) (k : Nat) (h : k < tms.size) : stAt tms.data.toList (k + 1) = nx (stAt tms.data.toList k) tms[k] := by
  unfold stAt
  rw [take_snoc _ _ h, nxs_snoc]
theorem getD_at (s : ByteArray) (k : Nat) (h : k < s.size) : s.data.toList.getD k 0 = s[k] := by
  have h2 : k < s.data.size := h
  rw [List.getD_eq_getElem?_getD, Array.getElem?_toList, Array.getElem?_eq_getElem h2]
  rfl

/-- A clock of a run. -/
theorem run_clock {n : Nat} {w W : World} {cb gg cp mb g : Nat} {pbs : Nat → Nat} {dev : Nat → Dev} {tms tdi : ByteArray} {k : Nat} (h : RunI w.heap.size n w cb gg cp mb g pbs dev tms.data.toList tdi.data.toList k W) (hsure : ∀ k, k < n → Sure (dev k)) (z1 : tms.size ≤ 20000) (z2 : tdi.size = tms.size) (b1 : tms.data.toList.all bitB = true) (b2 : tdi.data.toList.all bitB = true) (hT : Tab w) (hk : k < tms.size) (hk2 : k < tdi.size) (hg : w.heap.size ≤ g) :
    Calls Tryz.prog 30 #[.pointer (some ⟨cb, 0, none⟩), .int .u8 (tms[k].toNat : Int), .int .u8 (tdi[k].toNat : Int)] W fun e w' => e = .returned (.int .u8 ((outAt dev n tms.data.toList tdi.data.toList k).toNat : Int)) ∧ RunMid w.heap.size n w cb gg cp mb g pbs dev tms.data.toList tdi.data.toList k w' := by
  obtain ⟨o, h1, h2, h3, h4, h5⟩ := h
  have hTl := hT.lt
  have hgl : g < W.heap.size := by
    obtain ⟨v, hv⟩ := (h4.1 k (by simpa using hk)).2
    exact World.block_lt_of_cell? W ⟨g, k, none⟩ hv
  have hl : tdi.data.toList.length = tdi.size := by simp
  refine (chainStep_any o n (100 + k) W cb gg cp mb pbs _ dev _ h3 (psAt_good hsure b2 k (by omega)) (fun k hk => (hsure k hk).right) (by omega) tms[k] tdi[k] (bit_at tms k hk b1) (hT.below h5 hTl) (by rw [h1 _ hTl]; omega)).mono ?_
  rintro e w' ⟨rfl, o', g1, g2, g3⟩
  have e1 := getD_at tdi k hk2
  have hs : ∀ b, b < w.heap.size → ¬ o b ≤ n := fun b hb => by rw [h1 b hb]; omega
  refine ⟨?_, o', fun b hb => (g1 b (Nat.lt_of_lt_of_le hb h5.size)).trans (h1 b hb), (g1 g hgl).trans h2, ?_, h4.block (g3.block g hgl (by rw [h2]; omega)), Touch.under h5 h5.size g3 hs, hg⟩
  · unfold outAt
    rw [e1]
  · rw [stAt_succ tms k hk]
    show ChainAt o' n (100 + (k + 1)) w' cb gg cp mb pbs _ dev (stepS dev (stAt tms.data.toList k) (tdi.data.toList.getD k 0) (psAt dev tms.data.toList tdi.data.toList k))
    rw [e1]
    exact g2

end Go.Proofs.YtkipkkaloiefpaaGreatDoor
/- Maps whose keys are pairs of strings. -/
namespace Go.Proofs.YtkipkkaloiefpaaGreatDoor
open Go.RowKit Go.Maps

theorem Tryz.laidOutP : laidOutB Tryz.prog = true := by kernel_rfl
theorem Tryz.rowPair : 75 < Tryz.prog.types.size := of_decide_eq_true (by kernel_rfl)
theorem pair_law : Keyed Tryz.prog 75 := Keyed.of_law (deep_law_laid Tryz.laidOutP (m := 3) (by omega) Tryz.rowPair (by kernel_rfl) (by kernel_rfl))

/-- How a pair of strings reads as a key. -/
def pairL (a b : List UInt8) : Lit := .string (keyBytes [.string a, .string b])
theorem Tryz.typesSize : Tryz.prog.types.size = Tryz.prog.types.size - 3 + 3 := by kernel_rfl
theorem Tryz.keyPair : Tryz.prog.keyType 75 = true := by kernel_rfl
theorem Tryz.cellsStr : Tryz.prog.cellsOf 9 = 1 := by kernel_rfl
theorem Tryz.cellsPair : Tryz.prog.cellsOf 75 = 2 := by kernel_rfl
theorem pair_key (a b : ByteArray) (ha : a.size ≤ 1048576) (hb : b.size ≤ 1048576) : keyOf Tryz.prog 75 (.agg #[.string a, .string b]) = some (pairL a.data.toList b.data.toList) := by
  have h1 : a.size ≤ maxLen := by unfold maxLen; omega
  have h2 : b.size ≤ maxLen := by unfold maxLen; omega
  unfold keyOf
  rw [Tryz.underlying75]
  simp only [Tryz.keyPair, Bool.true_and]
  have hf : (Value.agg #[.string a, .string b]).formed Tryz.prog 75 = true := by
    simp [Value.formed, Tryz.underlying75, Tryz.cellsPair]
  rw [if_pos hf]
  obtain ⟨m, hm⟩ : ∃ m, Tryz.prog.types.size = m + 3 := ⟨_, Tryz.typesSize⟩
  rw [hm]
  have e : ∀ x : ByteArray, x.size ≤ maxLen → Tryz.prog.keyLits (m + 3) 9 [.string x] = some [.string x.data.toList] := fun x hx => by
    unfold Program.keyLits
    rw [Tryz.underlying9]
    simp only [if_pos hx]
  have ea := e a h1
  have eb := e b h2
  have e3 : Tryz.prog.keyLits (m + 3 + 1) 75 [.string a, .string b] = some [.string a.data.toList, .string b.data.toList] := by
    unfold Program.keyLits
    rw [Tryz.underlying75]
    simp only [Tryz.cellsPair, Tryz.cellsStr]
    show ((if _ then _ else _) : Option (List Lit)) = _
    rw [if_pos (by rfl)]
    show Option.map List.flatten ([0, 1].mapM fun i => Tryz.prog.keyLits (m + 3) 9 ((([.string a, .string b] : List Value).drop (i * 1)).take 1)) = _
    simp [ea, eb]
  have hcl : (Value.agg #[.string a, .string b]).cells.toList = [.string a, .string b] := rfl
  rw [hcl, e3]
  rfl
theorem pair_inj {a b c d : ByteArray} (ha : a.size ≤ 1048576) (hb : b.size ≤ 1048576) (hc : c.size ≤ 1048576) (hd : d.size ≤ 1048576) (h : pairL a.data.toList b.data.toList = pairL c.data.toList d.data.toList) : a = c ∧ b = d := by
  have h1 := pair_key a b ha hb
  have h2 := pair_key c d hc hd
  rw [← h] at h2
  have := pair_law.inj h1 h2
  simpa using this
end Go.Proofs.YtkipkkaloiefpaaGreatDoor
/- The reference's SelectedOf. -/
namespace Go.Proofs.YtkipkkaloiefpaaGreatDoor
open Go.RowKit Go.Maps

/-- The register's name when k instructions have been looked at. -/
def selN (d : Dev) (c : ByteArray) : Nat → ByteArray
  | 0 => if (c.toList == []) = true ∧ (d.id == 0) = false then idcodeS else bypassS
  | k + 1 => if ((d.ins.code k).toList == c.toList) = true then d.ins.reg k else selN d c k

theorem selN_sel (d : Dev) (c : ByteArray) (hs : Sure d) : (selN d c d.ins.n).data.toList = selOf d c.data.toList := by
  by_cases h0 : c.data.toList = []
  · have hnone : ∀ k, k ≤ d.ins.n → selN d c k = selN d c 0 := by
      intro k
      induction k with
      | zero => intro _; rfl
      | succ k ih =>
        intro hk
        show (if _ then _ else _) = _
        rw [if_neg ?_, ih (by omega)]
        intro e
        have h1 := hs.codes k (by omega)
        have h2 := hs.right.long2
        have h3 : (d.ins.code k).data.toList = [] := by
          rw [ByteArray.toList_eq, ByteArray.toList_eq, h0] at e
          simpa using e
        have h4 : (d.ins.code k).data.toList.length = (d.ins.code k).size := by simp
        rw [h3] at h4
        have h5 : (d.ins.code k).size = 0 := h4.symm
        omega
    rw [hnone _ (Nat.le_refl _)]
    unfold selOf firstReg
    rw [if_pos h0]
    show (if _ then _ else _ : ByteArray).data.toList = _
    have e1 : (c.toList == []) = true := by rw [ByteArray.toList_eq, h0]; rfl
    cases hi : (d.id == 0) with
    | true => rw [if_neg (by simp), if_pos rfl]
    | false => rw [if_pos ⟨e1, rfl⟩, if_neg (by decide)]
  · have hall : ∀ k, (selN d c k).data.toList = (match codesM d.ins k c.data.toList with | some (.string l) => l | _ => bypassS.data.toList) := by
      intro k
      induction k with
      | zero =>
        show (if _ then _ else _ : ByteArray).data.toList = _
        rw [if_neg ?_]
        · rfl
        · intro e
          have := e.1
          rw [ByteArray.toList_eq] at this
          exact h0 (by simpa using this)
      | succ k ih =>
        show (if _ then _ else _ : ByteArray).data.toList = (match putS (codesM d.ins k) (d.ins.code k).data.toList (.string (d.ins.reg k).data.toList) c.data.toList with | some (.string l) => l | _ => bypassS.data.toList)
        unfold putS
        by_cases e : c.data.toList = (d.ins.code k).data.toList
        · rw [if_pos (by rw [ByteArray.toList_eq, ByteArray.toList_eq, e]; simp), if_pos e]
        · rw [if_neg ?_, if_neg e, ih]
          intro e2
          rw [ByteArray.toList_eq, ByteArray.toList_eq] at e2
          exact e (by simpa using (beq_iff_eq.1 e2).symm)
    rw [hall]
    unfold selOf regOf
    rw [if_neg h0]
    rfl

/-- The length of a register, as the reference finds it among the first k (looked at from the first one on). -/
def refLong (d : Dev) (s : ByteArray) : Nat → Int
  | 0 => if (s.toList == idcodeS.toList) = true then 32 else 1
  | k + 1 => if hasName d.regs.name s k = true then refLong d s k else if ((d.regs.name k).toList == s.toList) = true then d.regs.long k else refLong d s k

theorem refLong_hit (d : Dev) (s : ByteArray) {k : Nat} (h0 : hasName d.regs.name s k = false) (h : ((d.regs.name k).toList == s.toList) = true) : ∀ n, k < n → refLong d s n = d.regs.long k := by
  intro n
  induction n with
  | zero => intro h; omega
  | succ n ih =>
    intro hn
    show (if _ then _ else _) = _
    by_cases e : k = n
    · subst e
      rw [if_neg (by rw [h0]; decide), if_pos h]
    · rw [if_pos (hasName_hit h n (by omega)), ih (by omega)]
theorem refLong_miss (d : Dev) (s : ByteArray) : ∀ n, hasName d.regs.name s n = false → refLong d s n = if (s.toList == idcodeS.toList) = true then 32 else 1 := by
  intro n
  induction n with
  | zero => intro _; rfl
  | succ n ih =>
    intro h
    have h2 : (hasName d.regs.name s n || ((d.regs.name n).toList == s.toList)) = false := h
    rw [Bool.or_eq_false_iff] at h2
    show (if _ then _ else _) = _
    rw [if_neg (by rw [h2.1]; decide), if_neg (by rw [h2.2]; decide), ih h2.1]

theorem v1 {W : World} {b : Nat} {u : Value} (s : Value) (h : W.cell? ⟨b, 1, none⟩ = some u) : (W.setCell ⟨b, 0, none⟩ s).cell? ⟨b, 1, none⟩ = some u := by
  rw [World.cell?_setCell_other _ _ _ _ (by simp)]
  exact h
theorem ga {W : World} {b : Nat} {u : Value} (o : Obj) (j : Nat) (h : W.cell? ⟨b, j, none⟩ = some u) : (W.alloc o).cell? ⟨b, j, none⟩ = some u := by
  rw [World.cell?_alloc_lt _ _ _ (World.block_lt_of_cell? W ⟨b, j, none⟩ h)]
  exact h

set_option maxRecDepth 100000 in
theorem selectedOf_any (d : Dev) (p : Plc) (c : ByteArray) (w : World) (h : DevOk w.heap.size w d p) :
    Calls Tryz.prog 75 #[devV d p, .string c] w fun e w' => e = .returned (.agg #[.string (selN d c d.ins.n), .int .i64 (refLong d (selN d c d.ins.n) d.regs.n)]) ∧ Below w.heap.size w w' := by
  obtain ⟨ra, rc, ia, ic⟩ := p
  have hI : InsAt w.heap.size w ia d.ins := h.ins
  have hR : RegsAt w.heap.size w ra d.regs := h.regs
  clear h
  go_enter Tryz.func75, Tryz.ntmps75
  go_upto_region 2 with (fail)
  obtain ⟨W0, hW0⟩ : ∃ W0 : World, W0 = (w.alloc (.cells #[.string d.name, .int .i64 d.long, .int .i64 d.id, .slice ra d.regs.n rc, .slice ia d.ins.n ic] 48)).alloc (.cells #[.string ⟨#[]⟩, .int .i64 0] 50) := ⟨_, rfl⟩
  rw [← hW0]
  have hs1 : ∀ o : Obj, (w.alloc o).heap.size = w.heap.size + 1 := fun o => by simp
  have q2 : W0.cell? ⟨w.heap.size, 2, none⟩ = some (.int .i64 d.id) := by
    rw [hW0, World.cell?_alloc_lt _ _ _ (by simp)]
    exact cell_fresh _ _ _ rfl
  have q3 : W0.cell? ⟨w.heap.size, 3, none⟩ = some (.slice ra d.regs.n rc) := by
    rw [hW0, World.cell?_alloc_lt _ _ _ (by simp)]
    exact cell_fresh _ _ _ rfl
  have q4 : W0.cell? ⟨w.heap.size, 4, none⟩ = some (.slice ia d.ins.n ic) := by
    rw [hW0, World.cell?_alloc_lt _ _ _ (by simp)]
    exact cell_fresh _ _ _ rfl
  have p0 : W0.cell? ⟨w.heap.size + 1, 0, none⟩ = some (.string ⟨#[]⟩) := by
    rw [hW0, ← hs1]
    exact cell_fresh _ _ _ rfl
  have p1 : W0.cell? ⟨w.heap.size + 1, 1, none⟩ = some (.int .i64 0) := by
    rw [hW0, ← hs1]
    exact cell_fresh _ _ _ rfl
  have f0 : W0.frozen? ⟨w.heap.size + 1, 0, none⟩ = false := by
    rw [hW0, ← hs1]
    exact frozen_fresh _ _ _ _
  have f1 : W0.frozen? ⟨w.heap.size + 1, 1, none⟩ = false := by
    rw [hW0, ← hs1]
    exact frozen_fresh _ _ _ _
  have hB0 : Below w.heap.size w W0 := by
    rw [hW0]
    exact ((Below.refl _ w).alloc (Nat.le_refl _) _).alloc (by simp) _
  have hsz0 : W0.heap.size = w.heap.size + 2 := by rw [hW0]; simp
  clear hW0 hs1
  go_cut [16] (fun v wx => v = .bool ((c.toList == []) && !(d.id == 0)) ∧ W0 = wx)
  case first =>
    by_cases h0 : c.toList = []
    · have e1 : c.toList.isEmpty = true := by rw [h0]; rfl
      have e2 : (c.toList == []) = true := by rw [h0]; rfl
      go_wp2_with fail
      go_meet
      exact ⟨by simp [h0, bne], rfl⟩
    · have e1 : c.toList.isEmpty = false := by
        cases h : c.toList with
        | nil => exact absurd h h0
        | cons => rfl
      have e2 : (c.toList == []) = false := by simpa using h0
      go_wp2_with fail
      go_meet
      exact ⟨by rw [e2]; rfl, rfl⟩
  case rest =>
    obtain ⟨rfl, rfl⟩ := hcut
    have e0 : selN d c 0 = if ((c.toList == []) && !(d.id == 0)) = true then idcodeS else bypassS := by
      show (if _ then _ else _) = _
      cases (c.toList == []) <;> cases (d.id == 0) <;> rfl
    go_upto_if 16 with (fail)
    go_cut [5] (fun v wx => v = .string (selN d c 0) ∧ W0 = wx)
    case first =>
      generalize ((c.toList == []) && !(d.id == 0)) = bo at e0 ⊢
      have E0 := Lib.hid e0
      clear e0
      cases bo with
      | true =>
        go_wp2_with fail
        go_meet
        exact ⟨by rw [E0.out]; rfl, rfl⟩
      | false =>
        go_wp2_with fail
        go_meet
        exact ⟨by rw [E0.out]; rfl, rfl⟩
    case rest =>
      obtain ⟨rfl, rfl⟩ := hcut
      clear e0
      generalize ((c.toList == []) && !(d.id == 0)) = bo
      go_wp2_with fail
      have hin := hI.n_le
      have hrn := hR.n_le
      go_loopw [5, 20] (fun nm i wr => ∃ k : Nat, k ≤ d.ins.n ∧ i = .int .i64 (k : Int) ∧ nm = .string (selN d c k) ∧ Below (w.heap.size + 2) W0 wr) (fun _ i _ => d.ins.n - (intOf i).toNat)
      case atStart => exact ⟨0, by omega, rfl, rfl, (Below.refl W0.heap.size W0).mono (by omega)⟩
      case round =>
        obtain ⟨k, hk, rfl, rfl, hB⟩ := hrel
        by_cases hlt : k < d.ins.n
        · obtain ⟨rb, ro, rfl, hrb, hcells⟩ := (hI.below (hB0.trans (hB.mono (by omega))) (Nat.le_refl _)).cells (by omega)
          obtain ⟨hc1, hc2, hz1, hz2⟩ := hcells k hlt
          have hBa := fun o => hB.alloc (by have := hB.size; omega) o
          clear hcells hI hR p0 p1 f0 f1 q2 q3 q4
          cases he : ((d.ins.code k).toList == c.toList) with
          | true =>
            have hs := Lib.hid (show selN d c (k + 1) = d.ins.reg k from if_pos he)
            go_wp2_with fail
            go_roundw
            case rel => exact ⟨k + 1, by omega, by go_num, by rw [hs.out], hBa _⟩
            case measure => simp [intOf]; omega
          | false =>
            have hs := Lib.hid (show selN d c (k + 1) = selN d c k from if_neg (by rw [he]; decide))
            go_wp2_with fail
            go_roundw
            case rel => exact ⟨k + 1, by omega, by go_num, by rw [hs.out], hBa _⟩
            case measure => simp [intOf]; omega
        · obtain rfl : k = d.ins.n := by omega
          have q3' := (hB.cell (p := ⟨w.heap.size, 3, none⟩) (by show w.heap.size < _; omega)).trans q3
          obtain ⟨nm, hnm⟩ : ∃ nm, nm = selN d c d.ins.n := ⟨_, rfl⟩
          rw [← hnm]
          have HN := Lib.hid hnm
          clear hI q2 q3 q4 hnm
          have hB2 := hB
          clear hB
          go_wp2_with fail
          go_loopw [34] (fun i wr => ∃ k : Nat, k ≤ d.regs.n ∧ i = .int .i64 (k : Int) ∧ hasName d.regs.name nm k = false ∧ Below (w.heap.size + 2) W0 wr) (fun i _ => d.regs.n - (intOf i).toNat)
          case atStart => exact ⟨0, by omega, rfl, rfl, hB2⟩
          case round =>
            clear hB2 q3'
            obtain ⟨k, hk, rfl, hno, hB⟩ := hrel
            have g0 := (hB.cell (p := ⟨w.heap.size + 1, 0, none⟩) (by show w.heap.size + 1 < _; omega)).trans p0
            have g1 := (hB.cell (p := ⟨w.heap.size + 1, 1, none⟩) (by show w.heap.size + 1 < _; omega)).trans p1
            have gf0 := (hB.frozen (p := ⟨w.heap.size + 1, 0, none⟩) (by show w.heap.size + 1 < _; omega)).trans f0
            have gf1 := (hB.frozen (p := ⟨w.heap.size + 1, 1, none⟩) (by show w.heap.size + 1 < _; omega)).trans f1
            have hwl : w.heap.size + 1 < wr.heap.size := by have := hB.size; omega
            by_cases hlt : k < d.regs.n
            · obtain ⟨rb, ro, rfl, hrb, hcells⟩ := (hR.below (hB0.trans (hB.mono (by omega))) (Nat.le_refl _)).cells (by omega)
              obtain ⟨hc1, hc2, hz1⟩ := hcells k hlt
              have hBa := fun o => hB.alloc (by have := hB.size; omega) o
              clear hcells hR p0 p1 f0 f1
              cases he : ((d.regs.name k).toList == nm.toList) with
              | true =>
                have hl := Lib.hid (refLong_hit d nm hno he d.regs.n hlt)
                have hname : d.regs.name k = nm := by
                  have h5 : (d.regs.name k).toList = nm.toList := by simpa using he
                  apply ByteArray.ext
                  apply Array.ext'
                  rw [← ByteArray.toList_eq, ← ByteArray.toList_eq]
                  exact h5
                have HNm := Lib.hid hname
                clear hno hname
                go_wp2_with fail
                clear hlt
                obtain ⟨Wf, hWf⟩ : ∃ Wf : World, Wf = ((wr.setCell ⟨w.heap.size + 1, 0, none⟩ (.string (d.regs.name k))).setCell ⟨w.heap.size + 1, 1, none⟩ (.int .i64 (d.regs.long k))).alloc (.cells #[.string (d.regs.name k), .int .i64 (d.regs.long k)] 50) := ⟨_, rfl⟩
                rw [← hWf]
                have k0 : Wf.cell? ⟨w.heap.size + 1, 0, none⟩ = some (.string (d.regs.name k)) := by
                  rw [hWf]
                  refine ga _ 0 ?_
                  rw [World.cell?_setCell_other _ _ _ _ (by simp)]
                  exact World.cell?_setCell_same _ _ _ g0
                have k1 : Wf.cell? ⟨w.heap.size + 1, 1, none⟩ = some (.int .i64 (d.regs.long k)) := by
                  rw [hWf]
                  refine ga _ 1 ?_
                  exact World.cell?_setCell_same _ _ _ (v1 _ g1)
                have hBW : Below w.heap.size w Wf := by
                  rw [hWf]
                  have h5 := ((hB0.trans (hB.mono (by omega))).setCell (p := ⟨w.heap.size + 1, 0, none⟩) (by show w.heap.size ≤ w.heap.size + 1; omega) (.string (d.regs.name k))).setCell (p := ⟨w.heap.size + 1, 1, none⟩) (by show w.heap.size ≤ w.heap.size + 1; omega) (.int .i64 (d.regs.long k))
                  exact h5.alloc h5.size _
                clear hWf
                refine bodyPost_ret (v := .agg #[.string (d.regs.name k), .int .i64 (d.regs.long k)]) (by simp [results, Tryz.results75, go_sem, k0, k1]) rfl ⟨?_, hBW⟩
                rw [← HN.out, hl.out]
                rw [HNm.out]
              | false =>
                have hh := Lib.hid (hasName_miss hno he)
                clear hno
                go_wp2_with fail
                go_roundw
                case rel => exact ⟨k + 1, by omega, by go_num, hh.out, hBa _⟩
                case measure => simp [intOf]; omega
            · obtain rfl : k = d.regs.n := by omega
              have hl' := refLong_miss d nm d.regs.n hno
              have hBf := hB0.trans (hB.mono (by omega))
              clear hno hR
              have e5 : idcodeS.toList = [105, 100, 99, 111, 100, 101] := by rw [ByteArray.toList_eq]
              rw [e5] at hl'
              clear e5
              cases hi : (nm.toList == [105, 100, 99, 111, 100, 101]) with
              | true =>
                have hl := Lib.hid (hl'.trans (if_pos hi))
                clear hl'
                go_wp2_with fail
                obtain ⟨Wf, hWf⟩ : ∃ Wf : World, Wf = (wr.setCell ⟨w.heap.size + 1, 0, none⟩ (.string nm)).setCell ⟨w.heap.size + 1, 1, none⟩ (.int .i64 32) := ⟨_, rfl⟩
                rw [← hWf]
                have k0 : Wf.cell? ⟨w.heap.size + 1, 0, none⟩ = some (.string nm) := by
                  rw [hWf, World.cell?_setCell_other _ _ _ _ (by simp)]
                  exact World.cell?_setCell_same _ _ _ g0
                have k1 : Wf.cell? ⟨w.heap.size + 1, 1, none⟩ = some (.int .i64 32) := by
                  rw [hWf]
                  exact World.cell?_setCell_same _ _ _ (v1 _ g1)
                have hBW : Below w.heap.size w Wf := by
                  rw [hWf]
                  exact (hBf.setCell (by show w.heap.size ≤ w.heap.size + 1; omega) _).setCell (by show w.heap.size ≤ w.heap.size + 1; omega) _
                clear hWf
                refine bodyPost_ret (v := .agg #[.string nm, .int .i64 32]) (by simp [results, Tryz.results75, go_sem, k0, k1]) rfl ⟨?_, hBW⟩
                rw [← HN.out, hl.out]
              | false =>
                have hl := Lib.hid (hl'.trans (if_neg (by rw [hi]; decide)))
                clear hl'
                go_wp2_with fail
                obtain ⟨Wf, hWf⟩ : ∃ Wf : World, Wf = (wr.setCell ⟨w.heap.size + 1, 0, none⟩ (.string nm)).setCell ⟨w.heap.size + 1, 1, none⟩ (.int .i64 1) := ⟨_, rfl⟩
                rw [← hWf]
                have k0 : Wf.cell? ⟨w.heap.size + 1, 0, none⟩ = some (.string nm) := by
                  rw [hWf, World.cell?_setCell_other _ _ _ _ (by simp)]
                  exact World.cell?_setCell_same _ _ _ g0
                have k1 : Wf.cell? ⟨w.heap.size + 1, 1, none⟩ = some (.int .i64 1) := by
                  rw [hWf]
                  exact World.cell?_setCell_same _ _ _ (v1 _ g1)
                have hBW : Below w.heap.size w Wf := by
                  rw [hWf]
                  exact (hBf.setCell (by show w.heap.size ≤ w.heap.size + 1; omega) _).setCell (by show w.heap.size ≤ w.heap.size + 1; omega) _
                clear hWf
                refine bodyPost_ret (v := .agg #[.string nm, .int .i64 1]) (by simp [results, Tryz.results75, go_sem, k0, k1]) rfl ⟨?_, hBW⟩
                rw [← HN.out, hl.out]
end Go.Proofs.YtkipkkaloiefpaaGreatDoor
