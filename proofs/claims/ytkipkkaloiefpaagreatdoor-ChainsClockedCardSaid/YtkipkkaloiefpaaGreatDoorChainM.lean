/- What a chain of devices does, clock by clock: a function of what its ports hold. -/
import Derived.Test.YtkipkkaloiefpaaGreatDoorCodes
namespace Go.Proofs.YtkipkkaloiefpaaGreatDoor
open Go.RowKit Go.Maps

/-- What the port of a device holds: its instruction (empty after a reset), its shift register, the inputs and the outputs of its registers. -/
structure PS where
  code : List UInt8
  sh : List UInt8
  inp : List UInt8 → Option Lit
  out : List UInt8 → Option Lit

/-- The register that is selected after a reset. -/
def firstReg (d : Dev) : List UInt8 := if (d.id == 0) = true then bypassS.data.toList else idcodeS.data.toList
/-- The register that is selected. -/
def selOf (d : Dev) (code : List UInt8) : List UInt8 := if code = [] then firstReg d else regOf d.ins code
def strOf (o : Option Lit) : List UInt8 :=
  match o with
  | some (.string l) => l
  | _ => []
/-- What the instruction register captures. -/
def capCode (d : Dev) : List UInt8 := 49 :: List.replicate (d.long.toNat - 1) 48

/-- What a port does in a state in which nothing is shifted. -/
def actS (st : Nat) (d : Dev) (p : PS) : PS :=
  if st = 0 then { p with code := [] }
  else if st = 3 then { p with sh := strOf (p.inp (selOf d p.code)) }
  else if st = 8 then (if (p.out (selOf d p.code)).isSome = true then { p with out := putS p.out (selOf d p.code) (.string p.sh) } else p)
  else if st = 10 then { p with sh := capCode d }
  else if st = 15 then { p with code := p.sh }
  else p
/-- A bit is shifted in. -/
def shiftS (p : PS) (c : UInt8) : PS := { p with sh := p.sh.tail ++ [c] }
/-- Whether bits are shifted in a state. -/
def shifts (st : Nat) : Bool := st == 4 || st == 11
/-- The bit that comes to the device with number k. -/
def carry (ps : Nat → PS) (c : UInt8) : Nat → UInt8
  | 0 => c
  | k + 1 => (ps k).sh.headD 48
/-- A clock, for all ports. -/
def stepS (dev : Nat → Dev) (st : Nat) (c : UInt8) (ps : Nat → PS) : Nat → PS := fun k => if shifts st = true then shiftS (ps k) (carry ps c k) else actS st (dev k) (ps k)
/-- What comes out of n devices at a clock. -/
def outS (n st : Nat) (c : UInt8) (ps : Nat → PS) : UInt8 := if shifts st = true then carry ps c n else 122

/-- What can be told of a port that is right. -/
structure Good (d : Dev) (p : PS) : Prop where
  sh0 : p.sh ≠ []
  shB : p.sh.all bitB = true
  shL : p.sh.length ≤ 1000
  codeL : p.code.length ≤ 1000
  inpS : ∀ s, knownB d s = true → ∃ l, p.inp s.data.toList = some (.string l) ∧ l ≠ [] ∧ l.all bitB = true ∧ l.length ≤ 1000

/-- What is asked of a device. -/
structure Right (d : Dev) : Prop where
  long2 : 2 ≤ d.long
  long32 : d.long ≤ 32
  insK : ∀ k, k < d.ins.n → knownB d (d.ins.reg k) = true
  insZ : ∀ k, k < d.ins.n → (d.ins.reg k).size ≤ 1048576

theorem knownB_bypass (d : Dev) : knownB d bypassS = true := by
  unfold knownB
  simp
theorem knownB_idcode (d : Dev) (h : (d.id == 0) = false) : knownB d idcodeS = true := by
  unfold knownB
  rw [h]
  simp

theorem bytes_of (l : List UInt8) : ((⟨l.toArray⟩ : ByteArray)).data.toList = l := by simp

theorem codesM_known (d : Dev) (hd : Right d) (c : List UInt8) : ∀ k, k ≤ d.ins.n → codesM d.ins k c = none ∨ ∃ s : ByteArray, codesM d.ins k c = some (.string s.data.toList) ∧ knownB d s = true ∧ s.size ≤ 1048576 := by
  intro k
  induction k with
  | zero => intro _; exact .inl rfl
  | succ k ih =>
    intro hk
    show putS _ _ _ c = none ∨ ∃ s : ByteArray, putS _ _ _ c = some (.string s.data.toList) ∧ _
    unfold putS
    by_cases e : c = (d.ins.code k).data.toList
    · rw [if_pos e]
      exact .inr ⟨d.ins.reg k, rfl, hd.insK k (by omega), hd.insZ k (by omega)⟩
    · rw [if_neg e]
      exact ih (by omega)

theorem selOf_known (d : Dev) (hd : Right d) (c : List UInt8) : ∃ s : ByteArray, selOf d c = s.data.toList ∧ knownB d s = true ∧ s.size ≤ 1048576 := by
  unfold selOf
  by_cases h : c = []
  · rw [if_pos h]
    unfold firstReg
    cases hi : (d.id == 0) with
    | true => exact ⟨bypassS, if_pos rfl, knownB_bypass d, by decide⟩
    | false => exact ⟨idcodeS, if_neg (by decide), knownB_idcode d hi, by decide⟩
  · rw [if_neg h]
    unfold regOf
    rcases codesM_known d hd c d.ins.n (Nat.le_refl _) with hn | ⟨s, hn, hs⟩
    · rw [hn]
      exact ⟨bypassS, rfl, knownB_bypass d, by decide⟩
    · rw [hn]
      exact ⟨s, rfl, hs⟩

theorem Good.act {d : Dev} {p : PS} (h : Good d p) (hd : Right d) (st : Nat) : Good d (actS st d p) := by
  unfold actS
  split
  · exact ⟨h.sh0, h.shB, h.shL, by simp, h.inpS⟩
  split
  · obtain ⟨s, hs, hk, _⟩ := selOf_known d hd p.code
    obtain ⟨l, hl, h1, h2, h3⟩ := h.inpS s hk
    have e : strOf (p.inp (selOf d p.code)) = l := by rw [hs, hl]; rfl
    refine ⟨?_, ?_, ?_, h.codeL, h.inpS⟩
    · show strOf _ ≠ []
      rw [e]; exact h1
    · show (strOf _).all bitB = true
      rw [e]; exact h2
    · show (strOf _).length ≤ 1000
      rw [e]; exact h3
  split
  · split
    · exact ⟨h.sh0, h.shB, h.shL, h.codeL, h.inpS⟩
    · exact h
  split
  · have h2 := hd.long2
    have h3 := hd.long32
    refine ⟨by simp [capCode], ?_, ?_, h.codeL, h.inpS⟩
    · show (capCode d).all bitB = true
      unfold capCode
      rw [List.all_cons]
      have : (List.replicate (d.long.toNat - 1) (48 : UInt8)).all bitB = true := by
        rw [List.all_eq_true]
        intro x hx
        rw [List.eq_of_mem_replicate hx]
        rfl
      rw [this]
      rfl
    · show (capCode d).length ≤ 1000
      simp [capCode]
      omega
  split
  · exact ⟨h.sh0, h.shB, h.shL, h.shL, h.inpS⟩
  · exact h

theorem Good.shift {d : Dev} {p : PS} (h : Good d p) {c : UInt8} (hc : bitB c = true) : Good d (shiftS p c) := by
  obtain ⟨h0, hB, hL, hC, hI⟩ := h
  refine ⟨by simp [shiftS], ?_, ?_, hC, hI⟩
  · show (p.sh.tail ++ [c]).all bitB = true
    rw [List.all_append]
    simp only [List.all_eq_true, Bool.and_eq_true]
    exact ⟨fun x hx => (List.all_eq_true.1 hB) x (List.mem_of_mem_tail hx), fun x hx => by simp at hx; rw [hx]; exact hc⟩
  · show (p.sh.tail ++ [c]).length ≤ 1000
    have : p.sh.length ≠ 0 := fun e => h0 (List.length_eq_zero_iff.1 e)
    simp
    omega

theorem Good.head {d : Dev} {p : PS} (h : Good d p) : bitB (p.sh.headD 48) = true := by
  have h0 := h.sh0
  have hB := h.shB
  cases hs : p.sh with
  | nil => exact absurd hs h0
  | cons x l =>
    rw [hs, List.all_cons, Bool.and_eq_true] at hB
    exact hB.1
theorem carry_bit {dev : Nat → Dev} {ps : Nat → PS} {n : Nat} (h : ∀ k, k < n → Good (dev k) (ps k)) {c : UInt8} (hc : bitB c = true) : ∀ k, k ≤ n → bitB (carry ps c k) = true
  | 0, _ => hc
  | k + 1, hk => (h k (by omega)).head
theorem Good.step {dev : Nat → Dev} {ps : Nat → PS} {n : Nat} (h : ∀ k, k < n → Good (dev k) (ps k)) (hd : ∀ k, k < n → Right (dev k)) {c : UInt8} (hc : bitB c = true) (st : Nat) : ∀ k, k < n → Good (dev k) (stepS dev st c ps k) := by
  intro k hk
  unfold stepS
  split
  · exact (h k hk).shift (carry_bit h hc k (by omega))
  · exact (h k hk).act (hd k hk) st

/-- So many zeros. -/
def zerosL (n : Int) : List UInt8 := Lib.repeatL [48] n.toNat
theorem zerosL_all (n : Nat) : (Lib.repeatL [48] n).all bitB = true := by
  induction n with
  | zero => rfl
  | succ n ih =>
    show ([48] ++ Lib.repeatL [48] n).all bitB = true
    rw [List.all_append, ih]
    rfl
theorem zerosL_len (n : Nat) : (Lib.repeatL [48] n).length = n := by
  rw [Lib.repeatL_length]
  simp
/-- The bits of an idcode, the one of value 1 first. -/
def idBits (id : Nat) : List UInt8 := (List.range 32).map fun k => if id.testBit k = true then 49 else 48
theorem idBits_all (id : Nat) : (idBits id).all bitB = true := by
  unfold idBits
  rw [List.all_eq_true]
  intro x hx
  obtain ⟨k, _, rfl⟩ := List.mem_map.1 hx
  split <;> rfl
theorem idBits_len (id : Nat) : (idBits id).length = 32 := by simp [idBits]

/-- The inputs of a new port: those of the first k registers of its own, behind the others'. -/
def inpM (d : Dev) : Nat → List UInt8 → Option Lit
  | 0 => if (d.id == 0) = true then putS (fun _ => none) bypassS.data.toList (.string [48]) else putS (putS (fun _ => none) bypassS.data.toList (.string [48])) idcodeS.data.toList (.string (idBits d.id.toNat))
  | k + 1 => putS (inpM d k) (d.regs.name k).data.toList (.string (zerosL (d.regs.long k)))
/-- .. and the outputs. -/
def outM (d : Dev) : Nat → List UInt8 → Option Lit
  | 0 => fun _ => none
  | k + 1 => putS (outM d k) (d.regs.name k).data.toList (.string (zerosL (d.regs.long k)))
/-- What a new port holds. -/
def newPS (d : Dev) : PS := ⟨[], [48], inpM d d.regs.n, outM d d.regs.n⟩

theorem putS_isSome (M N : List UInt8 → Option Lit) (s x : List UInt8) (a b : Lit) (h : (M x).isSome = (N x).isSome) : (putS M s a x).isSome = (putS N s b x).isSome := by
  unfold putS
  by_cases e : x = s
  · rw [if_pos e, if_pos e]
    rfl
  · rw [if_neg e, if_neg e]
    exact h
theorem inpM_some (d : Dev) (s : List UInt8) : ∀ k, (inpM d k s).isSome = (longsM d k s).isSome := by
  intro k
  induction k with
  | zero =>
    show (inpM d 0 s).isSome = (longs0 d s).isSome
    unfold inpM longs0
    split
    · exact putS_isSome _ _ _ _ _ _ rfl
    · exact putS_isSome _ _ _ _ _ _ (putS_isSome _ _ _ _ _ _ rfl)
  | succ k ih => exact putS_isSome _ _ _ _ _ _ ih

def OkBits (v : Lit) : Prop := ∃ l, v = .string l ∧ l ≠ [] ∧ l.all bitB = true ∧ l.length ≤ 1000
theorem putS_ok {M : List UInt8 → Option Lit} {s : List UInt8} {a : Lit} (ha : OkBits a) (h : ∀ x v, M x = some v → OkBits v) : ∀ x v, putS M s a x = some v → OkBits v := by
  intro x v hv
  unfold putS at hv
  by_cases e : x = s
  · rw [if_pos e] at hv
    cases hv
    exact ha
  · rw [if_neg e] at hv
    exact h x v hv
theorem zerosL_ok {n : Int} (h1 : 1 ≤ n) (h2 : n ≤ 1000) : OkBits (.string (zerosL n)) := by
  refine ⟨_, rfl, ?_, zerosL_all _, ?_⟩
  · intro e
    have := congrArg List.length e
    rw [zerosL, zerosL_len] at this
    simp at this
    omega
  · rw [zerosL, zerosL_len]
    omega
theorem inpM_ok (d : Dev) (hl : ∀ k, k < d.regs.n → 1 ≤ d.regs.long k ∧ d.regs.long k ≤ 1000) : ∀ k, k ≤ d.regs.n → ∀ x v, inpM d k x = some v → OkBits v := by
  have h0 : OkBits (.string [48]) := ⟨_, rfl, by simp, rfl, by simp⟩
  have h1 : OkBits (.string (idBits d.id.toNat)) := ⟨_, rfl, by intro e; have := congrArg List.length e; rw [idBits_len] at this; simp at this, idBits_all _, by rw [idBits_len]; omega⟩
  intro k
  induction k with
  | zero =>
    intro _ x v hv
    unfold inpM at hv
    split at hv
    · exact putS_ok h0 (fun _ _ h => by cases h) x v hv
    · exact putS_ok h1 (putS_ok h0 (fun _ _ h => by cases h)) x v hv
  | succ k ih =>
    intro hk x v hv
    have h2 := hl k (by omega)
    exact putS_ok (zerosL_ok h2.1 h2.2) (ih (by omega)) x v hv
theorem newPS_good (d : Dev) (hl : ∀ k, k < d.regs.n → 1 ≤ d.regs.long k ∧ d.regs.long k ≤ 1000) : Good d (newPS d) := by
  refine ⟨by simp [newPS], rfl, by simp [newPS], by simp [newPS], fun s hs => ?_⟩
  have h := inpM_some d s.data.toList d.regs.n
  rw [longsM_some, hs] at h
  obtain ⟨v, hv⟩ := Option.isSome_iff_exists.1 h
  obtain ⟨l, rfl, h1, h2, h3⟩ := inpM_ok d hl _ (Nat.le_refl _) _ _ hv
  exact ⟨l, hv, h1, h2, h3⟩
end Go.Proofs.YtkipkkaloiefpaaGreatDoor
