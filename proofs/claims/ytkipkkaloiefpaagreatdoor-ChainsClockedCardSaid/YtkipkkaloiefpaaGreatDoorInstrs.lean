/- What is wrong with an instruction of a device: the reference's instrFault, the program's checkCode. -/
import Derived.Test.YtkipkkaloiefpaaGreatDoorFinds
namespace Go.Proofs.YtkipkkaloiefpaaGreatDoor
open Go.RowKit Go.Maps

/-- A device. -/
structure Dev where
  name : ByteArray
  long : Int
  id : Int
  regs : Regs
  ins : Inss
/-- Where its lists are. -/
structure Plc where
  ra : Option Addr
  rc : Nat
  ia : Option Addr
  ic : Nat
abbrev devV (d : Dev) (p : Plc) : Value := .agg #[.string d.name, .int .i64 d.long, .int .i64 d.id, .slice p.ra d.regs.n p.rc, .slice p.ia d.ins.n p.ic]
/-- The device's lists are in memory, below B. -/
structure DevOk (B : Nat) (w : World) (d : Dev) (p : Plc) : Prop where
  regs : RegsAt B w p.ra d.regs
  ins : InsAt B w p.ia d.ins
  name : d.name.size ≤ 1048576
  capR : d.regs.n ≤ p.rc
  capI : d.ins.n ≤ p.ic
theorem DevOk.below {B B' : Nat} {w w' : World} {d : Dev} {p : Plc} (h : DevOk B w d p) (hb : Below B' w w') (hB : B ≤ B') : DevOk B w' d p := ⟨h.regs.below hb hB, h.ins.below hb hB, h.name, h.capR, h.capI⟩
theorem DevOk.up {B B' : Nat} {w : World} {d : Dev} {p : Plc} (h : DevOk B w d p) (hB : B ≤ B') : DevOk B' w d p := ⟨h.regs.up hB, h.ins.up hB, h.name, h.capR, h.capI⟩

/-- What is wrong with a code. -/
def codeErr (s : ByteArray) (long : Int) : Int := if ((s.size : Int) == long) = false then 3 else if s.data.toList.all bitB = true then 0 else 9
def zeroIn (s : ByteArray) : Bool := decide (0 ≤ Lib.indexByte s.data.toList 48)
/-- Whether a device has a register of that name. -/
def knownB (d : Dev) (x : ByteArray) : Bool := (x.toList == bypassS.toList) || ((x.toList == idcodeS.toList) && !(d.id == 0)) || hasName d.regs.name x d.regs.n
/-- What is wrong with an instruction. -/
def insErr (d : Dev) (k : Nat) : Int :=
  if (codeErr (d.ins.code k) d.long == 0) = false then codeErr (d.ins.code k) d.long else if zeroIn (d.ins.code k) = false then 16 else if hasName d.ins.code (d.ins.code k) k = true then 6 else if knownB d (d.ins.reg k) = true then 0 else 8

theorem checkCode_any (s : ByteArray) (long : Int) (w : World) (hs : s.size ≤ 1048576) :
    Calls Tryz.prog 79 #[.string s, .int .i64 long] w fun e w' => e = .returned (.int .i64 (codeErr s long)) ∧ Below w.heap.size w w' := by
  have hcon := fun W => isBits_any s W (by omega)
  unfold codeErr
  cases h1 : ((s.size : Int) == long) with
  | false =>
    rw [if_pos rfl]
    clear hcon
    go_enter Tryz.func79, Tryz.ntmps79
    go_wp2_with fail
    go_ret
    exact ⟨rfl, Below.refl _ _⟩
  | true =>
    rw [if_neg (by decide)]
    cases hb : s.data.toList.all bitB with
    | true =>
      rw [if_pos rfl]
      rw [hb] at hcon
      clear hb
      go_enter Tryz.func79, Tryz.ntmps79
      go_wp2_with fail
      refine (hcon _).mono ?_
      rintro e w' ⟨rfl, hB⟩
      go_wp2_with fail
      go_ret
      exact ⟨rfl, hB⟩
    | false =>
      rw [if_neg (by decide)]
      rw [hb] at hcon
      clear hb
      go_enter Tryz.func79, Tryz.ntmps79
      go_wp2_with fail
      refine (hcon _).mono ?_
      rintro e w' ⟨rfl, hB⟩
      go_wp2_with fail
      go_ret
      exact ⟨rfl, hB⟩

theorem instrFault_any (d : Dev) (p : Plc) (k : Nat) (w : World) (hk : k < d.ins.n) (h : DevOk w.heap.size w d p) :
    Calls Tryz.prog 68 #[devV d p, .int .i64 (k : Int)] w fun e w' => e = .returned (.int .i64 (insErr d k)) ∧ Below w.heap.size w w' := by
  obtain ⟨hR, hI, _, _, hcap⟩ := h
  obtain ⟨ra, rc, ia, ic⟩ := p
  have hcap : d.ins.n ≤ ic := hcap
  have hn := hI.n_le
  obtain ⟨b, off, rfl, hbB, hcells⟩ := hI.cells (by omega)
  obtain ⟨hc1, hc2, hsz, hsz2⟩ := hcells k hk
  clear hcells
  obtain ⟨W0, hW0⟩ : ∃ W0, W0 = (w.alloc (.cells #[.string d.name, .int .i64 d.long, .int .i64 d.id, .slice ra d.regs.n rc, .slice (some ⟨b, off, none⟩) d.ins.n ic] 48)).alloc (.cells #[.string (d.ins.code k), .string (d.ins.reg k)] 55) := ⟨_, rfl⟩
  have hs0 : W0.heap.size = w.heap.size + 1 + 1 := by rw [hW0]; simp
  have hB0 : Below w.heap.size w W0 := by rw [hW0]; exact ((Below.refl _ w).alloc (Nat.le_refl _) _).alloc (by simp) _
  have hcell : ∀ W, Below W0.heap.size W0 W → W.cell? ⟨w.heap.size, 1, none⟩ = some (.int .i64 d.long) ∧ W.cell? ⟨w.heap.size, 2, none⟩ = some (.int .i64 d.id) ∧ W.cell? ⟨w.heap.size, 4, none⟩ = some (.slice (some ⟨b, off, none⟩) d.ins.n ic) ∧ W.cell? ⟨w.heap.size + 1, 0, none⟩ = some (.string (d.ins.code k)) ∧ W.cell? ⟨w.heap.size + 1, 1, none⟩ = some (.string (d.ins.reg k)) := by
    intro W hB
    refine ⟨(hB.cell (by rw [hs0]; show w.heap.size < _; omega)).trans ?_, (hB.cell (by rw [hs0]; show w.heap.size < _; omega)).trans ?_, (hB.cell (by rw [hs0]; show w.heap.size < _; omega)).trans ?_, (hB.cell (by rw [hs0]; show w.heap.size + 1 < _; omega)).trans ?_, (hB.cell (by rw [hs0]; show w.heap.size + 1 < _; omega)).trans ?_⟩
    · rw [hW0, World.cell?_alloc_past _ _ _ (by simp)]; exact World.cell?_alloc_at _ _ _ _ rfl
    · rw [hW0, World.cell?_alloc_past _ _ _ (by simp)]; exact World.cell?_alloc_at _ _ _ _ rfl
    · rw [hW0, World.cell?_alloc_past _ _ _ (by simp)]; exact World.cell?_alloc_at _ _ _ _ rfl
    · rw [hW0]; exact World.cell?_alloc_at _ _ _ _ (by simp)
    · rw [hW0]; exact World.cell?_alloc_at _ _ _ _ (by simp)
  have hreg := containsRegI_any W0 ra rc d.regs.n d.regs (Nat.le_refl _) ((hR.below hB0 (Nat.le_refl _)).up hB0.size) (w.heap.size + 1) (d.ins.reg k) (hcell W0 (Below.refl _ _)).2.2.2.2
  have hins := fun W hB => containsIns_any W (some ⟨b, off, none⟩) ic k d.ins (by omega) ((hI.below (hB0.trans (hB.mono hB0.size)) (Nat.le_refl _)).up (Nat.le_trans hB0.size hB.size)) (w.heap.size + 1) (d.ins.code k) (hcell W hB).2.2.2.1
  have hbits := fun W => bitsFault_any (d.ins.code k) W (by omega)
  have hzero := fun W => Tryz.strings_Contains_one (d.ins.code k) 48 W
  have hans : Hid (insErr d k = if ((((d.ins.code k).size : Nat) : Int) == d.long) = false then 3 else if (d.ins.code k).data.toList.all bitB = false then 9 else if decide (0 ≤ Lib.indexByte (d.ins.code k).data.toList 48) = false then 16 else if hasName d.ins.code (d.ins.code k) k = true then 6 else if ((((d.ins.reg k).toList == [98, 121, 112, 97, 115, 115]) || (((d.ins.reg k).toList == [105, 100, 99, 111, 100, 101]) && !(d.id == 0))) || hasName d.regs.name (d.ins.reg k) d.regs.n) = true then 0 else 8) := by
    apply Lib.hid
    unfold insErr codeErr zeroIn knownB
    rw [ByteArray.toList_eq bypassS, ByteArray.toList_eq idcodeS]
    cases (((d.ins.code k).size : Int) == d.long) <;> cases (d.ins.code k).data.toList.all bitB <;> rfl
  have hfr : ∀ W, Below W0.heap.size W0 W → Below w.heap.size w W := fun W hB => hB0.trans (hB.mono hB0.size)
  generalize insErr d k = ans at hans ⊢
  generalize hasName d.regs.name (d.ins.reg k) d.regs.n = own at hreg hans
  generalize hasName d.ins.code (d.ins.code k) k = twi at hins hans
  generalize decide (0 ≤ Lib.indexByte (d.ins.code k).data.toList 48) = zer at hzero hans
  generalize (d.ins.code k).data.toList.all bitB = bts at hbits hans
  clear hR hI hB0
  cases h1 : ((((d.ins.code k).size : Nat) : Int) == d.long) with
  | false =>
    rw [h1] at hans
    go_enter Tryz.func68, Tryz.ntmps68
    go_wp2_with fail
    rw [← hW0]
    clear hW0 hc1 hc2
    refine hreg.mono ?_
    rintro e w1 ⟨rfl, hB1⟩
    obtain ⟨c1, c2, c3, c4, c5⟩ := hcell w1 hB1
    go_wp2_with fail
    go_ret
    exact ⟨ret_int hans.out.symm, hfr _ hB1⟩
  | true =>
    rw [h1] at hans
    cases bts with
    | false =>
      go_enter Tryz.func68, Tryz.ntmps68
      go_wp2_with fail
      rw [← hW0]
      clear hW0 hc1 hc2
      refine hreg.mono ?_
      rintro e w1 ⟨rfl, hB1⟩
      obtain ⟨c1, c2, c3, c4, c5⟩ := hcell w1 hB1
      go_wp2_with fail
      refine (hbits _).mono ?_
      rintro e w2 ⟨rfl, hB2⟩
      have hB2 : Below W0.heap.size W0 w2 := hB1.trans (hB2.mono hB1.size)
      clear c1 c2 c3 c4 c5
      obtain ⟨c1, c2, c3, c4, c5⟩ := hcell w2 hB2
      go_wp2_with fail
      go_ret
      exact ⟨ret_int hans.out.symm, hfr _ hB2⟩
    | true =>
      cases zer with
      | false =>
        go_enter Tryz.func68, Tryz.ntmps68
        go_wp2_with fail
        rw [← hW0]
        clear hW0 hc1 hc2
        refine hreg.mono ?_
        rintro e w1 ⟨rfl, hB1⟩
        obtain ⟨c1, c2, c3, c4, c5⟩ := hcell w1 hB1
        go_wp2_with fail
        refine (hbits _).mono ?_
        rintro e w2 ⟨rfl, hB2⟩
        have hB2 : Below W0.heap.size W0 w2 := hB1.trans (hB2.mono hB1.size)
        clear c1 c2 c3 c4 c5
        obtain ⟨c1, c2, c3, c4, c5⟩ := hcell w2 hB2
        go_wp2_with fail
        refine (hzero _).mono ?_
        rintro e w3 ⟨rfl, rfl⟩
        go_wp2_with fail
        go_ret
        exact ⟨ret_int hans.out.symm, hfr _ hB2⟩
      | true =>
        cases twi with
        | true =>
          go_enter Tryz.func68, Tryz.ntmps68
          go_wp2_with fail
          rw [← hW0]
          clear hW0 hc1 hc2
          refine hreg.mono ?_
          rintro e w1 ⟨rfl, hB1⟩
          obtain ⟨c1, c2, c3, c4, c5⟩ := hcell w1 hB1
          go_wp2_with fail
          refine (hbits _).mono ?_
          rintro e w2 ⟨rfl, hB2⟩
          have hB2 : Below W0.heap.size W0 w2 := hB1.trans (hB2.mono hB1.size)
          clear c1 c2 c3 c4 c5
          obtain ⟨c1, c2, c3, c4, c5⟩ := hcell w2 hB2
          go_wp2_with fail
          refine (hzero _).mono ?_
          rintro e w3 ⟨rfl, rfl⟩
          go_wp2_with fail
          refine (hins _ hB2).mono ?_
          rintro e w4 ⟨rfl, hB4⟩
          have hB4 : Below W0.heap.size W0 w4 := hB2.trans (hB4.mono hB2.size)
          clear c1 c2 c3 c4 c5
          obtain ⟨c1, c2, c3, c4, c5⟩ := hcell w4 hB4
          go_wp2_with fail
          go_ret
          exact ⟨ret_int hans.out.symm, hfr _ hB4⟩
        | false =>
          go_enter Tryz.func68, Tryz.ntmps68
          go_wp2_with fail
          rw [← hW0]
          clear hW0 hc1 hc2
          refine hreg.mono ?_
          rintro e w1 ⟨rfl, hB1⟩
          obtain ⟨c1, c2, c3, c4, c5⟩ := hcell w1 hB1
          go_wp2_with fail
          refine (hbits _).mono ?_
          rintro e w2 ⟨rfl, hB2⟩
          have hB2 : Below W0.heap.size W0 w2 := hB1.trans (hB2.mono hB1.size)
          clear c1 c2 c3 c4 c5
          obtain ⟨c1, c2, c3, c4, c5⟩ := hcell w2 hB2
          go_wp2_with fail
          refine (hzero _).mono ?_
          rintro e w3 ⟨rfl, rfl⟩
          go_wp2_with fail
          refine (hins _ hB2).mono ?_
          rintro e w4 ⟨rfl, hB4⟩
          have hB4 : Below W0.heap.size W0 w4 := hB2.trans (hB4.mono hB2.size)
          clear c1 c2 c3 c4 c5
          obtain ⟨c1, c2, c3, c4, c5⟩ := hcell w4 hB4
          cases hp1 : ((d.ins.reg k).toList == [98, 121, 112, 97, 115, 115]) with
          | true =>
            rw [hp1] at hans
            go_wp2_with fail
            go_ret
            exact ⟨ret_int hans.out.symm, hfr _ hB4⟩
          | false =>
            cases hp2 : ((d.ins.reg k).toList == [105, 100, 99, 111, 100, 101]) with
            | true =>
              cases hp3 : (d.id == 0) with
              | true =>
                rw [hp1, hp2, hp3] at hans
                have hz : d.id = 0 := by simpa using hp3
                cases own with
                | true =>
                  go_wp2_with fail
                  go_ret
                  exact ⟨ret_int hans.out.symm, hfr _ hB4⟩
                | false =>
                  go_wp2_with fail
                  go_ret
                  exact ⟨ret_int hans.out.symm, hfr _ hB4⟩
              | false =>
                rw [hp1, hp2, hp3] at hans
                have hz : ¬ d.id = 0 := by simpa using hp3
                go_wp2_with fail
                go_ret
                exact ⟨ret_int hans.out.symm, hfr _ hB4⟩
            | false =>
              rw [hp1, hp2] at hans
              cases own with
              | true =>
                go_wp2_with fail
                go_ret
                exact ⟨ret_int hans.out.symm, hfr _ hB4⟩
              | false =>
                go_wp2_with fail
                go_ret
                exact ⟨ret_int hans.out.symm, hfr _ hB4⟩
end Go.Proofs.YtkipkkaloiefpaaGreatDoor
