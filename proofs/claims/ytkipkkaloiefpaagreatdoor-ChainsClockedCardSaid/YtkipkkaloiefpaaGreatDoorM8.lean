/- The reference's act. -/
import Derived.Test.YtkipkkaloiefpaaGreatDoorM7
import Derived.Test.YtkipkkaloiefpaaGreatDoorNewQ
import Derived.IntWalk
import Derived.Test.YtkipkkaloiefpaaGreatDoorM5
namespace Go.Proofs.YtkipkkaloiefpaaGreatDoor
open Go.RowKit Go.Maps

/-- What act leaves. -/
def RefDid (B N : Nat) (w : World) (rb gc gs mi mo : Nat) (da : Option Addr) (dcap st : Nat) (r : Devs) (ps : Nat → PS) (w' : World) : Prop :=
  RefAt B N w' rb gc gs mi mo da dcap st r ps ∧ Touch (fun b => b = gc ∨ b = gs ∨ b = mo) w w'

theorem RefAt.alloc {B N : Nat} {w : World} {rb gc gs mi mo : Nat} {da : Option Addr} {dcap st : Nat} {r : Devs} {ps : Nat → PS} (h : RefAt B N w rb gc gs mi mo da dcap st r ps) (o : Obj) : RefAt B N (w.alloc o) rb gc gs mi mo da dcap st r ps := h.below ((Below.refl _ w).alloc (Nat.le_refl _) o)

set_option maxRecDepth 100000 in
theorem refAct_reset (B N : Nat) (w : World) (rb gc gs mi mo : Nat) (da : Option Addr) (dcap : Nat) (r : Devs) (ps : Nat → PS) (h : RefAt B N w rb gc gs mi mo da dcap 0 r ps) (k : Nat) (hk : k < r.n) :
    Calls Tryz.prog 32 #[.pointer (some ⟨rb, 0, none⟩), .int .i64 (k : Int)] w fun e w' => e = .returned (.tuple #[]) ∧ RefDid B N w rb gc gs mi mo da dcap 0 r (updP ps k { ps k with code := [] }) w' := by
  obtain ⟨l1, l2, l3, l4, l5⟩ := h.lt
  obtain ⟨p2, c2⟩ := h.c2
  have c0 := h.c0
  have c1 := h.c1
  have cc := (h.codes k hk).1
  have cf := (h.codes k hk).2
  obtain ⟨b, off, rfl, hbB, hcells⟩ := h.devs.cells (by omega)
  obtain ⟨⟨d0, d1, d2, d3, d4⟩, hdo⟩ := hcells k hk
  have hfin := h.setCode hk [] (Good.act (h.good k hk) (h.sure k hk).right 0)
  have HF := Lib.hid hfin
  clear hcells hdo hfin h
  go_enter Tryz.func32, Tryz.ntmps32
  go_wp2_with fail
  go_end0
  refine ⟨rfl, HF.out.alloc _, ?_⟩
  exact (Touch.setCell (S := fun b => b = gc ∨ b = gs ∨ b = mo) (p := ⟨gc, k, none⟩) (Touch.refl _ w) (fun _ => .inl rfl) _).alloc _

set_option maxRecDepth 100000 in
theorem refAct_idle (B N : Nat) (w : World) (rb gc gs mi mo : Nat) (da : Option Addr) (dcap st : Nat) (r : Devs) (ps : Nat → PS) (h : RefAt B N w rb gc gs mi mo da dcap st r ps) (k : Nat) (hk : k < r.n) (h0 : st ≠ 0) (h3 : st ≠ 3) (h8 : st ≠ 8) (h10 : st ≠ 10) (h15 : st ≠ 15) :
    Calls Tryz.prog 32 #[.pointer (some ⟨rb, 0, none⟩), .int .i64 (k : Int)] w fun e w' => e = .returned (.tuple #[]) ∧ RefDid B N w rb gc gs mi mo da dcap st r ps w' := by
  obtain ⟨l1, l2, l3, l4, l5⟩ := h.lt
  have c0 := h.c0
  have c1 := h.c1
  obtain ⟨b, off, rfl, hbB, hcells⟩ := h.devs.cells (by omega)
  obtain ⟨⟨d0, d1, d2, d3, d4⟩, hdo⟩ := hcells k hk
  have b0 : ((st : Int) == 0) = false := by simp; omega
  have b3 : ((st : Int) == 3) = false := by simp; omega
  have b8 : ((st : Int) == 8) = false := by simp; omega
  have b10 : ((st : Int) == 10) = false := by simp; omega
  have b15 : ((st : Int) == 15) = false := by simp; omega
  have H := Lib.hid h
  clear hcells hdo h h0 h3 h8 h10 h15
  go_enter Tryz.func32, Tryz.ntmps32
  go_wp2_with fail
  go_end0
  exact ⟨rfl, H.out.alloc _, (Touch.refl _ w).alloc _⟩

set_option maxRecDepth 100000 in
theorem refAct_upIR (B N : Nat) (w : World) (rb gc gs mi mo : Nat) (da : Option Addr) (dcap : Nat) (r : Devs) (ps : Nat → PS) (h : RefAt B N w rb gc gs mi mo da dcap 15 r ps) (k : Nat) (hk : k < r.n) :
    Calls Tryz.prog 32 #[.pointer (some ⟨rb, 0, none⟩), .int .i64 (k : Int)] w fun e w' => e = .returned (.tuple #[]) ∧ RefDid B N w rb gc gs mi mo da dcap 15 r (updP ps k { ps k with code := (ps k).sh }) w' := by
  obtain ⟨l1, l2, l3, l4, l5⟩ := h.lt
  obtain ⟨p2, c2⟩ := h.c2
  obtain ⟨p3, c3⟩ := h.c3
  have c0 := h.c0
  have c1 := h.c1
  have cc := (h.codes k hk).1
  have cf := (h.codes k hk).2
  have sc := (h.shift k hk).1
  obtain ⟨b, off, rfl, hbB, hcells⟩ := h.devs.cells (by omega)
  obtain ⟨⟨d0, d1, d2, d3, d4⟩, hdo⟩ := hcells k hk
  have hk0 : (0 : Int) ≤ (k : Int) := by omega
  have hk1 : (k : Int) < (r.n : Int) := by omega
  obtain ⟨W, hW⟩ : ∃ W : World, W = w.alloc (.cells #[.string (r.dev k).name, .int .i64 (r.dev k).long, .int .i64 (r.dev k).id, .slice (r.plc k).ra (r.dev k).regs.n (r.plc k).rc, .slice (r.plc k).ia (r.dev k).ins.n (r.plc k).ic] 48) := ⟨_, rfl⟩
  have hRW : RefAt B N W rb gc gs mi mo (some ⟨b, off, none⟩) dcap 15 r ps := by rw [hW]; exact h.alloc _
  have hfin := hRW.setCode hk (ps k).sh (Good.act (h.good k hk) (h.sure k hk).right 15)
  have hTW : Touch (fun b => b = gc ∨ b = gs ∨ b = mo) w W := by rw [hW]; exact (Touch.refl _ w).alloc _
  obtain ⟨p2', w2⟩ := hRW.c2
  obtain ⟨p3', w3⟩ := hRW.c3
  have wc0 := (hRW.codes k hk).1
  have wcf := (hRW.codes k hk).2
  have wsc := (hRW.shift k hk).1
  have HF := Lib.hid hfin
  have HT := Lib.hid hTW
  clear hcells hdo hfin h hRW hTW
  go_enter Tryz.func32, Tryz.ntmps32
  go_wp2_with fail
  rw [← hW]
  have HW := Lib.hid hW
  clear hW c2 c3 cc cf sc c0 c1 d0 d1 d2 d3 d4
  go_region
  all_goals
    go_wp2_with fail
    go_end0
    refine ⟨rfl, HF.out.below ⟨rfl, rfl, rfl, Nat.le_refl _, fun _ _ => rfl⟩, ?_⟩
    have h5 := Touch.setCell (S := fun b => b = gc ∨ b = gs ∨ b = mo) (p := ⟨gc, k, none⟩) HT.out (fun _ => .inl rfl) (.string (bs (ps k).sh))
    exact ⟨h5.os, h5.tape, h5.output, h5.size, h5.block⟩
set_option maxRecDepth 100000 in
theorem refAct_capIR (B N : Nat) (w : World) (rb gc gs mi mo : Nat) (da : Option Addr) (dcap : Nat) (r : Devs) (ps : Nat → PS) (h : RefAt B N w rb gc gs mi mo da dcap 10 r ps) (k : Nat) (hk : k < r.n) :
    Calls Tryz.prog 32 #[.pointer (some ⟨rb, 0, none⟩), .int .i64 (k : Int)] w fun e w' => e = .returned (.tuple #[]) ∧ RefDid B N w rb gc gs mi mo da dcap 10 r (updP ps k { ps k with sh := capCode (r.dev k) }) w' := by
  obtain ⟨l1, l2, l3, l4, l5⟩ := h.lt
  obtain ⟨p2, c2⟩ := h.c2
  obtain ⟨p3, c3⟩ := h.c3
  have c0 := h.c0
  have c1 := h.c1
  have cc := (h.codes k hk).1
  have cf := (h.codes k hk).2
  have sc := (h.shift k hk).1
  obtain ⟨b, off, rfl, hbB, hcells⟩ := h.devs.cells (by omega)
  obtain ⟨⟨d0, d1, d2, d3, d4⟩, hdo⟩ := hcells k hk
  have hk0 : (0 : Int) ≤ (k : Int) := by omega
  have hk1 : (k : Int) < (r.n : Int) := by omega
  obtain ⟨W, hW⟩ : ∃ W : World, W = w.alloc (.cells #[.string (r.dev k).name, .int .i64 (r.dev k).long, .int .i64 (r.dev k).id, .slice (r.plc k).ra (r.dev k).regs.n (r.plc k).rc, .slice (r.plc k).ia (r.dev k).ins.n (r.plc k).ic] 48) := ⟨_, rfl⟩
  have hRW : RefAt B N W rb gc gs mi mo (some ⟨b, off, none⟩) dcap 10 r ps := by rw [hW]; exact h.alloc _
  have hfin := hRW.setShift hk (capCode (r.dev k)) (Good.act (h.good k hk) (h.sure k hk).right 10)
  have hTW : Touch (fun b => b = gc ∨ b = gs ∨ b = mo) w W := by rw [hW]; exact (Touch.refl _ w).alloc _
  obtain ⟨p2', w2⟩ := hRW.c2
  obtain ⟨p3', w3⟩ := hRW.c3
  have wc0 := (hRW.codes k hk).1
  have wcf := (hRW.codes k hk).2
  have wsc := (hRW.shift k hk).1
  have wsf := (hRW.shift k hk).2
  have HG : Hid (Good (r.dev k) { ps k with sh := capCode (r.dev k) }) := Lib.hid (Good.act (h.good k hk) (h.sure k hk).right 10)
  obtain ⟨hlo, hhi, _, _⟩ := (h.sure k hk).right
  have hcc : (⟨#[49]⟩ : ByteArray) ++ bs (zerosL ((r.dev k).long - 1)) = bs (capCode (r.dev k)) := cap_code
  have hrep : ∀ W', Calls Tryz.prog 19 #[.string ⟨#[48]⟩, .int .i64 ((r.dev k).long - 1)] W' fun e w' => e = .returned (.string (bs (zerosL ((r.dev k).long - 1)))) ∧ Below W'.heap.size W' w' := by
    intro W'
    obtain ⟨c, hc⟩ : ∃ c : Nat, (r.dev k).long - 1 = (c : Int) := ⟨((r.dev k).long - 1).toNat, by omega⟩
    rw [hc]
    exact Tryz.strings_Repeat ⟨#[48]⟩ c W' (by omega) (by show 1 * c ≤ _; omega)
  have hwr : IntKind.i64.wrap ((r.dev k).long - 1) = (r.dev k).long - 1 := IntWalk.i64_in _ (by omega)
  have hcat : ¬ 9223372036854775807 < 1 + (bs (zerosL ((r.dev k).long - 1))).size := by rw [bs_size, zerosL, zerosL_len]; omega
  generalize bs (zerosL ((r.dev k).long - 1)) = zs at hcc hrep hcat
  have HCC := Lib.hid hcc
  have hbx : W.cell? ⟨w.heap.size, 1, none⟩ = some (.int .i64 (r.dev k).long) := by rw [hW]; exact cell_fresh _ _ _ rfl
  have hbxl : w.heap.size < W.heap.size := by rw [hW]; simp
  obtain ⟨bx, hbxe⟩ : ∃ bx, bx = w.heap.size := ⟨_, rfl⟩
  rw [← hbxe] at hbx hbxl
  have HBX := Lib.hid hbxe
  have HRW := Lib.hid hRW
  have hlts := hRW.lt
  have HT := Lib.hid hTW
  clear hcells hdo hfin h hRW hTW hcc hbxe
  go_enter Tryz.func32, Tryz.ntmps32
  go_wp2_with fail
  rw [← hW, ← HBX.out]
  have HW := Lib.hid hW
  clear hW c2 c3 cc cf sc c0 c1 d0 d1 d2 d3 d4
  go_region_law (go_simp; go_at_call 19; refine (hrep _).mono ?_; rintro e w2 ⟨rfl, hB2d⟩; have hB2 := below_drew hB2d; have hcl := (bcell hB2).1; have hfz := (bcell hB2).2)
  all_goals
    go_wp2_with fail
    go_end0
    rw [HCC.out]
    have hfin2 := (HRW.out.below hB2).setShift hk (capCode (r.dev k)) HG.out
    refine ⟨rfl, hfin2, ?_⟩
    exact Touch.setCell (S := fun b => b = gc ∨ b = gs ∨ b = mo) (p := ⟨gs, k, none⟩) (HT.out.below hB2) (fun _ => .inr (.inl rfl)) _
set_option maxRecDepth 100000 in
theorem refAct_capDR (B N : Nat) (w : World) (rb gc gs mi mo : Nat) (da : Option Addr) (dcap : Nat) (r : Devs) (ps : Nat → PS) (h : RefAt B N w rb gc gs mi mo da dcap 3 r ps) (k : Nat) (hk : k < r.n) :
    Calls Tryz.prog 32 #[.pointer (some ⟨rb, 0, none⟩), .int .i64 (k : Int)] w fun e w' => e = .returned (.tuple #[]) ∧ RefDid B N w rb gc gs mi mo da dcap 3 r (updP ps k { ps k with sh := strOf ((ps k).inp (selOf (r.dev k) (ps k).code)) }) w' := by
  obtain ⟨l1, l2, l3, l4, l5⟩ := h.lt
  obtain ⟨p2, c2⟩ := h.c2
  obtain ⟨p3, c3⟩ := h.c3
  have c0 := h.c0
  have c1 := h.c1
  have cc := (h.codes k hk).1
  have cf := (h.codes k hk).2
  have sc := (h.shift k hk).1
  obtain ⟨b, off, rfl, hbB, hcells⟩ := h.devs.cells (by omega)
  obtain ⟨⟨d0, d1, d2, d3, d4⟩, hdo⟩ := hcells k hk
  have hk0 : (0 : Int) ≤ (k : Int) := by omega
  have hk1 : (k : Int) < (r.n : Int) := by omega
  obtain ⟨W, hW⟩ : ∃ W : World, W = w.alloc (.cells #[.string (r.dev k).name, .int .i64 (r.dev k).long, .int .i64 (r.dev k).id, .slice (r.plc k).ra (r.dev k).regs.n (r.plc k).rc, .slice (r.plc k).ia (r.dev k).ins.n (r.plc k).ic] 48) := ⟨_, rfl⟩
  have hRW : RefAt B N W rb gc gs mi mo (some ⟨b, off, none⟩) dcap 3 r ps := by rw [hW]; exact h.alloc _
  have hfin := hRW.setShift hk (strOf ((ps k).inp (selOf (r.dev k) (ps k).code))) (Good.act (h.good k hk) (h.sure k hk).right 3)
  have hTW : Touch (fun b => b = gc ∨ b = gs ∨ b = mo) w W := by rw [hW]; exact (Touch.refl _ w).alloc _
  obtain ⟨p2', w2⟩ := hRW.c2
  obtain ⟨p3', w3⟩ := hRW.c3
  have wc0 := (hRW.codes k hk).1
  have wcf := (hRW.codes k hk).2
  have wsc := (hRW.shift k hk).1
  have wsf := (hRW.shift k hk).2
  have HG : Hid (Good (r.dev k) { ps k with sh := strOf ((ps k).inp (selOf (r.dev k) (ps k).code)) }) := Lib.hid (Good.act (h.good k hk) (h.sure k hk).right 3)
  have hRd : RefAt B N W.drew rb gc gs mi mo (some ⟨b, off, none⟩) dcap 3 r ps := hRW.below ⟨rfl, rfl, rfl, Nat.le_refl _, fun _ _ => rfl⟩
  have hcap := captured_any B N W.drew rb gc gs mi mo (some ⟨b, off, none⟩) dcap 3 r ps hRd k hk
  obtain ⟨cs, hcs⟩ : ∃ cs, cs = bs (strOf ((ps k).inp (selOf (r.dev k) (ps k).code))) := ⟨_, rfl⟩
  rw [← hcs] at hcap
  have HCS := Lib.hid hcs
  clear hcs
  have HRW := Lib.hid hRW
  have hlts := hRW.lt
  have HT := Lib.hid hTW
  clear hcells hdo hfin h hRW hTW hRd
  go_enter Tryz.func32, Tryz.ntmps32
  go_wp2_with fail
  rw [← hW]
  have HW := Lib.hid hW
  clear hW c2 c3 cc cf sc c0 c1 d0 d1 d2 d3 d4
  go_region_law (go_simp; go_at_call 74; refine hcap.mono ?_; rintro e w2 ⟨rfl, hB2d⟩; have hB2 := below_drew hB2d; have hcl := (bcell hB2).1; have hfz := (bcell hB2).2)
  all_goals
    go_wp2_with fail
    go_end0
    have hfin2 := (HRW.out.below hB2).setShift hk (strOf ((ps k).inp (selOf (r.dev k) (ps k).code))) HG.out
    refine ⟨rfl, ?_, ?_⟩
    · rw [HCS.out]
      exact hfin2
    · exact Touch.setCell (S := fun b => b = gc ∨ b = gs ∨ b = mo) (p := ⟨gs, k, none⟩) (HT.out.below hB2) (fun _ => .inr (.inl rfl)) _
end Go.Proofs.YtkipkkaloiefpaaGreatDoor
/- The reference's act, where outputs are updated. -/
namespace Go.Proofs.YtkipkkaloiefpaaGreatDoor
open Go.RowKit Go.Maps

theorem Tryz.fieldName (nm : ByteArray) (lg : Int) (W : World) : (Instr.field 50 (.agg #[.string nm, .int .i64 lg]) 0).run Tryz.prog W = .ok (.string nm) W := by kernel_rfl

theorem RefAt.more {B N N' : Nat} {w : World} {rb gc gs mi mo : Nat} {da : Option Addr} {dcap st : Nat} {r : Devs} {ps : Nat → PS} (h : RefAt B N w rb gc gs mi mo da dcap st r ps) (hN : N ≤ N') : RefAt B N' w rb gc gs mi mo da dcap st r ps := by
  obtain ⟨M, hM, hM2⟩ := h.inM
  obtain ⟨M', hM', hM2'⟩ := h.outM
  exact { h with inM := ⟨M, hM.up hN, hM2⟩, outM := ⟨M', hM'.up hN, hM2'⟩ }
theorem RefAt.drew {B N : Nat} {w : World} {rb gc gs mi mo : Nat} {da : Option Addr} {dcap st : Nat} {r : Devs} {ps : Nat → PS} (h : RefAt B N w rb gc gs mi mo da dcap st r ps) : RefAt B N w.drew rb gc gs mi mo da dcap st r ps := h.below ⟨rfl, rfl, rfl, Nat.le_refl _, fun _ _ => rfl⟩

set_option maxHeartbeats 1000000 in
set_option maxRecDepth 100000 in
theorem refAct_upDR (B N : Nat) (w : World) (rb gc gs mi mo : Nat) (da : Option Addr) (dcap : Nat) (r : Devs) (ps : Nat → PS) (h : RefAt B N w rb gc gs mi mo da dcap 8 r ps) (k : Nat) (hk : k < r.n) (hN : N < 900000) :
    Calls Tryz.prog 32 #[.pointer (some ⟨rb, 0, none⟩), .int .i64 (k : Int)] w fun e w' => e = .returned (.tuple #[]) ∧ RefDid B (N + 1) w rb gc gs mi mo da dcap 8 r (updP ps k (actS 8 (r.dev k) (ps k))) w' := by
  obtain ⟨l1, l2, l3, l4, l5⟩ := h.lt
  have c0 := h.c0
  have c1 := h.c1
  obtain ⟨b, off, rfl, hbB, hcells⟩ := h.devs.cells (by omega)
  obtain ⟨⟨d0, d1, d2, d3, d4⟩, hdo⟩ := hcells k hk
  have hk0 : (0 : Int) ≤ (k : Int) := by omega
  have hk1 : (k : Int) < (r.n : Int) := by omega
  obtain ⟨W, hW⟩ : ∃ W : World, W = w.alloc (.cells #[.string (r.dev k).name, .int .i64 (r.dev k).long, .int .i64 (r.dev k).id, .slice (r.plc k).ra (r.dev k).regs.n (r.plc k).rc, .slice (r.plc k).ia (r.dev k).ins.n (r.plc k).ic] 48) := ⟨_, rfl⟩
  obtain ⟨bx, hbxe⟩ : ∃ bx, bx = w.heap.size := ⟨_, rfl⟩
  have hRW : RefAt B N W rb gc gs mi mo (some ⟨b, off, none⟩) dcap 8 r ps := by rw [hW]; exact h.alloc _
  have hTW : Touch (fun b => b = gc ∨ b = gs ∨ b = mo) w W := by rw [hW]; exact (Touch.refl _ w).alloc _
  have hbxl : bx < W.heap.size := by rw [hW, hbxe]; simp
  have x0 : W.cell? ⟨bx, 0, none⟩ = some (.string (r.dev k).name) := by rw [hW, hbxe]; exact cell_fresh _ _ _ rfl
  have x1 : W.cell? ⟨bx, 1, none⟩ = some (.int .i64 (r.dev k).long) := by rw [hW, hbxe]; exact cell_fresh _ _ _ rfl
  have x2 : W.cell? ⟨bx, 2, none⟩ = some (.int .i64 (r.dev k).id) := by rw [hW, hbxe]; exact cell_fresh _ _ _ rfl
  have x3 : W.cell? ⟨bx, 3, none⟩ = some (.slice (r.plc k).ra (r.dev k).regs.n (r.plc k).rc) := by rw [hW, hbxe]; exact cell_fresh _ _ _ rfl
  have x4 : W.cell? ⟨bx, 4, none⟩ = some (.slice (r.plc k).ia (r.dev k).ins.n (r.plc k).ic) := by rw [hW, hbxe]; exact cell_fresh _ _ _ rfl
  obtain ⟨p2, y2⟩ := hRW.c2
  have ycc := (hRW.codes k hk).1
  have hBW : B ≤ W.heap.size := by have := hRW.lt.1; have := hRW.up.1; omega
  have hdoW := (hRW.devs.ok hk)
  have hlW := hRW.lt
  have hkeep : ∀ W', Below W.heap.size W W' → W'.cell? ⟨bx, 0, none⟩ = some (.string (r.dev k).name) ∧ W'.cell? ⟨bx, 1, none⟩ = some (.int .i64 (r.dev k).long) ∧ W'.cell? ⟨bx, 2, none⟩ = some (.int .i64 (r.dev k).id) ∧ W'.cell? ⟨bx, 3, none⟩ = some (.slice (r.plc k).ra (r.dev k).regs.n (r.plc k).rc) ∧ W'.cell? ⟨bx, 4, none⟩ = some (.slice (r.plc k).ia (r.dev k).ins.n (r.plc k).ic) ∧ W'.cell? ⟨rb, 2, none⟩ = some (.slice (some ⟨gc, 0, none⟩) r.n p2) ∧ W'.cell? ⟨gc, k, none⟩ = some (.string (bs (ps k).code)) := fun W' hB =>
    ⟨(hB.cell (p := ⟨bx, 0, none⟩) hbxl).trans x0, (hB.cell (p := ⟨bx, 1, none⟩) hbxl).trans x1, (hB.cell (p := ⟨bx, 2, none⟩) hbxl).trans x2, (hB.cell (p := ⟨bx, 3, none⟩) hbxl).trans x3, (hB.cell (p := ⟨bx, 4, none⟩) hbxl).trans x4, (hB.cell (p := ⟨rb, 2, none⟩) hlW.1).trans y2, (hB.cell (p := ⟨gc, k, none⟩) hlW.2.1).trans ycc⟩
  have hsel : ∀ W1, Below W.heap.size W W1 → Calls Tryz.prog 75 #[devV (r.dev k) (r.plc k), .string (bs (ps k).code)] W1 fun e w' => e = .returned (.agg #[.string (selN (r.dev k) (bs (ps k).code) (r.dev k).ins.n), .int .i64 (refLong (r.dev k) (selN (r.dev k) (bs (ps k).code) (r.dev k).ins.n) (r.dev k).regs.n)]) ∧ Below W.heap.size W w' ∧ Below W1.heap.size W1 w' ∧ (w'.cell? ⟨bx, 0, none⟩ = some (.string (r.dev k).name) ∧ w'.cell? ⟨bx, 1, none⟩ = some (.int .i64 (r.dev k).long) ∧ w'.cell? ⟨bx, 2, none⟩ = some (.int .i64 (r.dev k).id) ∧ w'.cell? ⟨bx, 3, none⟩ = some (.slice (r.plc k).ra (r.dev k).regs.n (r.plc k).rc) ∧ w'.cell? ⟨bx, 4, none⟩ = some (.slice (r.plc k).ia (r.dev k).ins.n (r.plc k).ic) ∧ w'.cell? ⟨rb, 2, none⟩ = some (.slice (some ⟨gc, 0, none⟩) r.n p2) ∧ w'.cell? ⟨gc, k, none⟩ = some (.string (bs (ps k).code))) := fun W1 hB =>
    (selectedOf_any (r.dev k) (r.plc k) (bs (ps k).code) W1 ((hdoW.below (hB.mono hBW) (Nat.le_refl _)).up (Nat.le_trans hBW hB.size))).mono fun e w' hh => ⟨hh.1, hB.trans (hh.2.mono hB.size), hh.2, hkeep w' (hB.trans (hh.2.mono hB.size))⟩
  obtain ⟨nm, hnm⟩ : ∃ nm, nm = selN (r.dev k) (bs (ps k).code) (r.dev k).ins.n := ⟨_, rfl⟩
  rw [← hnm] at hsel
  generalize refLong (r.dev k) nm (r.dev k).regs.n = lg at hsel
  have hfield := fun W' => Tryz.fieldName nm lg W'
  have HNM := Lib.hid hnm
  have HK := Lib.hid hkeep
  have HT := Lib.hid hTW
  have HRW := Lib.hid hRW
  have HBX := Lib.hid hbxe
  clear hnm hkeep hcells hdo hdoW h hRW hTW hbxe
  go_enter Tryz.func32, Tryz.ntmps32
  go_wp2_with fail
  rw [← hW, ← HBX.out]
  have HWW := Lib.hid hW
  clear hW c0 c1 d0 d1 d2 d3 d4
  go_cut [5] (fun v wx => ∃ kb, v = .pointer (some ⟨kb, 0, none⟩) ∧ wx.cell? ⟨kb, 0, none⟩ = some (.string (r.dev k).name) ∧ wx.cell? ⟨kb, 1, none⟩ = some (.string nm) ∧ Below W.heap.size W wx)
  case first =>
    go_region_held3 (fun w' => w'.cell? ⟨bx, 0, none⟩ = some (.string (r.dev k).name) ∧ w'.cell? ⟨bx, 1, none⟩ = some (.int .i64 (r.dev k).long) ∧ w'.cell? ⟨bx, 2, none⟩ = some (.int .i64 (r.dev k).id) ∧ w'.cell? ⟨bx, 3, none⟩ = some (.slice (r.plc k).ra (r.dev k).regs.n (r.plc k).rc) ∧ w'.cell? ⟨bx, 4, none⟩ = some (.slice (r.plc k).ia (r.dev k).ins.n (r.plc k).ic) ∧ w'.cell? ⟨rb, 2, none⟩ = some (.slice (some ⟨gc, 0, none⟩) r.n p2) ∧ w'.cell? ⟨gc, k, none⟩ = some (.string (bs (ps k).code)))
      (first | exact ⟨x0, x1, x2, x3, x4, y2, ycc⟩ | assumption | exact HK.out _ ((hB2.setCell (Nat.le_refl _) _).setCell (Nat.le_refl _) _) | exact HK.out _ (hB2.alloc hB2.size _) | exact HK.out _ (((hB2.alloc hB2.size _).setCell hB2.size _).setCell hB2.size _) | go_keep)
      ((go_at_call 75; refine (hsel _ (by first | exact (Below.refl _ W).drew | exact (((Below.refl _ W).drew).alloc (Nat.le_refl _) _))).mono ?_; rintro e w2 ⟨rfl, hB2, hBW2, hS2⟩; have hcl := (bcell hBW2).1; have hfz := (bcell hBW2).2))
    all_goals
      go_wp2_with fail
      go_meet
      first
        | exact ⟨_, rfl, cell_fresh _ _ _ rfl, cell_fresh _ _ _ rfl, hB2.alloc hB2.size _⟩
        | exact ⟨_, rfl, by rw [World.cell?_setCell_other _ _ _ _ (by simp)]; exact World.cell?_setCell_same _ _ _ ((hcl _ _ (by simp)).trans (cell_fresh _ _ _ rfl)), World.cell?_setCell_same _ _ _ (v1 _ ((hcl _ _ (by simp)).trans (cell_fresh _ _ _ rfl))), (hB2.setCell (Nat.le_refl _) _).setCell (Nat.le_refl _) _⟩
  case rest =>
    obtain ⟨kb, rfl, k0, k1, hB⟩ := hcut
    clear hsel x0 x1 x2 x3 x4 y2 ycc hBW
    have hR := HRW.out.below hB
    have hsure := hR.sure k hk
    have hgood := hR.good k hk
    obtain ⟨sk, hsk, hkn, hskz⟩ := selOf_known (r.dev k) hsure.right (ps k).code
    have hnm : nm.data.toList = selOf (r.dev k) (ps k).code := by
      rw [HNM.out, selN_sel _ _ hsure, bs_list]
    have hnmsk : nm = sk := by
      apply ByteArray.ext
      apply Array.ext'
      rw [hnm, hsk]
    subst hnmsk
    obtain ⟨M, hM, hM2⟩ := hR.outM
    have hnz := (hR.devs.ok hk).name
    have hkey := pair_key (r.dev k).name nm hnz hskz
    have hlook : (Instr.lookup 72 (.map (some mo)) (.agg #[.string (r.dev k).name, .string nm]) true).run Tryz.prog wc.drew = .ok (.tuple #[litVal ((M (pairL (r.dev k).name.data.toList nm.data.toList)).getD (.string [])), .bool (M (pairL (r.dev k).name.data.toList nm.data.toList)).isSome]) wc.drew :=
      LMap.look_ok pair_law Tryz.underlying72 litVal (fun v l ps hv => plainElem_litVal hv) (.string []) (Tryz.zeroStr _) (plain_str ⟨#[]⟩ (by decide)) hM.drew _ _ hkey
    rw [hM2.1 k hk nm hskz, hnm] at hlook
    have r5 := hR.c5
    obtain ⟨p3, r3⟩ := hR.c3
    have rsh := (hR.shift k hk).1
    have hlR := hR.lt
    cases hy : ((ps k).out (selOf (r.dev k) (ps k).code)).isSome with
    | false =>
      have ef : actS 8 (r.dev k) (ps k) = ps k := (show actS 8 (r.dev k) (ps k) = (if ((ps k).out (selOf (r.dev k) (ps k).code)).isSome = true then { ps k with out := putS (ps k).out (selOf (r.dev k) (ps k).code) (.string (ps k).sh) } else ps k) from rfl).trans (if_neg (by rw [hy]; decide))
      rw [hy] at hlook
      generalize litVal (((ps k).out (selOf (r.dev k) (ps k).code)).getD (.string [])) = v0 at hlook
      have hsame : updP ps k (actS 8 (r.dev k) (ps k)) = ps := by
        funext j
        by_cases e : j = k
        · rw [e, updP_at, ef]
        · rw [updP_ne _ _ e]
      have HS := Lib.hid hsame
      have HR := Lib.hid hR
      clear ef hy hsame hR hM hM2 hsure hgood hkn hsk hnm hkey
      go_wp2_with fail
      go_still_tail 10, (by kernel_rfl)
      change wpList _ _ _ _ _ wc.drew
      go_wp2_with fail
      go_end0
      refine ⟨rfl, ?_, ?_⟩
      · rw [HS.out]
        exact HR.out.drew.more (Nat.le_succ N)
      · exact (HT.out.below hB).drew
    | true =>
      have ef : actS 8 (r.dev k) (ps k) = { ps k with out := putS (ps k).out (selOf (r.dev k) (ps k).code) (.string (ps k).sh) } := (show actS 8 (r.dev k) (ps k) = (if ((ps k).out (selOf (r.dev k) (ps k).code)).isSome = true then { ps k with out := putS (ps k).out (selOf (r.dev k) (ps k).code) (.string (ps k).sh) } else ps k) from rfl).trans (if_pos (by rw [hy]))
      rw [hy] at hlook
      generalize litVal (((ps k).out (selOf (r.dev k) (ps k).code)).getD (.string [])) = v0 at hlook
      have hplain := plain_str (bs (ps k).sh) (by rw [bs_size]; have := hgood.shL; omega)
      rw [bs_list] at hplain
      obtain ⟨w3, hrun, hm3, hg3⟩ := (hM.drew.drew).update_run pair_law Tryz.underlying72 (by omega) _ _ hkey (.string (ps k).sh) _ hplain
      have hfin : RefAt B (N + 1) w3 rb gc gs mi mo (some ⟨b, off, none⟩) dcap 8 r (updP ps k (actS 8 (r.dev k) (ps k))) := by
        obtain ⟨n1, n2, n3, n4, n5, n6, n7, n8, n9, n10⟩ := hR.far
        have hb3 : ∀ x, x < wc.heap.size → x ≠ mo → w3.heap[x]? = wc.heap[x]? := fun x hx hne => hg3.block x hx (fun e => hne (Option.some.inj e))
        have hTm : Touch (fun b => b = gc ∨ b = gs ∨ b = mo) wc w3 := ⟨hg3.os, hg3.tape, hg3.output, hg3.size, fun x hx hn => hb3 x hx (fun e => hn (.inr (.inr e)))⟩
        have hcode : ∀ j, (updP ps k (actS 8 (r.dev k) (ps k)) j).code = (ps j).code := fun j => by
          by_cases e : j = k
          · rw [e, updP_at, ef]
          · rw [updP_ne _ _ e]
        have hshf : ∀ j, (updP ps k (actS 8 (r.dev k) (ps k)) j).sh = (ps j).sh := fun j => by
          by_cases e : j = k
          · rw [e, updP_at, ef]
          · rw [updP_ne _ _ e]
        refine hR.upd hTm (fun j hj => ?_) (fun j hj => ?_) ⟨_, hm3, fun j hj s hs => ?_, hM2.2.over hnz hskz (by rw [hM2.1 k hk nm hskz, hnm]; exact hy) _⟩ (by rw [ef]) (fun hk => Good.act hgood hsure.right 8) (Nat.le_succ N)
        · rw [hcode]
          exact ⟨(World.cell?_of_block (a := ⟨gc, j, none⟩) (hb3 gc hlR.2.1 n7)).trans (hR.codes j hj).1, (World.frozen?_of_block (a := ⟨gc, j, none⟩) (hb3 gc hlR.2.1 n7)).trans (hR.codes j hj).2⟩
        · rw [hshf]
          exact ⟨(World.cell?_of_block (a := ⟨gs, j, none⟩) (hb3 gs hlR.2.2.1 n9)).trans (hR.shift j hj).1, (World.frozen?_of_block (a := ⟨gs, j, none⟩) (hb3 gs hlR.2.2.1 n9)).trans (hR.shift j hj).2⟩
        · have hjz := (hR.devs.ok hj).name
          by_cases e : j = k
          · subst e
            rw [updP_at, ef]
            show putL M _ _ _ = putS _ _ _ _
            unfold putL putS
            by_cases e2 : s = nm
            · subst e2
              rw [if_pos rfl, if_pos hnm]
            · rw [if_neg (fun h5 => e2 (pair_inj hjz hs hjz hskz h5).2), if_neg ?_]
              · exact hM2.1 j hj s hs
              · intro h5
                apply e2
                apply ByteArray.ext
                apply Array.ext'
                rw [h5, hnm]
          · rw [updP_ne _ _ e]
            show putL M _ _ _ = _
            unfold putL
            rw [if_neg (fun h5 => hR.names j k hj hk e (pair_inj hjz hs hnz hskz h5).1)]
            exact hM2.1 j hj s hs
      have hTf : Touch (fun b => b = gc ∨ b = gs ∨ b = mo) w w3 := by
        exact Touch.grown (S := fun b => b = gc ∨ b = gs ∨ b = mo) ((HT.out.below hB).drew.drew) hg3 (fun x e _ => by cases e; exact .inr (.inr rfl))
      have HF := Lib.hid (⟨hfin, hTf⟩ : _ ∧ _)
      clear ef hy hR hM hM2 hsure hgood hkn hsk hnm hkey hplain hm3 hg3 hfin hTf
      go_wp2_with fail
      go_still_tail 10, (by kernel_rfl)
      change wpList _ _ _ _ _ wc.drew
      go_wp2_with fail
      have r5W : wc.drew.cell? ⟨rb, 5, none⟩ = some (.map (some mo)) := r5
      have r3W : wc.drew.cell? ⟨rb, 3, none⟩ = some (.slice (some ⟨gs, 0, none⟩) r.n p3) := r3
      have k0W : wc.drew.cell? ⟨kb, 0, none⟩ = some (.string (r.dev k).name) := k0
      have k1W : wc.drew.cell? ⟨kb, 1, none⟩ = some (.string nm) := k1
      have rshW : wc.drew.cell? ⟨gs, k, none⟩ = some (.string (bs (ps k).sh)) := rsh
      clear hlook r5 r3 k0 k1 rsh
      generalize wc.drew = W2 at r5W r3W k0W k1W rshW hrun ⊢
      go_region
      all_goals
        go_wp2_with fail
        go_end0
        exact ⟨rfl, HF.out⟩
end Go.Proofs.YtkipkkaloiefpaaGreatDoor
