/- The reference's Input. -/
import Derived.Test.YtkipkkaloiefpaaGreatDoorM13
import Derived.Test.YtkipkkaloiefpaaGreatDoorM12
import Derived.Test.YtkipkkaloiefpaaGreatDoorShiftRo
import Derived.Test.YtkipkkaloiefpaaGreatDoorM1
namespace Go.Proofs.YtkipkkaloiefpaaGreatDoor
open Go.RowKit Go.Maps

/-- The reference, an input set. -/
theorem RefAt.input {B N : Nat} {w : World} {rb gc gs mi mo : Nat} {da : Option Addr} {dcap st : Nat} {r : Devs} {ps : Nat → PS} (h : RefAt B N w rb gc gs mi mo da dcap st r ps) {k : Nat} (hk : k < r.n) (hN : N < 900000) (rg bits : ByteArray) (hz : rg.size ≤ 1048576) (hon : hasName (r.dev k).regs.name rg (r.dev k).regs.n = true) {l0 : List UInt8} (hl0 : (ps k).inp rg.data.toList = some (.string l0)) (hlen : bits.data.toList.length = l0.length) (hbits : bits.data.toList.all bitB = true) :
    ∃ w', (Instr.mapUpdate 72 (.map (some mi)) (.agg #[.string (r.dev k).name, .string rg]) (.string bits)).run Tryz.prog w = .ok () w' ∧ RefAt B (N + 1) w' rb gc gs mi mo da dcap st r (updP ps k (putInp (ps k) rg.data.toList bits.data.toList)) ∧ Touch (fun b => b = mi) w w' := by
  obtain ⟨li, i1, i2, i3, i4⟩ := (h.good k hk).inpS rg (by unfold knownB; rw [hon]; simp)
  rw [hl0] at i1
  cases i1
  have hbz : bits.size ≤ 1000 := by
    have : bits.data.toList.length = bits.size := by simp
    omega
  obtain ⟨M, hM, h1, h2⟩ := h.inM
  have hnz := (h.devs.ok hk).name
  obtain ⟨w', hrun, hm, hgr⟩ := hM.update_run pair_law Tryz.underlying72 (by omega) _ _ (pair_key (r.dev k).name rg hnz hz) (.string bits.data.toList) _ (plain_str bits (by omega))
  obtain ⟨l1, l2, l3, l4, l5⟩ := h.lt
  obtain ⟨n1, n2, n3, n4, n5, n6, n7, n8, n9, n10⟩ := h.far
  obtain ⟨u1, u2, u3, u4, u5⟩ := h.up
  have hb : ∀ b, b < w.heap.size → b ≠ mi → w'.heap[b]? = w.heap[b]? := fun b hb hne => hgr.block b hb (fun e => hne (Option.some.inj e))
  have hbl : Below B w w' := ⟨hgr.os, hgr.tape, hgr.output, hgr.size, fun b hb' => hb b (by omega) (by omega)⟩
  have hrb := hb rb l1 n3
  have hc : ∀ j, w'.cell? ⟨rb, j, none⟩ = w.cell? ⟨rb, j, none⟩ := fun j => World.cell?_of_block (a := ⟨rb, j, none⟩) hrb
  obtain ⟨c2p, c2⟩ := h.c2
  obtain ⟨c3p, c3⟩ := h.c3
  obtain ⟨M', hM', hM2'⟩ := h.outM
  have hup : ∀ j, (updP ps k (putInp (ps k) rg.data.toList bits.data.toList) j).code = (ps j).code ∧ (updP ps k (putInp (ps k) rg.data.toList bits.data.toList) j).sh = (ps j).sh ∧ (updP ps k (putInp (ps k) rg.data.toList bits.data.toList) j).out = (ps j).out := fun j => by
    by_cases e : j = k
    · rw [e, updP_at]
      exact ⟨rfl, rfl, rfl⟩
    · rw [updP_ne _ _ e]
      exact ⟨rfl, rfl, rfl⟩
  have hinp : ∀ j, j < r.n → ∀ s : List UInt8, (j = k → s ≠ rg.data.toList) → (updP ps k (putInp (ps k) rg.data.toList bits.data.toList) j).inp s = (ps j).inp s := fun j hj s hs => by
    by_cases e : j = k
    · subst e
      rw [updP_at]
      show putS _ _ _ _ = _
      unfold putS
      rw [if_neg (hs rfl)]
    · rw [updP_ne _ _ e]
  refine ⟨w', hrun, ?_, hgr.os, hgr.tape, hgr.output, hgr.size, fun b hbl hn => hb b hbl hn⟩
  exact { h with
    devs := h.devs.below hbl (Nat.le_refl _)
    c0 := (hc 0).trans h.c0
    c1 := (hc 1).trans h.c1
    f1 := (World.frozen?_of_block (a := ⟨rb, 1, none⟩) hrb).trans h.f1
    c2 := ⟨c2p, (hc 2).trans c2⟩
    c3 := ⟨c3p, (hc 3).trans c3⟩
    c4 := (hc 4).trans h.c4
    c5 := (hc 5).trans h.c5
    codes := fun j hj => by
      rw [(hup j).1]
      exact ⟨(World.cell?_of_block (a := ⟨gc, j, none⟩) (hb gc l2 n6)).trans (h.codes j hj).1, (World.frozen?_of_block (a := ⟨gc, j, none⟩) (hb gc l2 n6)).trans (h.codes j hj).2⟩
    shift := fun j hj => by
      rw [(hup j).2.1]
      exact ⟨(World.cell?_of_block (a := ⟨gs, j, none⟩) (hb gs l3 n8)).trans (h.shift j hj).1, (World.frozen?_of_block (a := ⟨gs, j, none⟩) (hb gs l3 n8)).trans (h.shift j hj).2⟩
    inM := ⟨_, hm, fun j hj s hs => by
      have hsz : s.size ≤ 1048576 := by
        obtain ⟨m, hm2, rfl⟩ := hasName_at _ hs
        obtain ⟨b, off, _, _, hcc⟩ := (h.devs.ok hj).regs.cells (by omega)
        exact (hcc m hm2).2.2
      have hjz := (h.devs.ok hj).name
      by_cases e : j = k ∧ s = rg
      · obtain ⟨rfl, rfl⟩ := e
        rw [updP_at]
        show putL M _ _ _ = putS _ _ _ _
        unfold putL putS
        rw [if_pos rfl, if_pos rfl]
      · rw [hinp j hj s.data.toList (fun e2 e3 => e ⟨e2, by apply ByteArray.ext; apply Array.ext'; exact e3⟩)]
        show putL M _ _ _ = _
        unfold putL
        rw [if_neg]
        · exact h1 j hj s hs
        · intro e2
          obtain ⟨e3, e4⟩ := pair_inj hjz hsz hnz hz e2
          exact e ⟨Classical.byContradiction fun hne => h.names j k hj hk hne e3, e4⟩, h2.put hnz hz hk rfl hon _⟩
    outM := ⟨M', (hM'.block (hb mo l5 (Ne.symm n10))).up (Nat.le_succ N), fun j hj s hs => by rw [(hup j).2.2]; exact hM2'.1 j hj s hs, hM2'.2⟩
    byp := fun j hj => by
      rw [hinp j hj _ (fun e1 e2 => by
        subst e1
        have h3 := (h.sure j hj).notByp
        have : bypassS = rg := by apply ByteArray.ext; apply Array.ext'; exact e2
        rw [this, hon] at h3
        cases h3)]
      exact h.byp j hj
    idc := fun j hj hi => by
      rw [hinp j hj _ (fun e1 e2 => by
        subst e1
        have h3 := (h.sure j hj).notIdc
        have : idcodeS = rg := by apply ByteArray.ext; apply Array.ext'; exact e2
        rw [this, hon] at h3
        cases h3)]
      exact h.idc j hj hi
    good := fun j hj => by
      by_cases e : j = k
      · subst e
        rw [updP_at]
        exact (h.good j hj).input rg (fun e => i2 (List.length_eq_zero_iff.1 (by rw [← hlen, e]; rfl))) hbits (by omega)
      · rw [updP_ne _ _ e]
        exact h.good j hj }

section
variable {q : Tw} {B x N : Nat} {w : World} {s1 s2 : Nat} {p1 p2 : Nat → PS}

theorem Two.own2 (h : Two q B x N w s1 s2 p1 p2) (rg : ByteArray) (hr : rg.size ≤ 1048576) : ∀ k, k < q.r.n → hasName (q.r.dev k).regs.name rg (q.r.dev k).regs.n = false → (p2 k).out rg.data.toList = none := by
  obtain ⟨o, hB, ho, hx, hC, hR, hg, hT, hTB⟩ := h
  exact fun k hk hno => hR.own hk rg hr hno

set_option maxHeartbeats 2000000 in
set_option maxRecDepth 100000 in
theorem refInput_any (h : Two q B x N w s1 s2 p1 p2) (hL : LenAll q.r s2 p2) (hN : N < 900000) (dv rg bits : ByteArray) (hz : dv.size ≤ 1048576) (hz2 : rg.size ≤ 1048576) (hz3 : bits.size ≤ 1000000) :
    Calls Tryz.prog 42 #[.pointer (some ⟨q.rb, 0, none⟩), .string dv, .string rg, .string bits] w fun e w' => e = .returned (.int .i64 (setQ q.r p2 dv rg bits)) ∧ Two q B x (N + 1) w' s1 s2 p1 (if setQ q.r p2 dv rg bits = 0 then setP q.r p2 dv rg bits else p2) ∧ Below B w w' := by
  have hBs := h.lt.2.2.2.2.2.2.2.2.1
  obtain ⟨W1, hW1⟩ : ∃ W1 : World, W1 = w.alloc (.cells #[.string dv, .string rg] 75) := ⟨_, rfl⟩
  have hB1 : Below w.heap.size w W1 := by rw [hW1]; exact (Below.refl _ w).alloc (Nat.le_refl _) _
  obtain ⟨kb, hkb⟩ : ∃ kb, kb = w.heap.size := ⟨_, rfl⟩
  have k0 : W1.cell? ⟨kb, 0, none⟩ = some (.string dv) := by rw [hW1, hkb]; exact cell_fresh _ _ _ rfl
  have k1 : W1.cell? ⟨kb, 1, none⟩ = some (.string rg) := by rw [hW1, hkb]; exact cell_fresh _ _ _ rfl
  have hkl : kb < W1.heap.size := by rw [hW1, hkb]; simp
  have h1 : Two q B x N W1 s1 s2 p1 p2 := h.later hB1
  have hbits := fun W => bitsFault_any bits W (by omega)
  have h1' := h1
  obtain ⟨o, hB, ho, hx, hC, hR, hg, hT, hTB⟩ := h1'
  obtain ⟨M, hM, hM2⟩ := hR.inQ hL dv rg hz hz2
  have c4 := hR.c4
  have lrb := hR.lt.1
  have hl := LMap.look_ok pair_law Tryz.underlying72 litVal (fun v l ps hv => plainElem_litVal hv) (.string []) (Tryz.zeroStr _) (plain_str ⟨#[]⟩ (by decide)) hM.drew _ _ (pair_key dv rg hz hz2)
  have hf1 : W1.frozen? ⟨kb, 0, none⟩ = false := by rw [hW1, hkb]; exact frozen_fresh _ _ _ _
  rcases hM2 with ⟨hq, hm⟩ | ⟨k, l, l', hk, hd, hdn, hon, hq, hli, hm, hll⟩
  · have hs : setQ q.r p2 dv rg bits = 8 := by unfold setQ; rw [hq]
    rw [hs, if_neg (by decide)]
    rw [hm] at hl
    change _ = Result.ok (Value.tuple #[.string ⟨#[]⟩, .bool false]) W1.drew at hl
    have HF := Lib.hid (⟨(h1.later (w' := W1.drew) ⟨rfl, rfl, rfl, Nat.le_refl _, fun _ _ => rfl⟩).more (Nat.le_succ N), (hB1.mono hBs).drew⟩ : _ ∧ _)
    clear h h1 hL hs hq hB ho hx hC hR hg hT hTB hM hm hbits hB1
    go_enter Tryz.func42, Tryz.ntmps42
    go_wp2_with fail
    rw [← hW1, ← hkb]
    clear hW1 hkb
    go_still_tail 10, (by kernel_rfl)
    change wpList _ _ _ _ _ W1.drew
    go_wp2_with fail
    go_ret
    exact ⟨rfl, HF.out⟩
  · have hlz : (bs l).size = (bs l').size := by rw [bs_size, bs_size]; exact hll
    have hs : setQ q.r p2 dv rg bits = codeErr bits ((bs l).size : Int) := by unfold setQ; rw [hq, hlz]; rfl
    rw [hm] at hl
    change _ = Result.ok (Value.tuple #[.string (bs l), .bool true]) W1.drew at hl
    have hlz1 : l.length ≤ 1000 := by
      obtain ⟨li, i1, i2, i3, i4⟩ := (hR.good k hk).inpS rg (by unfold knownB; rw [hon]; simp)
      rw [hli] at i1
      cases i1
      exact i4
    have hmul : ((bs l).size : Int) ≤ 1000 := by rw [bs_size]; omega
    have hsp : setP q.r p2 dv rg bits = updP p2 k (putInp (p2 k) rg.data.toList bits.data.toList) := by unfold setP; rw [hd]
    rw [hs, hsp]
    unfold codeErr
    have hlens : ((bits.size : Int) == ((bs l).size : Int)) = true → bits.data.toList.length = l.length := fun e => by
      have h3 : (bits.size : Int) = ((bs l).size : Int) := by simpa using e
      have h4 := bs_size l
      have h2 : bits.data.toList.length = bits.size := by simp
      omega
    generalize bs l = sl at hl hmul hlens ⊢
    cases he : ((bits.size : Int) == (sl.size : Int)) with
    | false =>
      have hne : ((bits.size : Int) != (sl.size : Int)) = true := by rw [bne, he]; rfl
      show Calls _ _ _ _ fun e w' => e = .returned (.int .i64 3) ∧ Two q B x (N + 1) w' s1 s2 p1 p2 ∧ _
      have HF := Lib.hid (⟨(h1.later (w' := W1.drew) ⟨rfl, rfl, rfl, Nat.le_refl _, fun _ _ => rfl⟩).more (Nat.le_succ N), (hB1.mono hBs).drew⟩ : _ ∧ _)
      clear h h1 hL hs hq hB ho hx hC hR hg hT hTB hM hm hbits hB1 hd hdn hon hli hll hlens he hlz hsp
      go_enter Tryz.func42, Tryz.ntmps42
      go_wp2_with fail
      rw [← hW1, ← hkb]
      clear hW1 hkb
      go_still_tail 10, (by kernel_rfl)
      change wpList _ _ _ _ _ W1.drew
      go_wp2_with fail
      go_ret
      exact ⟨rfl, HF.out⟩
    | true =>
      have hne : ((bits.size : Int) != (sl.size : Int)) = false := by rw [bne, he]; rfl
      have hlen := hlens he
      cases hb : bits.data.toList.all bitB with
      | false =>
        rw [hb] at hbits
        change ∀ W, Calls _ _ _ W fun e w' => e = .returned (.int .i64 9) ∧ _ at hbits
        show Calls _ _ _ _ fun e w' => e = .returned (.int .i64 9) ∧ Two q B x (N + 1) w' s1 s2 p1 p2 ∧ _
        have HF := Lib.hid (fun (W : World) (hW : Below W1.drew.heap.size W1.drew W) => (⟨((h1.later (w' := W1.drew) ⟨rfl, rfl, rfl, Nat.le_refl _, fun _ _ => rfl⟩).later hW).more (Nat.le_succ N), (hB1.mono hBs).drew.trans (hW.mono (Nat.le_trans hBs hB1.size))⟩ : Two q B x (N + 1) W s1 s2 p1 p2 ∧ Below B w W))
        clear h h1 hL hs hq hB ho hx hC hR hg hT hTB hM hm hB1 hd hdn hon hli hll hlens he hlz hsp hb hlen
        go_enter Tryz.func42, Tryz.ntmps42
        go_wp2_with fail
        rw [← hW1, ← hkb]
        clear hW1 hkb
        go_still_tail 10, (by kernel_rfl)
        change wpList _ _ _ _ _ W1.drew
        go_wp2_with fail
        refine (hbits _).mono ?_
        rintro e w3 ⟨rfl, hB3⟩
        clear hbits
        go_wp2_with fail
        go_ret
        exact ⟨rfl, HF.out _ hB3⟩
      | true =>
        rw [hb] at hbits
        change ∀ W, Calls _ _ _ W fun e w' => e = .returned (.int .i64 0) ∧ _ at hbits
        show Calls _ _ _ _ fun e w' => e = .returned (.int .i64 0) ∧ Two q B x (N + 1) w' s1 s2 p1 (updP p2 k (putInp (p2 k) rg.data.toList bits.data.toList)) ∧ _
        have hstep : ∀ W, Below W1.drew.heap.size W1.drew W → W.cell? ⟨q.rb, 4, none⟩ = some (.map (some q.mi)) ∧ W.cell? ⟨kb, 0, none⟩ = some (.string dv) ∧ W.cell? ⟨kb, 1, none⟩ = some (.string rg) ∧ ∃ w', (Instr.mapUpdate 72 (.map (some q.mi)) (.agg #[.string dv, .string rg]) (.string bits)).run Tryz.prog W.drew = .ok () w' ∧ Two q B x (N + 1) w' s1 s2 p1 (updP p2 k (putInp (p2 k) rg.data.toList bits.data.toList)) ∧ Below B w w' := by
          intro W hW
          have hT2 : Two q B x N W.drew s1 s2 p1 p2 := ((h1.later (w' := W1.drew) ⟨rfl, rfl, rfl, Nat.le_refl _, fun _ _ => rfl⟩).later hW).later ⟨rfl, rfl, rfl, Nat.le_refl _, fun _ _ => rfl⟩
          have hT3 := hT2
          obtain ⟨o', hB', ho', hx', hC', hR', hg', hT', hTB'⟩ := hT3
          obtain ⟨w', hrun, hR2, hTo⟩ := hR'.input hk hN rg bits hz2 hon hli hlen hb
          rw [hdn] at hrun
          have h5 := hT2.ref (Nat.le_succ N) hR2 (hTo.mono fun y _ hy => .inr (.inr (.inr (.inl hy))))
          exact ⟨(hW.cell (p := ⟨q.rb, 4, none⟩) lrb).trans c4, (hW.cell (p := ⟨kb, 0, none⟩) hkl).trans k0, (hW.cell (p := ⟨kb, 1, none⟩) hkl).trans k1, w', hrun, h5.1, (((hB1.mono hBs).drew.trans (hW.mono (Nat.le_trans hBs hB1.size))).drew).trans h5.2⟩
        have HS := Lib.hid hstep
        clear h h1 hL hs hq hB ho hx hC hR hg hT hTB hM hm hB1 hd hdn hon hli hll hlens he hlz hsp hb hlen hstep
        go_enter Tryz.func42, Tryz.ntmps42
        go_wp2_with fail
        rw [← hW1, ← hkb]
        clear hW1 hkb
        go_still_tail 10, (by kernel_rfl)
        change wpList _ _ _ _ _ W1.drew
        go_wp2_with fail
        refine (hbits _).mono ?_
        rintro e w3 ⟨rfl, hB3⟩
        clear hbits
        obtain ⟨d4, e0, e1, w4, hrun, hT4, hB4⟩ := HS.out w3 hB3
        have HT := Lib.hid (⟨hT4, hB4⟩ : _ ∧ _)
        clear hB3 hT4 hB4 hl c4 k0 k1
        go_wp2_with fail
        go_region
        all_goals
          go_wp2_with fail
          go_ret
          exact ⟨rfl, HT.out⟩
end
end Go.Proofs.YtkipkkaloiefpaaGreatDoor
/- The program's SetInput. -/
namespace Go.Proofs.YtkipkkaloiefpaaGreatDoor
open Go.RowKit Go.Maps

/-- Behind a change of the inputs. -/
theorem PortOf.inputs {o : Nat → Nat} {k N : Nat} {w w' : World} {pb m1 m3 m4 bb : Nat} {d : Dev} {p : PS} (h : PortOf o k N w pb m1 m3 m4 bb d p) (M : List UInt8 → Option Lit) (hm : StrMap Tryz.prog 9 9 w' m3 (N + 1) M) (hg : w.grownBy w' (some m3)) :
    PortOf o k (N + 1) w' pb m1 m3 m4 bb d { p with inp := M } := by
  obtain ⟨l1, l2, l3, l4, l5⟩ := h.lt
  obtain ⟨n1, n2, n3, n4, n5, n6, n7, n8, n9, n10⟩ := h.far
  have hb : ∀ b, b < w.heap.size → b ≠ m3 → w'.heap[b]? = w.heap[b]? := fun b hb h1 => hg.block b hb (fun e => h1 (Option.some.inj e))
  have hp := hb pb l1 n2
  have hc : ∀ j, w'.cell? ⟨pb, j, none⟩ = w.cell? ⟨pb, j, none⟩ := fun j => World.cell?_of_block (a := ⟨pb, j, none⟩) hp
  exact ⟨(hc 0).trans h.c0, (hc 1).trans h.c1, (hc 2).trans h.c2, (hc 3).trans h.c3, (hc 4).trans h.c4, (hc 5).trans h.c5, (hc 6).trans h.c6, fun j hj => (World.frozen?_of_block (a := ⟨pb, j, none⟩) hp).trans (h.free j hj),
    h.sh.block hp (hb bb l5 n6), h.map1.block (hb m1 l2 n8), hm, (h.map4.block (hb m4 l4 (Ne.symm n10))).up (by omega), h.own, h.far⟩

section
variable {q : Tw} {B x N : Nat} {w : World} {s1 s2 : Nat} {p1 p2 : Nat → PS}

/-- The chain, an input set. -/
theorem Two.input (h : Two q B x N w s1 s2 p1 p2) {k : Nat} (hk : k < q.r.n) (hN : N < 900000) (rg bits : ByteArray) (hz : rg.size ≤ 1048576) (hb0 : bits.data.toList ≠ []) (hbz : bits.size ≤ 1000) (hbits : bits.data.toList.all bitB = true) :
    ∃ m3, w.cell? ⟨q.pbs k, 3, none⟩ = some (.map (some m3)) ∧ ∃ w', (Instr.mapUpdate 107 (.map (some m3)) (.string rg) (.string bits)).run Tryz.prog w = .ok () w' ∧ Two q B x (N + 1) w' s1 s2 (updP p1 k (putInp (p1 k) rg.data.toList bits.data.toList)) p2 ∧ Below B w w' := by
  obtain ⟨o, hB, ho, hx, hC, hR, hg, hT, hTB⟩ := h
  obtain ⟨m1, m3, m4, bb, hP⟩ := hC.ports k hk
  have hplain := plain_str bits (by omega)
  obtain ⟨w', hrun, hm, hgr⟩ := hP.map3.update_run Tryz.underlying9 Tryz.underlying107 (by omega) rg hz (.string bits.data.toList) _ hplain
  refine ⟨m3, hP.c3, w', hrun, ?_⟩
  have hP' := hP.inputs _ hm hgr
  have hoo := hP.own.2.2.1
  have hb : ∀ b, b < w.heap.size → o b ≠ k → w'.heap[b]? = w.heap[b]? := fun b hb hne => hgr.block b hb (fun e => hne (by rw [Option.some.inj e]; exact hoo))
  obtain ⟨e1, e2, e3, e4, e5⟩ := hC.own
  have c1 := hC.cblt
  have c2 := hC.glt
  have c3 := hC.map2.lt
  have b1 := hb _ c1 (by omega)
  have b2 := hb _ c2 (by omega)
  have b3 := hb _ c3 (by omega)
  have hc : ∀ j, w'.cell? ⟨q.cb, j, none⟩ = w.cell? ⟨q.cb, j, none⟩ := fun j => World.cell?_of_block (a := ⟨q.cb, j, none⟩) b1
  have hC' : ChainAt o q.r.n (N + 1) w' q.cb q.g q.cap q.mb q.pbs s1 q.r.dev (updP p1 k (putInp (p1 k) rg.data.toList bits.data.toList)) := by
    refine ⟨hC.n_le, hC.st_lt, (hc 0).trans hC.c0, (World.frozen?_of_block (a := ⟨q.cb, 0, none⟩) b1).trans hC.f0, (hc 1).trans hC.c1, (hc 2).trans hC.c2, fun j hj => (World.cell?_of_block (a := ⟨q.g, j, none⟩) b2).trans (hC.row j hj), hC.map2.block b3, hC.own, Nat.lt_of_lt_of_le c2 hgr.size, fun j hj => ?_⟩
    by_cases e : j = k
    · subst e
      rw [updP_at]
      exact ⟨m1, m3, m4, bb, hP'⟩
    · rw [updP_ne _ _ e]
      exact ((hC.ports j hj).over' (fun _ _ e => e) (fun b hbl ej => hb b hbl (by omega))).up (Nat.le_succ N)
  have hgood : ∀ j, j < q.r.n → Good (q.r.dev j) (updP p1 k (putInp (p1 k) rg.data.toList bits.data.toList) j) := fun j hj => by
    by_cases e : j = k
    · subst e
      rw [updP_at]
      exact (hg j hj).input rg hb0 hbits (by simp; omega)
    · rw [updP_ne _ _ e]
      exact hg j hj
  have := Two.chain (o' := o) hB ho hx hR (fun _ _ => rfl) hC' ⟨hgr.os, hgr.tape, hgr.output, hgr.size, fun b hbl hn => hb b hbl (by omega)⟩ (Nat.le_succ N) hgood hT hTB
  exact ⟨this.1, this.2.1⟩

set_option maxHeartbeats 1000000 in
set_option maxRecDepth 100000 in
theorem setInput_any (h : Two q B x N w s1 s2 p1 p2) (hL : LenAll q.r s1 p1) (hN : N < 900000) (dv rg bits : ByteArray) (hz : dv.size ≤ 1048576) (hz2 : rg.size ≤ 1048576) (hz3 : bits.size ≤ 1000000) (hown : ∀ k, k < q.r.n → hasName (q.r.dev k).regs.name rg (q.r.dev k).regs.n = false → (p1 k).out rg.data.toList = none) :
    Calls Tryz.prog 41 #[.pointer (some ⟨q.cb, 0, none⟩), .string dv, .string rg, .string bits] w fun e w' => e = .returned (.int .i64 (setQ q.r p1 dv rg bits)) ∧ Two q B x (N + 1) w' s1 s2 (if setQ q.r p1 dv rg bits = 0 then setP q.r p1 dv rg bits else p1) p2 ∧ Below B w w' := by
  have hout := output_any h hL dv rg hz hz2
  have hBs := h.lt.2.2.2.2.2.2.2.2.1
  rcases outQ_str hL dv rg with hq | ⟨l, hq⟩
  · have hs : setQ q.r p1 dv rg bits = 8 := by unfold setQ; rw [hq]
    rw [hs, if_neg (by decide)]
    rw [hq] at hout
    change Calls _ _ _ _ fun e w' => e = .returned (.tuple #[.string ⟨#[]⟩, .int .i64 8]) ∧ w = w' at hout
    have HF := Lib.hid (h.more (Nat.le_succ N))
    clear h hL hs hq hown
    go_enter Tryz.func41, Tryz.ntmps41
    go_wp2_with fail
    refine hout.mono ?_
    rintro e w' ⟨rfl, rfl⟩
    clear hout
    go_wp2_with fail
    go_ret
    exact ⟨rfl, HF.out, Below.refl _ _⟩
  · have hs : setQ q.r p1 dv rg bits = codeErr bits ((bs l).size : Int) := by unfold setQ; rw [hq]; rfl
    rw [hs]
    rw [hq] at hout
    change Calls _ _ _ _ fun e w' => e = .returned (.tuple #[.string (bs l), .int .i64 0]) ∧ w = w' at hout
    have hcode := fun W => checkCode_any bits ((bs l).size : Int) W (by omega)
    by_cases h0 : codeErr bits ((bs l).size : Int) = 0
    · rw [if_pos h0, h0]
      rw [h0] at hcode
      obtain ⟨hlk, -⟩ := h.look dv hz
      obtain ⟨k, hk, hd⟩ : ∃ k, k < q.r.n ∧ devIx q.r.name dv q.r.n = some k := by
        cases hx : devIx q.r.name dv q.r.n with
        | none => unfold outQ at hq; rw [hx] at hq; cases hq
        | some k => exact ⟨k, (devIx_some _ hx).1, rfl⟩
      have ho : (p1 k).out rg.data.toList = some (.string l) := by unfold outQ at hq; rw [hd] at hq; exact hq
      have hon : hasName (q.r.dev k).regs.name rg (q.r.dev k).regs.n = true := by
        cases e : hasName (q.r.dev k).regs.name rg (q.r.dev k).regs.n with
        | true => rfl
        | false => rw [hown k hk e] at ho; cases ho
      obtain ⟨l0, l', e1, e2, e3⟩ := (hL k hk).own rg hon
      rw [ho] at e2
      cases e2
      obtain ⟨li, i1, i2, i3, i4⟩ := (h.good1 k hk).inpS rg (by unfold knownB; rw [hon]; simp)
      rw [e1] at i1
      cases i1
      have hcb : ((bits.size : Int) == ((bs l).size : Int)) = true ∧ bits.data.toList.all bitB = true := by
        unfold codeErr at h0
        cases hz : ((bits.size : Int) == ((bs l).size : Int)) with
        | false => rw [hz] at h0; simp at h0
        | true =>
          rw [hz] at h0
          cases hb : bits.data.toList.all bitB with
          | true => exact ⟨rfl, rfl⟩
          | false => rw [hb] at h0; simp at h0
      have hlen : bits.data.toList.length = l0.length := by
        have h1 : (bits.size : Int) = ((bs l).size : Int) := by simpa using hcb.1
        have h2 : bits.data.toList.length = bits.size := by simp
        have h4 := bs_size l
        omega
      have hbz : bits.size ≤ 1000 := by
        have h2 : bits.data.toList.length = bits.size := by simp
        omega
      have hsp : setP q.r p1 dv rg bits = updP p1 k (putInp (p1 k) rg.data.toList bits.data.toList) := by unfold setP; rw [hd]
      rw [hsp]
      have hstep : ∀ W, Below w.heap.size w W → W.cell? ⟨q.cb, 2, none⟩ = some (.map (some q.mb)) ∧ (Instr.lookup 59 (.map (some q.mb)) (.string dv) false).run Tryz.prog W = .ok (.pointer (some ⟨q.pbs k, 0, none⟩)) W ∧ ∃ m3, W.cell? ⟨q.pbs k, 3, none⟩ = some (.map (some m3)) ∧ ∃ w', (Instr.mapUpdate 107 (.map (some m3)) (.string rg) (.string bits)).run Tryz.prog W = .ok () w' ∧ Two q B x (N + 1) w' s1 s2 (updP p1 k (putInp (p1 k) rg.data.toList bits.data.toList)) p2 ∧ Below B w w' := by
        intro W hW
        have hl := h.later hW
        obtain ⟨-, hlk2⟩ := hl.look dv hz
        obtain ⟨m3, g1, w', g2, g3, g4⟩ := hl.input hk hN rg bits hz2 (fun e => i2 (List.length_eq_zero_iff.1 (by rw [← hlen, e]; rfl))) hbz hcb.2
        obtain ⟨o, _, _, _, hC, _⟩ := hl
        exact ⟨hC.c2, (hlk2 k hd).2, m3, g1, w', g2, g3, (hW.mono hBs).trans g4⟩
      have HS := Lib.hid hstep
      clear h hL hs hq hown hlk hd ho hon e1 e3 i2 i3 i4 hcb hlen hsp hstep h0
      go_enter Tryz.func41, Tryz.ntmps41
      go_wp2_with fail
      refine hout.mono ?_
      rintro e w' ⟨rfl, rfl⟩
      clear hout
      go_wp2_with fail
      refine (hcode _).mono ?_
      rintro e w2 ⟨rfl, hB2⟩
      clear hcode
      obtain ⟨c2, hlk, m3, c3, w3, hrun, hT3, hB3⟩ := HS.out w2 hB2
      have HT := Lib.hid (⟨hT3, hB3⟩ : _ ∧ _)
      clear hB2 hT3 hB3
      go_wp2_with fail
      go_ret
      exact ⟨rfl, HT.out.1, HT.out.2⟩
    · rw [if_neg h0]
      have hne : (codeErr bits ((bs l).size : Int) != 0) = true := by simpa using h0
      generalize codeErr bits ((bs l).size : Int) = ce at hcode hne ⊢
      have HF := Lib.hid (fun W (hW : Below w.heap.size w W) => (h.later hW).more (Nat.le_succ N))
      clear h hL hs hq hown h0
      go_enter Tryz.func41, Tryz.ntmps41
      go_wp2_with fail
      refine hout.mono ?_
      rintro e w' ⟨rfl, rfl⟩
      clear hout
      go_wp2_with fail
      refine (hcode _).mono ?_
      rintro e w2 ⟨rfl, hB2⟩
      clear hcode
      go_wp2_with fail
      go_ret
      exact ⟨rfl, HF.out _ hB2, hB2.mono hBs⟩
end
end Go.Proofs.YtkipkkaloiefpaaGreatDoor
/- A chain and a port that hold the same, beside the stream: what stays so. -/
namespace Go.Proofs.YtkipkkaloiefpaaGreatDoor
open Go.RowKit Go.Maps

/-- A state and ports that are right. -/
structure Fit (r : Devs) (X : Nat × (Nat → PS)) : Prop where
  st : X.1 < 16
  good : ∀ k, k < r.n → Good (r.dev k) (X.2 k)
  len : LenAll r X.1 X.2
theorem Fit.clk {r : Devs} {X : Nat × (Nat → PS)} (h : Fit r X) (hs : ∀ k, k < r.n → Right (r.dev k)) {t c : UInt8} (ht : bitB t = true) (hc : bitB c = true) : Fit r (clk r.dev X t c) :=
  ⟨nx_lt _ h.st t ht, Good.step h.good hs hc _, h.len.clk h.good h.st t c ht⟩
theorem Fit.fol {r : Devs} (hs : ∀ k, k < r.n → Right (r.dev k)) (l : List UInt8) : ∀ {X : Nat × (Nat → PS)}, Fit r X → l.all bitB = true → Fit r (fol r.dev X l) := by
  induction l with
  | nil => intro X h _; exact h
  | cons t l ih =>
    intro X h hb
    rw [List.all_cons, Bool.and_eq_true] at hb
    exact ih (h.clk hs hb.1 rfl) hb.2
theorem Fit.shTo {r : Devs} (hs : ∀ k, k < r.n → Right (r.dev k)) {X : Nat × (Nat → PS)} (h : Fit r X) {b : List UInt8} (hb : b.all bitB = true) : ∀ k, k ≤ b.length → Fit r (shTo r.dev X b k)
  | 0, _ => h
  | k + 1, hk => by
    have h1 : k < b.length := by omega
    have hbit : bitB (b.getD k 0) = true := by
      have : b.getD k 0 = b[k] := by simp [List.getD, h1]
      rw [this]
      exact (List.all_eq_true.1 hb) _ (List.getElem_mem h1)
    refine (Fit.shTo hs h hb k (by omega)).clk hs ?_ hbit
    split <;> rfl
theorem Fit.shiftX {q : Tw} (hs : ∀ k, k < q.r.n → Right (q.r.dev k)) {st : Nat} {p : Nat → PS} (h : Fit q.r (st, p)) {s : Nat} (hss : s = 4 ∨ s = 11) (b : ByteArray) : Fit q.r (shiftX q st p s b) := by
  unfold Go.Proofs.YtkipkkaloiefpaaGreatDoor.shiftX
  by_cases he : shiftErr st b = 0
  · rw [if_pos he]
    obtain ⟨h1, -, -, -, hb⟩ := shiftErr_ok he
    have hp := (path_bits st s h1 hss).1
    unfold shifted toShift
    exact Fit.fol hs _ (Fit.shTo hs (Fit.fol hs _ h hp) hb _ (Nat.le_refl _)) rfl
  · rw [if_neg he]
    exact h

theorem Two.sure {q : Tw} {B x N : Nat} {w : World} {s1 s2 : Nat} {p1 p2 : Nat → PS} (h : Two q B x N w s1 s2 p1 p2) : ∀ k, k < q.r.n → Right (q.r.dev k) := by
  obtain ⟨o, hB, ho, hx, hC, hR, hg, hT, hTB⟩ := h
  exact fun k hk => (hR.sure k hk).right
/-- An input that is set leaves lengths right. -/
theorem LenAll.set {q : Tw} {B x N : Nat} {w : World} {st : Nat} {ps : Nat → PS} (h : Two q B x N w st st ps ps) (hL : LenAll q.r st ps) (dv rg bits : ByteArray) (hd : dv.size ≤ 1048576) (hr : rg.size ≤ 1048576) (he : setQ q.r ps dv rg bits = 0) : LenAll q.r st (setP q.r ps dv rg bits) := by
  obtain ⟨o, hB, ho, hx, hC, hR, hg, hT, hTB⟩ := h
  obtain ⟨M, hM, ⟨hq, -⟩ | ⟨k, l, l', hk, hdx, hdn, hon, hq, hli, -, hll⟩⟩ := hR.inQ hL dv rg hd hr
  · unfold setQ at he
    rw [hq] at he
    cases he
  · have hs : setQ q.r ps dv rg bits = codeErr bits ((bs l').size : Int) := by unfold setQ; rw [hq]; rfl
    rw [hs] at he
    have hlen : bits.data.toList.length = l.length := by
      unfold codeErr at he
      cases hz : ((bits.size : Int) == ((bs l').size : Int)) with
      | false => rw [hz] at he; simp at he
      | true =>
        have h1 : (bits.size : Int) = ((bs l').size : Int) := by simpa using hz
        have h4 := bs_size l'
        have h2 : bits.data.toList.length = bits.size := by simp
        omega
    intro j hj
    unfold setP
    rw [hdx]
    show LenS st (q.r.dev j) (updP ps k _ j)
    by_cases e : j = k
    · subst e
      rw [updP_at]
      exact (hL j hj).input hli hlen
    · rw [updP_ne _ _ e]
      exact hL j hj

/-- The chain and the port hold the same, in state st: ps; t numbers have been taken from the stream at block sb. -/
structure Jay (q : Tw) (B sb : Nat) (w0 : World) (N t st : Nat) (ps : Nat → PS) (W : World) : Prop where
  two : Two q B q.rb N W st st ps ps
  len : LenAll q.r st ps
  strm : Strm W sb t
  below : Below sb w0 W
/-- Where the stream is. -/
structure Far (q : Tw) (B sb : Nat) : Prop where
  lt : sb < B
  da : FarA sb q.da
  plc : ∀ k, k < q.r.n → FarA sb (q.r.plc k).ra ∧ FarA sb (q.r.plc k).ia
  tab : sb ≠ 0

section
variable {q : Tw} {B sb : Nat} {w0 : World} {N t st : Nat} {ps : Nat → PS} {W W' : World}
theorem Jay.fit (h : Jay q B sb w0 N t st ps W) : Fit q.r (st, ps) := ⟨h.two.st.1, h.two.good1, h.len⟩
theorem Jay.ran (h : Jay q B sb w0 N t st ps W) (hf : Far q B sb) {K : Nat} (hr : Ran sb t K W W') : ∃ t', t ≤ t' ∧ t' ≤ t + K ∧ Jay q B sb w0 N t' st ps W' := by
  have hBs := h.two.lt.2.2.2.2.2.2.2.2.1
  have hlt := hf.lt
  obtain ⟨hg, t', h1, h2, hs⟩ := hr
  have hr2 : Ran sb t K W W' := ⟨hg, t', h1, h2, hs⟩
  exact ⟨t', h1, h2, h.two.grown hf.lt hf.da hf.plc hf.tab hg, h.len, hs, h.below.trans (hr2.below (by omega))⟩
theorem Jay.later (h : Jay q B sb w0 N t st ps W) (hf : Far q B sb) (hB : Below W.heap.size W W') : Jay q B sb w0 N t st ps W' := by
  have hBs := h.two.lt.2.2.2.2.2.2.2.2.1
  have hlt := hf.lt
  exact ⟨h.two.later hB, h.len, h.strm.below hB (by omega), h.below.trans (hB.mono (by omega))⟩
/-- Behind a step of both. -/
theorem Jay.step (h : Jay q B sb w0 N t st ps W) (hf : Far q B sb) {N' st' : Nat} {ps' : Nat → PS} (h2 : Two q B q.rb N' W' st' st' ps' ps') (hL : LenAll q.r st' ps') (hB : Below B W W') : Jay q B sb w0 N' t st' ps' W' := by
  have hlt := hf.lt
  exact ⟨h2, hL, h.strm.below hB hlt, h.below.trans (hB.mono (by omega))⟩
end
end Go.Proofs.YtkipkkaloiefpaaGreatDoor
