/- The program's checkInstrs. -/
import Derived.Test.YtkipkkaloiefpaaGreatDoorLongs
namespace Go.Proofs.YtkipkkaloiefpaaGreatDoor
open Go.RowKit Go.Maps

theorem Seen.below {w w' : World} {c b B : Nat} {L : List (List UInt8)} (h : Seen w c b L) (hb : Below B w w') (hc : c < B) (hbB : b < B) : Seen w' c b L :=
  ⟨(hb.cell (p := ⟨c, 0, none⟩) hc).trans h.var, h.map.below hb hbB, h.ne⟩
theorem Tryz.zeroInt (W : World) : (zeroValue 3).run Tryz.prog W = .ok (.int .i64 0) W := by kernel_rfl

theorem insErr_is (d : Dev) (k : Nat) : insErr d k = if (codeErr (d.ins.code k) d.long == 0) = false then codeErr (d.ins.code k) d.long else if zeroIn (d.ins.code k) = false then 16 else if (before d.ins.code [] k).contains (d.ins.code k).data.toList = true then 6 else if (longsM d d.regs.n (d.ins.reg k).data.toList).isSome = true then 0 else 8 := by
  rw [longsM_some, hasName_before, List.contains_nil, Bool.or_false]
  rfl

set_option maxRecDepth 100000 in
theorem checkInstrs_any (d : Dev) (p : Plc) (w : World) (h : DevOk w.heap.size w d p) (hl : ∀ k, k < d.regs.n → -1048576 ≤ d.regs.long k ∧ d.regs.long k ≤ 1048576) :
    Calls Tryz.prog 97 #[devV d p] w fun e w' => e = .returned (.int .i64 (firstErr (insErr d) d.ins.n)) ∧ Below w.heap.size w w' := by
  obtain ⟨ra, rc, ia, ic⟩ := p
  have hn := h.regs.n_le
  have hm := h.ins.n_le
  have hI : InsAt w.heap.size w ia d.ins := h.ins
  obtain ⟨W0, hW0⟩ : ∃ W0, W0 = w.alloc (.cells #[.string d.name, .int .i64 d.long, .int .i64 d.id, .slice ra d.regs.n rc, .slice ia d.ins.n ic] 48) := ⟨_, rfl⟩
  have hs0 : W0.heap.size = w.heap.size + 1 := by rw [hW0]; simp
  have hB0 : Below w.heap.size w W0 := by rw [hW0]; exact (Below.refl _ w).alloc (Nat.le_refl _) _
  have hcell : ∀ W, Below W0.heap.size W0 W → W.cell? ⟨w.heap.size, 1, none⟩ = some (.int .i64 d.long) ∧ W.cell? ⟨w.heap.size, 4, none⟩ = some (.slice ia d.ins.n ic) := by
    intro W hB
    refine ⟨(hB.cell (by rw [hs0]; show w.heap.size < _; omega)).trans ?_, (hB.cell (by rw [hs0]; show w.heap.size < _; omega)).trans ?_⟩ <;>
    · rw [hW0]
      exact World.cell?_alloc_at _ _ _ _ rfl
  have hlo := registerLongs_any d ⟨ra, rc, ia, ic⟩ W0 ((h.below hB0 (Nat.le_refl _)).up hB0.size) hl
  rw [hs0] at hlo
  clear hl h
  go_enter Tryz.func97, Tryz.ntmps97
  go_wp2_with fail
  rw [← hW0]
  clear hW0
  refine hlo.mono ?_
  rintro e w1 ⟨rfl, hm1, hB1⟩
  have hm1lt := hm1.lt
  have hB1' : Below W0.heap.size W0 w1 := by rw [hs0]; exact hB1
  go_wp2_with fail
  refine (newStrings_any _ none 0 0 (fun _ => bypassS) (by decide) (fun h => by omega)).mono ?_
  rintro e w2 ⟨rfl, hS, hB2⟩
  have hm2 := hm1.below hB2 hm1lt
  have hB2' : Below W0.heap.size W0 w2 := hB1'.trans (hB2.mono hB1'.size)
  have hlt2 := hS.lt
  have hS2 : Seen w2 (w1.heap.size + 1) w1.heap.size (before d.ins.code [] 0) := hS
  obtain ⟨c1, c4⟩ := hcell w2 hB2'
  generalize w1.heap.size = b1 at hS2 hlt2 hm1lt
  clear hlo hm1 hB1 hB1' hB2 hS
  go_wp2_with fail
  clear c1 c4
  obtain ⟨wo, hwo⟩ : ∃ wo : World, wo = w2 := ⟨_, rfl⟩
  go_loopw [6, 7, 16] (fun _ _ i wr => ∃ k : Nat, k ≤ d.ins.n ∧ i = .int .i64 (k : Int) ∧ firstErr (insErr d) k = 0 ∧ Seen wr (b1 + 1) b1 (before d.ins.code [] k) ∧ StrMap Tryz.prog 9 3 wr (w.heap.size + 1 + 1) (2 + d.regs.n) (longsM d d.regs.n) ∧ Below W0.heap.size W0 wr) (fun _ _ i _ => d.ins.n - (intOf i).toNat)
  case atStart => exact ⟨0, by omega, rfl, rfl, hS2, hm2, hB2'⟩
  case round =>
    clear hS2 hm2 hB2' hlt2 hwo
    obtain ⟨k, hk, rfl, hE, hS, hM, hB⟩ := hrel
    have hfr : ∀ W, Below W0.heap.size W0 W → Below w.heap.size w W := fun W hB => hB0.trans (hB.mono hB0.size)
    by_cases hlt : k < d.ins.n
    · obtain ⟨b, off, rfl, hbB, hcells⟩ := (hI.below (hfr wr hB) (Nat.le_refl _)).cells (by omega)
      obtain ⟨hc1, hc2, hz1, hz2⟩ := hcells k hlt
      have hsw := hB.size
      have hlS := hS.lt
      have hlM := hM.lt
      obtain ⟨Wr, hWr⟩ : ∃ Wr, Wr = wr.alloc (.cells #[.string (d.ins.code k), .string (d.ins.reg k)] 55) := ⟨_, rfl⟩
      have hsr : Wr.heap.size = wr.heap.size + 1 := by rw [hWr]; simp
      have hSr : Seen Wr (b1 + 1) b1 (before d.ins.code [] k) := by rw [hWr]; exact hS.alloc _
      have hMr : StrMap Tryz.prog 9 3 Wr (w.heap.size + 1 + 1) (2 + d.regs.n) (longsM d d.regs.n) := by rw [hWr]; exact hM.alloc _
      have hBr : Below W0.heap.size W0 Wr := by rw [hWr]; exact hB.alloc hB.size _
      have hcr : ∀ W, Below Wr.heap.size Wr W → (W.cell? ⟨wr.heap.size, 0, none⟩ = some (.string (d.ins.code k)) ∧ W.cell? ⟨wr.heap.size, 1, none⟩ = some (.string (d.ins.reg k)) ∧ W.cell? ⟨w.heap.size, 1, none⟩ = some (.int .i64 d.long)) ∧ Below W0.heap.size W0 W := by
        intro W hBW
        have hBW0 := hBr.trans (hBW.mono hBr.size)
        refine ⟨⟨(hBW.cell (by rw [hsr]; show wr.heap.size < _; omega)).trans ?_, (hBW.cell (by rw [hsr]; show wr.heap.size < _; omega)).trans ?_, (hcell W hBW0).1⟩, hBW0⟩ <;>
        · rw [hWr]
          exact World.cell?_alloc_at _ _ _ _ rfl
      have c4 := (hcell wr hB).1
      have hnw : w.heap.size < wr.heap.size := by omega
      have hcode := fun W => checkCode_any (d.ins.code k) d.long W hz1
      have hzero := fun W => Tryz.strings_Contains_one (d.ins.code k) 48 W
      have hnew := fun W (hBW : Below Wr.heap.size Wr W) => isNew_any W _ _ _ (d.ins.code k) hz1 (by rw [before_length]; simp; omega) (hSr.below hBW (by omega) (by omega))
      have hlook := fun W (hW : StrMap Tryz.prog 9 3 W (w.heap.size + 1 + 1) (2 + d.regs.n) (longsM d d.regs.n)) => hW.look_ok Tryz.underlying9 Tryz.underlying168 (.int .i64 0) (Tryz.zeroInt W) (plain_int (by decide) (by decide)) (d.ins.reg k) hz2
      have hans := Lib.hid (insErr_is d k)
      have hend := fun (e : Int) (he : insErr d k = e) (h0 : e ≠ 0) => (firstErr_at hE (by rw [he]; exact h0) d.ins.n hlt).trans he
      have hgo := fun (he : insErr d k = 0) => firstErr_succ hE he
      have hSn : before d.ins.code [] (k + 1) = (d.ins.code k).data.toList :: before d.ins.code [] k := rfl
      rw [← hSn] at hnew
      clear hSn hE hS hM hcells hcell hI
      unfold zeroIn at hans
      generalize decide (0 ≤ Lib.indexByte (d.ins.code k).data.toList 48) = zer at hzero hans
      generalize (before d.ins.code [] k).contains (d.ins.code k).data.toList = twi at hnew hans
      generalize (longsM d d.regs.n (d.ins.reg k).data.toList).isSome = own at hlook hans
      generalize (longsM d d.regs.n (d.ins.reg k).data.toList).getD (.int .i64 0) = lv at hlook
      generalize insErr d k = ek at hans hend hgo
      generalize codeErr (d.ins.code k) d.long = ce at hcode hans
      go_wp2_with fail
      rw [← hWr]
      clear hWr hc1 hc2
      refine (hcode _).mono ?_
      rintro e w3 ⟨rfl, hB3⟩
      have hM3 := hMr.below hB3 (by omega)
      clear c4 hMr
      obtain ⟨⟨c0, c1, c4⟩, hB03⟩ := hcr w3 hB3
      cases hce : (ce == 0) with
      | false =>
        have hce' : ce ≠ 0 := by simpa using hce
        have hh := Lib.hid (hend ce (by rw [hans.out, hce]; rfl) hce')
        clear hans hend hgo hce'
        go_wp2_with fail
        go_ret
        exact ⟨ret_int hh.out.symm, hfr _ hB03⟩
      | true =>
        rw [hce] at hans
        obtain rfl : ce = 0 := by simpa using hce
        clear hce
        go_wp2_with fail
        refine (hzero _).mono ?_
        rintro e w4 ⟨rfl, rfl⟩
        cases zer with
        | false =>
          have hh := Lib.hid (hend 16 (by rw [hans.out]; rfl) (by decide))
          clear hans hend hgo
          go_wp2_with fail
          go_ret
          exact ⟨ret_int hh.out.symm, hfr _ hB03⟩
        | true =>
          go_wp2_with fail
          refine (hnew _ hB3).mono ?_
          rintro e w5 ⟨rfl, hS5, hg5⟩
          have hB05 : Below W0.heap.size W0 w5 := hB03.grown hg5 hB03.size (fun k hk => by cases hk; omega)
          have hM5 := hM3.kept hg5 (by intro e; have := Option.some.inj e; omega)
          have d0 := hg5.cell c0 (by intro e; have := Option.some.inj e; simp at this; omega)
          have d1 := hg5.cell c1 (by intro e; have := Option.some.inj e; simp at this; omega)
          clear c0 c1 c4 hM3
          have hl5 := hlook w5 hM5
          clear hlook hnew
          cases twi with
          | true =>
            have hh := Lib.hid (hend 6 (by rw [hans.out]; rfl) (by decide))
            clear hans hend hgo
            go_wp2_with fail
            go_ret
            exact ⟨ret_int hh.out.symm, hfr _ hB05⟩
          | false =>
            generalize litVal lv = lvv at hl5
            cases own with
            | false =>
              have hh := Lib.hid (hend 8 (by rw [hans.out]; rfl) (by decide))
              clear hans hend hgo
              go_wp2_with fail
              go_ret
              exact ⟨ret_int hh.out.symm, hfr _ hB05⟩
            | true =>
              have hh := Lib.hid (hgo (by rw [hans.out]; rfl))
              clear hans hend hgo
              go_wp2_with fail
              go_roundw
              case rel => exact ⟨k + 1, by omega, by go_num, hh.out, hS5, hM5, hB05⟩
              case measure => simp [intOf]; omega
    · obtain rfl : k = d.ins.n := by omega
      have hh := Lib.hid hE
      clear hE hI hcell
      go_wp2_with fail
      go_ret
      exact ⟨ret_int hh.out.symm, hfr _ hB⟩
end Go.Proofs.YtkipkkaloiefpaaGreatDoor
