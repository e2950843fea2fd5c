/- What is wrong with a device's registers and instructions: the reference's partsFault. -/
import Derived.Test.YthcakdminnmjoaaGreatDoorInstrs
namespace Go.Proofs.YthcakdminnmjoaaGreatDoor
open Go.RowKit Go.Maps

/-- What is wrong with the parts of a device. -/
def partsErr (d : Dev) : Int :=
  if 10 < d.regs.n ∨ 100 < d.ins.n then 2 else if firstErr (regErr d.regs) d.regs.n = 0 then firstErr (insErr d) d.ins.n else firstErr (regErr d.regs) d.regs.n

theorem partsErr_large {d : Dev} (h : 10 < d.regs.n ∨ 100 < d.ins.n) : partsErr d = 2 := by unfold partsErr; rw [if_pos h]
theorem partsErr_reg {d : Dev} (h1 : d.regs.n ≤ 10) (h2 : d.ins.n ≤ 100) {k : Nat} (h : firstErr (regErr d.regs) k = 0) (hk : k < d.regs.n) {e : Int} (he : regErr d.regs k = e) (h0 : e ≠ 0) : partsErr d = e := by
  unfold partsErr
  have h3 := firstErr_at h (by rw [he]; exact h0) _ hk
  rw [if_neg (by omega), h3, he, if_neg h0]
theorem partsErr_ins {d : Dev} (h1 : d.regs.n ≤ 10) (h2 : d.ins.n ≤ 100) (h : firstErr (regErr d.regs) d.regs.n = 0) {k : Nat} (hi : firstErr (insErr d) k = 0) (hk : k < d.ins.n) (h0 : insErr d k ≠ 0) : partsErr d = insErr d k := by
  unfold partsErr
  rw [if_neg (by omega), if_pos h, firstErr_at hi h0 _ hk]
theorem partsErr_none {d : Dev} (h1 : d.regs.n ≤ 10) (h2 : d.ins.n ≤ 100) (h : firstErr (regErr d.regs) d.regs.n = 0) (hi : firstErr (insErr d) d.ins.n = 0) : partsErr d = 0 := by
  unfold partsErr
  rw [if_neg (by omega), if_pos h, hi]

theorem regErr_is (r : Regs) (k : Nat) : regErr r k = if keyS (r.name k) = false then 5 else if ((((r.name k).toList == [98, 121, 112, 97, 115, 115]) || ((r.name k).toList == [105, 100, 99, 111, 100, 101])) || hasName r.name (r.name k) k) = true then 6 else if inB (r.long k) 1 1000 = false then 1 else 0 := by
  unfold regErr
  have e : (before r.name ownL k).contains (r.name k).data.toList = ((((r.name k).toList == [98, 121, 112, 97, 115, 115]) || ((r.name k).toList == [105, 100, 99, 111, 100, 101])) || hasName r.name (r.name k) k) := by
    rw [hasName_before, ByteArray.toList_eq]
    unfold ownL
    rw [List.contains_cons, List.contains_cons, List.contains_nil, Bool.or_false]
    show _ = ((((r.name k).data.toList == bypassS.data.toList) || ((r.name k).data.toList == idcodeS.data.toList)) || hasName r.name (r.name k) k)
    cases ((r.name k).data.toList == bypassS.data.toList) <;> cases ((r.name k).data.toList == idcodeS.data.toList) <;> cases hasName r.name (r.name k) k <;> rfl
  rw [e]

set_option maxRecDepth 100000 in
theorem partsFault_any (d : Dev) (p : Plc) (w : World) (h : DevOk w.heap.size w d p) :
    Calls Tryz.prog 34 #[devV d p] w fun e w' => e = .returned (.int .i64 (partsErr d)) ∧ Below w.heap.size w w' := by
  obtain ⟨ra, rc, ia, ic⟩ := p
  have hcR : d.regs.n ≤ rc := h.capR
  have hn := h.regs.n_le
  have hm := h.ins.n_le
  obtain ⟨W0, hW0⟩ : ∃ W0, W0 = w.alloc (.cells #[.string d.name, .int .i64 d.long, .int .i64 d.id, .slice ra d.regs.n rc, .slice ia d.ins.n ic] 49) := ⟨_, rfl⟩
  have hs0 : W0.heap.size = w.heap.size + 1 := by rw [hW0]; simp
  have hB0 : Below w.heap.size w W0 := by rw [hW0]; exact (Below.refl _ w).alloc (Nat.le_refl _) _
  have hcell : ∀ W, Below W0.heap.size W0 W → W.cell? ⟨w.heap.size, 0, none⟩ = some (.string d.name) ∧ W.cell? ⟨w.heap.size, 1, none⟩ = some (.int .i64 d.long) ∧ W.cell? ⟨w.heap.size, 2, none⟩ = some (.int .i64 d.id) ∧ W.cell? ⟨w.heap.size, 3, none⟩ = some (.slice ra d.regs.n rc) ∧ W.cell? ⟨w.heap.size, 4, none⟩ = some (.slice ia d.ins.n ic) := by
    intro W hB
    refine ⟨(hB.cell (by rw [hs0]; show w.heap.size < _; omega)).trans ?_, (hB.cell (by rw [hs0]; show w.heap.size < _; omega)).trans ?_, (hB.cell (by rw [hs0]; show w.heap.size < _; omega)).trans ?_, (hB.cell (by rw [hs0]; show w.heap.size < _; omega)).trans ?_, (hB.cell (by rw [hs0]; show w.heap.size < _; omega)).trans ?_⟩ <;>
    · rw [hW0]
      exact World.cell?_alloc_at _ _ _ _ rfl
  have hfr : ∀ W, Below W0.heap.size W0 W → Below w.heap.size w W := fun W hB => hB0.trans (hB.mono hB0.size)
  have hdev : ∀ W, Below W0.heap.size W0 W → DevOk W.heap.size W d ⟨ra, rc, ia, ic⟩ := fun W hB => (h.below (hfr W hB) (Nat.le_refl _)).up (hfr W hB).size
  obtain ⟨c0, c1, c2, c3, c4⟩ := hcell W0 (Below.refl _ _)
  clear h
  by_cases hl : 10 < d.regs.n ∨ 100 < d.ins.n
  · have hh := Lib.hid (partsErr_large hl)
    rcases hl with hl | hl
    · go_enter Tryz.func34, Tryz.ntmps34
      go_wp2_with fail
      go_ret
      exact ⟨ret_int hh.out.symm, (Below.refl _ w).alloc (Nat.le_refl _) _⟩
    · by_cases hl2 : 10 < d.regs.n
      · go_enter Tryz.func34, Tryz.ntmps34
        go_wp2_with fail
        go_ret
        exact ⟨ret_int hh.out.symm, (Below.refl _ w).alloc (Nat.le_refl _) _⟩
      · go_enter Tryz.func34, Tryz.ntmps34
        go_wp2_with fail
        go_ret
        exact ⟨ret_int hh.out.symm, (Below.refl _ w).alloc (Nat.le_refl _) _⟩
  · have hl1 : d.regs.n ≤ 10 := by omega
    have hl2 : d.ins.n ≤ 100 := by omega
    clear hl
    go_enter Tryz.func34, Tryz.ntmps34
    go_wp2_with fail
    rw [← hW0]
    clear hW0
    go_loopw [3, 4, 20] (fun _ _ i wr => ∃ k : Nat, k ≤ d.regs.n ∧ i = .int .i64 (k : Int) ∧ firstErr (regErr d.regs) k = 0 ∧ Below W0.heap.size W0 wr) (fun _ _ i _ => d.regs.n - (intOf i).toNat)
    case atStart => exact ⟨0, by omega, rfl, rfl, Below.refl _ _⟩
    case round =>
      obtain ⟨k, hk, rfl, hE, hB⟩ := hrel
      clear c0 c1 c2 c3 c4
      by_cases hlt : k < d.regs.n
      · obtain ⟨b, off, rfl, hbB, hcells⟩ := (hdev wr hB).regs.cells (by omega)
        obtain ⟨hc1, hc2, hsz⟩ := hcells k hlt
        clear hcells
        obtain ⟨Wr, hWr⟩ : ∃ Wr, Wr = wr.alloc (.cells #[.string (d.regs.name k), .int .i64 (d.regs.long k)] 51) := ⟨_, rfl⟩
        have hsr : Wr.heap.size = wr.heap.size + 1 := by rw [hWr]; simp
        have hBr : Below W0.heap.size W0 Wr := by rw [hWr]; exact hB.alloc hB.size _
        have hcr : ∀ W, Below Wr.heap.size Wr W → (W.cell? ⟨wr.heap.size, 0, none⟩ = some (.string (d.regs.name k)) ∧ W.cell? ⟨wr.heap.size, 1, none⟩ = some (.int .i64 (d.regs.long k))) ∧ W.cell? ⟨w.heap.size, 3, none⟩ = some (.slice (some ⟨b, off, none⟩) d.regs.n rc) ∧ Below W0.heap.size W0 W := by
          intro W hBW
          have hBW0 := hBr.trans (hBW.mono hBr.size)
          refine ⟨⟨(hBW.cell (by rw [hsr]; show wr.heap.size < _; omega)).trans ?_, (hBW.cell (by rw [hsr]; show wr.heap.size < _; omega)).trans ?_⟩, (hcell W hBW0).2.2.2.1, hBW0⟩ <;>
          · rw [hWr]
            exact World.cell?_alloc_at _ _ _ _ rfl
        have hkey := fun W => rKey_any (d.regs.name k) W hsz
        have hcon := fun W hBW => containsReg_any W (some ⟨b, off, none⟩) rc k d.regs hk (hdev W (hcr W hBW).2.2).regs wr.heap.size (d.regs.name k) (hcr W hBW).1.1
        have hin := fun W => rin_any (d.regs.long k) 1 1000 W
        have hans := Lib.hid (regErr_is d.regs k)
        have hend := fun (e : Int) (he : regErr d.regs k = e) (h0 : e ≠ 0) => partsErr_reg hl1 hl2 hE hlt he h0
        have hgo := fun (he : regErr d.regs k = 0) => firstErr_succ hE he
        clear hE hcell hdev hBr
        generalize keyS (d.regs.name k) = ky at hkey hans
        generalize hasName d.regs.name (d.regs.name k) k = twi at hcon hans
        generalize inB (d.regs.long k) 1 1000 = inn at hin hans
        generalize regErr d.regs k = ek at hans hend hgo
        cases ky with
        | false =>
          have hh := Lib.hid (hend 5 (by rw [hans.out]; rfl) (by decide))
          clear hans hend hgo
          go_wp2_with fail
          rw [← hWr]
          clear hWr hc1 hc2
          refine (hkey _).mono ?_
          rintro e w1 ⟨rfl, hB1⟩
          obtain ⟨⟨c1, c2⟩, c3, hB0w⟩ := hcr w1 hB1
          go_wp2_with fail
          go_ret
          exact ⟨ret_int hh.out.symm, hfr _ hB0w⟩
        | true =>
          cases hp1 : ((d.regs.name k).toList == [98, 121, 112, 97, 115, 115]) with
          | true =>
            rw [hp1] at hans
            have hh := Lib.hid (hend 6 (by rw [hans.out]; rfl) (by decide))
            clear hans hend hgo
            go_wp2_with fail
            rw [← hWr]
            clear hWr hc1 hc2
            refine (hkey _).mono ?_
            rintro e w1 ⟨rfl, hB1⟩
            obtain ⟨⟨c1, c2⟩, c3, hB0w⟩ := hcr w1 hB1
            go_wp2_with fail
            go_ret
            exact ⟨ret_int hh.out.symm, hfr _ hB0w⟩
          | false =>
            cases hp2 : ((d.regs.name k).toList == [105, 100, 99, 111, 100, 101]) with
            | true =>
              rw [hp1, hp2] at hans
              have hh := Lib.hid (hend 6 (by rw [hans.out]; rfl) (by decide))
              clear hans hend hgo
              go_wp2_with fail
              rw [← hWr]
              clear hWr hc1 hc2
              refine (hkey _).mono ?_
              rintro e w1 ⟨rfl, hB1⟩
              obtain ⟨⟨c1, c2⟩, c3, hB0w⟩ := hcr w1 hB1
              go_wp2_with fail
              go_ret
              exact ⟨ret_int hh.out.symm, hfr _ hB0w⟩
            | false =>
              rw [hp1, hp2] at hans
              cases twi with
              | true =>
                have hh := Lib.hid (hend 6 (by rw [hans.out]; rfl) (by decide))
                clear hans hend hgo
                go_wp2_with fail
                rw [← hWr]
                clear hWr hc1 hc2
                refine (hkey _).mono ?_
                rintro e w1 ⟨rfl, hB1⟩
                obtain ⟨⟨c1, c2⟩, c3, hB0w⟩ := hcr w1 hB1
                go_wp2_with fail
                refine (hcon _ hB1).mono ?_
                rintro e w2 ⟨rfl, hB2⟩
                have hB2 : Below Wr.heap.size Wr w2 := hB1.trans (hB2.mono hB1.size)
                clear c1 c2 c3 hB0w
                obtain ⟨⟨c1, c2⟩, c3, hB0w⟩ := hcr w2 hB2
                go_wp2_with fail
                go_ret
                exact ⟨ret_int hh.out.symm, hfr _ hB0w⟩
              | false =>
                cases inn with
                | false =>
                  have hh := Lib.hid (hend 1 (by rw [hans.out]; rfl) (by decide))
                  clear hans hend hgo
                  go_wp2_with fail
                  rw [← hWr]
                  clear hWr hc1 hc2
                  refine (hkey _).mono ?_
                  rintro e w1 ⟨rfl, hB1⟩
                  obtain ⟨⟨c1, c2⟩, c3, hB0w⟩ := hcr w1 hB1
                  go_wp2_with fail
                  refine (hcon _ hB1).mono ?_
                  rintro e w2 ⟨rfl, hB2⟩
                  have hB2 : Below Wr.heap.size Wr w2 := hB1.trans (hB2.mono hB1.size)
                  clear c1 c2 c3 hB0w
                  obtain ⟨⟨c1, c2⟩, c3, hB0w⟩ := hcr w2 hB2
                  go_wp2_with fail
                  refine (hin _).mono ?_
                  rintro e w3 ⟨rfl, rfl⟩
                  go_wp2_with fail
                  go_ret
                  exact ⟨ret_int hh.out.symm, hfr _ hB0w⟩
                | true =>
                  have hh := Lib.hid (hgo (by rw [hans.out]; rfl))
                  clear hans hend hgo
                  go_wp2_with fail
                  rw [← hWr]
                  clear hWr hc1 hc2
                  refine (hkey _).mono ?_
                  rintro e w1 ⟨rfl, hB1⟩
                  obtain ⟨⟨c1, c2⟩, c3, hB0w⟩ := hcr w1 hB1
                  go_wp2_with fail
                  refine (hcon _ hB1).mono ?_
                  rintro e w2 ⟨rfl, hB2⟩
                  have hB2 : Below Wr.heap.size Wr w2 := hB1.trans (hB2.mono hB1.size)
                  clear c1 c2 c3 hB0w
                  obtain ⟨⟨c1, c2⟩, c3, hB0w⟩ := hcr w2 hB2
                  go_wp2_with fail
                  refine (hin _).mono ?_
                  rintro e w3 ⟨rfl, rfl⟩
                  go_wp2_with fail
                  go_roundw
                  case rel => exact ⟨k + 1, by omega, by go_num, hh.out, hB0w⟩
                  case measure => simp [intOf]; omega
      · obtain rfl : k = d.regs.n := by omega
        clear hcR
        obtain ⟨c0, c1, c2, c3, c4⟩ := hcell wr hB
        go_wp2_with fail
        clear c0 c1 c2 c3 c4
        obtain ⟨wo, hwo⟩ : ∃ wo : World, wo = wr := ⟨_, rfl⟩
        go_loopw [5, 6, 56] (fun _ _ i wr => ∃ k : Nat, k ≤ d.ins.n ∧ i = .int .i64 (k : Int) ∧ firstErr (insErr d) k = 0 ∧ Below W0.heap.size W0 wr) (fun _ _ i _ => d.ins.n - (intOf i).toNat)
        case atStart => exact ⟨0, by omega, rfl, rfl, hB⟩
        case round =>
          clear hB hwo
          obtain ⟨j, hj, rfl, hI, hB⟩ := hrel
          by_cases hlt : j < d.ins.n
          · have hins := instrFault_any d ⟨ra, rc, ia, ic⟩ j wr hlt (hdev wr hB)
            obtain ⟨c0, c1, c2, c3, c4⟩ := hcell wr hB
            by_cases h0 : insErr d j = 0
            · have hh := Lib.hid (firstErr_succ hI h0)
              rw [h0] at hins
              clear hE hI h0 hcell hdev
              go_wp2_with fail
              refine hins.mono ?_
              rintro e w2 ⟨rfl, hB2⟩
              go_wp2_with fail
              go_roundw
              case rel => exact ⟨j + 1, by omega, by go_num, hh.out, hB.trans (hB2.mono hB.size)⟩
              case measure => simp [intOf]; omega
            · have hh := Lib.hid (partsErr_ins hl1 hl2 hE hI hlt h0)
              have h0' : (insErr d j == 0) = false := by simpa using h0
              clear hE hI h0 hcell hdev
              generalize insErr d j = ej at hins hh h0'
              go_wp2_with fail
              refine hins.mono ?_
              rintro e w2 ⟨rfl, hB2⟩
              go_wp2_with fail
              go_ret
              exact ⟨ret_int hh.out.symm, hfr _ (hB.trans (hB2.mono hB.size))⟩
          · obtain rfl : j = d.ins.n := by omega
            have hh := Lib.hid (partsErr_none hl1 hl2 hE hI)
            clear hE hI hcell hdev
            go_wp2_with fail
            go_ret
            exact ⟨ret_int hh.out.symm, hfr _ hB⟩
end Go.Proofs.YthcakdminnmjoaaGreatDoor
