/- Devices in memory; what is wrong with them: the reference's DevicesFault. -/
import Derived.Test.YthcakdminnmjoaaGreatDoorParts
namespace Go.Proofs.YthcakdminnmjoaaGreatDoor
open Go.RowKit Go.Maps

/-- Devices. -/
structure Devs where
  n : Nat
  dev : Nat → Dev
  plc : Nat → Plc
abbrev Devs.name (r : Devs) (k : Nat) : ByteArray := (r.dev k).name
/-- A slice of devices, in blocks below B. -/
structure DevsAt (B : Nat) (w : World) (a : Option Addr) (r : Devs) : Prop where
  n_le : r.n ≤ 1000
  cells : 0 < r.n → ∃ b off, a = some ⟨b, off, none⟩ ∧ b < B ∧ ∀ k, k < r.n → (w.cell? ⟨b, off + k * 5, none⟩ = some (.string (r.dev k).name) ∧ w.cell? ⟨b, off + k * 5 + 1, none⟩ = some (.int .i64 (r.dev k).long) ∧ w.cell? ⟨b, off + k * 5 + 2, none⟩ = some (.int .i64 (r.dev k).id) ∧
    w.cell? ⟨b, off + k * 5 + 3, none⟩ = some (.slice (r.plc k).ra (r.dev k).regs.n (r.plc k).rc) ∧ w.cell? ⟨b, off + k * 5 + 4, none⟩ = some (.slice (r.plc k).ia (r.dev k).ins.n (r.plc k).ic)) ∧ DevOk B w (r.dev k) (r.plc k)

theorem DevsAt.below {B B' : Nat} {w w' : World} {a : Option Addr} {r : Devs} (h : DevsAt B w a r) (hb : Below B' w w') (hB : B ≤ B') : DevsAt B w' a r := by
  refine ⟨h.n_le, fun h0 => ?_⟩
  obtain ⟨b, off, e, hlt, hc⟩ := h.cells h0
  refine ⟨b, off, e, hlt, fun k hk => ?_⟩
  obtain ⟨⟨h1, h2, h3, h4, h5⟩, h6⟩ := hc k hk
  exact ⟨⟨(hb.cell (p := ⟨b, off + k * 5, none⟩) (by show b < B'; omega)).trans h1, (hb.cell (p := ⟨b, off + k * 5 + 1, none⟩) (by show b < B'; omega)).trans h2, (hb.cell (p := ⟨b, off + k * 5 + 2, none⟩) (by show b < B'; omega)).trans h3, (hb.cell (p := ⟨b, off + k * 5 + 3, none⟩) (by show b < B'; omega)).trans h4, (hb.cell (p := ⟨b, off + k * 5 + 4, none⟩) (by show b < B'; omega)).trans h5⟩, h6.below hb hB⟩
theorem DevsAt.ok {B : Nat} {w : World} {a : Option Addr} {r : Devs} (h : DevsAt B w a r) {k : Nat} (hk : k < r.n) : DevOk B w (r.dev k) (r.plc k) := by
  obtain ⟨b, off, e, hlt, hc⟩ := h.cells (by omega)
  exact (hc k hk).2
theorem DevsAt.up {B B' : Nat} {w : World} {a : Option Addr} {r : Devs} (h : DevsAt B w a r) (hB : B ≤ B') : DevsAt B' w a r := by
  refine ⟨h.n_le, fun h0 => ?_⟩
  obtain ⟨b, off, e, hlt, hc⟩ := h.cells h0
  exact ⟨b, off, e, by omega, fun k hk => ⟨(hc k hk).1, (hc k hk).2.up hB⟩⟩

theorem indexDev_any (w : World) (a : Option Addr) (cap n : Nat) (r : Devs) (hn : n ≤ r.n) (h : DevsAt w.heap.size w a r) (c : Nat) (s : ByteArray) (hc : w.cell? ⟨c, 0, none⟩ = some (.string s)) :
    Calls Tryz.prog 60 #[.slice a n cap, .func (.func 32) #[] #[.pointer (some ⟨c, 0, none⟩)]] w fun e w' => (∃ i : Int, e = .returned (.int .i64 i) ∧ decide (0 ≤ i) = hasName r.name s n) ∧ Below w.heap.size w w' := by
  have hlc := World.block_lt_of_cell? w ⟨c, 0, none⟩ hc
  have hn1 := h.n_le
  go_enter Tryz.func60, Tryz.ntmps60
  go_wp2_with fail
  go_loopw [5, 8] (fun _ i wr => ∃ k : Nat, k ≤ n ∧ i = .int .i64 (k : Int) ∧ hasName r.name s k = false ∧ Below w.heap.size w wr) (fun _ i _ => n - (intOf i).toNat)
  case atStart => exact ⟨0, by omega, rfl, rfl, Below.refl _ _⟩
  case round =>
    obtain ⟨k, hk, rfl, hno, hB⟩ := hrel
    by_cases hlt : k < n
    · have hrr := h.below hB (Nat.le_refl _)
      obtain ⟨b, off, rfl, hbB, hcells⟩ := hrr.cells (by omega)
      obtain ⟨⟨hc0, hc1, hc2, hc3, hc4⟩, hdo⟩ := hcells k (by omega)
      have hcw := (hB.cell (p := ⟨c, 0, none⟩) hlc).trans hc
      have heq := eqDev_any wr c s (r.dev k).name (.int .i64 (r.dev k).long) (.int .i64 (r.dev k).id) (.slice (r.plc k).ra (r.dev k).regs.n (r.plc k).rc) (.slice (r.plc k).ia (r.dev k).ins.n (r.plc k).ic) hcw
      clear hcells hrr h
      cases he : ((r.name k).toList == s.toList) with
      | true =>
        have hh := Lib.hid (hasName_hit he n hlt)
        rw [he] at heq
        clear he hno
        go_wp2_with fail
        refine heq.mono ?_
        rintro e w2 ⟨rfl, hB2⟩
        go_wp2_with fail
        go_ret
        exact ⟨⟨(k : Int), rfl, by rw [hh.out]; simp⟩, hB.trans (hB2.mono hB.size)⟩
      | false =>
        have hh := Lib.hid (hasName_miss hno he)
        rw [he] at heq
        clear he hno
        go_wp2_with fail
        refine heq.mono ?_
        rintro e w2 ⟨rfl, hB2⟩
        go_wp2_with fail
        go_roundw
        case rel => exact ⟨k + 1, by omega, by go_num, hh.out, hB.trans (hB2.mono hB.size)⟩
        case measure => simp [intOf]; omega
    · obtain rfl : k = n := by omega
      clear h
      have hh := Lib.hid hno
      clear hno
      go_wp2
      go_ret
      exact ⟨⟨-1, rfl, by rw [hh.out]; decide⟩, hB⟩

theorem containsDev_any (w : World) (a : Option Addr) (cap n : Nat) (r : Devs) (hn : n ≤ r.n) (h : DevsAt w.heap.size w a r) (c : Nat) (s : ByteArray) (hc : w.cell? ⟨c, 0, none⟩ = some (.string s)) :
    Calls Tryz.prog 31 #[.slice a n cap, .func (.func 32) #[] #[.pointer (some ⟨c, 0, none⟩)]] w fun e w' => e = .returned (.bool (hasName r.name s n)) ∧ Below w.heap.size w w' := by
  have hix := indexDev_any w a cap n r hn h c s hc
  clear h hc
  go_enter Tryz.func31, Tryz.ntmps31
  go_wp2_with fail
  refine hix.mono ?_
  rintro e w2 ⟨⟨i, rfl, hi⟩, hB⟩
  have hh := Lib.hid hi
  clear hi
  go_wp2_with fail
  go_ret
  exact ⟨congrArg (fun b => Ending.returned (.bool b)) hh.out, hB⟩

/-- What is wrong with a device. -/
def devErr (r : Devs) (k : Nat) : Int :=
  if keyS (r.name k) = false then 5 else if hasName r.name (r.name k) k = true then 6 else if inB (r.dev k).long 2 32 = false then 1 else if inB (r.dev k).id 0 4294967295 = false then 1 else if (!((r.dev k).id == 0) && ((r.dev k).id.tmod 2 == 0)) = true then 3 else partsErr (r.dev k)
/-- What is wrong with devices. -/
def devsErr (r : Devs) : Int := if r.n = 0 then 8 else if 20 < r.n then 2 else firstErr (devErr r) r.n

set_option maxRecDepth 100000 in
theorem devicesFault_any (w : World) (a : Option Addr) (cap : Nat) (r : Devs) (hcap : r.n ≤ cap) (h : DevsAt w.heap.size w a r) :
    Calls Tryz.prog 10 #[.slice a r.n cap] w fun e w' => e = .returned (.int .i64 (devsErr r)) ∧ Below w.heap.size w w' := by
  have hn := h.n_le
  by_cases h0 : r.n = 0
  · have hh : devsErr r = 8 := by unfold devsErr; rw [if_pos h0]
    rw [hh, h0]
    clear hh h0 hn hcap h
    go_enter Tryz.func10, Tryz.ntmps10
    go_wp2_with fail
    go_ret
    exact ⟨rfl, Below.refl _ _⟩
  by_cases h20 : 20 < r.n
  · have hh : devsErr r = 2 := by unfold devsErr; rw [if_neg h0, if_pos h20]
    rw [hh]
    clear hh h
    go_enter Tryz.func10, Tryz.ntmps10
    go_wp2_with fail
    go_ret
    exact ⟨rfl, Below.refl _ _⟩
  have hh : devsErr r = firstErr (devErr r) r.n := by unfold devsErr; rw [if_neg h0, if_neg h20]
  rw [hh]
  clear hh
  have hz0 : ((r.n : Int) == 0) = false := by simpa using h0
  have hz20 : decide (20 < (r.n : Int)) = false := by simp; omega
  go_enter Tryz.func10, Tryz.ntmps10
  go_wp2_with fail
  go_loopw [4, 16] (fun _ i wr => ∃ k : Nat, k ≤ r.n ∧ i = .int .i64 (k : Int) ∧ firstErr (devErr r) k = 0 ∧ Below w.heap.size w wr) (fun _ i _ => r.n - (intOf i).toNat)
  case atStart => exact ⟨0, by omega, rfl, rfl, Below.refl _ _⟩
  case round =>
    obtain ⟨k, hk, rfl, hE, hB⟩ := hrel
    by_cases hlt : k < r.n
    · have hrw := (h.below hB (Nat.le_refl _)).up hB.size
      obtain ⟨b, off, rfl, hbB, hcells⟩ := hrw.cells (by omega)
      obtain ⟨⟨hc0, hc1, hc2, hc3, hc4⟩, hdo⟩ := hcells k hlt
      clear hcells
      have hsz := hdo.name
      obtain ⟨Wr, hWr⟩ : ∃ Wr, Wr = wr.alloc (.cells #[.string (r.dev k).name, .int .i64 (r.dev k).long, .int .i64 (r.dev k).id, .slice (r.plc k).ra (r.dev k).regs.n (r.plc k).rc, .slice (r.plc k).ia (r.dev k).ins.n (r.plc k).ic] 49) := ⟨_, rfl⟩
      have hsr : Wr.heap.size = wr.heap.size + 1 := by rw [hWr]; simp
      have hBr : Below w.heap.size w Wr := by rw [hWr]; exact hB.alloc hB.size _
      have hcr : ∀ W, Below Wr.heap.size Wr W → (W.cell? ⟨wr.heap.size, 0, none⟩ = some (.string (r.dev k).name) ∧ W.cell? ⟨wr.heap.size, 1, none⟩ = some (.int .i64 (r.dev k).long) ∧ W.cell? ⟨wr.heap.size, 2, none⟩ = some (.int .i64 (r.dev k).id) ∧ W.cell? ⟨wr.heap.size, 3, none⟩ = some (.slice (r.plc k).ra (r.dev k).regs.n (r.plc k).rc) ∧ W.cell? ⟨wr.heap.size, 4, none⟩ = some (.slice (r.plc k).ia (r.dev k).ins.n (r.plc k).ic)) ∧ Below w.heap.size w W := by
        intro W hBW
        refine ⟨⟨(hBW.cell (by rw [hsr]; show wr.heap.size < _; omega)).trans ?_, (hBW.cell (by rw [hsr]; show wr.heap.size < _; omega)).trans ?_, (hBW.cell (by rw [hsr]; show wr.heap.size < _; omega)).trans ?_, (hBW.cell (by rw [hsr]; show wr.heap.size < _; omega)).trans ?_, (hBW.cell (by rw [hsr]; show wr.heap.size < _; omega)).trans ?_⟩, hBr.trans (hBW.mono hBr.size)⟩ <;>
        · rw [hWr]
          exact World.cell?_alloc_at _ _ _ _ rfl
      have hkey := fun W => rKey_any (r.dev k).name W hsz
      have hcon := fun W hBW => containsDev_any W (some ⟨b, off, none⟩) cap k r hk ((h.below (hcr W hBW).2 (Nat.le_refl _)).up (hcr W hBW).2.size) wr.heap.size (r.dev k).name (hcr W hBW).1.1
      have hin1 := fun W => rin_any (r.dev k).long 2 32 W
      have hin2 := fun W => rin_any (r.dev k).id 0 4294967295 W
      have hpf0 := fun W (hBW : Below Wr.heap.size Wr W) => partsFault_any (r.dev k) (r.plc k) W (((h.below (hcr W hBW).2 (Nat.le_refl _)).up (hcr W hBW).2.size).ok hlt)
      have hans : Hid (devErr r k = if keyS (r.dev k).name = false then 5 else if hasName r.name (r.dev k).name k = true then 6 else if inB (r.dev k).long 2 32 = false then 1 else if inB (r.dev k).id 0 4294967295 = false then 1 else if (!((r.dev k).id == 0) && ((r.dev k).id.tmod 2 == 0)) = true then 3 else partsErr (r.dev k)) := Lib.hid rfl
      have hend := fun (e : Int) (he : devErr r k = e) (h0 : e ≠ 0) => (firstErr_at hE (by rw [he]; exact h0) r.n hlt).trans he
      have hgo := fun (he : devErr r k = 0) => firstErr_succ hE he
      clear hE hBr h hdo hsz
      generalize keyS (r.dev k).name = ky at hkey hans
      generalize hasName r.name (r.dev k).name k = twi at hcon hans
      generalize hi1 : inB (r.dev k).long 2 32 = i1 at hin1 hans
      generalize hi2 : inB (r.dev k).id 0 4294967295 = i2 at hin2 hans
      generalize devErr r k = ek at hans hend hgo
      go_wp2_with fail
      rw [← hWr]
      clear hWr hc0 hc1 hc2 hc3 hc4
      refine (hkey _).mono ?_
      rintro e w1 ⟨rfl, hB1⟩
      obtain ⟨⟨c0, c1, c2, c3, c4⟩, hB0w⟩ := hcr w1 hB1
      cases ky with
      | false =>
        have hh := Lib.hid (hend 5 (by rw [hans.out]; rfl) (by decide))
        clear hans hend hgo
        go_wp2_with fail
        go_ret
        exact ⟨ret_int hh.out.symm, hB0w⟩
      | true =>
        go_wp2_with fail
        refine (hcon _ hB1).mono ?_
        rintro e w2 ⟨rfl, hB2⟩
        have hB2 : Below Wr.heap.size Wr w2 := hB1.trans (hB2.mono hB1.size)
        clear c0 c1 c2 c3 c4 hB0w
        obtain ⟨⟨c0, c1, c2, c3, c4⟩, hB0w⟩ := hcr w2 hB2
        cases twi with
        | true =>
          have hh := Lib.hid (hend 6 (by rw [hans.out]; rfl) (by decide))
          clear hans hend hgo
          go_wp2_with fail
          go_ret
          exact ⟨ret_int hh.out.symm, hB0w⟩
        | false =>
          go_wp2_with fail
          refine (hin1 _).mono ?_
          rintro e w3 ⟨rfl, rfl⟩
          cases i1 with
          | false =>
            have hh := Lib.hid (hend 1 (by rw [hans.out]; rfl) (by decide))
            clear hans hend hgo
            go_wp2_with fail
            go_ret
            exact ⟨ret_int hh.out.symm, hB0w⟩
          | true =>
            go_wp2_with fail
            refine (hin2 _).mono ?_
            rintro e w4 ⟨rfl, rfl⟩
            cases i2 with
            | false =>
              have hh := Lib.hid (hend 1 (by rw [hans.out]; rfl) (by decide))
              clear hans hend hgo
              go_wp2_with fail
              go_ret
              exact ⟨ret_int hh.out.symm, hB0w⟩
            | true =>
              cases hz : ((r.dev k).id == 0) with
              | true =>
                have hzn : ((r.dev k).id != 0) = false := by rw [bne, hz]; rfl
                rw [hz] at hans
                clear hz
                by_cases hp0 : partsErr (r.dev k) = 0
                · have hh := Lib.hid (hgo (by rw [hans.out, hp0]; rfl))
                  have hpf := hpf0 _ hB2
                  rw [hp0] at hpf
                  clear hans hend hgo hpf0 hp0
                  go_wp2_with fail
                  refine hpf.mono ?_
                  rintro e w5 ⟨rfl, hB5⟩
                  have hB0w : Below w.heap.size w w5 := hB0w.trans (hB5.mono hB0w.size)
                  go_wp2_with fail
                  go_roundw
                  case rel => exact ⟨k + 1, by omega, by go_num, hh.out, hB0w⟩
                  case measure => simp [intOf]; omega
                · have hh := Lib.hid (hend (partsErr (r.dev k)) (by rw [hans.out]; rfl) hp0)
                  have hp1 : (partsErr (r.dev k) == 0) = false := by simpa using hp0
                  have hpf := hpf0 _ hB2
                  clear hans hend hgo hp0 hpf0
                  generalize partsErr (r.dev k) = pe at hpf hh hp1
                  go_wp2_with fail
                  refine hpf.mono ?_
                  rintro e w5 ⟨rfl, hB5⟩
                  have hB0w : Below w.heap.size w w5 := hB0w.trans (hB5.mono hB0w.size)
                  go_wp2_with fail
                  go_ret
                  exact ⟨ret_int hh.out.symm, hB0w⟩
              | false =>
                have hzn : ((r.dev k).id != 0) = true := by rw [bne, hz]; rfl
                cases hm : ((r.dev k).id.tmod 2 == 0) with
                | true =>
                  rw [hz, hm] at hans
                  clear hz
                  have hh := Lib.hid (hend 3 (by rw [hans.out]; rfl) (by decide))
                  clear hans hend hgo
                  go_wp2_with fail
                  go_ret
                  exact ⟨ret_int hh.out.symm, hB0w⟩
                | false =>
                  rw [hz, hm] at hans
                  clear hz
                  by_cases hp0 : partsErr (r.dev k) = 0
                  · have hh := Lib.hid (hgo (by rw [hans.out, hp0]; rfl))
                    have hpf := hpf0 _ hB2
                    rw [hp0] at hpf
                    clear hans hend hgo hpf0 hp0
                    go_wp2_with fail
                    refine hpf.mono ?_
                    rintro e w5 ⟨rfl, hB5⟩
                    have hB0w : Below w.heap.size w w5 := hB0w.trans (hB5.mono hB0w.size)
                    go_wp2_with fail
                    go_roundw
                    case rel => exact ⟨k + 1, by omega, by go_num, hh.out, hB0w⟩
                    case measure => simp [intOf]; omega
                  · have hh := Lib.hid (hend (partsErr (r.dev k)) (by rw [hans.out]; rfl) hp0)
                    have hp1 : (partsErr (r.dev k) == 0) = false := by simpa using hp0
                    have hpf := hpf0 _ hB2
                    clear hans hend hgo hp0 hpf0
                    generalize partsErr (r.dev k) = pe at hpf hh hp1
                    go_wp2_with fail
                    refine hpf.mono ?_
                    rintro e w5 ⟨rfl, hB5⟩
                    have hB0w : Below w.heap.size w w5 := hB0w.trans (hB5.mono hB0w.size)
                    go_wp2_with fail
                    go_ret
                    exact ⟨ret_int hh.out.symm, hB0w⟩
    · obtain rfl : k = r.n := by omega
      clear h
      have hh := Lib.hid hE
      clear hE
      go_wp2
      go_ret
      exact ⟨ret_int hh.out.symm, hB⟩
end Go.Proofs.YthcakdminnmjoaaGreatDoor
