/- Devices in memory; what is wrong with them: the reference's DevicesFault. -/
import Derived.Test.YtkipkkaloiefpaaGreatDoorM1
import Derived.Laws.OwnMore
import Derived.Deep.AppendLies
namespace Go.Proofs.YtkipkkaloiefpaaGreatDoor
open Go.RowKit Go.Maps

/-- Devices. -/
structure Devs where
  n : Nat
  dev : Nat → Dev
  plc : Nat → Plc
abbrev Devs.name (r : Devs) (k : Nat) : ByteArray := (r.dev k).name
/-- A slice of devices, in blocks below B. -/
structure DevsAt (B : Nat) (w : World) (a : Option Addr) (r : Devs) : Prop where
  n_le : r.n ≤ 1000
  cells : 0 < r.n → ∃ b off, a = some ⟨b, off, none⟩ ∧ b < B ∧ ∀ k, k < r.n → (w.cell? ⟨b, off + k * 5, none⟩ = some (.string (r.dev k).name) ∧ w.cell? ⟨b, off + k * 5 + 1, none⟩ = some (.int .i64 (r.dev k).long) ∧ w.cell? ⟨b, off + k * 5 + 2, none⟩ = some (.int .i64 (r.dev k).id) ∧
    w.cell? ⟨b, off + k * 5 + 3, none⟩ = some (.slice (r.plc k).ra (r.dev k).regs.n (r.plc k).rc) ∧ w.cell? ⟨b, off + k * 5 + 4, none⟩ = some (.slice (r.plc k).ia (r.dev k).ins.n (r.plc k).ic)) ∧ DevOk B w (r.dev k) (r.plc k)

theorem DevsAt.below {B B' : Nat} {w w' : World} {a : Option Addr} {r : Devs} (h : DevsAt B w a r) (hb : Below B' w w') (hB : B ≤ B') : DevsAt B w' a r := by
  refine ⟨h.n_le, fun h0 => ?_⟩
  obtain ⟨b, off, e, hlt, hc⟩ := h.cells h0
  refine ⟨b, off, e, hlt, fun k hk => ?_⟩
  obtain ⟨⟨h1, h2, h3, h4, h5⟩, h6⟩ := hc k hk
  exact ⟨⟨(hb.cell (p := ⟨b, off + k * 5, none⟩) (by show b < B'; omega)).trans h1, (hb.cell (p := ⟨b, off + k * 5 + 1, none⟩) (by show b < B'; omega)).trans h2, (hb.cell (p := ⟨b, off + k * 5 + 2, none⟩) (by show b < B'; omega)).trans h3, (hb.cell (p := ⟨b, off + k * 5 + 3, none⟩) (by show b < B'; omega)).trans h4, (hb.cell (p := ⟨b, off + k * 5 + 4, none⟩) (by show b < B'; omega)).trans h5⟩, h6.below hb hB⟩
theorem DevsAt.ok {B : Nat} {w : World} {a : Option Addr} {r : Devs} (h : DevsAt B w a r) {k : Nat} (hk : k < r.n) : DevOk B w (r.dev k) (r.plc k) := by
  obtain ⟨b, off, e, hlt, hc⟩ := h.cells (by omega)
  exact (hc k hk).2
theorem DevsAt.up {B B' : Nat} {w : World} {a : Option Addr} {r : Devs} (h : DevsAt B w a r) (hB : B ≤ B') : DevsAt B' w a r := by
  refine ⟨h.n_le, fun h0 => ?_⟩
  obtain ⟨b, off, e, hlt, hc⟩ := h.cells h0
  exact ⟨b, off, e, by omega, fun k hk => ⟨(hc k hk).1, (hc k hk).2.up hB⟩⟩

theorem indexDev_any (w : World) (a : Option Addr) (cap n : Nat) (r : Devs) (hn : n ≤ r.n) (h : DevsAt w.heap.size w a r) (c : Nat) (s : ByteArray) (hc : w.cell? ⟨c, 0, none⟩ = some (.string s)) :
    Calls Tryz.prog 65 #[.slice a n cap, .func (.func 25) #[] #[.pointer (some ⟨c, 0, none⟩)]] w fun e w' => (∃ i : Int, e = .returned (.int .i64 i) ∧ decide (0 ≤ i) = hasName r.name s n) ∧ Below w.heap.size w w' := by
  have hlc := World.block_lt_of_cell? w ⟨c, 0, none⟩ hc
  have hn1 := h.n_le
  go_enter Tryz.func65, Tryz.ntmps65
  go_wp2_with fail
  go_loopw [5, 8] (fun _ i wr => ∃ k : Nat, k ≤ n ∧ i = .int .i64 (k : Int) ∧ hasName r.name s k = false ∧ Below w.heap.size w wr) (fun _ i _ => n - (intOf i).toNat)
  case atStart => exact ⟨0, by omega, rfl, rfl, Below.refl _ _⟩
  case round =>
    obtain ⟨k, hk, rfl, hno, hB⟩ := hrel
    by_cases hlt : k < n
    · have hrr := h.below hB (Nat.le_refl _)
      obtain ⟨b, off, rfl, hbB, hcells⟩ := hrr.cells (by omega)
      obtain ⟨⟨hc0, hc1, hc2, hc3, hc4⟩, hdo⟩ := hcells k (by omega)
      have hcw := (hB.cell (p := ⟨c, 0, none⟩) hlc).trans hc
      have heq := eqDev_any wr c s (r.dev k).name (.int .i64 (r.dev k).long) (.int .i64 (r.dev k).id) (.slice (r.plc k).ra (r.dev k).regs.n (r.plc k).rc) (.slice (r.plc k).ia (r.dev k).ins.n (r.plc k).ic) hcw
      clear hcells hrr h
      cases he : ((r.name k).toList == s.toList) with
      | true =>
        have hh := Lib.hid (hasName_hit he n hlt)
        rw [he] at heq
        clear he hno
        go_wp2_with fail
        refine heq.mono ?_
        rintro e w2 ⟨rfl, hB2⟩
        go_wp2_with fail
        go_ret
        exact ⟨⟨(k : Int), rfl, by rw [hh.out]; simp⟩, hB.trans (hB2.mono hB.size)⟩
      | false =>
        have hh := Lib.hid (hasName_miss hno he)
        rw [he] at heq
        clear he hno
        go_wp2_with fail
        refine heq.mono ?_
        rintro e w2 ⟨rfl, hB2⟩
        go_wp2_with fail
        go_roundw
        case rel => exact ⟨k + 1, by omega, by go_num, hh.out, hB.trans (hB2.mono hB.size)⟩
        case measure => simp [intOf]; omega
    · obtain rfl : k = n := by omega
      clear h
      have hh := Lib.hid hno
      clear hno
      go_wp2
      go_ret
      exact ⟨⟨-1, rfl, by rw [hh.out]; decide⟩, hB⟩

theorem containsDev_any (w : World) (a : Option Addr) (cap n : Nat) (r : Devs) (hn : n ≤ r.n) (h : DevsAt w.heap.size w a r) (c : Nat) (s : ByteArray) (hc : w.cell? ⟨c, 0, none⟩ = some (.string s)) :
    Calls Tryz.prog 24 #[.slice a n cap, .func (.func 25) #[] #[.pointer (some ⟨c, 0, none⟩)]] w fun e w' => e = .returned (.bool (hasName r.name s n)) ∧ Below w.heap.size w w' := by
  have hix := indexDev_any w a cap n r hn h c s hc
  clear h hc
  go_enter Tryz.func24, Tryz.ntmps24
  go_wp2_with fail
  refine hix.mono ?_
  rintro e w2 ⟨⟨i, rfl, hi⟩, hB⟩
  have hh := Lib.hid hi
  clear hi
  go_wp2_with fail
  go_ret
  exact ⟨congrArg (fun b => Ending.returned (.bool b)) hh.out, hB⟩

/-- What is wrong with a device. -/
def devErr (r : Devs) (k : Nat) : Int :=
  if keyS (r.name k) = false then 5 else if hasName r.name (r.name k) k = true then 6 else if inB (r.dev k).long 2 32 = false then 1 else if inB (r.dev k).id 0 4294967295 = false then 1 else if (!((r.dev k).id == 0) && ((r.dev k).id.tmod 2 == 0)) = true then 3 else partsErr (r.dev k)
/-- What is wrong with devices. -/
def devsErr (r : Devs) : Int := if r.n = 0 then 8 else if 20 < r.n then 2 else firstErr (devErr r) r.n

set_option maxRecDepth 100000 in
theorem devicesFault_any (w : World) (a : Option Addr) (cap : Nat) (r : Devs) (hcap : r.n ≤ cap) (h : DevsAt w.heap.size w a r) :
    Calls Tryz.prog 6 #[.slice a r.n cap] w fun e w' => e = .returned (.int .i64 (devsErr r)) ∧ Below w.heap.size w w' := by
  have hn := h.n_le
  by_cases h0 : r.n = 0
  · have hh : devsErr r = 8 := by unfold devsErr; rw [if_pos h0]
    rw [hh, h0]
    clear hh h0 hn hcap h
    go_enter Tryz.func6, Tryz.ntmps6
    go_wp2_with fail
    go_ret
    exact ⟨rfl, Below.refl _ _⟩
  by_cases h20 : 20 < r.n
  · have hh : devsErr r = 2 := by unfold devsErr; rw [if_neg h0, if_pos h20]
    rw [hh]
    clear hh h
    go_enter Tryz.func6, Tryz.ntmps6
    go_wp2_with fail
    go_ret
    exact ⟨rfl, Below.refl _ _⟩
  have hh : devsErr r = firstErr (devErr r) r.n := by unfold devsErr; rw [if_neg h0, if_neg h20]
  rw [hh]
  clear hh
  have hz0 : ((r.n : Int) == 0) = false := by simpa using h0
  have hz20 : decide (20 < (r.n : Int)) = false := by simp; omega
  go_enter Tryz.func6, Tryz.ntmps6
  go_wp2_with fail
  go_loopw [4, 16] (fun _ i wr => ∃ k : Nat, k ≤ r.n ∧ i = .int .i64 (k : Int) ∧ firstErr (devErr r) k = 0 ∧ Below w.heap.size w wr) (fun _ i _ => r.n - (intOf i).toNat)
  case atStart => exact ⟨0, by omega, rfl, rfl, Below.refl _ _⟩
  case round =>
    obtain ⟨k, hk, rfl, hE, hB⟩ := hrel
    by_cases hlt : k < r.n
    · have hrw := (h.below hB (Nat.le_refl _)).up hB.size
      obtain ⟨b, off, rfl, hbB, hcells⟩ := hrw.cells (by omega)
      obtain ⟨⟨hc0, hc1, hc2, hc3, hc4⟩, hdo⟩ := hcells k hlt
      clear hcells
      have hsz := hdo.name
      obtain ⟨Wr, hWr⟩ : ∃ Wr, Wr = wr.alloc (.cells #[.string (r.dev k).name, .int .i64 (r.dev k).long, .int .i64 (r.dev k).id, .slice (r.plc k).ra (r.dev k).regs.n (r.plc k).rc, .slice (r.plc k).ia (r.dev k).ins.n (r.plc k).ic] 48) := ⟨_, rfl⟩
      have hsr : Wr.heap.size = wr.heap.size + 1 := by rw [hWr]; simp
      have hBr : Below w.heap.size w Wr := by rw [hWr]; exact hB.alloc hB.size _
      have hcr : ∀ W, Below Wr.heap.size Wr W → (W.cell? ⟨wr.heap.size, 0, none⟩ = some (.string (r.dev k).name) ∧ W.cell? ⟨wr.heap.size, 1, none⟩ = some (.int .i64 (r.dev k).long) ∧ W.cell? ⟨wr.heap.size, 2, none⟩ = some (.int .i64 (r.dev k).id) ∧ W.cell? ⟨wr.heap.size, 3, none⟩ = some (.slice (r.plc k).ra (r.dev k).regs.n (r.plc k).rc) ∧ W.cell? ⟨wr.heap.size, 4, none⟩ = some (.slice (r.plc k).ia (r.dev k).ins.n (r.plc k).ic)) ∧ Below w.heap.size w W := by
        intro W hBW
        refine ⟨⟨(hBW.cell (by rw [hsr]; show wr.heap.size < _; omega)).trans ?_, (hBW.cell (by rw [hsr]; show wr.heap.size < _; omega)).trans ?_, (hBW.cell (by rw [hsr]; show wr.heap.size < _; omega)).trans ?_, (hBW.cell (by rw [hsr]; show wr.heap.size < _; omega)).trans ?_, (hBW.cell (by rw [hsr]; show wr.heap.size < _; omega)).trans ?_⟩, hBr.trans (hBW.mono hBr.size)⟩ <;>
        · rw [hWr]
          exact World.cell?_alloc_at _ _ _ _ rfl
      have hkey := fun W => rKey_any (r.dev k).name W hsz
      have hcon := fun W hBW => containsDev_any W (some ⟨b, off, none⟩) cap k r hk ((h.below (hcr W hBW).2 (Nat.le_refl _)).up (hcr W hBW).2.size) wr.heap.size (r.dev k).name (hcr W hBW).1.1
      have hin1 := fun W => rin_any (r.dev k).long 2 32 W
      have hin2 := fun W => rin_any (r.dev k).id 0 4294967295 W
      have hpf0 := fun W (hBW : Below Wr.heap.size Wr W) => partsFault_any (r.dev k) (r.plc k) W (((h.below (hcr W hBW).2 (Nat.le_refl _)).up (hcr W hBW).2.size).ok hlt)
      have hans : Hid (devErr r k = if keyS (r.dev k).name = false then 5 else if hasName r.name (r.dev k).name k = true then 6 else if inB (r.dev k).long 2 32 = false then 1 else if inB (r.dev k).id 0 4294967295 = false then 1 else if (!((r.dev k).id == 0) && ((r.dev k).id.tmod 2 == 0)) = true then 3 else partsErr (r.dev k)) := Lib.hid rfl
      have hend := fun (e : Int) (he : devErr r k = e) (h0 : e ≠ 0) => (firstErr_at hE (by rw [he]; exact h0) r.n hlt).trans he
      have hgo := fun (he : devErr r k = 0) => firstErr_succ hE he
      clear hE hBr h hdo hsz
      generalize keyS (r.dev k).name = ky at hkey hans
      generalize hasName r.name (r.dev k).name k = twi at hcon hans
      generalize hi1 : inB (r.dev k).long 2 32 = i1 at hin1 hans
      generalize hi2 : inB (r.dev k).id 0 4294967295 = i2 at hin2 hans
      generalize devErr r k = ek at hans hend hgo
      go_wp2_with fail
      rw [← hWr]
      clear hWr hc0 hc1 hc2 hc3 hc4
      refine (hkey _).mono ?_
      rintro e w1 ⟨rfl, hB1⟩
      obtain ⟨⟨c0, c1, c2, c3, c4⟩, hB0w⟩ := hcr w1 hB1
      cases ky with
      | false =>
        have hh := Lib.hid (hend 5 (by rw [hans.out]; rfl) (by decide))
        clear hans hend hgo
        go_wp2_with fail
        go_ret
        exact ⟨ret_int hh.out.symm, hB0w⟩
      | true =>
        go_wp2_with fail
        refine (hcon _ hB1).mono ?_
        rintro e w2 ⟨rfl, hB2⟩
        have hB2 : Below Wr.heap.size Wr w2 := hB1.trans (hB2.mono hB1.size)
        clear c0 c1 c2 c3 c4 hB0w
        obtain ⟨⟨c0, c1, c2, c3, c4⟩, hB0w⟩ := hcr w2 hB2
        cases twi with
        | true =>
          have hh := Lib.hid (hend 6 (by rw [hans.out]; rfl) (by decide))
          clear hans hend hgo
          go_wp2_with fail
          go_ret
          exact ⟨ret_int hh.out.symm, hB0w⟩
        | false =>
          go_wp2_with fail
          refine (hin1 _).mono ?_
          rintro e w3 ⟨rfl, rfl⟩
          cases i1 with
          | false =>
            have hh := Lib.hid (hend 1 (by rw [hans.out]; rfl) (by decide))
            clear hans hend hgo
            go_wp2_with fail
            go_ret
            exact ⟨ret_int hh.out.symm, hB0w⟩
          | true =>
            go_wp2_with fail
            refine (hin2 _).mono ?_
            rintro e w4 ⟨rfl, rfl⟩
            cases i2 with
            | false =>
              have hh := Lib.hid (hend 1 (by rw [hans.out]; rfl) (by decide))
              clear hans hend hgo
              go_wp2_with fail
              go_ret
              exact ⟨ret_int hh.out.symm, hB0w⟩
            | true =>
              cases hz : ((r.dev k).id == 0) with
              | true =>
                have hzn : ((r.dev k).id != 0) = false := by rw [bne, hz]; rfl
                rw [hz] at hans
                clear hz
                by_cases hp0 : partsErr (r.dev k) = 0
                · have hh := Lib.hid (hgo (by rw [hans.out, hp0]; rfl))
                  have hpf := hpf0 _ hB2
                  rw [hp0] at hpf
                  clear hans hend hgo hpf0 hp0
                  go_wp2_with fail
                  refine hpf.mono ?_
                  rintro e w5 ⟨rfl, hB5⟩
                  have hB0w : Below w.heap.size w w5 := hB0w.trans (hB5.mono hB0w.size)
                  go_wp2_with fail
                  go_roundw
                  case rel => exact ⟨k + 1, by omega, by go_num, hh.out, hB0w⟩
                  case measure => simp [intOf]; omega
                · have hh := Lib.hid (hend (partsErr (r.dev k)) (by rw [hans.out]; rfl) hp0)
                  have hp1 : (partsErr (r.dev k) == 0) = false := by simpa using hp0
                  have hpf := hpf0 _ hB2
                  clear hans hend hgo hp0 hpf0
                  generalize partsErr (r.dev k) = pe at hpf hh hp1
                  go_wp2_with fail
                  refine hpf.mono ?_
                  rintro e w5 ⟨rfl, hB5⟩
                  have hB0w : Below w.heap.size w w5 := hB0w.trans (hB5.mono hB0w.size)
                  go_wp2_with fail
                  go_ret
                  exact ⟨ret_int hh.out.symm, hB0w⟩
              | false =>
                have hzn : ((r.dev k).id != 0) = true := by rw [bne, hz]; rfl
                cases hm : ((r.dev k).id.tmod 2 == 0) with
                | true =>
                  rw [hz, hm] at hans
                  clear hz
                  have hh := Lib.hid (hend 3 (by rw [hans.out]; rfl) (by decide))
                  clear hans hend hgo
                  go_wp2_with fail
                  go_ret
                  exact ⟨ret_int hh.out.symm, hB0w⟩
                | false =>
                  rw [hz, hm] at hans
                  clear hz
                  by_cases hp0 : partsErr (r.dev k) = 0
                  · have hh := Lib.hid (hgo (by rw [hans.out, hp0]; rfl))
                    have hpf := hpf0 _ hB2
                    rw [hp0] at hpf
                    clear hans hend hgo hpf0 hp0
                    go_wp2_with fail
                    refine hpf.mono ?_
                    rintro e w5 ⟨rfl, hB5⟩
                    have hB0w : Below w.heap.size w w5 := hB0w.trans (hB5.mono hB0w.size)
                    go_wp2_with fail
                    go_roundw
                    case rel => exact ⟨k + 1, by omega, by go_num, hh.out, hB0w⟩
                    case measure => simp [intOf]; omega
                  · have hh := Lib.hid (hend (partsErr (r.dev k)) (by rw [hans.out]; rfl) hp0)
                    have hp1 : (partsErr (r.dev k) == 0) = false := by simpa using hp0
                    have hpf := hpf0 _ hB2
                    clear hans hend hgo hp0 hpf0
                    generalize partsErr (r.dev k) = pe at hpf hh hp1
                    go_wp2_with fail
                    refine hpf.mono ?_
                    rintro e w5 ⟨rfl, hB5⟩
                    have hB0w : Below w.heap.size w w5 := hB0w.trans (hB5.mono hB0w.size)
                    go_wp2_with fail
                    go_ret
                    exact ⟨ret_int hh.out.symm, hB0w⟩
    · obtain rfl : k = r.n := by omega
      clear h
      have hh := Lib.hid hE
      clear hE
      go_wp2
      go_ret
      exact ⟨ret_int hh.out.symm, hB⟩
end Go.Proofs.YtkipkkaloiefpaaGreatDoor
/- Devices that the stream makes: what lies in memory while they are made. -/
namespace Go.Proofs.YtkipkkaloiefpaaGreatDoor
open Go.RowKit Go.Maps

/-- Cells of registers: names and numbers in turn. -/
def RegL (xs : List Value) : Prop := ∀ j, j < xs.length → (j % 2 = 0 → ∃ s : ByteArray, xs[j]? = some (.string s) ∧ s.size ≤ 1048576) ∧ (j % 2 = 1 → ∃ z : Int, xs[j]? = some (.int .i64 z))
/-- Cells of instructions. -/
def InsL (xs : List Value) : Prop := ∀ j, j < xs.length → ∃ s : ByteArray, xs[j]? = some (.string s) ∧ s.size ≤ 1048576
theorem RegL.nil : RegL [] := fun j hj => absurd hj (Nat.not_lt_zero j)
theorem InsL.nil : InsL [] := fun j hj => absurd hj (Nat.not_lt_zero j)
theorem RegL.push {xs : List Value} (h : RegL xs) (he : xs.length % 2 = 0) {s : ByteArray} (hs : s.size ≤ 1048576) (z : Int) : RegL (xs ++ [.string s, .int .i64 z]) := by
  intro j hj
  simp at hj
  by_cases h1 : j < xs.length
  · rw [List.getElem?_append_left h1]
    exact h j h1
  · rw [List.getElem?_append_right (by omega)]
    by_cases e : j = xs.length
    · rw [e, Nat.sub_self]
      exact ⟨fun _ => ⟨s, rfl, hs⟩, fun h2 => by omega⟩
    · have e2 : j - xs.length = 1 := by omega
      rw [e2]
      exact ⟨fun h2 => by omega, fun _ => ⟨z, rfl⟩⟩
theorem InsL.push {xs : List Value} (h : InsL xs) {s s2 : ByteArray} (hs : s.size ≤ 1048576) (hs2 : s2.size ≤ 1048576) : InsL (xs ++ [.string s, .string s2]) := by
  intro j hj
  simp at hj
  by_cases h1 : j < xs.length
  · rw [List.getElem?_append_left h1]
    exact h j h1
  · rw [List.getElem?_append_right (by omega)]
    by_cases e : j = xs.length
    · rw [e, Nat.sub_self]
      exact ⟨s, rfl, hs⟩
    · have e2 : j - xs.length = 1 := by omega
      rw [e2]
      exact ⟨s2, rfl, hs2⟩

def txtOf : Value → ByteArray
  | .string s => s
  | _ => ⟨#[]⟩
def nrOf : Value → Int
  | .int _ z => z
  | _ => 0
def regsOf (xs : List Value) (n : Nat) : Regs := ⟨n, fun k => txtOf (xs.getD (k * 2) (.bool false)), fun k => nrOf (xs.getD (k * 2 + 1) (.bool false))⟩
def inssOf (xs : List Value) (n : Nat) : Inss := ⟨n, fun k => txtOf (xs.getD (k * 2) (.bool false)), fun k => txtOf (xs.getD (k * 2 + 1) (.bool false))⟩

theorem regs_at {w : World} {base n : Nat} {a : Option Addr} {cap : Nat} {xs : List Value} (h : w.ownsRow base 50 2 (.slice a n cap) n xs) (hx : RegL xs) (hn : n ≤ 1000) : RegsAt w.heap.size w a (regsOf xs n) := by
  refine ⟨hn, fun h0 => ?_⟩
  obtain ⟨g, cap', e, hg, hl⟩ := h.form h0
  cases e
  refine ⟨g, 0, rfl, hl, fun k hk => ?_⟩
  have hk : k < n := hk
  have hlen := h.1
  obtain ⟨s, hs, hz⟩ := (hx (k * 2) (by omega)).1 (by omega)
  obtain ⟨z, hz2⟩ := (hx (k * 2 + 1) (by omega)).2 (by omega)
  have e1 : (regsOf xs n).name k = s := by
    show txtOf (xs.getD (k * 2) _) = s
    rw [List.getD_eq_getElem?_getD, hs]
    rfl
  have e2 : (regsOf xs n).long k = z := by
    show nrOf (xs.getD (k * 2 + 1) _) = z
    rw [List.getD_eq_getElem?_getD, hz2]
    rfl
  rw [e1, e2, Nat.zero_add]
  exact ⟨(h.cellAt (k * 2) (by omega)).trans hs, (h.cellAt (k * 2 + 1) (by omega)).trans hz2, hz⟩
theorem inss_at {w : World} {base n : Nat} {a : Option Addr} {cap : Nat} {xs : List Value} (h : w.ownsRow base 55 2 (.slice a n cap) n xs) (hx : InsL xs) (hn : n ≤ 1000) : InsAt w.heap.size w a (inssOf xs n) := by
  refine ⟨hn, fun h0 => ?_⟩
  obtain ⟨g, cap', e, hg, hl⟩ := h.form h0
  cases e
  refine ⟨g, 0, rfl, hl, fun k hk => ?_⟩
  have hk : k < n := hk
  have hlen := h.1
  obtain ⟨s, hs, hz⟩ := hx (k * 2) (by omega)
  obtain ⟨s2, hs2, hz2⟩ := hx (k * 2 + 1) (by omega)
  have e1 : (inssOf xs n).code k = s := by
    show txtOf (xs.getD (k * 2) _) = s
    rw [List.getD_eq_getElem?_getD, hs]
    rfl
  have e2 : (inssOf xs n).reg k = s2 := by
    show txtOf (xs.getD (k * 2 + 1) _) = s2
    rw [List.getD_eq_getElem?_getD, hs2]
    rfl
  rw [e1, e2, Nat.zero_add]
  exact ⟨(h.cellAt (k * 2) (by omega)).trans hs, (h.cellAt (k * 2 + 1) (by omega)).trans hs2, hz, hz2⟩

/-- A block that is told whole. -/
theorem cell_of {w : World} {b : Nat} {cs : Array Value} {t : TypeId} (h : w.heap[b]? = some (.cells cs t)) {j : Nat} {u : Value} (hj : cs[j]? = some u) : w.cell? ⟨b, j, none⟩ = some u := by
  unfold World.cell?
  simp only [h]
  simpa using hj
theorem frozen_of {w : World} {b : Nat} {cs : Array Value} {t : TypeId} (h : w.heap[b]? = some (.cells cs t)) (j : Nat) : w.frozen? ⟨b, j, none⟩ = false := by
  unfold World.frozen?
  simp only [h]
  simp
theorem blk_lt {w : World} {b : Nat} {o : Obj} (h : w.heap[b]? = some o) : b < w.heap.size := (Array.getElem?_eq_some_iff.1 h).1
theorem blk_set {w : World} {b j : Nat} {cs : Array Value} {t : TypeId} (h : w.heap[b]? = some (.cells cs t)) (u : Value) : (w.setCell ⟨b, j, none⟩ u).heap[b]? = some (.cells (cs.setIfInBounds j u) t) := by
  have hl := blk_lt h
  have e : w.heap[b] = .cells cs t := by
    have := Array.getElem?_eq_getElem hl
    rw [h] at this
    exact (Option.some.inj this).symm
  unfold World.setCell
  simp [Array.getElem_modify, hl, e]
/-- A row's block is none of another type. -/
theorem row_ne {w : World} {base e size n b : Nat} {v : Value} {xs : List Value} {cs : Array Value} {t : TypeId} (h : w.ownsRow base e size v n xs) (hb : w.heap[b]? = some (.cells cs t)) (hne : t ≠ e) : v.ownBlock ≠ some b := by
  intro e1
  obtain ⟨_, ⟨rfl, _⟩ | ⟨g, cap, cur, rfl, hg, hh, _⟩⟩ := h
  · simp [Value.ownBlock] at e1
  · have e2 : g = b := by simpa [Value.ownBlock] using e1
    subst e2
    rw [hb] at hh
    simp at hh
    exact hne hh.2
theorem row_any {w w' : World} {base e size n : Nat} {v : Value} {xs : List Value} (h : w.ownsRow base e size v n xs) (hb : ∀ g, v.ownBlock = some g → w'.heap[g]? = w.heap[g]?) : w'.ownsRow base e size v n xs := by
  obtain ⟨hl, h2⟩ := h
  refine ⟨hl, ?_⟩
  rcases h2 with h2 | ⟨g, cap, cur, rfl, hg, hh, r⟩
  · exact .inl h2
  · exact .inr ⟨g, cap, cur, rfl, hg, by rw [hb g rfl]; exact hh, r⟩
theorem Ran.setCell {sb t K : Nat} {w w' : World} (h : Ran sb t K w w') {a : Addr} (ha : w.heap.size ≤ a.block) (hlt : sb < w.heap.size) (v : Value) : Ran sb t K w (w'.setCell a v) := by
  obtain ⟨hg, t', h1, h2, hs⟩ := h
  refine ⟨⟨hg.os, hg.tape, hg.output, ?_, fun k hk hne => ?_⟩, t', h1, h2, hs.kept fun b hb => Below.heap_setCell _ _ _ b (by omega)⟩
  · simpa [World.setCell] using hg.size
  · exact (Below.heap_setCell _ _ _ k (by omega)).trans (hg.block k hk hne)
theorem Ran.grown {sb t K : Nat} {w w' w2 : World} (h : Ran sb t K w w') {row : Option Nat} (hg : w'.grownBy w2 row) (hr : ∀ g, row = some g → w.heap.size ≤ g) (hlt : sb < w.heap.size) : Ran sb t K w w2 := by
  obtain ⟨hg1, t', h1, h2, hs⟩ := h
  have hl := hs.lt
  refine ⟨⟨hg.os.trans hg1.os, hg.tape.trans hg1.tape, hg.output.trans hg1.output, Nat.le_trans hg1.size hg.size, fun k hk hne => ?_⟩, t', h1, h2, hs.kept fun b hb => hg.block b (by omega) (fun e => by have := hr b e.symm; omega)⟩
  exact (hg.block k (Nat.lt_of_lt_of_le hk hg1.size) (fun e => by have := hr k e.symm; omega)).trans (hg1.block k hk hne)

/-- The variable of a device that is being made. -/
structure DVar (sb t K : Nat) (Wk : World) (db : Nat) (name : ByteArray) (long id : Int) (v u : Value) (rn inn : Nat) (W : World) : Prop where
  lt : sb < Wk.heap.size
  ran : Ran sb t K Wk W
  up : Wk.heap.size ≤ db
  blk : W.heap[db]? = some (.cells #[.string name, .int .i64 long, .int .i64 id, v, u] 48)
  nz : name.size ≤ 1048576
  regs : ∃ xs, W.ownsRow Wk.heap.size 50 2 v rn xs ∧ RegL xs
  ins : ∃ ys, W.ownsRow Wk.heap.size 55 2 u inn ys ∧ InsL ys

section
variable {sb t K : Nat} {Wk : World} {db : Nat} {name : ByteArray} {long id : Int} {v u : Value} {rn inn : Nat} {W : World}
theorem DVar.cells (h : DVar sb t K Wk db name long id v u rn inn W) : W.cell? ⟨db, 0, none⟩ = some (.string name) ∧ W.cell? ⟨db, 1, none⟩ = some (.int .i64 long) ∧ W.cell? ⟨db, 2, none⟩ = some (.int .i64 id) ∧ W.cell? ⟨db, 3, none⟩ = some v ∧ W.cell? ⟨db, 4, none⟩ = some u ∧ ∀ j, W.frozen? ⟨db, j, none⟩ = false :=
  ⟨cell_of h.blk rfl, cell_of h.blk rfl, cell_of h.blk rfl, cell_of h.blk rfl, cell_of h.blk rfl, frozen_of h.blk⟩
theorem DVar.kept {K' : Nat} {W' : World} (h : DVar sb t K Wk db name long id v u rn inn W) (hr : Ran sb t K' Wk W') (hb : ∀ b, b < W.heap.size → b ≠ sb → W'.heap[b]? = W.heap[b]?) : DVar sb t K' Wk db name long id v u rn inn W' := by
  obtain ⟨xs, h1, h2⟩ := h.regs
  obtain ⟨ys, h3, h4⟩ := h.ins
  have hlt := h.lt
  have hup := h.up
  exact { h with
    ran := hr
    blk := (hb db (blk_lt h.blk) (by omega)).trans h.blk
    regs := ⟨xs, row_any h1 (fun g hg => hb g (h1.lt g hg).2 (by have := (h1.lt g hg).1; omega)), h2⟩
    ins := ⟨ys, row_any h3 (fun g hg => hb g (h3.lt g hg).2 (by have := (h3.lt g hg).1; omega)), h4⟩ }
theorem DVar.later {t' K' : Nat} {W' : World} (h : DVar sb t K Wk db name long id v u rn inn W) (ht : t ≤ t') (ht' : t' ≤ t + K) (hr : Ran sb t' K' W W') : DVar sb t (K + K') Wk db name long id v u rn inn W' :=
  h.kept (h.ran.then ht ht' hr) (fun b hb hne => hr.1.block b hb (fun e => hne (Option.some.inj e)))
theorem DVar.alloc (h : DVar sb t K Wk db name long id v u rn inn W) (o : Obj) : DVar sb t K Wk db name long id v u rn inn (W.alloc o) := h.kept (h.ran.alloc o) (fun b hb _ => Below.heap_alloc W o b hb)
theorem DVar.below {W' : World} (h : DVar sb t K Wk db name long id v u rn inn W) (hB : Below W.heap.size W W') : DVar sb t K Wk db name long id v u rn inn W' := h.kept (h.ran.then_below hB) (fun b hb _ => hB.block b hb)
theorem DVar.mono {K' : Nat} (h : DVar sb t K Wk db name long id v u rn inn W) (hK : K ≤ K') : DVar sb t K' Wk db name long id v u rn inn W := { h with ran := h.ran.mono hK }
theorem DVar.drew (h : DVar sb t K Wk db name long id v u rn inn W) : DVar sb t K Wk db name long id v u rn inn W.drew := by
  have hlt := h.lt
  exact h.kept (by
    obtain ⟨hg, t', h1, h2, hs⟩ := h.ran
    exact ⟨⟨hg.os, hg.tape, hg.output, hg.size, hg.block⟩, t', h1, h2, hs.kept fun _ _ => rfl⟩) (fun _ _ _ => rfl)
/-- A register more. -/
theorem DVar.pushR {w4 : World} {xs : List Value} {g cap : Nat} {s : ByteArray} {z : Int} (h : DVar sb t K Wk db name long id v u rn inn W) (h1 : W.ownsRow Wk.heap.size 50 2 v rn xs) (h2 : RegL xs) (hs : s.size ≤ 1048576) (hown : w4.ownsRow Wk.heap.size 50 2 (.slice (some ⟨g, 0, none⟩) (rn + 1) cap) (rn + 1) (xs ++ [.string s, .int .i64 z])) (hg : W.grownBy w4 v.ownBlock) : DVar sb t K Wk db name long id (.slice (some ⟨g, 0, none⟩) (rn + 1) cap) u (rn + 1) inn (w4.setCell ⟨db, 3, none⟩ (.slice (some ⟨g, 0, none⟩) (rn + 1) cap)) := by
  have hlt := h.lt
  have hup := h.up
  obtain ⟨ys, h3, h4⟩ := h.ins
  have hvb := fun x hx => (h1.lt x hx).1
  have hne := row_ne h1 h.blk (by decide)
  have hb4 : w4.heap[db]? = some (.cells #[.string name, .int .i64 long, .int .i64 id, v, u] 48) := (hg.block db (blk_lt h.blk) (Ne.symm hne)).trans h.blk
  have hu : ∀ x, u.ownBlock = some x → w4.heap[x]? = W.heap[x]? := fun x hx => hg.block x (h3.lt x hx).2 (fun e => by
    obtain ⟨_, ⟨rfl, _⟩ | ⟨g2, cap2, cur2, rfl, _, hh2, _⟩⟩ := h3
    · simp [Value.ownBlock] at hx
    · have e2 : g2 = x := by simpa [Value.ownBlock] using hx
      subst e2
      exact row_ne h1 hh2 (by decide) e.symm)
  have hg2 : g ≠ db := fun e => row_ne hown hb4 (by decide) (by rw [← e]; rfl)
  exact { h with
    ran := (h.ran.grown hg hvb hlt).setCell hup hlt _
    blk := (blk_set hb4 _).trans rfl
    regs := ⟨_, row_any hown (fun g' hg' => Below.heap_setCell _ _ _ g' (by
      have e : g = g' := by simpa [Value.ownBlock] using hg'
      rw [← e]
      exact hg2)), h2.push (by have := h1.1; omega) hs z⟩
    ins := ⟨ys, row_any h3 (fun g' hg' => (Below.heap_setCell _ _ _ g' (fun e => row_ne h3 h.blk (by decide) (by rw [hg', e]))).trans (hu g' hg')), h4⟩ }
/-- An instruction more. -/
theorem DVar.pushI {w4 : World} {ys : List Value} {g cap : Nat} {s s2 : ByteArray} (h : DVar sb t K Wk db name long id v u rn inn W) (h1 : W.ownsRow Wk.heap.size 55 2 u inn ys) (h2 : InsL ys) (hs : s.size ≤ 1048576) (hs2 : s2.size ≤ 1048576) (hown : w4.ownsRow Wk.heap.size 55 2 (.slice (some ⟨g, 0, none⟩) (inn + 1) cap) (inn + 1) (ys ++ [.string s, .string s2])) (hg : W.grownBy w4 u.ownBlock) : DVar sb t K Wk db name long id v (.slice (some ⟨g, 0, none⟩) (inn + 1) cap) rn (inn + 1) (w4.setCell ⟨db, 4, none⟩ (.slice (some ⟨g, 0, none⟩) (inn + 1) cap)) := by
  have hlt := h.lt
  have hup := h.up
  obtain ⟨xs, h3, h4⟩ := h.regs
  have hvb := fun x hx => (h1.lt x hx).1
  have hne := row_ne h1 h.blk (by decide)
  have hb4 : w4.heap[db]? = some (.cells #[.string name, .int .i64 long, .int .i64 id, v, u] 48) := (hg.block db (blk_lt h.blk) (Ne.symm hne)).trans h.blk
  have hu : ∀ x, v.ownBlock = some x → w4.heap[x]? = W.heap[x]? := fun x hx => hg.block x (h3.lt x hx).2 (fun e => by
    obtain ⟨_, ⟨rfl, _⟩ | ⟨g2, cap2, cur2, rfl, _, hh2, _⟩⟩ := h3
    · simp [Value.ownBlock] at hx
    · have e2 : g2 = x := by simpa [Value.ownBlock] using hx
      subst e2
      exact row_ne h1 hh2 (by decide) e.symm)
  have hg2 : g ≠ db := fun e => row_ne hown hb4 (by decide) (by rw [← e]; rfl)
  exact { h with
    ran := (h.ran.grown hg hvb hlt).setCell hup hlt _
    blk := (blk_set hb4 _).trans rfl
    ins := ⟨_, row_any hown (fun g' hg' => Below.heap_setCell _ _ _ g' (by
      have e : g = g' := by simpa [Value.ownBlock] using hg'
      rw [← e]
      exact hg2)), h2.push hs hs2⟩
    regs := ⟨xs, row_any h3 (fun g' hg' => (Below.heap_setCell _ _ _ g' (fun e => row_ne h3 h.blk (by decide) (by rw [hg', e]))).trans (hu g' hg')), h4⟩ }
end
end Go.Proofs.YtkipkkaloiefpaaGreatDoor
/- Devices whose cells turn: what is changed in place is a name or a number as before. -/
namespace Go.Proofs.YtkipkkaloiefpaaGreatDoor
open Go.RowKit Go.Maps

/-- A cell's value, and what may lie there later. -/
def SoftV (x y : Value) : Prop := y = x ∨ (∃ s s' : ByteArray, x = .string s ∧ y = .string s' ∧ (s.size ≤ 1048576 → s'.size ≤ 1048576)) ∨ ∃ z z' : Int, x = .int .i64 z ∧ y = .int .i64 z'
theorem SoftV.trans {x y z : Value} (h : SoftV x y) (k : SoftV y z) : SoftV x z := by
  rcases h with rfl | ⟨s, s', rfl, rfl, h1⟩ | ⟨a, b, rfl, rfl⟩
  · exact k
  · rcases k with rfl | ⟨u, u', e, rfl, h2⟩ | ⟨c, d, e, _⟩
    · exact .inr (.inl ⟨s, s', rfl, rfl, h1⟩)
    · cases e
      exact .inr (.inl ⟨s, u', rfl, rfl, fun h => h2 (h1 h)⟩)
    · cases e
  · rcases k with rfl | ⟨u, u', e, _, _⟩ | ⟨c, d, e, rfl⟩
    · exact .inr (.inr ⟨a, b, rfl, rfl⟩)
    · cases e
    · cases e
      exact .inr (.inr ⟨a, d, rfl, rfl⟩)
/-- The cells of all blocks but the stream's hold what they held, or another name or number. -/
def Soft (sb : Nat) (w w' : World) : Prop := w.heap.size ≤ w'.heap.size ∧ ∀ (b j : Nat) (x : Value), b ≠ sb → w.cell? ⟨b, j, none⟩ = some x → ∃ y, w'.cell? ⟨b, j, none⟩ = some y ∧ SoftV x y
theorem Soft.refl (sb : Nat) (w : World) : Soft sb w w := ⟨Nat.le_refl _, fun _ _ x _ h => ⟨x, h, .inl rfl⟩⟩
theorem Soft.trans {sb : Nat} {a b c : World} (h : Soft sb a b) (k : Soft sb b c) : Soft sb a c := ⟨Nat.le_trans h.1 k.1, fun p j x hp hx => by
  obtain ⟨y, h1, h2⟩ := h.2 p j x hp hx
  obtain ⟨z, h3, h4⟩ := k.2 p j y hp h1
  exact ⟨z, h3, h2.trans h4⟩⟩
theorem Soft.ran {sb t K : Nat} {w w' : World} (h : Ran sb t K w w') : Soft sb w w' := ⟨h.1.size, fun _ _ x hb hx => ⟨x, h.cell hx hb, .inl rfl⟩⟩
theorem Soft.alloc {sb : Nat} (w : World) (o : Obj) : Soft sb w (w.alloc o) := ⟨by simp, fun b j x _ hx => ⟨x, (World.cell?_of_block (a := ⟨b, j, none⟩) (Below.heap_alloc w o b (World.block_lt_of_cell? w _ hx))).trans hx, .inl rfl⟩⟩
theorem Soft.below {sb : Nat} {w w' : World} (h : Below w.heap.size w w') : Soft sb w w' := ⟨h.size, fun b j x _ hx => ⟨x, (World.cell?_of_block (a := ⟨b, j, none⟩) (h.block b (World.block_lt_of_cell? w _ hx))).trans hx, .inl rfl⟩⟩
theorem Soft.drew {sb : Nat} (w : World) : Soft sb w w.drew := ⟨Nat.le_refl _, fun _ _ x _ h => ⟨x, h, .inl rfl⟩⟩
theorem Soft.set {sb : Nat} {w : World} {b j : Nat} {x y : Value} (hx : w.cell? ⟨b, j, none⟩ = some x) (hy : SoftV x y) : Soft sb w (w.setCell ⟨b, j, none⟩ y) := ⟨by simp [World.setCell], fun b' j' x' _ hx' => by
  by_cases e : b' = b ∧ j' = j
  · obtain ⟨rfl, rfl⟩ := e
    rw [hx] at hx'
    cases hx'
    exact ⟨y, World.cell?_setCell_same _ _ _ hx, hy⟩
  · refine ⟨x', ?_, .inl rfl⟩
    rw [World.cell?_setCell_other _ _ _ _ (by simp; omega)]
    exact hx'⟩
theorem Soft.setS {sb : Nat} {w : World} {b j : Nat} {s s' : ByteArray} (hx : w.cell? ⟨b, j, none⟩ = some (.string s)) (hs : s'.size ≤ 1048576) : Soft sb w (w.setCell ⟨b, j, none⟩ (.string s')) := Soft.set hx (.inr (.inl ⟨s, s', rfl, rfl, fun _ => hs⟩))
theorem Soft.setI {sb : Nat} {w : World} {b j : Nat} {z z' : Int} (hx : w.cell? ⟨b, j, none⟩ = some (.int .i64 z)) : Soft sb w (w.setCell ⟨b, j, none⟩ (.int .i64 z')) := Soft.set hx (.inr (.inr ⟨z, z', rfl, rfl⟩))
theorem Soft.str {sb : Nat} {w w' : World} (h : Soft sb w w') {b j : Nat} {s : ByteArray} (hb : b ≠ sb) (hx : w.cell? ⟨b, j, none⟩ = some (.string s)) (hs : s.size ≤ 1048576) : ∃ s' : ByteArray, w'.cell? ⟨b, j, none⟩ = some (.string s') ∧ s'.size ≤ 1048576 := by
  obtain ⟨y, h1, rfl | ⟨u, u', e, rfl, h2⟩ | ⟨_, _, e, _⟩⟩ := h.2 b j _ hb hx
  · exact ⟨s, h1, hs⟩
  · cases e
    exact ⟨u', h1, h2 hs⟩
  · cases e
theorem Soft.int {sb : Nat} {w w' : World} (h : Soft sb w w') {b j : Nat} {z : Int} (hb : b ≠ sb) (hx : w.cell? ⟨b, j, none⟩ = some (.int .i64 z)) : ∃ z' : Int, w'.cell? ⟨b, j, none⟩ = some (.int .i64 z') := by
  obtain ⟨y, h1, rfl | ⟨u, u', e, rfl, h2⟩ | ⟨c, d, e, rfl⟩⟩ := h.2 b j _ hb hx
  · exact ⟨z, h1⟩
  · cases e
  · cases e
    exact ⟨d, h1⟩
theorem Soft.slice {sb : Nat} {w w' : World} (h : Soft sb w w') {b j : Nat} {a : Option Addr} {n c : Nat} (hb : b ≠ sb) (hx : w.cell? ⟨b, j, none⟩ = some (.slice a n c)) : w'.cell? ⟨b, j, none⟩ = some (.slice a n c) := by
  obtain ⟨y, h1, rfl | ⟨u, u', e, rfl, h2⟩ | ⟨c, d, e, rfl⟩⟩ := h.2 b j _ hb hx
  · exact h1
  · cases e
  · cases e

/-- No part of the stream. -/
def FarA (sb : Nat) (a : Option Addr) : Prop := ∀ x, a = some x → x.block ≠ sb
def cv (w : World) (b j : Nat) : Value := (w.cell? ⟨b, j, none⟩).getD (.bool false)
def regsIn (w : World) (a : Option Addr) (n : Nat) : Regs := match a with
  | some x => ⟨n, fun k => txtOf (cv w x.block (x.off + k * 2)), fun k => nrOf (cv w x.block (x.off + k * 2 + 1))⟩
  | none => ⟨n, fun _ => ⟨#[]⟩, fun _ => 0⟩
def inssIn (w : World) (a : Option Addr) (n : Nat) : Inss := match a with
  | some x => ⟨n, fun k => txtOf (cv w x.block (x.off + k * 2)), fun k => txtOf (cv w x.block (x.off + k * 2 + 1))⟩
  | none => ⟨n, fun _ => ⟨#[]⟩, fun _ => ⟨#[]⟩⟩
theorem regsIn_n (w : World) (a : Option Addr) (n : Nat) : (regsIn w a n).n = n := by cases a <;> rfl
theorem inssIn_n (w : World) (a : Option Addr) (n : Nat) : (inssIn w a n).n = n := by cases a <;> rfl
theorem cv_str {w : World} {b j : Nat} {s : ByteArray} (h : w.cell? ⟨b, j, none⟩ = some (.string s)) : txtOf (cv w b j) = s := by unfold cv; rw [h]; rfl
theorem cv_num {w : World} {b j : Nat} {z : Int} (h : w.cell? ⟨b, j, none⟩ = some (.int .i64 z)) : nrOf (cv w b j) = z := by unfold cv; rw [h]; rfl

theorem RegsAt.soft {sb B : Nat} {w w' : World} {a : Option Addr} {r : Regs} (h : RegsAt B w a r) (hf : FarA sb a) (hs : Soft sb w w') : RegsAt B w' a (regsIn w' a r.n) := by
  refine ⟨by rw [regsIn_n]; exact h.n_le, fun h0 => ?_⟩
  rw [regsIn_n] at h0
  obtain ⟨b, off, rfl, hb, hc⟩ := h.cells h0
  have hne : b ≠ sb := hf _ rfl
  refine ⟨b, off, rfl, hb, fun k hk => ?_⟩
  rw [regsIn_n] at hk
  obtain ⟨c1, c2, c3⟩ := hc k hk
  obtain ⟨s', d1, d2⟩ := hs.str hne c1 c3
  obtain ⟨z', d3⟩ := hs.int hne c2
  show w'.cell? ⟨b, off + k * 2, none⟩ = some (.string (txtOf (cv w' b (off + k * 2)))) ∧ w'.cell? ⟨b, off + k * 2 + 1, none⟩ = some (.int .i64 (nrOf (cv w' b (off + k * 2 + 1)))) ∧ (txtOf (cv w' b (off + k * 2))).size ≤ 1048576
  rw [cv_str d1, cv_num d3]
  exact ⟨d1, d3, d2⟩
theorem InsAt.soft {sb B : Nat} {w w' : World} {a : Option Addr} {r : Inss} (h : InsAt B w a r) (hf : FarA sb a) (hs : Soft sb w w') : InsAt B w' a (inssIn w' a r.n) := by
  refine ⟨by rw [inssIn_n]; exact h.n_le, fun h0 => ?_⟩
  rw [inssIn_n] at h0
  obtain ⟨b, off, rfl, hb, hc⟩ := h.cells h0
  have hne : b ≠ sb := hf _ rfl
  refine ⟨b, off, rfl, hb, fun k hk => ?_⟩
  rw [inssIn_n] at hk
  obtain ⟨c1, c2, c3, c4⟩ := hc k hk
  obtain ⟨s', d1, d2⟩ := hs.str hne c1 c3
  obtain ⟨s2, d3, d4⟩ := hs.str hne c2 c4
  show w'.cell? ⟨b, off + k * 2, none⟩ = some (.string (txtOf (cv w' b (off + k * 2)))) ∧ w'.cell? ⟨b, off + k * 2 + 1, none⟩ = some (.string (txtOf (cv w' b (off + k * 2 + 1)))) ∧ (txtOf (cv w' b (off + k * 2))).size ≤ 1048576 ∧ (txtOf (cv w' b (off + k * 2 + 1))).size ≤ 1048576
  rw [cv_str d1, cv_str d3]
  exact ⟨d1, d3, d2, d4⟩
/-- The devices that lie there now. -/
def devsIn (w : World) (b off : Nat) (r : Devs) : Devs := ⟨r.n, fun k => ⟨txtOf (cv w b (off + k * 5)), nrOf (cv w b (off + k * 5 + 1)), nrOf (cv w b (off + k * 5 + 2)), regsIn w (r.plc k).ra (r.dev k).regs.n, inssIn w (r.plc k).ia (r.dev k).ins.n⟩, r.plc⟩
theorem DevsAt.soft {sb B : Nat} {w w' : World} {a : Option Addr} {r : Devs} (h : DevsAt B w a r) (hf : FarA sb a) (hp : ∀ k, k < r.n → FarA sb (r.plc k).ra ∧ FarA sb (r.plc k).ia) (hs : Soft sb w w') : ∃ r' : Devs, r'.n = r.n ∧ DevsAt B w' a r' := by
  by_cases h0 : r.n = 0
  · exact ⟨r, rfl, h.n_le, fun h1 => by omega⟩
  obtain ⟨b, off, rfl, hb, hc⟩ := h.cells (by omega)
  have hne : b ≠ sb := hf _ rfl
  refine ⟨devsIn w' b off r, rfl, h.n_le, fun _ => ⟨b, off, rfl, hb, fun k hk => ?_⟩⟩
  have hk : k < r.n := hk
  obtain ⟨⟨c1, c2, c3, c4, c5⟩, hok⟩ := hc k hk
  obtain ⟨s', d1, d2⟩ := hs.str hne c1 hok.name
  obtain ⟨z1, d3⟩ := hs.int hne c2
  obtain ⟨z2, d4⟩ := hs.int hne c3
  have d5 := hs.slice hne c4
  have d6 := hs.slice hne c5
  show (w'.cell? ⟨b, off + k * 5, none⟩ = some (.string (txtOf (cv w' b (off + k * 5)))) ∧ w'.cell? ⟨b, off + k * 5 + 1, none⟩ = some (.int .i64 (nrOf (cv w' b (off + k * 5 + 1)))) ∧ w'.cell? ⟨b, off + k * 5 + 2, none⟩ = some (.int .i64 (nrOf (cv w' b (off + k * 5 + 2)))) ∧
    w'.cell? ⟨b, off + k * 5 + 3, none⟩ = some (.slice (r.plc k).ra (regsIn w' (r.plc k).ra (r.dev k).regs.n).n (r.plc k).rc) ∧ w'.cell? ⟨b, off + k * 5 + 4, none⟩ = some (.slice (r.plc k).ia (inssIn w' (r.plc k).ia (r.dev k).ins.n).n (r.plc k).ic)) ∧ DevOk B w' ⟨txtOf (cv w' b (off + k * 5)), nrOf (cv w' b (off + k * 5 + 1)), nrOf (cv w' b (off + k * 5 + 2)), regsIn w' (r.plc k).ra (r.dev k).regs.n, inssIn w' (r.plc k).ia (r.dev k).ins.n⟩ (r.plc k)
  rw [cv_str d1, cv_num d3, cv_num d4, regsIn_n, inssIn_n]
  exact ⟨⟨d1, d3, d4, d5, d6⟩, hok.regs.soft (hp k hk).1 hs, hok.ins.soft (hp k hk).2 hs, d2, by rw [regsIn_n]; exact hok.capR, by rw [inssIn_n]; exact hok.capI⟩
end Go.Proofs.YtkipkkaloiefpaaGreatDoor
