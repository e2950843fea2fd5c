/- The program's checkDevice and CheckDevices. -/
import Derived.Test.YtkipkkaloiefpaaGreatDoorCheckIns
import Derived.Test.YtkipkkaloiefpaaGreatDoorM2
import Derived.Test.YtkipkkaloiefpaaGreatDoorChainM
import Derived.Test.YtkipkkaloiefpaaGreatDoorPort
import Derived.Test.YtkipkkaloiefpaaGreatDoorStrMap
namespace Go.Proofs.YtkipkkaloiefpaaGreatDoor
open Go.RowKit Go.Maps

theorem below_grown {w w' : World} (h : Below w.heap.size w w') (row : Option Nat) : w.grownBy w' row := ⟨h.os, h.tape, h.output, h.size, fun k hk _ => h.block k hk⟩
theorem firstErr_zero {f : Nat → Int} : ∀ n, firstErr f n = 0 → ∀ k, k < n → f k = 0 := by
  intro n
  induction n with
  | zero => intro _ k hk; omega
  | succ n ih =>
    intro h k hk
    have h' : (if firstErr f n = 0 then f n else firstErr f n) = 0 := h
    by_cases e : firstErr f n = 0
    · rw [if_pos e] at h'
      by_cases ek : k = n
      · rw [ek]; exact h'
      · exact ih e k (by omega)
    · rw [if_neg e] at h'
      exact absurd h' e
theorem regErr_long {r : Regs} {k : Nat} (h : regErr r k = 0) : -1048576 ≤ r.long k ∧ r.long k ≤ 1048576 := by
  unfold regErr at h
  by_cases h1 : keyS (r.name k) = false
  · rw [if_pos h1] at h; omega
  rw [if_neg h1] at h
  by_cases h2 : (before r.name ownL k).contains (r.name k).data.toList = true
  · rw [if_pos h2] at h; omega
  rw [if_neg h2] at h
  by_cases h3 : inB (r.long k) 1 1000 = false
  · rw [if_pos h3] at h; omega
  · simp [inB] at h3
    omega

/-- What is wrong with a device behind others whose names are L. -/
def devErrL (d : Dev) (L : List (List UInt8)) : Int :=
  if keyS d.name = false then 5 else if L.contains d.name.data.toList = true then 6 else if inB d.long 2 32 = false then 1 else if inB d.id 0 4294967295 = false then 1 else if (!(d.id == 0) && (d.id.tmod 2 == 0)) = true then 3 else partsErr d

set_option maxRecDepth 100000 in
set_option maxHeartbeats 4000000 in
theorem checkDevice_any (d : Dev) (p : Plc) (w : World) (c b : Nat) (L : List (List UInt8)) (B : Nat) (h : DevOk B w d p) (hBb : B ≤ b) (hS : Seen w c b L) (hL : L.length < 1000) :
    Calls Tryz.prog 58 #[devV d p, .func (.func 94) #[] #[.pointer (some ⟨c, 0, none⟩)]] w fun e w' => e = .returned (.int .i64 (devErrL d L)) ∧ w.grownBy w' (some b) ∧ (devErrL d L = 0 → Seen w' c b (d.name.data.toList :: L)) := by
  obtain ⟨ra, rc, ia, ic⟩ := p
  have hns := h.name
  have hn := h.regs.n_le
  have hm := h.ins.n_le
  have hlS := hS.lt
  obtain ⟨W0, hW0⟩ : ∃ W0, W0 = w.alloc (.cells #[.string d.name, .int .i64 d.long, .int .i64 d.id, .slice ra d.regs.n rc, .slice ia d.ins.n ic] 48) := ⟨_, rfl⟩
  have hs0 : W0.heap.size = w.heap.size + 1 := by rw [hW0]; simp
  have hg0 : w.grownBy W0 (some b) := by rw [hW0]; exact World.grownBy_alloc _ _ _
  have hcell : ∀ W, W0.grownBy W (some b) → W.cell? ⟨w.heap.size, 0, none⟩ = some (.string d.name) ∧ W.cell? ⟨w.heap.size, 1, none⟩ = some (.int .i64 d.long) ∧ W.cell? ⟨w.heap.size, 2, none⟩ = some (.int .i64 d.id) ∧ W.cell? ⟨w.heap.size, 3, none⟩ = some (.slice ra d.regs.n rc) ∧ W.cell? ⟨w.heap.size, 4, none⟩ = some (.slice ia d.ins.n ic) := by
    intro W hB
    refine ⟨hB.cell ?_ (by intro e; have := Option.some.inj e; simp at this; omega), hB.cell ?_ (by intro e; have := Option.some.inj e; simp at this; omega), hB.cell ?_ (by intro e; have := Option.some.inj e; simp at this; omega), hB.cell ?_ (by intro e; have := Option.some.inj e; simp at this; omega), hB.cell ?_ (by intro e; have := Option.some.inj e; simp at this; omega)⟩ <;>
    · rw [hW0]
      exact World.cell?_alloc_at _ _ _ _ rfl
  have hkey := fun W => isKey_any d.name W hns
  have hS0 : Seen W0 c b L := by rw [hW0]; exact hS.alloc _
  have hnew := isNew_any W0 _ _ _ d.name hns (by omega) hS0
  have hdo : ∀ W, W0.grownBy W (some b) → DevOk W.heap.size W d ⟨ra, rc, ia, ic⟩ := by
    intro W hg
    have hg' := hg0.trans hg
    have hB : Below B w W := ⟨hg'.os, hg'.tape, hg'.output, hg'.size, fun k hk => hg'.block k (by omega) (fun e => by have := Option.some.inj e; omega)⟩
    exact (h.below hB (Nat.le_refl _)).up (by have := hg'.size; omega)
  have hlo : W0.heap.size = w.heap.size + 1 := hs0
  have hans : Hid (devErrL d L = if keyS d.name = false then 5 else if L.contains d.name.data.toList = true then 6 else if inB d.long 2 32 = false then 1 else if inB d.id 0 4294967295 = false then 1 else if (!(d.id == 0) && (d.id.tmod 2 == 0)) = true then 3 else partsErr d) := Lib.hid rfl
  generalize devErrL d L = ans at hans ⊢
  generalize keyS d.name = ky at hkey hans
  generalize L.contains d.name.data.toList = twi at hnew hans
  generalize hi1 : inB d.long 2 32 = i1 at hans
  generalize hi2 : inB d.id 0 4294967295 = i2 at hans
  clear h hS hS0
  go_enter Tryz.func58, Tryz.ntmps58
  go_wp2_with fail
  rw [← hW0]
  clear hW0
  obtain ⟨c0, _⟩ := hcell W0 (World.grownBy.refl _ _)
  refine (hkey _).mono ?_
  rintro e w' ⟨rfl, rfl⟩
  cases ky with
  | false =>
    have hh := Lib.hid (show ans = 5 by rw [hans.out]; rfl)
    clear hans
    go_wp2_with fail
    go_ret
    exact ⟨ret_int hh.out.symm, hg0, fun h0 => by have := hh.out; omega⟩
  | true =>
    go_wp2_with fail
    refine hnew.mono ?_
    rintro e w1 ⟨rfl, hS1, hg1⟩
    clear c0
    obtain ⟨c0, c1, c2, c3, c4⟩ := hcell w1 hg1
    have hlS1 := hS1.lt
    cases twi with
    | true =>
      have hh := Lib.hid (show ans = 6 by rw [hans.out]; rfl)
      clear hans
      go_wp2_with fail
      go_ret
      exact ⟨ret_int hh.out.symm, hg0.trans hg1, fun _ => hS1⟩
    | false =>
      cases i1 with
      | false =>
        have hr : d.long < 2 ∨ 32 < d.long := by simp [inB] at hi1; omega
        have hh := Lib.hid (show ans = 1 by rw [hans.out]; rfl)
        clear hans
        rcases hr with hr | hr
        · go_wp2_with fail
          go_ret
          exact ⟨ret_int hh.out.symm, hg0.trans hg1, fun _ => hS1⟩
        · go_wp2_with fail
          go_ret
          exact ⟨ret_int hh.out.symm, hg0.trans hg1, fun _ => hS1⟩
      | true =>
        have hr : 2 ≤ d.long ∧ d.long ≤ 32 := by simp [inB] at hi1; omega
        obtain ⟨hr1, hr2⟩ := hr
        clear hi1
        cases i2 with
        | false =>
          have hr : d.id < 0 ∨ 4294967295 < d.id := by simp [inB] at hi2; omega
          have hh := Lib.hid (show ans = 1 by rw [hans.out]; rfl)
          clear hans
          rcases hr with hr | hr
          · go_wp2_with fail
            go_ret
            exact ⟨ret_int hh.out.symm, hg0.trans hg1, fun _ => hS1⟩
          · go_wp2_with fail
            go_ret
            exact ⟨ret_int hh.out.symm, hg0.trans hg1, fun _ => hS1⟩
        | true =>
          have hr : 0 ≤ d.id ∧ d.id ≤ 4294967295 := by simp [inB] at hi2; omega
          obtain ⟨hr3, hr4⟩ := hr
          clear hi2
          have hreg := checkRegisters_any w1 ra rc d.regs (hdo w1 hg1).regs
          have hins := fun (h0 : firstErr (regErr d.regs) d.regs.n = 0) W hg => checkInstrs_any d ⟨ra, rc, ia, ic⟩ W (hdo W hg) (fun k hk => regErr_long (firstErr_zero _ h0 k hk))
          cases hz : (d.id == 0) with
          | true =>
            have hzn : (d.id != 0) = false := by rw [bne, hz]; rfl
            rw [hz] at hans
            clear hz
            by_cases hl1 : 10 < d.regs.n
            · have hh := Lib.hid (show ans = 2 by rw [hans.out]; exact partsErr_large (.inl hl1))
              clear hans hreg hins
              go_wp2_with fail
              go_ret
              exact ⟨ret_int hh.out.symm, hg0.trans hg1, fun _ => hS1⟩
            · by_cases hl2 : 100 < d.ins.n
              · have hh := Lib.hid (show ans = 2 by rw [hans.out]; exact partsErr_large (.inr hl2))
                clear hans hreg hins
                go_wp2_with fail
                go_ret
                exact ⟨ret_int hh.out.symm, hg0.trans hg1, fun _ => hS1⟩
              · by_cases hr0 : firstErr (regErr d.regs) d.regs.n = 0
                · have hh := Lib.hid (show ans = firstErr (insErr d) d.ins.n by
                    rw [hans.out]
                    show partsErr d = _
                    unfold partsErr
                    rw [if_neg (by omega), if_pos hr0])
                  have hins := hins hr0
                  rw [hr0] at hreg
                  clear hans hr0
                  go_wp2_with fail
                  refine hreg.mono ?_
                  rintro e w3 ⟨rfl, hB3⟩
                  have hg3 := hg1.trans (below_grown hB3 (some b))
                  obtain ⟨c0, c1, c2, c3, c4⟩ := hcell w3 hg3
                  go_wp2_with fail
                  refine (hins w3 hg3).mono ?_
                  rintro e w4 ⟨rfl, hB4⟩
                  have hg4 := hg3.trans (below_grown hB4 (some b))
                  have hS4 := (hS1.below hB3 (by omega) (by omega)).below hB4 (by have := hB3.size; omega) (by have := hB3.size; omega)
                  go_wp2_with fail
                  go_ret
                  exact ⟨ret_int hh.out.symm, hg0.trans hg4, fun _ => hS4⟩
                · have hh := Lib.hid (show ans = firstErr (regErr d.regs) d.regs.n by
                    rw [hans.out]
                    show partsErr d = _
                    unfold partsErr
                    rw [if_neg (by omega), if_neg hr0])
                  have hr1 : (firstErr (regErr d.regs) d.regs.n == 0) = false := by simpa using hr0
                  clear hans hins hr0
                  generalize firstErr (regErr d.regs) d.regs.n = re at hreg hh hr1
                  go_wp2_with fail
                  refine hreg.mono ?_
                  rintro e w3 ⟨rfl, hB3⟩
                  have hg3 := hg1.trans (below_grown hB3 (some b))
                  have hS3 := hS1.below hB3 (by omega) (by omega)
                  go_wp2_with fail
                  go_ret
                  exact ⟨ret_int hh.out.symm, hg0.trans hg3, fun _ => hS3⟩
          | false =>
            have hzn : (d.id != 0) = true := by rw [bne, hz]; rfl
            have hem : d.id.tmod 2 = d.id % 2 := Int.tmod_eq_emod_of_nonneg hr3
            rw [hem] at hans
            clear hem
            cases hm2 : (d.id % 2 == 0) with
            | true =>
              rw [hz, hm2] at hans
              clear hz
              have hh := Lib.hid (show ans = 3 by rw [hans.out]; rfl)
              clear hans
              go_wp2_with fail
              go_ret
              exact ⟨ret_int hh.out.symm, hg0.trans hg1, fun _ => hS1⟩
            | false =>
              rw [hz, hm2] at hans
              clear hz
              by_cases hl1 : 10 < d.regs.n
              · have hh := Lib.hid (show ans = 2 by rw [hans.out]; exact partsErr_large (.inl hl1))
                clear hans hreg hins
                go_wp2_with fail
                go_ret
                exact ⟨ret_int hh.out.symm, hg0.trans hg1, fun _ => hS1⟩
              · by_cases hl2 : 100 < d.ins.n
                · have hh := Lib.hid (show ans = 2 by rw [hans.out]; exact partsErr_large (.inr hl2))
                  clear hans hreg hins
                  go_wp2_with fail
                  go_ret
                  exact ⟨ret_int hh.out.symm, hg0.trans hg1, fun _ => hS1⟩
                · by_cases hr0 : firstErr (regErr d.regs) d.regs.n = 0
                  · have hh := Lib.hid (show ans = firstErr (insErr d) d.ins.n by
                      rw [hans.out]
                      show partsErr d = _
                      unfold partsErr
                      rw [if_neg (by omega), if_pos hr0])
                    have hins := hins hr0
                    rw [hr0] at hreg
                    clear hans hr0
                    go_wp2_with fail
                    refine hreg.mono ?_
                    rintro e w3 ⟨rfl, hB3⟩
                    have hg3 := hg1.trans (below_grown hB3 (some b))
                    obtain ⟨c0, c1, c2, c3, c4⟩ := hcell w3 hg3
                    go_wp2_with fail
                    refine (hins w3 hg3).mono ?_
                    rintro e w4 ⟨rfl, hB4⟩
                    have hg4 := hg3.trans (below_grown hB4 (some b))
                    have hS4 := (hS1.below hB3 (by omega) (by omega)).below hB4 (by have := hB3.size; omega) (by have := hB3.size; omega)
                    go_wp2_with fail
                    go_ret
                    exact ⟨ret_int hh.out.symm, hg0.trans hg4, fun _ => hS4⟩
                  · have hh := Lib.hid (show ans = firstErr (regErr d.regs) d.regs.n by
                      rw [hans.out]
                      show partsErr d = _
                      unfold partsErr
                      rw [if_neg (by omega), if_neg hr0])
                    have hr1 : (firstErr (regErr d.regs) d.regs.n == 0) = false := by simpa using hr0
                    clear hans hins hr0
                    generalize firstErr (regErr d.regs) d.regs.n = re at hreg hh hr1
                    go_wp2_with fail
                    refine hreg.mono ?_
                    rintro e w3 ⟨rfl, hB3⟩
                    have hg3 := hg1.trans (below_grown hB3 (some b))
                    have hS3 := hS1.below hB3 (by omega) (by omega)
                    go_wp2_with fail
                    go_ret
                    exact ⟨ret_int hh.out.symm, hg0.trans hg3, fun _ => hS3⟩
end Go.Proofs.YtkipkkaloiefpaaGreatDoor
/- The program's CheckDevices. -/
namespace Go.Proofs.YtkipkkaloiefpaaGreatDoor
open Go.RowKit Go.Maps

theorem devErrL_is (r : Devs) (k : Nat) : devErrL (r.dev k) (before r.name [] k) = devErr r k := by
  unfold devErrL devErr
  rw [hasName_before, List.contains_nil, Bool.or_false]

set_option maxRecDepth 100000 in
theorem checkDevices_any (w : World) (a : Option Addr) (cap : Nat) (r : Devs) (h : DevsAt w.heap.size w a r) :
    Calls Tryz.prog 21 #[.slice a r.n cap] w fun e w' => e = .returned (.int .i64 (devsErr r)) ∧ Below w.heap.size w w' := by
  have hn := h.n_le
  by_cases h0 : r.n = 0
  · have hh : devsErr r = 8 := by unfold devsErr; rw [if_pos h0]
    rw [hh, h0]
    clear hh h0 hn h
    go_enter Tryz.func21, Tryz.ntmps21
    go_wp2_with fail
    go_ret
    exact ⟨rfl, Below.refl _ _⟩
  by_cases h20 : 20 < r.n
  · have hh : devsErr r = 2 := by unfold devsErr; rw [if_neg h0, if_pos h20]
    rw [hh]
    clear hh h
    go_enter Tryz.func21, Tryz.ntmps21
    go_wp2_with fail
    go_ret
    exact ⟨rfl, Below.refl _ _⟩
  have hh : devsErr r = firstErr (devErr r) r.n := by unfold devsErr; rw [if_neg h0, if_neg h20]
  rw [hh]
  clear hh
  have hz0 : ((r.n : Int) == 0) = false := by simpa using h0
  have hz20 : decide (20 < (r.n : Int)) = false := by simp; omega
  go_enter Tryz.func21, Tryz.ntmps21
  go_wp2_with fail
  refine (newStrings_any _ none 0 0 (fun _ => bypassS) (by decide) (fun h => by omega)).mono ?_
  rintro e w1 ⟨rfl, hS, hB1⟩
  have hS1 : Seen w1 (w.heap.size + 1) w.heap.size (before r.name [] 0) := hS
  clear hS
  go_wp2_with fail
  go_loopw [5, 6, 16] (fun _ _ i wr => ∃ k : Nat, k ≤ r.n ∧ i = .int .i64 (k : Int) ∧ firstErr (devErr r) k = 0 ∧ Seen wr (w.heap.size + 1) w.heap.size (before r.name [] k) ∧ Below w.heap.size w wr) (fun _ _ i _ => r.n - (intOf i).toNat)
  case atStart => exact ⟨0, by omega, rfl, rfl, hS1, hB1⟩
  case round =>
    clear hS1 hB1
    obtain ⟨k, hk, rfl, hE, hS, hB⟩ := hrel
    by_cases hlt : k < r.n
    · obtain ⟨b, off, rfl, hbB, hcells⟩ := (h.below hB (Nat.le_refl _)).cells (by omega)
      obtain ⟨⟨hc0, hc1, hc2, hc3, hc4⟩, hdo⟩ := hcells k hlt
      have hsz := hB.size
      obtain ⟨Wr, hWr⟩ : ∃ Wr, Wr = wr.alloc (.cells #[.string (r.dev k).name, .int .i64 (r.dev k).long, .int .i64 (r.dev k).id, .slice (r.plc k).ra (r.dev k).regs.n (r.plc k).rc, .slice (r.plc k).ia (r.dev k).ins.n (r.plc k).ic] 48) := ⟨_, rfl⟩
      have hBr : Below w.heap.size w Wr := by rw [hWr]; exact hB.alloc hB.size _
      have hdo' : DevOk w.heap.size Wr (r.dev k) (r.plc k) := by rw [hWr]; exact hdo.below ((Below.refl _ wr).alloc hB.size _) (Nat.le_refl _)
      have hSr : Seen Wr (w.heap.size + 1) w.heap.size (before r.name [] k) := by rw [hWr]; exact hS.alloc _
      have hchk := checkDevice_any (r.dev k) (r.plc k) Wr _ _ _ w.heap.size hdo' (Nat.le_refl _) hSr (by rw [before_length]; simp; omega)
      rw [devErrL_is] at hchk
      have hSn : before r.name [] (k + 1) = (r.dev k).name.data.toList :: before r.name [] k := rfl
      rw [← hSn] at hchk
      clear hcells hSn hS h hdo hdo'
      by_cases he : devErr r k = 0
      · have hh := Lib.hid (firstErr_succ hE he)
        rw [he] at hchk
        clear hE he
        go_wp2_with fail
        rw [← hWr]
        clear hWr hc0 hc1 hc2 hc3 hc4
        refine hchk.mono ?_
        rintro e w2 ⟨rfl, hg2, hS2⟩
        have hS2 := hS2 trivial
        go_wp2_with fail
        go_roundw
        case rel => exact ⟨k + 1, by omega, by go_num, hh.out, hS2, hBr.grown hg2 hBr.size (fun k hk => by cases hk; omega)⟩
        case measure => simp [intOf]; omega
      · have hh := Lib.hid (firstErr_at hE he r.n hlt)
        have he' : (devErr r k == 0) = false := by simpa using he
        clear hE he
        generalize devErr r k = ek at hchk hh he'
        go_wp2_with fail
        rw [← hWr]
        clear hWr hc0 hc1 hc2 hc3 hc4
        refine hchk.mono ?_
        rintro e w2 ⟨rfl, hg2, hS2⟩
        clear hS2
        go_wp2_with fail
        go_ret
        exact ⟨ret_int hh.out.symm, hBr.grown hg2 hBr.size (fun k hk => by cases hk; omega)⟩
    · obtain rfl : k = r.n := by omega
      clear h
      have hh := Lib.hid hE
      clear hE
      go_wp2
      go_ret
      exact ⟨ret_int hh.out.symm, hB⟩
end Go.Proofs.YtkipkkaloiefpaaGreatDoor
/- What the check of devices tells of each of them. -/
namespace Go.Proofs.YtkipkkaloiefpaaGreatDoor
open Go.RowKit Go.Maps

/-- What is so of a device that is right. -/
structure Sure (d : Dev) : Prop where
  right : Right d
  longs : ∀ k, k < d.regs.n → 1 ≤ d.regs.long k ∧ d.regs.long k ≤ 1000
  id : ∃ i : Nat, d.id = (i : Int) ∧ i < 4294967296
  codes : ∀ k, k < d.ins.n → ((d.ins.code k).size : Int) = d.long
  regsN : d.regs.n ≤ 10
  notByp : hasName d.regs.name bypassS d.regs.n = false
  notIdc : hasName d.regs.name idcodeS d.regs.n = false

theorem firstErr_none {f : Nat → Int} : ∀ n, firstErr f n = 0 → ∀ k, k < n → f k = 0 := firstErr_zero

theorem inB_bounds {x lo hi : Int} (h : inB x lo hi = true) : lo ≤ x ∧ x ≤ hi := by
  simp [inB] at h
  omega
theorem regErr_bounds {r : Regs} {k : Nat} (h : regErr r k = 0) : 1 ≤ r.long k ∧ r.long k ≤ 1000 := by
  unfold regErr at h
  split at h
  · cases h
  · split at h
    · cases h
    · split at h
      · cases h
      · rename_i h3
        exact inB_bounds (by simpa using h3)
theorem regErr_name {r : Regs} {k : Nat} (h : regErr r k = 0) : ((r.name k).toList == bypassS.toList) = false ∧ ((r.name k).toList == idcodeS.toList) = false := by
  rw [regErr_is] at h
  split at h
  · cases h
  · split at h
    · cases h
    · rename_i h2
      have h3 := (Bool.not_eq_true _).mp h2
      rw [Bool.or_eq_false_iff, Bool.or_eq_false_iff] at h3
      rw [ByteArray.toList_eq, ByteArray.toList_eq] at *
      rw [ByteArray.toList_eq]
      exact ⟨h3.1.1, h3.1.2⟩
theorem hasName_none {xs : Nat → ByteArray} {s : ByteArray} : ∀ n, (∀ k, k < n → ((xs k).toList == s.toList) = false) → hasName xs s n = false
  | 0, _ => rfl
  | n + 1, h => hasName_miss (hasName_none n fun k hk => h k (by omega)) (h n (by omega))
theorem insErr_facts {d : Dev} {k : Nat} (h : insErr d k = 0) : ((d.ins.code k).size : Int) = d.long ∧ knownB d (d.ins.reg k) = true := by
  unfold insErr at h
  split at h
  · rename_i h1
    rw [h] at h1
    simp at h1
  · rename_i h1
    split at h
    · cases h
    · split at h
      · cases h
      · split at h
        · rename_i h4
          refine ⟨?_, h4⟩
          have : codeErr (d.ins.code k) d.long = 0 := by simpa using h1
          unfold codeErr at this
          split at this
          · cases this
          · rename_i h5
            simpa using h5
        · cases h
theorem partsErr_facts {d : Dev} (h : partsErr d = 0) : d.regs.n ≤ 10 ∧ (∀ k, k < d.regs.n → regErr d.regs k = 0) ∧ ∀ k, k < d.ins.n → insErr d k = 0 := by
  by_cases hlg : 10 < d.regs.n ∨ 100 < d.ins.n
  · rw [partsErr_large hlg] at h
    cases h
  · have h1 : d.regs.n ≤ 10 := by omega
    have h2 : d.ins.n ≤ 100 := by omega
    by_cases hr : firstErr (regErr d.regs) d.regs.n = 0
    · by_cases hi : firstErr (insErr d) d.ins.n = 0
      · exact ⟨h1, firstErr_none _ hr, firstErr_none _ hi⟩
      · exfalso
        have : partsErr d = firstErr (insErr d) d.ins.n := by
          unfold partsErr
          rw [if_neg hlg]
          simp [hr]
        rw [this] at h
        exact hi h
    · exfalso
      have : partsErr d = firstErr (regErr d.regs) d.regs.n := by
        unfold partsErr
        rw [if_neg hlg]
        simp [hr]
      rw [this] at h
      exact hr h

theorem devErr_facts {r : Devs} {k : Nat} (h : devErr r k = 0) : hasName r.name (r.name k) k = false ∧ (2 ≤ (r.dev k).long ∧ (r.dev k).long ≤ 32) ∧ (0 ≤ (r.dev k).id ∧ (r.dev k).id ≤ 4294967295) ∧ partsErr (r.dev k) = 0 := by
  unfold devErr at h
  split at h
  · cases h
  · split at h
    · cases h
    · rename_i h2
      split at h
      · cases h
      · rename_i h3
        split at h
        · cases h
        · rename_i h4
          split at h
          · cases h
          · exact ⟨by simpa using h2, inB_bounds (by simpa using h3), inB_bounds (by simpa using h4), h⟩

theorem devs_sure {B : Nat} {w : World} {a : Option Addr} {r : Devs} (hat : DevsAt B w a r) (h : devsErr r = 0) : (1 ≤ r.n ∧ r.n ≤ 20) ∧ ∀ k, k < r.n → Sure (r.dev k) ∧ hasName r.name (r.name k) k = false := by
  have h0 : ¬ r.n = 0 := fun e => by unfold devsErr at h; rw [if_pos e] at h; cases h
  have h20 : ¬ 20 < r.n := fun e => by unfold devsErr at h; rw [if_neg h0, if_pos e] at h; cases h
  refine ⟨⟨by omega, by omega⟩, fun k hk => ?_⟩
  have hall : firstErr (devErr r) r.n = 0 := by unfold devsErr at h; rw [if_neg h0, if_neg h20] at h; exact h
  obtain ⟨h1, h2, h3, h4⟩ := devErr_facts (firstErr_none _ hall k hk)
  obtain ⟨h5, h6, h7⟩ := partsErr_facts h4
  have hok := hat.ok hk
  refine ⟨⟨⟨h2.1, h2.2, fun j hj => (insErr_facts (h7 j hj)).2, fun j hj => ?_⟩, fun j hj => regErr_bounds (h6 j hj), ⟨(r.dev k).id.toNat, by omega, by omega⟩, fun j hj => (insErr_facts (h7 j hj)).1, h5, hasName_none _ fun j hj => (regErr_name (h6 j hj)).1, hasName_none _ fun j hj => (regErr_name (h6 j hj)).2⟩, h1⟩
  obtain ⟨b, off, _, _, hc⟩ := hok.ins.cells (by omega)
  exact (hc j hj).2.2.2
end Go.Proofs.YtkipkkaloiefpaaGreatDoor
/- The chain's each, for whatever is done with each port. -/
namespace Go.Proofs.YtkipkkaloiefpaaGreatDoor
open Go.RowKit Go.Maps

set_option maxRecDepth 100000 in
/-- each, of the port's portReset: I tells the world behind the first k ports. -/
theorem eachReset_any (w : World) (cb g n cap : Nat) (pbs : Nat → Nat) (I : Nat → World → Prop) (hn : n ≤ 1000)
    (hc : ∀ k W, I k W → W.cell? ⟨cb, 1, none⟩ = some (.slice (some ⟨g, 0, none⟩) n cap) ∧ ∀ j, j < n → W.cell? ⟨g, j, none⟩ = some (.pointer (some ⟨pbs j, 0, none⟩)))
    (hf : ∀ k W, k < n → I k W → Calls Tryz.prog 62 #[.pointer (some ⟨pbs k, 0, none⟩)] W fun e w' => e = .returned (.tuple #[]) ∧ I (k + 1) w') (h0 : I 0 w) :
    Calls Tryz.prog 111 #[.pointer (some ⟨cb, 0, none⟩), .func (.func 62) #[] #[]] w fun e w' => e = .returned (.tuple #[]) ∧ I n w' := by
  obtain ⟨h1, _⟩ := hc 0 w h0
  go_enter Tryz.func111, Tryz.ntmps111
  go_wp2_with fail
  go_loopw [11] (fun i wr => ∃ k : Nat, k ≤ n ∧ i = .int .i64 (k : Int) ∧ I k wr) (fun i _ => n - (intOf i).toNat)
  case atStart => exact ⟨0, by omega, rfl, h0⟩
  case round =>
    clear h0 h1
    obtain ⟨k, hk, rfl, hI⟩ := hrel
    by_cases hlt : k < n
    · have hcell := (hc k wr hI).2 k hlt
      have hcall := hf k wr hlt hI
      clear hc hf hI
      go_wp2_with fail
      refine hcall.mono ?_
      rintro e w2 ⟨rfl, hI2⟩
      go_wp2_with fail
      go_roundw
      case rel => exact ⟨k + 1, by omega, by go_num, hI2⟩
      case measure => simp [intOf]; omega
    · obtain rfl : k = n := by omega
      clear hc hf
      go_wp2_with fail
      go_end0
      exact ⟨rfl, hI⟩

set_option maxRecDepth 100000 in
/-- each, of the port's captureDR: I tells the world behind the first k ports. -/
theorem eachCapDR_any (w : World) (cb g n cap : Nat) (pbs : Nat → Nat) (I : Nat → World → Prop) (hn : n ≤ 1000)
    (hc : ∀ k W, I k W → W.cell? ⟨cb, 1, none⟩ = some (.slice (some ⟨g, 0, none⟩) n cap) ∧ ∀ j, j < n → W.cell? ⟨g, j, none⟩ = some (.pointer (some ⟨pbs j, 0, none⟩)))
    (hf : ∀ k W, k < n → I k W → Calls Tryz.prog 112 #[.pointer (some ⟨pbs k, 0, none⟩)] W fun e w' => e = .returned (.tuple #[]) ∧ I (k + 1) w') (h0 : I 0 w) :
    Calls Tryz.prog 111 #[.pointer (some ⟨cb, 0, none⟩), .func (.func 112) #[] #[]] w fun e w' => e = .returned (.tuple #[]) ∧ I n w' := by
  obtain ⟨h1, _⟩ := hc 0 w h0
  go_enter Tryz.func111, Tryz.ntmps111
  go_wp2_with fail
  go_loopw [11] (fun i wr => ∃ k : Nat, k ≤ n ∧ i = .int .i64 (k : Int) ∧ I k wr) (fun i _ => n - (intOf i).toNat)
  case atStart => exact ⟨0, by omega, rfl, h0⟩
  case round =>
    clear h0 h1
    obtain ⟨k, hk, rfl, hI⟩ := hrel
    by_cases hlt : k < n
    · have hcell := (hc k wr hI).2 k hlt
      have hcall := hf k wr hlt hI
      clear hc hf hI
      go_wp2_with fail
      refine hcall.mono ?_
      rintro e w2 ⟨rfl, hI2⟩
      go_wp2_with fail
      go_roundw
      case rel => exact ⟨k + 1, by omega, by go_num, hI2⟩
      case measure => simp [intOf]; omega
    · obtain rfl : k = n := by omega
      clear hc hf
      go_wp2_with fail
      go_end0
      exact ⟨rfl, hI⟩

set_option maxRecDepth 100000 in
/-- each, of the port's updateDR: I tells the world behind the first k ports. -/
theorem eachUpDR_any (w : World) (cb g n cap : Nat) (pbs : Nat → Nat) (I : Nat → World → Prop) (hn : n ≤ 1000)
    (hc : ∀ k W, I k W → W.cell? ⟨cb, 1, none⟩ = some (.slice (some ⟨g, 0, none⟩) n cap) ∧ ∀ j, j < n → W.cell? ⟨g, j, none⟩ = some (.pointer (some ⟨pbs j, 0, none⟩)))
    (hf : ∀ k W, k < n → I k W → Calls Tryz.prog 113 #[.pointer (some ⟨pbs k, 0, none⟩)] W fun e w' => e = .returned (.tuple #[]) ∧ I (k + 1) w') (h0 : I 0 w) :
    Calls Tryz.prog 111 #[.pointer (some ⟨cb, 0, none⟩), .func (.func 113) #[] #[]] w fun e w' => e = .returned (.tuple #[]) ∧ I n w' := by
  obtain ⟨h1, _⟩ := hc 0 w h0
  go_enter Tryz.func111, Tryz.ntmps111
  go_wp2_with fail
  go_loopw [11] (fun i wr => ∃ k : Nat, k ≤ n ∧ i = .int .i64 (k : Int) ∧ I k wr) (fun i _ => n - (intOf i).toNat)
  case atStart => exact ⟨0, by omega, rfl, h0⟩
  case round =>
    clear h0 h1
    obtain ⟨k, hk, rfl, hI⟩ := hrel
    by_cases hlt : k < n
    · have hcell := (hc k wr hI).2 k hlt
      have hcall := hf k wr hlt hI
      clear hc hf hI
      go_wp2_with fail
      refine hcall.mono ?_
      rintro e w2 ⟨rfl, hI2⟩
      go_wp2_with fail
      go_roundw
      case rel => exact ⟨k + 1, by omega, by go_num, hI2⟩
      case measure => simp [intOf]; omega
    · obtain rfl : k = n := by omega
      clear hc hf
      go_wp2_with fail
      go_end0
      exact ⟨rfl, hI⟩

set_option maxRecDepth 100000 in
/-- each, of the port's captureIR: I tells the world behind the first k ports. -/
theorem eachCapIR_any (w : World) (cb g n cap : Nat) (pbs : Nat → Nat) (I : Nat → World → Prop) (hn : n ≤ 1000)
    (hc : ∀ k W, I k W → W.cell? ⟨cb, 1, none⟩ = some (.slice (some ⟨g, 0, none⟩) n cap) ∧ ∀ j, j < n → W.cell? ⟨g, j, none⟩ = some (.pointer (some ⟨pbs j, 0, none⟩)))
    (hf : ∀ k W, k < n → I k W → Calls Tryz.prog 114 #[.pointer (some ⟨pbs k, 0, none⟩)] W fun e w' => e = .returned (.tuple #[]) ∧ I (k + 1) w') (h0 : I 0 w) :
    Calls Tryz.prog 111 #[.pointer (some ⟨cb, 0, none⟩), .func (.func 114) #[] #[]] w fun e w' => e = .returned (.tuple #[]) ∧ I n w' := by
  obtain ⟨h1, _⟩ := hc 0 w h0
  go_enter Tryz.func111, Tryz.ntmps111
  go_wp2_with fail
  go_loopw [11] (fun i wr => ∃ k : Nat, k ≤ n ∧ i = .int .i64 (k : Int) ∧ I k wr) (fun i _ => n - (intOf i).toNat)
  case atStart => exact ⟨0, by omega, rfl, h0⟩
  case round =>
    clear h0 h1
    obtain ⟨k, hk, rfl, hI⟩ := hrel
    by_cases hlt : k < n
    · have hcell := (hc k wr hI).2 k hlt
      have hcall := hf k wr hlt hI
      clear hc hf hI
      go_wp2_with fail
      refine hcall.mono ?_
      rintro e w2 ⟨rfl, hI2⟩
      go_wp2_with fail
      go_roundw
      case rel => exact ⟨k + 1, by omega, by go_num, hI2⟩
      case measure => simp [intOf]; omega
    · obtain rfl : k = n := by omega
      clear hc hf
      go_wp2_with fail
      go_end0
      exact ⟨rfl, hI⟩

set_option maxRecDepth 100000 in
/-- each, of the port's updateIR: I tells the world behind the first k ports. -/
theorem eachUpIR_any (w : World) (cb g n cap : Nat) (pbs : Nat → Nat) (I : Nat → World → Prop) (hn : n ≤ 1000)
    (hc : ∀ k W, I k W → W.cell? ⟨cb, 1, none⟩ = some (.slice (some ⟨g, 0, none⟩) n cap) ∧ ∀ j, j < n → W.cell? ⟨g, j, none⟩ = some (.pointer (some ⟨pbs j, 0, none⟩)))
    (hf : ∀ k W, k < n → I k W → Calls Tryz.prog 115 #[.pointer (some ⟨pbs k, 0, none⟩)] W fun e w' => e = .returned (.tuple #[]) ∧ I (k + 1) w') (h0 : I 0 w) :
    Calls Tryz.prog 111 #[.pointer (some ⟨cb, 0, none⟩), .func (.func 115) #[] #[]] w fun e w' => e = .returned (.tuple #[]) ∧ I n w' := by
  obtain ⟨h1, _⟩ := hc 0 w h0
  go_enter Tryz.func111, Tryz.ntmps111
  go_wp2_with fail
  go_loopw [11] (fun i wr => ∃ k : Nat, k ≤ n ∧ i = .int .i64 (k : Int) ∧ I k wr) (fun i _ => n - (intOf i).toNat)
  case atStart => exact ⟨0, by omega, rfl, h0⟩
  case round =>
    clear h0 h1
    obtain ⟨k, hk, rfl, hI⟩ := hrel
    by_cases hlt : k < n
    · have hcell := (hc k wr hI).2 k hlt
      have hcall := hf k wr hlt hI
      clear hc hf hI
      go_wp2_with fail
      refine hcall.mono ?_
      rintro e w2 ⟨rfl, hI2⟩
      go_wp2_with fail
      go_roundw
      case rel => exact ⟨k + 1, by omega, by go_num, hI2⟩
      case measure => simp [intOf]; omega
    · obtain rfl : k = n := by omega
      clear hc hf
      go_wp2_with fail
      go_end0
      exact ⟨rfl, hI⟩

set_option maxRecDepth 100000 in
/-- each, of the closure that shifts. -/
theorem eachShift_any (vb : Nat) (w : World) (cb g n cap : Nat) (pbs : Nat → Nat) (I : Nat → World → Prop) (hn : n ≤ 1000)
    (hc : ∀ k W, I k W → W.cell? ⟨cb, 1, none⟩ = some (.slice (some ⟨g, 0, none⟩) n cap) ∧ ∀ j, j < n → W.cell? ⟨g, j, none⟩ = some (.pointer (some ⟨pbs j, 0, none⟩)))
    (hf : ∀ k W, k < n → I k W → Calls Tryz.prog 116 #[.pointer (some ⟨pbs k, 0, none⟩), .pointer (some ⟨vb, 0, none⟩)] W fun e w' => e = .returned (.tuple #[]) ∧ I (k + 1) w') (h0 : I 0 w) :
    Calls Tryz.prog 111 #[.pointer (some ⟨cb, 0, none⟩), .func (.func 116) #[] #[.pointer (some ⟨vb, 0, none⟩)]] w fun e w' => e = .returned (.tuple #[]) ∧ I n w' := by
  obtain ⟨h1, _⟩ := hc 0 w h0
  go_enter Tryz.func111, Tryz.ntmps111
  go_wp2_with fail
  go_loopw [11] (fun i wr => ∃ k : Nat, k ≤ n ∧ i = .int .i64 (k : Int) ∧ I k wr) (fun i _ => n - (intOf i).toNat)
  case atStart => exact ⟨0, by omega, rfl, h0⟩
  case round =>
    clear h0 h1
    obtain ⟨k, hk, rfl, hI⟩ := hrel
    by_cases hlt : k < n
    · have hcell := (hc k wr hI).2 k hlt
      have hcall := hf k wr hlt hI
      clear hc hf hI
      go_wp2_with fail
      refine hcall.mono ?_
      rintro e w2 ⟨rfl, hI2⟩
      go_wp2_with fail
      go_roundw
      case rel => exact ⟨k + 1, by omega, by go_num, hI2⟩
      case measure => simp [intOf]; omega
    · obtain rfl : k = n := by omega
      clear hc hf
      go_wp2_with fail
      go_end0
      exact ⟨rfl, hI⟩
end Go.Proofs.YtkipkkaloiefpaaGreatDoor
/- A map that the call itself has made, whatever its keys and its elements: told by a function from the keys' literals. -/
namespace Go.Proofs.YtkipkkaloiefpaaGreatDoor
open Go.RowKit Go.Maps

/-- Block b of w is a map of at most n entries that has M s at the key that reads as s; R is how elements read. -/
def LMap (P : Program) (k : TypeId) (R : Value → Option (DataW Unit × List MemPlace)) (w : World) (b n : Nat) (M : Lit → Option Lit) : Prop :=
  ∃ D : DataW Unit, w.ownsMap P k R b n D ∧ IsMap D ∧ ∀ s : Lit, WideAt.IsKeyLit s → Maps.has D s = (M s).isSome ∧ ∀ z : Lit, D.atKey s (.lit z) = .lit ((M s).getD z)

open Classical in
/-- The map, with an entry more. -/
noncomputable def putL (M : Lit → Option Lit) (s : Lit) (l : Lit) : Lit → Option Lit := fun x => if x = s then some l else M x

section
variable {P : Program} {k e : TypeId} {R : Value → Option (DataW Unit × List MemPlace)} {w : World} {b n : Nat} {M : Lit → Option Lit}

theorem LMap.kept {w' : World} {row : Option Nat} (h : LMap P k R w b n M) (hg : w.grownBy w' row) (hne : some b ≠ row) : LMap P k R w' b n M := by
  obtain ⟨D, h1, h2, h3⟩ := h
  exact ⟨D, h1.kept hg hne, h2, h3⟩
theorem LMap.alloc (h : LMap P k R w b n M) (o : Obj) : LMap P k R (w.alloc o) b n M := h.kept (World.grownBy_alloc w o none) (by simp)
theorem LMap.lt (h : LMap P k R w b n M) : b < w.heap.size := by obtain ⟨D, h1, _⟩ := h; exact h1.lt
theorem LMap.drew (h : LMap P k R w b n M) : LMap P k R w.drew b n M := h
theorem LMap.drewN (h : LMap P k R w b n M) (q : Nat) : LMap P k R (w.drewN q) b n M := h
theorem LMap.setCell (h : LMap P k R w b n M) {a : Addr} (ha : b ≠ a.block) (u : Value) : LMap P k R (w.setCell a u) b n M := by
  obtain ⟨D, h1, h2, h3⟩ := h
  exact ⟨D, h1.setCell ha u, h2, h3⟩
theorem LMap.below {w' : World} {B : Nat} (h : LMap P k R w b n M) (hb : Below B w w') (hB : b < B) : LMap P k R w' b n M := by
  obtain ⟨D, ⟨es, clock, hbl, r⟩, h2, h3⟩ := h
  exact ⟨D, ⟨es, clock, (hb.block b hB).trans hbl, r⟩, h2, h3⟩
theorem LMap.block {w' : World} (h : LMap P k R w b n M) (hb : w'.heap[b]? = w.heap[b]?) : LMap P k R w' b n M := by
  obtain ⟨D, ⟨es, clock, hbl, r⟩, h2, h3⟩ := h
  exact ⟨D, ⟨es, clock, hb.trans hbl, r⟩, h2, h3⟩
theorem LMap.same {M' : Lit → Option Lit} (h : LMap P k R w b n M) (hM : ∀ s, M' s = M s) : LMap P k R w b n M' := (funext hM : M' = M) ▸ h
theorem LMap.up {n' : Nat} (h : LMap P k R w b n M) (hn : n ≤ n') : LMap P k R w b n' M := by
  obtain ⟨D, ⟨es, clock, h1, h2, h3, h4⟩, r⟩ := h
  exact ⟨D, ⟨es, clock, h1, h2, Nat.le_trans h3 hn, h4⟩, r⟩

theorem LMap.made (P : Program) (k : TypeId) (R : Value → Option (DataW Unit × List MemPlace)) (w : World) : LMap P k R (w.alloc (.map #[] 0)) w.heap.size 0 (fun _ => none) :=
  ⟨.map [], World.ownsMap_made _ _ _ _, isMap_empty, fun _ _ => ⟨rfl, fun _ => rfl⟩⟩

theorem LMap.put_data {D : DataW Unit} (h1 : IsMap D) (h : ∀ s : Lit, WideAt.IsKeyLit s → Maps.has D s = (M s).isSome ∧ ∀ z : Lit, D.atKey s (.lit z) = .lit ((M s).getD z)) (s : Lit) (hs : WideAt.IsKeyLit s) (l : Lit) :
    ∀ x : Lit, WideAt.IsKeyLit x → Maps.has (D.put s (.lit l)) x = (putL M s l x).isSome ∧ ∀ z : Lit, (D.put s (.lit l)).atKey x (.lit z) = .lit ((putL M s l x).getD z) := by
  intro x hx
  by_cases e : x = s
  · subst e
    refine ⟨?_, fun z => ?_⟩
    · rw [has_put_same h1 hx]
      simp [putL]
    · rw [atKey_put_same h1 hx]
      simp [putL]
  · refine ⟨?_, fun z => ?_⟩
    · rw [has_put_other e]
      simpa [putL, e] using (h x hx).1
    · rw [atKey_put_other e]
      simpa [putL, e] using (h x hx).2 z

/-- The map literal's entry, at the operation. -/
theorem wpList_insert_lit {ops : Array Oper} {rest : List Oper} {o : Oper} {a : Act} {Q : Exit → Act → World → Prop}
    (hg : o.guard = none) (m x v : Operand) (t : TypeId) (hop : o.op = Op.insert t m x v)
    (K : Keyed P k) (ht : P.underlying t = some (.map k e))
    (hm : a.eval m = .map (some b)) (hown : LMap P k R w b n M) (hn : n < 1000000) (key : Value) (kl : Lit) (hkey : keyOf P k key = some kl) (l : Lit) (val : Value) (hl : R val = some (.lit l, [])) (hx : a.eval x = key) (hv : a.eval v = val)
    (hK : ∀ w', LMap P k R w' b (n + 1) (putL M kl l) → w.grownBy w' (some b) → wpList P ops Q rest (a.put o.dst undef) w') :
    wpList P ops Q (o :: rest) a w := by
  obtain ⟨D, h1, h2, h3⟩ := hown
  refine wpList_plain hg fun K' hK' => ?_
  obtain ⟨w', hrun, r1, r2⟩ := h1.update K ht (by unfold maxLen; omega) hkey hl
  unfold Oper.wp
  simp [execOp, hop, hm, hx, hv, hrun, Result.andThen]
  exact hK' _ _ (hK w' ⟨_, r1, h2.put _ _, LMap.put_data h2 h3 _ (K.key hkey) _⟩ r2)

/-- An entry is set, at the operation. -/
theorem wpList_mapset_lit {ops : Array Oper} {rest : List Oper} {o : Oper} {a : Act} {Q : Exit → Act → World → Prop}
    (hg : o.guard = none) (m x v : Operand) (t : TypeId) (hop : o.op = Op.mapUpdate t m x v)
    (K : Keyed P k) (ht : P.underlying t = some (.map k e))
    (hm : a.eval m = .map (some b)) (hown : LMap P k R w b n M) (hn : n < 1000000) (key : Value) (kl : Lit) (hkey : keyOf P k key = some kl) (l : Lit) (val : Value) (hl : R val = some (.lit l, [])) (hx : a.eval x = key) (hv : a.eval v = val)
    (hK : ∀ w', LMap P k R w' b (n + 1) (putL M kl l) → w.grownBy w' (some b) → wpList P ops Q rest (a.put o.dst undef) w') :
    wpList P ops Q (o :: rest) a w := by
  obtain ⟨D, h1, h2, h3⟩ := hown
  refine wpList_plain hg fun K' hK' => ?_
  obtain ⟨w', hrun, r1, r2⟩ := h1.update K ht (by unfold maxLen; omega) hkey hl
  unfold Oper.wp
  simp [execOp, hop, hm, hx, hv, hrun, Result.andThen]
  exact hK' _ _ (hK w' ⟨_, r1, h2.put _ _, LMap.put_data h2 h3 _ (K.key hkey) _⟩ r2)

/-- The run of a look-up. -/
theorem LMap.look (K : Keyed P k) {t : TypeId} (ht : P.underlying t = some (.map k e)) (vl : Lit → Value) (hR : ∀ v l ps, R v = some (.lit l, ps) → v = vl l) (z : Lit) (hz : (zeroValue e).run P w = .ok (vl z) w) (hzp : R (vl z) = some (.lit z, []))
    (h : LMap P k R w b n M) (key : Value) (kl : Lit) (hkey : keyOf P k key = some kl) : (Instr.lookup t (.map (some b)) key false).run P w = .ok (vl ((M kl).getD z)) w := by
  obtain ⟨D, h1, h2, h3⟩ := h
  obtain ⟨v, ps, hrun, hv⟩ := h1.lookup K ht hz (zd := .lit z) (zp := []) hzp hkey
  rw [(h3 _ (K.key hkey)).2] at hv
  rw [hrun, hR _ _ _ hv]

theorem LMap.look_ok (K : Keyed P k) {t : TypeId} (ht : P.underlying t = some (.map k e)) (vl : Lit → Value) (hR : ∀ v l ps, R v = some (.lit l, ps) → v = vl l) (z : Lit) (hz : (zeroValue e).run P w = .ok (vl z) w) (hzp : R (vl z) = some (.lit z, []))
    (h : LMap P k R w b n M) (key : Value) (kl : Lit) (hkey : keyOf P k key = some kl) : (Instr.lookup t (.map (some b)) key true).run P w = .ok (.tuple #[vl ((M kl).getD z), .bool (M kl).isSome]) w := by
  obtain ⟨D, h1, h2, h3⟩ := h
  obtain ⟨v, ps, hrun, hv⟩ := h1.look_ok K ht hz (zd := .lit z) (zp := []) hzp hkey
  rw [(h3 _ (K.key hkey)).2] at hv
  rw [hrun, hR _ _ _ hv, (h3 _ (K.key hkey)).1]
end
end Go.Proofs.YtkipkkaloiefpaaGreatDoor
