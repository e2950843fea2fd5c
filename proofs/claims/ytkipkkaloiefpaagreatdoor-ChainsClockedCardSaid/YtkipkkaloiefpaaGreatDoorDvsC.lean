/- spoil: a device is changed at one place. -/
import Derived.Test.YtkipkkaloiefpaaGreatDoorM17
import Derived.Deep.RegionHeld3
import Derived.BigRegion
namespace Go.Proofs.YtkipkkaloiefpaaGreatDoor
open Go.RowKit Go.Maps

/-- A device in place, where spoil may write. -/
structure DevHere (lo : Nat) (w : World) (g p : Nat) (d : Dev) (pl : Plc) : Prop where
  up : lo ≤ g
  cells : w.cell? ⟨g, p, none⟩ = some (.string d.name) ∧ w.cell? ⟨g, p + 1, none⟩ = some (.int .i64 d.long) ∧ w.cell? ⟨g, p + 2, none⟩ = some (.int .i64 d.id) ∧ w.cell? ⟨g, p + 3, none⟩ = some (.slice pl.ra d.regs.n pl.rc) ∧ w.cell? ⟨g, p + 4, none⟩ = some (.slice pl.ia d.ins.n pl.ic)
  free : ∀ j, w.frozen? ⟨g, j, none⟩ = false
  ok : DevOk w.heap.size w d pl
  regs : ∀ x, pl.ra = some x → lo ≤ x.block ∧ ∀ j, w.frozen? ⟨x.block, j, none⟩ = false
  ins : ∀ x, pl.ia = some x → lo ≤ x.block ∧ ∀ j, w.frozen? ⟨x.block, j, none⟩ = false
  long : 0 ≤ d.long ∧ d.long ≤ 1000

theorem strs3 (a b c : ByteArray) (ha : a.size ≤ 1048576) (hb : b.size ≤ 1048576) (hc : c.size ≤ 1048576) (k : Nat) (hk : k < 3) : ([a, b, c].getD k ⟨#[]⟩).size ≤ 1048576 := by
  have : k = 0 ∨ k = 1 ∨ k = 2 := by omega
  rcases this with rfl | rfl | rfl
  · exact ha
  · exact hb
  · exact hc
theorem strs4 (a b c d : ByteArray) (ha : a.size ≤ 1048576) (hb : b.size ≤ 1048576) (hc : c.size ≤ 1048576) (hd : d.size ≤ 1048576) (k : Nat) (hk : k < 4) : ([a, b, c, d].getD k ⟨#[]⟩).size ≤ 1048576 := by
  have : k = 0 ∨ k = 1 ∨ k = 2 ∨ k = 3 := by omega
  rcases this with rfl | rfl | rfl | rfl
  · exact ha
  · exact hb
  · exact hc
  · exact hd

set_option maxHeartbeats 8000000 in
set_option maxRecDepth 100000 in
theorem spoil_any (sb t : Nat) (W0 w : World) (g p : Nat) (d : Dev) (pl : Plc) (hlt : sb < W0.heap.size) (hr0 : Ran sb 0 t W0 w) (hs : Strm w sb t) (ht : t ≤ 900000) (h : DevHere W0.heap.size w g p d pl) :
    Calls Tryz.prog 20 #[.pointer (some ⟨sb, 0, none⟩), .pointer (some ⟨g, p, none⟩)] w fun e w' => e = .returned (.tuple #[]) ∧ Ran sb 0 (t + 20) W0 w' ∧ Soft sb w w' := by
  obtain ⟨hup, ⟨c0, c1, c2, c3, c4⟩, hfr, hok, hreg, hins, hl0, hl1⟩ := h
  have f0 := hfr p
  have f1 := hfr (p + 1)
  have f2 := hfr (p + 2)
  have hgs : g ≠ sb := by omega
  have hnz := hok.name
  go_enter Tryz.func20, Tryz.ntmps20
  go_wp2_with fail
  refine (next_any sb t 4 _ hs (by omega) (by decide) (by decide)).mono ?_
  rintro e w1 ⟨⟨z, z1, z2, rfl⟩, hr⟩
  obtain ⟨t1, ht1, ht1', hs1⟩ := hr.strm
  have hlt1 := hs1.lt
  have k0 := hr.cell c0 hgs
  have k1 := hr.cell c1 hgs
  have k2 := hr.cell c2 hgs
  have k3 := hr.cell c3 hgs
  have k4 := hr.cell c4 hgs
  have hf1 : ∀ b j, b ≠ sb → b < w.heap.size → w1.frozen? ⟨b, j, none⟩ = w.frozen? ⟨b, j, none⟩ := fun b j hb hl => World.frozen?_of_block (a := ⟨b, j, none⟩) (hr.1.block b hl (fun e => hb (Option.some.inj e)))
  have hgl := World.block_lt_of_cell? w _ c0
  have g0 := (hf1 g p hgs hgl).trans f0
  have g1 := (hf1 g (p + 1) hgs hgl).trans f1
  have g2 := (hf1 g (p + 2) hgs hgl).trans f2
  have hran1 : Ran sb 0 (t + 1) W0 w1 := hr0.then (by omega) (by omega) hr
  have hsoft1 : Soft sb w w1 := Soft.ran hr
  have hz : z = 0 ∨ z = 1 ∨ z = 2 ∨ z = 3 := by omega
  rcases hz with rfl | rfl | rfl | rfl
  · clear c0 c1 c2 c3 c4 hfr hok hreg hins f0 f1 f2 hr hf1 k2 k3 k4 g2 z1 z2
    have hmid : Mid sb (t + 1) W0 w w1 := ⟨hran1, hsoft1⟩
    clear hran1 hsoft1
    have HM := Lib.hid hmid
    clear hmid
    have hgl1 := World.block_lt_of_cell? w1 _ k0
    go_wp2_with fail
    refine (some_any sb t1 w1.heap.size 0 3 3 (fun k => [d.name, ⟨#[]⟩, ⟨#[117, 49]⟩].getD k ⟨#[]⟩) _ (hs1.alloc _) (by omega) (by decide) (by decide) (by omega) (strs_fresh w1 [d.name, ⟨#[]⟩, ⟨#[117, 49]⟩] _)).mono ?_
    rintro e w2 ⟨⟨j, hj, rfl⟩, hr2⟩
    have hsz := strs3 d.name ⟨#[]⟩ ⟨#[117, 49]⟩ hnz (by decide) (by decide) j hj
    generalize [d.name, ⟨#[]⟩, ⟨#[117, 49]⟩].getD j ⟨#[]⟩ = nm at hsz ⊢
    have hr2' := hr2.after_alloc
    obtain ⟨t2, ht2, ht2', hs2⟩ := hr2'.strm
    have m0 := hr2'.cell k0 hgs
    have m1 := hr2'.cell k1 hgs
    have q0 := ran_frozen hr2' hgs hgl1 p g0
    have q1 := ran_frozen hr2' hgs hgl1 (p + 1) g1
    have hgl2 := World.block_lt_of_cell? w2 _ m0
    have HM2 := Lib.hid (HM.out.ran (by omega) hr2')
    clear k0 k1 g0 g1 hr2 hr2' HM
    go_wp2_with fail
    refine (odd_any sb t2 2 4 _ hs2 (by omega) (by decide) (by decide) (by decide)).mono ?_
    rintro e w3 ⟨⟨z, _, _, rfl⟩, hr3⟩
    have n0 := hr3.cell m0 hgs
    have n1 := hr3.cell m1 hgs
    have u0 := ran_frozen hr3 hgs hgl2 p q0
    have u1 := ran_frozen hr3 hgs hgl2 (p + 1) q1
    have HM3 := Lib.hid (HM2.out.ran (by omega) hr3)
    clear m0 m1 q0 q1 hr3 HM2
    go_wp2_with fail
    go_end0
    have hM := (HM3.out.setS hlt hup n0 hsz).setI (z' := z) hlt hup ((World.cell?_setCell_other _ _ _ _ (by simp)).trans n1)
    exact ⟨rfl, hM.1.mono (by omega), hM.2⟩
  · have hmid : Mid sb (t + 1) W0 w w1 := ⟨hran1, hsoft1⟩
    have HM := Lib.hid hmid
    have hgl1 := World.block_lt_of_cell? w1 _ k0
    clear c0 c1 c2 c3 c4 hfr hok hreg hins f0 f1 f2 hr hf1 k0 k1 k3 k4 g0 g1 z1 z2 hran1 hsoft1 hmid
    go_wp2_with fail
    refine (pick_any sb t1 w1.heap.size 0 5 5 (fun k => ([d.id, 4, -1, 4294967296, 4294967297] : List Int).getD k 0) _ (hs1.alloc _) (by omega) (by decide) (by decide) (by omega) (ints_fresh w1 [d.id, 4, -1, 4294967296, 4294967297] _)).mono ?_
    rintro e w2 ⟨⟨j, hj, rfl⟩, hr2⟩
    generalize ([d.id, 4, -1, 4294967296, 4294967297] : List Int).getD j 0 = z
    have hr2' := hr2.after_alloc
    have m2 := hr2'.cell k2 hgs
    have q2 := ran_frozen hr2' hgs hgl1 (p + 2) g2
    have HM2 := Lib.hid (HM.out.ran (by omega) hr2')
    clear k2 g2 hr2 hr2' HM
    go_wp2_with fail
    go_end0
    have hM := HM2.out.setI (z' := z) hlt hup m2
    exact ⟨rfl, hM.1.mono (by omega), hM.2⟩
  · have hmid : Mid sb (t + 1) W0 w w1 := ⟨hran1, hsoft1⟩
    have HM := Lib.hid hmid
    by_cases h0 : d.regs.n = 0
    · clear c0 c1 c2 c3 c4 hfr hok hreg hins f0 f1 f2 hr hf1 k0 k1 k2 k4 g0 g1 g2 z1 z2 hran1 hsoft1 hmid
      go_wp2_with fail
      go_end0
      exact ⟨rfl, HM.out.1.mono (by omega), HM.out.2⟩
    · obtain ⟨rb, off, e2, hrl, hrc⟩ := hok.regs.cells (by omega)
      obtain ⟨hrup, hrfr⟩ := hreg _ e2
      have hn1000 := hok.regs.n_le
      have hrup : W0.heap.size ≤ rb := hrup
      have hrs : rb ≠ sb := by omega
      have k3 : w1.cell? ⟨g, p + 3, none⟩ = some (.slice (some ⟨rb, off, none⟩) d.regs.n pl.rc) := by rw [k3, e2]
      have hrc1 : ∀ k, k < d.regs.n → w1.cell? ⟨rb, off + k * 2, none⟩ = some (.string (d.regs.name k)) ∧ w1.cell? ⟨rb, off + k * 2 + 1, none⟩ = some (.int .i64 (d.regs.long k)) ∧ (d.regs.name k).size ≤ 1048576 := fun k hk => ⟨hr.cell (hrc k hk).1 hrs, hr.cell (hrc k hk).2.1 hrs, (hrc k hk).2.2⟩
      have hrf1 : ∀ j, w1.frozen? ⟨rb, j, none⟩ = false := fun j => ran_frozen hr hrs hrl j (hrfr j)
      have hpos : (0 : Int) < (d.regs.n : Int) := by omega
      have hwr : w1.drew.heap.size = w1.heap.size := rfl
      have hs1d : Strm w1.drew sb t1 := hs1.kept fun _ _ => rfl
      have HC := Lib.hid (⟨hrc1, hrf1⟩ : _ ∧ _)
      clear c0 c1 c2 c3 c4 hfr hok hreg hins f0 f1 f2 hr hf1 k0 k1 k2 k4 g0 g1 g2 z1 z2 hran1 hsoft1 hmid hrc hrc1 hrf1 hrfr e2
      go_wp2_with fail
      go_region_held3 (fun w' => w'.cell? ⟨g, p + 3, none⟩ = some (.slice (some ⟨rb, off, none⟩) d.regs.n pl.rc)) (first | exact k3 | assumption)
        ((go_at_call 17; refine (next_any sb t1 d.regs.n _ hs1d (by omega) (by omega) (by omega)).mono ?_; rintro e w2 ⟨⟨zj, hj1, hj2, rfl⟩, hr2⟩; obtain ⟨j, rfl⟩ : ∃ j : Nat, zj = (j : Int) := ⟨zj.toNat, by omega⟩; have m3 := hr2.cell (show w1.drew.cell? ⟨g, p + 3, none⟩ = _ from k3) hgs))
      obtain ⟨hrc1, hrf1⟩ := HC.out
      obtain ⟨a0, a1, az⟩ := hrc1 j (by omega)
      have hr2 := hr2.undrew
      obtain ⟨t2, ht2, ht2', hs2⟩ := hr2.strm
      have hrl1 := World.block_lt_of_cell? w1 _ a0
      have b0 := hr2.cell a0 hrs
      have b1 := hr2.cell a1 hrs
      have q0 := ran_frozen hr2 hrs hrl1 _ (hrf1 (off + j * 2))
      have q1 := ran_frozen hr2 hrs hrl1 _ (hrf1 (off + j * 2 + 1))
      have hrl2 := World.block_lt_of_cell? w2 _ b0
      have HM2 := Lib.hid (HM.out.ran (by omega) hr2)
      clear a0 a1 hr2 HM k3 m3 hrc1 hrf1 HC hs1 hs1d
      go_wp2_with fail
      refine (some_any sb t2 w2.heap.size 0 4 4 (fun k => [d.regs.name j, ⟨#[98, 121, 112, 97, 115, 115]⟩, ⟨#[100, 97, 116, 97]⟩, ⟨#[65]⟩].getD k ⟨#[]⟩) _ (hs2.alloc _) (by omega) (by decide) (by decide) (by have := hs2.lt; omega) (strs_fresh w2 [d.regs.name j, ⟨#[98, 121, 112, 97, 115, 115]⟩, ⟨#[100, 97, 116, 97]⟩, ⟨#[65]⟩] _)).mono ?_
      rintro e w3 ⟨⟨i, hi, rfl⟩, hr3⟩
      have hsz := strs4 (d.regs.name j) ⟨#[98, 121, 112, 97, 115, 115]⟩ ⟨#[100, 97, 116, 97]⟩ ⟨#[65]⟩ az (by decide) (by decide) (by decide) i hi
      generalize [d.regs.name j, ⟨#[98, 121, 112, 97, 115, 115]⟩, ⟨#[100, 97, 116, 97]⟩, ⟨#[65]⟩].getD i ⟨#[]⟩ = nm at hsz ⊢
      have hr3' := hr3.after_alloc
      obtain ⟨t3, ht3, ht3', hs3⟩ := hr3'.strm
      have m0 := hr3'.cell b0 hrs
      have m1 := hr3'.cell b1 hrs
      have p0 := ran_frozen hr3' hrs hrl2 _ q0
      have p1 := ran_frozen hr3' hrs hrl2 _ q1
      have hrl3 := World.block_lt_of_cell? w3 _ m0
      have HM3 := Lib.hid (HM2.out.ran (by omega) hr3')
      clear b0 b1 q0 q1 hr3 hr3' HM2
      go_wp2_with fail
      refine (odd_any sb t3 1 5 _ hs3 (by omega) (by decide) (by decide) (by decide)).mono ?_
      rintro e w4 ⟨⟨z, _, _, rfl⟩, hr4⟩
      have n0 := hr4.cell m0 hrs
      have n1 := hr4.cell m1 hrs
      have u0 := ran_frozen hr4 hrs hrl3 _ p0
      have u1 := ran_frozen hr4 hrs hrl3 _ p1
      have HM4 := Lib.hid (HM3.out.ran (by omega) hr4)
      clear m0 m1 p0 p1 hr4 HM3
      go_wp2_with fail
      go_end0
      have hM := (HM4.out.setS hlt hrup n0 hsz).setI (z' := z) hlt hrup ((World.cell?_setCell_other _ _ _ _ (by simp)).trans n1)
      exact ⟨rfl, hM.1.mono (by omega), hM.2⟩
  · have hmid : Mid sb (t + 1) W0 w w1 := ⟨hran1, hsoft1⟩
    have HM := Lib.hid hmid
    by_cases h0 : d.ins.n = 0
    · clear c0 c1 c2 c3 c4 hfr hok hreg hins f0 f1 f2 hr hf1 k0 k1 k2 k3 g0 g1 g2 z1 z2 hran1 hsoft1 hmid
      go_wp2_with fail
      go_end0
      exact ⟨rfl, HM.out.1.mono (by omega), HM.out.2⟩
    · obtain ⟨rb, off, e2, hrl, hrc⟩ := hok.ins.cells (by omega)
      obtain ⟨hrup, hrfr⟩ := hins _ e2
      have hn1000 := hok.ins.n_le
      have hrup : W0.heap.size ≤ rb := hrup
      have hrs : rb ≠ sb := by omega
      have k4 : w1.cell? ⟨g, p + 4, none⟩ = some (.slice (some ⟨rb, off, none⟩) d.ins.n pl.ic) := by rw [k4, e2]
      have hrc1 : ∀ k, k < d.ins.n → w1.cell? ⟨rb, off + k * 2, none⟩ = some (.string (d.ins.code k)) ∧ w1.cell? ⟨rb, off + k * 2 + 1, none⟩ = some (.string (d.ins.reg k)) ∧ (d.ins.code k).size ≤ 1048576 ∧ (d.ins.reg k).size ≤ 1048576 := fun k hk => ⟨hr.cell (hrc k hk).1 hrs, hr.cell (hrc k hk).2.1 hrs, (hrc k hk).2.2⟩
      have hrf1 : ∀ j, w1.frozen? ⟨rb, j, none⟩ = false := fun j => ran_frozen hr hrs hrl j (hrfr j)
      have hpos : (0 : Int) < (d.ins.n : Int) := by omega
      have hs1d : Strm w1.drew sb t1 := hs1.kept fun _ _ => rfl
      have HC := Lib.hid (⟨hrc1, hrf1, k1⟩ : _ ∧ _ ∧ _)
      clear c0 c1 c2 c3 c4 hfr hok hreg hins f0 f1 f2 hr hf1 k0 k1 k2 k3 g0 g1 g2 z1 z2 hran1 hsoft1 hmid hrc hrc1 hrf1 hrfr e2
      go_wp2_with fail
      go_region_held3 (fun w' => w'.cell? ⟨g, p + 4, none⟩ = some (.slice (some ⟨rb, off, none⟩) d.ins.n pl.ic)) (first | exact k4 | assumption)
        ((go_at_call 17; refine (next_any sb t1 d.ins.n _ hs1d (by omega) (by omega) (by omega)).mono ?_; rintro e w2 ⟨⟨zj, hj1, hj2, rfl⟩, hr2⟩; obtain ⟨j, rfl⟩ : ∃ j : Nat, zj = (j : Int) := ⟨zj.toNat, by omega⟩; have m3 := hr2.cell (show w1.drew.cell? ⟨g, p + 4, none⟩ = _ from k4) hgs))
      obtain ⟨hrc1, hrf1, k1⟩ := HC.out
      obtain ⟨a0, a1, az, ay⟩ := hrc1 j (by omega)
      have hr2 := hr2.undrew
      obtain ⟨t2, ht2, ht2', hs2⟩ := hr2.strm
      have hrl1 := World.block_lt_of_cell? w1 _ a0
      have b0 := hr2.cell a0 hrs
      have b1 := hr2.cell a1 hrs
      have bl := hr2.cell k1 hgs
      have q0 := ran_frozen hr2 hrs hrl1 _ (hrf1 (off + j * 2))
      have q1 := ran_frozen hr2 hrs hrl1 _ (hrf1 (off + j * 2 + 1))
      have HM2 := Lib.hid (HM.out.ran (by omega) hr2)
      clear a0 a1 hr2 HM k4 m3 hrc1 hrf1 HC hs1 hs1d k1
      go_wp2_with fail
      obtain ⟨W, rfl⟩ : ∃ W, W = w2 := ⟨_, rfl⟩
      obtain ⟨c, hc⟩ : ∃ c : Nat, d.long = (c : Int) := ⟨d.long.toNat, by omega⟩
      have hc1000 : c ≤ 1000 := by omega
      have HC := Lib.hid hc
      clear hc
      have hWb : g < W.heap.size ∧ rb < W.heap.size := ⟨World.block_lt_of_cell? W _ bl, World.block_lt_of_cell? W _ b0⟩
      have hsbW := hs2.lt
      refine wp_region_inv (by kernel_rfl) (spI sb (t + 2) W0 w W g p rb (off + j * 2) d.long (d.ins.code j) (d.ins.reg j) (.slice pl.ia d.ins.n pl.ic) (.int .i64 (d.ins.n : Int)) (.slice (some ⟨rb, off, none⟩) d.ins.n pl.ic) (.int .i64 (j : Int))) ?start ?fin ?step
      case start =>
        have hrep0 : ∀ k, (Array.replicate 27 false)[k]?.getD false = false := fun k => by rw [Array.getElem?_replicate]; split <;> rfl
        exact ⟨fun _ => undef, rfl, ⟨by simp, fun k hk h => absurd (h.symm.trans (hrep0 k)) (by decide), ⟨⟨t + 2, by omega, HM2.out.drew⟩, Nat.le_refl _, bl, fun _ => b0, fun _ => b1, q0, q1⟩, fun h => absurd (h.symm.trans (hrep0 23)) (by decide), fun h => absurd (h.symm.trans (hrep0 26)) (by decide)⟩⟩
      case fin =>
        intro l a w1 hI _
        obtain ⟨sv, rfl, hF⟩ := hI
        obtain ⟨T, hT, hM⟩ := hF.world.mid
        have hc13 : cnt1 l 13 ≤ 1 := by unfold cnt1; split <;> omega
        have hc20 : cnt1 l 20 ≤ 1 := by unfold cnt1; split <;> omega
        have HMM := Lib.hid hM
        unfold spF
        clear hF hM
        go_wp2_with fail
        go_end0
        exact ⟨rfl, HMM.out.1.mono (by omega), HMM.out.2⟩
      case step =>
        intro l a w1 hI i hi
        obtain ⟨sv, rfl, hF⟩ := hI
        have hi2 := List.mem_filter.1 hi
        have hlt27 : i < 27 := by simpa using List.mem_range.1 hi2.1
        have hdeps := hi2.2
        clear hi hi2 b0 b1 bl q0 q1 HM2 hs2
        unfold spF
        have : i = 0 ∨ i = 1 ∨ i = 2 ∨ i = 3 ∨ i = 4 ∨ i = 5 ∨ i = 6 ∨ i = 7 ∨ i = 8 ∨ i = 9 ∨ i = 10 ∨ i = 11 ∨ i = 12 ∨ i = 13 ∨ i = 14 ∨ i = 15 ∨ i = 16 ∨ i = 17 ∨ i = 18 ∨ i = 19 ∨ i = 20 ∨ i = 21 ∨ i = 22 ∨ i = 23 ∨ i = 24 ∨ i = 25 ∨ i = 26 := by omega
        rcases this with rfl | rfl | rfl | rfl | rfl | rfl | rfl | rfl | rfl | rfl | rfl | rfl | rfl | rfl | rfl | rfl | rfl | rfl | rfl | rfl | rfl | rfl | rfl | rfl | rfl | rfl | rfl
        · simp [Region.binds] at hdeps
          have hN := hF.n
          have HF := Lib.hid hF
          clear hF
          clear hdeps
          refine wpOp_mk rfl (fun K hK => ?_)
          go_simp
          have hF := HF.out
          refine hK _ _ ⟨_, ?_, hF.step 0 (by decide) (.pointer (some ⟨rb, off + j * 2, none⟩)) rfl (fun _ _ _ => rfl) (hF.world.flag 0 (by omega))⟩
          simp [spF]
        · simp [Region.binds] at hdeps
          have hN := hF.n
          have HF := Lib.hid hF
          clear hF
          clear hdeps
          refine wpOp_mk rfl (fun K hK => ?_)
          go_simp
          have hF := HF.out
          refine hK _ _ ⟨_, ?_, hF.step 1 (by decide) (.pointer (some ⟨rb, off + j * 2, none⟩)) rfl (fun _ _ _ => rfl) (hF.world.flag 1 (by omega))⟩
          simp [spF]
        · simp [Region.binds] at hdeps
          have hN := hF.n
          have HF := Lib.hid hF
          clear hF
          clear hdeps
          refine wpOp_mk rfl (fun K hK => ?_)
          go_simp
          have hF := HF.out
          refine hK _ _ ⟨_, ?_, hF.step 2 (by decide) (.pointer (some ⟨sb, 0, none⟩)) rfl (fun _ _ _ => rfl) (hF.world.flag 2 (by omega))⟩
          simp [spF]
        · simp [Region.binds] at hdeps
          have hN := hF.n
          have HF := Lib.hid hF
          clear hF
          clear hdeps
          refine wpOp_mk rfl (fun K hK => ?_)
          go_simp
          have hF := HF.out
          refine hK _ _ ⟨_, ?_, hF.step 3 (by decide) (.pointer (some ⟨rb, off + j * 2, none⟩)) rfl (fun _ _ _ => rfl) (hF.world.flag 3 (by omega))⟩
          simp [spF]
        · simp [Region.binds] at hdeps
          have e3 : sv 3 = (.pointer (some ⟨rb, off + j * 2, none⟩)) := hF.vals 3 (by decide) (by simp [hdeps])
          have hN := hF.n
          have HF := Lib.hid hF
          clear hF
          clear hdeps
          refine wpOp_mk rfl (fun K hK => ?_)
          go_simp
          have hF := HF.out
          refine hK _ _ ⟨_, ?_, hF.step 4 (by decide) (.pointer (some ⟨rb, off + j * 2, none⟩)) rfl (fun _ _ _ => rfl) (hF.world.flag 4 (by omega))⟩
          simp [spF, e3]
        · simp [Region.binds] at hdeps
          have e4 : sv 4 = (.pointer (some ⟨rb, off + j * 2, none⟩)) := hF.vals 4 (by decide) (by simp [hdeps])
          have hN := hF.n
          have HF := Lib.hid hF
          clear hF
          clear hdeps
          refine wpOp_mk rfl (fun K hK => ?_)
          go_simp
          have hF := HF.out
          refine hK _ _ ⟨_, ?_, hF.step 5 (by decide) (.pointer (some ⟨rb, off + j * 2, none⟩)) rfl (fun _ _ _ => rfl) (hF.world.flag 5 (by omega))⟩
          simp [spF, e4]
        · simp [Region.binds] at hdeps
          have e5 : sv 5 = (.pointer (some ⟨rb, off + j * 2, none⟩)) := hF.vals 5 (by decide) (by simp [hdeps])
          have hN := hF.n
          have hoff : l[23]?.getD false = false := by
            cases hx : l[23]?.getD false with
            | false => rfl
            | true => exact absurd (hF.d23 hx) (flag_off (by simp [hdeps]))
          have hcell := hF.world.c0 hoff
          have HF := Lib.hid hF
          clear hF
          clear hdeps
          refine wpOp_mk rfl (fun K hK => ?_)
          go_simp
          have hF := HF.out
          refine hK _ _ ⟨_, ?_, hF.step 6 (by decide) (.string (d.ins.code j)) rfl (fun _ _ _ => rfl) (hF.world.flag 6 (by omega))⟩
          simp [spF, e5]
        · simp [Region.binds] at hdeps
          have hN := hF.n
          have HF := Lib.hid hF
          clear hF
          clear hdeps
          refine wpOp_mk rfl (fun K hK => ?_)
          go_simp
          have hF := HF.out
          refine hK _ _ ⟨_, ?_, hF.step 7 (by decide) (.pointer (some ⟨g, p, none⟩)) rfl (fun _ _ _ => rfl) (hF.world.flag 7 (by omega))⟩
          simp [spF]
        · simp [Region.binds] at hdeps
          have e7 : sv 7 = (.pointer (some ⟨g, p, none⟩)) := hF.vals 7 (by decide) (by simp [hdeps])
          have hN := hF.n
          have HF := Lib.hid hF
          clear hF
          clear hdeps
          refine wpOp_mk rfl (fun K hK => ?_)
          go_simp
          have hF := HF.out
          refine hK _ _ ⟨_, ?_, hF.step 8 (by decide) (.pointer (some ⟨g, p, none⟩)) rfl (fun _ _ _ => rfl) (hF.world.flag 8 (by omega))⟩
          simp [spF, e7]
        · simp [Region.binds] at hdeps
          have e8 : sv 8 = (.pointer (some ⟨g, p, none⟩)) := hF.vals 8 (by decide) (by simp [hdeps])
          have hN := hF.n
          have HF := Lib.hid hF
          clear hF
          clear hdeps
          refine wpOp_mk rfl (fun K hK => ?_)
          go_simp
          have hF := HF.out
          refine hK _ _ ⟨_, ?_, hF.step 9 (by decide) (.pointer (some ⟨g, p + 1, none⟩)) rfl (fun _ _ _ => rfl) (hF.world.flag 9 (by omega))⟩
          simp [spF, e8]
        · simp [Region.binds] at hdeps
          have e9 : sv 9 = (.pointer (some ⟨g, p + 1, none⟩)) := hF.vals 9 (by decide) (by simp [hdeps])
          have hN := hF.n
          have hcell := hF.world.cl
          have HF := Lib.hid hF
          clear hF
          clear hdeps
          refine wpOp_mk rfl (fun K hK => ?_)
          go_simp
          have hF := HF.out
          refine hK _ _ ⟨_, ?_, hF.step 10 (by decide) (.int .i64 d.long) rfl (fun _ _ _ => rfl) (hF.world.flag 10 (by omega))⟩
          simp [spF, e9]
        · simp [Region.binds] at hdeps
          have e10 : sv 10 = (.int .i64 d.long) := hF.vals 10 (by decide) (by simp [hdeps])
          have hN := hF.n
          have hrep := Tryz.strings_Repeat ⟨#[49]⟩ c w1 (by omega) (by show 1 * c ≤ _; omega)
          rw [← HC.out] at hrep
          have HF := Lib.hid hF
          clear hF
          clear hdeps
          refine wpOp_mk rfl (fun K hK => ?_)
          go_simp
          refine hrep.mono ?_
          rintro e w2 ⟨rfl, hB2⟩
          try go_simp
          have hF := HF.out
          refine hK _ _ ⟨_, ?_, hF.step 11 (by decide) (.string _) ⟨_, rfl, by show (Lib.repeatL [49] c).toArray.size ≤ _; rw [List.size_toArray, Lib.repeatL_length]; simp; omega⟩ (fun b _ hb => hB2.block b hb) ((hF.world.flag 11 (by omega)).below hB2 hWb)⟩
          simp [spF, e10]
        · simp [Region.binds] at hdeps
          have e6 : sv 6 = (.string (d.ins.code j)) := hF.vals 6 (by decide) (by simp [hdeps])
          obtain ⟨s11, e11, z11⟩ := hF.vals 11 (by decide) (by simp [hdeps])
          have hN := hF.n
          have HF := Lib.hid hF
          clear hF
          clear hdeps
          refine wpOp_mk rfl (fun K hK => ?_)
          go_simp
          have hF := HF.out
          refine hK _ _ ⟨_, ?_, hF.step 12 (by decide) (.slice (some ⟨w1.heap.size, 0, none⟩) 4 4) ⟨w1.heap.size, s11, rfl, hF.world.size, z11, heap_alloc_new w1 _⟩ (fun b _ hb => Below.heap_alloc w1 _ b hb) ((hF.world.flag 12 (by omega)).below ((Below.refl _ w1).alloc (Nat.le_refl _) _) hWb)⟩
          simp [spF, e6, e11]
        · simp [Region.binds] at hdeps
          have e2 : sv 2 = (.pointer (some ⟨sb, 0, none⟩)) := hF.vals 2 (by decide) (by simp [hdeps])
          obtain ⟨lb, s12, e12, hlb, z12, hblk⟩ := hF.vals 12 (by decide) (by simp [hdeps])
          have hN := hF.n
          obtain ⟨T, hT, hM⟩ := hF.world.mid
          obtain ⟨t', _, ht', hst⟩ := hM.1.strm
          have hsW := hF.world.size
          have hc13 : cnt1 l 13 ≤ 1 := by unfold cnt1; split <;> omega
          have hc20 : cnt1 l 20 ≤ 1 := by unfold cnt1; split <;> omega
          have hx : ∀ k, k < 4 → w1.cell? ⟨lb, 0 + k, none⟩ = some (.string ([d.ins.code j, s12, ⟨#[48]⟩, ⟨#[48, 120]⟩].getD k ⟨#[]⟩)) := fun k hk => by
            rw [Nat.zero_add]
            exact cell_of hblk (by have h5 : k = 0 ∨ k = 1 ∨ k = 2 ∨ k = 3 := by omega
                                   rcases h5 with rfl | rfl | rfl | rfl <;> rfl)
          have hcon := some_any sb t' lb 0 4 4 (fun k => [d.ins.code j, s12, ⟨#[48]⟩, ⟨#[48, 120]⟩].getD k ⟨#[]⟩) w1 hst (by omega) (by decide) (by decide) (by omega) hx
          have hoff : l[13]?.getD true = false := by simp [hdeps]
          have HX := Lib.hid (⟨hx, hblk, hst⟩ : _ ∧ _ ∧ _)
          clear hx hblk hst
          have HF := Lib.hid hF
          clear hF
          have HD := Lib.hid hdeps
          clear hdeps
          refine wpOp_mk rfl (fun K hK => ?_)
          go_simp
          refine hcon.mono ?_
          rintro e w2 ⟨⟨q, hq, rfl⟩, hr⟩
          have hz := strs4 (d.ins.code j) s12 ⟨#[48]⟩ ⟨#[48, 120]⟩ az (by omega) (by decide) (by decide) q hq
          generalize [d.ins.code j, s12, ⟨#[48]⟩, ⟨#[48, 120]⟩].getD q ⟨#[]⟩ = nm at hz ⊢
          clear hcon
          try go_simp
          have hF := HF.out
          refine hK _ _ ⟨_, ?_, hF.step 13 (by decide) (.string nm) ⟨nm, rfl, hz⟩ (fun b hb hb2 => hr.1.block b hb2 (fun e => by have := Option.some.inj e; omega)) (hF.world.ran hT hM (by omega) (by omega) hN hoff hr hgs hrs hWb)⟩
          simp [spF, e2, e12]
        · simp [Region.binds] at hdeps
          have hN := hF.n
          have HF := Lib.hid hF
          clear hF
          clear hdeps
          refine wpOp_mk rfl (fun K hK => ?_)
          go_simp
          have hF := HF.out
          refine hK _ _ ⟨_, ?_, hF.step 14 (by decide) (.pointer (some ⟨sb, 0, none⟩)) rfl (fun _ _ _ => rfl) (hF.world.flag 14 (by omega))⟩
          simp [spF]
        · simp [Region.binds] at hdeps
          have hN := hF.n
          have HF := Lib.hid hF
          clear hF
          clear hdeps
          refine wpOp_mk rfl (fun K hK => ?_)
          go_simp
          have hF := HF.out
          refine hK _ _ ⟨_, ?_, hF.step 15 (by decide) (.pointer (some ⟨rb, off + j * 2, none⟩)) rfl (fun _ _ _ => rfl) (hF.world.flag 15 (by omega))⟩
          simp [spF]
        · simp [Region.binds] at hdeps
          have e15 : sv 15 = (.pointer (some ⟨rb, off + j * 2, none⟩)) := hF.vals 15 (by decide) (by simp [hdeps])
          have hN := hF.n
          have HF := Lib.hid hF
          clear hF
          clear hdeps
          refine wpOp_mk rfl (fun K hK => ?_)
          go_simp
          have hF := HF.out
          refine hK _ _ ⟨_, ?_, hF.step 16 (by decide) (.pointer (some ⟨rb, off + j * 2, none⟩)) rfl (fun _ _ _ => rfl) (hF.world.flag 16 (by omega))⟩
          simp [spF, e15]
        · simp [Region.binds] at hdeps
          have e16 : sv 16 = (.pointer (some ⟨rb, off + j * 2, none⟩)) := hF.vals 16 (by decide) (by simp [hdeps])
          have hN := hF.n
          have HF := Lib.hid hF
          clear hF
          clear hdeps
          refine wpOp_mk rfl (fun K hK => ?_)
          go_simp
          have hF := HF.out
          refine hK _ _ ⟨_, ?_, hF.step 17 (by decide) (.pointer (some ⟨rb, off + j * 2 + 1, none⟩)) rfl (fun _ _ _ => rfl) (hF.world.flag 17 (by omega))⟩
          simp [spF, e16]
        · simp [Region.binds] at hdeps
          have e17 : sv 17 = (.pointer (some ⟨rb, off + j * 2 + 1, none⟩)) := hF.vals 17 (by decide) (by simp [hdeps])
          have hN := hF.n
          have hoff : l[26]?.getD false = false := by
            cases hx : l[26]?.getD false with
            | false => rfl
            | true => exact absurd (hF.d26 hx) (flag_off (by simp [hdeps]))
          have hcell := hF.world.c1 hoff
          have HF := Lib.hid hF
          clear hF
          clear hdeps
          refine wpOp_mk rfl (fun K hK => ?_)
          go_simp
          have hF := HF.out
          refine hK _ _ ⟨_, ?_, hF.step 18 (by decide) (.string (d.ins.reg j)) rfl (fun _ _ _ => rfl) (hF.world.flag 18 (by omega))⟩
          simp [spF, e17]
        · simp [Region.binds] at hdeps
          have e18 : sv 18 = (.string (d.ins.reg j)) := hF.vals 18 (by decide) (by simp [hdeps])
          have hN := hF.n
          have HF := Lib.hid hF
          clear hF
          clear hdeps
          refine wpOp_mk rfl (fun K hK => ?_)
          go_simp
          have hF := HF.out
          refine hK _ _ ⟨_, ?_, hF.step 19 (by decide) (.slice (some ⟨w1.heap.size, 0, none⟩) 3 3) ⟨w1.heap.size, rfl, hF.world.size, heap_alloc_new w1 _⟩ (fun b _ hb => Below.heap_alloc w1 _ b hb) ((hF.world.flag 19 (by omega)).below ((Below.refl _ w1).alloc (Nat.le_refl _) _) hWb)⟩
          simp [spF, e18]
        · simp [Region.binds] at hdeps
          have e14 : sv 14 = (.pointer (some ⟨sb, 0, none⟩)) := hF.vals 14 (by decide) (by simp [hdeps])
          obtain ⟨lb, e19, hlb, hblk⟩ := hF.vals 19 (by decide) (by simp [hdeps])
          have hN := hF.n
          obtain ⟨T, hT, hM⟩ := hF.world.mid
          obtain ⟨t', _, ht', hst⟩ := hM.1.strm
          have hsW := hF.world.size
          have hc13 : cnt1 l 13 ≤ 1 := by unfold cnt1; split <;> omega
          have hc20 : cnt1 l 20 ≤ 1 := by unfold cnt1; split <;> omega
          have hx : ∀ k, k < 3 → w1.cell? ⟨lb, 0 + k, none⟩ = some (.string ([d.ins.reg j, ⟨#[105, 100, 99, 111, 100, 101]⟩, ⟨#[122, 122]⟩].getD k ⟨#[]⟩)) := fun k hk => by
            rw [Nat.zero_add]
            exact cell_of hblk (by have h5 : k = 0 ∨ k = 1 ∨ k = 2 := by omega
                                   rcases h5 with rfl | rfl | rfl <;> rfl)
          have hcon := some_any sb t' lb 0 3 3 (fun k => [d.ins.reg j, ⟨#[105, 100, 99, 111, 100, 101]⟩, ⟨#[122, 122]⟩].getD k ⟨#[]⟩) w1 hst (by omega) (by decide) (by decide) (by omega) hx
          have hoff : l[20]?.getD true = false := by simp [hdeps]
          have HX := Lib.hid (⟨hx, hblk, hst⟩ : _ ∧ _ ∧ _)
          clear hx hblk hst
          have HF := Lib.hid hF
          clear hF
          have HD := Lib.hid hdeps
          clear hdeps
          refine wpOp_mk rfl (fun K hK => ?_)
          go_simp
          refine hcon.mono ?_
          rintro e w2 ⟨⟨q, hq, rfl⟩, hr⟩
          have hz := strs3 (d.ins.reg j) ⟨#[105, 100, 99, 111, 100, 101]⟩ ⟨#[122, 122]⟩ ay (by decide) (by decide) q hq
          generalize [d.ins.reg j, ⟨#[105, 100, 99, 111, 100, 101]⟩, ⟨#[122, 122]⟩].getD q ⟨#[]⟩ = nm at hz ⊢
          clear hcon
          try go_simp
          have hF := HF.out
          refine hK _ _ ⟨_, ?_, hF.step 20 (by decide) (.string nm) ⟨nm, rfl, hz⟩ (fun b hb hb2 => hr.1.block b hb2 (fun e => by have := Option.some.inj e; omega)) (hF.world.ran hT hM (by omega) (by omega) hN hoff hr hgs hrs hWb)⟩
          simp [spF, e14, e19]
        · simp [Region.binds] at hdeps
          have e0 : sv 0 = (.pointer (some ⟨rb, off + j * 2, none⟩)) := hF.vals 0 (by decide) (by simp [hdeps])
          have hN := hF.n
          have HF := Lib.hid hF
          clear hF
          clear hdeps
          refine wpOp_mk rfl (fun K hK => ?_)
          go_simp
          have hF := HF.out
          refine hK _ _ ⟨_, ?_, hF.step 21 (by decide) (.pointer (some ⟨rb, off + j * 2, none⟩)) rfl (fun _ _ _ => rfl) (hF.world.flag 21 (by omega))⟩
          simp [spF, e0]
        · simp [Region.binds] at hdeps
          have e21 : sv 21 = (.pointer (some ⟨rb, off + j * 2, none⟩)) := hF.vals 21 (by decide) (by simp [hdeps])
          have hN := hF.n
          have HF := Lib.hid hF
          clear hF
          clear hdeps
          refine wpOp_mk rfl (fun K hK => ?_)
          go_simp
          have hF := HF.out
          refine hK _ _ ⟨_, ?_, hF.step 22 (by decide) (.pointer (some ⟨rb, off + j * 2, none⟩)) rfl (fun _ _ _ => rfl) (hF.world.flag 22 (by omega))⟩
          simp [spF, e21]
        · simp [Region.binds] at hdeps
          have e22 : sv 22 = (.pointer (some ⟨rb, off + j * 2, none⟩)) := hF.vals 22 (by decide) (by simp [hdeps])
          obtain ⟨s13, e13, z13⟩ := hF.vals 13 (by decide) (by simp [hdeps])
          have hN := hF.n
          have hoff : l[23]?.getD false = false := by have := flag_off (l := l) (i := 23) (by simp [hdeps]); simpa using this
          have hcell := hF.world.c0 hoff
          have hfr := hF.world.f0
          have HF := Lib.hid hF
          clear hF
          have HD := Lib.hid hdeps
          clear hdeps
          refine wpOp_mk rfl (fun K hK => ?_)
          go_simp
          have hF := HF.out
          refine hK _ _ ⟨_, ?_, hF.step 23 (by decide) undef trivial (fun b hb _ => Below.heap_setCell _ _ _ b (by show b ≠ rb; omega)) (hF.world.set0 hN (by simp [HD.out]) hlt hrup z13) (fun _ => by simp [HD.out])⟩
          simp [spF, e22, e13]
        · simp [Region.binds] at hdeps
          have e1 : sv 1 = (.pointer (some ⟨rb, off + j * 2, none⟩)) := hF.vals 1 (by decide) (by simp [hdeps])
          have hN := hF.n
          have HF := Lib.hid hF
          clear hF
          clear hdeps
          refine wpOp_mk rfl (fun K hK => ?_)
          go_simp
          have hF := HF.out
          refine hK _ _ ⟨_, ?_, hF.step 24 (by decide) (.pointer (some ⟨rb, off + j * 2, none⟩)) rfl (fun _ _ _ => rfl) (hF.world.flag 24 (by omega))⟩
          simp [spF, e1]
        · simp [Region.binds] at hdeps
          have e24 : sv 24 = (.pointer (some ⟨rb, off + j * 2, none⟩)) := hF.vals 24 (by decide) (by simp [hdeps])
          have hN := hF.n
          have HF := Lib.hid hF
          clear hF
          clear hdeps
          refine wpOp_mk rfl (fun K hK => ?_)
          go_simp
          have hF := HF.out
          refine hK _ _ ⟨_, ?_, hF.step 25 (by decide) (.pointer (some ⟨rb, off + j * 2 + 1, none⟩)) rfl (fun _ _ _ => rfl) (hF.world.flag 25 (by omega))⟩
          simp [spF, e24]
        · simp [Region.binds] at hdeps
          have e25 : sv 25 = (.pointer (some ⟨rb, off + j * 2 + 1, none⟩)) := hF.vals 25 (by decide) (by simp [hdeps])
          obtain ⟨s20, e20, z20⟩ := hF.vals 20 (by decide) (by simp [hdeps])
          have hN := hF.n
          have hoff : l[26]?.getD false = false := by have := flag_off (l := l) (i := 26) (by simp [hdeps]); simpa using this
          have hcell := hF.world.c1 hoff
          have hfr := hF.world.f1
          have HF := Lib.hid hF
          clear hF
          have HD := Lib.hid hdeps
          clear hdeps
          refine wpOp_mk rfl (fun K hK => ?_)
          go_simp
          have hF := HF.out
          refine hK _ _ ⟨_, ?_, hF.step 26 (by decide) undef trivial (fun b hb _ => Below.heap_setCell _ _ _ b (by show b ≠ rb; omega)) (hF.world.set1 hN (by simp [HD.out]) hlt hrup z20) (by intro h; cases h) (fun _ => by simp [HD.out])⟩
          simp [spF, e25, e20]
end Go.Proofs.YtkipkkaloiefpaaGreatDoor
