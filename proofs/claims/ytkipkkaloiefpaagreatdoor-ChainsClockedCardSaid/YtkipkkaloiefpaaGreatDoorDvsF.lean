/- Devices: what the stream makes. -/
import Derived.Test.YtkipkkaloiefpaaGreatDoorM19
import Derived.IntWalk
import Derived.Test.YtkipkkaloiefpaaGreatDoorM5
namespace Go.Proofs.YtkipkkaloiefpaaGreatDoor
open Go.RowKit Go.Maps

theorem info_any {T : TypeId} {n b : Nat} {z : Value} (h : (Tryz.prog.info? T).map (fun i => (i.zero, i.size, i.bytes)) = some (some z, n, b)) : ∃ i, Tryz.prog.info? T = some i ∧ i.zero = some z ∧ i.size = n ∧ i.bytes = b := by
  cases hi : Tryz.prog.info? T with
  | none => rw [hi] at h; simp at h
  | some i =>
    rw [hi] at h
    simp at h
    exact ⟨i, rfl, h.1, h.2.1, h.2.2⟩
theorem Tryz.infoReg : (Tryz.prog.info? 50).map (fun i => (i.zero, i.size, i.bytes)) = some (some (.agg #[.string ⟨#[]⟩, .int .i64 0]), 2, 24) := by kernel_rfl
theorem Tryz.infoIns : (Tryz.prog.info? 55).map (fun i => (i.zero, i.size, i.bytes)) = some (some (.agg #[.string ⟨#[]⟩, .string ⟨#[]⟩]), 2, 32) := by kernel_rfl
theorem Tryz.infoDev : (Tryz.prog.info? 48).map (fun i => (i.zero, i.size, i.bytes)) = some (some (.agg #[.string ⟨#[]⟩, .int .i64 0, .int .i64 0, .slice none 0 0, .slice none 0 0]), 5, 80) := by kernel_rfl

theorem lit_at {w : World} {b : Nat} {l : List ByteArray} {t : TypeId} (h : w.heap[b]? = some (.cells (l.map Value.string).toArray t)) {k : Nat} (hk : k < l.length) : w.cell? ⟨b, k, none⟩ = some (.string (l.getD k ⟨#[]⟩)) :=
  cell_of h (by simp [List.getD, hk])
/-- A literal's block stays where blocks from lo on, not the row's, stay. -/
abbrev u3L : List ByteArray := [⟨#[117, 49]⟩, ⟨#[117, 50]⟩, ⟨#[117, 51]⟩]
abbrev r2L : List ByteArray := [⟨#[100, 97, 116, 97]⟩, ⟨#[115, 99, 97, 110]⟩]
theorem u3_size : ∀ k, k < 3 → (u3L.getD k ⟨#[]⟩).size ≤ 1048576 := by
  intro k hk
  have : k = 0 ∨ k = 1 ∨ k = 2 := by omega
  rcases this with rfl | rfl | rfl <;> (show (⟨#[117, _]⟩ : ByteArray).size ≤ 1048576; decide)
theorem r2_size : ∀ k, k < 2 → (r2L.getD k ⟨#[]⟩).size ≤ 1048576 := by
  intro k hk
  have : k = 0 ∨ k = 1 := by omega
  rcases this with rfl | rfl
  · show (⟨#[100, 97, 116, 97]⟩ : ByteArray).size ≤ 1048576; decide
  · show (⟨#[115, 99, 97, 110]⟩ : ByteArray).size ≤ 1048576; decide
theorem long_at : ∀ k, k < 3 → 2 ≤ ([2, 3, 4] : List Int).getD k 0 ∧ ([2, 3, 4] : List Int).getD k 0 ≤ 4 := by
  intro k hk
  have : k = 0 ∨ k = 1 ∨ k = 2 := by omega
  rcases this with rfl | rfl | rfl <;> decide

theorem DevsAt.soft2 {sb B : Nat} {w w' : World} {a : Option Addr} {r : Devs} (h : DevsAt B w a r) (hf : FarA sb a) (hp : ∀ k, k < r.n → FarA sb (r.plc k).ra ∧ FarA sb (r.plc k).ia) (hs : Soft sb w w') : ∃ r' : Devs, r'.n = r.n ∧ r'.plc = r.plc ∧ DevsAt B w' a r' := by
  by_cases h0 : r.n = 0
  · exact ⟨r, rfl, rfl, h.n_le, fun h1 => by omega⟩
  obtain ⟨b, off, rfl, hb, hc⟩ := h.cells (by omega)
  have hne : b ≠ sb := hf _ rfl
  refine ⟨devsIn w' b off r, rfl, rfl, h.n_le, fun _ => ⟨b, off, rfl, hb, fun k hk => ?_⟩⟩
  have hk : k < r.n := hk
  obtain ⟨⟨c1, c2, c3, c4, c5⟩, hok⟩ := hc k hk
  obtain ⟨s', d1, d2⟩ := hs.str hne c1 hok.name
  obtain ⟨z1, d3⟩ := hs.int hne c2
  obtain ⟨z2, d4⟩ := hs.int hne c3
  have d5 := hs.slice hne c4
  have d6 := hs.slice hne c5
  show (w'.cell? ⟨b, off + k * 5, none⟩ = some (.string (txtOf (cv w' b (off + k * 5)))) ∧ w'.cell? ⟨b, off + k * 5 + 1, none⟩ = some (.int .i64 (nrOf (cv w' b (off + k * 5 + 1)))) ∧ w'.cell? ⟨b, off + k * 5 + 2, none⟩ = some (.int .i64 (nrOf (cv w' b (off + k * 5 + 2)))) ∧
    w'.cell? ⟨b, off + k * 5 + 3, none⟩ = some (.slice (r.plc k).ra (regsIn w' (r.plc k).ra (r.dev k).regs.n).n (r.plc k).rc) ∧ w'.cell? ⟨b, off + k * 5 + 4, none⟩ = some (.slice (r.plc k).ia (inssIn w' (r.plc k).ia (r.dev k).ins.n).n (r.plc k).ic)) ∧ DevOk B w' ⟨txtOf (cv w' b (off + k * 5)), nrOf (cv w' b (off + k * 5 + 1)), nrOf (cv w' b (off + k * 5 + 2)), regsIn w' (r.plc k).ra (r.dev k).regs.n, inssIn w' (r.plc k).ia (r.dev k).ins.n⟩ (r.plc k)
  rw [cv_str d1, cv_num d3, cv_num d4, regsIn_n, inssIn_n]
  exact ⟨⟨d1, d3, d4, d5, d6⟩, hok.regs.soft (hp k hk).1 hs, hok.ins.soft (hp k hk).2 hs, d2, by rw [regsIn_n]; exact hok.capR, by rw [inssIn_n]; exact hok.capI⟩
theorem news_l (w : World) (l : List Value) (t : TypeId) : ∀ j u, l[j]? = some u → (w.alloc (.cells l.toArray t)).cell? ((⟨w.heap.size, 0, none⟩ : Addr).add j) = some u := fun j u h => by
  rw [add_cell, Nat.zero_add]
  exact cell_fresh _ _ _ (by simpa using h)

set_option maxHeartbeats 8000000 in
set_option maxRecDepth 100000 in
theorem devices_any (sb : Nat) (w : World) (hs : Strm w sb 0) (hT : Tz w) (hTs : 4 ≠ sb) (mz : Int) (hm1 : 1 ≤ mz) (hm2 : mz ≤ 3) :
    Calls Tryz.prog 4 #[.pointer (some ⟨sb, 0, none⟩), .int .i64 mz] w fun e w' => ∃ (a : Option Addr) (cap : Nat) (r : Devs), e = .returned (.slice a r.n cap) ∧ r.n ≤ cap ∧ DevsAt w'.heap.size w' a r ∧ FarA sb a ∧ (∀ k, k < r.n → FarA sb (r.plc k).ra ∧ FarA sb (r.plc k).ia) ∧ Ran sb 0 1000 w w' := by
  have hlt := hs.lt
  go_enter Tryz.func4, Tryz.ntmps4
  go_wp2_with fail
  refine (range_any sb 0 1 mz _ (hs.alloc _) (by decide) (by decide) hm1 (by omega)).mono ?_
  rintro e w1 ⟨⟨zn, hn1, hn3, rfl⟩, hr⟩
  obtain ⟨m, rfl⟩ : ∃ m : Nat, zn = (m : Int) := ⟨zn.toNat, by omega⟩
  have hlit : w1.heap[w.heap.size]? = some (.cells (u3L.map Value.string).toArray 9) := (hr.1.block w.heap.size (by simp) (fun e => by have := Option.some.inj e; omega)).trans (heap_alloc_new w _)
  have hst : DevsI sb 1 w.heap.size 0 w (.slice none 0 0) w1 := ⟨hlt, Nat.le_refl _, hr.after_alloc, [], rfl, World.ownsRow_nil _ _ _ _, fun q hq => by cases hq⟩
  have hsz1 : w.heap.size < w1.heap.size := blk_lt hlit
  obtain ⟨lb, hlb⟩ : ∃ lb, lb = w.heap.size := ⟨_, rfl⟩
  rw [← hlb] at hlit
  have hlb2 : sb < lb := by omega
  have HLB := Lib.hid hlb
  clear hr hlb
  go_wp2_with fail
  rw [← HLB.out]
  go_loopw [5, 20] (fun v i wr => ∃ k : Nat, k ≤ m ∧ i = .int .i64 (k : Int) ∧ DevsI sb (1 + 60 * k) w.heap.size k w v wr ∧ wr.heap[lb]? = some (.cells (u3L.map Value.string).toArray 9)) (fun _ i _ => m - (intOf i).toNat)
  case atStart => exact ⟨0, by omega, rfl, hst, hlit⟩
  case round =>
    clear hst hlit hsz1
    obtain ⟨wk, rfl⟩ : ∃ wk, wk = wr := ⟨_, rfl⟩
    obtain ⟨ov, rfl⟩ : ∃ x, x = u5 := ⟨_, rfl⟩
    obtain ⟨k, hk, rfl, hI, hl⟩ := hrel
    by_cases hlt2 : k < m
    · have hcell := lit_at hl (k := k) (by show k < 3; omega)
      have hnz := u3_size k (by omega)
      have hkl := blk_lt hl
      generalize u3L.getD k ⟨#[]⟩ = nm at hcell hnz
      obtain ⟨tk, _, htk, hsk⟩ := hI.ran.strm
      have hsbk : sb < wk.heap.size := by omega
      have HI := Lib.hid (⟨hI, hl⟩ : _ ∧ _)
      clear hI hl
      go_wp2_with fail
      refine (pick_any sb tk wk.heap.size 0 3 3 (fun k => ([2, 3, 4] : List Int).getD k 0) _ (hsk.alloc _) (by omega) (by decide) (by decide) (by omega) (ints_fresh wk [2, 3, 4] _)).mono ?_
      rintro e w2 ⟨⟨j, hj, rfl⟩, hr2⟩
      have hlong := long_at j hj
      generalize ([2, 3, 4] : List Int).getD j 0 = long at hlong ⊢
      have hr2' := hr2.after_alloc
      obtain ⟨t2, ht2, ht2', hs2⟩ := hr2'.strm
      have hl2 := hs2.lt
      clear hr2 hcell
      go_wp2_with fail
      refine (pick_any sb t2 w2.heap.size 0 5 5 (fun k => ([0, 5, 19088743, 4294967295, 1] : List Int).getD k 0) _ (hs2.alloc _) (by omega) (by decide) (by decide) (by omega) (ints_fresh w2 [0, 5, 19088743, 4294967295, 1] _)).mono ?_
      rintro e w3 ⟨⟨j2, hj2, rfl⟩, hr3⟩
      generalize ([0, 5, 19088743, 4294967295, 1] : List Int).getD j2 0 = id
      have hran3 : Ran sb tk 2 wk w3 := hr2'.then ht2 ht2' hr3.after_alloc
      obtain ⟨W5, hW5⟩ : ∃ W5 : World, w3.alloc (.cells #[.string nm, .int .i64 long, .int .i64 id, .slice none 0 0, .slice none 0 0] 48) = W5 := ⟨_, rfl⟩
      have hdv : DVar sb tk 2 wk w3.heap.size nm long id (.slice none 0 0) (.slice none 0 0) 0 0 W5 := by
        rw [← hW5]
        exact ⟨hsbk, hran3.alloc _, hran3.1.size, heap_alloc_new w3 _, hnz, ⟨[], World.ownsRow_nil _ _ _ _, RegL.nil⟩, ⟨[], World.ownsRow_nil _ _ _ _, InsL.nil⟩⟩
      obtain ⟨db, hdb⟩ : ∃ db, db = w3.heap.size := ⟨_, rfl⟩
      rw [← hdb] at hdv
      obtain ⟨t5, _, ht5, hs5⟩ := hdv.ran.strm
      have HDB := Lib.hid hdb
      have HDV := Lib.hid hdv
      have HW5 := Lib.hid hW5
      clear hr2' hr3 hran3 hdb hdv hs2 hW5
      go_wp2_with fail
      rw [HW5.out]
      refine (range_any sb t5 0 2 _ (hs5.alloc _) (by omega) (by decide) (by decide) (by decide)).mono ?_
      rintro e w6 ⟨⟨zm, hz0, hz2, rfl⟩, hr6⟩
      obtain ⟨m2, rfl⟩ : ∃ m2 : Nat, zm = (m2 : Int) := ⟨zm.toNat, by omega⟩
      have hd6 := (HDV.out.alloc _).later (by omega) (by omega) hr6
      have hlit2 : w6.heap[W5.heap.size]? = some (.cells (r2L.map Value.string).toArray 9) := (hr6.1.block W5.heap.size (by simp) (fun e => by have := Option.some.inj e; have := hs5.lt; omega)).trans (heap_alloc_new W5 _)
      have hW5s : W5.heap.size = db + 1 := by rw [← HW5.out, HDB.out]; simp
      have hlb1 : sb < db + 1 := by have := hs5.lt; omega
      rw [hW5s] at hlit2
      clear hr6 hW5s
      go_wp2_with fail
      rw [← HDB.out]
      obtain ⟨l1, hl1⟩ : ∃ l1, l1 = db + 1 := ⟨_, rfl⟩
      rw [← hl1] at hlit2 hlb1 ⊢
      have HL1 := Lib.hid hl1
      have hm2 : m2 ≤ 2 := by omega
      obtain ⟨iR, hiR, hzR0, hzR1, hzR2⟩ := info_any Tryz.infoReg
      clear hl1 hz0 hz2 hs5 hsk
      go_loopw [37] (fun j wr => ∃ q : Nat, q ≤ m2 ∧ j = .int .i64 (q : Int) ∧ ∃ v, DVar sb tk (3 + q) wk db nm long id v (.slice none 0 0) q 0 wr ∧ wr.heap[l1]? = some (.cells (r2L.map Value.string).toArray 9)) (fun j _ => m2 - (intOf j).toNat)
      case atStart => exact ⟨0, Nat.zero_le _, rfl, _, hd6, hlit2⟩
      case round =>
        clear hd6 hlit2
        obtain ⟨wr, rfl⟩ : ∃ x, x = wr := ⟨_, rfl⟩
        obtain ⟨q, hq, rfl, v, hv, hl2⟩ := hrel
        by_cases hq2 : q < m2
        · have hcell := lit_at hl2 (k := q) (by show q < 2; omega)
          have hrz := r2_size q (by omega)
          generalize r2L.getD q ⟨#[]⟩ = rn at hcell hrz
          obtain ⟨tq, htq0, htq, hsq⟩ := hv.ran.strm
          have hsqd : Strm wr.drew sb tq := hsq.kept fun _ _ => rfl
          obtain ⟨c0, c1, c2, c3, c4, cf⟩ := hv.cells
          have f3 := cf 3
          have hupd := hv.up
          have hdl := World.block_lt_of_cell? wr _ c3
          have hll := blk_lt hl2
          have HV := Lib.hid (⟨hv, hl2⟩ : _ ∧ _)
          clear hv hl2 c0 c1 c2 c4 cf
          go_wp2_with fail
          go_region_law (first | (go_simp; go_at_call 16; refine (pick_any sb tq wr.heap.size 0 4 4 (fun k => ([1, 2, 3, 5] : List Int).getD k 0) _ (hsqd.alloc _) (by omega) (by decide) (by decide) (by omega) (ints_fresh wr.drew [1, 2, 3, 5] _)).mono ?_; rintro e w2 ⟨⟨jz, hjz, rfl⟩, hr2⟩; generalize ([1, 2, 3, 5] : List Int).getD jz 0 = z; have hr2' := hr2.after_alloc.undrew; have c3' := hr2'.cell c3 (by show db ≠ sb; omega); have c3b : ∀ o : Obj, (w2.alloc o).cell? ⟨db, 3, none⟩ = some v := fun o => (World.cell?_of_block (a := ⟨db, 3, none⟩) (Below.heap_alloc w2 o db (World.block_lt_of_cell? w2 ⟨db, 3, none⟩ c3'))).trans c3'; have hd2 := HV.out.1.later htq0 htq hr2'; obtain ⟨xs, hown2, hx2⟩ := hd2.regs) | (refine step_append_lies (P := Tryz.prog) _ rfl (.tmp 42) (.tmp 48) 45 rfl wk.heap.size 50 iR (.agg #[.string ⟨#[]⟩, .int .i64 0]) 2 24 Tryz.underlying45 hiR hzR0 hzR1 hzR2 rfl (by decide) _ _ _ (by simp [Act.eval]) (World.ownsRow.alloc (w := w2) hown2 _) ⟨w2.heap.size, 0, none⟩ 1 1 [.string rn, .int .i64 z] (by simp [Act.eval]) rfl (by exact news_l _ _ _) (by intro u hu; simp at hu; rcases hu with rfl | rfl <;> rfl) (by decide) (by unfold maxLen; omega) (by omega) (by simp; have := hd2.ran.1.size; omega) _ rfl ?_; intro g4 cap4 w4 hown4 hg4 hat4 hlt4; have hg5 := (World.grownBy_alloc w2 _ _).trans hg4; have c3w4 : w4.cell? ⟨db, 3, none⟩ = some v := (World.cell?_of_block (a := ⟨db, 3, none⟩) (hg5.block db (blk_lt hd2.blk) (Ne.symm (row_ne hown2 hd2.blk (by decide))))).trans c3'; have f3w4 : w4.frozen? ⟨db, 3, none⟩ = false := (World.frozen?_of_block (a := ⟨db, 3, none⟩) (hg5.block db (blk_lt hd2.blk) (Ne.symm (row_ne hown2 hd2.blk (by decide))))).trans (frozen_of hd2.blk 3)))
          all_goals
            have hlw2 : w2.heap[l1]? = some (.cells (r2L.map Value.string).toArray 9) := (hr2'.1.block l1 hll (fun e => by have := Option.some.inj e; omega)).trans HV.out.2
            have hfin := hd2.pushR hown2 hx2 hrz hown4 hg5
            have hlw4 : (w4.setCell ⟨db, 3, none⟩ (.slice (some ⟨g4, 0, none⟩) (q + 1) cap4)).heap[l1]? = some (.cells (r2L.map Value.string).toArray 9) := (Below.heap_setCell _ _ _ l1 (by show l1 ≠ db; have := HL1.out; omega)).trans ((hg5.block l1 (blk_lt hlw2) (Ne.symm (row_ne hown2 hlw2 (by decide)))).trans hlw2)
            have HF := Lib.hid (⟨hfin, hlw4⟩ : _ ∧ _)
            clear hfin hlw4 hlw2 hg5 hg4 hown4 hown2 hd2 c3w4 f3w4 hr2' hr2
            go_wp2_with fail
            go_roundw
            case rel => exact ⟨q + 1, by omega, by go_num, _, HF.out.1.mono (by omega), HF.out.2⟩
            case measure => simp [intOf]; omega
        · have HV := Lib.hid hv
          have hq3 : q ≤ 2 := by omega
          have hTk : Tz wk := HI.out.1.ran.cell hT hTs
          obtain ⟨t7, ht70, ht7, hs7⟩ := hv.ran.strm
          clear hv hl2
          go_wp2_with fail
          refine (range_any sb t7 0 3 _ hs7 (by omega) (by decide) (by decide) (by decide)).mono ?_
          rintro e w7 ⟨⟨zp, hp0, hp3, rfl⟩, hr7⟩
          obtain ⟨m3, rfl⟩ : ∃ m3 : Nat, zp = (m3 : Int) := ⟨zp.toNat, by omega⟩
          have hm3 : m3 ≤ 3 := by omega
          have hd7 := HV.out.later ht70 ht7 hr7
          obtain ⟨iI, hiI, hzI0, hzI1, hzI2⟩ := info_any Tryz.infoIns
          clear hr7 hs7 HV hp0 hp3
          go_wp2_with fail
          go_loopw [54] (fun i wr => ∃ p : Nat, p ≤ m3 ∧ i = .int .i64 (p : Int) ∧ ∃ u, DVar sb tk (4 + q + 4 * p) wk db nm long id v u q p wr) (fun i _ => m3 - (intOf i).toNat)
          case atStart => exact ⟨0, Nat.zero_le _, rfl, _, hd7.mono (by omega)⟩
          case round =>
            clear hd7
            obtain ⟨wr, rfl⟩ : ∃ x, x = wr := ⟨_, rfl⟩
            obtain ⟨p, hp, rfl, u, hv⟩ := hrel
            by_cases hp2 : p < m3
            · obtain ⟨c0, c1, c2, c3, c4, cf⟩ := hv.cells
              have hupd := hv.up
              obtain ⟨nv, cv2, rfl⟩ := row_shape hv.regs.choose_spec.1
              have HV := Lib.hid hv
              clear hv c0 c1 c2 c4 cf
              go_upto_if 60 with (fail)
              go_cut [12] (fun s wx => ∃ z : ByteArray, s = .string z ∧ z.size ≤ 1048576 ∧ DVar sb tk (4 + q + 4 * p + 1) wk db nm long id (.slice nv q cv2) u q p wx)
              case first =>
                by_cases hq0 : q = 0
                · go_wp2_with fail
                  go_meet
                  exact ⟨bypassS, rfl, by decide, HV.out.mono (by omega)⟩
                · obtain ⟨xs, hown, hx⟩ := HV.out.regs
                  obtain ⟨g, cp2, e2, hgb, hgl⟩ := hown.form (by omega)
                  obtain ⟨rfl, rfl⟩ : nv = some ⟨g, 0, none⟩ ∧ cv2 = cp2 := by simpa using e2
                  obtain ⟨tp, htp0, htp, hsp⟩ := HV.out.ran.strm
                  have hspd : Strm wr.drew sb tp := hsp.kept fun _ _ => rfl
                  have hcx : ∀ j, j < q → ∃ z : ByteArray, wr.cell? ⟨g, j * 2, none⟩ = some (.string z) ∧ z.size ≤ 1048576 := fun j hj => by
                    obtain ⟨z, h1, h2⟩ := (hx (j * 2) (by have := hown.1; omega)).1 (by omega)
                    exact ⟨z, (hown.cellAt (j * 2) (by omega)).trans h1, h2⟩
                  have hpos : (0 : Int) < (q : Int) := by omega
                  have hcx2 : ∀ j, j < q → wr.cell? ⟨g, j * 2, none⟩ = some (.string (txtOf (cv wr g (j * 2)))) ∧ (txtOf (cv wr g (j * 2))).size ≤ 1048576 := fun j hj => by
                    obtain ⟨z, h1, h2⟩ := hcx j hj
                    rw [cv_str h1]
                    exact ⟨h1, h2⟩
                  have hcxh := Lib.hid hcx2
                  clear hown hx e2 hcx hcx2
                  go_wp2_with fail
                  go_region_held3 (fun w' => w'.cell? ⟨db, 3, none⟩ = some (.slice (some ⟨g, 0, none⟩) q cv2) ∧ ∀ j : Nat, j < q → w'.cell? ⟨g, j * 2, none⟩ = some (.string (txtOf (cv wr g (j * 2))))) (first | exact ⟨c3, fun j hj => (hcxh.out j hj).1⟩ | exact hS2 | assumption)
                    ((go_at_call 17; refine (next_any sb tp q _ hspd (by omega) (by omega) (by omega)).mono ?_; rintro e w2 ⟨⟨zj, hj1, hj2, rfl⟩, hr2⟩; obtain ⟨j, rfl⟩ : ∃ j : Nat, zj = (j : Int) := ⟨zj.toNat, by omega⟩; have c3' := hr2.cell (show wr.drew.cell? ⟨db, 3, none⟩ = _ from c3) (by show db ≠ sb; omega); have hjq : j < q := (by omega); have hS2 : w2.cell? ⟨db, 3, none⟩ = some (.slice (some ⟨g, 0, none⟩) q cv2) ∧ ∀ j : Nat, j < q → w2.cell? ⟨g, j * 2, none⟩ = some (.string (txtOf (cv wr g (j * 2)))) := ⟨c3', fun j hj => hr2.cell (show wr.drew.cell? ⟨g, j * 2, none⟩ = _ from (hcxh.out j hj).1) (by show g ≠ sb; omega)⟩))
                  have hfin := HV.out.later htp0 htp hr2.undrew
                  have HF := Lib.hid hfin
                  clear hfin hr2
                  go_wp2_with fail
                  go_meet
                  exact ⟨_, rfl, (hcxh.out j hjq).2, HF.out⟩
              case rest =>
                obtain ⟨s12, rfl, hz12, hv⟩ := hcut
                clear c3
                go_upto_region 17 with (fail)
                go_cut [77] (fun b wx => ∃ bb : Bool, b = .bool bb ∧ DVar sb tk (4 + q + 4 * p + 2) wk db nm long id (.slice nv q cv2) u q p wx)
                case first =>
                  have c2 := hv.cells.2.2.1
                  obtain ⟨tc, htc0, htc, hsc⟩ := hv.ran.strm
                  have HV2 := Lib.hid hv
                  clear hv
                  cases hid : (id != 0) with
                  | false =>
                    go_wp2_with fail
                    go_meet
                    exact ⟨false, rfl, HV2.out.mono (by omega)⟩
                  | true =>
                    go_wp2_with fail
                    refine (flip_any sb tc 4 _ hsc (by omega) (by decide) (by decide)).mono ?_
                    rintro e w3 ⟨⟨fl, rfl⟩, hr3⟩
                    have hfin := HV2.out.later htc0 htc hr3
                    have HF := Lib.hid hfin
                    clear hfin hr3
                    go_wp2_with fail
                    go_meet
                    exact ⟨fl, rfl, HF.out⟩
                case rest =>
                  obtain ⟨bb, rfl, hv⟩ := hcut
                  have HV2 := Lib.hid hv
                  clear hv
                  go_upto_if 77 with (fail)
                  go_cut [12] (fun s wx => ∃ z : ByteArray, s = .string z ∧ z.size ≤ 1048576 ∧ DVar sb tk (4 + q + 4 * p + 2) wk db nm long id (.slice nv q cv2) u q p wx)
                  case first =>
                    cases bb
                    · go_wp2_with fail
                      go_meet
                      exact ⟨s12, rfl, hz12, HV2.out⟩
                    · go_wp2_with fail
                      go_meet
                      exact ⟨idcodeS, rfl, by decide, HV2.out⟩
                  case rest =>
                    obtain ⟨sx, rfl, hzx, hv⟩ := hcut
                    have hTz : Tz wc := hv.ran.cell hTk hTs
                    have HV3 := Lib.hid hv
                    clear hv HV2 HV
                    go_wp2_with fail
                    refine (formatInt_any p (by omega) _ hTz).mono ?_
                    rintro e w5 ⟨⟨sc, hsc1, hsc2, rfl⟩, hB5⟩
                    have hv5 := HV3.out.below hB5
                    clear HV3 hB5 hTz
                    obtain ⟨c0, c1, c2, c3, c4, cf⟩ := hv5.cells
                    have f4 := cf 4
                    have hdl := World.block_lt_of_cell? w5 _ c4
                    have HV5 := Lib.hid hv5
                    clear hv5 c0 c2 c3 cf
                    obtain ⟨hlong1, hlong2⟩ := hlong
                    have hsL : (sc.size : Int) ≤ long := by omega
                    obtain ⟨c, hc⟩ : ∃ c : Nat, long - (sc.size : Int) = (c : Int) := ⟨(long - sc.size).toNat, by omega⟩
                    have hc3 : c ≤ 3 := by omega
                    have hwr : IntKind.i64.wrap (long - (sc.size : Int)) = (c : Int) := by rw [hc]; exact IntWalk.i64_in _ (by omega)
                    have hmin : min long (sc.size : Int) = (sc.size : Int) := by omega
                    have hnl : ¬ long < (sc.size : Int) := by omega
                    obtain ⟨zs, hzs⟩ : ∃ zs : ByteArray, zs = ⟨(Lib.repeatL (⟨#[48]⟩ : ByteArray).data.toList c).toArray⟩ := ⟨_, rfl⟩
                    have hrep := fun W => Tryz.strings_Repeat ⟨#[48]⟩ c W (by omega) (by show 1 * c ≤ _; omega)
                    rw [← hzs] at hrep
                    have hzz : zs.size = c := by rw [hzs]; show (Lib.repeatL [48] c).toArray.size = c; rw [List.size_toArray, Lib.repeatL_length]; simp
                    have hcat : ¬ 9223372036854775807 < zs.size + sc.size := by omega
                    have htx : (zs ++ sc).size ≤ 1048576 := by rw [ByteArray.size_append]; omega
                    have HX := Lib.hid htx
                    clear hc hzs hzz htx
                    go_wp2_with fail
                    have c1d : w5.drew.cell? ⟨db, 1, none⟩ = some (.int .i64 long) := c1
                    refine wp_region_inv (by kernel_rfl) (fun l a w' => ∃ sv : Nat → Value, a = ⟨((.pointer (some ⟨sb, 0, none⟩)) :: (.int .i64 mz) :: undef :: undef :: (.slice none 0 0) :: ov :: undef :: (.string nm) :: (.pointer (some ⟨db, 0, none⟩)) :: undef :: u10 :: (.int .i64 (p : Int)) :: (.string sx) :: (.string sc) :: (.slice (some ⟨lb, 0, none⟩) 3 3) :: (.pointer (some ⟨sb, 0, none⟩)) :: (.int .i64 mz) :: (.int .i64 (m : Int)) :: (.slice (some ⟨lb, 0, none⟩) m 3) :: (.int .i64 (m : Int)) :: (.int .i64 (k : Int)) :: (.bool true) :: (.pointer (some ⟨lb, k, none⟩)) :: (.string nm) :: (.string nm) :: (.pointer (some ⟨sb, 0, none⟩)) :: (.slice (some ⟨wk.heap.size, 0, none⟩) 3 3) :: (.int .i64 long) :: (.pointer (some ⟨sb, 0, none⟩)) :: (.slice (some ⟨w2.heap.size, 0, none⟩) 5 5) :: (.int .i64 id) :: (.agg #[.string nm, .int .i64 long, .int .i64 id, .slice none 0 0, .slice none 0 0]) :: (.slice (some ⟨l1, 0, none⟩) 2 2) :: (.pointer (some ⟨sb, 0, none⟩)) :: (.int .i64 (m2 : Int)) :: (.slice (some ⟨l1, 0, none⟩) m2 2) :: (.int .i64 (m2 : Int)) :: (.int .i64 (q : Int)) :: (.bool false) :: u39 :: u40 :: u41 :: u42 :: u43 :: u44 :: u45 :: u46 :: u47 :: u48 :: u49 :: u50 :: u51 :: (.pointer (some ⟨sb, 0, none⟩)) :: (.int .i64 (m3 : Int)) :: (.int .i64 (p : Int)) :: u55 :: u56 :: u57 :: u58 :: u59 :: u60 :: u61 :: u62 :: u63 :: u64 :: u65 :: u66 :: u67 :: u68 :: u69 :: u70 :: u71 :: u72 :: u73 :: u74 :: u75 :: u76 :: u77 :: (.int .i64 (p : Int)) :: (.string sc) :: (sv 0) :: (sv 1) :: (sv 2) :: (sv 3) :: (sv 4) :: (sv 5) :: (sv 6) :: (sv 7) :: (sv 8) :: (sv 9) :: (sv 10) :: (sv 11) :: (sv 12) :: (sv 13) :: (sv 14) :: (sv 15) :: (sv 16) :: (sv 17) :: u98 :: u99 :: u100 :: u101 :: u102 :: u103 :: undef :: undef :: undef :: undef :: undef :: undef :: undef :: undef :: undef :: undef :: undef :: undef :: undef :: []).toArray, []⟩ ∧ S20 sb tk (4 + q + 4 * p + 2) wk db nm long id (.slice nv q cv2) u q p sc zs sx c l sv w') ?start ?fin ?step
                    case start =>
                      have hrep0 : ∀ k, (Array.replicate 19 false)[k]?.getD false = false := fun k => by rw [Array.getElem?_replicate]; split <;> rfl
                      exact ⟨fun k => [u80, u81, u82, u83, u84, u85, u86, u87, u88, u89, u90, u91, u92, u93, u94, u95, u96, u97].getD k undef, rfl, ⟨by simp, fun k _ e => absurd (e.symm.trans (hrep0 k)) (by decide), fun i _ _ e => absurd (e.symm.trans (hrep0 i)) (by decide), fun _ => HV5.out.drew, fun e _ => absurd (e.symm.trans (hrep0 _)) (by decide), fun e _ => absurd (e.symm.trans (hrep0 _)) (by decide), fun e => absurd (e.symm.trans (hrep0 _)) (by decide)⟩⟩
                    case fin =>
                      intro l a w1 hI hr
                      obtain ⟨sv, rfl, hF⟩ := hI
                      have hn := ready_nil hr
                      clear hr
                      have hsz := hF.n
                      have h0 := hn 0 (by decide) (by simp [Region.binds])
                      have h1 := hn 1 (by decide) (by simp [Region.binds, flag_on (by omega) h0])
                      have h2 := hn 2 (by decide) (by simp [Region.binds])
                      have h3 := hn 3 (by decide) (by simp [Region.binds, flag_on (by omega) h2])
                      have h4 := hn 4 (by decide) (by simp [Region.binds])
                      have h5 := hn 5 (by decide) (by simp [Region.binds, flag_on (by omega) h4])
                      have h6 := hn 6 (by decide) (by simp [Region.binds])
                      have h7 := hn 7 (by decide) (by simp [Region.binds, flag_on (by omega) h6])
                      have h8 := hn 8 (by decide) (by simp [Region.binds, flag_on (by omega) h5, flag_on (by omega) h7])
                      have h9 := hn 9 (by decide) (by simp [Region.binds, flag_on (by omega) h3, flag_on (by omega) h8])
                      have h10 := hn 10 (by decide) (by simp [Region.binds, flag_on (by omega) h9])
                      have h11 := hn 11 (by decide) (by simp [Region.binds])
                      have h12 := hn 12 (by decide) (by simp [Region.binds, flag_on (by omega) h10, flag_on (by omega) h11])
                      have h13 := hn 13 (by decide) (by simp [Region.binds])
                      have h14 := hn 14 (by decide) (by simp [Region.binds, flag_on (by omega) h12, flag_on (by omega) h13])
                      have h15 := hn 15 (by decide) (by simp [Region.binds, flag_on (by omega) h14])
                      have h16 := hn 16 (by decide) (by simp [Region.binds, flag_on (by omega) h1, flag_on (by omega) h10, flag_on (by omega) h15])
                      have h17 := hn 17 (by decide) (by simp [Region.binds, flag_on (by omega) h0, flag_on (by omega) h1, flag_on (by omega) h2, flag_on (by omega) h3, flag_on (by omega) h4, flag_on (by omega) h5, flag_on (by omega) h6, flag_on (by omega) h7, flag_on (by omega) h8, flag_on (by omega) h9, flag_on (by omega) h10, flag_on (by omega) h11, flag_on (by omega) h12, flag_on (by omega) h13, flag_on (by omega) h14, flag_on (by omega) h15, flag_on (by omega) h16])
                      have h18 := hn 18 (by decide) (by simp [Region.binds, flag_on (by omega) h0, flag_on (by omega) h1, flag_on (by omega) h2, flag_on (by omega) h3, flag_on (by omega) h4, flag_on (by omega) h5, flag_on (by omega) h6, flag_on (by omega) h7, flag_on (by omega) h8, flag_on (by omega) h9, flag_on (by omega) h10, flag_on (by omega) h11, flag_on (by omega) h12, flag_on (by omega) h13, flag_on (by omega) h14, flag_on (by omega) h15, flag_on (by omega) h16, flag_on (by omega) h17])
                      obtain ⟨x, hfin⟩ := hF.done (fun i hi => by
                        have : i = 0 ∨ i = 1 ∨ i = 2 ∨ i = 3 ∨ i = 4 ∨ i = 5 ∨ i = 6 ∨ i = 7 ∨ i = 8 ∨ i = 9 ∨ i = 10 ∨ i = 11 ∨ i = 12 ∨ i = 13 ∨ i = 14 ∨ i = 15 ∨ i = 16 ∨ i = 17 ∨ i = 18 := by omega
                        rcases this with rfl | rfl | rfl | rfl | rfl | rfl | rfl | rfl | rfl | rfl | rfl | rfl | rfl | rfl | rfl | rfl | rfl | rfl | rfl <;> assumption)
                      have HF := Lib.hid hfin
                      clear hfin hF hn hsz h0 h1 h2 h3 h4 h5 h6 h7 h8 h9 h10 h11 h12 h13 h14 h15 h16 h17 h18
                      go_wp2_with fail
                      go_roundw
                      case rel => exact ⟨p + 1, by omega, by go_num, _, HF.out.mono (by omega)⟩
                      case measure => simp [intOf]; omega
                    case step =>
                      intro l a w1 hI i hi
                      obtain ⟨sv, rfl, hF⟩ := hI
                      have hi2 := List.mem_filter.1 hi
                      have hlt19 : i < 19 := by simpa using List.mem_range.1 hi2.1
                      have hdeps := hi2.2
                      clear hi hi2 c1 c4 f4 hdl
                      have : i = 0 ∨ i = 1 ∨ i = 2 ∨ i = 3 ∨ i = 4 ∨ i = 5 ∨ i = 6 ∨ i = 7 ∨ i = 8 ∨ i = 9 ∨ i = 10 ∨ i = 11 ∨ i = 12 ∨ i = 13 ∨ i = 14 ∨ i = 15 ∨ i = 16 ∨ i = 17 ∨ i = 18 := by omega
                      rcases this with rfl | rfl | rfl | rfl | rfl | rfl | rfl | rfl | rfl | rfl | rfl | rfl | rfl | rfl | rfl | rfl | rfl | rfl | rfl
                      · simp [Region.binds] at hdeps
                        have hoff : ¬ l[0]?.getD false = true := flag_off (by simp [hdeps])
                        have hd : ∀ j, (0, j) ∈ d20 → l[j]?.getD false = true := fun j hj => absurd hj (by simp [d20])
                        have HF := Lib.hid hF
                        have HD := Lib.hid hd
                        clear hF hd hdeps
                        refine wpOp_mk rfl (fun K hK => ?_)
                        go_simp
                        refine hK _ _ ⟨_, ?_, HF.out.pure 0 (by decide) (.pointer (some ⟨db, 4, none⟩)) rfl HD.out⟩
                        simp
                      · simp [Region.binds] at hdeps
                        have e0 : sv 0 = (.pointer (some ⟨db, 4, none⟩)) := hF.vals 0 (by decide) (by simp [hdeps])
                        have hoff : ¬ l[1]?.getD false = true := flag_off (by simp [hdeps])
                        have hd : ∀ j, (1, j) ∈ d20 → l[j]?.getD false = true := fun j hj => absurd hj (by simp [d20])
                        have hD := hF.a0 (hF.no16 (.inl hoff))
                        have hcell := hD.cells.2.2.2.2.1
                        clear hD
                        have HF := Lib.hid hF
                        have HD := Lib.hid hd
                        clear hF hd hdeps
                        refine wpOp_mk rfl (fun K hK => ?_)
                        go_simp
                        refine hK _ _ ⟨_, ?_, HF.out.pure 1 (by decide) u rfl HD.out⟩
                        simp [e0]
                      · simp [Region.binds] at hdeps
                        have hoff : ¬ l[2]?.getD false = true := flag_off (by simp [hdeps])
                        have hd : ∀ j, (2, j) ∈ d20 → l[j]?.getD false = true := fun j hj => absurd hj (by simp [d20])
                        have HF := Lib.hid hF
                        have HD := Lib.hid hd
                        clear hF hd hdeps
                        refine wpOp_mk rfl (fun K hK => ?_)
                        go_simp
                        refine hK _ _ ⟨_, ?_, HF.out.pure 2 (by decide) (.pointer (some ⟨db, 1, none⟩)) rfl HD.out⟩
                        simp
                      · simp [Region.binds] at hdeps
                        have e2 : sv 2 = (.pointer (some ⟨db, 1, none⟩)) := hF.vals 2 (by decide) (by simp [hdeps])
                        have hoff : ¬ l[3]?.getD false = true := flag_off (by simp [hdeps])
                        have hd : ∀ j, (3, j) ∈ d20 → l[j]?.getD false = true := fun j hj => by
                          have hj2 : j = 2 := by simpa [d20] using hj
                          rcases hj2 with rfl <;> simp [hdeps]
                        have hD := hF.a0 (hF.no16 (.inr (.inl hoff)))
                        have hcell := hD.cells.2.1
                        clear hD
                        have HF := Lib.hid hF
                        have HD := Lib.hid hd
                        clear hF hd hdeps
                        refine wpOp_mk rfl (fun K hK => ?_)
                        go_simp
                        refine hK _ _ ⟨_, ?_, HF.out.pure 3 (by decide) (.int .i64 long) rfl HD.out⟩
                        simp [e2]
                      · simp [Region.binds] at hdeps
                        have hoff : ¬ l[4]?.getD false = true := flag_off (by simp [hdeps])
                        have hd : ∀ j, (4, j) ∈ d20 → l[j]?.getD false = true := fun j hj => absurd hj (by simp [d20])
                        have HF := Lib.hid hF
                        have HD := Lib.hid hd
                        clear hF hd hdeps
                        refine wpOp_mk rfl (fun K hK => ?_)
                        go_simp
                        refine hK _ _ ⟨_, ?_, HF.out.pure 4 (by decide) (.pointer (some ⟨db, 1, none⟩)) rfl HD.out⟩
                        simp
                      · simp [Region.binds] at hdeps
                        have e4 : sv 4 = (.pointer (some ⟨db, 1, none⟩)) := hF.vals 4 (by decide) (by simp [hdeps])
                        have hoff : ¬ l[5]?.getD false = true := flag_off (by simp [hdeps])
                        have hd : ∀ j, (5, j) ∈ d20 → l[j]?.getD false = true := fun j hj => absurd hj (by simp [d20])
                        have hD := hF.a0 (hF.no16 (.inr (.inr (.inl hoff))))
                        have hcell := hD.cells.2.1
                        clear hD
                        have HF := Lib.hid hF
                        have HD := Lib.hid hd
                        clear hF hd hdeps
                        refine wpOp_mk rfl (fun K hK => ?_)
                        go_simp
                        refine hK _ _ ⟨_, ?_, HF.out.pure 5 (by decide) (.int .i64 long) rfl HD.out⟩
                        simp [e4]
                      · simp [Region.binds] at hdeps
                        have hoff : ¬ l[6]?.getD false = true := flag_off (by simp [hdeps])
                        have hd : ∀ j, (6, j) ∈ d20 → l[j]?.getD false = true := fun j hj => absurd hj (by simp [d20])
                        have HF := Lib.hid hF
                        have HD := Lib.hid hd
                        clear hF hd hdeps
                        refine wpOp_mk rfl (fun K hK => ?_)
                        go_simp
                        refine hK _ _ ⟨_, ?_, HF.out.pure 6 (by decide) (.string sc) rfl HD.out⟩
                        simp
                      · simp [Region.binds] at hdeps
                        have e6 : sv 6 = (.string sc) := hF.vals 6 (by decide) (by simp [hdeps])
                        have hoff : ¬ l[7]?.getD false = true := flag_off (by simp [hdeps])
                        have hd : ∀ j, (7, j) ∈ d20 → l[j]?.getD false = true := fun j hj => absurd hj (by simp [d20])
                        have HF := Lib.hid hF
                        have HD := Lib.hid hd
                        clear hF hd hdeps
                        refine wpOp_mk rfl (fun K hK => ?_)
                        go_simp
                        refine hK _ _ ⟨_, ?_, HF.out.pure 7 (by decide) (.int .i64 (sc.size : Int)) rfl HD.out⟩
                        simp [e6]
                      · simp [Region.binds] at hdeps
                        have e5 : sv 5 = (.int .i64 long) := hF.vals 5 (by decide) (by simp [hdeps])
                        have e7 : sv 7 = (.int .i64 (sc.size : Int)) := hF.vals 7 (by decide) (by simp [hdeps])
                        have hoff : ¬ l[8]?.getD false = true := flag_off (by simp [hdeps])
                        have hd : ∀ j, (8, j) ∈ d20 → l[j]?.getD false = true := fun j hj => by
                          have hj2 : j = 5 ∨ j = 7 := by simpa [d20] using hj
                          rcases hj2 with rfl | rfl <;> simp [hdeps]
                        have HF := Lib.hid hF
                        have HD := Lib.hid hd
                        clear hF hd hdeps
                        refine wpOp_mk rfl (fun K hK => ?_)
                        go_simp
                        refine hK _ _ ⟨_, ?_, HF.out.pure 8 (by decide) (.int .i64 (sc.size : Int)) rfl HD.out⟩
                        simp [e5, e7]
                      · simp [Region.binds] at hdeps
                        have e3 : sv 3 = (.int .i64 long) := hF.vals 3 (by decide) (by simp [hdeps])
                        have e8 : sv 8 = (.int .i64 (sc.size : Int)) := hF.vals 8 (by decide) (by simp [hdeps])
                        have hoff : ¬ l[9]?.getD false = true := flag_off (by simp [hdeps])
                        have hd : ∀ j, (9, j) ∈ d20 → l[j]?.getD false = true := fun j hj => by
                          have hj2 : j = 3 ∨ j = 8 := by simpa [d20] using hj
                          rcases hj2 with rfl | rfl <;> simp [hdeps]
                        have HF := Lib.hid hF
                        have HD := Lib.hid hd
                        clear hF hd hdeps
                        refine wpOp_mk rfl (fun K hK => ?_)
                        go_simp
                        refine hK _ _ ⟨_, ?_, HF.out.pure 9 (by decide) (.int .i64 (c : Int)) rfl HD.out⟩
                        simp [e3, e8]
                      · simp [Region.binds] at hdeps
                        have e9 : sv 9 = (.int .i64 (c : Int)) := hF.vals 9 (by decide) (by simp [hdeps])
                        have hoff : ¬ l[10]?.getD false = true := flag_off (by simp [hdeps])
                        have hd : ∀ j, (10, j) ∈ d20 → l[j]?.getD false = true := fun j hj => by
                          have hj2 : j = 9 := by simpa [d20] using hj
                          rcases hj2 with rfl <;> simp [hdeps]
                        have HF := Lib.hid hF
                        have HD := Lib.hid hd
                        clear hF hd hdeps
                        refine wpOp_mk rfl (fun K hK => ?_)
                        go_simp
                        refine (hrep _).mono ?_
                        rintro e w6 ⟨rfl, hB6⟩
                        try go_simp
                        refine hK _ _ ⟨_, ?_, HF.out.rep hoff hB6 HD.out⟩
                        simp [e9]
                      · simp [Region.binds] at hdeps
                        have hoff : ¬ l[11]?.getD false = true := flag_off (by simp [hdeps])
                        have hd : ∀ j, (11, j) ∈ d20 → l[j]?.getD false = true := fun j hj => absurd hj (by simp [d20])
                        have HF := Lib.hid hF
                        have HD := Lib.hid hd
                        clear hF hd hdeps
                        refine wpOp_mk rfl (fun K hK => ?_)
                        go_simp
                        refine hK _ _ ⟨_, ?_, HF.out.pure 11 (by decide) (.string sc) rfl HD.out⟩
                        simp
                      · simp [Region.binds] at hdeps
                        have e10 : sv 10 = (.string zs) := hF.vals 10 (by decide) (by simp [hdeps])
                        have e11 : sv 11 = (.string sc) := hF.vals 11 (by decide) (by simp [hdeps])
                        have hoff : ¬ l[12]?.getD false = true := flag_off (by simp [hdeps])
                        have hd : ∀ j, (12, j) ∈ d20 → l[j]?.getD false = true := fun j hj => by
                          have hj2 : j = 10 ∨ j = 11 := by simpa [d20] using hj
                          rcases hj2 with rfl | rfl <;> simp [hdeps]
                        have HF := Lib.hid hF
                        have HD := Lib.hid hd
                        clear hF hd hdeps
                        refine wpOp_mk rfl (fun K hK => ?_)
                        go_simp
                        refine hK _ _ ⟨_, ?_, HF.out.pure 12 (by decide) (.string (zs ++ sc)) rfl HD.out⟩
                        simp [e10, e11]
                      · simp [Region.binds] at hdeps
                        have hoff : ¬ l[13]?.getD false = true := flag_off (by simp [hdeps])
                        have hd : ∀ j, (13, j) ∈ d20 → l[j]?.getD false = true := fun j hj => absurd hj (by simp [d20])
                        have HF := Lib.hid hF
                        have HD := Lib.hid hd
                        clear hF hd hdeps
                        refine wpOp_mk rfl (fun K hK => ?_)
                        go_simp
                        refine hK _ _ ⟨_, ?_, HF.out.pure 13 (by decide) (.string sx) rfl HD.out⟩
                        simp
                      · simp [Region.binds] at hdeps
                        have e12 : sv 12 = (.string (zs ++ sc)) := hF.vals 12 (by decide) (by simp [hdeps])
                        have e13 : sv 13 = (.string sx) := hF.vals 13 (by decide) (by simp [hdeps])
                        have hoff : ¬ l[14]?.getD false = true := flag_off (by simp [hdeps])
                        have hd : ∀ j, (14, j) ∈ d20 → l[j]?.getD false = true := fun j hj => by
                          have hj2 : j = 12 ∨ j = 13 := by simpa [d20] using hj
                          rcases hj2 with rfl | rfl <;> simp [hdeps]
                        have HF := Lib.hid hF
                        have HD := Lib.hid hd
                        clear hF hd hdeps
                        refine wpOp_mk rfl (fun K hK => ?_)
                        go_simp
                        refine hK _ _ ⟨_, ?_, HF.out.pure 14 (by decide) (.agg #[.string (zs ++ sc), .string sx]) rfl HD.out⟩
                        simp [e12, e13]
                      · simp [Region.binds] at hdeps
                        have e14 : sv 14 = (.agg #[.string (zs ++ sc), .string sx]) := hF.vals 14 (by decide) (by simp [hdeps])
                        have hoff : ¬ l[15]?.getD false = true := flag_off (by simp [hdeps])
                        have hd : ∀ j, (15, j) ∈ d20 → l[j]?.getD false = true := fun j hj => by
                          have hj2 : j = 14 := by simpa [d20] using hj
                          rcases hj2 with rfl <;> simp [hdeps]
                        have HF := Lib.hid hF
                        have HD := Lib.hid hd
                        clear hF hd hdeps
                        refine wpOp_mk rfl (fun K hK => ?_)
                        go_simp
                        refine hK _ _ ⟨_, ?_, HF.out.lay hoff HD.out⟩
                        simp [e14]
                      · simp [Region.binds] at hdeps
                        have e1 : sv 1 = u := hF.vals 1 (by decide) (by simp [hdeps])
                        have hoff : ¬ l[16]?.getD false = true := flag_off (by simp [hdeps])
                        have hd : ∀ j, (16, j) ∈ d20 → l[j]?.getD false = true := fun j hj => by
                          have hj2 : j = 1 ∨ j = 15 := by simpa [d20] using hj
                          rcases hj2 with rfl | rfl <;> simp [hdeps]
                        obtain ⟨nb, e15, hblk⟩ := hF.a15 (by simp [hdeps]) (fl_off hoff)
                        have hD := hF.a0 (fl_off hoff)
                        obtain ⟨ys, hown, hys⟩ := hD.ins
                        have hszw := hD.ran.1.size
                        have hnews : ∀ (j : Nat) (x : Value), ([.string (zs ++ sc), .string sx] : List Value)[j]? = some x → w1.cell? ((⟨nb, 0, none⟩ : Addr).add j) = some x := fun j x h => by
                          rw [add_cell, Nat.zero_add]
                          exact cell_of hblk (by simpa using h)
                        clear hD
                        have HF := Lib.hid hF
                        have HD := Lib.hid hd
                        clear hF hd hdeps
                        refine wpOp_mk rfl (fun K hK => ?_)
                        refine step_append_lies (P := Tryz.prog) _ rfl (.tmp 81) (.tmp 95) 46 rfl wk.heap.size 55 iI (.agg #[.string ⟨#[]⟩, .string ⟨#[]⟩]) 2 32 Tryz.underlying46 hiI hzI0 hzI1 hzI2 rfl (by decide) u p ys (by simp [Act.eval, e1]) hown ⟨nb, 0, none⟩ 1 1 [.string (zs ++ sc), .string sx] (by simp [Act.eval, e15]) rfl hnews (by intro x hx; simp at hx; rcases hx with rfl | rfl <;> rfl) (by decide) (by unfold maxLen; omega) (by omega) hszw _ rfl ?_
                        intro g4 cap4 w4 hown4 hg4 hat4 hlt4
                        refine hK _ _ ⟨_, ?_, HF.out.app hoff HD.out hown hys hown4 hg4⟩
                        simp [Act.put]
                      · simp [Region.binds] at hdeps
                        have hoff : ¬ l[17]?.getD false = true := flag_off (by simp [hdeps])
                        have hd : ∀ j, (17, j) ∈ d20 → l[j]?.getD false = true := fun j hj => absurd hj (by simp [d20])
                        have HF := Lib.hid hF
                        have HD := Lib.hid hd
                        clear hF hd hdeps
                        refine wpOp_mk rfl (fun K hK => ?_)
                        go_simp
                        refine hK _ _ ⟨_, ?_, HF.out.pure 17 (by decide) (.pointer (some ⟨db, 4, none⟩)) rfl HD.out⟩
                        simp
                      · simp [Region.binds] at hdeps
                        have e17 : sv 17 = (.pointer (some ⟨db, 4, none⟩)) := hF.vals 17 (by decide) (by simp [hdeps])
                        have hoff : ¬ l[18]?.getD false = true := flag_off (by simp [hdeps])
                        have hd : ∀ j, (18, j) ∈ d20 → l[j]?.getD false = true := fun j hj => by
                          have hj2 : j = 17 ∨ j = 16 := by simpa [d20] using hj
                          rcases hj2 with rfl | rfl <;> simp [hdeps]
                        have h16 : l[16]?.getD false = true := by simp [hdeps]
                        obtain ⟨hcell, hfr⟩ := hF.cell4 hoff h16
                        obtain ⟨g4, cap4, _, _, e16, _⟩ := hF.a1 h16 (fl_off hoff)
                        have hsto := hF.sto hoff hd HX.out hzx undef
                        rw [e16] at hsto
                        have HS := Lib.hid hsto
                        clear hsto h16
                        have HF := Lib.hid hF
                        have HD := Lib.hid hd
                        clear hF hd hdeps
                        refine wpOp_mk rfl (fun K hK => ?_)
                        go_simp
                        refine hK _ _ ⟨_, ?_, HS.out⟩
                        simp [e17, e16]
            · have hp3 : p ≤ 3 := by omega
              have hq2' : q ≤ 2 := hq3
              obtain ⟨hI, hl⟩ := HI.out
              obtain ⟨ds, hd1, hd2, hd3⟩ := hI.row
              obtain ⟨ra, rc, rfl⟩ := row_shape hv.regs.choose_spec.1
              obtain ⟨ia, ic, rfl⟩ := row_shape hv.ins.choose_spec.1
              obtain ⟨qd, hqc, hqp⟩ := hv.made ⟨by omega, by omega⟩ (by omega) (by omega) (o := ov) (lo := w.heap.size) hI.ran.1.size (fun g hg => (hd2.lt g hg).2)
              have hrow' : wr.ownsRow w.heap.size 48 5 ov k (ds.flatMap dCells) := row_any hd2 (fun g hg => hv.ran.1.block g (hd2.lt g hg).2 (fun e => by have := Option.some.inj e; have := (hd2.lt g hg).1; omega))
              obtain ⟨c0, c1, c2, c3, c4, _⟩ := hv.cells
              obtain ⟨iD, hiD, hzD0, hzD1, hzD2⟩ := info_any Tryz.infoDev
              have hsz := hv.ran.1.size
              have hszI := hI.ran.1.size
              have HV := Lib.hid (⟨hv, hI, hl, hd1, hd2, hd3, hqc, hqp⟩ : _ ∧ _ ∧ _ ∧ _ ∧ _ ∧ _ ∧ _ ∧ _)
              clear hv hI hl hd1 hd2 hd3 hqc hqp
              go_wp2_with (at_builtin; refine wpList_append_lies _ rfl _ _ 26 rfl w.heap.size 48 iD (.agg #[.string ⟨#[]⟩, .int .i64 0, .int .i64 0, .slice none 0 0, .slice none 0 0]) 5 80 Tryz.underlying26 hiD hzD0 hzD1 hzD2 rfl (by decide) _ _ _ rfl (hrow'.alloc _) ⟨wr.heap.size, 0, none⟩ 1 1 [.string nm, .int .i64 long, .int .i64 id, .slice ra q rc, .slice ia p ic] rfl rfl ?d1 ?d2 ?d3 ?d4 ?d5 ?d6 _ rfl ?_)
              case d1 => exact news_l _ _ _
              case d2 => intro u hu; simp at hu; rcases hu with rfl | rfl | rfl | rfl | rfl <;> rfl
              case d3 => decide
              case d4 => unfold maxLen; omega
              case d5 => omega
              case d6 => simp; omega
              intro g4 cap4 w4 hown4 hg4 hat4 hlt4
              obtain ⟨hv, hI, hl, hd1, hd2, hd3, hqc, hqp⟩ := HV.out
              have hg5 := (World.grownBy_alloc wr _ _).trans hg4
              have hkeep : ∀ b, b < wk.heap.size → w.heap.size ≤ b → wr.heap[b]? = wk.heap[b]? := fun b hb hlo => hv.ran.1.block b hb (fun e => by have := Option.some.inj e; omega)
              rw [← hqc] at hown4
              have hpush := hI.push (T' := 1 + 60 * (k + 1)) ((hI.ran.then (Nat.zero_le _) htk hv.ran).mono (by omega)) hsz hkeep hqp ds hd1 hd2 hd3 hown4 hg5 (hat4.imp (fun h => h) (fun e => by rw [e]; simp))
              have hlw4 : w4.heap[lb]? = some (.cells (u3L.map Value.string).toArray 9) := by
                have h1 := (hkeep lb (blk_lt hl) (by have := HLB.out; omega)).trans hl
                exact (hg5.block lb (blk_lt h1) (Ne.symm (row_ne hrow' h1 (by decide)))).trans h1
              have HF := Lib.hid (⟨hpush, hlw4⟩ : _ ∧ _)
              clear hpush hlw4 hkeep hg5 hg4 hown4 hat4 hv hI hl hd1 hd2 hd3 hqc hqp hrow' c0 c1 c2 c3 c4 HV
              go_wp2_with fail
              go_roundw
              case rel => exact ⟨k + 1, by omega, by go_num, HF.out.1, HF.out.2⟩
              case measure => simp [intOf]; omega
    · obtain rfl : k = m := by omega
      obtain ⟨ds, hd1, hd2, hd3⟩ := hI.row
      obtain ⟨g, cap, rfl, hgb, hgl⟩ := hd2.form (by omega)
      obtain ⟨tf, _, htf, hsf⟩ := hI.ran.strm
      have HI := Lib.hid hI
      have hk1 : 1 ≤ k := by omega
      clear hI hl hd1 hd2 hd3
      go_wp2_with fail
      refine (flip_any sb tf 12 _ hsf (by omega) (by decide) (by decide)).mono ?_
      rintro e w2 ⟨⟨fl, rfl⟩, hr2⟩
      have hI2 : DevsI sb (1 + 60 * k + 1) w.heap.size k w (.slice (some ⟨g, 0, none⟩) k cap) w2 := HI.out.kept (HI.out.ran.then (Nat.zero_le _) (by omega) hr2) hr2.1.size (fun b hb hlo => hr2.1.block b hb (fun e => by have := Option.some.inj e; omega))
      have HI2 := Lib.hid hI2
      clear hI2 hr2 hsf HI
      go_upto_if 105 with (fail)
      go_cut [5] (fun o wx => ∃ r : Devs, o = .slice (some ⟨g, 0, none⟩) r.n cap ∧ r.n = k ∧ k ≤ cap ∧ DevsAt wx.heap.size wx (some ⟨g, 0, none⟩) r ∧ FarA sb (some ⟨g, 0, none⟩) ∧ (∀ k, k < r.n → FarA sb (r.plc k).ra ∧ FarA sb (r.plc k).ia) ∧ Ran sb 0 400 w wx)
      case first =>
        cases fl with
        | true =>
          obtain ⟨t2, _, ht2, hs2⟩ := HI2.out.ran.strm
          have hkp : (0 : Int) < (k : Int) := by omega
          go_wp2_with fail
          refine (next_any sb t2 k _ hs2 (by omega) (by omega) (by omega)).mono ?_
          rintro e w3 ⟨⟨zj, hj1, hj2, rfl⟩, hr3⟩
          obtain ⟨j, rfl⟩ : ∃ j : Nat, zj = (j : Int) := ⟨zj.toNat, by omega⟩
          have hI3 : DevsI sb (1 + 60 * k + 2) w.heap.size k w (.slice (some ⟨g, 0, none⟩) k cap) w3 := HI2.out.kept (HI2.out.ran.then (Nat.zero_le _) (by omega) hr3) hr3.1.size (fun b hb hlo => hr3.1.block b hb (fun e => by have := Option.some.inj e; omega))
          obtain ⟨t3, _, ht3, hs3⟩ := hI3.ran.strm
          obtain ⟨a', cap', r, e1, hrn, hcap, hat, hfa, hfp, hhere⟩ := hI3.at (by omega)
          simp only [Value.slice.injEq] at e1
          obtain ⟨rfl, e2, rfl⟩ := e1
          obtain ⟨g', e3, hdh⟩ := hhere j (by omega)
          obtain rfl : g = g' := by simpa using e3
          have hran3 : Ran sb 0 t3 w w3 := ⟨hI3.ran.1, t3, Nat.zero_le _, by omega, hs3⟩
          have HA := Lib.hid (⟨hat, hfa, hfp, hrn, hcap⟩ : _ ∧ _ ∧ _ ∧ _ ∧ _)
          have hsp := spoil_any sb t3 w w3 g (j * 5) (r.dev j) (r.plc j) hlt hran3 hs3 (by omega) hdh
          clear hI3 hat hfa hfp hrn hcap hhere hdh hr3 e2 e3 hran3
          go_wp2_with fail
          refine hsp.mono ?_
          rintro e w4 ⟨rfl, hr4, hsoft⟩
          clear hsp
          go_wp2_with fail
          go_meet
          obtain ⟨hat, hfa, hfp, hrn, hcap⟩ := HA.out
          obtain ⟨r', hr'n, hr'p, hr'⟩ := hat.soft2 hfa hfp hsoft
          exact ⟨r', by rw [hr'n, hrn], by rw [hr'n, hrn], by omega, hr'.up hsoft.1, hfa, by rw [hr'n, hr'p]; exact hfp, hr4.mono (by omega)⟩
        | false =>
          go_wp2_with fail
          go_meet
          obtain ⟨a', cap', r, e1, hrn, hcap, hat, hfa, hfp, hhere⟩ := HI2.out.at (by omega)
          simp only [Value.slice.injEq] at e1
          obtain ⟨rfl, e2, rfl⟩ := e1
          exact ⟨r, by rw [hrn], hrn, by omega, hat, hfa, hfp, HI2.out.ran.mono (by omega)⟩
      case rest =>
        obtain ⟨r, rfl, hrn, hcap, hat, hfa, hfp, hran⟩ := hcut
        obtain ⟨t2, _, ht2, hs2⟩ := hran.strm
        have HA := Lib.hid (⟨hat, hran, hfa, hfp⟩ : _ ∧ _ ∧ _ ∧ _)
        clear hat hran hfa hfp HI2
        go_wp2_with fail
        refine (flip_any sb t2 60 _ hs2 (by omega) (by decide) (by decide)).mono ?_
        rintro e w3 ⟨⟨fl2, rfl⟩, hr3⟩
        obtain ⟨hat, hran, hfa, hfp⟩ := HA.out
        have hran3 : Ran sb 0 1000 w w3 := (hran.then (Nat.zero_le _) (by omega) hr3).mono (by omega)
        obtain ⟨r2, hr2n, hr2p, hat2⟩ := hat.soft2 hfa hfp (Soft.ran hr3)
        have hat3 : DevsAt w3.heap.size w3 (some ⟨g, 0, none⟩) r2 := hat2.up hr3.1.size
        have hfp2 : ∀ k, k < r2.n → FarA sb (r2.plc k).ra ∧ FarA sb (r2.plc k).ia := by rw [hr2n, hr2p]; exact hfp
        have HF := Lib.hid (⟨hran3, hat3, hfa, hfp2⟩ : _ ∧ _ ∧ _ ∧ _)
        clear hran3 hat3 hat2 hat hran hr3 HA hs2 hfa hfp hfp2 hr2p
        cases fl2 with
        | true =>
          go_wp2_with fail
          go_ret
          exact ⟨none, 0, ⟨0, r.dev, r.plc⟩, rfl, Nat.le_refl _, ⟨Nat.zero_le _, fun h5 => absurd h5 (Nat.lt_irrefl 0)⟩, (by intro x hx; cases hx), (fun k hk => absurd hk (Nat.not_lt_zero k)), HF.out.1⟩
        | false =>
          go_wp2_with fail
          go_ret
          exact ⟨some ⟨g, 0, none⟩, cap, r2, by rw [hr2n, hrn]; rfl, by omega, HF.out.2.1, HF.out.2.2.1, HF.out.2.2.2, HF.out.1⟩
end Go.Proofs.YtkipkkaloiefpaaGreatDoor
