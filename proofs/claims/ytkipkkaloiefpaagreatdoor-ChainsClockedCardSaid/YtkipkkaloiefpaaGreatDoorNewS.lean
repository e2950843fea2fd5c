/- The reference's NewPort: the walk. -/
import Derived.Test.YtkipkkaloiefpaaGreatDoorM9
import Derived.Deep.AppendLies
import Derived.Deep.RegionHeld3
namespace Go.Proofs.YtkipkkaloiefpaaGreatDoor
open Go.RowKit Go.Maps

theorem Tryz.infoS : (Tryz.prog.info? 9).map (fun i => (i.zero, i.size, i.bytes)) = some (some (.string ⟨#[]⟩), 1, 16) := by kernel_rfl
theorem info_s : ∃ i, Tryz.prog.info? 9 = some i ∧ i.zero = some (.string ⟨#[]⟩) ∧ i.size = 1 ∧ i.bytes = 16 := by
  have h := Tryz.infoS
  cases hi : Tryz.prog.info? 9 with
  | none => rw [hi] at h; simp at h
  | some i =>
    rw [hi] at h
    simp at h
    exact ⟨i, rfl, h.1, h.2.1, h.2.2⟩

/-- The port behind its first region. -/
theorem PortI.start (w : World) (da : Option Addr) (dcap : Nat) (r : Devs) :
    PortI w.heap.size w w.heap.size (w.heap.size + 1) (w.heap.size + 2) (w.heap.size + 3) da dcap r (.slice none 0 0) 0 0 0 0 ((((w.alloc (.cells (madeCells #[.string ⟨#[]⟩] r.n) 9)).alloc (.map #[] 0)).alloc (.map #[] 0)).alloc (.cells #[.slice da r.n dcap, .int .i64 0, .slice (some ⟨w.heap.size, 0, none⟩) r.n r.n, .slice none 0 0, .map (some (w.heap.size + 1)), .map (some (w.heap.size + 2))] 74)) := by
  have s1 : ∀ o : Obj, (w.alloc o).heap.size = w.heap.size + 1 := fun o => by simp
  have s2 : ∀ o o2 : Obj, ((w.alloc o).alloc o2).heap.size = w.heap.size + 2 := fun o o2 => by simp
  have s3 : ∀ o o2 o3 : Obj, (((w.alloc o).alloc o2).alloc o3).heap.size = w.heap.size + 3 := fun o o2 o3 => by simp
  have hcell : ∀ (W : World) (cs : Array Value) (t : TypeId) (j : Nat) (u : Value), W.heap.size = w.heap.size + 3 → cs[j]? = some u → (W.alloc (.cells cs t)).cell? ⟨w.heap.size + 3, j, none⟩ = some u := fun W cs t j u hs hu => by
    rw [← hs]
    exact cell_fresh _ _ _ hu
  have hfro : ∀ (W : World) (cs : Array Value) (t : TypeId) (j : Nat), W.heap.size = w.heap.size + 3 → (W.alloc (.cells cs t)).frozen? ⟨w.heap.size + 3, j, none⟩ = false := fun W cs t j hs => by
    rw [← hs]
    exact frozen_fresh _ _ _ _
  have hm1 := LMap.made Tryz.prog 75 (plainElem Tryz.prog 9) (w.alloc (.cells (madeCells #[.string ⟨#[]⟩] r.n) 9))
  have hm2 := LMap.made Tryz.prog 75 (plainElem Tryz.prog 9) ((w.alloc (.cells (madeCells #[.string ⟨#[]⟩] r.n) 9)).alloc (.map #[] 0))
  rw [s1] at hm1
  rw [s2] at hm2
  refine {
    c0 := hcell _ _ _ 0 _ (s3 _ _ _) rfl
    c1 := hcell _ _ _ 1 _ (s3 _ _ _) rfl
    fr := fun j _ => hfro _ _ _ j (s3 _ _ _)
    c2 := hcell _ _ _ 2 _ (s3 _ _ _) rfl
    c3 := hcell _ _ _ 3 _ (s3 _ _ _) rfl
    c4 := hcell _ _ _ 4 _ (s3 _ _ _) rfl
    c5 := hcell _ _ _ 5 _ (s3 _ _ _) rfl
    codes := fun j hj => ?_
    row := World.ownsRow_nil _ _ _ _
    inM := ⟨_, (hm1.alloc _).alloc _, NewPairs.start r⟩
    outM := ⟨_, hm2.alloc _, NewPairs.start r⟩
    below := ((((Below.refl _ w).alloc (Nat.le_refl _) _).alloc (by rw [s1]; omega) _).alloc (by rw [s2]; omega) _).alloc (by rw [s3]; omega) _
    size := by simp
    at4 := ⟨rfl, rfl, rfl, rfl⟩ }
  have hblk : ((((w.alloc (.cells (madeCells #[.string ⟨#[]⟩] r.n) 9)).alloc (.map #[] 0)).alloc (.map #[] 0)).alloc (.cells #[.slice da r.n dcap, .int .i64 0, .slice (some ⟨w.heap.size, 0, none⟩) r.n r.n, .slice none 0 0, .map (some (w.heap.size + 1)), .map (some (w.heap.size + 2))] 74)).heap[w.heap.size]? = (w.alloc (.cells (madeCells #[.string ⟨#[]⟩] r.n) 9)).heap[w.heap.size]? := by
    rw [Below.heap_alloc _ _ _ (by rw [s3]; omega), Below.heap_alloc _ _ _ (by rw [s2]; omega), Below.heap_alloc _ _ _ (by rw [s1]; omega)]
  refine ⟨(World.cell?_of_block (a := ⟨w.heap.size, j, none⟩) hblk).trans ?_, (World.frozen?_of_block (a := ⟨w.heap.size, j, none⟩) hblk).trans (frozen_fresh _ _ _ _)⟩
  refine cell_fresh _ _ _ ?_
  rw [← Array.getElem?_toList, toList_madeCells_one]
  simp [hj]

/-- The next device. -/
theorem PortI.next {B : Nat} {w0 : World} {gc mi mo rb : Nat} {da : Option Addr} {dcap : Nat} {r : Devs} {v : Value} {q k N N' : Nat} {w : World} (h : PortI B w0 gc mi mo rb da dcap r v q k (r.dev k).regs.n N w) (hN : N ≤ N') : PortI B w0 gc mi mo rb da dcap r v q (k + 1) 0 N' w := by
  obtain ⟨M, hM, hM2⟩ := h.inM
  obtain ⟨M', hM', hM2'⟩ := h.outM
  exact { h with inM := ⟨M, hM.up hN, hM2.next⟩, outM := ⟨M', hM'.up hN, hM2'.next⟩ }

set_option maxHeartbeats 8000000 in
set_option maxRecDepth 100000 in
theorem newPort_ref (r : Devs) (w : World) (da : Option Addr) (dcap : Nat) (h : DevsAt w.heap.size w da r) (he : devsErr r = 0) : PortMade w da dcap r := by
  unfold PortMade
  obtain ⟨⟨hn1, hn20⟩, hsure⟩ := devs_sure h he
  obtain ⟨i0, hi, hz0, hz1, hz2⟩ := info_s
  have hmk : (Instr.makeSlice 43 (.int .i64 (r.n : Int)) (.int .i64 (r.n : Int))).run Tryz.prog w = .ok (.slice (some ⟨w.heap.size, 0, none⟩) r.n r.n) (w.alloc (.cells (madeCells #[.string ⟨#[]⟩] r.n) 9)) := by
    have := run_makeSlice (P := Tryz.prog) w 43 9 i0 (.string ⟨#[]⟩) Tryz.underlying43 hi hz0 .i64 .i64 r.n r.n (by omega) (by omega) (by rw [hz1]; simp; omega) (by rw [hz2]; omega) (by omega)
    rw [hz1, show (Value.string ⟨#[]⟩).cells = #[.string ⟨#[]⟩] from rfl] at this
    simpa using this
  have hmm := @run_makeMap Tryz.prog
  have hst : PortI w.heap.size w w.heap.size (w.heap.size + 1) (w.heap.size + 1 + 1) (w.heap.size + 1 + 1 + 1) da dcap r (.slice none 0 0) 0 0 0 0 ((((w.alloc (.cells (madeCells #[.string ⟨#[]⟩] r.n) 9)).alloc (.map #[] 0)).alloc (.map #[] 0)).alloc (.cells #[.slice da r.n dcap, .int .i64 0, .slice (some ⟨w.heap.size, 0, none⟩) r.n r.n, .slice none 0 0, .map (some (w.heap.size + 1)), .map (some (w.heap.size + 1 + 1))] 74)) := PortI.start w da dcap r
  have hzs : ∀ u : World, (zeroValue 9).run Tryz.prog u = .ok (.string ⟨#[]⟩) u := Tryz.zeroStr
  go_enter Tryz.func8, Tryz.ntmps8
  go_wp2_with fail
  obtain ⟨W0, hW0⟩ : ∃ W0 : World, W0 = ((((w.alloc (.cells (madeCells #[.string ⟨#[]⟩] r.n) 9)).alloc (.map #[] 0)).alloc (.map #[] 0)).alloc (.cells #[.slice da r.n dcap, .int .i64 0, .slice (some ⟨w.heap.size, 0, none⟩) r.n r.n, .slice none 0 0, .map (some (w.heap.size + 1)), .map (some (w.heap.size + 1 + 1))] 74)) := ⟨_, rfl⟩
  rw [← hW0] at hst ⊢
  clear hW0 hmk hmm
  obtain ⟨rb, hrb⟩ : ∃ rb, rb = w.heap.size + 1 + 1 + 1 := ⟨_, rfl⟩
  rw [← hrb] at hst ⊢
  obtain ⟨mo, hmo⟩ : ∃ mo, mo = w.heap.size + 1 + 1 := ⟨_, rfl⟩
  rw [← hmo] at hst ⊢
  obtain ⟨mi, hmi⟩ : ∃ mi, mi = w.heap.size + 1 := ⟨_, rfl⟩
  rw [← hmi] at hst ⊢
  have HB := Lib.hid (⟨hrb, hmo, hmi⟩ : _ ∧ _ ∧ _)
  clear hrb hmo hmi
  go_loopw [19] (fun i wr => ∃ k : Nat, k ≤ r.n ∧ i = .int .i64 (k : Int) ∧ ∃ v, PortI w.heap.size w w.heap.size mi mo rb da dcap r v k k 0 (10 * k) wr) (fun i _ => r.n - (intOf i).toNat)
  case atStart => exact ⟨0, by omega, rfl, _, hst⟩
  case round =>
    clear hst
    obtain ⟨wo, rfl⟩ : ∃ wo, wo = wr := ⟨_, rfl⟩
    obtain ⟨k, hk, rfl, v, hI⟩ := hrel
    by_cases hlt : k < r.n
    · have hdev := h.ok hlt
      have hsk := (hsure k hlt).1
      have hnames : ∀ i j, i < r.n → j < r.n → i ≠ j → (r.dev i).name ≠ (r.dev j).name := fun i j hi hj hij e => by
        rcases Nat.lt_or_gt_of_ne hij with hlt | hlt
        · have h2 := hasName_hit (xs := r.name) (s := r.name j) (k := i) (by show ((r.dev i).name.toList == (r.dev j).name.toList) = true; rw [e]; simp) j hlt
          rw [(hsure j hj).2] at h2
          cases h2
        · have h2 := hasName_hit (xs := r.name) (s := r.name i) (k := j) (by show ((r.dev j).name.toList == (r.dev i).name.toList) = true; rw [e]; simp) i hlt
          rw [(hsure i hi).2] at h2
          cases h2
      have hnz : ∀ i, i < r.n → (r.dev i).name.size ≤ 1048576 := fun i hi => (h.ok hi).name
      obtain ⟨b, off, rfl, hbB, hcells⟩ := (h.below hI.below (Nat.le_refl _)).cells (by omega)
      obtain ⟨⟨d0, d1, d2, d3, d4⟩, _⟩ := hcells k hlt
      obtain ⟨ra, hra⟩ : ∃ ra, ra = (r.plc k).ra := ⟨_, rfl⟩
      rw [← hra] at d3
      have HH := Lib.hid (⟨hnames, hnz, hra⟩ : _ ∧ _ ∧ _)
      clear hcells h hsure hnames hnz he hra
      obtain ⟨Wr, hWr⟩ : ∃ Wr : World, wo.alloc (.cells #[.string (r.dev k).name, .int .i64 (r.dev k).long, .int .i64 (r.dev k).id, .slice ra (r.dev k).regs.n (r.plc k).rc, .slice (r.plc k).ia (r.dev k).ins.n (r.plc k).ic] 48) = Wr := ⟨_, rfl⟩
      have hBr : Below wo.heap.size wo Wr := by rw [← hWr]; exact (Below.refl _ wo).alloc (Nat.le_refl _) _
      have hIr := hI.kept hBr
      have hszr : Wr.heap.size = wo.heap.size + 1 := by rw [← hWr]; simp
      have x0 : Wr.cell? ⟨wo.heap.size, 0, none⟩ = some (.string (r.dev k).name) := by rw [← hWr]; exact cell_fresh _ _ _ rfl
      have x3 : Wr.cell? ⟨wo.heap.size, 3, none⟩ = some (.slice ra (r.dev k).regs.n (r.plc k).rc) := by rw [← hWr]; exact cell_fresh _ _ _ rfl
      have hrow' := hIr.row
      have c3r := hIr.c3
      have hszo := hI.size
      have HI := Lib.hid hIr
      have HV := Lib.hid (fun x hx => (hI.row.lt x hx).2 : ∀ x, v.ownBlock = some x → x < wo.heap.size)
      have HSZ := Lib.hid hszr
      clear hI hIr hszr
      go_wp2_with (at_builtin; refine wpList_append_lies _ rfl _ _ 43 rfl (w.heap.size + 4) 9 i0 (.string ⟨#[]⟩) 1 16 Tryz.underlying43 hi hz0 hz1 hz2 rfl (by decide) _ _ _ rfl (hrow'.alloc _) ⟨Wr.heap.size, 0, none⟩ 1 1 [.string ⟨#[48]⟩] rfl rfl ?c1 ?c2 ?c3 ?c4 ?c5 ?c6 _ rfl ?_)
      case c1 => exact cell_one_new _ _ _
      case c2 => intro u hu; simp at hu; subst hu; rfl
      case c3 => decide
      case c4 => unfold maxLen; omega
      case c5 => omega
      case c6 => simp; have := HSZ.out; omega
      intro g cp w4 hown4 hg4 hat4 hlt4
      have hszr := HSZ.out
      have hIr := HI.out
      obtain ⟨-, a2, a3, a4⟩ := hIr.at4
      have hvb : ∀ x, v.ownBlock = some x → w.heap.size + 4 ≤ x := fun x hx => (hrow'.lt x hx).1
      have hvl : ∀ x, v.ownBlock = some x → x < wo.heap.size := fun x hx => (HV.out x hx)
      have hb4 : ∀ b, b < Wr.heap.size → some b ≠ v.ownBlock → w4.heap[b]? = Wr.heap[b]? := fun b hb hne => (hg4.block b (by simp; omega) hne).trans (Below.heap_alloc Wr _ b hb)
      have hs4 := hg4.size
      simp only [World.size_alloc] at hs4
      have hBel4 : Below w.heap.size w w4 := (hIr.below.alloc (by have := hIr.size; omega) (.cells #[.string ⟨#[48]⟩] 9)).grown hg4 (by simp; omega) (fun x hx => by have := hvb x hx; omega)
      have hIp := hIr.push (w4 := w4) hb4 hown4 hBel4 (by omega)
      have hne3 : some rb ≠ v.ownBlock := fun e => by have := hvb rb e.symm; omega
      have hnex : some wo.heap.size ≠ v.ownBlock := fun e => by have := hvl _ e.symm; omega
      have c3w4 := (World.cell?_of_block (a := ⟨rb, 3, none⟩) (hb4 rb (by have := hIr.size; omega) hne3)).trans hIr.c3
      have f3w4 := (World.frozen?_of_block (a := ⟨rb, 3, none⟩) (hb4 rb (by have := hIr.size; omega) hne3)).trans (hIr.fr 3 (by decide))
      obtain ⟨W5, hW5⟩ : ∃ W5 : World, w4.setCell ⟨rb, 3, none⟩ (.slice (some ⟨g, 0, none⟩) (k + 1) cp) = W5 := ⟨_, rfl⟩
      rw [hW5] at hIp
      have hb5 : ∀ b, b < Wr.heap.size → b ≠ rb → some b ≠ v.ownBlock → W5.heap[b]? = Wr.heap[b]? := fun b hb hne hne2 => by rw [← hW5]; exact (Below.heap_setCell _ _ _ b hne).trans (hb4 b hb hne2)
      have x05 := (World.cell?_of_block (a := ⟨wo.heap.size, 0, none⟩) (hb5 wo.heap.size (by omega) (by omega) hnex)).trans x0
      have x35 := (World.cell?_of_block (a := ⟨wo.heap.size, 3, none⟩) (hb5 wo.heap.size (by omega) (by omega) hnex)).trans x3
      have hsz5 : wo.heap.size < W5.heap.size := by rw [← hW5]; simp [World.setCell]; omega
      have HJ := Lib.hid (⟨hIp, x05, hsz5⟩ : _ ∧ _ ∧ _)
      clear hown4 hg4 hat4 hb4 hs4 hBel4 hIp hvb hvl hIr hrow' HI x0 x3 hszr hb5 x05 hsz5 a2 a3 a4
      go_wp2_with fail
      have hW5' := Lib.hid hW5
      clear c3w4 f3w4 hW5 hne3 hnex
      go_loopw [35] (fun j wr => ∃ m : Nat, m ≤ (r.dev k).regs.n ∧ j = .int .i64 (m : Int) ∧ PortI w.heap.size w w.heap.size mi mo rb (some ⟨b, off, none⟩) dcap r (.slice (some ⟨g, 0, none⟩) (k + 1) cp) (k + 1) k m (10 * k + m) wr ∧ wr.cell? ⟨wo.heap.size, 0, none⟩ = some (.string (r.dev k).name) ∧ wo.heap.size < wr.heap.size) (fun j _ => (r.dev k).regs.n - (intOf j).toNat)
      case atStart => exact ⟨0, Nat.zero_le _, rfl, HJ.out⟩
      case round =>
        clear HJ x35
        obtain ⟨m, hm, rfl, hJ, hx, hxs⟩ := hrel
        by_cases hml : m < (r.dev k).regs.n
        · obtain ⟨b2, off2, e2, hb2, hc2⟩ := (hdev.below hJ.below (Nat.le_refl _)).regs.cells (by omega)
          obtain ⟨r0, r1, rz⟩ := hc2 m hml
          obtain ⟨hl1, hl2⟩ := hsk.longs m hml
          obtain ⟨hnames, hnz, hra⟩ := HH.out
          obtain rfl : ra = some ⟨b2, off2, none⟩ := hra.trans e2
          clear hra e2
          have hN10 : (r.dev k).regs.n ≤ 10 := hsk.regsN
          have hsJ := hJ.size
          clear hc2
          obtain ⟨c, hc⟩ : ∃ c : Nat, (r.dev k).regs.long m = (c : Int) := ⟨((r.dev k).regs.long m).toNat, by omega⟩
          obtain ⟨Wy, hWy⟩ : ∃ Wy : World, wr.alloc (.cells #[.string ((r.dev k).regs.name m), .int .i64 ((r.dev k).regs.long m)] 50) = Wy := ⟨_, rfl⟩
          have hBy : Below wr.heap.size wr Wy := by rw [← hWy]; exact (Below.refl _ wr).alloc (Nat.le_refl _) _
          have hszy : Wy.heap.size = wr.heap.size + 1 := by rw [← hWy]; simp
          have y0 : Wy.cell? ⟨wr.heap.size, 0, none⟩ = some (.string ((r.dev k).regs.name m)) := by rw [← hWy]; exact cell_fresh _ _ _ rfl
          have y1 : Wy.cell? ⟨wr.heap.size, 1, none⟩ = some (.int .i64 ((r.dev k).regs.long m)) := by rw [← hWy]; exact cell_fresh _ _ _ rfl
          have hxy := (hBy.cell (p := ⟨wo.heap.size, 0, none⟩) hxs).trans hx
          have hJy := hJ.kept hBy
          have hrep := Tryz.strings_Repeat ⟨#[48]⟩ c Wy (by omega) (by show 1 * c ≤ _; omega)
          rw [← hc] at hrep
          have hzl : zerosL ((r.dev k).regs.long m) = Lib.repeatL [48] c := by unfold zerosL; rw [hc]; rfl
          obtain ⟨zs, hzs2⟩ : ∃ zs : ByteArray, zs = ⟨(Lib.repeatL (⟨#[48]⟩ : ByteArray).data.toList c).toArray⟩ := ⟨_, rfl⟩
          rw [← hzs2] at hrep
          have hplain : plainElem (H := Unit) Tryz.prog 9 (.string zs) = some (.lit (.string (zerosL ((r.dev k).regs.long m))), []) := by
            have h1 := plain_str zs (by rw [hzs2]; show (Lib.repeatL [48] c).toArray.size ≤ _; rw [List.size_toArray, Lib.repeatL_length]; simp; omega)
            rw [h1, hzl, hzs2]
          have HZ := Lib.hid (⟨hszy, hc, hzl, hzs2, hplain, hsk, hnames, hnz, hdev⟩ : _ ∧ _ ∧ _ ∧ _ ∧ _ ∧ _ ∧ _ ∧ _ ∧ _)
          have HJY := Lib.hid hJy
          clear hszy hc hzl hzs2 hplain hsk hnames hnz hdev hJ hJy hx
          go_wp2_with fail
          refine hrep.mono ?_
          rintro e W ⟨rfl, hBW⟩
          obtain ⟨hszy, hc, hzl, hzs2, hplain, hsk, hnames, hnz, hdev⟩ := HZ.out
          have hJW := HJY.out.kept hBW
          obtain ⟨-, a2, a3, a4⟩ := hJW.at4
          have hsW := hJW.size
          have hsW2 := hBW.size
          have z4 := hJW.c4
          have z5 := hJW.c5
          have zx := (hBW.cell (p := ⟨wo.heap.size, 0, none⟩) (by show wo.heap.size < _; omega)).trans hxy
          have zy := (hBW.cell (p := ⟨wr.heap.size, 0, none⟩) (by show wr.heap.size < _; omega)).trans y0
          obtain ⟨M, hM, hMp⟩ := hJW.inM
          obtain ⟨M', hM', hMp'⟩ := hJW.outM
          have hkey := pair_key (r.dev k).name ((r.dev k).regs.name m) (hnz k hlt) rz
          obtain ⟨vA, sA, oA, pA, eA, fA, gA⟩ := LMap.entries hM.drew Tryz.pairKeyLaw Tryz.underlying72 (by omega) hzs _ _ hkey _ _ hplain
          obtain ⟨vB, sB, oB, pB, eB, fB, gB⟩ := LMap.entries hM'.drew Tryz.pairKeyLaw Tryz.underlying72 (by omega) hzs _ _ hkey _ _ hplain
          have hmiW : mi < W.heap.size := by omega
          have hmoW : mo < W.heap.size := by omega
          have hmm : mi ≠ mo := by omega
          have hmiD : mi < W.drew.heap.size := hmiW
          have hmoD : mo < W.drew.heap.size := hmoW
          have L0 : ∀ (u : World) (b : Nat) (o : Obj), (Go.ChangeMaps.setBlock u b o).heap.size = u.heap.size := fun u b o => by simp [Go.ChangeMaps.setBlock]
          have LA : ∀ (u : World) (o : Obj), mi < u.heap.size → (Go.ChangeMaps.setBlock u mi o).heap[mi]? = some o := fun u o h => by simp [Go.ChangeMaps.setBlock, h]
          have LB : ∀ (u : World) (o : Obj), mo < u.heap.size → (Go.ChangeMaps.setBlock u mo o).heap[mo]? = some o := fun u o h => by simp [Go.ChangeMaps.setBlock, h]
          have NA : ∀ (u : World) (o : Obj), (Go.ChangeMaps.setBlock u mo o).heap[mi]? = u.heap[mi]? := fun u o => by
            show (u.heap.setIfInBounds mo o)[mi]? = _
            rw [Array.getElem?_setIfInBounds_ne (Ne.symm hmm)]
          have NB : ∀ (u : World) (o : Obj), (Go.ChangeMaps.setBlock u mi o).heap[mo]? = u.heap[mo]? := fun u o => by
            show (u.heap.setIfInBounds mi o)[mo]? = _
            rw [Array.getElem?_setIfInBounds_ne hmm]
          have LA1 : ∀ o : Obj, (Go.ChangeMaps.setBlock W.drew mi o).heap[mi]? = some o := fun o => LA _ o hmiD
          have LA2 : ∀ o p : Obj, (Go.ChangeMaps.setBlock (Go.ChangeMaps.setBlock W.drew mo p) mi o).heap[mi]? = some o := fun o p => LA _ o (by rw [L0]; exact hmiD)
          have LA3 : ∀ o p q : Obj, (Go.ChangeMaps.setBlock (Go.ChangeMaps.setBlock (Go.ChangeMaps.setBlock W.drew mo p) mo q) mi o).heap[mi]? = some o := fun o p q => LA _ o (by rw [L0, L0]; exact hmiD)
          have LB1 : ∀ o : Obj, (Go.ChangeMaps.setBlock W.drew mo o).heap[mo]? = some o := fun o => LB _ o hmoD
          have LB2 : ∀ o p : Obj, (Go.ChangeMaps.setBlock (Go.ChangeMaps.setBlock W.drew mi p) mo o).heap[mo]? = some o := fun o p => LB _ o (by rw [L0]; exact hmoD)
          have LB3 : ∀ o p q : Obj, (Go.ChangeMaps.setBlock (Go.ChangeMaps.setBlock (Go.ChangeMaps.setBlock W.drew mi p) mi q) mo o).heap[mo]? = some o := fun o p q => LB _ o (by rw [L0, L0]; exact hmoD)
          have FX : ∀ (u : World) (x b j : Nat) (o : Obj), x ≠ b → (Go.ChangeMaps.setBlock u x o).cell? ⟨b, j, none⟩ = u.cell? ⟨b, j, none⟩ := fun u x b j o h => World.cell?_of_block (a := ⟨b, j, none⟩) (by
            show (u.heap.setIfInBounds x o)[b]? = _
            rw [Array.getElem?_setIfInBounds_ne h])
          have q1 : ∀ (u : World) (j : Nat) (o : Obj), (Go.ChangeMaps.setBlock u mi o).cell? ⟨rb, j, none⟩ = u.cell? ⟨rb, j, none⟩ := fun u j o => FX u mi rb j o (by omega)
          have q2 : ∀ (u : World) (j : Nat) (o : Obj), (Go.ChangeMaps.setBlock u mo o).cell? ⟨rb, j, none⟩ = u.cell? ⟨rb, j, none⟩ := fun u j o => FX u mo rb j o (by omega)
          have q3 : ∀ (u : World) (j : Nat) (o : Obj), (Go.ChangeMaps.setBlock u mi o).cell? ⟨wo.heap.size, j, none⟩ = u.cell? ⟨wo.heap.size, j, none⟩ := fun u j o => FX u mi wo.heap.size j o (by omega)
          have q4 : ∀ (u : World) (j : Nat) (o : Obj), (Go.ChangeMaps.setBlock u mo o).cell? ⟨wo.heap.size, j, none⟩ = u.cell? ⟨wo.heap.size, j, none⟩ := fun u j o => FX u mo wo.heap.size j o (by omega)
          have q5 : ∀ (u : World) (j : Nat) (o : Obj), (Go.ChangeMaps.setBlock u mi o).cell? ⟨wr.heap.size, j, none⟩ = u.cell? ⟨wr.heap.size, j, none⟩ := fun u j o => FX u mi wr.heap.size j o (by omega)
          have q6 : ∀ (u : World) (j : Nat) (o : Obj), (Go.ChangeMaps.setBlock u mo o).cell? ⟨wr.heap.size, j, none⟩ = u.cell? ⟨wr.heap.size, j, none⟩ := fun u j o => FX u mo wr.heap.size j o (by omega)
          have hfin : ∀ (uA xA uB xB y : World), y.heap[mi]? = some (pA uA xA) → y.heap[mo]? = some (pB uB xB) → uA.heap[mi]? = W.drew.heap[mi]? → xA.heap[mi]? = some (oA uA) → uB.heap[mo]? = W.drew.heap[mo]? → xB.heap[mo]? = some (oB uB) → (∀ b, b ≠ mi → b ≠ mo → y.heap[b]? = W.heap[b]?) → y.os = W.os → y.tape = W.tape → y.output = W.output → y.heap.size = W.heap.size →
              PortI w.heap.size w w.heap.size mi mo rb (some ⟨b, off, none⟩) dcap r (.slice (some ⟨g, 0, none⟩) (k + 1) cp) (k + 1) k (m + 1) (10 * k + (m + 1)) y ∧ y.cell? ⟨wo.heap.size, 0, none⟩ = some (.string (r.dev k).name) ∧ wo.heap.size < y.heap.size := fun uA xA uB xB y h1 h2 h3 h4 h5 h6 h7 h8 h9 h10 h11 =>
            ⟨hJW.put h7 h8 h9 h10 h11 ⟨_, gA uA xA y h3 h4 h1, hMp.put hlt hnames hnz rz hml⟩ ⟨_, gB uB xB y h5 h6 h2, hMp'.put hlt hnames hnz rz hml⟩, (World.cell?_of_block (a := ⟨wo.heap.size, 0, none⟩) (h7 wo.heap.size (by omega) (by omega))).trans zx, by rw [h11]; omega⟩
          have HF := Lib.hid hfin
          have HL := Lib.hid (⟨hmiD, hmoD, L0, LA, LB⟩ : _ ∧ _ ∧ _ ∧ _ ∧ _)
          clear hmiD hmoD L0 LA LB hmiW hmoW
          clear hfin gA gB hMp hMp' hM hM' hJW hBW hszy hc hzl hzs2 hplain hsk hnames hnz hdev FX hrep y0 y1 hxy a2 a3 a4
          go_wp2_with fail
          go_region_held3 (fun w' => w'.cell? ⟨rb, 4, none⟩ = some (.map (some mi)) ∧ w'.cell? ⟨rb, 5, none⟩ = some (.map (some mo)) ∧ w'.cell? ⟨wo.heap.size, 0, none⟩ = some (.string (r.dev k).name) ∧ w'.cell? ⟨wr.heap.size, 0, none⟩ = some (.string ((r.dev k).regs.name m)))
            (first | exact ⟨z4, z5, zx, zy⟩ | (simp only [q1, q2, q3, q4, q5, q6]; first | exact ⟨z4, z5, zx, zy⟩ | assumption))
            (fail)
          all_goals
            go_wp2_with fail
            go_roundw
            case rel =>
              refine ⟨m + 1, by omega, by go_num, ?_⟩
              obtain ⟨hmiD, hmoD, L0, LA, LB⟩ := HL.out
              refine HF.out ?uA ?xA ?uB ?xB _ ?p1 ?p2 ?p3 ?p4 ?p5 ?p6 ?p7 rfl rfl rfl ?p8
              case p1 => first | (rw [NA, NA, LA]; simp only [L0]; exact hmiD) | (rw [NA, LA]; simp only [L0]; exact hmiD) | (rw [LA]; simp only [L0]; exact hmiD)
              case p2 => first | (rw [NB, NB, LB]; simp only [L0]; exact hmoD) | (rw [NB, LB]; simp only [L0]; exact hmoD) | (rw [LB]; simp only [L0]; exact hmoD)
              case p3 => first | rw [NA, NA] | rw [NA] | rfl
              case p5 => first | rw [NB, NB] | rw [NB] | rfl
              case p4 => first | (rw [NA, NA, LA]; first | exact hmiD | (simp only [L0]; exact hmiD)) | (rw [NA, LA]; first | exact hmiD | (simp only [L0]; exact hmiD)) | (rw [LA]; first | exact hmiD | (simp only [L0]; exact hmiD))
              case p6 => first | (rw [NB, NB, LB]; first | exact hmoD | (simp only [L0]; exact hmoD)) | (rw [NB, LB]; first | exact hmoD | (simp only [L0]; exact hmoD)) | (rw [LB]; first | exact hmoD | (simp only [L0]; exact hmoD))
              case p7 =>
                intro b h1 h2
                simp [Go.ChangeMaps.setBlock, Array.getElem?_setIfInBounds_ne (Ne.symm h1), Array.getElem?_setIfInBounds_ne (Ne.symm h2)]
                try rfl
              case p8 => simp only [L0]; rfl
            case measure => simp [intOf]; omega
        · obtain rfl : m = (r.dev k).regs.n := by omega
          have hfin := hJ.next (N' := 10 * (k + 1)) (by have := hsk.regsN; omega)
          have HF := Lib.hid hfin
          clear hJ hfin hx hxs
          go_wp2_with fail
          go_roundw
          case rel => exact ⟨k + 1, by omega, by go_num, _, HF.out⟩
          case measure => simp [intOf]; omega
    · obtain rfl : k = r.n := by omega
      have hfin := hI.done (by omega) h he
      obtain ⟨-, a2, a3, a4⟩ := hI.at4
      have HF := Lib.hid (⟨hfin, hI.below, a2, a3, a4⟩ : _ ∧ _ ∧ _ ∧ _ ∧ _)
      clear hI hfin a2 a3 a4 h hsure
      go_wp2_with fail
      go_ret
      obtain ⟨⟨gs, hgs, hR⟩, hB, a2, a3, a4⟩ := HF.out
      exact ⟨rb, _, gs, mi, mo, rfl, hB, by omega, Nat.le_refl _, hgs, by omega, by omega, hR⟩
end Go.Proofs.YtkipkkaloiefpaaGreatDoor
