/- The contract of shortestPath: the first path that a search in breadth finds. -/
import Derived.Test.YtoipgliokelcfaaGreatDoorMaps
import Derived.StillTailTactics
import Derived.Deep.LoopGhost
namespace Go.Proofs.YtoipgliokelcfaaGreatDoor
open Go.RowKit Go.Maps

/-- What is known: the paths, and the states in the order in which they were reached. -/
abbrev Found := List (Nat × List UInt8) × List Nat
/-- The byte of a bit. -/
def bitC (j : Nat) : UInt8 := if j = 0 then 48 else 49
/-- A clock of a state that was reached. -/
def bIn (st j : Nat) (p : Found) : Found :=
  match p.1.lookup (nx st (bitC j)) with
  | some _ => p
  | none => ((nx st (bitC j), (p.1.lookup st).getD [] ++ [bitC j]) :: p.1, p.2 ++ [nx st (bitC j)])
def mid (st : Nat) (p : Found) : Nat → Found
  | 0 => p
  | j + 1 => bIn st j (mid st p j)
def bAt (f : Nat) : Nat → Found
  | 0 => ([(f, [])], [f])
  | i + 1 => mid ((bAt f i).2.getD i 0) (bAt f i) 2
def okP (p : Found) : Bool := decide (p.1.length ≤ 16) && decide (p.2.length ≤ 16) && p.2.all (fun s => decide (s < 16)) && p.1.all (fun x => decide (x.2.length ≤ 16))
def okAt (f i : Nat) : Bool :=
  let p := bAt f i
  let st := p.2.getD i 0
  decide (i < p.2.length) && decide (st < 16) && okP p && okP (mid st p 1) && okP (mid st p 2)
theorem okAll : ((List.range 16).all fun f => ((List.range 16).all fun i => okAt f i) && decide ((bAt f 16).2.length = 16) && okP (bAt f 16)) = true := by decide +kernel
/-- The path from one state to another one. -/
def pathOf (f t : Nat) : List UInt8 := ((bAt f 16).1.lookup t).getD []

theorem ok_at {f i : Nat} (hf : f < 16) (hi : i < 16) : okAt f i = true := by
  have h := List.all_eq_true.1 okAll f (List.mem_range.2 hf)
  simp only [Bool.and_eq_true] at h
  exact List.all_eq_true.1 h.1.1 i (List.mem_range.2 hi)
theorem ok_end {f : Nat} (hf : f < 16) : (bAt f 16).2.length = 16 ∧ okP (bAt f 16) = true := by
  have h := List.all_eq_true.1 okAll f (List.mem_range.2 hf)
  simp only [Bool.and_eq_true, decide_eq_true_eq] at h
  exact ⟨h.1.2, h.2⟩

theorem lookup_len {p : Found} (h : okP p = true) (s : Nat) : ((p.1.lookup s).getD []).length ≤ 16 := by
  simp only [okP, Bool.and_eq_true] at h
  have h2 := List.all_eq_true.1 h.2
  cases e : p.1.lookup s with
  | none => simp
  | some l =>
    have : ∀ (L : List (Nat × List UInt8)), L.lookup s = some l → (s, l) ∈ L := by
      intro L
      induction L with
      | nil => intro h; simp at h
      | cons x L ih =>
        intro h
        rw [List.lookup_cons] at h
        by_cases hx : s = x.1
        · have hx' : (s == x.1) = true := by simpa using hx
          rw [hx'] at h
          cases h
          subst hx
          exact List.mem_cons_self
        · have hx' : (s == x.1) = false := by simpa using hx
          rw [hx'] at h
          exact List.mem_cons_of_mem _ (ih h)
    simpa using h2 _ (this _ e)

theorem lookup_put (L : List (Nat × List UInt8)) (s : Nat) (l : List UInt8) : (fun x => List.lookup x ((s, l) :: L)) = putAt (fun x => L.lookup x) s l := by
  funext x
  rw [List.lookup_cons]
  by_cases h : x = s
  · have h' : (x == s) = true := by simpa using h
    rw [h']; simp [putAt, h]
  · have h' : (x == s) = false := by simpa using h
    rw [h']; simp [putAt, h]

/-- What holds of the memory: the map at block B, the list of the states behind it. -/
structure BInv (w wr : World) (r6 : Value) (p : Found) : Prop where
  map : NumMap Tryz.prog 3 9 wr w.heap.size p.1.length (fun x => p.1.lookup x)
  row : wr.ownsRow (w.heap.size + 1) 3 1 r6 p.2.length (p.2.map fun s : Nat => Value.int .i64 (s : Int))
  below : Below w.heap.size w wr
  size : w.heap.size + 1 ≤ wr.heap.size

/-- The list's value, and its cells. -/
theorem BInv.form {w wr : World} {r6 : Value} {p : Found} (h : BInv w wr r6 p) (hp : 0 < p.2.length) : ∃ g cap, r6 = .slice (some ⟨g, 0, none⟩) p.2.length cap ∧ ∀ k, k < p.2.length → wr.cell? ⟨g, k, none⟩ = some (.int .i64 (p.2.getD k 0 : Int)) := by
  obtain ⟨hl, h2⟩ := h.row
  rcases h2 with ⟨_, h0⟩ | ⟨g, cap, cur, hv, hg, hh, hn, hc, hcs, htk⟩
  · omega
  · refine ⟨g, cap, hv, fun k hk => ?_⟩
    have e : cur.toList[k]? = some (.int .i64 (p.2.getD k 0 : Int)) := by
      have e1 : (cur.toList.take (p.2.length * 1))[k]? = (p.2.map fun s : Nat => Value.int .i64 (s : Int))[k]? := by rw [htk]
      rw [List.getElem?_take_of_lt (by omega)] at e1
      rw [e1]
      simp [List.getD, hk]
    simp [World.cell?, hh] at e ⊢
    exact e

theorem BInv.tab {w wr : World} {r6 : Value} {p : Found} (h : BInv w wr r6 p) (hT : Tab w) : Tab wr := hT.below h.below hT.lt

theorem BInv.start {w w1 : World} {f : Nat} (hm : NumMap Tryz.prog 3 9 w1 w.heap.size 1 (putAt (fun _ => none) f [])) (hg : (w.alloc (.map #[] 0)).grownBy w1 (some w.heap.size)) :
    BInv w (w1.alloc (.cells #[.int .i64 (f : Int)] 3)) (.slice (some ⟨w1.heap.size, 0, none⟩) 1 1) (bAt f 0) := by
  have hs : w.heap.size + 1 ≤ w1.heap.size := by have := hg.size; simpa using this
  refine ⟨?_, ?_, ?_, ?_⟩
  · have e : (fun x => List.lookup x (bAt f 0).1) = putAt (fun _ => none) f [] := by
      show (fun x => List.lookup x [(f, [])]) = _
      rw [lookup_put]
      funext x
      simp [putAt]
    rw [e]
    exact hm.alloc _
  · exact ⟨rfl, .inr ⟨w1.heap.size, 1, #[.int .i64 (f : Int)], rfl, hs, heap_alloc_new w1 _, Nat.le_refl _, by decide, rfl, rfl⟩⟩
  · exact (((Below.refl _ _).alloc (Nat.le_refl _) _).grown hg (by simp) (fun k hk => by cases hk; exact Nat.le_refl _)).alloc (by omega) _
  · simp; omega

theorem cat_list (a b : List UInt8) : ((⟨a.toArray⟩ : ByteArray) ++ (⟨b.toArray⟩ : ByteArray)).data.toList = a ++ b := by
  rw [ByteArray.data_append]; simp
theorem cat_size (a b : List UInt8) : ((⟨a.toArray⟩ : ByteArray) ++ (⟨b.toArray⟩ : ByteArray)).size = a.length + b.length := by
  rw [ByteArray.size_append]; simp [ByteArray.size]
theorem own_ne {w : World} {base e size n B : Nat} {v : Value} {xs : List Value} (h : w.ownsRow base e size v n xs) (hB : B < base) : v.ownBlock = none ∨ v.ownBlock ≠ some B := by
  cases hv : v.ownBlock with
  | none => exact .inl rfl
  | some k =>
    refine .inr fun e => ?_
    have := (h.lt k hv).1
    cases e
    omega

theorem BInv.push {w wr w2 w4 : World} {r6 v' : Value} {q : Found} {m : Nat} {l : List UInt8} (h : BInv w wr r6 q)
    (hm2 : NumMap Tryz.prog 3 9 w2 w.heap.size (q.1.length + 1) (putAt (fun x => q.1.lookup x) m l)) (hg2 : wr.drew.grownBy w2 (some w.heap.size))
    (hown : w4.ownsRow (w.heap.size + 1) 3 1 v' (q.2.length + 1) ((q.2.map fun s : Nat => Value.int .i64 (s : Int)) ++ [.int .i64 (m : Int)])) (hg4 : (w2.alloc (.cells #[.int .i64 (m : Int)] 3)).grownBy w4 r6.ownBlock) :
    BInv w w4 v' ((m, l) :: q.1, q.2 ++ [m]) := by
  have hne := own_ne h.row (Nat.lt_succ_self w.heap.size)
  have hge : ∀ k, r6.ownBlock = some k → w.heap.size + 1 ≤ k := fun k hk => (h.row.lt k hk).1
  have hsz2 : w.heap.size + 1 ≤ w2.heap.size := Nat.le_trans h.size hg2.size
  have hsz3 : w.heap.size + 1 ≤ w4.heap.size := by have := hg4.size; simp at this; omega
  refine ⟨?_, ?_, ?_, hsz3⟩
  · show NumMap _ _ _ w4 _ _ (fun x => List.lookup x ((m, l) :: q.1))
    rw [lookup_put]
    refine (hm2.alloc _).kept hg4 ?_
    rcases hne with hne | hne
    · rw [hne]; simp
    · exact fun e => hne e.symm
  · simpa using hown
  · have b1 : Below w.heap.size w w2 := h.below.drew.grown hg2 (by show w.heap.size ≤ wr.heap.size; have := h.size; omega) (fun k hk => by cases hk; exact Nat.le_refl _)
    refine (b1.alloc (by omega) _).grown hg4 (by simp; omega) (fun k hk => by have := hge k hk; omega)

theorem mid_known {st j : Nat} {p : Found} {l : List UInt8} (h : (mid st p j).1.lookup (nx st (bitC j)) = some l) : mid st p (j + 1) = mid st p j := by
  show bIn st j (mid st p j) = _
  unfold bIn
  rw [h]
theorem mid_new {st j : Nat} {p : Found} (h : (mid st p j).1.lookup (nx st (bitC j)) = none) :
    mid st p (j + 1) = ((nx st (bitC j), ((mid st p j).1.lookup st).getD [] ++ [bitC j]) :: (mid st p j).1, (mid st p j).2 ++ [nx st (bitC j)]) := by
  show bIn st j (mid st p j) = _
  unfold bIn
  rw [h]

theorem Tryz.idx0 (x y : Value) (W : World) : (Instr.index 58 (.agg #[x, y]) (.int .i64 0)).run Tryz.prog W = .ok x W := by kernel_rfl
theorem Tryz.idx1 (x y : Value) (W : World) : (Instr.index 58 (.agg #[x, y]) (.int .i64 1)).run Tryz.prog W = .ok y W := by kernel_rfl
theorem Tryz.zeroStr (W : World) : (zeroValue 9).run Tryz.prog W = .ok (.string ⟨#[]⟩) W := by kernel_rfl

set_option maxRecDepth 100000 in
theorem shortest_any (f t : Nat) (w : World) (hf : f < 16) (ht : t < 16) (hT : Tab w) :
    Calls Tryz.prog 36 #[.int .i64 (f : Int), .int .i64 (t : Int)] w fun e w' => e = .returned (.string ⟨(pathOf f t).toArray⟩) ∧ Below w.heap.size w w' := by
  have hlt := hT.lt
  have hmm := @run_makeMap Tryz.prog
  go_enter Tryz.func36, Tryz.ntmps36
  go_wp2_with (refine wpList_insert_own (P := Tryz.prog) (k := 3) (e := 9) rfl (.tmp 13) (.tmp 14) (.const (.string ⟨#[]⟩)) 112 rfl Tryz.underlying3 Tryz.underlying112 Tryz.underlying9 rfl (NumMap.made _ _ _ w) (by decide) f (by omega) ⟨#[]⟩ (by decide) rfl rfl ?_)
  intro w1 hm1 hg1
  have hb0 := BInv.start hm1 hg1
  clear hmm hm1 hg1
  go_wp2_with fail
  go_loopw [6, 7] (fun r6 i wr => ∃ k : Nat, k ≤ 16 ∧ i = .int .i64 (k : Int) ∧ BInv w wr r6 (bAt f k)) (fun _ i _ => 16 - (intOf i).toNat)
  case atStart => exact ⟨0, by omega, rfl, hb0⟩
  case round =>
    obtain ⟨k, hk, rfl, hb⟩ := hrel
    clear hb0
    by_cases hk16 : k < 16
    · have hok := ok_at hf hk16
      simp only [okAt, Bool.and_eq_true, decide_eq_true_eq] at hok
      have hT1 := hb.tab hT
      have hstep : Hid (bAt f (k + 1) = mid ((bAt f k).2.getD k 0) (bAt f k) 2) := Lib.hid rfl
      generalize bAt f k = p at hok hb hstep
      obtain ⟨⟨⟨⟨hkl, hst⟩, hp0⟩, hp1⟩, hp2⟩ := hok
      obtain ⟨g, cap, rfl, hcells⟩ := hb.form (by omega)
      have hcell := hcells k hkl
      clear hcells
      generalize p.2.getD k 0 = st at hcell hst hp1 hp2 hstep
      have hL : p.2.length ≤ 16 := by
        simp only [okP, Bool.and_eq_true, decide_eq_true_eq] at hp0
        exact hp0.1.1.2
      have ht0 := hT1.at0 hst
      have ht1 := hT1.at1 hst
      have hst48 : Hid (st < 16) := Lib.hid hst
      go_wp2_with fail
      obtain ⟨wo, rfl⟩ : ∃ wo : World, wo = wr := ⟨_, rfl⟩
      go_loopw [6, 31] (fun r6 c wr => ∃ j : Nat, j ≤ 2 ∧ c = .int .i64 (j : Int) ∧ BInv w wr r6 (mid st p j)) (fun _ c _ => 2 - (intOf c).toNat)
      case atStart => exact ⟨0, by omega, rfl, hb⟩
      case round =>
        obtain ⟨j, hj, rfl, hbj⟩ := hrel
        clear hb hcell ht0 ht1 hT1 hkl hL
        by_cases hj2 : j < 2
        · have hidx : ∀ W, (Instr.index 58 (.agg #[.int .i64 ((nx st 48 : Nat) : Int), .int .i64 ((nx st 49 : Nat) : Int)]) (.int .i64 (j : Int))).run Tryz.prog W = .ok (.int .i64 ((nx st (bitC j) : Nat) : Int)) W := by
            intro W
            have : j = 0 ∨ j = 1 := by omega
            rcases this with rfl | rfl
            · exact Tryz.idx0 _ _ W
            · exact Tryz.idx1 _ _ W
          have hm : nx st (bitC j) < 16 := nx_lt st hst (bitC j) (by unfold bitC; split <;> decide)
          have hk1 := fun l => mid_known (st := st) (j := j) (p := p) (l := l)
          have hk2 := mid_new (st := st) (j := j) (p := p)
          have hl1 := NumMap.look_ok Tryz.underlying3 Tryz.underlying112 Tryz.underlying9 (w := wr) (Tryz.zeroStr wr) hbj.map (s := nx st (bitC j)) (by omega)
          generalize nx st (bitC j) = m at hidx hm hk1 hk2 hl1
          cases hlk : (mid st p j).1.lookup m with
          | some l =>
            have hnext := hk1 l hlk
            simp only [hlk, Option.isSome_some] at hl1
            generalize (Option.some l).getD [] = lv at hl1
            clear hk1 hk2
            have hbn : BInv w wr u6 (mid st p (j + 1)) := by rw [hnext]; exact hbj
            clear hnext hlk hbj
            go_wp2_with fail
            go_roundw
            case rel => exact ⟨j + 1, by omega, by go_num, hbn⟩
            case measure => simp [intOf]; omega
          | none =>
            have hnext := hk2 hlk
            simp only [hlk, Option.isSome_none] at hl1
            generalize (Option.none (α := List UInt8)).getD [] = lv at hl1
            have hqok : okP (mid st p j) = true := by
              have : j = 0 ∨ j = 1 := by omega
              rcases this with rfl | rfl
              · exact hp0
              · exact hp1
            have hqok2 : okP (mid st p (j + 1)) = true := by
              have : j = 0 ∨ j = 1 := by omega
              rcases this with rfl | rfl
              · exact hp1
              · exact hp2
            have hpl := lookup_len hqok st
            have hl2 := NumMap.look Tryz.underlying3 Tryz.underlying112 Tryz.underlying9 (w := wr.drew) (Tryz.zeroStr _) hbj.map.drew (s := st) (by omega)
            clear hk1 hk2 hlk
            generalize ((mid st p j).1.lookup st).getD [] = pl at hpl hl2 hnext
            have hit := Tryz.strconv_Itoa_small j (by omega)
            have hdig : Lib.decDigits j = [bitC j] := by
              have : j = 0 ∨ j = 1 := by omega
              rcases this with rfl | rfl <;> first | rfl | decide +kernel | simp [Lib.decDigits, bitC]
            rw [hdig] at hit
            clear hdig
            generalize bitC j = cj at hit hnext
            go_wp2_with fail
            go_still_tail 8, (by kernel_rfl)
            refine wpStill_step (fun K hK => ?_)
            go_simp
            refine ⟨_, hit _, hK _ ?_⟩
            clear hK K
            have hcat : ¬ 9223372036854775807 < pl.length + 1 := by omega
            still_step
            clear hcat
            refine wpStill_nil ?_
            change wpList _ _ _ _ _ wr.drew
            have hL1 : (mid st p j).1.length < 1000000 := by
              simp only [okP, Bool.and_eq_true, decide_eq_true_eq] at hqok
              omega
            have hL2 : (mid st p j).2.length ≤ 16 := by
              simp only [okP, Bool.and_eq_true, decide_eq_true_eq] at hqok
              omega
            refine wpList_mapset_own (P := Tryz.prog) (k := 3) (e := 9) rfl (.tmp 43) (.tmp 44) (.tmp 50) 112 rfl Tryz.underlying3 Tryz.underlying112 Tryz.underlying9 rfl hbj.map.drew hL1 m (by omega) _ ?sz rfl rfl ?_
            case sz => have e := cat_size pl [cj]; simp only [List.length_cons, List.length_nil] at e; exact Nat.le_trans (Nat.le_of_eq e) (by omega)
            intro w2 hm2 hg2
            have ecat : ((⟨pl.toArray⟩ : ByteArray) ++ (⟨#[cj]⟩ : ByteArray)).data.toList = pl ++ [cj] := cat_list pl [cj]
            rw [ecat] at hm2
            clear ecat
            have hrow2 := hbj.row.drew.kept (w' := w2) hg2 (own_ne hbj.row (Nat.lt_succ_self _))
            have hsz2 : w.heap.size + 1 ≤ w2.heap.size := Nat.le_trans hbj.size hg2.size
            clear hl1 hl2 hit hidx hpl
            obtain ⟨i0, hi, hz0, hz1, hz2⟩ := info_parts Tryz.infoInt
            go_wp2_with (at_builtin; refine wpList_append_own _ rfl _ _ 22 rfl (w.heap.size + 1) 3 i0 (.int .i64 0) 1 8 Tryz.underlying22 hi hz0 hz1 hz2 rfl (by decide) _ _ _ rfl (hrow2.alloc _) ⟨w2.heap.size, 0, none⟩ 1 1 [.int .i64 (m : Int)] rfl rfl ?c1 ?c2 ?c3 ?c4 ?c5 ?_)
            case c1 => exact cell_one_new _ _ _
            case c2 => exact ints_oneCell .i64 [(m : Int)]
            case c3 => unfold maxLen; omega
            case c4 => omega
            case c5 => simp; omega
            intro v' w4 hown hg4 _
            have hbn : BInv w w4 v' (mid st p (j + 1)) := by rw [hnext]; exact hbj.push hm2 hg2 hown hg4
            clear hnext hbj hm2 hown hrow2 hi hz0 hz1 hz2
            go_wp2_with fail
            go_roundw
            case rel => exact ⟨j + 1, by omega, by go_num, hbn⟩
            case measure => simp [intOf]; omega
        · obtain rfl : j = 2 := by omega
          clear hst
          go_wp2_with fail
          go_roundw
          case rel => exact ⟨k + 1, by omega, by go_num, by rw [hstep.out]; exact hbj⟩
          case measure => simp [intOf]; omega
    · obtain rfl : k = 16 := by omega
      have hend := ok_end hf
      obtain ⟨g, cap, rfl, _⟩ := hb.form (by omega)
      have hl := NumMap.look Tryz.underlying3 Tryz.underlying112 Tryz.underlying9 (w := wr) (Tryz.zeroStr _) hb.map (s := t) (by omega)
      have hres : Hid (pathOf f t = ((bAt f 16).1.lookup t).getD []) := Lib.hid rfl
      have hbel := hb.below
      have hlen := hend.1
      clear hb hend hT
      rw [hlen]
      clear hlen
      generalize ((bAt f 16).1.lookup t).getD [] = pl at hl hres
      go_wp2
      go_ret
      exact ⟨by rw [hres.out]; rfl, hbel⟩
end Go.Proofs.YtoipgliokelcfaaGreatDoor
