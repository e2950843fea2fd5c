/- Package fault: Undetected, Coverage; package ratio: Of. -/
import Derived.Test.YtldilggfmclnlaaGreatDoorFtI
namespace Go.Proofs.YtldilggfmclnlaaGreatDoor
open Go.RowKit

/-- The first k faults that no vector detects. -/
def undTo (S : List Nat) (k : Nat) : List Int := ((List.range k).filter fun i => decide (S.getD i 0 = 0)).map fun (i : Nat) => (i : Int)
theorem undTo_succ (S : List Nat) (k : Nat) : undTo S (k + 1) = if S.getD k 0 = 0 then undTo S k ++ [(k : Int)] else undTo S k := by
  unfold undTo
  rw [List.range_succ, List.filter_append, List.map_append]
  by_cases h : S.getD k 0 = 0
  · rw [if_pos h, List.filter_cons, if_pos (by simpa using h)]; rfl
  · rw [if_neg h, List.filter_cons, if_neg (by simpa using h)]; simp
theorem undTo_len (S : List Nat) (k : Nat) : (undTo S k).length ≤ k := by
  unfold undTo
  rw [List.length_map]
  have := List.length_filter_le (fun i => decide (S.getD i 0 = 0)) (List.range k)
  simpa using this
theorem netsOwn_open {B : Nat} {w : World} {v : Value} {l : List Int} (h : NetsOwn B w v l) : ∃ a c, v = .slice a l.length c := by
  obtain ⟨-, ⟨e, h0⟩ | ⟨g, cap, cur, e, -⟩⟩ := h
  · exact ⟨none, 0, by rw [e, h0]⟩
  · exact ⟨_, _, e⟩
theorem netsOwn_snoc {B : Nat} {w : World} {v : Value} {l : List Int} (x : Int) (h : w.ownsRow B 3 1 v (l.length + 1) (l.map (Value.int .i64) ++ [.int .i64 x])) : NetsOwn B w v (l ++ [x]) := by
  unfold NetsOwn
  rw [List.length_append, List.map_append]
  exact h
theorem Tryz.infoIntF : (Tryz.prog.info? 3).map (fun i => (i.zero, i.size, i.bytes)) = some (some (.int .i64 0), 1, 8) := by kernel_rfl

set_option maxHeartbeats 4000000 in
set_option maxRecDepth 100000 in
theorem undetected_any (T : List (List UInt8)) (n m : Nat) (hT : TestRight T n m) (L : List Flt) (hz : L.length ≤ 20000) (hL : ∀ i, i < L.length → FltRight n (L.getD i (0, []))) (B : Nat) (w : World) (v v2 : Value) (h : StrsAt B w v T) (h2 : FltsAt w v2 L) :
    Calls Tryz.prog 8 #[v, v2] w fun e w' => ∃ v', e = .returned (.tuple #[v', .int .i64 0]) ∧ NetsOwn w.heap.size w' v' (undTo (detsL m T L) L.length) ∧ Below w.heap.size w w' := by
  obtain ⟨i0, hi, hz0, hz1, hz2⟩ := info_parts Tryz.infoIntF
  have hd := detections_any T n m hT L hz hL B w v v2 h h2
  have hdl : (detsL m T L).length = L.length := by unfold detsL; rw [List.length_map]
  obtain ⟨a1, c1, rfl, -⟩ := strs_open h
  obtain ⟨a2, c2, rfl⟩ := h2.open
  generalize detsL m T L = S at hd hdl ⊢
  generalize hM : L.length = M at hd hz hdl ⊢
  clear h h2 hL hT hM
  go_enter Tryz.func8, Tryz.ntmps8
  go_wp2_with fail
  refine hd.mono ?_
  rintro e w1 ⟨sv, rfl, hS, hB1⟩
  have hsa := hS.at
  obtain ⟨sa, sc, rfl, hsop⟩ := hsa
  rw [hdl] at hsop ⊢
  have hbs1 := hB1.size
  have H1 := Lib.hid (⟨hsop, hB1⟩ : _ ∧ _)
  clear hd hS hsop hB1 hdl
  go_wp2_with fail
  go_loopw [8, 22] (fun v i wr => ∃ (k : Nat), k ≤ M ∧ i = .int .i64 (k : Int) ∧ NetsOwn w1.heap.size wr v (undTo S k) ∧ Below w1.heap.size w1 wr) (fun _ i _ => M - (intOf i).toNat)
  case atStart => exact ⟨0, by omega, rfl, World.ownsRow_nil _ _ _ _, Below.refl _ _⟩
  case round =>
    obtain ⟨k, hk, rfl, hrow, hB⟩ := hrel
    obtain ⟨va, vc, rfl⟩ := netsOwn_open hrow
    by_cases hlt : k < M
    · obtain ⟨gs, rfl, hgs, hsc⟩ := H1.out.1 (by omega)
      have cs := (hB.cell (p := ⟨gs, k, none⟩) hgs).trans (hsc k hlt)
      have hsu := undTo_succ S k
      have hul := undTo_len S k
      obtain ⟨x, hx⟩ : ∃ x, x = S.getD k 0 := ⟨_, rfl⟩
      rw [← hx] at cs hsu
      have k0 : (0 : Int) ≤ (k : Int) := by omega
      have k1 : (k : Int) < (M : Int) := by omega
      have hbs := hB.size
      by_cases h0 : x = 0
      · have e0 : ((x : Int) == 0) = true := by rw [h0]; rfl
        rw [if_pos h0] at hsu
        have hrow' : wr.ownsRow w1.heap.size 3 1 (.slice va (undTo S k).length vc) (undTo S k).length ((undTo S k).map (Value.int .i64)) := hrow
        have HR := Lib.hid (⟨hrow', hB, hsu⟩ : _ ∧ _ ∧ _)
        clear hsc hx h0 hsu hrow hrow' hB
        generalize (undTo S k).length = ul at HR hul ⊢
        go_wp2_with (at_builtin; refine wpList_append_own _ rfl _ _ 22 rfl w1.heap.size 3 i0 (.int .i64 0) 1 8 Tryz.underlying22 hi hz0 hz1 hz2 rfl (by decide) _ _ _ rfl (HR.out.1.alloc _) ⟨wr.heap.size, 0, none⟩ 1 1 [.int .i64 (k : Int)] rfl rfl ?c1 ?c2 ?c3 ?c4 ?c5 ?_)
        case c1 => exact cell_one_new _ _ _
        case c2 =>
          intro u hu
          simp at hu
          subst hu
          rfl
        case c3 => unfold maxLen; omega
        case c4 => omega
        case c5 => simp; omega
        intro v' w4 hown' hg4 _
        have hB4 : Below w1.heap.size w1 w4 := (HR.out.2.1.alloc hbs _).grown hg4 (by simp; omega) (fun j hj => (HR.out.1.lt j hj).1)
        have hl := HR.out.1.1
        rw [List.length_map, Nat.mul_one] at hl
        have hN : NetsOwn w1.heap.size w4 v' (undTo S (k + 1)) := by
          rw [HR.out.2.2]
          refine netsOwn_snoc _ ?_
          rw [hl]
          exact hown'
        obtain ⟨g9, cap9, rfl⟩ := ownsRow_succ hown'
        have H9 := Lib.hid (⟨hN, hB4⟩ : _ ∧ _)
        clear hB4 hN hown' hg4 hl
        go_wp2_with fail
        go_roundw
        case rel => exact ⟨k + 1, by omega, by go_num, H9.out⟩
        case measure => simp [intOf]; omega
      · have e0 : ((x : Int) == 0) = false := by rw [beq_eq_false_iff_ne]; omega
        rw [if_neg h0] at hsu
        have H9 := Lib.hid (⟨by rw [hsu]; exact hrow, hB⟩ : NetsOwn w1.heap.size wr (.slice va (undTo S k).length vc) (undTo S (k + 1)) ∧ _)
        clear hsc hx h0 hsu hrow hB
        go_wp2_with fail
        go_roundw
        case rel => exact ⟨k + 1, by omega, by go_num, H9.out⟩
        case measure => simp [intOf]; omega
    · obtain rfl : k = M := by omega
      have H9 := Lib.hid (⟨row_base hrow hbs1, H1.out.2.trans (hB.mono hbs1)⟩ : NetsOwn w.heap.size wr _ _ ∧ _)
      clear hrow hB
      go_wp2_with fail
      go_ret2
      exact ⟨_, rfl, H9.out⟩

/-- How many of the first k sets meet one. -/
def cntTo (S : List Nat) (some : Nat) (k : Nat) : Nat := ((List.range k).filter fun i => decide (S.getD i 0 &&& some ≠ 0)).length
theorem cntTo_succ (S : List Nat) (some k : Nat) : cntTo S some (k + 1) = if S.getD k 0 &&& some = 0 then cntTo S some k else cntTo S some k + 1 := by
  unfold cntTo
  rw [List.range_succ, List.filter_append, List.length_append]
  by_cases h : S.getD k 0 &&& some = 0
  · rw [if_pos h, List.filter_cons, if_neg (by simpa using h)]; rfl
  · rw [if_neg h, List.filter_cons, if_pos (by simpa using h)]; rfl
theorem cntTo_len (S : List Nat) (some k : Nat) : cntTo S some k ≤ k := by
  unfold cntTo
  have := List.length_filter_le (fun i => decide (S.getD i 0 &&& some ≠ 0)) (List.range k)
  simpa using this

set_option maxHeartbeats 4000000 in
set_option maxRecDepth 100000 in
theorem countDetected_any (S : List Nat) (hz : S.length ≤ 20000) (hS : On64 S) (some : Nat) (hs : some < 18446744073709551616) (w : World) (v : Value) (h : SetsAt w v S) :
    Calls Tryz.prog 26 #[v, .int .u64 (some : Int)] w fun e w' => e = .returned (.int .i64 (cntTo S some S.length : Int)) ∧ Below w.heap.size w w' := by
  obtain ⟨a, c, rfl, hop⟩ := h
  obtain ⟨M, hM⟩ : ∃ M, M = S.length := ⟨_, rfl⟩
  rw [← hM] at hz hop ⊢
  have HH := Lib.hid (⟨hop, hS⟩ : _ ∧ _)
  clear hop hS hM
  go_enter Tryz.func26, Tryz.ntmps26
  go_wp2_with fail
  go_loopw [5, 10] (fun x i wr => ∃ (k : Nat), k ≤ M ∧ x = .int .i64 (cntTo S some k : Int) ∧ i = .int .i64 (k : Int) ∧ Below w.heap.size w wr) (fun _ i _ => M - (intOf i).toNat)
  case atStart => exact ⟨0, by omega, rfl, rfl, Below.refl _ _⟩
  case round =>
    obtain ⟨k, hk, rfl, rfl, hB⟩ := hrel
    by_cases hlt : k < M
    · obtain ⟨gs, rfl, hgs, hsc⟩ := HH.out.1 (by omega)
      have cs := (hB.cell (p := ⟨gs, k, none⟩) hgs).trans (hsc k hlt)
      have hsu := cntTo_succ S some k
      have hul := cntTo_len S some k
      have hx1 := HH.out.2 k
      obtain ⟨x, hx⟩ : ∃ x, x = S.getD k 0 := ⟨_, rfl⟩
      rw [← hx] at cs hsu hx1
      have hand := u64_and_nat x some hx1 hs
      obtain ⟨y, hy⟩ : ∃ y, y = x &&& some := ⟨_, rfl⟩
      rw [← hy] at hand hsu
      obtain ⟨cn, hcn⟩ : ∃ c, c = cntTo S some k := ⟨_, rfl⟩
      rw [← hcn] at hsu hul ⊢
      have k0 : (0 : Int) ≤ (k : Int) := by omega
      have k1 : (k : Int) < (M : Int) := by omega
      by_cases h0 : y = 0
      · have e0 : ((y : Int) != 0) = false := by rw [h0]; rfl
        rw [if_pos h0] at hsu
        have H9 := Lib.hid (⟨hsu, hB⟩ : _ ∧ _)
        clear hsc hx h0 hsu hB hcn hy hx1
        go_wp2_with fail
        go_roundw
        case rel => exact ⟨k + 1, by omega, by rw [H9.out.1], by go_num, H9.out.2⟩
        case measure => simp [intOf]; omega
      · have e0 : ((y : Int) != 0) = true := by rw [bne_iff_ne]; omega
        rw [if_neg h0] at hsu
        have H9 := Lib.hid (⟨hsu, hB⟩ : _ ∧ _)
        clear hsc hx h0 hsu hB hcn hy hx1
        go_wp2_with fail
        go_roundw
        case rel => exact ⟨k + 1, by omega, by rw [H9.out.1]; rfl, by go_num, H9.out.2⟩
        case measure => simp [intOf]; omega
    · obtain rfl : k = M := by omega
      have H9 := Lib.hid hB
      clear hB
      go_wp2_with fail
      go_ret
      exact ⟨rfl, H9.out⟩

set_option maxHeartbeats 4000000 in
theorem ratioOf_any (part whole : Nat) (hw : 0 < whole) (hw2 : whole ≤ 1000000) (hp : part ≤ 1000000) (w : World) :
    Calls Tryz.prog 25 #[.int .i64 (part : Int), .int .i64 (whole : Int)] w fun e w' => e = .returned (.agg #[.int .i64 ((part / Nat.gcd whole part : Nat) : Int), .int .i64 ((whole / Nat.gcd whole part : Nat) : Int)]) ∧ Below w.heap.size w w' := by
  obtain ⟨W1, hW1⟩ : ∃ W1 : World, W1 = w.alloc (.cells #[.int .i64 0, .int .i64 0] 38) := ⟨_, rfl⟩
  have hB1 : Below w.heap.size w W1 := by rw [hW1]; exact (Below.refl _ _).alloc (Nat.le_refl _) _
  have hs1 : W1.heap.size = w.heap.size + 1 := by rw [hW1]; simp
  have p0 : W1.cell? ⟨w.heap.size, 0, none⟩ = some (.int .i64 0) := by rw [hW1]; simp
  have p1 : W1.cell? ⟨w.heap.size, 1, none⟩ = some (.int .i64 0) := by rw [hW1]; simp
  have q0 : W1.frozen? ⟨w.heap.size, 0, none⟩ = false := by rw [hW1]; simp
  have q1 : W1.frozen? ⟨w.heap.size, 1, none⟩ = false := by rw [hW1]; simp
  have HH := Lib.hid (⟨hB1, p0, p1, q0, q1⟩ : _ ∧ _ ∧ _ ∧ _ ∧ _)
  have HW := Lib.hid hW1
  clear hB1 p0 p1 q0 q1 hW1
  go_enter Tryz.func25, Tryz.ntmps25
  go_wp2_with fail
  rw [← HW.out]
  go_loopw [5, 6] (fun x y wr => ∃ (c r : Nat), x = .int .i64 (c : Int) ∧ y = .int .i64 (r : Int) ∧ c ≤ 1000000 ∧ r ≤ 1000000 ∧ 0 < c + r ∧ Nat.gcd r c = Nat.gcd whole part ∧ Below w.heap.size w wr ∧ wr.cell? ⟨w.heap.size, 0, none⟩ = some (.int .i64 0) ∧ wr.cell? ⟨w.heap.size, 1, none⟩ = some (.int .i64 0) ∧ wr.frozen? ⟨w.heap.size, 0, none⟩ = false ∧ wr.frozen? ⟨w.heap.size, 1, none⟩ = false) (fun _ y _ => (intOf y).toNat)
  case atStart => exact ⟨whole, part, rfl, rfl, hw2, hp, by omega, Nat.gcd_comm _ _, HH.out⟩
  case round =>
    obtain ⟨c, r, rfl, rfl, hc, hr, hcr, hg, hB, p0, p1, q0, q1⟩ := hrel
    by_cases h0 : r = 0
    · have e0 : ((r : Int) != 0) = false := by rw [h0]; rfl
      rw [h0, Nat.gcd_zero_left] at hg
      have c0 : ((c : Int) == 0) = false := by rw [beq_eq_false_iff_ne]; omega
      have c1 : ¬ (c : Int) = 0 := by omega
      have d1 : (part : Int).tdiv (c : Int) = ((part / c : Nat) : Int) := by rw [Int.tdiv_eq_ediv_of_nonneg (by omega)]; rfl
      have d2 : (whole : Int).tdiv (c : Int) = ((whole / c : Nat) : Int) := by rw [Int.tdiv_eq_ediv_of_nonneg (by omega)]; rfl
      have HG := Lib.hid hg
      have HB := Lib.hid hB
      clear hB
      clear hg h0 hcr
      go_wp2_with fail
      go_region
      have w1 : wrap64 ((part : Int) / (c : Int)) = ((part / c : Nat) : Int) := by
        have h1 : part / c ≤ part := Nat.div_le_self _ _
        rw [show (part : Int) / (c : Int) = ((part / c : Nat) : Int) from rfl]
        generalize part / c = y at h1 ⊢
        exact Go.IntWalk.wrap64_in (y : Int) (by omega)
      have w2 : wrap64 ((whole : Int) / (c : Int)) = ((whole / c : Nat) : Int) := by
        have h1 : whole / c ≤ whole := Nat.div_le_self _ _
        rw [show (whole : Int) / (c : Int) = ((whole / c : Nat) : Int) from rfl]
        generalize whole / c = y at h1 ⊢
        exact Go.IntWalk.wrap64_in (y : Int) (by omega)
      rw [w1, w2]
      clear w1 w2 d1 d2
      go_simp
      go_wp2_with fail
      refine bodyPost_ret (v := .agg #[.int .i64 ((part / c : Nat) : Int), .int .i64 ((whole / c : Nat) : Int)]) ?_ rfl ⟨by rw [← HG.out], ?_⟩
      · simp [results, Tryz.f25, go_sem, p0, p1]
      · exact ((HB.out.setCell (p := ⟨w.heap.size, 0, none⟩) (by simp) _).setCell (p := ⟨w.heap.size, 1, none⟩) (by simp) _).drew
    · have e0 : ((r : Int) != 0) = true := by rw [bne_iff_ne]; omega
      have c0 : ((r : Int) == 0) = false := by rw [beq_eq_false_iff_ne]; omega
      have c1 : ¬ (r : Int) = 0 := by omega
      have hm : (c : Int).tmod (r : Int) = ((c % r : Nat) : Int) := by rw [Int.tmod_eq_emod_of_nonneg (by omega)]; rfl
      have hml := Nat.mod_lt c (show 0 < r by omega)
      have hg2 : Nat.gcd (c % r) r = Nat.gcd whole part := by rw [← hg, ← Nat.gcd_rec]
      obtain ⟨z, hz⟩ : ∃ z, z = c % r := ⟨_, rfl⟩
      rw [← hz] at hm hml hg2
      have HG := Lib.hid hg2
      have HB := Lib.hid (⟨hB, p0, p1, q0, q1⟩ : _ ∧ _ ∧ _ ∧ _ ∧ _)
      clear hg h0 hcr hz hg2 hB p0 p1 q0 q1
      go_wp2_with fail
      go_quiet (fail)
      clear hm
      go_wp2_with fail
      go_roundw
      case rel => exact ⟨r, z, rfl, rfl, hr, by omega, by omega, HG.out, HB.out.1.trans ((drewN_below _ _).mono HB.out.1.size), HB.out.2⟩
      case measure => simp [intOf]; omega
end Go.Proofs.YtldilggfmclnlaaGreatDoor
