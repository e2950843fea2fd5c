/- Package wafer: CheckWafer at right wafers, Yield; the readiness that the kept properties ask. Made by gens/wfc.py. -/
import Derived.Test.YtoipgliokelcfaaGreatDoorWfB
import Derived.Shelf.Strings.SlTrimAscii
import Derived.Laws.StructEq
namespace Go.Proofs.YtoipgliokelcfaaGreatDoor
open Go.RowKit

set_option maxHeartbeats 1200000 in
set_option maxRecDepth 100000 in
theorem ratioOfW_any (part whole : Nat) (hw : 0 < whole) (hw2 : whole ≤ 1000000) (hp : part ≤ 1000000) (w : World) :
    Calls Tryz.prog 108 #[.int .i64 (part : Int), .int .i64 (whole : Int)] w fun e w' => e = .returned (.agg #[.int .i64 ((part / Nat.gcd whole part : Nat) : Int), .int .i64 ((whole / Nat.gcd whole part : Nat) : Int)]) ∧ Below w.heap.size w w' := by
  obtain ⟨W1, hW1⟩ : ∃ W1 : World, W1 = w.alloc (.cells #[.int .i64 0, .int .i64 0] 80) := ⟨_, rfl⟩
  have hB1 : Below w.heap.size w W1 := by rw [hW1]; exact (Below.refl _ _).alloc (Nat.le_refl _) _
  have hs1 : W1.heap.size = w.heap.size + 1 := by rw [hW1]; simp
  have p0 : W1.cell? ⟨w.heap.size, 0, none⟩ = some (.int .i64 0) := by rw [hW1]; simp
  have p1 : W1.cell? ⟨w.heap.size, 1, none⟩ = some (.int .i64 0) := by rw [hW1]; simp
  have q0 : W1.frozen? ⟨w.heap.size, 0, none⟩ = false := by rw [hW1]; simp
  have q1 : W1.frozen? ⟨w.heap.size, 1, none⟩ = false := by rw [hW1]; simp
  have HH := Lib.hid (⟨hB1, p0, p1, q0, q1⟩ : _ ∧ _ ∧ _ ∧ _ ∧ _)
  have HW := Lib.hid hW1
  clear hB1 p0 p1 q0 q1 hW1
  go_enter Tryz.func108, Tryz.ntmps108
  go_wp2_with fail
  rw [← HW.out]
  go_loopw [5, 6] (fun x y wr => ∃ (c r : Nat), x = .int .i64 (c : Int) ∧ y = .int .i64 (r : Int) ∧ c ≤ 1000000 ∧ r ≤ 1000000 ∧ 0 < c + r ∧ Nat.gcd r c = Nat.gcd whole part ∧ Below w.heap.size w wr ∧ wr.cell? ⟨w.heap.size, 0, none⟩ = some (.int .i64 0) ∧ wr.cell? ⟨w.heap.size, 1, none⟩ = some (.int .i64 0) ∧ wr.frozen? ⟨w.heap.size, 0, none⟩ = false ∧ wr.frozen? ⟨w.heap.size, 1, none⟩ = false) (fun _ y _ => (intOf y).toNat)
  case atStart => exact ⟨whole, part, rfl, rfl, hw2, hp, by omega, Nat.gcd_comm _ _, HH.out⟩
  case round =>
    obtain ⟨c, r, rfl, rfl, hc, hr, hcr, hg, hB, p0, p1, q0, q1⟩ := hrel
    by_cases h0 : r = 0
    · have e0 : ((r : Int) != 0) = false := by rw [h0]; rfl
      rw [h0, Nat.gcd_zero_left] at hg
      have c0 : ((c : Int) == 0) = false := by rw [beq_eq_false_iff_ne]; omega
      have c1 : ¬ (c : Int) = 0 := by omega
      have d1 : (part : Int).tdiv (c : Int) = ((part / c : Nat) : Int) := by rw [Int.tdiv_eq_ediv_of_nonneg (by omega)]; rfl
      have d2 : (whole : Int).tdiv (c : Int) = ((whole / c : Nat) : Int) := by rw [Int.tdiv_eq_ediv_of_nonneg (by omega)]; rfl
      have HG := Lib.hid hg
      have HB := Lib.hid hB
      clear hB
      clear hg h0 hcr
      go_wp2_with fail
      go_region
      have w1 : wrap64 ((part : Int) / (c : Int)) = ((part / c : Nat) : Int) := by
        have h1 : part / c ≤ part := Nat.div_le_self _ _
        rw [show (part : Int) / (c : Int) = ((part / c : Nat) : Int) from rfl]
        generalize part / c = y at h1 ⊢
        exact Go.IntWalk.wrap64_in (y : Int) (by omega)
      have w2 : wrap64 ((whole : Int) / (c : Int)) = ((whole / c : Nat) : Int) := by
        have h1 : whole / c ≤ whole := Nat.div_le_self _ _
        rw [show (whole : Int) / (c : Int) = ((whole / c : Nat) : Int) from rfl]
        generalize whole / c = y at h1 ⊢
        exact Go.IntWalk.wrap64_in (y : Int) (by omega)
      rw [w1, w2]
      clear w1 w2 d1 d2
      go_simp
      go_wp2_with fail
      refine bodyPost_ret (v := .agg #[.int .i64 ((part / c : Nat) : Int), .int .i64 ((whole / c : Nat) : Int)]) ?_ rfl ⟨by rw [← HG.out], ?_⟩
      · simp [results, Tryz.f108, go_sem, p0, p1]
      · exact ((HB.out.setCell (p := ⟨w.heap.size, 0, none⟩) (by simp) _).setCell (p := ⟨w.heap.size, 1, none⟩) (by simp) _).drew
    · have e0 : ((r : Int) != 0) = true := by rw [bne_iff_ne]; omega
      have c0 : ((r : Int) == 0) = false := by rw [beq_eq_false_iff_ne]; omega
      have c1 : ¬ (r : Int) = 0 := by omega
      have hm : (c : Int).tmod (r : Int) = ((c % r : Nat) : Int) := by rw [Int.tmod_eq_emod_of_nonneg (by omega)]; rfl
      have hml := Nat.mod_lt c (show 0 < r by omega)
      have hg2 : Nat.gcd (c % r) r = Nat.gcd whole part := by rw [← hg, ← Nat.gcd_rec]
      obtain ⟨z, hz⟩ : ∃ z, z = c % r := ⟨_, rfl⟩
      rw [← hz] at hm hml hg2
      have HG := Lib.hid hg2
      have HB := Lib.hid (⟨hB, p0, p1, q0, q1⟩ : _ ∧ _ ∧ _ ∧ _ ∧ _)
      clear hg h0 hcr hz hg2 hB p0 p1 q0 q1
      go_wp2_with fail
      go_quiet (fail)
      clear hm
      go_wp2_with fail
      go_roundw
      case rel => exact ⟨r, z, rfl, rfl, hr, by omega, by omega, HG.out, HB.out.1.trans ((drewN_below _ _).mono HB.out.1.size), HB.out.2⟩
      case measure => simp [intOf]; omega
def binsS : ByteArray := ⟨#[48, 49, 50, 51, 52, 53, 54, 55, 56, 57, 97, 98, 99, 100, 101, 102, 103, 104, 105, 106, 107, 108, 109, 110, 111, 112, 113, 114, 115, 116, 117, 118, 119, 120, 121, 122]⟩
def mapL : List UInt8 := [48, 49, 50, 51, 52, 53, 54, 55, 56, 57, 97, 98, 99, 100, 101, 102, 103, 104, 105, 106, 107, 108, 109, 110, 111, 112, 113, 114, 115, 116, 117, 118, 119, 120, 121, 122, 46, 63, 42]
/-- What a right wafer's rows are. -/
structure RowsRight (R : List (List UInt8)) : Prop where
  waf : WafRight R
  some : 0 < R.length
  none0 : 0 < (R.getD 0 []).length
  all : ∀ j, j < R.length → Lib.trimS (R.getD j []) mapL = []
def PassRight (P : ByteArray) : Prop := ∀ i, (h : i < P.size) → inS binsS P[i] = true ∧ ∀ k : Nat, i = k + 1 → (hk : k < P.size) → P[k].toNat < P[i].toNat
set_option maxHeartbeats 800000 in
set_option maxRecDepth 100000 in
theorem wfCheckPass_right (P : ByteArray) (hP : PassRight P) (hz : P.size ≤ 1000000) (w : World) :
    Calls Tryz.prog 106 #[.string P] w fun e w' => e = .returned (.int .i64 0) ∧ Below w.heap.size w w' := by
  have ho := fun c X => wfIsOneOf_any binsS c X
  have HP := Lib.hid (⟨hP, ho⟩ : _ ∧ _)
  clear hP ho
  go_enter Tryz.func106, Tryz.ntmps106
  go_wp2_with fail
  go_loopw [6] (fun i wr => ∃ (k : Nat), k ≤ P.size ∧ i = .int .i64 (k : Int) ∧ Below w.heap.size w wr) (fun i _ => P.size - (intOf i).toNat)
  case atStart => exact ⟨0, by omega, rfl, Below.refl _ _⟩
  case round =>
    obtain ⟨k, hk, rfl, hB⟩ := hrel
    by_cases hlt : k < P.size
    · obtain ⟨h1, h2⟩ := HP.out.1 k hlt
      have hq := HP.out.2 P[k] wr
      rw [h1] at hq
      change Calls Tryz.prog 132 #[.string ⟨#[48, 49, 50, 51, 52, 53, 54, 55, 56, 57, 97, 98, 99, 100, 101, 102, 103, 104, 105, 106, 107, 108, 109, 110, 111, 112, 113, 114, 115, 116, 117, 118, 119, 120, 121, 122]⟩, .int .u8 (P[k].toNat : Int)] wr _ at hq
      have k0 : (0 : Int) ≤ (k : Int) := by omega
      have k1 : (k : Int) < (P.size : Int) := by omega
      have HB := Lib.hid hB
      by_cases hz0 : k = 0
      · subst hz0
        clear h1 h2 hB
        go_wp2_with fail
        refine hq.mono ?_
        rintro e w2 ⟨rfl, rfl⟩
        go_wp2_with fail
        go_quiet (fail)
        go_wp2_with fail
        go_roundw
        case rel => exact ⟨1, by omega, by go_num, HB.out.trans ((drewN_below _ _).mono HB.out.size)⟩
        case measure => simp [intOf]; omega
      · have h3 := h2 (k - 1) (by omega) (by omega)
        have hm : k - 1 < P.size := by omega
        have k2 : 0 < k := by omega
        have k2' : decide (0 < k) = true := decide_eq_true k2
        have k3 : IntKind.i64.wrap ((k : Int) - 1) = ((k - 1 : Nat) : Int) := by
          rw [show (k : Int) - 1 = ((k - 1 : Nat) : Int) by omega]
          rw [IntKind.wrap_i64]
          omega
        have e2 : ¬ P[k].toNat ≤ P[k - 1].toNat := by omega
        clear h1 h2 hB h3 hz0
        go_wp2_with fail
        refine hq.mono ?_
        rintro e w2 ⟨rfl, rfl⟩
        go_wp2_with fail
        go_quiet (fail)
        clear k3 k2'
        go_wp2_with fail
        go_roundw
        case rel => exact ⟨k + 1, by omega, by go_num, HB.out.trans ((drewN_below _ _).mono HB.out.size)⟩
        case measure => simp [intOf]; omega
    · obtain rfl : k = P.size := by omega
      have HB := Lib.hid hB
      clear hB
      go_wp2_with fail
      go_ret
      exact ⟨rfl, HB.out⟩
set_option maxHeartbeats 800000 in
set_option maxRecDepth 100000 in
theorem wfCheckRows_right (R : List (List UInt8)) (hR : RowsRight R) (w : World) (v : Value) (h : RowsIn w v R) :
    Calls Tryz.prog 105 #[v] w fun e w' => e = .returned (.int .i64 0) ∧ Below w.heap.size w w' := by
  obtain ⟨a, c, rfl, -, hop⟩ := id h
  have hn60 := hR.waf.n60
  have hn0 := hR.some
  have hm60 := hR.waf.m60
  have hm0 := hR.none0
  have hsm := hR.waf.same
  have hall := hR.all
  obtain ⟨n, hn⟩ : ∃ n, n = R.length := ⟨_, rfl⟩
  obtain ⟨m, hm⟩ : ∃ m, m = (R.getD 0 []).length := ⟨_, rfl⟩
  rw [← hn] at hop hn60 hn0 hsm hall ⊢
  rw [← hm] at hsm hm60 hm0
  obtain ⟨g, o, rfl, hg, hc⟩ := hop hn0
  have hc2 : ∀ j, j < n → ∃ s : ByteArray, s.size = m ∧ Lib.trimS s.data.toList mapL = [] ∧ w.cell? ⟨g, o + j, none⟩ = some (.string s) := fun j hj =>
    ⟨_, by show (R.getD j []).toArray.size = m; rw [List.size_toArray]; exact hsm j hj, hall j hj, hc j hj⟩
  obtain ⟨s0, z0, -, c0⟩ := hc2 0 hn0
  rw [Nat.add_zero] at c0
  have n1 : ((n : Int) == 0) = false := by rw [beq_eq_false_iff_ne]; omega
  have n2 : decide ((n : Int) > 60) = false := decide_eq_false (by omega)
  have n3 : ¬ (60 : Int) < (n : Int) := by omega
  have htr := fun (s : ByteArray) (hs : s.size ≤ 60) W => Any.strings_Trim_laid Tryz.lays160 (by kernel_rfl) s ⟨mapL.toArray⟩ W (by omega) (by decide) (ascii_of_all (by decide))
  have HH := Lib.hid (⟨hc2, htr⟩ : _ ∧ _)
  clear hop hn hm hc hc2 htr hsm hall hR h
  go_enter Tryz.func105, Tryz.ntmps105
  go_wp2_with fail
  go_loopw [13] (fun i wr => ∃ (k : Nat), k ≤ n ∧ i = .int .i64 (k : Int) ∧ Below w.heap.size w wr) (fun i _ => n - (intOf i).toNat)
  case atStart => exact ⟨0, by omega, rfl, Below.refl _ _⟩
  case round =>
    obtain ⟨k, hk, rfl, hB⟩ := hrel
    by_cases hlt : k < n
    · obtain ⟨s, zs, ht, hs⟩ := HH.out.1 k hlt
      have htq := HH.out.2 s (by omega) wr
      rw [ht] at htq
      change Calls Tryz.prog 99 #[.string s, .string ⟨#[48, 49, 50, 51, 52, 53, 54, 55, 56, 57, 97, 98, 99, 100, 101, 102, 103, 104, 105, 106, 107, 108, 109, 110, 111, 112, 113, 114, 115, 116, 117, 118, 119, 120, 121, 122, 46, 63, 42]⟩] wr (fun e w' => e = .returned (.string ⟨#[]⟩) ∧ Below wr.heap.size wr w') at htq
      have k0 : (0 : Int) ≤ (k : Int) := by omega
      have k1 : (k : Int) < (n : Int) := by omega
      have d0 := (hB.cell (p := ⟨g, o, none⟩) hg).trans c0
      have d1 := (hB.cell (p := ⟨g, o + k, none⟩) hg).trans hs
      have e1 : (s.toList == []) = false := by
        cases hl : s.toList with
        | nil => rw [ByteArray.toList_eq] at hl; have : s.size = 0 := by show s.data.size = 0; rw [← Array.length_toList, hl]; rfl
                 omega
        | cons x l => rfl
      have e2 : ¬ (60 : Int) < (s.size : Int) := by omega
      have e2' : decide ((s.size : Int) > 60) = false := decide_eq_false (by omega)
      have e3 : ((s.size : Int) != (s0.size : Int)) = false := by rw [zs, z0]; simp
      have HB := Lib.hid hB
      clear hB hs ht zs z0
      go_wp2_with fail
      refine htq.mono ?_
      rintro e w2 ⟨rfl, hB2⟩
      have HB2 := Lib.hid (HB.out.trans (hB2.mono HB.out.size))
      clear hB2 htq
      go_wp2_with fail
      go_roundw
      case rel => exact ⟨k + 1, by omega, by go_num, HB2.out⟩
      case measure => simp [intOf]; omega
    · obtain rfl : k = n := by omega
      have HB := Lib.hid hB
      clear hB
      go_wp2_with fail
      go_ret
      exact ⟨rfl, HB.out⟩
set_option maxRecDepth 100000 in
theorem wfCheck_right (R : List (List UInt8)) (hR : RowsRight R) (P : ByteArray) (hP : PassRight P) (hz : P.size ≤ 1000000) (w : World) (v : Value) (h : RowsIn w v R) :
    Calls Tryz.prog 71 #[.agg #[v, .string P]] w fun e w' => e = .returned (.int .i64 0) ∧ Below w.heap.size w w' := by
  obtain ⟨W1, hW1⟩ : ∃ X : World, X = w.alloc (.cells #[v, .string P] 84) := ⟨_, rfl⟩
  have hB1 : Below w.heap.size w W1 := by rw [hW1]; exact (Below.refl _ _).alloc (Nat.le_refl _) _
  have h1 := h.later hB1
  have c0 : W1.cell? ⟨w.heap.size, 0, none⟩ = some v := by rw [hW1]; simp
  have c0' : W1.cell? ⟨w.heap.size, 1, none⟩ = some (.string P) := by rw [hW1]; simp
  have hl0 : w.heap.size < W1.heap.size := World.block_lt_of_cell? W1 ⟨w.heap.size, 0, none⟩ c0
  have hr := wfCheckRows_right R hR W1 v h1
  have hp := fun X => wfCheckPass_right P hP hz X
  obtain ⟨a, c, rfl, -, -⟩ := id h1
  have HB := Lib.hid hB1
  have HW := Lib.hid hW1
  clear hB1 hW1 h1 h hR hP
  go_enter Tryz.func71, Tryz.ntmps71
  go_wp2_with fail
  rw [← HW.out]
  go_wp2_with fail
  refine hr.mono ?_
  rintro e w2 ⟨rfl, hB2⟩
  have d0 := (hB2.cell (p := ⟨w.heap.size, 1, none⟩) hl0).trans c0'
  have HB2 := Lib.hid (HB.out.trans (hB2.mono HB.out.size))
  clear hB2 hr
  go_wp2_with fail
  refine (hp _).mono ?_
  rintro e w3 ⟨rfl, hB3⟩
  go_wp2_with fail
  go_ret
  exact ⟨rfl, HB2.out.trans (hB3.mono HB2.out.size)⟩
end Go.Proofs.YtoipgliokelcfaaGreatDoor
