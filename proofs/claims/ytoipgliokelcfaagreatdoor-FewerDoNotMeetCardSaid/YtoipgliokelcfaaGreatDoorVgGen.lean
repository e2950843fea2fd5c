/- Package pattern's Generate, Counting, Minimum. -/
import Derived.Test.YtoipgliokelcfaaGreatDoorVgVec
import Derived.StillTailTactics
namespace Go.Proofs.YtoipgliokelcfaaGreatDoor
open Go.RowKit

set_option maxRecDepth 100000 in
theorem generate1_any (cl : List Nat) (long : Nat) (hl : long ≤ 9) (W : World) (B pc pl : Nat) (v : Value) (hpc : W.cell? ⟨pc, 0, none⟩ = some v) (hv : NatsAt B W v cl) (hpl : W.cell? ⟨pl, 0, none⟩ = some (.int .i64 (long : Int))) (k : Nat) (hk : k < cl.length) (hcl : ∀ x, x ∈ cl → x < 1024) :
    Calls Tryz.prog 48 #[.int .i64 (k : Int), .pointer (some ⟨pc, 0, none⟩), .pointer (some ⟨pl, 0, none⟩)] W fun e w' => e = .returned (strV (digL (cl.getD k 0) long)) ∧ Below W.heap.size W w' := by
  have hrow : W.ownsRow B 3 1 v cl.length (cl.map natV) := hv
  obtain ⟨-, ⟨_, h0⟩ | ⟨g, cap, cur, rfl, -⟩⟩ := hv
  · omega
  have hc := hrow.cellAt k (by omega)
  have hx : cl.getD k 0 < 1024 := by
    have e : cl.getD k 0 = cl[k] := by simp [List.getD, hk]
    rw [e]
    exact hcl _ (List.getElem_mem hk)
  have hcv : (cl.map natV)[k]? = some (.int .i64 ((cl.getD k 0 : Nat) : Int)) := by
    simp [List.getD, hk, natV]
  rw [hcv] at hc
  have hd := digits_any (cl.getD k 0) long hx (by omega) W.drew
  have hk0 : (0 : Int) ≤ (k : Int) := by omega
  have hk1 : (k : Int) < (cl.length : Int) := by omega
  clear hcv hrow hcl
  generalize cl.getD k 0 = x at hc hd ⊢
  clear hx
  change Calls _ _ _ _ fun e w' => e = .returned (strV (digL x long)) ∧ _ at hd
  obtain ⟨sv, hsv⟩ : ∃ sv, sv = strV (digL x long) := ⟨_, rfl⟩
  rw [← hsv] at hd ⊢
  clear hsv
  go_enter Tryz.func48, Tryz.ntmps48
  go_wp2_with fail
  go_still_tail 5, (by kernel_rfl)
  change wpList _ _ _ _ _ W.drew
  go_wp2_with fail
  refine hd.mono ?_
  rintro e w2 ⟨rfl, hB⟩
  go_wp2_with fail
  go_ret
  exact ⟨rfl, hB.os, hB.tape, hB.output, hB.size, hB.block⟩
/-- The codes of a goal are small. -/
theorem codes_small (goal k x : Nat) (hk : k ≤ 9) (hx : x ∈ codesL goal k) : x < 1024 := by
  unfold codesL codesTo at hx
  have h1 := (List.mem_filter.1 hx).1
  have h2 := List.mem_range.1 h1
  have := pow_nine k hk
  omega
theorem genS_map (goal nets k : Nat) (h : nets ≤ (codesL goal k).length) : (List.range nets).map (fun j => digL ((codesL goal k).getD j 0) k) = genS goal nets k := by
  unfold genS
  apply List.ext_getElem
  · simp; omega
  · intro i h1 h2
    have hi : i < nets := by simpa using h1
    have hi2 : i < (codesL goal k).length := by omega
    simp [List.getD, hi2]

set_option maxRecDepth 100000 in
theorem generate_bad (nets goal : Int) (ec : Int) (hec : ec ≠ 0) (w : World) (h : Calls Tryz.prog 47 #[.int .i64 nets, .int .i64 goal] w fun e w' => e = .returned (.tuple #[.int .i64 0, .slice none 0 0, .int .i64 ec]) ∧ w = w') : Calls Tryz.prog 17 #[.int .i64 nets, .int .i64 goal] w fun e w' => e = .returned (.tuple #[.slice none 0 0, .int .i64 ec]) ∧ Below w.heap.size w w' := by
  have hne : (ec != 0) = true := by simpa using hec
  clear hec
  have hB0 : Below w.heap.size w ((w.alloc (.cells #[.int .i64 0] 3)).alloc (.cells #[.slice none 0 0] 22)) := ((Below.refl _ _).alloc (Nat.le_refl _) _).alloc (by simp) _
  have HB := Lib.hid hB0
  clear hB0
  go_enter Tryz.func17, Tryz.ntmps17
  go_wp2_with fail
  refine h.mono ?_
  rintro e w' ⟨rfl, rfl⟩
  clear h
  go_wp2_with fail
  go_ret2
  exact ⟨rfl, HB.out⟩
set_option maxRecDepth 100000 in
theorem minimum_bad (nets goal : Int) (ec : Int) (w : World) (h : Calls Tryz.prog 47 #[.int .i64 nets, .int .i64 goal] w fun e w' => e = .returned (.tuple #[.int .i64 0, .slice none 0 0, .int .i64 ec]) ∧ w = w') : Calls Tryz.prog 18 #[.int .i64 nets, .int .i64 goal] w fun e w' => e = .returned (.tuple #[.int .i64 0, .int .i64 ec]) ∧ w = w' := by
  go_enter Tryz.func18, Tryz.ntmps18
  go_wp2_with fail
  refine h.mono ?_
  rintro e w' ⟨rfl, rfl⟩
  clear h
  go_wp2_with fail
  go_ret2
  exact ⟨rfl, rfl⟩

set_option maxHeartbeats 1000000 in
set_option maxRecDepth 100000 in
theorem minimum1_ok (nets : Nat) (h1 : 1 ≤ nets) (h2 : nets ≤ 100) (w : World) : Calls Tryz.prog 18 #[.int .i64 (nets : Int), .int .i64 1] w fun e w' => ∃ k : Nat, k ≤ 9 ∧ Least 1 nets k ∧ e = .returned (.tuple #[.int .i64 (k : Int), .int .i64 0]) ∧ Below w.heap.size w w' := by
  have hs := shortest1_any nets h1 h2 w
  go_enter Tryz.func18, Tryz.ntmps18
  go_wp2_with fail
  refine hs.mono ?_
  rintro e w2 ⟨k, v, hk, hle, rfl, hv, hB⟩
  clear hs
  have HV := Lib.hid (⟨hle, hB⟩ : _ ∧ _)
  clear hle hB
  obtain ⟨-, ⟨rfl, h0⟩ | ⟨g, cap, cur, rfl, -⟩⟩ := hv
  · clear h0
    go_wp2_with fail
    go_ret2
    exact ⟨k, hk, HV.out.1, rfl, HV.out.2⟩
  · go_wp2_with fail
    go_ret2
    exact ⟨k, hk, HV.out.1, rfl, HV.out.2⟩
set_option maxHeartbeats 2000000 in
set_option maxRecDepth 100000 in
theorem generate1_ok (nets : Nat) (h1 : 1 ≤ nets) (h2 : nets ≤ 100) (w : World) : Calls Tryz.prog 17 #[.int .i64 (nets : Int), .int .i64 1] w fun e w' => ∃ (k : Nat) (v : Value), k ≤ 9 ∧ Least 1 nets k ∧ e = .returned (.tuple #[v, .int .i64 0]) ∧ StrsAt w.heap.size w' v (turnL (genS 1 nets k) k) ∧ Below w.heap.size w w' := by
  have hs := shortest1_any nets h1 h2 w
  go_enter Tryz.func17, Tryz.ntmps17
  go_wp2_with fail
  refine hs.mono ?_
  rintro e w2 ⟨k, v, hk, hle, rfl, hv, hB⟩
  clear hs
  have hv2 : w2.ownsRow w.heap.size 3 1 v (codesL 1 k).length ((codesL 1 k).map natV) := hv
  obtain ⟨cl, hcl⟩ : ∃ cl, cl = codesL 1 k := ⟨_, rfl⟩
  have hgen := genS_map 1 nets k hle.1
  have hsm := fun x hx => codes_small 1 k x hk hx
  rw [← hcl] at hv hv2 hgen hsm
  have hln : nets ≤ cl.length := by rw [hcl]; exact hle.1
  have HV := Lib.hid (⟨hle, hB, hgen, hsm, hv⟩ : _ ∧ _ ∧ _ ∧ _ ∧ _)
  clear hle hB hgen hsm hcl
  obtain ⟨-, ⟨rfl, h0⟩ | ⟨g, cap, cur, rfl, -⟩⟩ := hv2
  · omega
  clear hv
  obtain ⟨W3, hW3⟩ : ∃ W3 : World, W3 = (w2.alloc (.cells #[.int .i64 (k : Int)] 3)).alloc (.cells #[.slice (some ⟨g, 0, none⟩) cl.length cap] 22) := ⟨_, rfl⟩
  have hB3 : Below w2.heap.size w2 W3 := by rw [hW3]; exact ((Below.refl _ _).alloc (Nat.le_refl _) _).alloc (by simp) _
  have hpl : W3.cell? ⟨w2.heap.size, 0, none⟩ = some (.int .i64 (k : Int)) := by
    have := (fresh_at w2 W3 #[.int .i64 (k : Int)] 3 (by rw [hW3]; exact (Below.refl _ _).alloc (by simp) _) 0).1
    exact this
  have hpc : W3.cell? ⟨w2.heap.size + 1, 0, none⟩ = some (.slice (some ⟨g, 0, none⟩) cl.length cap) := by
    have := (fresh_at (w2.alloc (.cells #[.int .i64 (k : Int)] 3)) W3 #[.slice (some ⟨g, 0, none⟩) cl.length cap] 22 (by rw [hW3]; exact Below.refl _ _) 0).1
    simp only [World.size_alloc] at this
    exact this
  have hs3 : W3.heap.size = w2.heap.size + 2 := by rw [hW3]; simp
  have hvec := vectorsOfGenerate1_any nets k h1 (by omega) (by omega) (fun j => digL (cl.getD j 0) k) (fun j _ => digL_len _ _) W3 (w2.heap.size + 1) w2.heap.size (fun W j hW hj =>
    generate1_any cl k hk W w.heap.size (w2.heap.size + 1) w2.heap.size (.slice (some ⟨g, 0, none⟩) cl.length cap) ((hW.cell (p := ⟨w2.heap.size + 1, 0, none⟩) (by show w2.heap.size + 1 < _; omega)).trans hpc) (row_later (row_later HV.out.2.2.2.2 hB3) hW) ((hW.cell (p := ⟨w2.heap.size, 0, none⟩) (by show w2.heap.size < _; omega)).trans hpl) j (by omega) HV.out.2.2.2.1)
  rw [HV.out.2.2.1] at hvec
  have HW3 := Lib.hid hW3
  have HB3 := Lib.hid hB3
  have hsz : w2.heap.size ≤ W3.heap.size := by omega
  clear hB3 hs3 hpc hW3
  go_wp2_with fail
  rw [← HW3.out]
  go_wp2_with fail
  refine hvec.mono ?_
  rintro e w4 ⟨v', rfl, hS, hB4⟩
  clear hvec
  have hb0 := HV.out.2.1.size
  have HF := Lib.hid (⟨row_base hS (Nat.le_trans hb0 hsz), HV.out.2.1.trans ((HB3.out.trans (hB4.mono hsz)).mono hb0)⟩ : w4.ownsRow w.heap.size 9 1 v' _ _ ∧ _)
  have hS2 := hS
  clear hS hB4
  obtain ⟨-, ⟨rfl, -⟩ | ⟨g2, cap2, cur2, rfl, -⟩⟩ := hS2
  · go_wp2_with fail
    go_ret2
    exact ⟨k, _, hk, HV.out.1, rfl, HF.out⟩
  · go_wp2_with fail
    go_ret2
    exact ⟨k, _, hk, HV.out.1, rfl, HF.out⟩

set_option maxHeartbeats 1000000 in
set_option maxRecDepth 100000 in
theorem minimum2_ok (nets : Nat) (h1 : 1 ≤ nets) (h2 : nets ≤ 100) (w : World) : Calls Tryz.prog 18 #[.int .i64 (nets : Int), .int .i64 2] w fun e w' => ∃ k : Nat, k ≤ 9 ∧ Least 2 nets k ∧ e = .returned (.tuple #[.int .i64 (k : Int), .int .i64 0]) ∧ Below w.heap.size w w' := by
  have hs := shortest2_any nets h1 h2 w
  go_enter Tryz.func18, Tryz.ntmps18
  go_wp2_with fail
  refine hs.mono ?_
  rintro e w2 ⟨k, v, hk, hle, rfl, hv, hB⟩
  clear hs
  have HV := Lib.hid (⟨hle, hB⟩ : _ ∧ _)
  clear hle hB
  obtain ⟨-, ⟨rfl, h0⟩ | ⟨g, cap, cur, rfl, -⟩⟩ := hv
  · clear h0
    go_wp2_with fail
    go_ret2
    exact ⟨k, hk, HV.out.1, rfl, HV.out.2⟩
  · go_wp2_with fail
    go_ret2
    exact ⟨k, hk, HV.out.1, rfl, HV.out.2⟩
set_option maxHeartbeats 2000000 in
set_option maxRecDepth 100000 in
theorem generate2_ok (nets : Nat) (h1 : 1 ≤ nets) (h2 : nets ≤ 100) (w : World) : Calls Tryz.prog 17 #[.int .i64 (nets : Int), .int .i64 2] w fun e w' => ∃ (k : Nat) (v : Value), k ≤ 9 ∧ Least 2 nets k ∧ e = .returned (.tuple #[v, .int .i64 0]) ∧ StrsAt w.heap.size w' v (turnL (genS 2 nets k) k) ∧ Below w.heap.size w w' := by
  have hs := shortest2_any nets h1 h2 w
  go_enter Tryz.func17, Tryz.ntmps17
  go_wp2_with fail
  refine hs.mono ?_
  rintro e w2 ⟨k, v, hk, hle, rfl, hv, hB⟩
  clear hs
  have hv2 : w2.ownsRow w.heap.size 3 1 v (codesL 2 k).length ((codesL 2 k).map natV) := hv
  obtain ⟨cl, hcl⟩ : ∃ cl, cl = codesL 2 k := ⟨_, rfl⟩
  have hgen := genS_map 2 nets k hle.1
  have hsm := fun x hx => codes_small 2 k x hk hx
  rw [← hcl] at hv hv2 hgen hsm
  have hln : nets ≤ cl.length := by rw [hcl]; exact hle.1
  have HV := Lib.hid (⟨hle, hB, hgen, hsm, hv⟩ : _ ∧ _ ∧ _ ∧ _ ∧ _)
  clear hle hB hgen hsm hcl
  obtain ⟨-, ⟨rfl, h0⟩ | ⟨g, cap, cur, rfl, -⟩⟩ := hv2
  · omega
  clear hv
  obtain ⟨W3, hW3⟩ : ∃ W3 : World, W3 = (w2.alloc (.cells #[.int .i64 (k : Int)] 3)).alloc (.cells #[.slice (some ⟨g, 0, none⟩) cl.length cap] 22) := ⟨_, rfl⟩
  have hB3 : Below w2.heap.size w2 W3 := by rw [hW3]; exact ((Below.refl _ _).alloc (Nat.le_refl _) _).alloc (by simp) _
  have hpl : W3.cell? ⟨w2.heap.size, 0, none⟩ = some (.int .i64 (k : Int)) := by
    have := (fresh_at w2 W3 #[.int .i64 (k : Int)] 3 (by rw [hW3]; exact (Below.refl _ _).alloc (by simp) _) 0).1
    exact this
  have hpc : W3.cell? ⟨w2.heap.size + 1, 0, none⟩ = some (.slice (some ⟨g, 0, none⟩) cl.length cap) := by
    have := (fresh_at (w2.alloc (.cells #[.int .i64 (k : Int)] 3)) W3 #[.slice (some ⟨g, 0, none⟩) cl.length cap] 22 (by rw [hW3]; exact Below.refl _ _) 0).1
    simp only [World.size_alloc] at this
    exact this
  have hs3 : W3.heap.size = w2.heap.size + 2 := by rw [hW3]; simp
  have hvec := vectorsOfGenerate1_any nets k h1 (by omega) (by omega) (fun j => digL (cl.getD j 0) k) (fun j _ => digL_len _ _) W3 (w2.heap.size + 1) w2.heap.size (fun W j hW hj =>
    generate1_any cl k hk W w.heap.size (w2.heap.size + 1) w2.heap.size (.slice (some ⟨g, 0, none⟩) cl.length cap) ((hW.cell (p := ⟨w2.heap.size + 1, 0, none⟩) (by show w2.heap.size + 1 < _; omega)).trans hpc) (row_later (row_later HV.out.2.2.2.2 hB3) hW) ((hW.cell (p := ⟨w2.heap.size, 0, none⟩) (by show w2.heap.size < _; omega)).trans hpl) j (by omega) HV.out.2.2.2.1)
  rw [HV.out.2.2.1] at hvec
  have HW3 := Lib.hid hW3
  have HB3 := Lib.hid hB3
  have hsz : w2.heap.size ≤ W3.heap.size := by omega
  clear hB3 hs3 hpc hW3
  go_wp2_with fail
  rw [← HW3.out]
  go_wp2_with fail
  refine hvec.mono ?_
  rintro e w4 ⟨v', rfl, hS, hB4⟩
  clear hvec
  have hb0 := HV.out.2.1.size
  have HF := Lib.hid (⟨row_base hS (Nat.le_trans hb0 hsz), HV.out.2.1.trans ((HB3.out.trans (hB4.mono hsz)).mono hb0)⟩ : w4.ownsRow w.heap.size 9 1 v' _ _ ∧ _)
  have hS2 := hS
  clear hS hB4
  obtain ⟨-, ⟨rfl, -⟩ | ⟨g2, cap2, cur2, rfl, -⟩⟩ := hS2
  · go_wp2_with fail
    go_ret2
    exact ⟨k, _, hk, HV.out.1, rfl, HF.out⟩
  · go_wp2_with fail
    go_ret2
    exact ⟨k, _, hk, HV.out.1, rfl, HF.out⟩

set_option maxHeartbeats 1000000 in
set_option maxRecDepth 100000 in
theorem minimum3_ok (nets : Nat) (h1 : 1 ≤ nets) (h2 : nets ≤ 100) (w : World) : Calls Tryz.prog 18 #[.int .i64 (nets : Int), .int .i64 3] w fun e w' => ∃ k : Nat, k ≤ 9 ∧ Least 3 nets k ∧ e = .returned (.tuple #[.int .i64 (k : Int), .int .i64 0]) ∧ Below w.heap.size w w' := by
  have hs := shortest3_any nets h1 h2 w
  go_enter Tryz.func18, Tryz.ntmps18
  go_wp2_with fail
  refine hs.mono ?_
  rintro e w2 ⟨k, v, hk, hle, rfl, hv, hB⟩
  clear hs
  have HV := Lib.hid (⟨hle, hB⟩ : _ ∧ _)
  clear hle hB
  obtain ⟨-, ⟨rfl, h0⟩ | ⟨g, cap, cur, rfl, -⟩⟩ := hv
  · clear h0
    go_wp2_with fail
    go_ret2
    exact ⟨k, hk, HV.out.1, rfl, HV.out.2⟩
  · go_wp2_with fail
    go_ret2
    exact ⟨k, hk, HV.out.1, rfl, HV.out.2⟩
set_option maxHeartbeats 2000000 in
set_option maxRecDepth 100000 in
theorem generate3_ok (nets : Nat) (h1 : 1 ≤ nets) (h2 : nets ≤ 100) (w : World) : Calls Tryz.prog 17 #[.int .i64 (nets : Int), .int .i64 3] w fun e w' => ∃ (k : Nat) (v : Value), k ≤ 9 ∧ Least 3 nets k ∧ e = .returned (.tuple #[v, .int .i64 0]) ∧ StrsAt w.heap.size w' v (turnL (genS 3 nets k) k) ∧ Below w.heap.size w w' := by
  have hs := shortest3_any nets h1 h2 w
  go_enter Tryz.func17, Tryz.ntmps17
  go_wp2_with fail
  refine hs.mono ?_
  rintro e w2 ⟨k, v, hk, hle, rfl, hv, hB⟩
  clear hs
  have hv2 : w2.ownsRow w.heap.size 3 1 v (codesL 3 k).length ((codesL 3 k).map natV) := hv
  obtain ⟨cl, hcl⟩ : ∃ cl, cl = codesL 3 k := ⟨_, rfl⟩
  have hgen := genS_map 3 nets k hle.1
  have hsm := fun x hx => codes_small 3 k x hk hx
  rw [← hcl] at hv hv2 hgen hsm
  have hln : nets ≤ cl.length := by rw [hcl]; exact hle.1
  have HV := Lib.hid (⟨hle, hB, hgen, hsm, hv⟩ : _ ∧ _ ∧ _ ∧ _ ∧ _)
  clear hle hB hgen hsm hcl
  obtain ⟨-, ⟨rfl, h0⟩ | ⟨g, cap, cur, rfl, -⟩⟩ := hv2
  · omega
  clear hv
  obtain ⟨W3, hW3⟩ : ∃ W3 : World, W3 = (w2.alloc (.cells #[.int .i64 (k : Int)] 3)).alloc (.cells #[.slice (some ⟨g, 0, none⟩) cl.length cap] 22) := ⟨_, rfl⟩
  have hB3 : Below w2.heap.size w2 W3 := by rw [hW3]; exact ((Below.refl _ _).alloc (Nat.le_refl _) _).alloc (by simp) _
  have hpl : W3.cell? ⟨w2.heap.size, 0, none⟩ = some (.int .i64 (k : Int)) := by
    have := (fresh_at w2 W3 #[.int .i64 (k : Int)] 3 (by rw [hW3]; exact (Below.refl _ _).alloc (by simp) _) 0).1
    exact this
  have hpc : W3.cell? ⟨w2.heap.size + 1, 0, none⟩ = some (.slice (some ⟨g, 0, none⟩) cl.length cap) := by
    have := (fresh_at (w2.alloc (.cells #[.int .i64 (k : Int)] 3)) W3 #[.slice (some ⟨g, 0, none⟩) cl.length cap] 22 (by rw [hW3]; exact Below.refl _ _) 0).1
    simp only [World.size_alloc] at this
    exact this
  have hs3 : W3.heap.size = w2.heap.size + 2 := by rw [hW3]; simp
  have hvec := vectorsOfGenerate1_any nets k h1 (by omega) (by omega) (fun j => digL (cl.getD j 0) k) (fun j _ => digL_len _ _) W3 (w2.heap.size + 1) w2.heap.size (fun W j hW hj =>
    generate1_any cl k hk W w.heap.size (w2.heap.size + 1) w2.heap.size (.slice (some ⟨g, 0, none⟩) cl.length cap) ((hW.cell (p := ⟨w2.heap.size + 1, 0, none⟩) (by show w2.heap.size + 1 < _; omega)).trans hpc) (row_later (row_later HV.out.2.2.2.2 hB3) hW) ((hW.cell (p := ⟨w2.heap.size, 0, none⟩) (by show w2.heap.size < _; omega)).trans hpl) j (by omega) HV.out.2.2.2.1)
  rw [HV.out.2.2.1] at hvec
  have HW3 := Lib.hid hW3
  have HB3 := Lib.hid hB3
  have hsz : w2.heap.size ≤ W3.heap.size := by omega
  clear hB3 hs3 hpc hW3
  go_wp2_with fail
  rw [← HW3.out]
  go_wp2_with fail
  refine hvec.mono ?_
  rintro e w4 ⟨v', rfl, hS, hB4⟩
  clear hvec
  have hb0 := HV.out.2.1.size
  have HF := Lib.hid (⟨row_base hS (Nat.le_trans hb0 hsz), HV.out.2.1.trans ((HB3.out.trans (hB4.mono hsz)).mono hb0)⟩ : w4.ownsRow w.heap.size 9 1 v' _ _ ∧ _)
  have hS2 := hS
  clear hS hB4
  obtain ⟨-, ⟨rfl, -⟩ | ⟨g2, cap2, cur2, rfl, -⟩⟩ := hS2
  · go_wp2_with fail
    go_ret2
    exact ⟨k, _, hk, HV.out.1, rfl, HF.out⟩
  · go_wp2_with fail
    go_ret2
    exact ⟨k, _, hk, HV.out.1, rfl, HF.out⟩
end Go.Proofs.YtoipgliokelcfaaGreatDoor
