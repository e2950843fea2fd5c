/- Package pattern's codes: codesOf, shortest. -/
import Derived.Test.YtoipgliokelcfaaGreatDoorVgA
import Derived.Laws.MakeOwn
import Derived.Laws.OwnMore
namespace Go.Proofs.YtoipgliokelcfaaGreatDoor
open Go.RowKit

theorem Tryz.infoIntc : (Tryz.prog.info? 3).map (fun i => (i.zero, i.size, i.bytes)) = some (some (.int .i64 0), 1, 8) := by kernel_rfl
theorem one_new (W : World) (v : Value) (t : TypeId) : ∀ j u, [v][j]? = some u → (W.alloc (.cells #[v] t)).cell? ((⟨W.heap.size, 0, none⟩ : Addr).add j) = some u := cell_one_new W v t
abbrev natV (x : Nat) : Value := .int .i64 (x : Int)
/-- The slice value v has these numbers, in a block from B on. -/
def NatsAt (B : Nat) (w : World) (v : Value) (l : List Nat) : Prop := w.ownsRow B 3 1 v l.length (l.map natV)

set_option maxRecDepth 100000 in
theorem codesOf1_any (long : Nat) (hl : long ≤ 9) (w : World) : Calls Tryz.prog 84 #[.int .i64 (long : Int), .func (.func 115) #[] #[]] w fun e w' => ∃ v, e = .returned v ∧ NatsAt w.heap.size w' v (codesL 1 long) ∧ Below w.heap.size w w' := by
  obtain ⟨i0, hi, hz0, hz1, hz2⟩ := info_parts Tryz.infoIntc
  have hone := fun W => ones_any long hl W
  have hp9 := pow_nine long hl
  have hp1 : 1 ≤ 2 ^ long := Nat.one_le_two_pow
  obtain ⟨m, hm⟩ : ∃ m, m = 2 ^ long := ⟨_, rfl⟩
  have hco : codesL 1 long = codesTo 1 long m := by unfold codesL; rw [hm]
  have hsv := fun (n : Nat) (_ : n < 512) W => serv1_any n long W
  rw [hco]
  rw [← hm] at hone hp9 hp1
  clear hco hm
  go_enter Tryz.func84, Tryz.ntmps84
  go_wp2_with fail
  refine (hone _).mono ?_
  rintro e w' ⟨rfl, rfl⟩
  have hmm : IntKind.i64.wrap ((m : Int) - 1 + 1) = (m : Int) := by rw [IntWalk.i64_in _ (by omega)]; omega
  have hm2 : (m : Int) - 1 + 1 = (m : Int) := by omega
  clear hone
  go_wp2_with fail
  clear hmm hm2
  go_loopw [5, 6, 10] (fun v _ i wr => ∃ k : Nat, k ≤ m ∧ i = .int .i64 (k : Int) ∧ NatsAt w.heap.size wr v (codesTo 1 long k) ∧ Below w.heap.size w wr) (fun _ _ i _ => m - (intOf i).toNat)
  case atStart => exact ⟨0, by omega, rfl, World.ownsRow_nil _ _ _ _, Below.refl _ _⟩
  case round =>
    obtain ⟨k, hk, rfl, hown, hB⟩ := hrel
    have hcl := codesTo_len 1 long k
    have hsucc := codesTo_succ 1 long k
    by_cases hlt : k < m
    · have hs := fun W => hsv k (by omega) W
      unfold NatsAt at hown
      have hb1 := hB.size
      cases hb : servB 1 long k with
      | true =>
        rw [hb] at hs hsucc
        have HS := Lib.hid hsucc
        clear hsucc hb hsv
        generalize codesTo 1 long k = cs at hown hcl HS
        go_wp2_with fail
        refine (hs _).mono ?_
        rintro e w' ⟨rfl, rfl⟩
        clear hs
        go_wp2_with (at_builtin; refine wpList_append_own _ rfl _ _ 22 rfl w.heap.size 3 i0 (.int .i64 0) 1 8 Tryz.underlying22 hi hz0 hz1 hz2 rfl (by decide) _ _ _ rfl (hown.alloc _) ⟨wr.heap.size, 0, none⟩ 1 1 [.int .i64 (k : Int)] rfl rfl ?c1 ?c2 ?c3 ?c4 ?c5 ?_)
        case c1 => exact cell_one_new _ _ _
        case c2 => exact ints_oneCell .i64 [(k : Int)]
        case c3 => unfold maxLen; omega
        case c4 => omega
        case c5 => simp; omega
        intro v' w4 hown' hg4 _
        have hB4 : Below w.heap.size w w4 := (hB.alloc hb1 _).grown hg4 (by simp; omega) (fun j hj => (hown.lt j hj).1)
        clear hown
        have HO := Lib.hid hown'
        clear hown'
        go_wp2_with fail
        go_roundw
        case rel => exact ⟨k + 1, by omega, by go_num, by rw [HS.out]; unfold NatsAt; have h := HO.out; simpa [natV] using h, hB4⟩
        case measure => simp [intOf]; omega
      | false =>
        rw [hb] at hs hsucc
        have HS := Lib.hid hsucc
        clear hsucc hb hsv
        have HO := Lib.hid hown
        clear hown
        go_wp2_with fail
        refine (hs _).mono ?_
        rintro e w' ⟨rfl, rfl⟩
        clear hs
        go_wp2_with fail
        go_roundw
        case rel => exact ⟨k + 1, by omega, by go_num, by rw [HS.out]; unfold NatsAt; simpa using HO.out, hB⟩
        case measure => simp [intOf]; omega
    · obtain rfl : k = m := by omega
      have HO := Lib.hid hown
      clear hown hsucc hsv
      go_wp2_with fail
      go_ret
      exact ⟨_, rfl, HO.out, hB⟩

set_option maxRecDepth 100000 in
theorem codesOf2_any (long : Nat) (hl : long ≤ 9) (w : World) : Calls Tryz.prog 84 #[.int .i64 (long : Int), .func (.func 116) #[] #[]] w fun e w' => ∃ v, e = .returned v ∧ NatsAt w.heap.size w' v (codesL 2 long) ∧ Below w.heap.size w w' := by
  obtain ⟨i0, hi, hz0, hz1, hz2⟩ := info_parts Tryz.infoIntc
  have hone := fun W => ones_any long hl W
  have hp9 := pow_nine long hl
  have hp1 : 1 ≤ 2 ^ long := Nat.one_le_two_pow
  obtain ⟨m, hm⟩ : ∃ m, m = 2 ^ long := ⟨_, rfl⟩
  have hco : codesL 2 long = codesTo 2 long m := by unfold codesL; rw [hm]
  have hsv := fun (n : Nat) (_ : n < 512) W => serv2_any n long hl W
  rw [hco]
  rw [← hm] at hone hp9 hp1
  clear hco hm
  go_enter Tryz.func84, Tryz.ntmps84
  go_wp2_with fail
  refine (hone _).mono ?_
  rintro e w' ⟨rfl, rfl⟩
  have hmm : IntKind.i64.wrap ((m : Int) - 1 + 1) = (m : Int) := by rw [IntWalk.i64_in _ (by omega)]; omega
  have hm2 : (m : Int) - 1 + 1 = (m : Int) := by omega
  clear hone
  go_wp2_with fail
  clear hmm hm2
  go_loopw [5, 6, 10] (fun v _ i wr => ∃ k : Nat, k ≤ m ∧ i = .int .i64 (k : Int) ∧ NatsAt w.heap.size wr v (codesTo 2 long k) ∧ Below w.heap.size w wr) (fun _ _ i _ => m - (intOf i).toNat)
  case atStart => exact ⟨0, by omega, rfl, World.ownsRow_nil _ _ _ _, Below.refl _ _⟩
  case round =>
    obtain ⟨k, hk, rfl, hown, hB⟩ := hrel
    have hcl := codesTo_len 2 long k
    have hsucc := codesTo_succ 2 long k
    by_cases hlt : k < m
    · have hs := fun W => hsv k (by omega) W
      unfold NatsAt at hown
      have hb1 := hB.size
      cases hb : servB 2 long k with
      | true =>
        rw [hb] at hs hsucc
        have HS := Lib.hid hsucc
        clear hsucc hb hsv
        generalize codesTo 2 long k = cs at hown hcl HS
        go_wp2_with fail
        refine (hs _).mono ?_
        rintro e w' ⟨rfl, rfl⟩
        clear hs
        go_wp2_with (at_builtin; refine wpList_append_own _ rfl _ _ 22 rfl w.heap.size 3 i0 (.int .i64 0) 1 8 Tryz.underlying22 hi hz0 hz1 hz2 rfl (by decide) _ _ _ rfl (hown.alloc _) ⟨wr.heap.size, 0, none⟩ 1 1 [.int .i64 (k : Int)] rfl rfl ?c1 ?c2 ?c3 ?c4 ?c5 ?_)
        case c1 => exact cell_one_new _ _ _
        case c2 => exact ints_oneCell .i64 [(k : Int)]
        case c3 => unfold maxLen; omega
        case c4 => omega
        case c5 => simp; omega
        intro v' w4 hown' hg4 _
        have hB4 : Below w.heap.size w w4 := (hB.alloc hb1 _).grown hg4 (by simp; omega) (fun j hj => (hown.lt j hj).1)
        clear hown
        have HO := Lib.hid hown'
        clear hown'
        go_wp2_with fail
        go_roundw
        case rel => exact ⟨k + 1, by omega, by go_num, by rw [HS.out]; unfold NatsAt; have h := HO.out; simpa [natV] using h, hB4⟩
        case measure => simp [intOf]; omega
      | false =>
        rw [hb] at hs hsucc
        have HS := Lib.hid hsucc
        clear hsucc hb hsv
        have HO := Lib.hid hown
        clear hown
        go_wp2_with fail
        refine (hs _).mono ?_
        rintro e w' ⟨rfl, rfl⟩
        clear hs
        go_wp2_with fail
        go_roundw
        case rel => exact ⟨k + 1, by omega, by go_num, by rw [HS.out]; unfold NatsAt; simpa using HO.out, hB⟩
        case measure => simp [intOf]; omega
    · obtain rfl : k = m := by omega
      have HO := Lib.hid hown
      clear hown hsucc hsv
      go_wp2_with fail
      go_ret
      exact ⟨_, rfl, HO.out, hB⟩

set_option maxRecDepth 100000 in
theorem codesOf3_any (long : Nat) (hl : long ≤ 9) (w : World) : Calls Tryz.prog 84 #[.int .i64 (long : Int), .func (.func 118) #[] #[]] w fun e w' => ∃ v, e = .returned v ∧ NatsAt w.heap.size w' v (codesL 3 long) ∧ Below w.heap.size w w' := by
  obtain ⟨i0, hi, hz0, hz1, hz2⟩ := info_parts Tryz.infoIntc
  have hone := fun W => ones_any long hl W
  have hp9 := pow_nine long hl
  have hp1 : 1 ≤ 2 ^ long := Nat.one_le_two_pow
  obtain ⟨m, hm⟩ : ∃ m, m = 2 ^ long := ⟨_, rfl⟩
  have hco : codesL 3 long = codesTo 3 long m := by unfold codesL; rw [hm]
  have hsv := fun (n : Nat) (h : n < 512) W => serv3_any n long h hl W
  rw [hco]
  rw [← hm] at hone hp9 hp1
  clear hco hm
  go_enter Tryz.func84, Tryz.ntmps84
  go_wp2_with fail
  refine (hone _).mono ?_
  rintro e w' ⟨rfl, rfl⟩
  have hmm : IntKind.i64.wrap ((m : Int) - 1 + 1) = (m : Int) := by rw [IntWalk.i64_in _ (by omega)]; omega
  have hm2 : (m : Int) - 1 + 1 = (m : Int) := by omega
  clear hone
  go_wp2_with fail
  clear hmm hm2
  go_loopw [5, 6, 10] (fun v _ i wr => ∃ k : Nat, k ≤ m ∧ i = .int .i64 (k : Int) ∧ NatsAt w.heap.size wr v (codesTo 3 long k) ∧ Below w.heap.size w wr) (fun _ _ i _ => m - (intOf i).toNat)
  case atStart => exact ⟨0, by omega, rfl, World.ownsRow_nil _ _ _ _, Below.refl _ _⟩
  case round =>
    obtain ⟨k, hk, rfl, hown, hB⟩ := hrel
    have hcl := codesTo_len 3 long k
    have hsucc := codesTo_succ 3 long k
    by_cases hlt : k < m
    · have hs := fun W => hsv k (by omega) W
      unfold NatsAt at hown
      have hb1 := hB.size
      cases hb : servB 3 long k with
      | true =>
        rw [hb] at hs hsucc
        have HS := Lib.hid hsucc
        clear hsucc hb hsv
        generalize codesTo 3 long k = cs at hown hcl HS
        go_wp2_with fail
        refine (hs _).mono ?_
        rintro e w' ⟨rfl, rfl⟩
        clear hs
        go_wp2_with (at_builtin; refine wpList_append_own _ rfl _ _ 22 rfl w.heap.size 3 i0 (.int .i64 0) 1 8 Tryz.underlying22 hi hz0 hz1 hz2 rfl (by decide) _ _ _ rfl (hown.alloc _) ⟨wr.heap.size, 0, none⟩ 1 1 [.int .i64 (k : Int)] rfl rfl ?c1 ?c2 ?c3 ?c4 ?c5 ?_)
        case c1 => exact cell_one_new _ _ _
        case c2 => exact ints_oneCell .i64 [(k : Int)]
        case c3 => unfold maxLen; omega
        case c4 => omega
        case c5 => simp; omega
        intro v' w4 hown' hg4 _
        have hB4 : Below w.heap.size w w4 := (hB.alloc hb1 _).grown hg4 (by simp; omega) (fun j hj => (hown.lt j hj).1)
        clear hown
        have HO := Lib.hid hown'
        clear hown'
        go_wp2_with fail
        go_roundw
        case rel => exact ⟨k + 1, by omega, by go_num, by rw [HS.out]; unfold NatsAt; have h := HO.out; simpa [natV] using h, hB4⟩
        case measure => simp [intOf]; omega
      | false =>
        rw [hb] at hs hsucc
        have HS := Lib.hid hsucc
        clear hsucc hb hsv
        have HO := Lib.hid hown
        clear hown
        go_wp2_with fail
        refine (hs _).mono ?_
        rintro e w' ⟨rfl, rfl⟩
        clear hs
        go_wp2_with fail
        go_roundw
        case rel => exact ⟨k + 1, by omega, by go_num, by rw [HS.out]; unfold NatsAt; simpa using HO.out, hB⟩
        case measure => simp [intOf]; omega
    · obtain rfl : k = m := by omega
      have HO := Lib.hid hown
      clear hown hsucc hsv
      go_wp2_with fail
      go_ret
      exact ⟨_, rfl, HO.out, hB⟩
end Go.Proofs.YtoipgliokelcfaaGreatDoor
