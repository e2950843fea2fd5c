/- Package pattern's shortest. -/
import Derived.Test.YtoipgliokelcfaaGreatDoorVgCodes
namespace Go.Proofs.YtoipgliokelcfaaGreatDoor
open Go.RowKit

theorem row_base {w : World} {B B' : Nat} {e : TypeId} {size : Nat} {v : Value} {n : Nat} {xs : List Value} (h : w.ownsRow B e size v n xs) (hB : B' ≤ B) : w.ownsRow B' e size v n xs := by
  obtain ⟨h1, h2 | ⟨g, cap, cur, e1, e2, e3⟩⟩ := h
  · exact ⟨h1, .inl h2⟩
  · exact ⟨h1, .inr ⟨g, cap, cur, e1, by omega, e3⟩⟩
theorem row_later {w w' : World} {B : Nat} {e : TypeId} {size : Nat} {v : Value} {n : Nat} {xs : List Value} (h : w.ownsRow B e size v n xs) (hB : Below w.heap.size w w') : w'.ownsRow B e size v n xs := by
  obtain ⟨h1, h2 | ⟨g, cap, cur, e1, e2, e3, e4⟩⟩ := h
  · exact ⟨h1, .inl h2⟩
  · exact ⟨h1, .inr ⟨g, cap, cur, e1, e2, (hB.block g (Array.getElem?_eq_some_iff.1 e3).1).trans e3, e4⟩⟩

theorem serving_none (goal : Int) (h : goal < 1 ∨ 3 < goal) (w : World) : Calls Tryz.prog 83 #[.int .i64 goal] w fun e w' => e = .returned (.tuple #[.nilFunc, .int .i64 4]) ∧ w = w' := by
  have h1 : (goal == 1) = false := by simp; omega
  have h2 : (goal == 2) = false := by simp; omega
  have h3 : (goal == 3) = false := by simp; omega
  clear h
  go_enter Tryz.func83, Tryz.ntmps83
  go_wp2_with fail
  go_ret2
  exact ⟨rfl, rfl⟩

set_option maxRecDepth 100000 in
theorem shortest_nets (nets goal : Int) (h : netsErr nets ≠ 0) (w : World) : Calls Tryz.prog 47 #[.int .i64 nets, .int .i64 goal] w fun e w' => e = .returned (.tuple #[.int .i64 0, .slice none 0 0, .int .i64 1]) ∧ w = w' := by
  have hc := checkNets_any nets w
  have e1 : netsErr nets = 1 := by
    unfold netsErr at h ⊢
    split
    · rename_i h2; rw [if_pos h2] at h; exact absurd rfl h
    · rfl
  rw [e1] at hc
  clear e1 h
  go_enter Tryz.func47, Tryz.ntmps47
  go_wp2_with fail
  refine hc.mono ?_
  rintro e w' ⟨rfl, rfl⟩
  go_wp2_with fail
  go_ret3
  exact ⟨rfl, rfl⟩
set_option maxRecDepth 100000 in
theorem shortest_goal (nets goal : Int) (h : netsErr nets = 0) (hg : goal < 1 ∨ 3 < goal) (w : World) : Calls Tryz.prog 47 #[.int .i64 nets, .int .i64 goal] w fun e w' => e = .returned (.tuple #[.int .i64 0, .slice none 0 0, .int .i64 4]) ∧ w = w' := by
  have hc := checkNets_any nets w
  have hs := serving_none goal hg w
  rw [h] at hc
  clear h hg
  go_enter Tryz.func47, Tryz.ntmps47
  go_wp2_with fail
  refine hc.mono ?_
  rintro e w' ⟨rfl, rfl⟩
  go_wp2_with fail
  refine hs.mono ?_
  rintro e w' ⟨rfl, rfl⟩
  go_wp2_with fail
  go_ret3
  exact ⟨rfl, rfl⟩

theorem serving1_ok (w : World) : Calls Tryz.prog 83 #[.int .i64 1] w fun e w' => e = .returned (.tuple #[.func (.func 115) #[] #[], .int .i64 0]) ∧ w = w' := by
  go_enter Tryz.func83, Tryz.ntmps83
  go_wp2_with fail
  go_ret2
  exact ⟨rfl, rfl⟩
set_option maxRecDepth 100000 in
theorem shortest1_any (nets : Nat) (h1 : 1 ≤ nets) (h2 : nets ≤ 100) (w : World) : Calls Tryz.prog 47 #[.int .i64 (nets : Int), .int .i64 1] w fun e w' => ∃ (k : Nat) (v : Value), k ≤ 9 ∧ Least 1 nets k ∧ e = .returned (.tuple #[.int .i64 (k : Int), v, .int .i64 0]) ∧ NatsAt w.heap.size w' v (codesL 1 k) ∧ Below w.heap.size w w' := by
  have hc := checkNets_any (nets : Int) w
  have e1 : netsErr (nets : Int) = 0 := if_pos (by omega)
  rw [e1] at hc
  have hs := serving1_ok w
  clear e1
  go_enter Tryz.func47, Tryz.ntmps47
  go_wp2_with fail
  refine hc.mono ?_
  rintro e w' ⟨rfl, rfl⟩
  clear hc
  go_wp2_with fail
  refine hs.mono ?_
  rintro e w' ⟨rfl, rfl⟩
  clear hs
  go_wp2_with fail
  go_loopw [10, 11] (fun i _ wr => ∃ k : Nat, k ≤ 9 ∧ i = .int .i64 (k : Int) ∧ (∀ j, j < k → (codesL 1 j).length < nets) ∧ Below w.heap.size w wr) (fun i _ _ => 9 - (intOf i).toNat)
  case atStart => exact ⟨0, by omega, rfl, fun j hj => by omega, Below.refl _ _⟩
  case round =>
    obtain ⟨k, hk, rfl, hno, hB⟩ := hrel
    have hcon := codesOf1_any k hk wr
    have hnine := codes_nine 1 (by decide) (by decide)
    have hlen := codesTo_len 1 k (2 ^ k)
    have hp9 := pow_nine k hk
    obtain ⟨cl, hcl⟩ : ∃ cl, cl = codesL 1 k := ⟨_, rfl⟩
    rw [← hcl] at hcon
    have hcz : cl.length ≤ 512 := by rw [hcl]; unfold codesL; omega
    have HN := Lib.hid (⟨hno, hcl, hnine⟩ : _ ∧ _ ∧ _)
    clear hno hcl hnine hlen hp9
    by_cases hlt : cl.length < nets
    · have hk9 : k < 9 := by
        rcases Nat.lt_or_ge k 9 with h | h
        · exact h
        · exfalso
          obtain ⟨_, e, h9⟩ := HN.out
          have : k = 9 := by omega
          rw [e, this] at hlt
          omega
      have hn2 : ((cl.length : Int) ≥ (nets : Int)) = False := by simp; omega
      go_wp2_with fail
      refine hcon.mono ?_
      rintro e w2 ⟨v, rfl, hown, hB2⟩
      clear hcon
      have hown2 : w2.ownsRow wr.heap.size 3 1 v cl.length (cl.map natV) := hown
      have HW := Lib.hid hown2
      obtain ⟨-, ⟨rfl, h0⟩ | ⟨g, cap, cur, rfl, -⟩⟩ := hown2
      · clear hown
        rw [h0] at hlt
        clear hn2
        have h00 : ¬ ((0 : Int) ≥ (nets : Int)) := by omega
        go_wp2_with fail
        go_roundw
        case rel =>
          refine ⟨k + 1, by omega, by go_num, fun j hj => ?_, hB.trans (hB2.mono hB.size)⟩
          by_cases e : j = k
          · rw [e, ← HN.out.2.1, h0]; exact hlt
          · exact HN.out.1 j (by omega)
        case measure => simp [intOf]; omega
      · clear hown hn2
        go_wp2_with fail
        go_roundw
        case rel =>
          refine ⟨k + 1, by omega, by go_num, fun j hj => ?_, hB.trans (hB2.mono hB.size)⟩
          by_cases e : j = k
          · rw [e, ← HN.out.2.1]; exact hlt
          · exact HN.out.1 j (by omega)
        case measure => simp [intOf]; omega
    · have hge : nets ≤ cl.length := by omega
      go_wp2_with fail
      refine hcon.mono ?_
      rintro e w2 ⟨v, rfl, hown, hB2⟩
      clear hcon
      have hown2 : w2.ownsRow wr.heap.size 3 1 v cl.length (cl.map natV) := hown
      have HW := Lib.hid hown
      clear hown
      obtain ⟨-, ⟨rfl, h0⟩ | ⟨g, cap, cur, rfl, -⟩⟩ := hown2
      · omega
      · go_wp2_with fail
        go_ret3
        refine ⟨k, _, hk, ⟨?_, HN.out.1⟩, rfl, ?_, hB.trans (hB2.mono hB.size)⟩
        · rw [← HN.out.2.1]; exact hge
        · rw [← HN.out.2.1]; exact row_base HW.out hB.size

theorem serving2_ok (w : World) : Calls Tryz.prog 83 #[.int .i64 2] w fun e w' => e = .returned (.tuple #[.func (.func 116) #[] #[], .int .i64 0]) ∧ w = w' := by
  go_enter Tryz.func83, Tryz.ntmps83
  go_wp2_with fail
  go_ret2
  exact ⟨rfl, rfl⟩
set_option maxRecDepth 100000 in
theorem shortest2_any (nets : Nat) (h1 : 1 ≤ nets) (h2 : nets ≤ 100) (w : World) : Calls Tryz.prog 47 #[.int .i64 (nets : Int), .int .i64 2] w fun e w' => ∃ (k : Nat) (v : Value), k ≤ 9 ∧ Least 2 nets k ∧ e = .returned (.tuple #[.int .i64 (k : Int), v, .int .i64 0]) ∧ NatsAt w.heap.size w' v (codesL 2 k) ∧ Below w.heap.size w w' := by
  have hc := checkNets_any (nets : Int) w
  have e1 : netsErr (nets : Int) = 0 := if_pos (by omega)
  rw [e1] at hc
  have hs := serving2_ok w
  clear e1
  go_enter Tryz.func47, Tryz.ntmps47
  go_wp2_with fail
  refine hc.mono ?_
  rintro e w' ⟨rfl, rfl⟩
  clear hc
  go_wp2_with fail
  refine hs.mono ?_
  rintro e w' ⟨rfl, rfl⟩
  clear hs
  go_wp2_with fail
  go_loopw [10, 11] (fun i _ wr => ∃ k : Nat, k ≤ 9 ∧ i = .int .i64 (k : Int) ∧ (∀ j, j < k → (codesL 2 j).length < nets) ∧ Below w.heap.size w wr) (fun i _ _ => 9 - (intOf i).toNat)
  case atStart => exact ⟨0, by omega, rfl, fun j hj => by omega, Below.refl _ _⟩
  case round =>
    obtain ⟨k, hk, rfl, hno, hB⟩ := hrel
    have hcon := codesOf2_any k hk wr
    have hnine := codes_nine 2 (by decide) (by decide)
    have hlen := codesTo_len 2 k (2 ^ k)
    have hp9 := pow_nine k hk
    obtain ⟨cl, hcl⟩ : ∃ cl, cl = codesL 2 k := ⟨_, rfl⟩
    rw [← hcl] at hcon
    have hcz : cl.length ≤ 512 := by rw [hcl]; unfold codesL; omega
    have HN := Lib.hid (⟨hno, hcl, hnine⟩ : _ ∧ _ ∧ _)
    clear hno hcl hnine hlen hp9
    by_cases hlt : cl.length < nets
    · have hk9 : k < 9 := by
        rcases Nat.lt_or_ge k 9 with h | h
        · exact h
        · exfalso
          obtain ⟨_, e, h9⟩ := HN.out
          have : k = 9 := by omega
          rw [e, this] at hlt
          omega
      have hn2 : ((cl.length : Int) ≥ (nets : Int)) = False := by simp; omega
      go_wp2_with fail
      refine hcon.mono ?_
      rintro e w2 ⟨v, rfl, hown, hB2⟩
      clear hcon
      have hown2 : w2.ownsRow wr.heap.size 3 1 v cl.length (cl.map natV) := hown
      have HW := Lib.hid hown2
      obtain ⟨-, ⟨rfl, h0⟩ | ⟨g, cap, cur, rfl, -⟩⟩ := hown2
      · clear hown
        rw [h0] at hlt
        clear hn2
        have h00 : ¬ ((0 : Int) ≥ (nets : Int)) := by omega
        go_wp2_with fail
        go_roundw
        case rel =>
          refine ⟨k + 1, by omega, by go_num, fun j hj => ?_, hB.trans (hB2.mono hB.size)⟩
          by_cases e : j = k
          · rw [e, ← HN.out.2.1, h0]; exact hlt
          · exact HN.out.1 j (by omega)
        case measure => simp [intOf]; omega
      · clear hown hn2
        go_wp2_with fail
        go_roundw
        case rel =>
          refine ⟨k + 1, by omega, by go_num, fun j hj => ?_, hB.trans (hB2.mono hB.size)⟩
          by_cases e : j = k
          · rw [e, ← HN.out.2.1]; exact hlt
          · exact HN.out.1 j (by omega)
        case measure => simp [intOf]; omega
    · have hge : nets ≤ cl.length := by omega
      go_wp2_with fail
      refine hcon.mono ?_
      rintro e w2 ⟨v, rfl, hown, hB2⟩
      clear hcon
      have hown2 : w2.ownsRow wr.heap.size 3 1 v cl.length (cl.map natV) := hown
      have HW := Lib.hid hown
      clear hown
      obtain ⟨-, ⟨rfl, h0⟩ | ⟨g, cap, cur, rfl, -⟩⟩ := hown2
      · omega
      · go_wp2_with fail
        go_ret3
        refine ⟨k, _, hk, ⟨?_, HN.out.1⟩, rfl, ?_, hB.trans (hB2.mono hB.size)⟩
        · rw [← HN.out.2.1]; exact hge
        · rw [← HN.out.2.1]; exact row_base HW.out hB.size

theorem serving3_ok (w : World) : Calls Tryz.prog 83 #[.int .i64 3] w fun e w' => e = .returned (.tuple #[.func (.func 118) #[] #[], .int .i64 0]) ∧ w = w' := by
  go_enter Tryz.func83, Tryz.ntmps83
  go_wp2_with fail
  go_ret2
  exact ⟨rfl, rfl⟩
set_option maxRecDepth 100000 in
theorem shortest3_any (nets : Nat) (h1 : 1 ≤ nets) (h2 : nets ≤ 100) (w : World) : Calls Tryz.prog 47 #[.int .i64 (nets : Int), .int .i64 3] w fun e w' => ∃ (k : Nat) (v : Value), k ≤ 9 ∧ Least 3 nets k ∧ e = .returned (.tuple #[.int .i64 (k : Int), v, .int .i64 0]) ∧ NatsAt w.heap.size w' v (codesL 3 k) ∧ Below w.heap.size w w' := by
  have hc := checkNets_any (nets : Int) w
  have e1 : netsErr (nets : Int) = 0 := if_pos (by omega)
  rw [e1] at hc
  have hs := serving3_ok w
  clear e1
  go_enter Tryz.func47, Tryz.ntmps47
  go_wp2_with fail
  refine hc.mono ?_
  rintro e w' ⟨rfl, rfl⟩
  clear hc
  go_wp2_with fail
  refine hs.mono ?_
  rintro e w' ⟨rfl, rfl⟩
  clear hs
  go_wp2_with fail
  go_loopw [10, 11] (fun i _ wr => ∃ k : Nat, k ≤ 9 ∧ i = .int .i64 (k : Int) ∧ (∀ j, j < k → (codesL 3 j).length < nets) ∧ Below w.heap.size w wr) (fun i _ _ => 9 - (intOf i).toNat)
  case atStart => exact ⟨0, by omega, rfl, fun j hj => by omega, Below.refl _ _⟩
  case round =>
    obtain ⟨k, hk, rfl, hno, hB⟩ := hrel
    have hcon := codesOf3_any k hk wr
    have hnine := codes_nine 3 (by decide) (by decide)
    have hlen := codesTo_len 3 k (2 ^ k)
    have hp9 := pow_nine k hk
    obtain ⟨cl, hcl⟩ : ∃ cl, cl = codesL 3 k := ⟨_, rfl⟩
    rw [← hcl] at hcon
    have hcz : cl.length ≤ 512 := by rw [hcl]; unfold codesL; omega
    have HN := Lib.hid (⟨hno, hcl, hnine⟩ : _ ∧ _ ∧ _)
    clear hno hcl hnine hlen hp9
    by_cases hlt : cl.length < nets
    · have hk9 : k < 9 := by
        rcases Nat.lt_or_ge k 9 with h | h
        · exact h
        · exfalso
          obtain ⟨_, e, h9⟩ := HN.out
          have : k = 9 := by omega
          rw [e, this] at hlt
          omega
      have hn2 : ((cl.length : Int) ≥ (nets : Int)) = False := by simp; omega
      go_wp2_with fail
      refine hcon.mono ?_
      rintro e w2 ⟨v, rfl, hown, hB2⟩
      clear hcon
      have hown2 : w2.ownsRow wr.heap.size 3 1 v cl.length (cl.map natV) := hown
      have HW := Lib.hid hown2
      obtain ⟨-, ⟨rfl, h0⟩ | ⟨g, cap, cur, rfl, -⟩⟩ := hown2
      · clear hown
        rw [h0] at hlt
        clear hn2
        have h00 : ¬ ((0 : Int) ≥ (nets : Int)) := by omega
        go_wp2_with fail
        go_roundw
        case rel =>
          refine ⟨k + 1, by omega, by go_num, fun j hj => ?_, hB.trans (hB2.mono hB.size)⟩
          by_cases e : j = k
          · rw [e, ← HN.out.2.1, h0]; exact hlt
          · exact HN.out.1 j (by omega)
        case measure => simp [intOf]; omega
      · clear hown hn2
        go_wp2_with fail
        go_roundw
        case rel =>
          refine ⟨k + 1, by omega, by go_num, fun j hj => ?_, hB.trans (hB2.mono hB.size)⟩
          by_cases e : j = k
          · rw [e, ← HN.out.2.1]; exact hlt
          · exact HN.out.1 j (by omega)
        case measure => simp [intOf]; omega
    · have hge : nets ≤ cl.length := by omega
      go_wp2_with fail
      refine hcon.mono ?_
      rintro e w2 ⟨v, rfl, hown, hB2⟩
      clear hcon
      have hown2 : w2.ownsRow wr.heap.size 3 1 v cl.length (cl.map natV) := hown
      have HW := Lib.hid hown
      clear hown
      obtain ⟨-, ⟨rfl, h0⟩ | ⟨g, cap, cur, rfl, -⟩⟩ := hown2
      · omega
      · go_wp2_with fail
        go_ret3
        refine ⟨k, _, hk, ⟨?_, HN.out.1⟩, rfl, ?_, hB.trans (hB2.mono hB.size)⟩
        · rw [← HN.out.2.1]; exact hge
        · rw [← HN.out.2.1]; exact row_base HW.out hB.size
end Go.Proofs.YtoipgliokelcfaaGreatDoor
