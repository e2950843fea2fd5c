/- What is wrong with a fault: CheckFault and the reference's FaultFault. Made by gens/frc.py. -/
import Derived.Test.YtgnkihiibednoaaGreatDoorFrB
namespace Go.Proofs.YtgnkihiibednoaaGreatDoor
open Go.RowKit

theorem mem_take_succ (l : List Int) (x : Int) (k : Nat) (hk : k < l.length) (h : x ∉ l.take k) (hx : l.getD k 0 ≠ x) : x ∉ l.take (k + 1) := by
  rw [List.take_succ_eq_append_getElem hk, List.mem_append]
  have e : l.getD k 0 = l[k] := by simp [hk]
  rw [e] at hx
  rintro (h1 | h1)
  · exact h h1
  · exact hx (List.mem_singleton.1 h1).symm
theorem mem_getD (l : List Int) (x : Int) (k : Nat) (hk : k < l.length) (hx : l.getD k 0 = x) : x ∈ l := by
  have e : l.getD k 0 = l[k] := by simp [hk]
  rw [e] at hx
  exact hx ▸ List.getElem_mem hk
set_option maxRecDepth 100000 in
theorem indexInt_any (l : List Int) (hz : l.length ≤ 1000000) (x : Int) (w : World) (v : Value) (h : NetsAt w v l) :
    Calls Tryz.prog 70 #[v, .int .i64 x] w fun e w' => (∃ r : Int, e = .returned (.int .i64 r) ∧ decide (0 ≤ r) = decide (x ∈ l)) ∧ Below w.heap.size w w' := by
  obtain ⟨a, c, rfl, -, hop⟩ := h
  obtain ⟨n, hn⟩ : ∃ n, n = l.length := ⟨_, rfl⟩
  rw [← hn] at hop hz ⊢
  have HC := Lib.hid (⟨hop, hn⟩ : _ ∧ _)
  clear hop hn
  go_enter Tryz.func70, Tryz.ntmps70
  go_wp2_with fail
  go_loopw [8] (fun i wr => ∃ (k : Nat), k ≤ n ∧ i = .int .i64 (k : Int) ∧ x ∉ l.take k ∧ Below w.heap.size w wr) (fun i _ => n - (intOf i).toNat)
  case atStart => exact ⟨0, by omega, rfl, by simp, Below.refl _ _⟩
  case round =>
    obtain ⟨k, hk, rfl, hE, hB⟩ := hrel
    by_cases hlt : k < n
    · obtain ⟨g, o, rfl, hg, hcell⟩ := HC.out.1 (by omega)
      have hc := (hB.cell (p := ⟨g, o + k, none⟩) hg).trans (hcell k hlt)
      have k0 : (0 : Int) ≤ (k : Int) := by omega
      have k1 : (k : Int) < (n : Int) := by omega
      have HB := Lib.hid hB
      by_cases hx : l.getD k 0 = x
      · have hm := mem_getD l x k (by rw [← HC.out.2]; exact hlt) hx
        rw [hx] at hc
        have n1 : (x == x) = true := by simp
        have HM := Lib.hid hm
        clear hB hcell hx hm hE
        go_wp2_with fail
        go_ret
        exact ⟨⟨_, rfl, by rw [decide_eq_true HM.out, decide_eq_true k0]⟩, HB.out⟩
      · have hm := mem_take_succ l x k (by rw [← HC.out.2]; exact hlt) hE hx
        obtain ⟨y, hy⟩ : ∃ y, y = l.getD k 0 := ⟨_, rfl⟩
        rw [← hy] at hc hx
        have n1 : (x == y) = false := by rw [beq_eq_false_iff_ne]; exact fun e => hx e.symm
        have HM := Lib.hid hm
        clear hB hcell hx hm hE hy
        go_wp2_with fail
        go_roundw
        case rel => exact ⟨k + 1, by omega, by go_num, HM.out, HB.out⟩
        case measure => simp [intOf]; omega
    · obtain rfl : k = n := by omega
      rw [HC.out.2, List.take_length] at hE
      have HE := Lib.hid hE
      have HB := Lib.hid hB
      clear hB hE
      go_wp2_with fail
      go_ret
      exact ⟨⟨_, rfl, by rw [decide_eq_false HE.out]; rfl⟩, HB.out⟩
theorem contInt_any (l : List Int) (hz : l.length ≤ 1000000) (x : Int) (w : World) (v : Value) (h : NetsAt w v l) :
    Calls Tryz.prog 43 #[v, .int .i64 x] w fun e w' => e = .returned (.bool (decide (x ∈ l))) ∧ Below w.heap.size w w' := by
  have hi := indexInt_any l hz x w v h
  clear h
  generalize decide (x ∈ l) = R at hi ⊢
  go_enter Tryz.func43, Tryz.ntmps43
  go_wp2_with fail
  refine hi.mono ?_
  rintro e w' ⟨⟨r, rfl, hr⟩, hB⟩
  clear hi
  go_wp2_with fail
  go_ret
  exact ⟨rfl, hB⟩

set_option maxRecDepth 100000 in
theorem pindexIntF_any (l : List Int) (hz : l.length ≤ 1000) (m : Int) (b : Nat) (w : World) (hb : w.cell? ⟨b, 0, none⟩ = some (.int .i64 m)) (v : Value) (h : NetsAt w v l) :
    Calls Tryz.prog 69 #[v, .func (.func 50) #[] #[.pointer (some ⟨b, 0, none⟩)]] w fun e w' => (∃ r : Int, e = .returned (.int .i64 r) ∧ decide (0 ≤ r) = l.any (fun x => decide (x < 0) || decide (m ≤ x))) ∧ Below w.heap.size w w' := by
  obtain ⟨a, c, rfl, -, hop⟩ := h
  have hbl : b < w.heap.size := World.block_lt_of_cell? w ⟨b, 0, none⟩ hb
  obtain ⟨n, hn⟩ : ∃ n, n = l.length := ⟨_, rfl⟩
  obtain ⟨P, hP⟩ : ∃ P : Int → Bool, P = fun x => decide (x < 0) || decide (m ≤ x) := ⟨_, rfl⟩
  have hq := fun W x (hW : W.cell? ⟨b, 0, none⟩ = some (.int .i64 m)) => checkFault1_any x m b W hW
  rw [← hP]
  have hPx : ∀ x, (decide (x < 0) || decide (m ≤ x)) = P x := fun x => by rw [hP]
  have hq2 : ∀ W x (hW : W.cell? ⟨b, 0, none⟩ = some (.int .i64 m)), Calls Tryz.prog 50 #[.int .i64 x, .pointer (some ⟨b, 0, none⟩)] W fun e w' => e = .returned (.bool (P x)) ∧ W = w' := fun W x hW => by rw [← hPx]; exact hq W x hW
  rw [← hn] at hop hz ⊢
  have hst : (l.drop 0).any P = l.any P := rfl
  obtain ⟨R, hR⟩ : ∃ R, R = l.any P := ⟨_, rfl⟩
  rw [← hR] at hst ⊢
  have HC := Lib.hid (⟨hop, hb, hq2, hn, hst⟩ : _ ∧ _ ∧ _ ∧ _ ∧ _)
  clear hop hn hb hq hq2 hP hPx hR hst
  go_enter Tryz.func69, Tryz.ntmps69
  go_wp2_with fail
  go_loopw [8] (fun i wr => ∃ (k : Nat), k ≤ n ∧ i = .int .i64 (k : Int) ∧ (l.drop k).any P = R ∧ Below w.heap.size w wr) (fun i _ => n - (intOf i).toNat)
  case atStart => exact ⟨0, by omega, rfl, HC.out.2.2.2.2, Below.refl _ _⟩
  case round =>
    obtain ⟨k, hk, rfl, hE, hB⟩ := hrel
    by_cases hlt : k < n
    · obtain ⟨g, o, rfl, hg, hcell⟩ := HC.out.1 (by omega)
      have hc := (hB.cell (p := ⟨g, o + k, none⟩) hg).trans (hcell k hlt)
      have hcb := (hB.cell (p := ⟨b, 0, none⟩) hbl).trans HC.out.2.1
      have hkl : k < l.length := by rw [← HC.out.2.2.2.1]; exact hlt
      have hge : l.getD k 0 = l[k] := by simp [hkl]
      rw [List.drop_eq_getElem_cons hkl, List.any_cons, ← hge] at hE
      have hq2 := HC.out.2.2.1 wr (l.getD k 0) hcb
      generalize l.getD k 0 = y at hc hE hq2
      have k0 : (0 : Int) ≤ (k : Int) := by omega
      have k1 : (k : Int) < (n : Int) := by omega
      have HB := Lib.hid hB
      clear hB hcell hcb hkl hge
      cases hPy : P y with
      | true =>
        rw [hPy] at hq2 hE
        rw [Bool.true_or] at hE
        have HE := Lib.hid hE
        clear hPy hE
        go_wp2_with fail
        refine hq2.mono ?_
        rintro e w' ⟨rfl, rfl⟩
        clear hq2
        go_wp2_with fail
        go_ret
        exact ⟨⟨_, rfl, by rw [← HE.out, decide_eq_true k0]⟩, HB.out⟩
      | false =>
        rw [hPy] at hq2 hE
        rw [Bool.false_or] at hE
        have HE := Lib.hid hE
        clear hPy hE
        go_wp2_with fail
        refine hq2.mono ?_
        rintro e w' ⟨rfl, rfl⟩
        clear hq2
        go_wp2_with fail
        go_roundw
        case rel => exact ⟨k + 1, by omega, by go_num, HE.out, HB.out⟩
        case measure => simp [intOf]; omega
    · have hkn : l.drop k = [] := List.drop_eq_nil_of_le (by rw [← HC.out.2.2.2.1]; omega)
      rw [hkn] at hE
      have HE := Lib.hid hE
      have HB := Lib.hid hB
      clear hB hE hkn
      go_wp2_with fail
      go_ret
      exact ⟨⟨_, rfl, by rw [← HE.out]; rfl⟩, HB.out⟩
theorem pcontIntF_any (l : List Int) (hz : l.length ≤ 1000) (m : Int) (b : Nat) (w : World) (hb : w.cell? ⟨b, 0, none⟩ = some (.int .i64 m)) (v : Value) (h : NetsAt w v l) :
    Calls Tryz.prog 40 #[v, .func (.func 50) #[] #[.pointer (some ⟨b, 0, none⟩)]] w fun e w' => e = .returned (.bool (l.any (fun x => decide (x < 0) || decide (m ≤ x)))) ∧ Below w.heap.size w w' := by
  have hi := pindexIntF_any l hz m b w hb v h
  clear h hb
  generalize l.any (fun x => decide (x < 0) || decide (m ≤ x)) = R at hi ⊢
  go_enter Tryz.func40, Tryz.ntmps40
  go_wp2_with fail
  refine hi.mono ?_
  rintro e w' ⟨⟨r, rfl, hr⟩, hB⟩
  clear hi
  go_wp2_with fail
  go_ret
  exact ⟨rfl, hB⟩

set_option maxRecDepth 100000 in
theorem qindexIntF_any (l : List Int) (hz : l.length ≤ 1000) (m : Int) (hm0 : 1 ≤ m) (hm : m ≤ 1000000) (b : Nat) (w : World) (hb : w.cell? ⟨b, 0, none⟩ = some (.int .i64 m)) (v : Value) (h : NetsAt w v l) :
    Calls Tryz.prog 69 #[v, .func (.func 41) #[] #[.pointer (some ⟨b, 0, none⟩)]] w fun e w' => (∃ r : Int, e = .returned (.int .i64 r) ∧ decide (0 ≤ r) = l.any (fun x => decide (x < 0) || decide (m ≤ x))) ∧ Below w.heap.size w w' := by
  obtain ⟨a, c, rfl, -, hop⟩ := h
  have hbl : b < w.heap.size := World.block_lt_of_cell? w ⟨b, 0, none⟩ hb
  obtain ⟨n, hn⟩ : ∃ n, n = l.length := ⟨_, rfl⟩
  obtain ⟨P, hP⟩ : ∃ P : Int → Bool, P = fun x => decide (x < 0) || decide (m ≤ x) := ⟨_, rfl⟩
  have hq := fun W x (hW : W.cell? ⟨b, 0, none⟩ = some (.int .i64 m)) => faultFault1_any x m (by omega) hm b W hW
  rw [← hP]
  have hPx : ∀ x, (decide (x < 0) || decide (m ≤ x)) = P x := fun x => by rw [hP]
  have hq2 : ∀ W x (hW : W.cell? ⟨b, 0, none⟩ = some (.int .i64 m)), Calls Tryz.prog 41 #[.int .i64 x, .pointer (some ⟨b, 0, none⟩)] W fun e w' => e = .returned (.bool (P x)) ∧ W = w' := fun W x hW => by rw [← hPx]; exact hq W x hW
  rw [← hn] at hop hz ⊢
  have hst : (l.drop 0).any P = l.any P := rfl
  obtain ⟨R, hR⟩ : ∃ R, R = l.any P := ⟨_, rfl⟩
  rw [← hR] at hst ⊢
  have HC := Lib.hid (⟨hop, hb, hq2, hn, hst⟩ : _ ∧ _ ∧ _ ∧ _ ∧ _)
  clear hop hn hb hq hq2 hP hPx hR hst
  go_enter Tryz.func69, Tryz.ntmps69
  go_wp2_with fail
  go_loopw [8] (fun i wr => ∃ (k : Nat), k ≤ n ∧ i = .int .i64 (k : Int) ∧ (l.drop k).any P = R ∧ Below w.heap.size w wr) (fun i _ => n - (intOf i).toNat)
  case atStart => exact ⟨0, by omega, rfl, HC.out.2.2.2.2, Below.refl _ _⟩
  case round =>
    obtain ⟨k, hk, rfl, hE, hB⟩ := hrel
    by_cases hlt : k < n
    · obtain ⟨g, o, rfl, hg, hcell⟩ := HC.out.1 (by omega)
      have hc := (hB.cell (p := ⟨g, o + k, none⟩) hg).trans (hcell k hlt)
      have hcb := (hB.cell (p := ⟨b, 0, none⟩) hbl).trans HC.out.2.1
      have hkl : k < l.length := by rw [← HC.out.2.2.2.1]; exact hlt
      have hge : l.getD k 0 = l[k] := by simp [hkl]
      rw [List.drop_eq_getElem_cons hkl, List.any_cons, ← hge] at hE
      have hq2 := HC.out.2.2.1 wr (l.getD k 0) hcb
      generalize l.getD k 0 = y at hc hE hq2
      have k0 : (0 : Int) ≤ (k : Int) := by omega
      have k1 : (k : Int) < (n : Int) := by omega
      have HB := Lib.hid hB
      clear hB hcell hcb hkl hge
      cases hPy : P y with
      | true =>
        rw [hPy] at hq2 hE
        rw [Bool.true_or] at hE
        have HE := Lib.hid hE
        clear hPy hE
        go_wp2_with fail
        refine hq2.mono ?_
        rintro e w' ⟨rfl, rfl⟩
        clear hq2
        go_wp2_with fail
        go_ret
        exact ⟨⟨_, rfl, by rw [← HE.out, decide_eq_true k0]⟩, HB.out⟩
      | false =>
        rw [hPy] at hq2 hE
        rw [Bool.false_or] at hE
        have HE := Lib.hid hE
        clear hPy hE
        go_wp2_with fail
        refine hq2.mono ?_
        rintro e w' ⟨rfl, rfl⟩
        clear hq2
        go_wp2_with fail
        go_roundw
        case rel => exact ⟨k + 1, by omega, by go_num, HE.out, HB.out⟩
        case measure => simp [intOf]; omega
    · have hkn : l.drop k = [] := List.drop_eq_nil_of_le (by rw [← HC.out.2.2.2.1]; omega)
      rw [hkn] at hE
      have HE := Lib.hid hE
      have HB := Lib.hid hB
      clear hB hE hkn
      go_wp2_with fail
      go_ret
      exact ⟨⟨_, rfl, by rw [← HE.out]; rfl⟩, HB.out⟩
theorem qcontIntF_any (l : List Int) (hz : l.length ≤ 1000) (m : Int) (hm0 : 1 ≤ m) (hm : m ≤ 1000000) (b : Nat) (w : World) (hb : w.cell? ⟨b, 0, none⟩ = some (.int .i64 m)) (v : Value) (h : NetsAt w v l) :
    Calls Tryz.prog 40 #[v, .func (.func 41) #[] #[.pointer (some ⟨b, 0, none⟩)]] w fun e w' => e = .returned (.bool (l.any (fun x => decide (x < 0) || decide (m ≤ x)))) ∧ Below w.heap.size w w' := by
  have hi := qindexIntF_any l hz m hm0 hm b w hb v h
  clear h hb
  generalize l.any (fun x => decide (x < 0) || decide (m ≤ x)) = R at hi ⊢
  go_enter Tryz.func40, Tryz.ntmps40
  go_wp2_with fail
  refine hi.mono ?_
  rintro e w' ⟨⟨r, rfl, hr⟩, hB⟩
  clear hi
  go_wp2_with fail
  go_ret
  exact ⟨rfl, hB⟩
end Go.Proofs.YtgnkihiibednoaaGreatDoor
