/- Meets. -/
import Derived.Test.YtoipgliokelcfaaGreatDoorPdG
import Derived.Test.YtoipgliokelcfaaGreatDoorPdJ
namespace Go.Proofs.YtoipgliokelcfaaGreatDoor
open Go.RowKit

theorem groups_open {w : World} {v : Value} {G : List (List Nat)} (h : GroupsAt w v G) : ∃ a c, v = .slice a G.length c := by
  obtain ⟨B, vals, _, h2, _⟩ := h
  obtain ⟨-, ⟨e, h0⟩ | ⟨g, cap, cur, e, -⟩⟩ := h2
  · exact ⟨none, 0, by rw [e, h0]⟩
  · exact ⟨_, _, e⟩

/-- No two sequences are the same. -/
def diffB (L : List (List UInt8)) (n : Nat) : Bool := decide ((groupsTo L n n).length = 0)

theorem areDiff_any (L : List (List UInt8)) (n m : Nat) (hG : Grid L n m) (Bv : Nat) (w : World) (v : Value) (h : StrsAt Bv w v L) :
    Calls Tryz.prog 49 #[v] w fun e w' => e = .returned (.bool (diffB L n)) ∧ Below w.heap.size w w' := by
  have hg := groupsOf_any L (by have := hG.len; have := hG.n2; omega) (fun k hk => by have := hG.long k (by have := hG.len; omega); have := hG.m2; omega) Bv w v h
  rw [hG.len] at hg
  obtain ⟨a, c, rfl, -⟩ := strs_open h
  unfold diffB
  generalize groupsTo L n n = G at hg ⊢
  generalize L.length = z at hg ⊢
  clear h hG
  have e0 : ((G.length : Int) == 0) = decide (G.length = 0) := by
    by_cases h : G.length = 0
    · rw [h]; rfl
    · rw [decide_eq_false h, beq_eq_false_iff_ne]
      omega
  rw [← e0]
  clear e0
  go_enter Tryz.func49, Tryz.ntmps49
  go_wp2_with fail
  refine hg.mono ?_
  rintro e w' ⟨v', rfl, hA, hB⟩
  obtain ⟨a', c', rfl⟩ := groups_open hA
  have HB := Lib.hid hB
  clear hg hA hB
  go_wp2_with fail
  go_ret
  exact ⟨rfl, HB.out⟩

def stuckAny (L : List (List UInt8)) (n : Nat) : Bool := (List.range n).any fun i => stuckB (L.getD i [])

set_option maxHeartbeats 2000000 in
set_option maxRecDepth 100000 in
theorem indexF_any (L : List (List UInt8)) (i g c : Nat) (hi : i ≤ 1000) (w : World) (hc : ∀ j, j < i → w.cell? ⟨g, j, none⟩ = some (strV (L.getD j []))) :
    Calls Tryz.prog 86 #[.slice (some ⟨g, 0, none⟩) i c, .func (.func 51) #[] #[]] w fun e w' => ∃ z : Int, e = .returned (.int .i64 z) ∧ decide (0 ≤ z) = stuckAny L i ∧ w = w' := by
  have HH := Lib.hid hc
  clear hc
  go_enter Tryz.func86, Tryz.ntmps86
  go_wp2_with fail
  go_loop [8] (fun x => ∃ k : Nat, k ≤ i ∧ x = .int .i64 (k : Int) ∧ ∀ j, j < k → stuckB (L.getD j []) = false) (fun x => i - (intOf x).toNat)
  case atStart => exact ⟨0, by omega, rfl, fun j hj => by omega⟩
  case round =>
    obtain ⟨k, hk, rfl, hn⟩ := hrel
    by_cases hlt : k < i
    · have hcell := HH.out k hlt
      obtain ⟨s, hs⟩ : ∃ s : ByteArray, s = ⟨(L.getD k []).toArray⟩ := ⟨_, rfl⟩
      change _ = some (Value.string ⟨(L.getD k []).toArray⟩) at hcell
      rw [← hs] at hcell
      have hw := word_dec _ s hs
      have hst := isStuck_any s w
      rw [hw.2] at hst
      have i0 : (0 : Int) ≤ (k : Int) := by omega
      have i1 : (k : Int) < (i : Int) := by omega
      have HN := Lib.hid (⟨hn, rfl⟩ : _ ∧ stuckB (L.getD k []) = stuckB (L.getD k []))
      clear hn hs hw
      cases e : stuckB (L.getD k []) with
      | true =>
        rw [e] at hst
        have hr : stuckAny L i = true := by
          unfold stuckAny
          rw [List.any_eq_true]
          exact ⟨k, List.mem_range.2 hlt, e⟩
        have HR := Lib.hid hr
        clear hr e
        go_wp2_with fail
        refine hst.mono ?_
        rintro e w' ⟨rfl, rfl⟩
        clear hst
        go_wp2_with fail
        go_ret
        exact ⟨_, rfl, by rw [HR.out]; exact decide_eq_true i0, rfl⟩
      | false =>
        rw [e] at hst
        have HE := Lib.hid e
        clear e
        go_wp2_with fail
        refine hst.mono ?_
        rintro e w' ⟨rfl, rfl⟩
        clear hst
        go_wp2_with fail
        go_round
        case rel =>
          refine ⟨k + 1, by omega, by go_num, fun j hj => ?_⟩
          by_cases e2 : j = k
          · subst e2; exact HE.out
          · exact HN.out.1 j (by omega)
        case measure => simp [intOf]; omega
    · obtain rfl : k = i := by omega
      have hr : stuckAny L k = false := by
        unfold stuckAny
        rw [List.any_eq_false]
        intro x hx
        rw [hn x (List.mem_range.1 hx)]
        decide
      have HR := Lib.hid hr
      clear hn hr
      go_wp2_with fail
      go_ret
      exact ⟨_, rfl, by rw [HR.out]; decide, rfl⟩
theorem contF_any (L : List (List UInt8)) (i g c : Nat) (hi : i ≤ 1000) (w : World) (hc : ∀ j, j < i → w.cell? ⟨g, j, none⟩ = some (strV (L.getD j []))) :
    Calls Tryz.prog 50 #[.slice (some ⟨g, 0, none⟩) i c, .func (.func 51) #[] #[]] w fun e w' => e = .returned (.bool (stuckAny L i)) ∧ w = w' := by
  have h := indexF_any L i g c hi w hc
  generalize stuckAny L i = z at h ⊢
  clear hc
  go_enter Tryz.func50, Tryz.ntmps50
  go_wp2_with fail
  refine h.mono ?_
  rintro e w' ⟨y, rfl, hz, rfl⟩
  clear h
  subst hz
  cases e0 : decide (0 ≤ y) with
  | true =>
    have e1 := of_decide_eq_true e0
    go_wp2_with fail
    go_ret
    exact ⟨by rw [e0]; rfl, rfl⟩
  | false =>
    have e1 := of_decide_eq_false e0
    go_wp2_with fail
    go_ret
    exact ⟨by rw [e0]; rfl, rfl⟩

/-- What Meets answers. -/
def meetsB (L : List (List UInt8)) (n : Nat) (goal : Int) : Bool :=
  if goal = 1 then diffB L n else if goal = 2 then diffB L n && !stuckAny L n else if goal = 3 then clearB L n else false
def meetsE (goal : Int) : Int := if goal = 1 ∨ goal = 2 ∨ goal = 3 then 0 else 4

set_option maxHeartbeats 4000000 in
set_option maxRecDepth 100000 in
theorem meets_ok (V : List (List UInt8)) (n : Nat) (h1 : 1 ≤ n) (h2 : n ≤ 100) (hz : V.length ≤ 200) (hb : ∀ s, s ∈ V → s.length = n ∧ s.all bitB = true) (he : vecErr (n : Int) V = 0) (goal : Int) (B : Nat) (w : World) (v : Value) (h : StrsAt B w v V) :
    Calls Tryz.prog 19 #[.int .i64 (n : Int), v, .int .i64 goal] w fun e w' => e = .returned (.tuple #[.bool (meetsB (turnL V n) n goal), .int .i64 (meetsE goal)]) ∧ Below w.heap.size w w' := by
  have hs := sequences_ok V n h1 h2 hz (fun s hs => (hb s hs).1) he B w v h
  have hG := turnL_grid V n h1 h2 hz hb
  obtain ⟨a, c, rfl, -⟩ := strs_open h
  generalize turnL V n = L at hs hG ⊢
  generalize V.length = m at hs hG ⊢
  clear h hb he hz
  obtain ⟨d, hd0⟩ : ∃ d, d = diffB L n := ⟨_, rfl⟩
  obtain ⟨st, hst0⟩ : ∃ d, d = stuckAny L n := ⟨_, rfl⟩
  obtain ⟨cl, hcl0⟩ : ∃ d, d = clearB L n := ⟨_, rfl⟩
  by_cases g1 : goal = 1
  · subst g1
    have hm : meetsB L n 1 = d := by unfold meetsB; rw [if_pos rfl, hd0]
    have hE : meetsE 1 = 0 := by unfold meetsE; rw [if_pos (.inl rfl)]
    rw [hm, hE]
    clear hm hE
    go_enter Tryz.func19, Tryz.ntmps19
    go_wp2_with fail
    refine hs.mono ?_
    rintro e w2 ⟨v1, rfl, hS, hB⟩
    clear hs
    have hd := areDiff_any L n m hG _ w2 v1 hS
    obtain ⟨a1, c1, rfl, -⟩ := strs_open hS
    have HB := Lib.hid hB
    rw [← hd0] at hd
    generalize L.length = z at hd ⊢
    clear hS hG hB hd0 hst0 hcl0
    go_wp2_with fail
    refine hd.mono ?_
    rintro e w3 ⟨rfl, hB3⟩
    have HB3 := Lib.hid (HB.out.trans (hB3.mono HB.out.size))
    clear hd hB3
    go_wp2_with fail
    go_ret2
    exact ⟨rfl, HB3.out⟩
  by_cases g2 : goal = 2
  · subst g2
    have hm : meetsB L n 2 = (d && !st) := by unfold meetsB; rw [if_neg (by decide), if_pos rfl, hd0, hst0]
    have hE : meetsE 2 = 0 := by unfold meetsE; rw [if_pos (.inr (.inl rfl))]
    rw [hm, hE]
    clear hm hE g1
    have body : ∀ b, b = (d && !st) → Calls Tryz.prog 19 #[.int .i64 (n : Int), .slice a m c, .int .i64 2] w fun e w' => e = .returned (.tuple #[.bool b, .int .i64 0]) ∧ Below w.heap.size w w' := by
      intro b hb
      go_enter Tryz.func19, Tryz.ntmps19
      go_wp2_with fail
      refine hs.mono ?_
      rintro e w2 ⟨v1, rfl, hS, hB⟩
      clear hs
      have hd := areDiff_any L n m hG _ w2 v1 hS
      obtain ⟨a1, c1, rfl, hop⟩ := strs_open hS
      rw [hG.len] at hop ⊢
      rw [hG.len] at hd
      have hn2 := hG.n2
      obtain ⟨g, rfl, hgl, hcell⟩ := hop (by have := hG.n1; omega)
      have hcf := fun w3 (hB3 : Below w2.heap.size w2 w3) => contF_any L n g c1 (by omega) w3 (fun j hj => (hB3.cell (p := ⟨g, j, none⟩) hgl).trans (hcell j hj))
      have HB := Lib.hid hB
      rw [← hd0] at hd
      rw [← hst0] at hcf
      clear hS hG hB hop hcell hd0 hst0 hcl0
      cases d with
      | true =>
        go_wp2_with fail
        refine hd.mono ?_
        rintro e w3 ⟨rfl, hB3⟩
        have HB3 := Lib.hid (HB.out.trans (hB3.mono HB.out.size))
        have hcf := hcf w3 hB3
        clear hd hB3
        go_wp2_with fail
        refine hcf.mono ?_
        rintro e w4 ⟨rfl, rfl⟩
        clear hcf
        cases st <;> (go_wp2_with fail; go_ret2; exact ⟨by rw [hb]; rfl, HB3.out⟩)
      | false =>
        clear hcf
        go_wp2_with fail
        refine hd.mono ?_
        rintro e w3 ⟨rfl, hB3⟩
        have HB3 := Lib.hid (HB.out.trans (hB3.mono HB.out.size))
        clear hd hB3
        go_wp2_with fail
        go_ret2
        exact ⟨by rw [hb]; rfl, HB3.out⟩
    exact body _ rfl
  by_cases g3 : goal = 3
  · subst g3
    have hm : meetsB L n 3 = cl := by unfold meetsB; rw [if_neg (by decide), if_neg (by decide), if_pos rfl, hcl0]
    have hE : meetsE 3 = 0 := by unfold meetsE; rw [if_pos (.inr (.inr rfl))]
    rw [hm, hE]
    clear hm hE g1 g2
    go_enter Tryz.func19, Tryz.ntmps19
    go_wp2_with fail
    refine hs.mono ?_
    rintro e w2 ⟨v1, rfl, hS, hB⟩
    clear hs
    have hd := areClear_any L n m hG _ w2 v1 hS
    obtain ⟨a1, c1, rfl, -⟩ := strs_open hS
    have HB := Lib.hid hB
    rw [← hcl0] at hd
    generalize L.length = z at hd ⊢
    clear hS hG hB hd0 hst0 hcl0
    go_wp2_with fail
    refine hd.mono ?_
    rintro e w3 ⟨rfl, hB3⟩
    have HB3 := Lib.hid (HB.out.trans (hB3.mono HB.out.size))
    clear hd hB3
    go_wp2_with fail
    go_ret2
    exact ⟨rfl, HB3.out⟩
  · have hm : meetsB L n goal = false := by unfold meetsB; rw [if_neg g1, if_neg g2, if_neg g3]
    have hE : meetsE goal = 4 := by unfold meetsE; rw [if_neg (by omega)]
    rw [hm, hE]
    clear hm hE
    go_enter Tryz.func19, Tryz.ntmps19
    go_wp2_with fail
    refine hs.mono ?_
    rintro e w2 ⟨v1, rfl, hS, hB⟩
    clear hs
    obtain ⟨a1, c1, rfl, -⟩ := strs_open hS
    have HB := Lib.hid hB
    generalize L.length = z at hS ⊢
    clear hS hG hB hd0 hst0 hcl0
    go_wp2_with fail
    go_ret2
    exact ⟨rfl, HB.out⟩

theorem meets_bad (S : List (List UInt8)) (nets : Int) (hz : S.length ≤ 1000000) (hb : ∀ k, k < S.length → (S.getD k []).length ≤ 1000000) (he : vecErr nets S ≠ 0) (goal : Int) (B : Nat) (w : World) (v : Value) (h : StrsAt B w v S) :
    Calls Tryz.prog 19 #[.int .i64 nets, v, .int .i64 goal] w fun e w' => e = .returned (.tuple #[.bool false, .int .i64 (vecErr nets S)]) ∧ Below w.heap.size w w' := by
  have hc := sequences_bad S nets hz hb he B w v h
  obtain ⟨a, c, rfl, -⟩ := strs_open h
  generalize vecErr nets S = E at hc he ⊢
  generalize S.length = z at hc ⊢
  clear h hz hb
  go_enter Tryz.func19, Tryz.ntmps19
  go_wp2_with fail
  refine hc.mono ?_
  rintro e w' ⟨rfl, hB⟩
  have HB := Lib.hid hB
  clear hc hB
  go_wp2_with fail
  go_ret2
  exact ⟨rfl, HB.out⟩
end Go.Proofs.YtoipgliokelcfaaGreatDoor
