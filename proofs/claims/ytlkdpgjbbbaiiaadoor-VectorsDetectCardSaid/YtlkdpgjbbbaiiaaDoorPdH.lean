/- Rows of numbers are compared; rows of such rows; cmp.Or of two errors. -/
import Derived.Test.YtlkdpgjbbbaiiaaDoorPdG
namespace Go.Proofs.YtlkdpgjbbbaiiaaDoor
open Go.RowKit Go.Maps

theorem eqInts_same (l : List Nat) (hz : l.length ≤ 1000000) (B1 B2 : Nat) (v1 v2 : Value) (w : World) (h1 : NatsAt B1 w v1 l) (h2 : NatsAt B2 w v2 l) :
    Calls Tryd.prog 16 #[v1, v2] w fun e w' => e = .returned (.bool true) ∧ Below w.heap.size w w' := by
  have hr1 : w.ownsRow B1 3 1 v1 l.length (l.map natV) := h1
  have hr2 : w.ownsRow B2 3 1 v2 l.length (l.map natV) := h2
  by_cases h0 : l.length = 0
  · obtain ⟨a1, c1, rfl⟩ := nats_open h1
    obtain ⟨a2, c2, rfl⟩ := nats_open h2
    rw [h0]
    refine (Tryd.slices_Equal_int_empty a1 a2 c1 0 c2 w (by decide)).mono ?_
    rintro e w' ⟨rfl, rfl⟩
    exact ⟨rfl, Below.refl _ _⟩
  · obtain ⟨-, ⟨_, h00⟩ | ⟨g1, cap1, cur1, rfl, -⟩⟩ := h1
    · omega
    obtain ⟨-, ⟨_, h00⟩ | ⟨g2, cap2, cur2, rfl, -⟩⟩ := h2
    · omega
    have hcl : ∀ {B g c : Nat}, w.ownsRow B 3 1 (.slice (some ⟨g, 0, none⟩) l.length c) l.length (l.map natV) → ∀ j, j < (l.map fun x : Nat => (x : Int)).length → w.cell? ⟨g, 0 + j, none⟩ = some (.int .i64 ((l.map fun x : Nat => (x : Int)).getD j 0)) := fun h j hj => by
      have hj2 : j < l.length := by simpa using hj
      rw [Nat.zero_add, h.cellAt j (by omega)]
      simp [List.getD, hj2, natV]
    refine (Tryd.slices_Equal_int g1 0 l.length cap1 g2 0 l.length cap2 (l.map fun x : Nat => (x : Int)) (l.map fun x : Nat => (x : Int)) w (by simp) (by simp) (by omega) (by omega) (hcl hr1) (hcl hr2)).mono ?_
    rintro e w' ⟨rfl, q, rfl⟩
    refine ⟨?_, drewN_below w q⟩
    rw [beq_self_eq_true]

set_option maxHeartbeats 2000000 in
set_option maxRecDepth 100000 in
theorem eqIntss_same (G : List (List Nat)) (hz : G.length ≤ 1000) (hz2 : ∀ i, i < G.length → (G.getD i []).length ≤ 1000000) (v1 v2 : Value) (w : World) (h1 : GroupsAt w v1 G) (h2 : GroupsAt w v2 G) :
    Calls Tryd.prog 18 #[v1, v2, .func (.func 16) #[] #[]] w fun e w' => e = .returned (.bool true) ∧ Below w.heap.size w w' := by
  obtain ⟨B1, vals1, l1, r1, n1⟩ := h1
  obtain ⟨B2, vals2, l2, r2, n2⟩ := h2
  obtain ⟨n, hn⟩ : ∃ n, n = G.length := ⟨_, rfl⟩
  have open1 : ∀ {B : Nat} {v : Value} {vals : List Value}, vals.length = G.length → w.ownsRow B 22 1 v G.length vals → ∃ a c, v = .slice a n c ∧ (0 < n → ∃ g, a = some ⟨g, 0, none⟩ ∧ g < w.heap.size ∧ ∀ k, k < n → w.cell? ⟨g, k, none⟩ = some (vals.getD k undef)) := fun {B v vals} hl h => by
    have hrow := h
    obtain ⟨-, ⟨e, h0⟩ | ⟨g, cap, cur, e, -, hg, -⟩⟩ := h
    · exact ⟨none, 0, by rw [e, hn, h0], fun h => by omega⟩
    · refine ⟨_, _, by rw [e, hn], fun _ => ⟨g, rfl, (Array.getElem?_eq_some_iff.1 hg).1, fun k hk => ?_⟩⟩
      rw [e] at hrow
      rw [hrow.cellAt k (by omega)]
      have : k < vals.length := by omega
      simp [List.getD, this]
  obtain ⟨a1, c1, rfl, o1⟩ := open1 l1 r1
  obtain ⟨a2, c2, rfl, o2⟩ := open1 l2 r2
  have HH := Lib.hid (⟨o1, o2, n1, n2, hn, hz2⟩ : _ ∧ _ ∧ _ ∧ _ ∧ _ ∧ _)
  rw [← hn] at hz
  clear open1 o1 o2 n1 n2 l1 l2 r1 r2 hn hz2
  go_enter Tryd.func18, Tryd.ntmps18
  go_wp2_with fail
  go_loopw [17] (fun i wr => ∃ k : Nat, k ≤ n ∧ i = .int .i64 (k : Int) ∧ Below w.heap.size w wr) (fun i _ => n - (intOf i).toNat)
  case atStart => exact ⟨0, by omega, rfl, Below.refl _ _⟩
  case round =>
    obtain ⟨k, hk, rfl, hB⟩ := hrel
    by_cases hlt : k < n
    · obtain ⟨g1, rfl, hg1, hc1⟩ := HH.out.1 (by omega)
      obtain ⟨g2, rfl, hg2, hc2⟩ := HH.out.2.1 (by omega)
      have d1 := (hB.cell (p := ⟨g1, k, none⟩) hg1).trans (hc1 k hlt)
      have d2 := (hB.cell (p := ⟨g2, k, none⟩) hg2).trans (hc2 k hlt)
      have hkG : k < G.length := by rw [← HH.out.2.2.2.2.1]; exact hlt
      obtain ⟨Bi1, m1⟩ := HH.out.2.2.1 k hkG
      obtain ⟨Bi2, m2⟩ := HH.out.2.2.2.1 k hkG
      have heq := eqInts_same (G.getD k []) (HH.out.2.2.2.2.2 k hkG) _ _ _ _ wr (row_later m1 hB) (row_later m2 hB)
      obtain ⟨b1, e1, f1⟩ := nats_open m1
      obtain ⟨b2, e2, f2⟩ := nats_open m2
      rw [f1, f2] at heq
      rw [f1] at d1
      rw [f2] at d2
      have i0 : (0 : Int) ≤ (k : Int) := by omega
      have i1 : (k : Int) < (n : Int) := by omega
      have HB := Lib.hid hB
      clear hc1 hc2 hkG m1 m2 f1 f2 hB
      generalize (G.getD k []).length = m at d1 d2 heq
      go_wp2_with fail
      refine heq.mono ?_
      rintro e w2 ⟨rfl, hB2⟩
      clear heq
      have HB2 := Lib.hid (HB.out.trans (hB2.mono HB.out.size))
      clear hB2
      go_wp2_with fail
      go_roundw
      case rel => exact ⟨k + 1, by omega, by go_num, HB2.out⟩
      case measure => simp [intOf]; omega
    · obtain rfl : k = n := by omega
      have HB := Lib.hid hB
      clear hB
      go_wp2_with fail
      go_ret
      exact ⟨rfl, HB.out⟩

set_option maxHeartbeats 2000000 in
/-- cmp.Or of two errors: the first one that is none of 0. -/
theorem cmpOr_any (x y : Int) (b : Nat) (w : World) (h0 : w.cell? ⟨b, 0, none⟩ = some (.int .i64 x)) (h1 : w.cell? ⟨b, 1, none⟩ = some (.int .i64 y)) :
    Calls Tryd.prog 12 #[.slice (some ⟨b, 0, none⟩) 2 2] w fun e w' => e = .returned (.int .i64 (if x = 0 then y else x)) ∧ w = w' := by
  by_cases hx : x = 0
  · rw [if_pos hx]
    subst hx
    by_cases hy : y = 0
    · subst hy
      go_enter Tryd.func12, Tryd.ntmps12
      go_wp2_with fail
      go_loop [8] (fun x => ∃ k : Nat, k ≤ 2 ∧ x = .int .i64 (k : Int)) (fun x => 2 - (intOf x).toNat)
      case atStart => exact ⟨0, by omega, rfl⟩
      case round =>
        obtain ⟨k, hk, rfl⟩ := hrel
        by_cases e : k = 2
        · subst e
          go_wp2_with fail
          go_ret
          exact ⟨rfl, rfl⟩
        · have e2 : k = 0 ∨ k = 1 := by omega
          rcases e2 with rfl | rfl
          · go_wp2_with fail
            go_round
            case rel => exact ⟨1, by omega, rfl⟩
            case measure => simp [intOf]
          · go_wp2_with fail
            go_round
            case rel => exact ⟨2, by omega, rfl⟩
            case measure => simp [intOf]
    · have hy1 : (y != 0) = true := by simpa using hy
      go_enter Tryd.func12, Tryd.ntmps12
      go_wp2_with fail
      go_loop [8] (fun x => ∃ k : Nat, k ≤ 1 ∧ x = .int .i64 (k : Int)) (fun x => 2 - (intOf x).toNat)
      case atStart => exact ⟨0, by omega, rfl⟩
      case round =>
        obtain ⟨k, hk, rfl⟩ := hrel
        have e2 : k = 0 ∨ k = 1 := by omega
        rcases e2 with rfl | rfl
        · go_wp2_with fail
          go_round
          case rel => exact ⟨1, by omega, rfl⟩
          case measure => simp [intOf]
        · go_wp2_with fail
          go_ret
          exact ⟨rfl, rfl⟩
  · rw [if_neg hx]
    have hx1 : (x != 0) = true := by simpa using hx
    go_enter Tryd.func12, Tryd.ntmps12
    go_wp2_with fail
    go_loop [8] (fun x => x = .int .i64 0) (fun _ => 0)
    case atStart => rfl
    case round =>
      subst hrel
      go_wp2_with fail
      go_ret
      exact ⟨rfl, rfl⟩
end Go.Proofs.YtlkdpgjbbbaiiaaDoor
