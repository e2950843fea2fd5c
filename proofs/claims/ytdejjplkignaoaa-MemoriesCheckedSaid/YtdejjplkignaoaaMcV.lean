/- slices.Equal of equal numbers and of equal operations; the readiness of package flash. -/
import Derived.Test.YtdejjplkignaoaaMcZ
import Derived.Laws.StructEq
import Derived.BigQuiet
namespace Go.Proofs.Ytdejjplkignaoaa
open Go.RowKit

theorem eqInts_same (L : List Int) (hz : L.length ≤ 1000000) (w : World) (v u : Value) (h : NumsAt w v L) (h2 : NumsAt w u L) :
    Calls Try.prog 20 #[v, u] w fun e w' => e = .returned (.bool true) ∧ Below w.heap.size w w' := by
  obtain ⟨a, c, rfl, -, hop⟩ := h
  obtain ⟨a2, c2, rfl, -, hop2⟩ := h2
  by_cases h0 : L.length = 0
  · rw [h0]
    refine (Try.slices_Equal_int_empty a a2 c 0 c2 w (by omega)).mono ?_
    rintro e w' ⟨rfl, rfl⟩
    exact ⟨rfl, Below.refl _ _⟩
  · obtain ⟨g, o, rfl, -, hc⟩ := hop (by omega)
    obtain ⟨g2, o2, rfl, -, hc2⟩ := hop2 (by omega)
    refine (Try.slices_Equal_int g o L.length c g2 o2 L.length c2 L L w (Nat.le_refl _) (Nat.le_refl _) (by omega) (by omega) hc hc2).mono ?_
    rintro e w' ⟨rfl, q, rfl⟩
    exact ⟨by rw [beq_self_eq_true], drewN_below _ _⟩
set_option maxHeartbeats 800000 in
set_option maxRecDepth 100000 in
theorem eqOps_same (O : List Opn) (hz : O.length ≤ 1000000) (w : World) (v u : Value) (h : OpsAt w v O) (h2 : OpsAt w u O) :
    Calls Try.prog 26 #[v, u] w fun e w' => e = .returned (.bool true) ∧ Below w.heap.size w w' := by
  obtain ⟨a, c, rfl, -, hop⟩ := h
  obtain ⟨a2, c2, rfl, -, hop2⟩ := h2
  obtain ⟨n, hn⟩ : ∃ n, n = O.length := ⟨_, rfl⟩
  rw [← hn] at hop hop2 hz ⊢
  have HC := Lib.hid (⟨hop, hop2⟩ : _ ∧ _)
  clear hop hop2 hn
  go_enter Try.func26, Try.ntmps26
  go_wp2_with fail
  go_loopw [13] (fun i wr => ∃ k : Nat, k ≤ n ∧ i = .int .i64 (k : Int) ∧ Below w.heap.size w wr) (fun i _ => n - (intOf i).toNat)
  case atStart => exact ⟨0, by omega, rfl, Below.refl _ _⟩
  case round =>
    obtain ⟨k, hk, rfl, hB⟩ := hrel
    by_cases hlt : k < n
    · obtain ⟨g, o, rfl, hg, hcell⟩ := HC.out.1 (by omega)
      obtain ⟨g2, o2, rfl, hg2, hcell2⟩ := HC.out.2 (by omega)
      obtain ⟨d1, d2, d3⟩ := hcell k hlt
      obtain ⟨e1, e2, e3⟩ := hcell2 k hlt
      have p1 := (hB.cell (p := ⟨g, o + k * 3, none⟩) hg).trans d1
      have p2 := (hB.cell (p := ⟨g, o + k * 3 + 1, none⟩) hg).trans d2
      have p3 := (hB.cell (p := ⟨g, o + k * 3 + 2, none⟩) hg).trans d3
      have q1 := (hB.cell (p := ⟨g2, o2 + k * 3, none⟩) hg2).trans e1
      have q2 := (hB.cell (p := ⟨g2, o2 + k * 3 + 1, none⟩) hg2).trans e2
      have q3 := (hB.cell (p := ⟨g2, o2 + k * 3 + 2, none⟩) hg2).trans e3
      obtain ⟨x, y, z, hy⟩ : ∃ x y z, O.getD k (0, 0, 0) = (x, y, z) := ⟨_, _, _, rfl⟩
      rw [hy] at p1 p2 p3 q1 q2 q3
      dsimp only at p1 p2 p3 q1 q2 q3
      have k0 : (0 : Int) ≤ (k : Int) := by omega
      have k1 : (k : Int) < (n : Int) := by omega
      have HB := Lib.hid hB
      clear hB hcell hcell2 d1 d2 d3 e1 e2 e3 hy
      go_wp2_with fail
      go_quiet (fail)
      go_wp2_with fail
      go_roundw
      case rel => exact ⟨k + 1, by omega, by go_num, HB.out.trans ((drewN_below _ _).mono HB.out.size)⟩
      case measure => simp [intOf]; omega
    · obtain rfl : k = n := by omega
      have HB := Lib.hid hB
      clear hB
      go_wp2_with fail
      go_ret
      exact ⟨rfl, HB.out⟩
theorem nums_one (w : World) (x : Int) : NumsAt (w.alloc (.cells #[.int .i64 x] 3)) (.slice (some ⟨w.heap.size, 0, none⟩) 1 1) [x] := by
  refine ⟨_, _, rfl, Nat.le_refl _, fun _ => ⟨w.heap.size, 0, rfl, by simp, fun j hj => ?_⟩⟩
  obtain rfl : j = 0 := by simpa using hj
  exact cell_new1 w #[.int .i64 x] _ rfl
theorem ops_one (w : World) (x y z : Int) : OpsAt (w.alloc (.cells #[.int .i64 x, .int .i64 y, .int .i64 z] 57)) (.slice (some ⟨w.heap.size, 0, none⟩) 1 1) [(x, y, z)] := by
  refine ⟨_, _, rfl, Nat.le_refl _, fun _ => ⟨w.heap.size, 0, rfl, by simp, fun j hj => ?_⟩⟩
  obtain rfl : j = 0 := by simpa using hj
  exact ⟨cell_new1 w _ _ rfl, cell_new1 w _ _ rfl, cell_new1 w _ _ rfl⟩
theorem below_alloc (w : World) (o : Obj) : Below w.heap.size w (w.alloc o) := (Below.refl _ _).alloc (Nat.le_refl _) _
theorem plan_ready : planL [1] [65535] [1] = [(2, 0, 1)] := by decide +kernel
theorem err_ready : twoErr (cmErr [1] [65535]) (cmErr [1] [1]) = 0 := by decide +kernel
set_option maxHeartbeats 400000 in
set_option maxRecDepth 100000 in
theorem flashed_any (w : World) : Calls Try.prog 19 #[] w fun e w' => e = .returned (.bool true) ∧ Below w.heap.size w w' := by
  obtain ⟨A1, hA1⟩ : ∃ X : World, X = w.alloc (.cells #[.int .i64 1] 3) := ⟨_, rfl⟩
  obtain ⟨A2, hA2⟩ : ∃ X : World, X = A1.alloc (.cells #[.int .i64 65535] 3) := ⟨_, rfl⟩
  obtain ⟨A3, hA3⟩ : ∃ X : World, X = A2.alloc (.cells #[.int .i64 1] 3) := ⟨_, rfl⟩
  have b1 : Below w.heap.size w A1 := by rw [hA1]; exact below_alloc _ _
  have b2 : Below A1.heap.size A1 A2 := by rw [hA2]; exact below_alloc _ _
  have b3 : Below A2.heap.size A2 A3 := by rw [hA3]; exact below_alloc _ _
  have n1 : NumsAt A1 (.slice (some ⟨w.heap.size, 0, none⟩) 1 1) [1] := by rw [hA1]; exact nums_one _ _
  have n2 : NumsAt A2 (.slice (some ⟨A1.heap.size, 0, none⟩) 1 1) [65535] := by rw [hA2]; exact nums_one _ _
  have n3 : NumsAt A3 (.slice (some ⟨A2.heap.size, 0, none⟩) 1 1) [1] := by rw [hA3]; exact nums_one _ _
  have hp := plan_any [1] [65535] [1] (by decide) (by decide) (by decide) A3 _ _ _ ((n1.later b2).later b3) (n2.later b3) n3
  have s1 : A1.heap.size = w.heap.size + 1 := by rw [hA1]; simp
  have s2 : A2.heap.size = w.heap.size + 2 := by rw [hA2]; simp [s1]
  rw [s1, s2] at hp
  have hA : A3 = ((w.alloc (.cells #[.int .i64 1] 3)).alloc (.cells #[.int .i64 65535] 3)).alloc (.cells #[.int .i64 1] 3) := by rw [hA3, hA2, hA1]
  have HA := Lib.hid (⟨hA, b1.trans ((b2.trans (b3.mono b2.size)).mono b1.size)⟩ : _ ∧ _)
  clear hA1 hA2 hA3 b1 b2 b3 n1 n2 n3 s1 s2 hA
  go_enter Try.func19, Try.ntmps19
  go_wp2_with fail
  rw [← HA.out.1]
  refine hp.mono ?_
  rintro e w2 ⟨hs, hB2⟩
  unfold PlanSaid at hs
  rw [err_ready, plan_ready] at hs
  rcases hs with ⟨h, -⟩ | ⟨-, x, rfl, hx⟩
  · exact absurd rfl h
  have hB := HA.out.2.trans (hB2.mono HA.out.2.size)
  have he := eqOps_same [(2, 0, 1)] (by decide) (w2.alloc (.cells #[.int .i64 2, .int .i64 0, .int .i64 1] 57)) x _ (hx.later (below_alloc _ _)) (ops_one _ _ _ _)
  have HB := Lib.hid hB
  obtain ⟨ax, cx, rfl, -, -⟩ := id hx
  clear hp hB2 hx hB
  go_wp2_with fail
  refine he.mono ?_
  rintro e w3 ⟨rfl, hB3⟩
  have HB3 := Lib.hid ((HB.out.alloc HB.out.size _).trans (hB3.mono (HB.out.alloc HB.out.size _).size))
  clear he hB3
  go_wp2_with fail
  go_ret
  exact ⟨rfl, HB3.out⟩
end Go.Proofs.Ytdejjplkignaoaa
