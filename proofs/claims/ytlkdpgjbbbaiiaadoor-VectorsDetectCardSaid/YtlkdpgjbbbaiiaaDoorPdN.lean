/- MeetsOf. -/
import Derived.Test.YtlkdpgjbbbaiiaaDoorPdL
import Derived.Deep.QuietTactic
import Derived.BigQuiet
namespace Go.Proofs.YtlkdpgjbbbaiiaaDoor
open Go.RowKit

theorem meets_none {L : List (List UInt8)} {n m : Nat} (hG : Grid L n m) {goal : Int} (hg : goal = 1 ∨ goal = 2 ∨ goal = 3) {a b : Nat} (ha : a < n) (hb : b < n) (h : faultB L m goal a b = true) : meetsB L n goal = false := by
  rw [meetsB_of hG goal hg]
  have : noFault L n m goal = false := by
    cases e : noFault L n m goal with
    | false => rfl
    | true => rw [(noFault_iff L n m goal).1 e a b ha hb] at h; cases h
  rw [this]
  rfl
theorem meets_rest {L : List (List UInt8)} {n m : Nat} (hG : Grid L n m) {goal : Int} (hg : goal = 1 ∨ goal = 2 ∨ goal = 3) (h : ∀ a, a < n → ∀ b, b < n → faultB L m goal a b = false) : meetsB L n goal = (decide (goal ≠ 2) || decide ((stuckTo L n).length = 0)) := by
  rw [meetsB_of hG goal hg, (noFault_iff L n m goal).2 (fun a b ha hb => h a ha b hb), Bool.true_and]

set_option maxHeartbeats 8000000 in
set_option maxRecDepth 100000 in
theorem meetsOf_ok (V : List (List UInt8)) (n : Nat) (h1 : 1 ≤ n) (h2 : n ≤ 100) (hz : V.length ≤ 200) (hb : ∀ s, s ∈ V → s.length = n ∧ s.all bitB = true) (goal : Int) (hgoal : goal = 1 ∨ goal = 2 ∨ goal = 3) (B : Nat) (w : World) (v : Value) (h : StrsAt B w v V) :
    Calls Tryd.prog 14 #[.int .i64 (n : Int), v, .int .i64 goal] w fun e w' => e = .returned (.bool (meetsB (turnL V n) n goal)) ∧ Below w.heap.size w w' := by
  have hs := rsequences_any V n (by omega) (by omega) (fun s hs => (hb s hs).1) B w v h
  have hso := fun (w3 : World) (hB3 : Below w.heap.size w w3) => stuckOf_ok V n h1 h2 hz (fun s hs => (hb s hs).1) B w3 v (row_later h hB3)
  have hG := turnL_grid V n h1 h2 hz hb
  obtain ⟨a0, c0, rfl, -⟩ := strs_open h
  generalize turnL V n = L at hs hG hso ⊢
  generalize V.length = m at hs hG hso ⊢
  obtain ⟨res, hres⟩ : ∃ res, res = meetsB L n goal := ⟨_, rfl⟩
  rw [← hres]
  have HR := Lib.hid (⟨hres, hG⟩ : _ ∧ _)
  have HSO := Lib.hid hso
  clear h hb hz hres hso
  go_enter Tryd.func14, Tryd.ntmps14
  go_wp2_with fail
  refine hs.mono ?_
  rintro e w2 ⟨v1, rfl, hS, hB⟩
  clear hs
  obtain ⟨a1, c1, rfl, hop⟩ := strs_open hS
  rw [hG.len] at hop ⊢
  obtain ⟨g, rfl, hg, hcell⟩ := hop (by omega)
  have HC := Lib.hid hcell
  have HB := Lib.hid hB
  clear hop hS hB hcell hG
  go_wp2_with fail
  go_loopw [15] (fun i wr => ∃ (a : Nat), a ≤ n ∧ i = .int .i64 (a : Int) ∧ (∀ x, x < a → ∀ y, y < n → faultB L m goal x y = false) ∧ Below w2.heap.size w2 wr) (fun i _ => n - (intOf i).toNat)
  case atStart => exact ⟨0, by omega, rfl, fun x hx => by omega, Below.refl _ _⟩
  case round =>
    obtain ⟨a, ha, rfl, hno, hB2⟩ := hrel
    by_cases hlta : a < n
    · have hb1 := hB2.size
      have HN := Lib.hid (⟨hno, hB2⟩ : _ ∧ _)
      clear hno hB2
      go_wp2_with fail
      go_loopw [20] (fun i wq => ∃ (b : Nat), b ≤ n ∧ i = .int .i64 (b : Int) ∧ (∀ y, y < b → faultB L m goal a y = false) ∧ Below w2.heap.size w2 wq) (fun i _ => n - (intOf i).toNat)
      case atStart => exact ⟨0, by omega, by go_num, fun x hx => by omega, HN.out.2⟩
      case round =>
        obtain ⟨b, hbn, rfl, hno, hB3⟩ := hrel
        by_cases hltb : b < n
        · have hca := (hB3.cell (p := ⟨g, a, none⟩) hg).trans (HC.out a hlta)
          have hcb := (hB3.cell (p := ⟨g, b, none⟩) hg).trans (HC.out b hltb)
          have hG := HR.out.2
          have la := hG.long a hlta
          have lb := hG.long b hltb
          have lm := hG.m2
          have hwi := fun W => (within_any (L.getD a []) (L.getD b []) (by omega) (by omega) W).mono fun e w' h => (⟨h.1, h.2.symm⟩ : _ ∧ w' = W)
          rw [la] at hwi
          obtain ⟨sa, hsa⟩ : ∃ s : ByteArray, s = ⟨(L.getD a []).toArray⟩ := ⟨_, rfl⟩
          obtain ⟨sb, hsb⟩ : ∃ s : ByteArray, s = ⟨(L.getD b []).toArray⟩ := ⟨_, rfl⟩
          have hwa := word_dec _ sa hsa
          have hwb := word_dec _ sb hsb
          change _ = some (Value.string ⟨(L.getD a []).toArray⟩) at hca
          change _ = some (Value.string ⟨(L.getD b []).toArray⟩) at hcb
          rw [← hsa] at hca
          rw [← hsb] at hcb
          rw [← hsa, ← hsb] at hwi
          have a0' : (0 : Int) ≤ (a : Int) := by omega
          have a1' : (a : Int) < (n : Int) := by omega
          have b0' : (0 : Int) ≤ (b : Int) := by omega
          have b1' : (b : Int) < (n : Int) := by omega
          have hgo : faultB L m goal a b = false → ∀ q, ∃ b', b' ≤ n ∧ Value.int .i64 ((b : Int) + 1) = .int .i64 (b' : Int) ∧ (∀ y, y < b' → faultB L m goal a y = false) ∧ Below w2.heap.size w2 (wr.drewN q) := fun hf q =>
            ⟨b + 1, by omega, by go_num, fun y hy => by
              by_cases e : y = b
              · rw [e]; exact hf
              · exact hno y (by omega), hB3.trans ((drewN_below _ _).mono hB3.size)⟩
          have hstop : faultB L m goal a b = true → res = false ∧ ∀ q, Below w.heap.size w (wr.drewN q) := fun hf => ⟨HR.out.1.trans (meets_none hG hgoal hlta hltb hf), fun q => (HB.out.trans (hB3.mono HB.out.size)).trans ((drewN_below _ _).mono (Nat.le_trans HB.out.size hB3.size))⟩
          have hfb : faultB L m goal a b = (decide (a ≠ b) && (decide (L.getD a [] = L.getD b []) || (decide (goal = 3) && withinB (L.getD a []) (L.getD b []) m))) := rfl
          have HGO := Lib.hid (⟨hgo, hstop, hfb⟩ : _ ∧ _ ∧ _)
          clear hgo hstop hfb hno hB3 hG
          by_cases hab : a = b
          · subst hab
            have h9 := HGO.out.1 (by rw [HGO.out.2.2]; simp)
            have H9 := Lib.hid h9
            clear h9 hwi
            go_wp2_with fail
            go_quiet (fail)
            go_wp2_with fail
            go_roundw
            case rel => exact H9.out _
            case measure => simp [intOf]; omega
          · have hn1 : (a : Int) ≠ (b : Int) := by omega
            have hn2 : decide ((a : Int) = (b : Int)) = false := decide_eq_false hn1
            have hn3 : ((a : Int) == (b : Int)) = false := by rw [beq_eq_false_iff_ne]; exact hn1
            have hn4 : ((a : Int) != (b : Int)) = true := by rw [bne, hn3]; rfl
            by_cases heq : L.getD a [] = L.getD b []
            · have he2 : sa = sb := by rw [hsa, hsb, heq]
              have h9 := HGO.out.2.1 (by rw [HGO.out.2.2, decide_eq_true hab, decide_eq_true heq]; rfl)
              have H9 := Lib.hid h9
              subst he2
              clear h9 hwi hsa hsb hwa hwb heq
              go_wp2_with fail
              go_quiet (fail)
              go_wp2_with fail
              go_ret
              exact ⟨by rw [H9.out.1]; rfl, H9.out.2 _⟩
            · have he : (sa.toList == sb.toList) = false := by
                rw [beq_eq_false_iff_ne, ByteArray.toList_eq, ByteArray.toList_eq, hwa.2, hwb.2]
                exact heq
              by_cases g3 : goal = 3
              · cases hd : withinB (L.getD a []) (L.getD b []) m with
                | true =>
                  rw [hd] at hwi
                  have h9 := HGO.out.2.1 (by rw [HGO.out.2.2, decide_eq_true hab, decide_eq_true g3, hd]; simp)
                  have H9 := Lib.hid h9
                  clear h9 hsa hsb hwa hwb heq hd
                  go_wp2_with fail
                  go_quiet ((go_at_call 43; exact Calls.quiet_of_same (hwi _)))
                  go_wp2_with fail
                  go_ret
                  exact ⟨by rw [H9.out.1]; rfl, H9.out.2 _⟩
                | false =>
                  rw [hd] at hwi
                  have h9 := HGO.out.1 (by rw [HGO.out.2.2, decide_eq_false heq, hd]; simp)
                  have H9 := Lib.hid h9
                  clear h9 hsa hsb hwa hwb heq hd
                  go_wp2_with fail
                  go_quiet ((go_at_call 43; exact Calls.quiet_of_same (hwi _)))
                  go_wp2_with fail
                  go_roundw
                  case rel => exact H9.out _
                  case measure => simp [intOf]; omega
              · have g31 : decide (goal = 3) = false := decide_eq_false g3
                have g32 : (goal == 3) = false := by rw [beq_eq_false_iff_ne]; exact g3
                have h9 := HGO.out.1 (by rw [HGO.out.2.2, decide_eq_false heq, g31]; simp)
                have H9 := Lib.hid h9
                clear h9 hsa hsb hwa hwb heq hwi
                go_wp2_with fail
                go_quiet (fail)
                go_wp2_with fail
                go_roundw
                case rel => exact H9.out _
                case measure => simp [intOf]; omega
        · obtain rfl : b = n := by omega
          have H9 := Lib.hid (⟨hno, hB3⟩ : _ ∧ _)
          clear hno hB3
          go_wp2_with fail
          go_roundw
          case rel =>
            refine ⟨a + 1, by omega, by go_num, fun x hx y hy => ?_, H9.out.2⟩
            by_cases e : x = a
            · rw [e]; exact H9.out.1 y hy
            · exact HN.out.1 x (by omega) y hy
          case measure => simp [intOf]; omega
    · obtain rfl : a = n := by omega
      have hB4 : Below w.heap.size w wr := HB.out.trans (hB2.mono HB.out.size)
      have hr := HR.out.1.trans (meets_rest HR.out.2 hgoal hno)
      by_cases g2 : goal = 2
      · rw [decide_eq_false (by omega), Bool.false_or] at hr
        have hso := HSO.out wr hB4
        have H9 := Lib.hid (⟨hr, hB4⟩ : _ ∧ _)
        clear hr hno hB2 hB4
        go_wp2_with fail
        refine hso.mono ?_
        rintro e w5 ⟨v5, rfl, hN, hB5⟩
        obtain ⟨a5, c5, rfl⟩ := nats_open hN
        have hB6 := H9.out.2.trans (hB5.mono H9.out.2.size)
        have H10 := Lib.hid hB6
        clear hso hN hB5 hB6
        go_wp2_with fail
        go_ret
        refine ⟨?_, H10.out⟩
        rw [H9.out.1]
        by_cases h0 : (stuckTo L a).length = 0
        · rw [h0]; rfl
        · rw [decide_eq_false h0]
          have : ((((stuckTo L a).length : Nat) : Int) == 0) = false := by rw [beq_eq_false_iff_ne]; omega
          rw [← this]
          rfl
      · rw [decide_eq_true g2, Bool.true_or] at hr
        have g21 : decide (goal = 2) = false := decide_eq_false g2
        have g22 : (goal == 2) = false := by rw [beq_eq_false_iff_ne]; exact g2
        have H9 := Lib.hid (⟨hr, hB4⟩ : _ ∧ _)
        clear hr hno hB2 hB4
        go_wp2_with fail
        go_ret
        exact ⟨by rw [H9.out.1]; rfl, H9.out.2⟩
end Go.Proofs.YtlkdpgjbbbaiiaaDoor
