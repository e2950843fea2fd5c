/- Distance of one net; DistanceOf. -/
import Derived.Test.YtlkdpgjbbbaiiaaDoorPdO
import Derived.Deep.RegionLaw
import Derived.Deep.RegionWith
namespace Go.Proofs.YtlkdpgjbbbaiiaaDoor
open Go.RowKit

theorem distance_one (V : List (List UInt8)) (hz : V.length ≤ 200) (hb : ∀ s, s ∈ V → s.length = 1) (he : vecErr 1 V = 0) (B : Nat) (w : World) (v : Value) (h : StrsAt B w v V) :
    Calls Tryd.prog 11 #[.int .i64 1, v] w fun e w' => e = .returned (.tuple #[.int .i64 0, .bool false, .int .i64 0]) ∧ Below w.heap.size w w' := by
  have hs := sequences_ok V 1 (by omega) (by omega) hz hb he B w v h
  obtain ⟨a, c, rfl, -⟩ := strs_open h
  generalize turnL V 1 = L at hs ⊢
  generalize V.length = m at hs ⊢
  clear h hz hb he
  change Calls _ _ #[.int .i64 1, _] _ _ at hs
  go_enter Tryd.func11, Tryd.ntmps11
  go_wp2_with fail
  refine hs.mono ?_
  rintro e w' ⟨v1, rfl, hS, hB⟩
  obtain ⟨a1, c1, rfl, -⟩ := strs_open hS
  generalize L.length = z at hS ⊢
  have HB := Lib.hid (hB.trans (((Below.refl w'.heap.size w').alloc (Nat.le_refl _) (.cells #[.slice a1 z c1] 26)).mono hB.size))
  clear hs hS hB
  go_wp2_with fail
  go_ret3
  exact ⟨rfl, HB.out⟩

/-- What DistanceOf holds when it has seen some pairs. -/
def refL (L : List (List UInt8)) (m : Nat) (xs : List (Nat × Nat)) : Int := if xs.length = 0 then -1 else (leastOf L m xs : Int)
theorem refL_snoc (L : List (List UInt8)) (m : Nat) (xs : List (Nat × Nat)) (x : Nat × Nat) : refL L m (xs ++ [x]) = if refL L m xs < 0 ∨ (diffN (L.getD x.1 []) (L.getD x.2 []) m : Int) < refL L m xs then (diffN (L.getD x.1 []) (L.getD x.2 []) m : Int) else refL L m xs := by
  have hd := diffN_le (L.getD x.1 []) (L.getD x.2 []) m
  have h1 : refL L m (xs ++ [x]) = ((min (leastOf L m xs) (diffN (L.getD x.1 []) (L.getD x.2 []) m) : Nat) : Int) := by
    unfold refL
    rw [if_neg (by simp), leastOf_snoc]
  rw [h1]
  by_cases h0 : xs.length = 0
  · have e : xs = [] := List.length_eq_zero_iff.1 h0
    subst e
    have e2 : refL L m [] = -1 := rfl
    rw [e2, if_pos (.inl (by decide))]
    show ((min m _ : Nat) : Int) = _
    congr 1
    omega
  · have e2 : refL L m xs = (leastOf L m xs : Int) := by unfold refL; rw [if_neg h0]
    rw [e2]
    split <;> omega
theorem refL_bound (L : List (List UInt8)) (m : Nat) (xs : List (Nat × Nat)) : -1 ≤ refL L m xs ∧ refL L m xs ≤ m := by
  have := leastOf_le L m xs
  unfold refL
  split <;> omega

set_option maxHeartbeats 8000000 in
set_option maxRecDepth 100000 in
theorem distanceOf_any (V : List (List UInt8)) (n : Nat) (h1 : 1 ≤ n) (h2 : n ≤ 100) (hz : V.length ≤ 200) (hb : ∀ s, s ∈ V → s.length = n ∧ s.all bitB = true) (B : Nat) (w : World) (v : Value) (h : StrsAt B w v V) :
    Calls Tryd.prog 22 #[.int .i64 (n : Int), v] w fun e w' => e = .returned (.tuple #[.int .i64 (max (refL (turnL V n) V.length (pairsTo n n)) 0), .bool (decide (0 ≤ refL (turnL V n) V.length (pairsTo n n)))]) ∧ Below w.heap.size w w' := by
  have hs := rsequences_any V n (by omega) (by omega) (fun s hs => (hb s hs).1) B w v h
  have hG := turnL_grid V n h1 h2 hz hb
  obtain ⟨a0, c0, rfl, -⟩ := strs_open h
  generalize turnL V n = L at hs hG ⊢
  generalize V.length = m at hs hG ⊢
  obtain ⟨res, hres⟩ : ∃ res, res = refL L m (pairsTo n n) := ⟨_, rfl⟩
  rw [← hres]
  have HR := Lib.hid (⟨hres, hG⟩ : _ ∧ _)
  have hm2 := hG.m2
  clear h hb hz hres
  go_enter Tryd.func22, Tryd.ntmps22
  go_wp2_with fail
  refine hs.mono ?_
  rintro e w2 ⟨v1, rfl, hS, hB⟩
  clear hs
  obtain ⟨a1, c1, rfl, hop⟩ := strs_open hS
  rw [hG.len] at hop ⊢
  obtain ⟨g, rfl, hg, hcell⟩ := hop (by omega)
  have HC := Lib.hid hcell
  have HB := Lib.hid hB
  clear hop hS hB hcell hG
  go_wp2_with fail
  go_loopw [7, 16] (fun v i wr => ∃ (a : Nat), a ≤ n ∧ i = .int .i64 (a : Int) ∧ v = .int .i64 (refL L m (pairsTo n a)) ∧ Below w2.heap.size w2 wr) (fun _ i _ => n - (intOf i).toNat)
  case atStart => exact ⟨0, by omega, rfl, rfl, Below.refl _ _⟩
  case round =>
    obtain ⟨a, ha, rfl, rfl, hB2⟩ := hrel
    by_cases hlta : a < n
    · have hb1 := hB2.size
      have HN := Lib.hid hB2
      clear hB2
      go_wp2_with fail
      go_loopw [7, 9] (fun v i wq => ∃ (b : Nat), a + 1 ≤ b ∧ b ≤ n ∧ i = .int .i64 (b : Int) ∧ v = .int .i64 (refL L m (pairsTo n a ++ rowTo a b)) ∧ Below w2.heap.size w2 wq) (fun _ i _ => n - (intOf i).toNat)
      case atStart => exact ⟨a + 1, by omega, by omega, by go_num, by rw [rowTo_none a (a + 1) (by omega), List.append_nil], HN.out⟩
      case round =>
        obtain ⟨b, hbl, hbn, rfl, rfl, hB3⟩ := hrel
        by_cases hltb : b < n
        · have hca := (hB3.cell (p := ⟨g, a, none⟩) hg).trans (HC.out a hlta)
          have hcb := (hB3.cell (p := ⟨g, b, none⟩) hg).trans (HC.out b hltb)
          have hG := HR.out.2
          have la := hG.long a hlta
          have lb := hG.long b hltb
          have hap := fun W => apart_any (L.getD a []) (L.getD b []) (by omega) (by omega) W
          rw [la] at hap
          have hsn := refL_snoc L m (pairsTo n a ++ rowTo a b) (a, b)
          rw [List.append_assoc, ← rowTo_succ a b (by omega)] at hsn
          dsimp only at hsn
          obtain ⟨d, hd⟩ : ∃ d, d = diffN (L.getD a []) (L.getD b []) m := ⟨_, rfl⟩
          have hdl : d ≤ m := by rw [hd]; exact diffN_le _ _ _
          rw [← hd] at hsn hap
          have hbd := refL_bound L m (pairsTo n a ++ rowTo a b)
          obtain ⟨sa, hsa⟩ : ∃ s : ByteArray, s = ⟨(L.getD a []).toArray⟩ := ⟨_, rfl⟩
          obtain ⟨sb, hsb⟩ : ∃ s : ByteArray, s = ⟨(L.getD b []).toArray⟩ := ⟨_, rfl⟩
          change _ = some (Value.string ⟨(L.getD a []).toArray⟩) at hca
          change _ = some (Value.string ⟨(L.getD b []).toArray⟩) at hcb
          rw [← hsa] at hca
          rw [← hsb] at hcb
          rw [← hsa, ← hsb] at hap
          have a0' : (0 : Int) ≤ (a : Int) := by omega
          have a1' : (a : Int) < (n : Int) := by omega
          have b0' : (0 : Int) ≤ (b : Int) := by omega
          have b1' : (b : Int) < (n : Int) := by omega
          generalize refL L m (pairsTo n a ++ rowTo a b) = r at hsn hbd ⊢
          have hbw := hB3.size
          have HS := Lib.hid (⟨hsn, fun (W : World) (hBW : Below wr.heap.size wr W) => hB3.trans (hBW.mono hbw)⟩ : _ ∧ ∀ W, Below wr.heap.size wr W → Below w2.heap.size w2 W)
          have hge : b ≤ n - 1 := by omega
          clear hsn hsa hsb hd la lb hG hB3
          by_cases hr0 : r < 0
          · go_wp2_with fail
            go_region_with (go_at_call 49; refine (hap _).mono ?_; rintro e w' ⟨rfl, hB1⟩; have hB5 : Below wr.heap.size wr w' := (Below.refl wr.heap.size wr).drew.trans hB1; clear hB1)
            all_goals go_wp2_with fail
            all_goals go_roundw
            case rel => exact ⟨b + 1, by omega, by omega, by go_num, by rw [HS.out.1, if_pos (.inl hr0)], HS.out.2 _ hB5⟩
            case measure => simp [intOf]; omega
            case rel => exact ⟨b + 1, by omega, by omega, by go_num, by rw [HS.out.1, if_pos (.inl hr0)], HS.out.2 _ hB5⟩
            case measure => simp [intOf]; omega
          · have hr1 : decide (r < 0) = false := decide_eq_false hr0
            by_cases hdr : (d : Int) < r
            · go_wp2_with fail
              go_region_with (go_at_call 49; refine (hap _).mono ?_; rintro e w' ⟨rfl, hB1⟩; have hB5 : Below wr.heap.size wr w' := (Below.refl wr.heap.size wr).drew.trans hB1; clear hB1)
              all_goals go_wp2_with fail
              all_goals go_roundw
              case rel => exact ⟨b + 1, by omega, by omega, by go_num, by rw [HS.out.1, if_pos (.inr hdr)], HS.out.2 _ hB5⟩
              case measure => simp [intOf]; omega
              case rel => exact ⟨b + 1, by omega, by omega, by go_num, by rw [HS.out.1, if_pos (.inr hdr)], HS.out.2 _ hB5⟩
              case measure => simp [intOf]; omega
            · have hr2 : decide ((d : Int) < r) = false := decide_eq_false hdr
              go_wp2_with fail
              go_region_with (go_at_call 49; refine (hap _).mono ?_; rintro e w' ⟨rfl, hB1⟩; have hB5 : Below wr.heap.size wr w' := (Below.refl wr.heap.size wr).drew.trans hB1; clear hB1)
              all_goals go_wp2_with fail
              all_goals go_roundw
              case rel => exact ⟨b + 1, by omega, by omega, by go_num, by rw [HS.out.1, if_neg (by omega)], HS.out.2 _ hB5⟩
              case measure => simp [intOf]; omega
              case rel => exact ⟨b + 1, by omega, by omega, by go_num, by rw [HS.out.1, if_neg (by omega)], HS.out.2 _ hB5⟩
              case measure => simp [intOf]; omega
        · obtain rfl : b = n := by omega
          have H9 := Lib.hid hB3
          clear hB3
          go_wp2_with fail
          go_roundw
          case rel => exact ⟨a + 1, by omega, by go_num, by rw [pairsTo_succ], H9.out⟩
          case measure => simp [intOf]; omega
    · obtain rfl : a = n := by omega
      have hB4 : Below w.heap.size w wr := HB.out.trans (hB2.mono HB.out.size)
      have hbd := refL_bound L m (pairsTo a a)
      have hr : refL L m (pairsTo a a) = res := HR.out.1.symm
      rw [hr] at hbd ⊢
      have H9 := Lib.hid hB4
      clear hB2 hB4 hr
      go_wp2_with fail
      go_ret2
      exact ⟨rfl, H9.out⟩
end Go.Proofs.YtlkdpgjbbbaiiaaDoor
