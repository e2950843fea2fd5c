/- The reference's VectorsOf. -/
import Derived.Test.YtlcknglnpcggaaaGreatDoorVgRi
namespace Go.Proofs.YtlcknglnpcggaaaGreatDoor
open Go.RowKit

/-- The first r letters of column c. -/
def colN (S : List (List UInt8)) (c r : Nat) : List UInt8 := (List.range r).map fun i => (S.getD i []).getD c 0
theorem colN_succ (S : List (List UInt8)) (c r : Nat) : colN S c (r + 1) = colN S c r ++ [(S.getD r []).getD c 0] := by
  unfold colN
  rw [List.range_succ, List.map_append]
  rfl
theorem colN_len (S : List (List UInt8)) (c r : Nat) : (colN S c r).length = r := by simp [colN]
/-- A row of which the first k places have the new values. -/
def partG (f g : Nat → Value) (n k : Nat) : List Value := (List.range n).map fun j => if j < k then f j else g j
theorem partG_get (f g : Nat → Value) (n k i : Nat) : (partG f g n k)[i]? = if i < n then some (if i < k then f i else g i) else none := by
  unfold partG
  by_cases h : i < n
  · rw [if_pos h]
    simp [h]
  · rw [if_neg h]
    simp; omega
theorem partG_set (f g : Nat → Value) (n k : Nat) : (partG f g n k).set k (f k) = partG f g n (k + 1) := by
  apply List.ext_getElem?
  intro i
  rw [List.getElem?_set, partG_get, partG_get]
  have hl : (partG f g n k).length = n := by simp [partG]
  rw [hl]
  by_cases e : k = i
  · subst e
    rw [if_pos rfl]
    by_cases h : k < n
    · rw [if_pos h, if_pos h, if_pos (by omega)]
    · rw [if_neg h, if_neg h]
  · rw [if_neg e]
    by_cases h : i < n
    · rw [if_pos h, if_pos h]
      by_cases e2 : i < k
      · rw [if_pos e2, if_pos (by omega)]
      · rw [if_neg e2, if_neg (by omega)]
    · rw [if_neg h, if_neg h]
theorem partG_zero (f g : Nat → Value) (n : Nat) : partG f g n 0 = (List.range n).map g := by
  unfold partG
  simp
theorem partG_all (f g : Nat → Value) (n : Nat) : partG f g n n = (List.range n).map f := by
  apply List.ext_getElem?
  intro i
  rw [partG_get]
  by_cases h : i < n
  · rw [if_pos h, if_pos h]
    simp [h]
  · rw [if_neg h, List.getElem?_eq_none (by simp; omega)]
theorem slice_one (s : List UInt8) (k : Nat) (hk : k < s.length) (hs : s.length ≤ 1000) (W : World) : (Instr.slice 9 (.string ⟨s.toArray⟩) (some (.int .i64 (k : Int))) (some (.int .i64 (IntKind.i64.wrap ((k : Int) + 1)))) none).run Tryz.prog W = .ok (.string ⟨#[s.getD k 0]⟩) W := by
  rw [IntWalk.i64_in _ (by omega)]
  have hz : (⟨s.toArray⟩ : ByteArray).size = s.length := by show s.toArray.size = _; simp
  rw [run_slice_string W 9 ⟨s.toArray⟩ .i64 .i64 (k : Int) ((k : Int) + 1) Tryz.underlying9 (by omega) (by omega) (by rw [hz]; omega)]
  congr 2
  have e1 : ((k : Int) + 1).toNat = k + 1 := by omega
  rw [Int.toNat_natCast, e1]
  apply ByteArray.ext
  rw [ByteArray.data_extract]
  apply Array.ext
  · simp; omega
  · intro i h1 h2
    have : i = 0 := by simpa using h2
    subst this
    simp [List.getD, hk]

set_option maxHeartbeats 2000000 in
set_option maxRecDepth 100000 in
theorem rvectors_any (S : List (List UInt8)) (long : Nat) (hS0 : 1 ≤ S.length) (hS1 : S.length ≤ 1000) (hl : long ≤ 1000) (hS : ∀ s, s ∈ S → s.length = long) (B : Nat) (w : World) (v : Value) (h : StrsAt B w v S) :
    Calls Tryz.prog 37 #[v] w fun e w' => ∃ v', e = .returned v' ∧ StrsAt w.heap.size w' v' (turnL S long) ∧ Below w.heap.size w w' := by
  obtain ⟨hlen, ⟨_, h0⟩ | ⟨g, cap, cur, rfl, hBg, hg, hnc, hcm, hcs, ht⟩⟩ := h
  · omega
  have hrow : w.ownsRow B 9 1 (.slice (some ⟨g, 0, none⟩) S.length cap) S.length (S.map strV) := ⟨hlen, .inr ⟨g, cap, cur, rfl, hBg, hg, hnc, hcm, hcs, ht⟩⟩
  have hgl : g < w.heap.size := (Array.getElem?_eq_some_iff.1 hg).1
  obtain ⟨n, hn⟩ : ∃ n, n = S.length := ⟨_, rfl⟩
  have hcell : ∀ k, k < n → w.cell? ⟨g, k, none⟩ = some (strV (S.getD k [])) := fun k hk => by
    rw [hrow.cellAt k (by omega)]
    have hk2 : k < S.length := by omega
    simp [List.getD, hk2]
  have hsz : ∀ k, k < n → (S.getD k []).length = long := fun k hk => by
    have hk2 : k < S.length := by omega
    have e : S.getD k [] = S[k] := by simp [List.getD, hk2]
    rw [e]
    exact hS _ (List.getElem_mem hk2)
  have htl : turnL S long = (List.range long).map fun c => colN S c n := by
    unfold turnL colN
    congr 1
    funext c
    apply List.ext_getElem
    · simp [hn]
    · intro i h1 h2
      have hi : i < S.length := by simpa using h1
      simp [List.getD, hi]
  rw [← hn] at hS0 hS1 hnc ⊢
  have HT := Lib.hid htl
  have HC := Lib.hid hcell
  have HZ := Lib.hid hsz
  have hmk1 := make_strs long hl
  have hst := made_row w (.string ⟨#[]⟩) long hl 9 w.heap.size (Nat.le_refl _)
  obtain ⟨F, hF⟩ : ∃ F : Nat → Nat → Value, F = fun r c => strV (colN S c r) := ⟨_, rfl⟩
  have hF0 : ∀ c, F 0 c = Value.string ⟨#[]⟩ := fun c => by rw [hF]; simp [colN]
  have hst0 : List.replicate long (Value.string ⟨#[]⟩) = (List.range long).map (F 0) := by
    apply List.ext_getElem
    · simp
    · intro i h1 h2
      rw [List.getElem_replicate, List.getElem_map, hF0]
  clear hF0
  rw [hst0] at hst
  have HST := Lib.hid hst
  have HF := Lib.hid hF
  obtain ⟨s0, hs0⟩ : ∃ s0 : ByteArray, s0 = ⟨(S.getD 0 []).toArray⟩ := ⟨_, rfl⟩
  have hc0 := hcell 0 (by omega)
  change _ = some (Value.string ⟨(S.getD 0 []).toArray⟩) at hc0
  have hz0 : s0.size = long := by
    rw [hs0]
    show (S.getD 0 []).toArray.size = long
    simpa using hsz 0 (by omega)
  rw [← hs0] at hc0
  have hn0 : (0 : Int) < (n : Int) := by omega
  obtain ⟨c0, hcc0⟩ : ∃ c0, c0 = w.heap.size := ⟨_, rfl⟩
  clear hlen hg hcm hcs ht hrow hcell hsz htl hst hst0 hF hn hBg hs0 hS hS0
  go_enter Tryz.func37, Tryz.ntmps37
  go_wp2_with fail
  rw [← hcc0] at HST ⊢
  have hB1 : Below c0 w (w.alloc (.cells (madeCells #[.string ⟨#[]⟩] long) 9)) := (Below.refl _ _).alloc (by omega) _
  have HB1 := Lib.hid hB1
  have hgc : g < c0 := by omega
  clear hB1 hmk1 hc0
  generalize w.alloc (.cells (madeCells #[.string ⟨#[]⟩] long) 9) = W1 at HST HB1 ⊢
  have HC0 := Lib.hid (Nat.le_of_eq hcc0.symm)
  clear hcc0 hgl
  go_loopw [14] (fun i wr => ∃ r : Nat, r ≤ n ∧ i = .int .i64 (r : Int) ∧ wr.ownsRow c0 9 1 (.slice (some ⟨c0, 0, none⟩) long long) long ((List.range long).map (F r)) ∧ Below c0 w wr) (fun i _ => n - (intOf i).toNat)
  case atStart => exact ⟨0, by omega, rfl, HST.out, HB1.out⟩
  case round =>
    clear HST HB1
    obtain ⟨r, hr, rfl, hown, hB⟩ := hrel
    by_cases hlt : r < n
    · have hri0 : (0 : Int) ≤ (r : Int) := by omega
      have hri1 : (r : Int) < (n : Int) := by omega
      have hcellr := (hB.cell (p := ⟨g, r, none⟩) hgc).trans (HC.out r hlt)
      change _ = some (Value.string ⟨(S.getD r []).toArray⟩) at hcellr
      rw [← partG_zero (F (r + 1))] at hown
      have HO := Lib.hid (⟨hown, hB⟩ : _ ∧ _)
      obtain ⟨sx, hsx⟩ : ∃ sx : ByteArray, sx = ⟨(S.getD r []).toArray⟩ := ⟨_, rfl⟩
      rw [← hsx] at hcellr
      have HX := Lib.hid hsx
      clear hown hB hsx
      go_wp2_with fail
      clear hcellr
      go_loopw [20] (fun i wr => ∃ c : Nat, c ≤ long ∧ i = .int .i64 (c : Int) ∧ wr.ownsRow c0 9 1 (.slice (some ⟨c0, 0, none⟩) long long) long (partG (F (r + 1)) (F r) long c) ∧ Below c0 w wr) (fun i _ => long - (intOf i).toNat)
      case atStart => exact ⟨0, by omega, rfl, HO.out⟩
      case round =>
        clear HO
        obtain ⟨c, hc, rfl, hrow, hB2⟩ := hrel
        by_cases hlt2 : c < long
        · have hcb := hrow.cellAt c (by omega)
          obtain ⟨a, ha⟩ : ∃ a : ByteArray, a = ⟨(colN S c r).toArray⟩ := ⟨_, rfl⟩
          obtain ⟨sy, hsy⟩ : ∃ sy : ByteArray, sy = ⟨#[(S.getD r []).getD c 0]⟩ := ⟨_, rfl⟩
          have hcv : (partG (F (r + 1)) (F r) long c)[c]? = some (.string a) := by rw [partG_get, if_pos hlt2, if_neg (by omega), HF.out, ha]
          rw [hcv] at hcb
          have hcf := hrow.frozenAt c
          have hstep := (hrow.stored c (F (r + 1) c)).1
          rw [partG_set] at hstep
          have hFc : F (r + 1) c = .string (a ++ sy) := by
            rw [HF.out, ha, hsy, show (⟨#[(S.getD r []).getD c 0]⟩ : ByteArray) = ⟨([(S.getD r []).getD c 0] : List UInt8).toArray⟩ from rfl, strs_append, ← colN_succ]
          rw [hFc] at hstep
          have hsl := slice_one (S.getD r []) c (by have := HZ.out r hlt; omega) (by have := HZ.out r hlt; omega)
          rw [← HX.out, ← hsy] at hsl
          have haz : a.size = r := by
            rw [ha]
            show (colN S c r).toArray.size = r
            simp [colN_len]
          have hyz : sy.size = 1 := by rw [hsy]; rfl
          have hcs : ¬ 9223372036854775807 < a.size + sy.size := by omega
          have HS := Lib.hid (⟨hstep, hB2.setCell (p := ⟨c0, c, none⟩) (Nat.le_refl _) (.string (a ++ sy))⟩ : _ ∧ _)
          clear hrow hB2 hcv hstep hFc ha hsy haz hyz
          have hci0 : (0 : Int) ≤ (c : Int) := by omega
          have hci1 : (c : Int) < (long : Int) := by omega
          go_wp2_with fail
          go_region
          go_wp2_with fail
          go_roundw
          case rel => exact ⟨c + 1, by omega, by go_num, HS.out.1.drew, HS.out.2.drew⟩
          case measure => simp [intOf]; omega
        · obtain rfl : c = long := by omega
          rw [partG_all] at hrow
          have HS := Lib.hid (⟨hrow, hB2⟩ : _ ∧ _)
          clear hrow hB2
          go_wp2_with fail
          go_roundw
          case rel => exact ⟨r + 1, by omega, by go_num, HS.out⟩
          case measure => simp [intOf]; omega
    · obtain rfl : r = n := by omega
      have hfin : StrsAt c0 wr (.slice (some ⟨c0, 0, none⟩) long long) (turnL S long) := by
        unfold StrsAt
        rw [HT.out, List.length_map, List.length_range, List.map_map]
        rw [HF.out] at hown
        exact hown
      have HO := Lib.hid (⟨hfin, hB⟩ : _ ∧ _)
      clear hfin hown hB
      go_wp2_with fail
      go_ret
      exact ⟨_, rfl, row_base HO.out.1 HC0.out, HO.out.2.mono HC0.out⟩
end Go.Proofs.YtlcknglnpcggaaaGreatDoor
