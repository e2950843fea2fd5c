/- The program's turned, Sequences, FromSequences; the reference's VectorsOf, SequencesOf: for rows that may be empty. -/
import Derived.Test.YtoipgliokelcfaaGreatDoorPvLin
namespace Go.Proofs.YtoipgliokelcfaaGreatDoor
open Go.RowKit

theorem strs_append (a b : List UInt8) : (⟨a.toArray⟩ : ByteArray) ++ ⟨b.toArray⟩ = ⟨(a ++ b).toArray⟩ := by
  apply ByteArray.ext
  rw [ByteArray.data_append]
  apply Array.ext'
  simp
/-- The first r letters of column c. -/
def colN (S : List (List UInt8)) (c r : Nat) : List UInt8 := (List.range r).map fun i => (S.getD i []).getD c 0
theorem colN_succ (S : List (List UInt8)) (c r : Nat) : colN S c (r + 1) = colN S c r ++ [(S.getD r []).getD c 0] := by
  unfold colN
  rw [List.range_succ, List.map_append]
  rfl
theorem colN_len (S : List (List UInt8)) (c r : Nat) : (colN S c r).length = r := by simp [colN]
/-- A row of which the first k places have the new values. -/
def partG (f g : Nat → Value) (n k : Nat) : List Value := (List.range n).map fun j => if j < k then f j else g j
theorem partG_get (f g : Nat → Value) (n k i : Nat) : (partG f g n k)[i]? = if i < n then some (if i < k then f i else g i) else none := by
  unfold partG
  by_cases h : i < n
  · rw [if_pos h]
    simp [h]
  · rw [if_neg h]
    simp; omega
theorem partG_set (f g : Nat → Value) (n k : Nat) : (partG f g n k).set k (f k) = partG f g n (k + 1) := by
  apply List.ext_getElem?
  intro i
  rw [List.getElem?_set, partG_get, partG_get]
  have hl : (partG f g n k).length = n := by simp [partG]
  rw [hl]
  by_cases e : k = i
  · subst e
    rw [if_pos rfl]
    by_cases h : k < n
    · rw [if_pos h, if_pos h, if_pos (by omega)]
    · rw [if_neg h, if_neg h]
  · rw [if_neg e]
    by_cases h : i < n
    · rw [if_pos h, if_pos h]
      by_cases e2 : i < k
      · rw [if_pos e2, if_pos (by omega)]
      · rw [if_neg e2, if_neg (by omega)]
    · rw [if_neg h, if_neg h]
theorem partG_zero (f g : Nat → Value) (n : Nat) : partG f g n 0 = (List.range n).map g := by
  unfold partG
  simp
theorem partG_all (f g : Nat → Value) (n : Nat) : partG f g n n = (List.range n).map f := by
  apply List.ext_getElem?
  intro i
  rw [partG_get]
  by_cases h : i < n
  · rw [if_pos h, if_pos h]
    simp [h]
  · rw [if_neg h, List.getElem?_eq_none (by simp; omega)]
theorem slice_one (s : List UInt8) (k : Nat) (hk : k < s.length) (hs : s.length ≤ 1000) (W : World) : (Instr.slice 9 (.string ⟨s.toArray⟩) (some (.int .i64 (k : Int))) (some (.int .i64 (IntKind.i64.wrap ((k : Int) + 1)))) none).run Tryz.prog W = .ok (.string ⟨#[s.getD k 0]⟩) W := by
  rw [IntWalk.i64_in _ (by omega)]
  have hz : (⟨s.toArray⟩ : ByteArray).size = s.length := by show s.toArray.size = _; simp
  rw [run_slice_string W 9 ⟨s.toArray⟩ .i64 .i64 (k : Int) ((k : Int) + 1) Tryz.underlying9 (by omega) (by omega) (by rw [hz]; omega)]
  congr 2
  have e1 : ((k : Int) + 1).toNat = k + 1 := by omega
  rw [Int.toNat_natCast, e1]
  apply ByteArray.ext
  rw [ByteArray.data_extract]
  apply Array.ext
  · simp; omega
  · intro i h1 h2
    have : i = 0 := by simpa using h2
    subst this
    simp [List.getD, hk]
set_option maxHeartbeats 2000000 in
set_option maxRecDepth 100000 in
theorem turned_all (S : List (List UInt8)) (long : Nat) (hS1 : S.length ≤ 1000) (hl : long ≤ 1000) (hS : ∀ s, s ∈ S → s.length = long) (B : Nat) (w : World) (v : Value) (h : StrsAt B w v S) :
    Calls Tryz.prog 56 #[v, .int .i64 (long : Int)] w fun e w' => ∃ v', e = .returned v' ∧ StrsAt w.heap.size w' v' (turnL S long) ∧ Below w.heap.size w w' := by
  obtain ⟨a, cap, rfl, hop⟩ := strs_open h
  obtain ⟨n, hn⟩ : ∃ n, n = S.length := ⟨_, rfl⟩
  have hcell : 0 < n → ∃ g, a = some ⟨g, 0, none⟩ ∧ g < w.heap.size ∧ ∀ k, k < n → w.cell? ⟨g, k, none⟩ = some (strV (S.getD k [])) := by rw [hn]; exact hop
  have hsz : ∀ k, k < n → (S.getD k []).length = long := fun k hk => by
    have hk2 : k < S.length := by omega
    have e : S.getD k [] = S[k] := by simp [List.getD, hk2]
    rw [e]
    exact hS _ (List.getElem_mem hk2)
  have htl : turnL S long = (List.range long).map fun c => (List.range n).map fun r => (S.getD r []).getD c 0 := by
    unfold turnL
    congr 1
    funext c
    apply List.ext_getElem
    · simp [hn]
    · intro i h1 h2
      have hi : i < S.length := by simpa using h1
      simp [List.getD, hi]
  rw [← hn] at hS1 ⊢
  have HT := Lib.hid htl
  have HC := Lib.hid hcell
  have HZ := Lib.hid hsz
  have hmk1 := make_strs long hl
  have hmk2 := make_bytes n hS1
  have hst := made_row w (.string ⟨#[]⟩) long hl 9 w.heap.size (Nat.le_refl _)
  obtain ⟨F, hF⟩ : ∃ F : Nat → Value, F = fun c => strV ((List.range n).map fun r => (S.getD r []).getD c 0) := ⟨_, rfl⟩
  rw [← partL_zero F] at hst
  have HST := Lib.hid hst
  have HF := Lib.hid hF
  obtain ⟨c0, hc0⟩ : ∃ c0, c0 = w.heap.size := ⟨_, rfl⟩
  clear h hop hcell hsz htl hst hF hn
  go_enter Tryz.func56, Tryz.ntmps56
  go_wp2_with fail
  rw [← hc0] at HST ⊢
  have hB1 : Below c0 w (w.alloc (.cells (madeCells #[.string ⟨#[]⟩] long) 9)) := (Below.refl _ _).alloc (by omega) _
  have hl1 : c0 < (w.alloc (.cells (madeCells #[.string ⟨#[]⟩] long) 9)).heap.size := by simp; omega
  have HB1 := Lib.hid (⟨hB1, hl1⟩ : _ ∧ _)
  clear hB1 hl1 hmk1
  generalize w.alloc (.cells (madeCells #[.string ⟨#[]⟩] long) 9) = W1 at HST HB1 ⊢
  have HC0 := Lib.hid (Nat.le_of_eq hc0.symm)
  clear hc0
  go_loopw [14] (fun i wr => ∃ c : Nat, c ≤ long ∧ i = .int .i64 (c : Int) ∧ wr.ownsRow c0 9 1 (.slice (some ⟨c0, 0, none⟩) long long) long (partL F (.string ⟨#[]⟩) long c) ∧ Below c0 w wr ∧ c0 < wr.heap.size) (fun i _ => long - (intOf i).toNat)
  case atStart => exact ⟨0, by omega, rfl, HST.out, HB1.out⟩
  case round =>
    clear HST HB1
    obtain ⟨c, hc, rfl, hown, hB, hcl⟩ := hrel
    by_cases hlt : c < long
    · obtain ⟨wo, rfl⟩ : ∃ wo : World, wo = wr := ⟨_, rfl⟩
      have hci0 : (0 : Int) ≤ (c : Int) := by omega
      have hci1 : (c : Int) < (long : Int) := by omega
      have hst := made_row wo (.int .u8 0) n hS1 5 wo.heap.size (Nat.le_refl _)
      obtain ⟨G, hG⟩ : ∃ G : Nat → Value, G = fun r => .int .u8 ((((S.getD r []).getD c 0).toNat : Nat) : Int) := ⟨_, rfl⟩
      rw [← partL_zero G] at hst
      have hBa : Below wo.heap.size wo (wo.alloc (.cells (madeCells #[.int .u8 0] n) 5)) := (Below.refl _ _).alloc (Nat.le_refl _) _
      have HO := Lib.hid (⟨hown, hB⟩ : _ ∧ _)
      have HI := Lib.hid (⟨hst, hBa⟩ : _ ∧ _)
      have HG := Lib.hid hG
      clear hown hB hst hBa hG
      go_wp2_with fail
      obtain ⟨b, hb⟩ : ∃ b, b = wo.heap.size := ⟨_, rfl⟩
      rw [← hb] at HI ⊢
      generalize wo.alloc (.cells (madeCells #[.int .u8 0] n) 5) = W2 at HI ⊢
      have hcb0 : c0 < b := by omega
      have HBE := Lib.hid hb
      clear hb
      go_loopw [22] (fun i wr => ∃ r : Nat, r ≤ n ∧ i = .int .i64 (r : Int) ∧ wr.ownsRow b 5 1 (.slice (some ⟨b, 0, none⟩) n n) n (partL G (.int .u8 0) n r) ∧ Below b wo wr) (fun i _ => n - (intOf i).toNat)
      case atStart => exact ⟨0, by omega, rfl, HI.out⟩
      case round =>
        clear HI
        obtain ⟨r, hr, rfl, hrow, hB2⟩ := hrel
        by_cases hlt2 : r < n
        · obtain ⟨g, rfl, hgw, hcl2⟩ := HC.out (by omega)
          have hgc : g < c0 := Nat.lt_of_lt_of_le hgw HC0.out
          have hcellr := (hB2.cell (p := ⟨g, r, none⟩) (by show g < b; omega)).trans ((HO.out.2.cell (p := ⟨g, r, none⟩) hgc).trans (hcl2 r hlt2))
          have hsr := HZ.out r hlt2
          have hcb := hrow.cellAt r (by omega)
          have hcv : (partL G (.int .u8 0) n r)[r]? = some (.int .u8 0) := by rw [partL_get, if_pos hlt2, if_neg (by omega)]
          rw [hcv] at hcb
          have hcf := hrow.frozenAt r
          have hstep := (hrow.stored r (G r)).1
          rw [partL_set] at hstep
          have hBs := hB2.setCell (p := ⟨b, r, none⟩) (Nat.le_refl _) (G r)
          have hGr : G r = .int .u8 ((((S.getD r []).getD c 0).toNat : Nat) : Int) := by rw [HG.out]
          rw [hGr] at hstep hBs
          have hval : ∀ h : c < (⟨(S.getD r []).toArray⟩ : ByteArray).size, (⟨(S.getD r []).toArray⟩ : ByteArray)[c]'h = (S.getD r []).getD c 0 := fun h => by
            have h2 : c < (S.getD r []).length := by omega
            rw [List.getD_eq_getElem?_getD (l := S.getD r []), List.getElem?_eq_getElem h2]
            rfl
          have hss : (⟨(S.getD r []).toArray⟩ : ByteArray).size = long := by
            show (S.getD r []).toArray.size = long
            simpa using hsr
          have HS := Lib.hid (⟨hstep, hBs⟩ : _ ∧ _)
          have HV := Lib.hid (⟨hval, hss⟩ : _ ∧ _)
          have hcs : c < (⟨(S.getD r []).toArray⟩ : ByteArray).size := by omega
          clear hrow hB2 hcv hstep hBs hGr hval hss hsr hcl2
          generalize (S.getD r []).getD c 0 = u at HS HV
          change wr.cell? ⟨g, r, none⟩ = some (.string ⟨(S.getD r []).toArray⟩) at hcellr
          generalize (⟨(S.getD r []).toArray⟩ : ByteArray) = sr at hcellr HV hcs
          have hri0 : (0 : Int) ≤ (r : Int) := by omega
          have hri1 : (r : Int) < (n : Int) := by omega
          have hcs2 : (c : Int) < (sr.size : Int) := by omega
          go_wp2_with fail
          go_roundw
          case rel => exact ⟨r + 1, by omega, by go_num, by rw [HV.out.1]; exact HS.out.1, by rw [HV.out.1]; exact HS.out.2⟩
          case measure => simp [intOf]; omega
        · obtain rfl : r = n := by omega
          have hrowc := row_later HO.out.1 (HBE.out ▸ hB2)
          have hcc := hrowc.cellAt c (by omega)
          have hcv : (partL F (.string ⟨#[]⟩) long c)[c]? = some (.string ⟨#[]⟩) := by rw [partL_get, if_pos hlt, if_neg (by omega)]
          rw [hcv] at hcc
          have hcf := hrowc.frozenAt c
          have hstep := (hrowc.stored c (F c)).1
          rw [partL_set] at hstep
          have hBs := (HO.out.2.trans (hB2.mono (by omega))).setCell (p := ⟨c0, c, none⟩) (Nat.le_refl _) (F c)
          have hFc : F c = .string ⟨((List.range r).map fun j => (S.getD j []).getD c 0).toArray⟩ := by rw [HF.out]
          have hconv : (convert 65 9 (.slice (some ⟨b, 0, none⟩) r r)).run Tryz.prog wr = .ok (F c) wr := by
            have := run_convert_bytes_back (P := Tryz.prog) wr 65 9 5 ⟨b, 0, none⟩ r ((List.range r).map fun j => (S.getD j []).getD c 0) Tryz.underlying65 Tryz.underlying5 Tryz.underlying9 (fun j hj => by
              have hj2 : j < r := by simpa using hj
              rw [add_at, Nat.zero_add, hrow.cellAt j (by omega), partL_get, if_pos hj2, if_pos hj2, HG.out]
              simp)
            rw [List.length_map, List.length_range] at this
            rw [hFc]
            exact this
          obtain ⟨sc, hsc⟩ : ∃ sc : ByteArray, F c = .string sc := ⟨_, hFc⟩
          rw [hsc] at hconv hstep hBs
          have HS := Lib.hid (⟨hstep, hBs, Nat.lt_of_lt_of_le hcl hB2.size⟩ : _ ∧ _ ∧ _)
          clear hrow hB2 hrowc hcv hstep hBs hFc hsc
          go_wp2_with fail
          go_roundw
          case rel => exact ⟨c + 1, by omega, by go_num, HS.out.1, HS.out.2.1, by simpa [World.setCell] using HS.out.2.2⟩
          case measure => simp [intOf]; omega
    · obtain rfl : c = long := by omega
      rw [partL_all] at hown
      have hfin : StrsAt c0 wr (.slice (some ⟨c0, 0, none⟩) c c) (turnL S c) := by
        unfold StrsAt
        rw [HT.out, List.length_map, List.length_range, List.map_map]
        rw [HF.out] at hown
        exact hown
      have HO := Lib.hid (⟨hfin, hB⟩ : _ ∧ _)
      clear hown hfin hB
      go_wp2_with fail
      go_ret
      exact ⟨_, rfl, row_base HO.out.1 HC0.out, HO.out.2.mono HC0.out⟩
end Go.Proofs.YtoipgliokelcfaaGreatDoor
