/- Package pattern's turned: columns of rows. -/
import Derived.Test.YtoipgliokelcfaaGreatDoorVgShort
import Derived.Test.YtoipgliokelcfaaGreatDoorDigits
namespace Go.Proofs.YtoipgliokelcfaaGreatDoor
open Go.RowKit

theorem Tryz.infoStrv : (Tryz.prog.info? 9).map (fun i => (i.zero, i.size, i.bytes)) = some (some (.string ⟨#[]⟩), 1, 16) := by kernel_rfl
theorem info_strv : ∃ i, Tryz.prog.info? 9 = some i ∧ i.zero = some (.string ⟨#[]⟩) ∧ i.size = 1 ∧ i.bytes = 16 := by
  have h := Tryz.infoStrv
  cases hi : Tryz.prog.info? 9 with
  | none => rw [hi] at h; simp at h
  | some i =>
    rw [hi] at h
    simp at h
    exact ⟨i, rfl, h.1, h.2.1, h.2.2⟩

abbrev strV (l : List UInt8) : Value := .string ⟨l.toArray⟩
/-- The slice value v has these strings, in a block from B on. -/
def StrsAt (B : Nat) (w : World) (v : Value) (S : List (List UInt8)) : Prop := w.ownsRow B 9 1 v S.length (S.map strV)

/-- make([]string, n). -/
theorem make_strs (n : Nat) (hn : n ≤ 1000) (W : World) : (Instr.makeSlice 39 (.int .i64 (n : Int)) (.int .i64 (n : Int))).run Tryz.prog W = .ok (.slice (some ⟨W.heap.size, 0, none⟩) n n) (W.alloc (.cells (madeCells #[.string ⟨#[]⟩] n) 9)) := by
  obtain ⟨i0, hi, hz0, hz1, hz2⟩ := info_strv
  have := run_makeSlice (P := Tryz.prog) W 39 9 i0 (.string ⟨#[]⟩) Tryz.underlying39 hi hz0 .i64 .i64 n n (by omega) (by omega) (by rw [hz1]; simp; omega) (by rw [hz2]; omega) (by omega)
  rw [hz1, show (Value.string ⟨#[]⟩).cells = #[.string ⟨#[]⟩] from rfl] at this
  simpa using this
/-- make([]byte, n). -/
theorem make_bytes (n : Nat) (hn : n ≤ 1000) (W : World) : (Instr.makeSlice 65 (.int .i64 (n : Int)) (.int .i64 (n : Int))).run Tryz.prog W = .ok (.slice (some ⟨W.heap.size, 0, none⟩) n n) (W.alloc (.cells (madeCells #[.int .u8 0] n) 5)) := by
  obtain ⟨i0, hi, hz0, hz1, hz2⟩ := info_u8
  have := run_makeSlice (P := Tryz.prog) W 65 5 i0 (.int .u8 0) Tryz.underlying65 hi hz0 .i64 .i64 n n (by omega) (by omega) (by rw [hz1]; simp; omega) (by rw [hz2]; omega) (by omega)
  rw [hz1, show (Value.int .u8 0).cells = #[.int .u8 0] from rfl] at this
  simpa using this
theorem made_row (W : World) (z : Value) (n : Nat) (hn : n ≤ 1000) (T : TypeId) (B : Nat) (hB : B ≤ W.heap.size) : (W.alloc (.cells (madeCells #[z] n) T)).ownsRow B T 1 (.slice (some ⟨W.heap.size, 0, none⟩) n n) n (List.replicate n z) := by
  have h := World.ownsRow_lit (base := B) (e := T) (size := 1) W (madeCells #[z] n) n hB (by unfold maxLen; omega) (by
    have := congrArg List.length (toList_madeCells_one z n)
    rw [Array.length_toList, List.length_replicate] at this
    omega)
  rw [toList_madeCells_one] at h
  exact h

/-- A row that is being filled. -/
def partL (f : Nat → Value) (z : Value) (n k : Nat) : List Value := (List.range n).map fun j => if j < k then f j else z
theorem partL_get (f : Nat → Value) (z : Value) (n k i : Nat) : (partL f z n k)[i]? = if i < n then some (if i < k then f i else z) else none := by
  unfold partL
  by_cases h : i < n
  · rw [if_pos h]
    simp [h]
  · rw [if_neg h]
    simp; omega
theorem partL_zero (f : Nat → Value) (z : Value) (n : Nat) : partL f z n 0 = List.replicate n z := by
  apply List.ext_getElem?
  intro i
  rw [partL_get, List.getElem?_replicate]
  simp
theorem partL_set (f : Nat → Value) (z : Value) (n k : Nat) : (partL f z n k).set k (f k) = partL f z n (k + 1) := by
  apply List.ext_getElem?
  intro i
  rw [List.getElem?_set, partL_get, partL_get]
  have hl : (partL f z n k).length = n := by simp [partL]
  rw [hl]
  by_cases e : k = i
  · subst e
    rw [if_pos rfl]
    by_cases h : k < n
    · rw [if_pos h, if_pos h, if_pos (by omega)]
    · rw [if_neg h, if_neg h]
  · rw [if_neg e]
    by_cases h : i < n
    · rw [if_pos h, if_pos h]
      by_cases e2 : i < k
      · rw [if_pos e2, if_pos (by omega)]
      · rw [if_neg e2, if_neg (by omega)]
    · rw [if_neg h, if_neg h]
theorem partL_all (f : Nat → Value) (z : Value) (n : Nat) : partL f z n n = (List.range n).map f := by
  apply List.ext_getElem?
  intro i
  rw [partL_get]
  by_cases h : i < n
  · rw [if_pos h, if_pos h]
    simp [h]
  · rw [if_neg h, List.getElem?_eq_none (by simp; omega)]
theorem partL_len (f : Nat → Value) (z : Value) (n k : Nat) : (partL f z n k).length = n := by simp [partL]

set_option maxHeartbeats 2000000 in
set_option maxRecDepth 100000 in
theorem turned_any (S : List (List UInt8)) (long : Nat) (hS0 : 1 ≤ S.length) (hS1 : S.length ≤ 1000) (hl : long ≤ 1000) (hS : ∀ s, s ∈ S → s.length = long) (B : Nat) (w : World) (v : Value) (h : StrsAt B w v S) :
    Calls Tryz.prog 56 #[v, .int .i64 (long : Int)] w fun e w' => ∃ v', e = .returned v' ∧ StrsAt w.heap.size w' v' (turnL S long) ∧ Below w.heap.size w w' := by
  obtain ⟨hlen, ⟨_, h0⟩ | ⟨g, cap, cur, rfl, hBg, hg, hnc, hcm, hcs, ht⟩⟩ := h
  · omega
  have hrow : w.ownsRow B 9 1 (.slice (some ⟨g, 0, none⟩) S.length cap) S.length (S.map strV) := ⟨hlen, .inr ⟨g, cap, cur, rfl, hBg, hg, hnc, hcm, hcs, ht⟩⟩
  have hgl : g < w.heap.size := (Array.getElem?_eq_some_iff.1 hg).1
  obtain ⟨n, hn⟩ : ∃ n, n = S.length := ⟨_, rfl⟩
  have hcell : ∀ k, k < n → w.cell? ⟨g, k, none⟩ = some (strV (S.getD k [])) := fun k hk => by
    rw [hrow.cellAt k (by omega)]
    have hk2 : k < S.length := by omega
    simp [List.getD, hk2]
  have hsz : ∀ k, k < n → (S.getD k []).length = long := fun k hk => by
    have hk2 : k < S.length := by omega
    have e : S.getD k [] = S[k] := by simp [List.getD, hk2]
    rw [e]
    exact hS _ (List.getElem_mem hk2)
  have htl : turnL S long = (List.range long).map fun c => (List.range n).map fun r => (S.getD r []).getD c 0 := by
    unfold turnL
    congr 1
    funext c
    apply List.ext_getElem
    · simp [hn]
    · intro i h1 h2
      have hi : i < S.length := by simpa using h1
      simp [List.getD, hi]
  rw [← hn] at hS0 hS1 hnc ⊢
  have HT := Lib.hid htl
  have HC := Lib.hid hcell
  have HZ := Lib.hid hsz
  have hmk1 := make_strs long hl
  have hmk2 := make_bytes n hS1
  have hst := made_row w (.string ⟨#[]⟩) long hl 9 w.heap.size (Nat.le_refl _)
  obtain ⟨F, hF⟩ : ∃ F : Nat → Value, F = fun c => strV ((List.range n).map fun r => (S.getD r []).getD c 0) := ⟨_, rfl⟩
  rw [← partL_zero F] at hst
  have HST := Lib.hid hst
  have HF := Lib.hid hF
  obtain ⟨c0, hc0⟩ : ∃ c0, c0 = w.heap.size := ⟨_, rfl⟩
  clear hlen hg hcm hcs ht hrow hcell hsz htl hst hF hn hBg
  go_enter Tryz.func56, Tryz.ntmps56
  go_wp2_with fail
  rw [← hc0] at HST ⊢
  have hB1 : Below c0 w (w.alloc (.cells (madeCells #[.string ⟨#[]⟩] long) 9)) := (Below.refl _ _).alloc (by omega) _
  have hl1 : c0 < (w.alloc (.cells (madeCells #[.string ⟨#[]⟩] long) 9)).heap.size := by simp; omega
  have HB1 := Lib.hid (⟨hB1, hl1⟩ : _ ∧ _)
  have hgc : g < c0 := by omega
  clear hB1 hl1 hmk1
  generalize w.alloc (.cells (madeCells #[.string ⟨#[]⟩] long) 9) = W1 at HST HB1 ⊢
  have HC0 := Lib.hid (Nat.le_of_eq hc0.symm)
  clear hc0 hgl
  go_loopw [14] (fun i wr => ∃ c : Nat, c ≤ long ∧ i = .int .i64 (c : Int) ∧ wr.ownsRow c0 9 1 (.slice (some ⟨c0, 0, none⟩) long long) long (partL F (.string ⟨#[]⟩) long c) ∧ Below c0 w wr ∧ c0 < wr.heap.size) (fun i _ => long - (intOf i).toNat)
  case atStart => exact ⟨0, by omega, rfl, HST.out, HB1.out⟩
  case round =>
    clear HST HB1
    obtain ⟨c, hc, rfl, hown, hB, hcl⟩ := hrel
    by_cases hlt : c < long
    · obtain ⟨wo, rfl⟩ : ∃ wo : World, wo = wr := ⟨_, rfl⟩
      have hci0 : (0 : Int) ≤ (c : Int) := by omega
      have hci1 : (c : Int) < (long : Int) := by omega
      have hst := made_row wo (.int .u8 0) n hS1 5 wo.heap.size (Nat.le_refl _)
      obtain ⟨G, hG⟩ : ∃ G : Nat → Value, G = fun r => .int .u8 ((((S.getD r []).getD c 0).toNat : Nat) : Int) := ⟨_, rfl⟩
      rw [← partL_zero G] at hst
      have hBa : Below wo.heap.size wo (wo.alloc (.cells (madeCells #[.int .u8 0] n) 5)) := (Below.refl _ _).alloc (Nat.le_refl _) _
      have HO := Lib.hid (⟨hown, hB⟩ : _ ∧ _)
      have HI := Lib.hid (⟨hst, hBa⟩ : _ ∧ _)
      have HG := Lib.hid hG
      clear hown hB hst hBa hG
      go_wp2_with fail
      obtain ⟨b, hb⟩ : ∃ b, b = wo.heap.size := ⟨_, rfl⟩
      rw [← hb] at HI ⊢
      generalize wo.alloc (.cells (madeCells #[.int .u8 0] n) 5) = W2 at HI ⊢
      have hcb0 : c0 < b := by omega
      have HBE := Lib.hid hb
      clear hb
      go_loopw [22] (fun i wr => ∃ r : Nat, r ≤ n ∧ i = .int .i64 (r : Int) ∧ wr.ownsRow b 5 1 (.slice (some ⟨b, 0, none⟩) n n) n (partL G (.int .u8 0) n r) ∧ Below b wo wr) (fun i _ => n - (intOf i).toNat)
      case atStart => exact ⟨0, by omega, rfl, HI.out⟩
      case round =>
        clear HI
        obtain ⟨r, hr, rfl, hrow, hB2⟩ := hrel
        by_cases hlt2 : r < n
        · have hcellr := (hB2.cell (p := ⟨g, r, none⟩) (by show g < b; omega)).trans ((HO.out.2.cell (p := ⟨g, r, none⟩) hgc).trans (HC.out r hlt2))
          have hsr := HZ.out r hlt2
          have hcb := hrow.cellAt r (by omega)
          have hcv : (partL G (.int .u8 0) n r)[r]? = some (.int .u8 0) := by rw [partL_get, if_pos hlt2, if_neg (by omega)]
          rw [hcv] at hcb
          have hcf := hrow.frozenAt r
          have hstep := (hrow.stored r (G r)).1
          rw [partL_set] at hstep
          have hBs := hB2.setCell (p := ⟨b, r, none⟩) (Nat.le_refl _) (G r)
          have hGr : G r = .int .u8 ((((S.getD r []).getD c 0).toNat : Nat) : Int) := by rw [HG.out]
          rw [hGr] at hstep hBs
          have hval : ∀ h : c < (⟨(S.getD r []).toArray⟩ : ByteArray).size, (⟨(S.getD r []).toArray⟩ : ByteArray)[c]'h = (S.getD r []).getD c 0 := fun h => by
            have h2 : c < (S.getD r []).length := by omega
            rw [List.getD_eq_getElem?_getD (l := S.getD r []), List.getElem?_eq_getElem h2]
            rfl
          have hss : (⟨(S.getD r []).toArray⟩ : ByteArray).size = long := by
            show (S.getD r []).toArray.size = long
            simpa using hsr
          have HS := Lib.hid (⟨hstep, hBs⟩ : _ ∧ _)
          have HV := Lib.hid (⟨hval, hss⟩ : _ ∧ _)
          have hcs : c < (⟨(S.getD r []).toArray⟩ : ByteArray).size := by omega
          clear hrow hB2 hcv hstep hBs hGr hval hss hsr
          generalize (S.getD r []).getD c 0 = u at HS HV
          change wr.cell? ⟨g, r, none⟩ = some (.string ⟨(S.getD r []).toArray⟩) at hcellr
          generalize (⟨(S.getD r []).toArray⟩ : ByteArray) = sr at hcellr HV hcs
          have hri0 : (0 : Int) ≤ (r : Int) := by omega
          have hri1 : (r : Int) < (n : Int) := by omega
          have hcs2 : (c : Int) < (sr.size : Int) := by omega
          go_wp2_with fail
          go_roundw
          case rel => exact ⟨r + 1, by omega, by go_num, by rw [HV.out.1]; exact HS.out.1, by rw [HV.out.1]; exact HS.out.2⟩
          case measure => simp [intOf]; omega
        · obtain rfl : r = n := by omega
          have hrowc := row_later HO.out.1 (HBE.out ▸ hB2)
          have hcc := hrowc.cellAt c (by omega)
          have hcv : (partL F (.string ⟨#[]⟩) long c)[c]? = some (.string ⟨#[]⟩) := by rw [partL_get, if_pos hlt, if_neg (by omega)]
          rw [hcv] at hcc
          have hcf := hrowc.frozenAt c
          have hstep := (hrowc.stored c (F c)).1
          rw [partL_set] at hstep
          have hBs := (HO.out.2.trans (hB2.mono (by omega))).setCell (p := ⟨c0, c, none⟩) (Nat.le_refl _) (F c)
          have hFc : F c = .string ⟨((List.range r).map fun j => (S.getD j []).getD c 0).toArray⟩ := by rw [HF.out]
          have hconv : (convert 65 9 (.slice (some ⟨b, 0, none⟩) r r)).run Tryz.prog wr = .ok (F c) wr := by
            have := run_convert_bytes_back (P := Tryz.prog) wr 65 9 5 ⟨b, 0, none⟩ r ((List.range r).map fun j => (S.getD j []).getD c 0) Tryz.underlying65 Tryz.underlying5 Tryz.underlying9 (fun j hj => by
              have hj2 : j < r := by simpa using hj
              rw [add_at, Nat.zero_add, hrow.cellAt j (by omega), partL_get, if_pos hj2, if_pos hj2, HG.out]
              simp)
            rw [List.length_map, List.length_range] at this
            rw [hFc]
            exact this
          obtain ⟨sc, hsc⟩ : ∃ sc : ByteArray, F c = .string sc := ⟨_, hFc⟩
          rw [hsc] at hconv hstep hBs
          have HS := Lib.hid (⟨hstep, hBs, Nat.lt_of_lt_of_le hcl hB2.size⟩ : _ ∧ _ ∧ _)
          clear hrow hB2 hrowc hcv hstep hBs hFc hsc
          go_wp2_with fail
          go_roundw
          case rel => exact ⟨c + 1, by omega, by go_num, HS.out.1, HS.out.2.1, by simpa [World.setCell] using HS.out.2.2⟩
          case measure => simp [intOf]; omega
    · obtain rfl : c = long := by omega
      rw [partL_all] at hown
      have hfin : StrsAt c0 wr (.slice (some ⟨c0, 0, none⟩) c c) (turnL S c) := by
        unfold StrsAt
        rw [HT.out, List.length_map, List.length_range, List.map_map]
        rw [HF.out] at hown
        exact hown
      have HO := Lib.hid (⟨hfin, hB⟩ : _ ∧ _)
      clear hown hfin hB
      go_wp2_with fail
      go_ret
      exact ⟨_, rfl, row_base HO.out.1 HC0.out, HO.out.2.mono HC0.out⟩
end Go.Proofs.YtoipgliokelcfaaGreatDoor
