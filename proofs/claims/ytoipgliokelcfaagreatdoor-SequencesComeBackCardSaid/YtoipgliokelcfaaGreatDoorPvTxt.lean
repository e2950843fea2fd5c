/- The program's Text of vectors; the reference's PatternLines. -/
import Derived.Test.YtoipgliokelcfaaGreatDoorM1
namespace Go.Proofs.YtoipgliokelcfaaGreatDoor
open Go.RowKit

/-- Lines. -/
def textL (S : List (List UInt8)) : List UInt8 := S.flatMap (· ++ [10])
theorem textL_succ (S : List (List UInt8)) (k : Nat) (hk : k < S.length) : textL (S.take (k + 1)) = textL (S.take k) ++ S.getD k [] ++ [10] := by
  unfold textL
  rw [List.take_succ_eq_append_getElem hk, List.flatMap_append]
  simp [List.getD, hk]
theorem textL_len (S : List (List UInt8)) (m : Nat) (h : ∀ k, k < S.length → (S.getD k []).length ≤ m) : ∀ k, k ≤ S.length → (textL (S.take k)).length ≤ k * (m + 1)
  | 0, _ => by simp [textL]
  | k + 1, hk => by
    have h1 := textL_len S m h k (by omega)
    have h2 := h k (by omega)
    have h3 : (k + 1) * (m + 1) = k * (m + 1) + (m + 1) := by rw [Nat.add_mul]; omega
    rw [textL_succ S k (by omega), List.length_append, List.length_append, h3, List.length_singleton]
    omega
theorem textL_all (S : List (List UInt8)) : textL (S.take S.length) = textL S := by rw [List.take_length]

set_option maxHeartbeats 2000000 in
set_option maxRecDepth 100000 in
/-- The closure of Text. -/
theorem pText1_any (S : List (List UInt8)) (hz : S.length ≤ 1000) (hb : ∀ k, k < S.length → (S.getD k []).length ≤ 1000) (w0 : World) (v : Value) (Bv : Nat) (hv : StrsAt Bv w0 v S) (pv : Nat) (hcv : w0.cell? ⟨pv, 0, none⟩ = some v) (b : Nat) (w : World) (hw : Below w0.heap.size w0 w) (hbl : BldF w0.heap.size b [] w) :
    Calls Tryz.prog 60 #[.func (.func 97) #[] #[.pointer (some ⟨b, 0, none⟩)], .pointer (some ⟨pv, 0, none⟩)] w fun e w' => e = .returned (.tuple #[]) ∧ BldF w0.heap.size b (textL S) w' ∧ Below w0.heap.size w0 w' := by
  obtain ⟨a, c, rfl, hop⟩ := strs_open hv
  obtain ⟨n, hn⟩ : ∃ n, n = S.length := ⟨_, rfl⟩
  have hlt := World.block_lt_of_cell? w0 ⟨pv, 0, none⟩ hcv
  have hc := (hw.cell (p := ⟨pv, 0, none⟩) hlt).trans hcv
  have HH := Lib.hid (⟨hop, hb, hn⟩ : _ ∧ _ ∧ _)
  have H0 := Lib.hid (⟨hw, hbl⟩ : _ ∧ _)
  rw [← hn] at hz hc
  clear hv hop hb hn hw hbl hcv hlt
  go_enter Tryz.func60, Tryz.ntmps60
  go_wp2_with fail
  clear hc
  go_loopw [7] (fun i wr => ∃ k : Nat, k ≤ n ∧ i = .int .i64 (k : Int) ∧ BldF w0.heap.size b (textL (S.take k)) wr ∧ Below w0.heap.size w0 wr) (fun i _ => n - (intOf i).toNat)
  case atStart => exact ⟨0, by omega, rfl, H0.out.2, H0.out.1⟩
  case round =>
    clear H0
    obtain ⟨k, hk, rfl, hbl, hB⟩ := hrel
    by_cases hlt : k < n
    · obtain ⟨g, rfl, hg, hcell⟩ := HH.out.1 (by rw [← HH.out.2.2]; omega)
      have hkS : k < S.length := by rw [← HH.out.2.2]; exact hlt
      have hc := (hB.cell (p := ⟨g, k, none⟩) hg).trans (hcell k hkS)
      have hsz := HH.out.2.1 k hkS
      have hl := textL_len S 1000 HH.out.2.1 k (by omega)
      have hsu := textL_succ S k hkS
      obtain ⟨s, hs⟩ : ∃ s : ByteArray, s = ⟨(S.getD k []).toArray⟩ := ⟨_, rfl⟩
      have hw := word_dec _ s hs
      change _ = some (Value.string ⟨(S.getD k []).toArray⟩) at hc
      rw [← hs] at hc
      have hss : s.size ≤ 1000 := by have := hw.1; omega
      have hll : (textL (S.take k)).length ≤ 90000000 := by have : k * 1001 ≤ 1000 * 1001 := Nat.mul_le_mul_right _ (by omega); omega
      have hBa : Below wr.heap.size wr (wr.alloc (.cells #[.string s] 9)) := (Below.refl _ _).alloc (Nat.le_refl _) _
      have hcl := write1_any w0.heap.size b (textL (S.take k)) s wr.heap.size 1 (wr.alloc (.cells #[.string s] 9)) (bld_kept hbl hBa) hll (by omega) (Nat.le_trans hB.size hBa.size) (by simp) (cell_fresh _ _ _ rfl) (Nat.le_refl _)
      rw [hw.2, ← hsu] at hcl
      have HB := Lib.hid (hB.trans (hBa.mono hB.size))
      clear hcell hkS hsz hs hw hB hl hsu hll hbl hBa
      have hk0 : (0 : Int) ≤ (k : Int) := by omega
      have hk1 : (k : Int) < (n : Int) := by omega
      go_wp2_with fail
      refine hcl.mono ?_
      rintro e w2 ⟨rfl, hA2, hB2⟩
      clear hcl
      have HB2 := Lib.hid (⟨hA2, HB.out.trans hB2⟩ : _ ∧ _)
      clear hA2 hB2 HB
      go_wp2_with fail
      go_roundw
      case rel => exact ⟨k + 1, by omega, by go_num, HB2.out.1, HB2.out.2⟩
      case measure => simp [intOf]; omega
    · have hkn : k = S.length := by rw [← HH.out.2.2]; omega
      rw [hkn, textL_all] at hbl
      have HX := Lib.hid (⟨hbl, hB⟩ : _ ∧ _)
      clear hbl hkn hB
      go_wp2_with fail
      go_end0
      exact ⟨rfl, HX.out⟩

set_option maxHeartbeats 2000000 in
set_option maxRecDepth 100000 in
/-- Write, over Text's closure. -/
theorem writeText_any (S : List (List UInt8)) (hz : S.length ≤ 200) (hb : ∀ k, k < S.length → (S.getD k []).length ≤ 100) (w : World) (v : Value) (Bv : Nat) (hv : StrsAt Bv w v S) (pv : Nat) (hcv : w.cell? ⟨pv, 0, none⟩ = some v) :
    Calls Tryz.prog 59 #[.func (.func 60) #[] #[.pointer (some ⟨pv, 0, none⟩)]] w fun e w' => e = .returned (.tuple #[.string ⟨(textL S).toArray⟩, .int .i64 0]) ∧ Below w.heap.size w w' := by
  have hlen : (textL S).length ≤ 20200 := by
    have h := textL_len S 100 hb S.length (Nat.le_refl _)
    rw [textL_all] at h
    have : S.length * 101 ≤ 200 * 101 := Nat.mul_le_mul_right _ hz
    omega
  have hBa : Below w.heap.size w (w.alloc (.cells #[.pointer none, .slice none 0 0] 67)) := (Below.refl _ _).alloc (Nat.le_refl _) _
  have ht := pText1_any S (by omega) (fun k hk => by have := hb k hk; omega) w v Bv hv pv hcv w.heap.size _ hBa (bld_new w)
  generalize textL S = T at ht hlen ⊢
  have h3 : (T.length : Int) ≤ 200000 := by omega
  clear hv hcv hb hBa
  go_enter Tryz.func59, Tryz.ntmps59
  go_wp2_with fail
  refine ht.mono ?_
  rintro e w2 ⟨rfl, hA, hB⟩
  clear ht
  have hlb := bLen_any _ _ _ w2 hA
  have hst := bString_any _ _ _ w2 hA hB.size
  have HB := Lib.hid hB
  clear hA hB
  go_wp2_with fail
  refine hlb.mono ?_
  rintro e w3 ⟨rfl, rfl⟩
  clear hlb
  go_wp2_with fail
  refine hst.mono ?_
  rintro e w4 ⟨rfl, hB4⟩
  clear hst
  have HB4 := Lib.hid (HB.out.trans hB4)
  clear hB4 HB
  go_wp2_with fail
  go_ret2
  exact ⟨rfl, HB4.out⟩

theorem linesErr_none {S : List (List UInt8)} (h : linesErr S = 0) : S.length ≤ 200 ∧ ∀ k, k < S.length → (S.getD k []).length ≤ 100 := by
  unfold linesErr at h
  by_cases h2 : 200 < S.length
  · rw [if_pos h2] at h; cases h
  rw [if_neg h2] at h
  refine ⟨by omega, fun k hk => ?_⟩
  have e : S.getD k [] = S[k] := by simp [List.getD, hk]
  have h3 := firstErr_none _ S h (S.getD k []) (by rw [e]; exact List.getElem_mem hk)
  unfold lineErr at h3
  by_cases h4 : S.getD k [] = []
  · rw [if_pos h4] at h3; cases h3
  rw [if_neg h4] at h3
  by_cases h5 : 100 < (S.getD k []).length
  · rw [if_pos h5] at h3; cases h3
  · omega

set_option maxHeartbeats 2000000 in
theorem pText_bad (S : List (List UInt8)) (hz : S.length ≤ 1000000) (hb : ∀ k, k < S.length → (S.getD k []).length ≤ 1000000) (he : linesErr S ≠ 0) (B : Nat) (w : World) (v : Value) (h : StrsAt B w v S) :
    Calls Tryz.prog 24 #[v] w fun e w' => e = .returned (.tuple #[.string ⟨#[]⟩, .int .i64 (linesErr S)]) ∧ Below w.heap.size w w' := by
  have hBa : Below w.heap.size w (w.alloc (.cells #[v] 39)) := (Below.refl _ _).alloc (Nat.le_refl _) _
  have hc := checkLines_any S hz hb B _ v (row_later h hBa)
  obtain ⟨a, c, rfl, -⟩ := strs_open h
  generalize linesErr S = E at hc he ⊢
  have hne : (E != 0) = true := by simpa using he
  have hne2 : (E == 0) = false := by simpa using he
  have HB := Lib.hid hBa
  clear h hb he hBa
  go_enter Tryz.func24, Tryz.ntmps24
  go_wp2_with fail
  refine hc.mono ?_
  rintro e w' ⟨rfl, hB⟩
  clear hc
  have HB2 := Lib.hid (HB.out.trans (hB.mono HB.out.size))
  clear hB HB
  go_wp2_with fail
  go_ret2
  exact ⟨rfl, HB2.out⟩
set_option maxHeartbeats 2000000 in
theorem pText_ok (S : List (List UInt8)) (he : linesErr S = 0) (B : Nat) (w : World) (v : Value) (h : StrsAt B w v S) :
    Calls Tryz.prog 24 #[v] w fun e w' => e = .returned (.tuple #[.string ⟨(textL S).toArray⟩, .int .i64 0]) ∧ Below w.heap.size w w' := by
  obtain ⟨h1, h2⟩ := linesErr_none he
  have hBa : Below w.heap.size w (w.alloc (.cells #[v] 39)) := (Below.refl _ _).alloc (Nat.le_refl _) _
  have hc := checkLines_any S (by omega) (fun k hk => by have := h2 k hk; omega) B _ v (row_later h hBa)
  rw [he] at hc
  have hcv : (w.alloc (.cells #[v] 39)).cell? ⟨w.heap.size, 0, none⟩ = some v := cell_fresh _ _ _ rfl
  have ht := fun (W : World) (hB : Below (w.alloc (.cells #[v] 39)).heap.size (w.alloc (.cells #[v] 39)) W) => writeText_any S h1 h2 W v B (row_later (row_later h hBa) hB) w.heap.size ((hB.cell (p := ⟨w.heap.size, 0, none⟩) (by simp)).trans hcv)
  obtain ⟨a, c, rfl, -⟩ := strs_open h
  have HB := Lib.hid (⟨hBa, ht⟩ : _ ∧ _)
  generalize textL S = T at HB ⊢
  clear h h2 he hBa ht hcv
  go_enter Tryz.func24, Tryz.ntmps24
  go_wp2_with fail
  refine hc.mono ?_
  rintro e w2 ⟨rfl, hB⟩
  clear hc
  have ht := HB.out.2 w2 hB
  have HB2 := Lib.hid (HB.out.1.trans (hB.mono HB.out.1.size))
  clear hB HB
  go_wp2_with fail
  refine ht.mono ?_
  rintro e w3 ⟨rfl, hB3⟩
  clear ht
  have HB3 := Lib.hid (HB2.out.trans (hB3.mono HB2.out.size))
  clear hB3 HB2
  go_wp2_with fail
  go_ret2
  exact ⟨rfl, HB3.out⟩
end Go.Proofs.YtoipgliokelcfaaGreatDoor
