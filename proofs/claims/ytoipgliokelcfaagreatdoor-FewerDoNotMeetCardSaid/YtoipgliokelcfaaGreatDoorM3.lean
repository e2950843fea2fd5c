/- The program's Text of vectors; the reference's PatternLines. -/
import Derived.Test.YtoipgliokelcfaaGreatDoorM2
import Derived.Test.YtoipgliokelcfaaGreatDoorVgCnt
import Derived.WalkLawsBesides
namespace Go.Proofs.YtoipgliokelcfaaGreatDoor
open Go.RowKit

/-- Lines. -/
def textL (S : List (List UInt8)) : List UInt8 := S.flatMap (· ++ [10])
theorem textL_succ (S : List (List UInt8)) (k : Nat) (hk : k < S.length) : textL (S.take (k + 1)) = textL (S.take k) ++ S.getD k [] ++ [10] := by
  unfold textL
  rw [List.take_succ_eq_append_getElem hk, List.flatMap_append]
  simp [List.getD, hk]
theorem textL_len (S : List (List UInt8)) (m : Nat) (h : ∀ k, k < S.length → (S.getD k []).length ≤ m) : ∀ k, k ≤ S.length → (textL (S.take k)).length ≤ k * (m + 1)
  | 0, _ => by simp [textL]
  | k + 1, hk => by
    have h1 := textL_len S m h k (by omega)
    have h2 := h k (by omega)
    have h3 : (k + 1) * (m + 1) = k * (m + 1) + (m + 1) := by rw [Nat.add_mul]; omega
    rw [textL_succ S k (by omega), List.length_append, List.length_append, h3, List.length_singleton]
    omega
theorem textL_all (S : List (List UInt8)) : textL (S.take S.length) = textL S := by rw [List.take_length]

set_option maxHeartbeats 2000000 in
set_option maxRecDepth 100000 in
/-- The closure of Text. -/
theorem pText1_any (S : List (List UInt8)) (hz : S.length ≤ 1000) (hb : ∀ k, k < S.length → (S.getD k []).length ≤ 1000) (w0 : World) (v : Value) (Bv : Nat) (hv : StrsAt Bv w0 v S) (pv : Nat) (hcv : w0.cell? ⟨pv, 0, none⟩ = some v) (b : Nat) (w : World) (hw : Below w0.heap.size w0 w) (hbl : BldF w0.heap.size b [] w) :
    Calls Tryz.prog 60 #[.func (.func 97) #[] #[.pointer (some ⟨b, 0, none⟩)], .pointer (some ⟨pv, 0, none⟩)] w fun e w' => e = .returned (.tuple #[]) ∧ BldF w0.heap.size b (textL S) w' ∧ Below w0.heap.size w0 w' := by
  obtain ⟨a, c, rfl, hop⟩ := strs_open hv
  obtain ⟨n, hn⟩ : ∃ n, n = S.length := ⟨_, rfl⟩
  have hlt := World.block_lt_of_cell? w0 ⟨pv, 0, none⟩ hcv
  have hc := (hw.cell (p := ⟨pv, 0, none⟩) hlt).trans hcv
  have HH := Lib.hid (⟨hop, hb, hn⟩ : _ ∧ _ ∧ _)
  have H0 := Lib.hid (⟨hw, hbl⟩ : _ ∧ _)
  rw [← hn] at hz hc
  clear hv hop hb hn hw hbl hcv hlt
  go_enter Tryz.func60, Tryz.ntmps60
  go_wp2_with fail
  clear hc
  go_loopw [7] (fun i wr => ∃ k : Nat, k ≤ n ∧ i = .int .i64 (k : Int) ∧ BldF w0.heap.size b (textL (S.take k)) wr ∧ Below w0.heap.size w0 wr) (fun i _ => n - (intOf i).toNat)
  case atStart => exact ⟨0, by omega, rfl, H0.out.2, H0.out.1⟩
  case round =>
    clear H0
    obtain ⟨k, hk, rfl, hbl, hB⟩ := hrel
    by_cases hlt : k < n
    · obtain ⟨g, rfl, hg, hcell⟩ := HH.out.1 (by rw [← HH.out.2.2]; omega)
      have hkS : k < S.length := by rw [← HH.out.2.2]; exact hlt
      have hc := (hB.cell (p := ⟨g, k, none⟩) hg).trans (hcell k hkS)
      have hsz := HH.out.2.1 k hkS
      have hl := textL_len S 1000 HH.out.2.1 k (by omega)
      have hsu := textL_succ S k hkS
      obtain ⟨s, hs⟩ : ∃ s : ByteArray, s = ⟨(S.getD k []).toArray⟩ := ⟨_, rfl⟩
      have hw := word_dec _ s hs
      change _ = some (Value.string ⟨(S.getD k []).toArray⟩) at hc
      rw [← hs] at hc
      have hss : s.size ≤ 1000 := by have := hw.1; omega
      have hll : (textL (S.take k)).length ≤ 90000000 := by have : k * 1001 ≤ 1000 * 1001 := Nat.mul_le_mul_right _ (by omega); omega
      have hBa : Below wr.heap.size wr (wr.alloc (.cells #[.string s] 9)) := (Below.refl _ _).alloc (Nat.le_refl _) _
      have hcl := write1_any w0.heap.size b (textL (S.take k)) s wr.heap.size 1 (wr.alloc (.cells #[.string s] 9)) (bld_kept hbl hBa) hll (by omega) (Nat.le_trans hB.size hBa.size) (by simp) (cell_fresh _ _ _ rfl) (Nat.le_refl _)
      rw [hw.2, ← hsu] at hcl
      have HB := Lib.hid (hB.trans (hBa.mono hB.size))
      clear hcell hkS hsz hs hw hB hl hsu hll hbl hBa
      have hk0 : (0 : Int) ≤ (k : Int) := by omega
      have hk1 : (k : Int) < (n : Int) := by omega
      go_wp2_with fail
      refine hcl.mono ?_
      rintro e w2 ⟨rfl, hA2, hB2⟩
      clear hcl
      have HB2 := Lib.hid (⟨hA2, HB.out.trans hB2⟩ : _ ∧ _)
      clear hA2 hB2 HB
      go_wp2_with fail
      go_roundw
      case rel => exact ⟨k + 1, by omega, by go_num, HB2.out.1, HB2.out.2⟩
      case measure => simp [intOf]; omega
    · have hkn : k = S.length := by rw [← HH.out.2.2]; omega
      rw [hkn, textL_all] at hbl
      have HX := Lib.hid (⟨hbl, hB⟩ : _ ∧ _)
      clear hbl hkn hB
      go_wp2_with fail
      go_end0
      exact ⟨rfl, HX.out⟩

set_option maxHeartbeats 2000000 in
set_option maxRecDepth 100000 in
/-- Write, over Text's closure. -/
theorem writeText_any (S : List (List UInt8)) (hz : S.length ≤ 200) (hb : ∀ k, k < S.length → (S.getD k []).length ≤ 100) (w : World) (v : Value) (Bv : Nat) (hv : StrsAt Bv w v S) (pv : Nat) (hcv : w.cell? ⟨pv, 0, none⟩ = some v) :
    Calls Tryz.prog 59 #[.func (.func 60) #[] #[.pointer (some ⟨pv, 0, none⟩)]] w fun e w' => e = .returned (.tuple #[.string ⟨(textL S).toArray⟩, .int .i64 0]) ∧ Below w.heap.size w w' := by
  have hlen : (textL S).length ≤ 20200 := by
    have h := textL_len S 100 hb S.length (Nat.le_refl _)
    rw [textL_all] at h
    have : S.length * 101 ≤ 200 * 101 := Nat.mul_le_mul_right _ hz
    omega
  have hBa : Below w.heap.size w (w.alloc (.cells #[.pointer none, .slice none 0 0] 67)) := (Below.refl _ _).alloc (Nat.le_refl _) _
  have ht := pText1_any S (by omega) (fun k hk => by have := hb k hk; omega) w v Bv hv pv hcv w.heap.size _ hBa (bld_new w)
  generalize textL S = T at ht hlen ⊢
  have h3 : (T.length : Int) ≤ 200000 := by omega
  clear hv hcv hb hBa
  go_enter Tryz.func59, Tryz.ntmps59
  go_wp2_with fail
  refine ht.mono ?_
  rintro e w2 ⟨rfl, hA, hB⟩
  clear ht
  have hlb := bLen_any _ _ _ w2 hA
  have hst := bString_any _ _ _ w2 hA hB.size
  have HB := Lib.hid hB
  clear hA hB
  go_wp2_with fail
  refine hlb.mono ?_
  rintro e w3 ⟨rfl, rfl⟩
  clear hlb
  go_wp2_with fail
  refine hst.mono ?_
  rintro e w4 ⟨rfl, hB4⟩
  clear hst
  have HB4 := Lib.hid (HB.out.trans hB4)
  clear hB4 HB
  go_wp2_with fail
  go_ret2
  exact ⟨rfl, HB4.out⟩

theorem linesErr_none {S : List (List UInt8)} (h : linesErr S = 0) : S.length ≤ 200 ∧ ∀ k, k < S.length → (S.getD k []).length ≤ 100 := by
  unfold linesErr at h
  by_cases h2 : 200 < S.length
  · rw [if_pos h2] at h; cases h
  rw [if_neg h2] at h
  refine ⟨by omega, fun k hk => ?_⟩
  have e : S.getD k [] = S[k] := by simp [List.getD, hk]
  have h3 := firstErr_none _ S h (S.getD k []) (by rw [e]; exact List.getElem_mem hk)
  unfold lineErr at h3
  by_cases h4 : S.getD k [] = []
  · rw [if_pos h4] at h3; cases h3
  rw [if_neg h4] at h3
  by_cases h5 : 100 < (S.getD k []).length
  · rw [if_pos h5] at h3; cases h3
  · omega

set_option maxHeartbeats 2000000 in
theorem pText_bad (S : List (List UInt8)) (hz : S.length ≤ 1000000) (hb : ∀ k, k < S.length → (S.getD k []).length ≤ 1000000) (he : linesErr S ≠ 0) (B : Nat) (w : World) (v : Value) (h : StrsAt B w v S) :
    Calls Tryz.prog 24 #[v] w fun e w' => e = .returned (.tuple #[.string ⟨#[]⟩, .int .i64 (linesErr S)]) ∧ Below w.heap.size w w' := by
  have hBa : Below w.heap.size w (w.alloc (.cells #[v] 39)) := (Below.refl _ _).alloc (Nat.le_refl _) _
  have hc := checkLines_any S hz hb B _ v (row_later h hBa)
  obtain ⟨a, c, rfl, -⟩ := strs_open h
  generalize linesErr S = E at hc he ⊢
  have hne : (E != 0) = true := by simpa using he
  have hne2 : (E == 0) = false := by simpa using he
  have HB := Lib.hid hBa
  clear h hb he hBa
  go_enter Tryz.func24, Tryz.ntmps24
  go_wp2_with fail
  refine hc.mono ?_
  rintro e w' ⟨rfl, hB⟩
  clear hc
  have HB2 := Lib.hid (HB.out.trans (hB.mono HB.out.size))
  clear hB HB
  go_wp2_with fail
  go_ret2
  exact ⟨rfl, HB2.out⟩
set_option maxHeartbeats 2000000 in
theorem pText_ok (S : List (List UInt8)) (he : linesErr S = 0) (B : Nat) (w : World) (v : Value) (h : StrsAt B w v S) :
    Calls Tryz.prog 24 #[v] w fun e w' => e = .returned (.tuple #[.string ⟨(textL S).toArray⟩, .int .i64 0]) ∧ Below w.heap.size w w' := by
  obtain ⟨h1, h2⟩ := linesErr_none he
  have hBa : Below w.heap.size w (w.alloc (.cells #[v] 39)) := (Below.refl _ _).alloc (Nat.le_refl _) _
  have hc := checkLines_any S (by omega) (fun k hk => by have := h2 k hk; omega) B _ v (row_later h hBa)
  rw [he] at hc
  have hcv : (w.alloc (.cells #[v] 39)).cell? ⟨w.heap.size, 0, none⟩ = some v := cell_fresh _ _ _ rfl
  have ht := fun (W : World) (hB : Below (w.alloc (.cells #[v] 39)).heap.size (w.alloc (.cells #[v] 39)) W) => writeText_any S h1 h2 W v B (row_later (row_later h hBa) hB) w.heap.size ((hB.cell (p := ⟨w.heap.size, 0, none⟩) (by simp)).trans hcv)
  obtain ⟨a, c, rfl, -⟩ := strs_open h
  have HB := Lib.hid (⟨hBa, ht⟩ : _ ∧ _)
  generalize textL S = T at HB ⊢
  clear h h2 he hBa ht hcv
  go_enter Tryz.func24, Tryz.ntmps24
  go_wp2_with fail
  refine hc.mono ?_
  rintro e w2 ⟨rfl, hB⟩
  clear hc
  have ht := HB.out.2 w2 hB
  have HB2 := Lib.hid (HB.out.1.trans (hB.mono HB.out.1.size))
  clear hB HB
  go_wp2_with fail
  refine ht.mono ?_
  rintro e w3 ⟨rfl, hB3⟩
  clear ht
  have HB3 := Lib.hid (HB2.out.trans (hB3.mono HB2.out.size))
  clear hB3 HB2
  go_wp2_with fail
  go_ret2
  exact ⟨rfl, HB3.out⟩
end Go.Proofs.YtoipgliokelcfaaGreatDoor
/- Package pattern's inverted, and strings.Map with it, at a row of digits. -/
namespace Go.Proofs.YtoipgliokelcfaaGreatDoor
open Go.RowKit

/-- What inverting makes of a rune. -/
def invR (x : Int) : Int := 97 - x
def invB (c : UInt8) : UInt8 := if c = 48 then 49 else 48
theorem map_inv : ∀ long, long < 8 → ∀ n, n < 128 → Lib.mapD invR (digL n long) = (digL n long).map invB := by decide +kernel
/-- The tables of package utf8. -/
abbrev U8T (w : World) : Prop := Lib.Utf8Tabs 2 3 w
theorem U8T.lt {w : World} (h : U8T w) : 2 < w.heap.size ∧ 3 < w.heap.size :=
  ⟨World.block_lt_of_cell? w ⟨_, 0, none⟩ (h.1 0 (by decide)), World.block_lt_of_cell? w ⟨_, 2 * 0, none⟩ (h.2 0 (by decide)).1⟩
theorem U8T.below {w w' : World} {B : Nat} (h : U8T w) (hb : Below B w w') (h1 : 2 < B) (h2 : 3 < B) : U8T w' :=
  ⟨fun c hc => (hb.cell (p := ⟨_, c, none⟩) h1).trans (h.1 c hc), fun i hi => ⟨(hb.cell (p := ⟨_, 2 * i, none⟩) h2).trans (h.2 i hi).1, (hb.cell (p := ⟨_, 2 * i + 1, none⟩) h2).trans (h.2 i hi).2⟩⟩

theorem pinverted_any (x : Nat) (hx : x ≤ 1114111) (W : World) : Calls Tryz.prog 46 #[.int .i32 (x : Int)] W fun e w' => e = .returned (.int .i32 (invR (x : Int))) ∧ Below W.heap.size W w' := by
  have hw : IntKind.i32.wrap (97 - (x : Int)) = 97 - (x : Int) := IntWalk.i32_in _ (by omega)
  go_enter Tryz.func46, Tryz.ntmps46
  go_wp2_with fail
  go_ret
  exact ⟨rfl, Below.refl _ _⟩

/-- The inverted digits. -/
def invL (n long : Nat) : List UInt8 := (digL n long).map invB
theorem pmap_any (n long : Nat) (hl : long < 8) (hn : n < 128) (w : World) (hU : U8T w) : Calls Tryz.prog 45 #[.func (.func 46) #[] #[], .string ⟨(digL n long).toArray⟩] w fun e w' => e = .returned (strV (invL n long)) ∧ Below w.heap.size w w' := by
  have h := Tryz.strings_Map_grows 46 #[] (enters_of Tryz.func46 (by kernel_rfl) rfl) invR ⟨(digL n long).toArray⟩ w (by
    show (digL n long).toArray.size < _
    rw [List.size_toArray, digL_len]
    omega) (fun W x hx _ => pinverted_any x hx W) (fun x hx => by unfold invR; omega) hU
  have e : (⟨(digL n long).toArray⟩ : ByteArray).data.toList = digL n long := by simp
  rw [e, map_inv long hl n hn] at h
  exact h
end Go.Proofs.YtoipgliokelcfaaGreatDoor
/- Package pattern's Complemented. -/
namespace Go.Proofs.YtoipgliokelcfaaGreatDoor
open Go.RowKit

/-- A number's digits, and the same inverted. -/
def compL (n long : Nat) : List UInt8 := digL n long ++ invL n long
theorem compL_len (n long : Nat) : (compL n long).length = 2 * long := by
  unfold compL invL
  rw [List.length_append, List.length_map, digL_len]
  omega
theorem strs_append (a b : List UInt8) : (⟨a.toArray⟩ : ByteArray) ++ ⟨b.toArray⟩ = ⟨(a ++ b).toArray⟩ := by
  apply ByteArray.ext
  rw [ByteArray.data_append]
  apply Array.ext'
  simp

set_option maxRecDepth 100000 in
theorem complemented1_any (n long : Nat) (hl : long < 8) (hn : n < 128) (W : World) (pl : Nat) (hpl : W.cell? ⟨pl, 0, none⟩ = some (.int .i64 (long : Int))) (hU : U8T W) :
    Calls Tryz.prog 43 #[.int .i64 (n : Int), .pointer (some ⟨pl, 0, none⟩)] W fun e w' => e = .returned (strV (compL n long)) ∧ Below W.heap.size W w' := by
  have hd : Calls Tryz.prog 44 #[.int .i64 (n : Int), .int .i64 (long : Int)] W fun e w' => e = .returned (strV (digL n long)) ∧ _ := digits_any n long (by omega) (by omega) W
  have hm := fun W2 (hU2 : U8T W2) => pmap_any n long hl hn W2 hU2
  obtain ⟨l1, l2⟩ := hU.lt
  have hres : (⟨(digL n long).toArray⟩ : ByteArray) ++ ⟨(invL n long).toArray⟩ = ⟨(compL n long).toArray⟩ := strs_append _ _
  have hz1 : (⟨(digL n long).toArray⟩ : ByteArray).size = long := by
    show (digL n long).toArray.size = long
    rw [List.size_toArray, digL_len]
  have hz2 : (⟨(invL n long).toArray⟩ : ByteArray).size = long := by
    show (invL n long).toArray.size = long
    unfold invL
    rw [List.size_toArray, List.length_map, digL_len]
  obtain ⟨s1, hs1⟩ : ∃ s1, s1 = (⟨(digL n long).toArray⟩ : ByteArray) := ⟨_, rfl⟩
  obtain ⟨s2, hs2⟩ : ∃ s2, s2 = (⟨(invL n long).toArray⟩ : ByteArray) := ⟨_, rfl⟩
  obtain ⟨s3, hs3⟩ : ∃ s3, s3 = (⟨(compL n long).toArray⟩ : ByteArray) := ⟨_, rfl⟩
  show Calls _ _ _ _ fun e w' => e = .returned (.string ⟨(compL n long).toArray⟩) ∧ _
  change Calls _ _ _ _ fun e w' => e = .returned (.string ⟨(digL n long).toArray⟩) ∧ Below W.heap.size W w' at hd
  change ∀ W2, U8T W2 → Calls _ _ _ _ fun e w' => e = .returned (.string ⟨(invL n long).toArray⟩) ∧ Below W2.heap.size W2 w' at hm
  rw [← hs1, ← hs2, ← hs3] at hres
  rw [← hs1] at hd hm hz1
  rw [← hs2] at hm hz2
  rw [← hs3]
  have hcat : ¬ 9223372036854775807 < s1.size + s2.size := by omega
  have HR := Lib.hid hres
  have HU := Lib.hid hU
  have HM := Lib.hid hm
  clear hs1 hs2 hs3 hres hz1 hz2 hU hm
  go_enter Tryz.func43, Tryz.ntmps43
  go_wp2_with fail
  refine hd.mono ?_
  rintro e w2 ⟨rfl, hB⟩
  have hm2 := HM.out w2 (HU.out.below hB l1 l2)
  have HB := Lib.hid hB
  clear hd hB
  go_wp2_with fail
  refine hm2.mono ?_
  rintro e w3 ⟨rfl, hB3⟩
  have HB3 := Lib.hid (HB.out.trans (hB3.mono HB.out.size))
  clear hm2 hB3
  go_wp2_with fail
  go_ret
  rw [← HR.out]
  exact ⟨rfl, HB3.out⟩

/-- How many digits the numbers below so many nets have, at least one. -/
def cLen (nets : Nat) : Nat := max (Lib.bitLen (nets - 1)) 1
theorem cLen_le : ∀ nets, nets < 101 → 1 ≤ cLen nets ∧ cLen nets < 8 := by decide +kernel
/-- The sequences. -/
def compS (nets : Nat) : List (List UInt8) := (List.range nets).map fun n => compL n (cLen nets)

set_option maxRecDepth 100000 in
theorem complemented_bad (nets : Int) (h : netsErr nets ≠ 0) (w : World) : Calls Tryz.prog 16 #[.int .i64 nets] w fun e w' => e = .returned (.tuple #[.slice none 0 0, .int .i64 1]) ∧ w = w' := by
  have hc := checkNets_any nets w
  have e1 : netsErr nets = 1 := by
    unfold netsErr at h ⊢
    split
    · rename_i h2; rw [if_pos h2] at h; exact absurd rfl h
    · rfl
  rw [e1] at hc
  clear e1 h
  go_enter Tryz.func16, Tryz.ntmps16
  go_wp2_with fail
  refine hc.mono ?_
  rintro e w' ⟨rfl, rfl⟩
  go_wp2_with fail
  go_ret2
  exact ⟨rfl, rfl⟩

set_option maxHeartbeats 2000000 in
set_option maxRecDepth 100000 in
theorem complemented_ok (nets : Nat) (h1 : 1 ≤ nets) (h2 : nets ≤ 100) (w : World) (hU : U8T w) : Calls Tryz.prog 16 #[.int .i64 (nets : Int)] w fun e w' => ∃ v : Value, e = .returned (.tuple #[v, .int .i64 0]) ∧ StrsAt w.heap.size w' v (turnL (compS nets) (2 * cLen nets)) ∧ Below w.heap.size w w' := by
  have hc := checkNets_any (nets : Int) w
  have e1 : netsErr (nets : Int) = 0 := if_pos (by omega)
  rw [e1] at hc
  have hlen : Calls Tryz.prog 41 #[.int .u64 ((nets : Int) - 1)] w fun e w' => e = .returned (.int .i64 ((Lib.bitLen (nets - 1) : Nat) : Int)) ∧ w = w' := by
    refine (Tryz.bits_Len ((nets : Int) - 1) w (by omega) (by omega)).mono ?_
    rintro e w' ⟨rfl, rfl⟩
    refine ⟨?_, rfl⟩
    have : ((nets : Int) - 1).toNat = nets - 1 := by omega
    rw [this]
  obtain ⟨L, hL⟩ : ∃ L, L = Lib.bitLen (nets - 1) := ⟨_, rfl⟩
  obtain ⟨c, hc0⟩ : ∃ c, c = cLen nets := ⟨_, rfl⟩
  have hcl := cLen_le nets (by omega)
  rw [← hc0] at hcl
  have hcL : c = max L 1 := by rw [hc0, hL]; rfl
  have hcS : (List.range nets).map (fun n => compL n c) = compS nets := by unfold compS; rw [hc0]
  rw [← hL] at hlen
  rw [← hc0, ← hcS]
  obtain ⟨l1, l2⟩ := hU.lt
  have hn1 : (0 : Int) ≤ (nets : Int) - 1 := by omega
  have hn2 : (nets : Int) - 1 ≤ 100 := by omega
  have hvec := fun (W : World) (pl : Nat) (hpl : W.cell? ⟨pl, 0, none⟩ = some (.int .i64 (c : Int))) (hplW : pl < W.heap.size) (hUW : U8T W) => vectorsOfComplemented1_any nets (2 * c) h1 (by omega) (by omega) (fun j => compL j c) (fun j _ => compL_len _ _) W pl (fun W2 j hW hj =>
    complemented1_any j c hcl.2 (by omega) W2 pl ((hW.cell (p := ⟨pl, 0, none⟩) hplW).trans hpl) (hUW.below hW hUW.lt.1 hUW.lt.2))
  have HVEC := Lib.hid hvec
  have HU := Lib.hid hU
  have hcz : (c : Int) = max (L : Int) 1 := by omega
  have hm1 : (1 : Int) ≤ max (L : Int) 1 := by omega
  have hm2 : max (L : Int) 1 ≤ 8 := by omega
  have hpl : (w.alloc (.cells #[.int .i64 (max (L : Int) 1)] 3)).cell? ⟨w.heap.size, 0, none⟩ = some (.int .i64 (c : Int)) := by
    rw [hcz]
    exact (fresh_at w _ #[.int .i64 (max (L : Int) 1)] 3 (Below.refl _ _) 0).1
  have hBa : Below w.heap.size w (w.alloc (.cells #[.int .i64 (max (L : Int) 1)] 3)) := (Below.refl _ _).alloc (Nat.le_refl _) _
  have hv := HVEC.out _ w.heap.size hpl (by simp) (HU.out.below hBa l1 l2)
  have hcast : ((2 * c : Nat) : Int) = 2 * max (L : Int) 1 := by omega
  rw [hcast] at hv
  have HB := Lib.hid hBa
  clear hvec hU e1 hL hc0 hcL hcS hcz hpl hBa hcast hcl
  go_enter Tryz.func16, Tryz.ntmps16
  go_wp2_with fail
  refine hc.mono ?_
  rintro e w' ⟨rfl, rfl⟩
  clear hc
  go_wp2_with fail
  refine hlen.mono ?_
  rintro e w' ⟨rfl, rfl⟩
  clear hlen
  go_wp2_with fail
  refine hv.mono ?_
  rintro e w4 ⟨v', rfl, hS, hB4⟩
  clear hv
  have hb0 := HB.out.size
  have HF := Lib.hid (⟨row_base hS hb0, HB.out.trans (hB4.mono hb0)⟩ : w4.ownsRow w.heap.size 9 1 v' _ _ ∧ _)
  have hS2 := hS
  clear hS hB4
  obtain ⟨-, ⟨rfl, -⟩ | ⟨g2, cap2, cur2, rfl, -⟩⟩ := hS2
  · go_wp2_with fail
    go_ret2
    exact ⟨_, rfl, HF.out⟩
  · go_wp2_with fail
    go_ret2
    exact ⟨_, rfl, HF.out⟩
end Go.Proofs.YtoipgliokelcfaaGreatDoor
