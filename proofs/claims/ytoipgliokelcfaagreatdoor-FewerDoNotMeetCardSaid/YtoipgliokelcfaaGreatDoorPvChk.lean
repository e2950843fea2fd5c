/- What is wrong with rows of strings: the program's checkBits, CheckVectors; the reference's PatternsFault, SequencesFault. -/
import Derived.Test.YtoipgliokelcfaaGreatDoorPvStr
import Derived.Test.YtoipgliokelcfaaGreatDoorVgRf
namespace Go.Proofs.YtoipgliokelcfaaGreatDoor
open Go.RowKit

/-- What is wrong with a string that is to be a bit string of a length. -/
def wordErr (long : Int) (l : List UInt8) : Int := if (l.length : Int) = long then (if l.all bitB = true then 0 else 9) else 3
/-- The first error of a list. -/
def firstErr (f : List UInt8 → Int) : List (List UInt8) → Int
  | [] => 0
  | s :: S => if f s = 0 then firstErr f S else f s
theorem firstErr_at (f : List UInt8 → Int) : ∀ (S : List (List UInt8)) (k : Nat), k < S.length → firstErr f (S.drop k) = if f (S.getD k []) = 0 then firstErr f (S.drop (k + 1)) else f (S.getD k [])
  | [], k, h => absurd h (Nat.not_lt_zero _)
  | s :: S, 0, _ => rfl
  | s :: S, k + 1, h => firstErr_at f S k (by simpa using h)
theorem firstErr_end (f : List UInt8 → Int) (S : List (List UInt8)) : firstErr f (S.drop S.length) = 0 := by rw [List.drop_length]; rfl
def vecErr (n : Int) (S : List (List UInt8)) : Int := if netsErr n = 0 then (if 200 < S.length then 2 else firstErr (wordErr n) S) else 1
def seqErr (S : List (List UInt8)) : Int := if S.length = 0 then 8 else if 100 < S.length ∨ 200 < (S.getD 0 []).length then 2 else firstErr (wordErr ((S.getD 0 []).length : Int)) S

/-- What a slice of strings is. -/
theorem strs_open {B : Nat} {w : World} {v : Value} {S : List (List UInt8)} (h : StrsAt B w v S) : ∃ a c, v = .slice a S.length c ∧ (0 < S.length → ∃ g, a = some ⟨g, 0, none⟩ ∧ g < w.heap.size ∧ ∀ k, k < S.length → w.cell? ⟨g, k, none⟩ = some (strV (S.getD k []))) := by
  have hrow : w.ownsRow B 9 1 v S.length (S.map strV) := h
  obtain ⟨hlen, ⟨e, h0⟩ | ⟨g, cap, cur, e, hBg, hg, -⟩⟩ := h
  · exact ⟨none, 0, by rw [e, h0], fun h => by omega⟩
  · refine ⟨_, _, e, fun _ => ⟨g, rfl, (Array.getElem?_eq_some_iff.1 hg).1, fun k hk => ?_⟩⟩
    rw [e] at hrow
    rw [hrow.cellAt k (by omega)]
    simp [List.getD, hk]
theorem word_dec (l : List UInt8) (s : ByteArray) (hs : s = ⟨l.toArray⟩) : (s.size : Int) = (l.length : Int) ∧ s.data.toList = l := by
  subst hs
  exact ⟨by show ((l.toArray.size : Nat) : Int) = _; simp, by simp⟩

set_option maxHeartbeats 2000000 in
set_option maxRecDepth 100000 in
theorem checkBits_any (S : List (List UInt8)) (long : Int) (hz : S.length ≤ 1000000) (hb : ∀ k, k < S.length → (S.getD k []).length ≤ 1000000) (B : Nat) (w : World) (v : Value) (h : StrsAt B w v S) :
    Calls Tryz.prog 57 #[v, .int .i64 long] w fun e w' => e = .returned (.int .i64 (firstErr (wordErr long) S)) ∧ Below w.heap.size w w' := by
  obtain ⟨a, c, rfl, hop⟩ := strs_open h
  obtain ⟨n, hn⟩ : ∃ n, n = S.length := ⟨_, rfl⟩
  obtain ⟨E, hE⟩ : ∃ E, E = firstErr (wordErr long) S := ⟨_, rfl⟩
  have HH := Lib.hid (⟨hop, hb, hn, hE⟩ : _ ∧ _ ∧ _ ∧ _)
  rw [← hn] at hz
  rw [← hn, ← hE]
  have hst : firstErr (wordErr long) (S.drop 0) = E := by rw [hE]; rfl
  have HS0 := Lib.hid hst
  clear h hop hb hn hE hst
  go_enter Tryz.func57, Tryz.ntmps57
  go_wp2_with fail
  go_loopw [9] (fun i wr => ∃ k : Nat, k ≤ n ∧ i = .int .i64 (k : Int) ∧ firstErr (wordErr long) (S.drop k) = E ∧ Below w.heap.size w wr) (fun i _ => n - (intOf i).toNat)
  case atStart => exact ⟨0, by omega, rfl, HS0.out, Below.refl _ _⟩
  case round =>
    clear HS0
    obtain ⟨k, hk, rfl, hE, hB⟩ := hrel
    by_cases hlt : k < n
    · obtain ⟨g, rfl, hg, hcell⟩ := HH.out.1 (by rw [← HH.out.2.2.1]; omega)
      have hkS : k < S.length := by rw [← HH.out.2.2.1]; exact hlt
      have hc := (hB.cell (p := ⟨g, k, none⟩) hg).trans (hcell k hkS)
      have hsz := HH.out.2.1 k hkS
      rw [firstErr_at _ _ _ hkS] at hE
      obtain ⟨s, hs⟩ : ∃ s : ByteArray, s = ⟨(S.getD k []).toArray⟩ := ⟨_, rfl⟩
      have hw := word_dec _ s hs
      change _ = some (Value.string ⟨(S.getD k []).toArray⟩) at hc
      rw [← hs] at hc
      have hss : s.size ≤ 1000000 := by have := hw.1; omega
      have hib := isBits_any s wr (by omega)
      rw [hw.2] at hib
      unfold wordErr at hE
      rw [← hw.1] at hE
      have HB := Lib.hid hB
      clear hcell hkS hsz hs hw hB
      have hk0 : (0 : Int) ≤ (k : Int) := by omega
      have hk1 : (k : Int) < (n : Int) := by omega
      by_cases hl : (s.size : Int) = long
      · have e1 : ((s.size : Int) == long) = true := by simpa using hl
        have e2 : ((s.size : Int) != long) = false := by simpa using hl
        rw [if_pos hl] at hE
        cases hbt : (S.getD k []).all bitB with
        | true =>
          rw [hbt] at hib hE
          rw [if_pos rfl, if_pos rfl] at hE
          have HE := Lib.hid hE
          clear hE hbt hl
          go_wp2_with fail
          refine hib.mono ?_
          rintro e w2 ⟨rfl, hB2⟩
          clear hib
          have HB2 := Lib.hid (HB.out.trans (hB2.mono HB.out.size))
          clear hB2
          go_wp2_with fail
          go_roundw
          case rel => exact ⟨k + 1, by omega, by go_num, HE.out, HB2.out⟩
          case measure => simp [intOf]; omega
        | false =>
          rw [hbt] at hib hE
          rw [if_neg (by decide), if_neg (by decide)] at hE
          have HE := Lib.hid hE
          clear hE hbt hl
          go_wp2_with fail
          refine hib.mono ?_
          rintro e w2 ⟨rfl, hB2⟩
          clear hib
          have HB2 := Lib.hid (HB.out.trans (hB2.mono HB.out.size))
          clear hB2
          go_wp2_with fail
          go_ret
          obtain rfl := HE.out
          exact ⟨rfl, HB2.out⟩
      · have e1 : ((s.size : Int) == long) = false := by simpa using hl
        have e2 : ((s.size : Int) != long) = true := by simpa using hl
        rw [if_neg hl, if_neg (by decide)] at hE
        have HE := Lib.hid hE
        clear hE hl hib
        go_wp2_with fail
        go_ret
        obtain rfl := HE.out
        exact ⟨rfl, HB.out⟩
    · have hkn : k = S.length := by rw [← HH.out.2.2.1]; omega
      rw [hkn, firstErr_end] at hE
      have HE := Lib.hid hE
      have HB := Lib.hid hB
      clear hE hkn hB
      go_wp2_with fail
      go_ret
      obtain rfl := HE.out
      exact ⟨rfl, HB.out⟩

/-- CheckVectors. -/
theorem checkVectors_any (S : List (List UInt8)) (nets : Int) (hz : S.length ≤ 1000000) (hb : ∀ k, k < S.length → (S.getD k []).length ≤ 1000000) (B : Nat) (w : World) (v : Value) (h : StrsAt B w v S) :
    Calls Tryz.prog 55 #[.int .i64 nets, v] w fun e w' => e = .returned (.int .i64 (vecErr nets S)) ∧ Below w.heap.size w w' := by
  have hn := checkNets_any nets w
  have hc := checkBits_any S nets hz hb B w v h
  obtain ⟨a, c, rfl, -⟩ := strs_open h
  clear h hb
  by_cases h0 : netsErr nets = 0
  · rw [h0] at hn
    by_cases h2 : 200 < S.length
    · have e : vecErr nets S = 2 := by unfold vecErr; rw [if_pos h0, if_pos h2]
      rw [e]
      have h3 : (200 : Int) < (S.length : Int) := by omega
      clear hc h0 e
      go_enter Tryz.func55, Tryz.ntmps55
      go_wp2_with fail
      refine hn.mono ?_
      rintro e w' ⟨rfl, rfl⟩
      clear hn
      go_wp2_with fail
      go_ret
      exact ⟨rfl, Below.refl _ _⟩
    · have e : vecErr nets S = firstErr (wordErr nets) S := by unfold vecErr; rw [if_pos h0, if_neg h2]
      rw [e]
      have h3 : (S.length : Int) ≤ 200 := by omega
      generalize firstErr (wordErr nets) S = E at hc ⊢
      clear h0 e
      go_enter Tryz.func55, Tryz.ntmps55
      go_wp2_with fail
      refine hn.mono ?_
      rintro e w' ⟨rfl, rfl⟩
      clear hn
      go_wp2_with fail
      refine hc.mono ?_
      rintro e w' ⟨rfl, hB⟩
      clear hc
      go_wp2_with fail
      go_ret
      exact ⟨rfl, hB⟩
  · have e1 : netsErr nets = 1 := by
      unfold netsErr at h0 ⊢
      split
      · rw [if_pos (by assumption)] at h0; exact absurd rfl h0
      · rfl
    have e : vecErr nets S = 1 := by unfold vecErr; rw [if_neg h0]
    rw [e]
    rw [e1] at hn
    clear hc h0 e e1
    go_enter Tryz.func55, Tryz.ntmps55
    go_wp2_with fail
    refine hn.mono ?_
    rintro e w' ⟨rfl, rfl⟩
    clear hn
    go_wp2_with fail
    go_ret
    exact ⟨rfl, Below.refl _ _⟩

set_option maxHeartbeats 2000000 in
set_option maxRecDepth 100000 in
/-- The reference's PatternsFault. -/
theorem patternsFault_any (S : List (List UInt8)) (nets : Int) (hz : S.length ≤ 1000000) (hb : ∀ k, k < S.length → (S.getD k []).length ≤ 1000000) (B : Nat) (w : World) (v : Value) (h : StrsAt B w v S) :
    Calls Tryz.prog 54 #[.int .i64 nets, v] w fun e w' => e = .returned (.int .i64 (vecErr nets S)) ∧ Below w.heap.size w w' := by
  have hin := rin_any nets 1 100 w
  obtain ⟨a, c, rfl, hop⟩ := strs_open h
  by_cases h0 : netsErr nets = 0
  · have hi : inB nets 1 100 = true := by
      unfold netsErr at h0
      unfold inB
      by_cases hh : 1 ≤ nets ∧ nets ≤ 100
      · simp [hh.1, hh.2]
      · rw [if_neg hh] at h0; cases h0
    rw [hi] at hin
    by_cases h2 : 200 < S.length
    · have e : vecErr nets S = 2 := by unfold vecErr; rw [if_pos h0, if_pos h2]
      rw [e]
      have h3 : (200 : Int) < (S.length : Int) := by omega
      clear h hop h0 e hi hb
      go_enter Tryz.func54, Tryz.ntmps54
      go_wp2_with fail
      refine hin.mono ?_
      rintro e w' ⟨rfl, rfl⟩
      clear hin
      go_wp2_with fail
      go_ret
      exact ⟨rfl, Below.refl _ _⟩
    · obtain ⟨E, hE⟩ : ∃ E, E = firstErr (wordErr nets) S := ⟨_, rfl⟩
      have e : vecErr nets S = E := by unfold vecErr; rw [if_pos h0, if_neg h2, hE]
      rw [e]
      obtain ⟨n, hn⟩ : ∃ n, n = S.length := ⟨_, rfl⟩
      have HH := Lib.hid (⟨hop, hb, hn, hE⟩ : _ ∧ _ ∧ _ ∧ _)
      rw [← hn] at hz h2
      rw [← hn]
      have h3 : (n : Int) ≤ 200 := by omega
      have hst : firstErr (wordErr nets) (S.drop 0) = E := by rw [hE]; rfl
      have HS0 := Lib.hid hst
      clear h hop hb hn hE hst h0 e hi h2
      go_enter Tryz.func54, Tryz.ntmps54
      go_wp2_with fail
      refine hin.mono ?_
      rintro e w' ⟨rfl, rfl⟩
      clear hin
      go_wp2_with fail
      go_loopw [18] (fun i wr => ∃ k : Nat, k ≤ n ∧ i = .int .i64 (k : Int) ∧ firstErr (wordErr nets) (S.drop k) = E ∧ Below w.heap.size w wr) (fun i _ => n - (intOf i).toNat)
      case atStart => exact ⟨0, by omega, rfl, HS0.out, Below.refl _ _⟩
      case round =>
        clear HS0
        obtain ⟨k, hk, rfl, hE, hB⟩ := hrel
        by_cases hlt : k < n
        · obtain ⟨g, rfl, hg, hcell⟩ := HH.out.1 (by rw [← HH.out.2.2.1]; omega)
          have hkS : k < S.length := by rw [← HH.out.2.2.1]; exact hlt
          have hc := (hB.cell (p := ⟨g, k, none⟩) hg).trans (hcell k hkS)
          have hsz := HH.out.2.1 k hkS
          rw [firstErr_at _ _ _ hkS] at hE
          obtain ⟨s, hs⟩ : ∃ s : ByteArray, s = ⟨(S.getD k []).toArray⟩ := ⟨_, rfl⟩
          have hw := word_dec _ s hs
          change _ = some (Value.string ⟨(S.getD k []).toArray⟩) at hc
          rw [← hs] at hc
          have hss : s.size ≤ 1000000 := by have := hw.1; omega
          have hib := bitsFault_any s wr (by omega)
          rw [hw.2] at hib
          unfold wordErr at hE
          rw [← hw.1] at hE
          have HB := Lib.hid hB
          clear hcell hkS hsz hs hw hB
          have hk0 : (0 : Int) ≤ (k : Int) := by omega
          have hk1 : (k : Int) < (n : Int) := by omega
          by_cases hl : (s.size : Int) = nets
          · have e1 : ((s.size : Int) == nets) = true := by simpa using hl
            have e2 : ((s.size : Int) != nets) = false := by simpa using hl
            rw [if_pos hl] at hE
            cases hbt : (S.getD k []).all bitB with
            | true =>
              rw [hbt] at hib hE
              rw [if_pos rfl, if_pos rfl] at hE
              rw [if_pos rfl] at hib
              have HE := Lib.hid hE
              clear hE hbt hl
              go_wp2_with fail
              refine hib.mono ?_
              rintro e w2 ⟨rfl, hB2⟩
              clear hib
              have HB2 := Lib.hid (HB.out.trans (hB2.mono HB.out.size))
              clear hB2
              go_wp2_with fail
              go_roundw
              case rel => exact ⟨k + 1, by omega, by go_num, HE.out, HB2.out⟩
              case measure => simp [intOf]; omega
            | false =>
              rw [hbt] at hib hE
              rw [if_neg (by decide), if_neg (by decide)] at hE
              rw [if_neg (by decide)] at hib
              have HE := Lib.hid hE
              clear hE hbt hl
              go_wp2_with fail
              refine hib.mono ?_
              rintro e w2 ⟨rfl, hB2⟩
              clear hib
              have HB2 := Lib.hid (HB.out.trans (hB2.mono HB.out.size))
              clear hB2
              go_wp2_with fail
              go_ret
              obtain rfl := HE.out
              exact ⟨rfl, HB2.out⟩
          · have e1 : ((s.size : Int) == nets) = false := by simpa using hl
            have e2 : ((s.size : Int) != nets) = true := by simpa using hl
            rw [if_neg hl, if_neg (by decide)] at hE
            have HE := Lib.hid hE
            clear hE hl hib
            go_wp2_with fail
            go_ret
            obtain rfl := HE.out
            exact ⟨rfl, HB.out⟩
        · have hkn : k = S.length := by rw [← HH.out.2.2.1]; omega
          rw [hkn, firstErr_end] at hE
          have HE := Lib.hid hE
          have HB := Lib.hid hB
          clear hE hkn hB
          go_wp2_with fail
          go_ret
          obtain rfl := HE.out
          exact ⟨rfl, HB.out⟩
  · have hi : inB nets 1 100 = false := by
      unfold netsErr at h0
      unfold inB
      by_cases hh : 1 ≤ nets ∧ nets ≤ 100
      · rw [if_pos hh] at h0; exact absurd rfl h0
      · by_cases h1 : 1 ≤ nets
        · have h2 : ¬ nets ≤ 100 := fun h2 => hh ⟨h1, h2⟩
          simp [h2]
        · simp [h1]
    rw [hi] at hin
    have e : vecErr nets S = 1 := by unfold vecErr; rw [if_neg h0]
    rw [e]
    clear h hop h0 e hi hb
    go_enter Tryz.func54, Tryz.ntmps54
    go_wp2_with fail
    refine hin.mono ?_
    rintro e w' ⟨rfl, rfl⟩
    clear hin
    go_wp2_with fail
    go_ret
    exact ⟨rfl, Below.refl _ _⟩
end Go.Proofs.YtoipgliokelcfaaGreatDoor
