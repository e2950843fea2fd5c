/- What is wrong with rows of strings of which the first one tells a length: the reference's SequencesFault and PatternLinesFault, the program's checkLines. -/
import Derived.Test.YtoipgliokelcfaaGreatDoorPvChk
namespace Go.Proofs.YtoipgliokelcfaaGreatDoor
open Go.RowKit

def lineErr (long : Int) (l : List UInt8) : Int := if l = [] then 8 else if 100 < l.length then 2 else wordErr long l
theorem lineErr_at (long : Int) (l : List UInt8) : lineErr long l = if l = [] then 8 else if 100 < l.length then 2 else wordErr long l := rfl
theorem wordErr_at (long : Int) (l : List UInt8) (z : Int) (h : z = (l.length : Int)) : wordErr long l = if z = long then (if l.all bitB = true then 0 else 9) else 3 := by
  subst h
  rfl
theorem firstErr_one (f : List UInt8 → Int) (l : List UInt8) : firstErr f [l] = f l := by
  unfold firstErr
  split
  · rename_i h
    rw [h]
    rfl
  · rfl
def linesErr (S : List (List UInt8)) : Int := if 200 < S.length then 2 else firstErr (lineErr ((S.getD 0 []).length : Int)) S

set_option maxHeartbeats 4000000 in
set_option maxRecDepth 100000 in
theorem checkLines_any (S : List (List UInt8)) (hz : S.length ≤ 1000000) (hb : ∀ k, k < S.length → (S.getD k []).length ≤ 1000000) (B : Nat) (w : World) (v : Value) (h : StrsAt B w v S) :
    Calls Tryz.prog 58 #[v] w fun e w' => e = .returned (.int .i64 (linesErr S)) ∧ Below w.heap.size w w' := by
  obtain ⟨a, c, rfl, hop⟩ := strs_open h
  clear h
  by_cases h2 : 200 < S.length
  · have e : linesErr S = 2 := by unfold linesErr; rw [if_pos h2]
    rw [e]
    have h3 : (200 : Int) < (S.length : Int) := by omega
    clear hop e hb
    go_enter Tryz.func58, Tryz.ntmps58
    go_wp2_with fail
    go_ret
    exact ⟨rfl, Below.refl _ _⟩
  by_cases h0 : S.length = 0
  · have hS : S = [] := List.length_eq_zero_iff.1 h0
    subst hS
    have e : linesErr [] = 0 := rfl
    rw [e]
    clear hop e hb h0 h2 hz
    go_enter Tryz.func58, Tryz.ntmps58
    go_wp2_with fail
    go_loopw [11] (fun i wr => i = .int .i64 0 ∧ wr = w) (fun _ _ => 0)
    case atStart => exact ⟨rfl, rfl⟩
    case round =>
      obtain ⟨rfl, rfl⟩ := hrel
      go_wp2_with fail
      go_ret
      exact ⟨rfl, Below.refl _ _⟩
  · obtain ⟨g, rfl, hg, hcell⟩ := hop (by omega)
    obtain ⟨E, hE⟩ : ∃ E, E = firstErr (lineErr ((S.getD 0 []).length : Int)) S := ⟨_, rfl⟩
    have e : linesErr S = E := by unfold linesErr; rw [if_neg h2, hE]
    rw [e]
    obtain ⟨n, hn⟩ : ∃ n, n = S.length := ⟨_, rfl⟩
    have hc0 := hcell 0 (by omega)
    obtain ⟨s0, hs0⟩ : ∃ s : ByteArray, s = ⟨(S.getD 0 []).toArray⟩ := ⟨_, rfl⟩
    have hw0 := word_dec _ s0 hs0
    change _ = some (Value.string ⟨(S.getD 0 []).toArray⟩) at hc0
    rw [← hs0] at hc0
    rw [← hw0.1] at hE
    have H0 := Lib.hid hc0
    have HH := Lib.hid (⟨hcell, hb, hn, hE⟩ : _ ∧ _ ∧ _ ∧ _)
    rw [← hn] at hz h2
    rw [← hn]
    have h3 : (n : Int) ≤ 200 := by omega
    have hst : firstErr (lineErr (s0.size : Int)) (S.drop 0) = E := by rw [hE]; rfl
    have HS0 := Lib.hid hst
    clear hop hb hn hE hst h0 e h2 hcell hc0 hs0 hw0
    go_enter Tryz.func58, Tryz.ntmps58
    go_wp2_with fail
    go_loopw [11] (fun i wr => ∃ k : Nat, k ≤ n ∧ i = .int .i64 (k : Int) ∧ firstErr (lineErr (s0.size : Int)) (S.drop k) = E ∧ Below w.heap.size w wr) (fun i _ => n - (intOf i).toNat)
    case atStart => exact ⟨0, by omega, rfl, HS0.out, Below.refl _ _⟩
    case round =>
        clear HS0
        obtain ⟨k, hk, rfl, hE, hB⟩ := hrel
        by_cases hlt : k < n
        · have hkS : k < S.length := by rw [← HH.out.2.2.1]; exact hlt
          have hc := (hB.cell (p := ⟨g, k, none⟩) hg).trans (HH.out.1 k hkS)
          have hc0 := (hB.cell (p := ⟨g, 0, none⟩) hg).trans H0.out
          have hsz := HH.out.2.1 k hkS
          rw [firstErr_at _ _ _ hkS] at hE
          obtain ⟨s, hs⟩ : ∃ s : ByteArray, s = ⟨(S.getD k []).toArray⟩ := ⟨_, rfl⟩
          have hw := word_dec _ s hs
          change _ = some (Value.string ⟨(S.getD k []).toArray⟩) at hc
          rw [← hs] at hc
          have hss : s.size ≤ 1000000 := by have := hw.1; omega
          have hib := trivial
          rw [lineErr_at] at hE
          have HB := Lib.hid hB
          clear hkS hB
          have hk0 : (0 : Int) ≤ (k : Int) := by omega
          have hk1 : (k : Int) < (n : Int) := by omega
          by_cases h8 : S.getD k [] = []
          · rw [if_pos h8, if_neg (by decide)] at hE
            have hs0 : s.size = 0 := by have h := hw.1; rw [h8] at h; simpa using h
            have he : s.toList.isEmpty = true := empty_of_size hs0
            have HE := Lib.hid hE
            clear hE hib hw h8 hs0 hs hsz
            go_wp2_with fail
            go_ret
            obtain rfl := HE.out
            exact ⟨rfl, HB.out⟩
          have hs1 : 0 < s.size := by
            have h := hw.1
            have h2 : 0 < (S.getD k []).length := List.length_pos_iff.2 h8
            omega
          have he : s.toList.isEmpty = false := not_empty_of_size hs1
          rw [if_neg h8] at hE
          by_cases h9 : 100 < (S.getD k []).length
          · rw [if_pos h9, if_neg (by decide)] at hE
            have hs0 : (100 : Int) < (s.size : Int) := by have h := hw.1; omega
            have HE := Lib.hid hE
            clear hE hib hw h8 h9 hs hsz
            go_wp2_with fail
            go_ret
            obtain rfl := HE.out
            exact ⟨rfl, HB.out⟩
          rw [if_neg h9] at hE
          have hs2 : (s.size : Int) ≤ 100 := by have h := hw.1; omega
          clear h8 h9
          obtain ⟨E1, hE1⟩ : ∃ E1 : Int, E1 = wordErr (s0.size : Int) (S.getD k []) := ⟨_, rfl⟩
          rw [← hE1] at hE
          have hg2 := Nat.lt_of_lt_of_le hg HB.out.size
          have hlit : StrsAt wr.heap.size (wr.alloc (.cells #[.string s] 9)) (.slice (some ⟨wr.heap.size, 0, none⟩) 1 1) [S.getD k []] := by
            have h := World.ownsRow_lit (base := wr.heap.size) (e := 9) (size := 1) wr #[.string s] 1 (Nat.le_refl _) (by decide) rfl
            have h2 : [Value.string s] = ([S.getD k []].map strV) := by show _ = [strV (S.getD k [])]; rw [show strV (S.getD k []) = Value.string s by rw [hs]]
            unfold StrsAt
            rw [← h2]
            exact h
          have hcb := checkBits_any [S.getD k []] (s0.size : Int) (by simp) (fun j hj => by
            obtain rfl : j = 0 := by simpa using hj
            exact hsz) _ _ _ hlit
          have hf1 : firstErr (wordErr (s0.size : Int)) [S.getD k []] = E1 := (firstErr_one _ _).trans hE1.symm
          rw [hf1] at hcb
          have hBa : Below wr.heap.size wr (wr.alloc (.cells #[.string s] 9)) := (Below.refl _ _).alloc (Nat.le_refl _) _
          have HB3 := Lib.hid hBa
          clear hlit hf1 hBa hs hE1 hw hib hsz
          by_cases h10 : E1 = 0
          · rw [if_pos h10] at hE
            rw [h10] at hcb
            have HE := Lib.hid hE
            clear hE h10
            go_wp2_with fail
            refine hcb.mono ?_
            rintro e w2 ⟨rfl, hB2⟩
            clear hcb
            have HB2 := Lib.hid (HB.out.trans ((HB3.out.trans (hB2.mono HB3.out.size)).mono HB.out.size))
            clear hB2
            go_wp2_with fail
            go_roundw
            case rel => exact ⟨k + 1, by omega, by go_num, HE.out, HB2.out⟩
            case measure => simp [intOf]; omega
          · rw [if_neg h10] at hE
            have hne : (E1 != 0) = true := by simpa using h10
            have hne2 : (E1 == 0) = false := by simpa using h10
            have HE := Lib.hid hE
            clear hE h10
            go_wp2_with fail
            refine hcb.mono ?_
            rintro e w2 ⟨rfl, hB2⟩
            clear hcb
            have HB2 := Lib.hid (HB.out.trans ((HB3.out.trans (hB2.mono HB3.out.size)).mono HB.out.size))
            clear hB2
            go_wp2_with fail
            go_ret
            obtain rfl := HE.out
            exact ⟨rfl, HB2.out⟩
        · have hkn : k = S.length := by rw [← HH.out.2.2.1]; omega
          rw [hkn, firstErr_end] at hE
          have HE := Lib.hid hE
          have HB := Lib.hid hB
          clear hE hkn hB
          go_wp2_with fail
          go_ret
          obtain rfl := HE.out
          exact ⟨rfl, HB.out⟩
end Go.Proofs.YtoipgliokelcfaaGreatDoor
