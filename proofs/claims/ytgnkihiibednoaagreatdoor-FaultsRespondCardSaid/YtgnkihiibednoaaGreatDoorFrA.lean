/- The small tests of the reference of package fault, and what is wrong with a test: both sides. -/
import Derived.Test.YtgnkihiibednoaaGreatDoorFtB
import Derived.Test.YtgnkihiibednoaaGreatDoorPvChk
import Derived.Test.YtgnkihiibednoaaGreatDoorVgRf
namespace Go.Proofs.YtgnkihiibednoaaGreatDoor
open Go.RowKit

theorem rin2_any (n low high : Int) (w : World) : Calls Tryz.prog 39 #[.int .i64 n, .int .i64 low, .int .i64 high] w fun e w' => e = .returned (.bool (inB n low high)) ∧ w = w' := by
  cases h1 : decide (low ≤ n) with
  | false =>
    have e : inB n low high = false := by simp [inB, h1]
    rw [e]
    go_enter Tryz.func39, Tryz.ntmps39
    go_wp2
    go_ret
    exact ⟨rfl, rfl⟩
  | true =>
    cases h2 : decide (n ≤ high) with
    | false =>
      have e : inB n low high = false := by simp [inB, h2]
      rw [e]
      go_enter Tryz.func39, Tryz.ntmps39
      go_wp2
      go_ret
      exact ⟨rfl, rfl⟩
    | true =>
      have e : inB n low high = true := by simp [inB, h1, h2]
      rw [e]
      go_enter Tryz.func39, Tryz.ntmps39
      go_wp2
      go_ret
      exact ⟨rfl, rfl⟩
theorem inB_short (k : Int) : inB k 3 5 = shortK k := by
  rw [Bool.eq_iff_iff]
  simp [inB, shortK]
  omega
theorem rshort2_any (k : Int) (w : World) : Calls Tryz.prog 42 #[.int .i64 k] w fun e w' => e = .returned (.bool (shortK k)) ∧ w = w' := by
  have h := rin2_any k 3 5 w
  rw [inB_short] at h
  go_enter Tryz.func42, Tryz.ntmps42
  go_wp2_with fail
  refine h.mono ?_
  rintro e w' ⟨rfl, rfl⟩
  go_wp2_with fail
  go_ret
  exact ⟨rfl, rfl⟩
theorem faultFault1_any (x n : Int) (hn0 : 0 ≤ n) (hn : n ≤ 1000000) (b : Nat) (w : World) (hb : w.cell? ⟨b, 0, none⟩ = some (.int .i64 n)) :
    Calls Tryz.prog 41 #[.int .i64 x, .pointer (some ⟨b, 0, none⟩)] w fun e w' => e = .returned (.bool (decide (x < 0) || decide (n ≤ x))) ∧ w = w' := by
  have h := rin2_any x 0 (n - 1) w
  have e : (decide (x < 0) || decide (n ≤ x)) = !inB x 0 (n - 1) := by
    rw [Bool.eq_iff_iff]
    simp [inB]
    omega
  have hw : IntKind.i64.wrap (n - 1) = n - 1 := IntWalk.i64_in _ (by omega)
  rw [e]
  generalize inB x 0 (n - 1) = r at h ⊢
  clear e
  go_enter Tryz.func41, Tryz.ntmps41
  go_wp2_with fail
  refine h.mono ?_
  rintro e w' ⟨rfl, rfl⟩
  go_wp2_with fail
  go_ret
  exact ⟨rfl, rfl⟩
theorem checkFault1_any (x n : Int) (b : Nat) (w : World) (hb : w.cell? ⟨b, 0, none⟩ = some (.int .i64 n)) :
    Calls Tryz.prog 50 #[.int .i64 x, .pointer (some ⟨b, 0, none⟩)] w fun e w' => e = .returned (.bool (decide (x < 0) || decide (n ≤ x))) ∧ w = w' := by
  by_cases h0 : x < 0
  · have d1 : decide (x < 0) = true := decide_eq_true h0
    rw [d1, Bool.true_or]
    go_enter Tryz.func50, Tryz.ntmps50
    go_wp2_with fail
    go_ret
    exact ⟨rfl, rfl⟩
  · have d1 : decide (x < 0) = false := decide_eq_false h0
    rw [d1, Bool.false_or]
    generalize hd2 : decide (n ≤ x) = d2
    go_enter Tryz.func50, Tryz.ntmps50
    go_wp2_with fail
    go_ret
    exact ⟨rfl, rfl⟩

theorem index01 (c : UInt8) : Lib.indexByte [48, 49] c = if c = 48 then 0 else if c = 49 then 1 else -1 := by
  by_cases h1 : c = 48
  · subst h1; rfl
  · by_cases h2 : c = 49
    · subst h2; rfl
    · rw [if_neg h1, if_neg h2]
      have e1 : ((48 : UInt8) == c) = false := by rw [beq_eq_false_iff_ne]; exact fun h => h1 h.symm
      have e2 : ((49 : UInt8) == c) = false := by rw [beq_eq_false_iff_ne]; exact fun h => h2 h.symm
      have e3 : (c == (48 : UInt8)) = false := by rw [beq_eq_false_iff_ne]; exact h1
      have e4 : (c == (49 : UInt8)) = false := by rw [beq_eq_false_iff_ne]; exact h2
      simp [Lib.indexByte, e1, e2]
theorem all_drop (s : List UInt8) (k : Nat) (hk : k < s.length) : (s.drop k).all bitB = (bitB (s.getD k 0) && (s.drop (k + 1)).all bitB) := by
  rw [List.drop_eq_getElem_cons hk, List.all_cons]
  simp [hk]
set_option maxHeartbeats 2000000 in
theorem rbits2_any (s : ByteArray) (w : World) (hs : s.size ≤ 1000000) :
    Calls Tryz.prog 38 #[.string s] w fun e w' => e = .returned (.bool (s.data.toList.all bitB)) ∧ w = w' := by
  obtain ⟨R0, hR0⟩ : ∃ R, R = s.data.toList.all bitB := ⟨_, rfl⟩
  rw [← hR0]
  have hcon : Calls Tryz.prog 68 #[.string s, .string ⟨#[48, 49]⟩] w fun e w' => e = .returned (.bool (s.data.toList.all bitB)) ∧ w = w' := by
    have hat : ∀ k (h : k < s.size), s[k]'h = s.data.toList.getD k 0 := fun k h => by
      have h2 : k < s.data.toList.length := by simpa using h
      rw [List.getD_eq_getElem?_getD, List.getElem?_eq_getElem h2]
      simp [ByteArray.getElem_eq_getElem_data]
    have hsz : s.data.toList.length = s.size := by simp
    obtain ⟨l, hl⟩ : ∃ l, l = s.data.toList := ⟨_, rfl⟩
    rw [← hl] at hat hsz ⊢
    clear hl
    obtain ⟨R, hR⟩ : ∃ R, R = l.all bitB := ⟨_, rfl⟩
    rw [← hR]
    have hst : (l.drop 0).all bitB = R := by rw [hR]; rfl
    have HS0 := Lib.hid hst
    have HA := Lib.hid (⟨hat, hsz⟩ : _ ∧ _)
    clear hat hsz hR hst
    go_enter Tryz.func68, Tryz.ntmps68
    go_wp2_with fail
    go_loopw [8] (fun i wr => ∃ k : Nat, k ≤ s.size ∧ i = .int .i64 (k : Int) ∧ (l.drop k).all bitB = R ∧ w = wr) (fun i _ => s.size - (intOf i).toNat)
    case atStart => exact ⟨0, by omega, rfl, HS0.out, rfl⟩
    case round =>
      clear HS0
      obtain ⟨k, hk, rfl, hE, rfl⟩ := hrel
      by_cases hlt : k < s.size
      · have hlk : k < l.length := by rw [HA.out.2]; exact hlt
        rw [all_drop l k hlk] at hE
        have hix := Tryz.strings_IndexByte ⟨#[48, 49]⟩ ((s[k]'hlt).toNat : Int) w
        have e0 : (((s[k]'hlt).toNat : Int)).toNat.toUInt8 = l.getD k 0 := by
          rw [← HA.out.1 k hlt]; simp
        rw [e0] at hix
        change Calls _ _ _ _ (fun e w' => e = .returned (.int .i64 (Lib.indexByte [48, 49] (l.getD k 0))) ∧ w' = w) at hix
        rw [index01] at hix
        have hk0 : (0 : Int) ≤ (k : Int) := by omega
        have hk1 : (k : Int) < (s.size : Int) := by omega
        generalize l.getD k 0 = c at hE hix
        cases hb : bitB c with
        | true =>
          rw [hb, Bool.true_and] at hE
          obtain ⟨z, hz, hz0⟩ : ∃ z : Int, z = (if c = 48 then 0 else if c = 49 then 1 else -1) ∧ 0 ≤ z := by
            refine ⟨_, rfl, ?_⟩
            simp [bitB] at hb
            rcases hb with rfl | rfl <;> decide
          rw [← hz] at hix
          have HE := Lib.hid hE
          clear hE hz hb hlk e0
          go_wp2_with fail
          refine hix.mono ?_
          rintro e w' ⟨rfl, rfl⟩
          go_wp2_with fail
          go_roundw
          case rel => exact ⟨k + 1, by omega, by go_num, HE.out, trivial⟩
          case measure => simp [intOf]; omega
        | false =>
          rw [hb, Bool.false_and] at hE
          have hz : (if c = 48 then (0 : Int) else if c = 49 then 1 else -1) = -1 := by
            simp [bitB] at hb
            simp [hb.1, hb.2]
          rw [hz] at hix
          have HE := Lib.hid hE
          clear hE hz hb hlk e0
          go_wp2_with fail
          refine hix.mono ?_
          rintro e w' ⟨rfl, rfl⟩
          go_wp2_with fail
          go_ret
          obtain rfl := HE.out
          exact ⟨rfl, rfl⟩
      · have hke : l.drop k = [] := List.drop_eq_nil_of_le (by rw [HA.out.2]; omega)
        rw [hke] at hE
        obtain rfl : true = R := hE
        clear hke
        go_wp2_with fail
        go_ret
        exact ⟨rfl, rfl⟩
  rw [← hR0] at hcon
  clear hR0
  go_enter Tryz.func38, Tryz.ntmps38
  go_wp2_with fail
  refine hcon.mono ?_
  rintro e w' ⟨rfl, rfl⟩
  go_wp2_with fail
  go_ret
  exact ⟨rfl, rfl⟩
end Go.Proofs.YtgnkihiibednoaaGreatDoor
