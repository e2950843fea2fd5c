/- The contracts of the readers of keys: the program's IsKey, the reference's Key. -/
import Derived.Test.YtkipkkaloiefpaaGreatDoorRef
import Derived.Test.YtkipkkaloiefpaaGreatDoorShelf
namespace Go.Proofs.YtkipkkaloiefpaaGreatDoor
open Go.RowKit

def smallN (n : Nat) : Bool := decide (97 ≤ (n : Int)) && decide ((n : Int) ≤ 122)
def digitN (n : Nat) : Bool := decide (48 ≤ (n : Int)) && decide ((n : Int) ≤ 57)
def keyN (n : Nat) : Bool := smallN n || digitN n || ((n : Int) == 45) || ((n : Int) == 95)
def keyB (c : UInt8) : Bool := keyN c.toNat
/-- Whether a string is a key. -/
def keyS (s : ByteArray) : Bool := inB s.size 1 40 && s.data.toList.all keyB && smallN (s.data.toList.headD 0).toNat

theorem isSmall_any (n : Nat) (w : World) : Calls Tryz.prog 130 #[.int .u8 (n : Int)] w fun e w' => e = .returned (.bool (smallN n)) ∧ w = w' := by
  cases h1 : decide (97 ≤ (n : Int)) with
  | false =>
    have e : smallN n = false := by simp [smallN, h1]
    rw [e]
    clear e
    go_enter Tryz.func130, Tryz.ntmps130
    go_wp2
    go_ret
    exact ⟨rfl, rfl⟩
  | true =>
    have e : smallN n = decide ((n : Int) ≤ 122) := by simp [smallN, h1]
    rw [e]
    clear e
    cases h2 : decide ((n : Int) ≤ 122) with
    | false =>
      go_enter Tryz.func130, Tryz.ntmps130
      go_wp2
      go_ret
      exact ⟨rfl, rfl⟩
    | true =>
      go_enter Tryz.func130, Tryz.ntmps130
      go_wp2
      go_ret
      exact ⟨rfl, rfl⟩

theorem isKeyByte_any (n : Nat) (w : World) : Calls Tryz.prog 131 #[.int .u8 (n : Int)] w fun e w' => e = .returned (.bool (keyN n)) ∧ w = w' := by
  have hcon := isSmall_any n
  unfold keyN digitN
  generalize smallN n = a at hcon ⊢
  generalize h1 : decide (48 ≤ (n : Int)) = b
  generalize h2 : decide ((n : Int) ≤ 57) = c
  generalize h3 : ((n : Int) == 45) = d
  generalize h4 : ((n : Int) == 95) = f
  cases a <;> cases b <;> cases c <;> cases d <;> cases f <;>
  · go_enter Tryz.func131, Tryz.ntmps131
    go_wp2_with fail
    refine (hcon _).mono ?_
    rintro e w' ⟨rfl, rfl⟩
    go_wp2
    go_ret
    exact ⟨rfl, rfl⟩

theorem key_first {s : ByteArray} (h : 0 < s.size) : s.data.toList.headD 0 = s[0] := by
  obtain ⟨⟨l⟩⟩ := s
  cases l with
  | nil => simp [ByteArray.size] at h
  | cons c l => rfl
theorem key_snoc {s : ByteArray} {k : Nat} (h : k < s.size) (ha : (s.data.toList.take k).all keyB = true) (hc : keyB s[k] = true) : (s.data.toList.take (k + 1)).all keyB = true := by
  rw [take_snoc _ _ h, List.all_append, ha]
  simp [hc]
theorem take_all (s : ByteArray) : s.data.toList.take s.size = s.data.toList := List.take_of_length_le (by simp)

theorem ne_nil_of {s : ByteArray} (h : ¬ s.size = 0) : ¬ s.toList = [] := by
  rw [ByteArray.toList_eq]
  intro e
  apply h
  have := congrArg List.length e
  simpa using this
theorem nil_of {s : ByteArray} (h : s.size = 0) : s = ⟨#[]⟩ := by
  obtain ⟨⟨l⟩⟩ := s
  cases l with
  | nil => rfl
  | cons c l => exact absurd h (by simp [ByteArray.size])

/-- IsKey. -/
theorem isKey_any (s : ByteArray) (w : World) (hs : s.size ≤ 1048576) : Calls Tryz.prog 95 #[.string s] w fun e w' => e = .returned (.bool (keyS s)) ∧ w = w' := by
  by_cases h0 : s.size = 0
  · have e : keyS s = false := by simp [keyS, inB, h0]
    obtain rfl : s = ⟨#[]⟩ := nil_of h0
    rw [e]
    clear e
    go_enter Tryz.func95, Tryz.ntmps95
    go_wp2
    go_ret
    exact ⟨rfl, rfl⟩
  · have hne : ¬ s.toList = [] := ne_nil_of h0
    have hem : s.toList.isEmpty = false := by
      cases h : s.toList with
      | nil => exact absurd h hne
      | cons => rfl
    by_cases h1 : s.size ≤ 40
    · have h40 : decide (40 < (s.size : Int)) = false := by simp; omega
      cases h2 : smallN s[0].toNat with
      | false =>
        have e : keyS s = false := by rw [keyS, key_first (show 0 < s.size by omega), h2, Bool.and_false]
        have hcon := isSmall_any s[0].toNat
        rw [h2] at hcon
        rw [e]
        clear e h2
        go_enter Tryz.func95, Tryz.ntmps95
        go_wp2_with fail
        refine (hcon _).mono ?_
        rintro e w' ⟨rfl, rfl⟩
        go_wp2
        go_ret
        exact ⟨rfl, rfl⟩
      | true =>
        have e : keyS s = s.data.toList.all keyB := by
          have a : decide ((1 : Int) ≤ (s.size : Int)) = true := by simp; omega
          have b : decide ((s.size : Int) ≤ 40) = true := by simp; omega
          simp only [keyS, inB, key_first (show 0 < s.size by omega), h2, a, b, Bool.and_true, Bool.true_and]
        have hcon := isSmall_any s[0].toNat
        rw [h2] at hcon
        rw [e]
        clear e h2
        cases h3 : s.data.toList.all keyB with
        | true =>
          have hk : ∀ k, (h : k < s.size) → keyN s[k].toNat = true := fun k h => by
            rw [List.all_eq_true] at h3
            exact h3 _ (by show s.data[k] ∈ s.data.toList; simp)
          clear h3
          go_enter Tryz.func95, Tryz.ntmps95
          go_wp2_with fail
          refine (hcon _).mono ?_
          rintro e w' ⟨rfl, rfl⟩
          clear hcon
          go_wp2_with fail
          go_loop [3, 19] (fun _ i => ∃ k : Nat, k ≤ s.size ∧ i = .int .i64 (k : Int)) (fun _ i => s.size - (intOf i).toNat)
          case atStart => exact ⟨0, Nat.zero_le _, rfl⟩
          case round =>
            obtain ⟨k, hk', rfl⟩ := hrel
            by_cases hlt : k < s.size
            · have hcon := isKeyByte_any s[k].toNat
              rw [hk k hlt] at hcon
              clear hk
              go_wp2_with fail
              refine (hcon _).mono ?_
              rintro e w' ⟨rfl, rfl⟩
              go_wp2_with fail
              go_round
              case rel => exact ⟨k + 1, by omega, by go_num⟩
              case measure => simp [intOf]; omega
            · obtain rfl : k = s.size := by omega
              clear hk
              go_wp2
              go_ret
              exact ⟨rfl, rfl⟩
        | false =>
          have hno : ¬ (s.data.toList.take s.size).all keyB = true := by rw [take_all, h3]; simp
          clear h3
          go_enter Tryz.func95, Tryz.ntmps95
          go_wp2_with fail
          refine (hcon _).mono ?_
          rintro e w' ⟨rfl, rfl⟩
          clear hcon
          go_wp2_with fail
          go_loop [3, 19] (fun _ i => ∃ k : Nat, k ≤ s.size ∧ i = .int .i64 (k : Int) ∧ (s.data.toList.take k).all keyB = true) (fun _ i => s.size - (intOf i).toNat)
          case atStart => exact ⟨0, Nat.zero_le _, rfl, rfl⟩
          case round =>
            obtain ⟨k, hk', rfl, hall⟩ := hrel
            by_cases hlt : k < s.size
            · have hcon := isKeyByte_any s[k].toNat
              cases hb : keyN s[k].toNat with
              | true =>
                have hnext := key_snoc hlt hall hb
                rw [hb] at hcon
                clear hall hno hb
                go_wp2_with fail
                refine (hcon _).mono ?_
                rintro e w' ⟨rfl, rfl⟩
                go_wp2_with fail
                go_round
                case rel => exact ⟨k + 1, by omega, by go_num, hnext⟩
                case measure => simp [intOf]; omega
              | false =>
                rw [hb] at hcon
                clear hall hno hb
                go_wp2_with fail
                refine (hcon _).mono ?_
                rintro e w' ⟨rfl, rfl⟩
                go_wp2_with fail
                go_ret
                exact ⟨rfl, rfl⟩
            · obtain rfl : k = s.size := by omega
              exact absurd hall hno
    · have e : keyS s = false := by
        have b : decide ((s.size : Int) ≤ 40) = false := by simp; omega
        simp [keyS, inB, b]
      rw [e]
      clear e
      go_enter Tryz.func95, Tryz.ntmps95
      go_wp2_with fail
      go_ret
      exact ⟨rfl, rfl⟩

/-- The reference's letters, and all signs of keys. -/
abbrev smallS : ByteArray := ⟨#[97, 98, 99, 100, 101, 102, 103, 104, 105, 106, 107, 108, 109, 110, 111, 112, 113, 114, 115, 116, 117, 118, 119, 120, 121, 122]⟩
abbrev keyL : List UInt8 := [97, 98, 99, 100, 101, 102, 103, 104, 105, 106, 107, 108, 109, 110, 111, 112, 113, 114, 115, 116, 117, 118, 119, 120, 121, 122, 48, 49, 50, 51, 52, 53, 54, 55, 56, 57, 45, 95]
theorem keyL_has : ∀ n, n < 256 → keyL.contains (UInt8.ofNat n) = keyB (UInt8.ofNat n) := by decide +kernel
theorem smallS_has : ∀ n, n < 256 → decide (0 ≤ Lib.indexByte smallS.data.toList (UInt8.ofNat n)) = smallN (UInt8.ofNat n).toNat := by decide +kernel
theorem byte_of (c : UInt8) : c = UInt8.ofNat c.toNat := by simp
theorem trim_keys (l : List UInt8) : (Lib.trimS l keyL).isEmpty = l.all keyB := by
  have e : (fun c : UInt8 => keyL.contains c) = keyB := by
    funext c
    rw [byte_of c]
    exact keyL_has _ c.toNat_lt
  unfold Lib.trimS Lib.trimLeftS Lib.trimRightS
  rw [e, dropWhile_nil, List.all_reverse, dropWhile_all, List.all_reverse]

/-- Key. -/
theorem rKey_any (s : ByteArray) (w : World) (hs : s.size ≤ 1048576) : Calls Tryz.prog 23 #[.string s] w fun e w' => e = .returned (.bool (keyS s)) ∧ Below w.heap.size w w' := by
  have hin := rin_any s.size 1 40
  cases h1 : inB s.size 1 40 with
  | false =>
    have e : keyS s = false := by simp [keyS, h1]
    rw [h1] at hin
    rw [e]
    clear e
    go_enter Tryz.func23, Tryz.ntmps23
    go_wp2_with fail
    refine (hin _).mono ?_
    rintro e w' ⟨rfl, rfl⟩
    go_wp2
    go_ret
    exact ⟨rfl, Below.refl _ _⟩
  | true =>
    have h0 : 0 < s.size := by simp [inB] at h1; omega
    have e : keyS s = (s.data.toList.all keyB && smallN s[0].toNat) := by simp only [keyS, h1, key_first h0, Bool.true_and]
    have hix := fun W => Tryz.strings_IndexByte smallS s[0].toNat W
    have hsm : decide (0 ≤ Lib.indexByte smallS.data.toList (s[0].toNat : Int).toNat.toUInt8) = smallN s[0].toNat := by
      have := smallS_has s[0].toNat s[0].toNat_lt
      rw [← byte_of] at this
      simpa using this
    have htr := fun W => Any.strings_Trim_laid Tryz.lays160 (by kernel_rfl) s ⟨keyL.toArray⟩ W (by omega) (by decide) (ascii_of_all (by decide))
    change ∀ W, Calls Tryz.prog 63 _ W (fun e w' => e = .returned (.string ⟨(Lib.trimS s.data.toList keyL).toArray⟩) ∧ Below W.heap.size W w') at htr
    have hem := trim_keys s.data.toList
    rw [h1] at hin
    rw [e]
    clear e h1
    generalize Lib.indexByte smallS.data.toList (s[0].toNat : Int).toNat.toUInt8 = ix at hix hsm
    generalize smallN s[0].toNat = sm at hsm ⊢
    generalize Lib.trimS s.data.toList keyL = tr at htr hem
    cases ha : s.data.toList.all keyB with
    | false =>
      have hne : ¬ (⟨tr.toArray⟩ : ByteArray).toList = [] := by
        rw [ha] at hem
        rw [ByteArray.toList_eq]
        rintro rfl
        cases hem
      clear hem ha
      rw [Bool.false_and]
      generalize (⟨tr.toArray⟩ : ByteArray) = t at htr hne
      go_enter Tryz.func23, Tryz.ntmps23
      go_wp2_with fail
      refine (hin _).mono ?_
      rintro e w' ⟨rfl, rfl⟩
      go_wp2_with fail
      refine (htr _).mono ?_
      rintro e w' ⟨rfl, hB⟩
      go_wp2_with fail
      go_ret
      exact ⟨rfl, hB⟩
    | true =>
      have htr0 : tr = [] := by
        rw [ha] at hem
        cases tr with
        | nil => rfl
        | cons => cases hem
      subst htr0
      clear hem ha
      rw [Bool.true_and]
      cases sm with
      | true =>
        have h0 : 0 ≤ ix := by simpa using hsm
        clear hsm
        go_enter Tryz.func23, Tryz.ntmps23
        go_wp2_with fail
        refine (hin _).mono ?_
        rintro e w' ⟨rfl, rfl⟩
        go_wp2_with fail
        refine (htr _).mono ?_
        rintro e w' ⟨rfl, hB⟩
        go_wp2_with fail
        refine (hix _).mono ?_
        rintro e w2 ⟨rfl, rfl⟩
        go_wp2_with fail
        go_ret
        exact ⟨rfl, hB⟩
      | false =>
        have h0 : ix < 0 := by simpa using hsm
        have hh := Lib.hid hsm
        clear hsm
        go_enter Tryz.func23, Tryz.ntmps23
        go_wp2_with fail
        refine (hin _).mono ?_
        rintro e w' ⟨rfl, rfl⟩
        go_wp2_with fail
        refine (htr _).mono ?_
        rintro e w' ⟨rfl, hB⟩
        go_wp2_with fail
        refine (hix _).mono ?_
        rintro e w2 ⟨rfl, rfl⟩
        go_wp2_with fail
        go_ret
        exact ⟨congrArg (fun b => Ending.returned (.bool b)) hh.out, hB⟩
end Go.Proofs.YtkipkkaloiefpaaGreatDoor
