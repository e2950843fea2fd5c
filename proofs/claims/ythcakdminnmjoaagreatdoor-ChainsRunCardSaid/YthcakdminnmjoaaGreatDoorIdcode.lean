/- The program's idcodeOf. -/
import Derived.Test.YthcakdminnmjoaaGreatDoorMakers
namespace Go.Proofs.YthcakdminnmjoaaGreatDoor
open Go.RowKit

def bitN (c : UInt8) : Nat := if c = 49 then 1 else 0
/-- The number with these bits, the one of value 1 first. -/
def codeN : List UInt8 → Nat
  | [] => 0
  | c :: l => bitN c + 2 * codeN l
theorem codeN_snoc (l : List UInt8) (c : UInt8) : codeN (l ++ [c]) = codeN l + bitN c * 2 ^ l.length := by
  induction l with
  | nil => simp [codeN]
  | cons d l ih =>
    show bitN d + 2 * codeN (l ++ [c]) = bitN d + 2 * codeN l + bitN c * 2 ^ (l.length + 1)
    rw [ih, Nat.pow_succ]
    have : bitN c * (2 ^ l.length * 2) = 2 * (bitN c * 2 ^ l.length) := by rw [← Nat.mul_assoc, Nat.mul_comm]
    omega
theorem codeN_lt (l : List UInt8) : codeN l < 2 ^ l.length := by
  induction l with
  | nil => decide
  | cons d l ih =>
    show bitN d + 2 * codeN l < 2 ^ (l.length + 1)
    rw [Nat.pow_succ]
    have : bitN d ≤ 1 := by unfold bitN; split <;> omega
    omega

theorem bits_or_nat (a b : Nat) (ha : a < 4294967296) (hb : b < 4294967296) : bits .or .i64 (a : Int) (b : Int) = ((a ||| b : Nat) : Int) := by
  have hab : a ||| b < 2 ^ 32 := Nat.or_lt_two_pow (by omega) (by omega)
  have h1 : (BitVec.ofInt 64 (a : Int)).toNat = a := by
    rw [BitVec.ofInt_natCast, BitVec.toNat_ofNat]; exact Nat.mod_eq_of_lt (by omega)
  have h2 : (BitVec.ofInt 64 (b : Int)).toNat = b := by
    rw [BitVec.ofInt_natCast, BitVec.toNat_ofNat]; exact Nat.mod_eq_of_lt (by omega)
  show IntKind.i64.wrap ((BitVec.ofInt 64 (a : Int) ||| BitVec.ofInt 64 (b : Int)).toNat : Int) = _
  rw [BitVec.toNat_or, h1, h2, IntKind.wrap_i64]
  generalize a ||| b = z at hab ⊢
  omega
theorem or_add (v k b : Nat) (hv : v < 2 ^ k) (hb : b ≤ 1) : v ||| b * 2 ^ k = v + b * 2 ^ k := by
  have h : b = 0 ∨ b = 1 := by omega
  rcases h with rfl | rfl
  · simp
  · rw [Nat.one_mul, Nat.or_comm, Nat.add_comm]
    have := Nat.two_pow_add_eq_or_of_lt hv 1
    simpa using this.symm
/-- A bit more, by the program's way. -/
theorem or_step (v k : Nat) (c : UInt8) (hv : v < 2 ^ k) (hk : k < 32) (hc : c = 48 ∨ c = 49) : bits .or .i64 (v : Int) (wrap64 (((c.toNat : Int) - 48) % 256 * 2 ^ k)) = ((v + bitN c * 2 ^ k : Nat) : Int) := by
  have hp : 2 ^ k ≤ 2 ^ 31 := Nat.pow_le_pow_right (by decide) (by omega)
  have hv2 : v < 4294967296 := by omega
  have hcast : ((2 : Int) ^ k) = ((2 ^ k : Nat) : Int) := by simp
  rw [hcast]
  have hb : bitN c ≤ 1 := by unfold bitN; split <;> omega
  rw [← or_add v k (bitN c) hv hb]
  generalize 2 ^ k = q at hp hv
  have he : wrap64 (((c.toNat : Int) - 48) % 256 * (q : Int)) = ((bitN c * q : Nat) : Int) := by
    rcases hc with rfl | rfl
    · show wrap64 (0 % 256 * (q : Int)) = ((0 * q : Nat) : Int)
      rw [Nat.zero_mul]
      unfold wrap64
      omega
    · show wrap64 (1 % 256 * (q : Int)) = ((1 * q : Nat) : Int)
      rw [Nat.one_mul]
      unfold wrap64
      omega
  rw [he]
  refine bits_or_nat _ _ hv2 ?_
  have : bitN c * q ≤ 1 * q := Nat.mul_le_mul_right _ hb
  omega

theorem all_of_take (s : ByteArray) : s.data.toList.take s.size = s.data.toList := List.take_of_length_le (by simp)

theorem idcodeOf_any (s : ByteArray) (w : World) (hs : s.size ≤ 32) (hb : s.data.toList.all bitB = true) :
    Calls Tryz.prog 42 #[.string s] w fun e w' => e = .returned (.int .i64 (codeN s.data.toList : Int)) ∧ w = w' := by
  go_enter Tryz.func42, Tryz.ntmps42
  go_wp2_with fail
  go_loop [3, 4, 7] (fun v _ i => ∃ k : Nat, k ≤ s.size ∧ i = .int .i64 (k : Int) ∧ v = .int .i64 (codeN (s.data.toList.take k) : Int)) (fun _ _ i => s.size - (intOf i).toNat)
  case atStart => exact ⟨0, Nat.zero_le _, rfl, rfl⟩
  case round =>
    obtain ⟨k, hk, rfl, rfl⟩ := hrel
    by_cases hlt : k < s.size
    · have hbit : s[k] = 48 ∨ s[k] = 49 := by simpa [bitB] using bit_at s k hlt hb
      have hsn : Hid (codeN (s.data.toList.take (k + 1)) = codeN (s.data.toList.take k) + bitN s[k] * 2 ^ k) := Lib.hid (by
        rw [take_snoc _ _ hlt, codeN_snoc, List.length_take]
        rw [Nat.min_eq_left (by simpa using hk)])
      have hlt2 : codeN (s.data.toList.take k) < 2 ^ k := by
        have := codeN_lt (s.data.toList.take k)
        rw [List.length_take] at this
        exact Nat.lt_of_lt_of_le this (Nat.pow_le_pow_right (by decide) (Nat.min_le_left _ _))
      have hor := Lib.hid (or_step _ k s[k] hlt2 (by omega) hbit)
      clear hbit hb
      generalize codeN (s.data.toList.take k) = v at hsn hlt2 hor
      go_wp2_with fail
      go_round
      case rel => exact ⟨k + 1, by omega, by go_num, by rw [hsn.out, hor.out]⟩
      case measure => simp [intOf]; omega
    · obtain rfl : k = s.size := by omega
      go_wp2
      go_ret
      exact ⟨ret_int (by rw [all_of_take]), rfl⟩
end Go.Proofs.YthcakdminnmjoaaGreatDoor
