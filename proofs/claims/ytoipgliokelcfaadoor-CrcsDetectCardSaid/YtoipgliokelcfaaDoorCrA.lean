/- The checksum of bytes as a function of numbers; bytes with one byte changed have another one. -/
import Derived.Laws.BitsAllLaws
namespace Go.Proofs.YtoipgliokelcfaaDoor

/-- One bit of the checksum. -/
def crcBit (s : Nat) : Nat := if 32768 ≤ s then (2 * s % 65536) ^^^ 4129 else 2 * s % 65536
def crcBits (k s : Nat) : Nat := if k = 0 then s else crcBits (k - 1) (crcBit s)
termination_by k
theorem crcBits_zero (s : Nat) : crcBits 0 s = s := by rw [crcBits, if_pos rfl]
theorem crcBits_succ (k s : Nat) : crcBits (k + 1) s = crcBits k (crcBit s) := by rw [crcBits, if_neg (by omega), Nat.add_sub_cancel]
/-- One byte of the checksum. -/
def crcByteN (n s : Nat) (b : UInt8) : Nat := crcBits n (s ^^^ (b.toNat * 256))
def crcByte (s : Nat) (b : UInt8) : Nat := crcByteN 8 s b
def crcL (s : Nat) (l : List UInt8) : Nat := l.foldl crcByte s

theorem crcBit_lt {s : Nat} (_ : s < 65536) : crcBit s < 65536 := by
  unfold crcBit
  split
  · exact Nat.xor_lt_two_pow (n := 16) (by omega) (by omega)
  · omega
theorem crcBits_lt : ∀ (k : Nat) {s : Nat}, s < 65536 → crcBits k s < 65536
  | 0, s, h => by rw [crcBits_zero]; exact h
  | k + 1, s, h => by rw [crcBits_succ]; exact crcBits_lt k (crcBit_lt h)
theorem crcBits_last : ∀ (k s : Nat), crcBits (k + 1) s = crcBit (crcBits k s)
  | 0, s => by rw [crcBits_succ, crcBits_zero, crcBits_zero]
  | k + 1, s => by rw [crcBits_succ, crcBits_last k, crcBits_succ]
theorem crcIn_lt {s : Nat} (h : s < 65536) (b : UInt8) : s ^^^ (b.toNat * 256) < 65536 := Nat.xor_lt_two_pow (n := 16) (by omega) (by have := b.toNat_lt; omega)
theorem crcByteN_lt (n : Nat) {s : Nat} (h : s < 65536) (b : UInt8) : crcByteN n s b < 65536 := crcBits_lt n (crcIn_lt h b)
theorem crcByte_lt {s : Nat} (h : s < 65536) (b : UInt8) : crcByte s b < 65536 := crcByteN_lt 8 h b
theorem crcL_lt : ∀ (l : List UInt8) {s : Nat}, s < 65536 → crcL s l < 65536
  | [], _, h => h
  | b :: l, _, h => crcL_lt l (crcByte_lt h b)
theorem crcL_append (s : Nat) (l m : List UInt8) : crcL s (l ++ m) = crcL (crcL s l) m := by simp [crcL]

/-- What a bit of the checksum came from. -/
def crcBack (r : Nat) : Nat := if r % 2 = 1 then (r ^^^ 4129) / 2 + 32768 else r / 2
theorem crcBack_bit {s : Nat} (h : s < 65536) : crcBack (crcBit s) = s := by
  unfold crcBit crcBack
  split
  · have e : (2 * s % 65536 ^^^ 4129) % 2 = 1 := by
      rw [show (2 * s % 65536 ^^^ 4129) % 2 = (2 * s % 65536 ^^^ 4129) % 2 ^ 1 from rfl, Nat.xor_mod_two_pow, show 2 * s % 65536 % 2 ^ 1 = 0 by omega]; rfl
    rw [if_pos e, Nat.xor_assoc, Nat.xor_self, Nat.xor_zero]
    omega
  · rw [if_neg (by omega)]
    omega
theorem crcBit_inj {s t : Nat} (h : s < 65536) (k : t < 65536) (e : crcBit s = crcBit t) : s = t := by
  rw [← crcBack_bit h, ← crcBack_bit k, e]
theorem crcBits_inj : ∀ (n : Nat) {s t : Nat}, s < 65536 → t < 65536 → crcBits n s = crcBits n t → s = t
  | 0, s, t, _, _, e => by rwa [crcBits_zero, crcBits_zero] at e
  | n + 1, s, t, h, k, e => by
    rw [crcBits_succ, crcBits_succ] at e
    exact crcBit_inj h k (crcBits_inj n (crcBit_lt h) (crcBit_lt k) e)
theorem xor_right {a b c : Nat} (h : a ^^^ c = b ^^^ c) : a = b := by
  have := congrArg (· ^^^ c) h
  simpa [Nat.xor_assoc] using this
theorem xor_left {a b c : Nat} (h : c ^^^ a = c ^^^ b) : a = b := by
  rw [Nat.xor_comm c a, Nat.xor_comm c b] at h
  exact xor_right h
theorem crcByteN_inj (n : Nat) {s t : Nat} (h : s < 65536) (k : t < 65536) (b : UInt8) (e : crcByteN n s b = crcByteN n t b) : s = t :=
  xor_right (crcBits_inj n (crcIn_lt h b) (crcIn_lt k b) e)
theorem crcByteN_inj2 (n : Nat) {s : Nat} (h : s < 65536) (b c : UInt8) (e : crcByteN n s b = crcByteN n s c) : b = c := by
  have h2 := xor_left (crcBits_inj n (crcIn_lt h b) (crcIn_lt h c) e)
  exact UInt8.toNat_inj.mp (by omega)
theorem crcByte_inj {s t : Nat} (h : s < 65536) (k : t < 65536) (b : UInt8) (e : crcByte s b = crcByte t b) : s = t := crcByteN_inj 8 h k b e
theorem crcByte_inj2 {s : Nat} (h : s < 65536) (b c : UInt8) (e : crcByte s b = crcByte s c) : b = c := crcByteN_inj2 8 h b c e
theorem crcL_inj : ∀ (l : List UInt8) {s t : Nat}, s < 65536 → t < 65536 → crcL s l = crcL t l → s = t
  | [], _, _, _, _, e => e
  | b :: l, _, _, h, k, e => crcByte_inj h k b (crcL_inj l (crcByte_lt h b) (crcByte_lt k b) e)
/-- One byte changed: another checksum. -/
theorem crcL_set (l : List UInt8) (i : Nat) (c : UInt8) (hi : i < l.length) (hc : l[i] ≠ c) : crcL 65535 l ≠ crcL 65535 (l.set i c) := by
  intro e
  have h1 : l = l.take i ++ (l[i] :: l.drop (i + 1)) := by simp
  have h2 : l.set i c = l.take i ++ (c :: l.drop (i + 1)) := by rw [List.set_eq_take_append_cons_drop, if_pos hi]
  rw [h2] at e
  rw [show crcL 65535 l = crcL 65535 (l.take i ++ (l[i] :: l.drop (i + 1))) from congrArg _ h1, crcL_append, crcL_append] at e
  have hs : crcL 65535 (l.take i) < 65536 := crcL_lt _ (by decide)
  exact hc (crcByte_inj2 hs _ _ (crcL_inj _ (crcByte_lt hs _) (crcByte_lt hs _) e))
/-- A byte with one bit changed is another byte. -/
theorem flip_ne (b : UInt8) (k : Nat) (hk : k < 8) : ∀ x : Nat, x = b.toNat ^^^ 2 ^ k → x ≠ b.toNat ∧ x < 256 := by
  rintro x rfl
  have h2 : 2 ^ k < 2 ^ 8 := Nat.pow_lt_pow_right (by decide) hk
  refine ⟨fun e => ?_, Nat.xor_lt_two_pow (n := 8) (by have := b.toNat_lt; omega) h2⟩
  have h3 : 0 ^^^ b.toNat = 2 ^ k ^^^ b.toNat := by rw [Nat.zero_xor, Nat.xor_comm (2 ^ k), e]
  have := xor_right h3
  have := Nat.two_pow_pos k
  omega
end Go.Proofs.YtoipgliokelcfaaDoor
