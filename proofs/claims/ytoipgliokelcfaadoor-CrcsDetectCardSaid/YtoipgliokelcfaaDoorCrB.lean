/- The contract of Crc. -/
import Derived.Test.YtoipgliokelcfaaDoorCrA
import Derived.Test.YtoipgliokelcfaaDoorWfE
namespace Go.Proofs.YtoipgliokelcfaaDoor
open Go.RowKit

/-- The slice value reads as these bytes. -/
def BytsAt (w : World) (v : Value) (l : List UInt8) : Prop :=
  ∃ a c, v = .slice a l.length c ∧ l.length ≤ c ∧ (0 < l.length → ∃ g o, a = some ⟨g, o, none⟩ ∧ g < w.heap.size ∧ ∀ j, j < l.length → w.cell? ⟨g, o + j, none⟩ = some (.int .u8 ((l.getD j 0).toNat : Int)))
theorem BytsAt.later {w w' : World} {v : Value} {l : List UInt8} (h : BytsAt w v l) (hB : Below w.heap.size w w') : BytsAt w' v l := by
  obtain ⟨a, c, h1, h2, h3⟩ := h
  refine ⟨a, c, h1, h2, fun h0 => ?_⟩
  obtain ⟨g, o, h4, h5, h6⟩ := h3 h0
  exact ⟨g, o, h4, Nat.lt_of_lt_of_le h5 hB.size, fun j hj => (hB.cell (p := ⟨g, o + j, none⟩) h5).trans (h6 j hj)⟩
theorem crcL_take (s : Nat) (l : List UInt8) (k : Nat) (hk : k < l.length) : crcL s (l.take (k + 1)) = crcByte (crcL s (l.take k)) (l.getD k 0) := by
  have e : l.getD k 0 = l[k] := by simp [hk]
  rw [List.take_succ_eq_append_getElem hk, crcL_append, e]
  rfl
theorem shl8 (b : UInt8) : IntKind.u16.wrap ((b.toNat : Int) * 2 ^ 8) = ((b.toNat * 256 : Nat) : Int) := by
  rw [IntKind.wrap_u16]
  have := b.toNat_lt
  omega
set_option maxHeartbeats 800000 in
set_option maxRecDepth 100000 in
theorem crc_any (l : List UInt8) (hz : l.length ≤ 200000) (w : World) (v : Value) (h : BytsAt w v l) :
    Calls Tryd.prog 7 #[v] w fun e w' => e = .returned (.tuple #[.int .i64 (crcL 65535 l : Int), .int .i64 0]) ∧ Below w.heap.size w w' := by
  obtain ⟨a, c, rfl, -, hop⟩ := h
  obtain ⟨n, hn⟩ : ∃ n, n = l.length := ⟨_, rfl⟩
  rw [← hn] at hop hz ⊢
  have hst := fun k (hk : k < n) => crcL_take 65535 l k (by omega)
  have hlt16 := fun k => crcL_lt (l.take k) (s := 65535) (by decide)
  have hfin : crcL 65535 l = crcL 65535 (l.take n) := by rw [hn, List.take_length]
  have HH := Lib.hid (⟨hop, hst, hlt16, hfin⟩ : _ ∧ _ ∧ _ ∧ _)
  clear hop hst hlt16 hfin hn
  go_enter Tryd.func7, Tryd.ntmps7
  go_wp2_with fail
  go_loopw [4, 13] (fun s i wr => ∃ (k : Nat), k ≤ n ∧ i = .int .i64 (k : Int) ∧ s = .int .u16 (crcL 65535 (l.take k) : Int) ∧ Below w.heap.size w wr) (fun _ i _ => n - (intOf i).toNat)
  case atStart => exact ⟨0, by omega, rfl, rfl, Below.refl _ _⟩
  case round =>
    obtain ⟨k, hk, rfl, rfl, hB⟩ := hrel
    by_cases hlt : k < n
    · obtain ⟨g, o, rfl, hg, hcell⟩ := HH.out.1 (by omega)
      have hc := (hB.cell (p := ⟨g, o + k, none⟩) hg).trans (hcell k hlt)
      have hst := HH.out.2.1 k hlt
      have hs16 := HH.out.2.2.1 k
      obtain ⟨b, hb⟩ : ∃ b, b = l.getD k 0 := ⟨_, rfl⟩
      obtain ⟨s, hs⟩ : ∃ s, s = crcL 65535 (l.take k) := ⟨_, rfl⟩
      rw [← hb] at hc hst
      rw [← hs] at hst hs16 ⊢
      have k0 : (0 : Int) ≤ (k : Int) := by omega
      have k1 : (k : Int) < (n : Int) := by omega
      have b1 := b.toNat_lt
      have e2 : bits .xor .u16 (s : Int) ((b.toNat : Int) * 256) = ((s ^^^ (b.toNat * 256) : Nat) : Int) := by
        have h := u16_xor_nat s (b.toNat * 256) hs16 (by omega)
        rw [Int.natCast_mul] at h
        exact h
      have hx16 := crcIn_lt hs16 b
      obtain ⟨x, hx⟩ : ∃ x, x = s ^^^ (b.toNat * 256) := ⟨_, rfl⟩
      rw [← hx] at e2 hx16
      have hby : crcByte s b = crcBits 8 x := by rw [hx]; rfl
      rw [hby] at hst
      have HB := Lib.hid hB
      have HST := Lib.hid (⟨hst, fun j => crcBits_lt j hx16, fun j => crcBits_last j x, crcBits_zero x⟩ : _ ∧ _ ∧ _ ∧ _)
      clear hB hcell hb hs hst hx hx16 hby
      go_wp2_with fail
      clear e2
      go_loopw [4, 22] (fun s i wq => ∃ (j : Nat), j ≤ 8 ∧ i = .int .i64 (j : Int) ∧ s = .int .u16 (crcBits j x : Int) ∧ Below w.heap.size w wq) (fun _ i _ => 8 - (intOf i).toNat)
      case atStart => exact ⟨0, by omega, rfl, by rw [HST.out.2.2.2], HB.out⟩
      case round =>
        obtain ⟨j, hj, rfl, rfl, hB⟩ := hrel
        by_cases hj8 : j < 8
        · have y16 := HST.out.2.1 j
          have hla := HST.out.2.2.1 j
          obtain ⟨y, hy⟩ : ∃ y, y = crcBits j x := ⟨_, rfl⟩
          rw [← hy] at y16 hla ⊢
          unfold crcBit at hla
          have hw : IntKind.u16.wrap ((y : Int) * 2) = ((2 * y % 65536 : Nat) : Int) := by
            rw [IntKind.wrap_u16]
            omega
          have hw2 : (y : Int) * 2 % 65536 = ((2 * y % 65536 : Nat) : Int) := by omega
          have hz16 : 2 * y % 65536 < 65536 := by omega
          have j0 : (j : Int) < 8 := by omega
          have hxo := u16_xor_nat (2 * y % 65536) 4129 hz16 (by decide)
          obtain ⟨z, hz⟩ : ∃ z, z = 2 * y % 65536 := ⟨_, rfl⟩
          rw [← hz] at hw hw2 hz16 hxo hla
          have HB2 := Lib.hid hB
          clear hB hy hz
          by_cases h32 : 32768 ≤ y
          · rw [if_pos h32] at hla
            have c1 : decide ((y : Int) ≥ 32768) = true := decide_eq_true (by omega)
            have c2 : (32768 : Int) ≤ (y : Int) := by omega
            have HL := Lib.hid hla
            clear hla
            go_wp2_with fail
            go_roundw
            case rel => exact ⟨j + 1, by omega, by go_num, by rw [HL.out, ← hxo]; rfl, HB2.out⟩
            case measure => simp [intOf]; omega
          · rw [if_neg h32] at hla
            have c1 : decide ((y : Int) ≥ 32768) = false := decide_eq_false (by omega)
            have c2 : ¬ (32768 : Int) ≤ (y : Int) := by omega
            have HL := Lib.hid hla
            clear hla
            go_wp2_with fail
            go_roundw
            case rel => exact ⟨j + 1, by omega, by go_num, by rw [HL.out], HB2.out⟩
            case measure => simp [intOf]; omega
        · obtain rfl : j = 8 := by omega
          have hla := HST.out.1
          rw [← hla]
          have HB2 := Lib.hid hB
          clear hB hla
          go_wp2_with fail
          go_roundw
          case rel => exact ⟨k + 1, by omega, by go_num, rfl, HB2.out⟩
          case measure => simp [intOf]; omega
    · obtain rfl : k = n := by omega
      have HB := Lib.hid hB
      have hs16 := HH.out.2.2.1 k
      have hf := HH.out.2.2.2
      obtain ⟨s, hs⟩ : ∃ s, s = crcL 65535 (l.take k) := ⟨_, rfl⟩
      rw [← hs] at hs16 hf ⊢
      have e0 : wrap64 (s : Int) = (s : Int) := Go.IntWalk.wrap64_in (s : Int) (by omega)
      have HF := Lib.hid hf
      clear hB hs hf
      go_wp2_with fail
      go_ret2
      exact ⟨by rw [HF.out]; rfl, HB.out⟩
end Go.Proofs.YtoipgliokelcfaaDoor
