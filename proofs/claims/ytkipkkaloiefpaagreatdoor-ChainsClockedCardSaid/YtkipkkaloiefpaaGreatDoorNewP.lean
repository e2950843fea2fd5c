/- idcodeBits; a new port. -/
import Derived.Test.YtkipkkaloiefpaaGreatDoorInv
namespace Go.Proofs.YtkipkkaloiefpaaGreatDoor
open Go.RowKit Go.Maps

theorem Tryz.infoU8 : (Tryz.prog.info? 5).map (fun i => (i.zero, i.size, i.bytes)) = some (some (.int .u8 0), 1, 1) := by kernel_rfl

/-- The first k bytes of the row at block g, which has n, are those of f. -/
def BytesOf (w : World) (g n : Nat) (f : Nat → UInt8) (k : Nat) : Prop :=
  (∀ j, j < n → w.frozen? ⟨g, j, none⟩ = false ∧ ∃ v, w.cell? ⟨g, j, none⟩ = some v) ∧ ∀ j, j < k → w.cell? ⟨g, j, none⟩ = some (.int .u8 ((f j).toNat : Int))
theorem BytesOf.set {w : World} {g n k : Nat} {f : Nat → UInt8} (h : BytesOf w g n f k) (hk : k < n) {u : Int} (hu : u = ((f k).toNat : Int)) : BytesOf (w.setCell ⟨g, k, none⟩ (.int .u8 u)) g n f (k + 1) := by
  subst hu
  obtain ⟨h1, h2⟩ := h
  obtain ⟨v, hv⟩ := (h1 k hk).2
  have hs := World.cell?_setCell_same _ _ (.int .u8 ((f k).toNat : Int)) hv
  refine ⟨fun j hj => ⟨by rw [World.frozen?_setCell]; exact (h1 j hj).1, ?_⟩, fun j hj => ?_⟩
  · by_cases e : j = k
    · exact ⟨_, by rw [e]; exact hs⟩
    · obtain ⟨v', hv'⟩ := (h1 j hj).2
      exact ⟨v', by rw [World.cell?_setCell_other _ _ _ _ (by simp; try omega)]; exact hv'⟩
  · by_cases e : j = k
    · rw [e]; exact hs
    · rw [World.cell?_setCell_other _ _ _ _ (by simp; try omega)]; exact h2 j (by omega)
theorem BytesOf.of_owns {w : World} {base g n cap : Nat} {e : TypeId} {xs : List Value} (f : Nat → UInt8) (h : w.ownsRow base e 1 (.slice (some ⟨g, 0, none⟩) n cap) n xs) : BytesOf w g n f 0 := by
  obtain ⟨hl, h⟩ := h
  rcases h with ⟨h, _⟩ | ⟨g', cap', cur, hv, hg, hh, hn, hc, hcs, ht⟩
  · simp at h
  · simp at hv
    obtain ⟨rfl, rfl⟩ := hv
    refine ⟨fun j hj => ⟨by simp [World.frozen?, hh], ?_⟩, fun j hj => by omega⟩
    have : j < cur.size := by omega
    exact ⟨cur[j], by simp [World.cell?, hh, this]⟩
/-- The string of such a row. -/
theorem BytesOf.string {w : World} {g n : Nat} {f : Nat → UInt8} (h : BytesOf w g n f n) (cap : Nat) : (convert 95 9 (.slice (some ⟨g, 0, none⟩) n cap)).run Tryz.prog w = .ok (.string ⟨((List.range n).map f).toArray⟩) w := by
  have := run_convert_bytes_back (P := Tryz.prog) w 95 9 5 ⟨g, 0, none⟩ cap ((List.range n).map f) Tryz.underlying95 Tryz.underlying5 Tryz.underlying9 (fun j hj => by
    have hj2 : j < n := by simpa using hj
    rw [add_cell, Nat.zero_add, h.2 j hj2]
    simp)
  simpa using this

def bitAt (id k : Nat) : UInt8 := if id.testBit k = true then 49 else 48

theorem bits_and_nat (a b : Nat) (ha : a < 4294967296) (hb : b < 4294967296) : bits .and .i64 (a : Int) (b : Int) = ((a &&& b : Nat) : Int) := by
  have hab : a &&& b < 2 ^ 32 := Nat.and_lt_two_pow _ (by omega)
  have h1 : (BitVec.ofInt 64 (a : Int)).toNat = a := by
    rw [BitVec.ofInt_natCast, BitVec.toNat_ofNat]; exact Nat.mod_eq_of_lt (by omega)
  have h2 : (BitVec.ofInt 64 (b : Int)).toNat = b := by
    rw [BitVec.ofInt_natCast, BitVec.toNat_ofNat]; exact Nat.mod_eq_of_lt (by omega)
  show IntKind.i64.wrap ((BitVec.ofInt 64 (a : Int) &&& BitVec.ofInt 64 (b : Int)).toNat : Int) = _
  rw [BitVec.toNat_and, h1, h2, IntKind.wrap_i64]
  generalize a &&& b = z at hab ⊢
  omega
theorem bit_byte (id k : Nat) (hid : id < 4294967296) : (48 + bits .and .i64 ((id : Int) / 2 ^ k) 1) % 256 = ((bitAt id k).toNat : Int) := by
  have e : (id : Int) / 2 ^ k = ((id / 2 ^ k : Nat) : Int) := by
    rw [Int.natCast_ediv]
    congr 1
  have h1 : id / 2 ^ k < 4294967296 := Nat.lt_of_le_of_lt (Nat.div_le_self _ _) hid
  have h2 := bits_and_nat (id / 2 ^ k) 1 h1 (by decide)
  rw [e]
  have h3 : bits .and .i64 ((id / 2 ^ k : Nat) : Int) 1 = ((id / 2 ^ k &&& 1 : Nat) : Int) := h2
  rw [h3, Nat.and_one_is_mod]
  unfold bitAt
  rw [Nat.testBit_eq_decide_div_mod_eq]
  have h4 : id / 2 ^ k % 2 = 0 ∨ id / 2 ^ k % 2 = 1 := by omega
  rcases h4 with h4 | h4
  · rw [h4]
    rfl
  · rw [h4]
    rfl

set_option maxRecDepth 100000 in
theorem idcodeBits_any (id : Nat) (w : World) (hid : id < 4294967296) :
    Calls Tryz.prog 60 #[.int .i64 (id : Int)] w fun e w' => e = .returned (.string (bs (idBits id))) ∧ Below w.heap.size w w' := by
  obtain ⟨i0, hi, hz0, hz1, hz2⟩ := info_parts Tryz.infoU8
  go_enter Tryz.func60, Tryz.ntmps60
  go_wp2_with (at_make; refine wpList_make_full _ rfl (.const (.int .i64 32)) (.const (.int .i64 32)) 95 rfl w.heap.size 5 i0 (.int .u8 0) 1 Tryz.underlying95 hi hz0 hz1 _ _ _ _ 32 rfl rfl rfl rfl ?b1 ?b2 ?b3 ?_)
  case b1 => rw [hz2]; omega
  case b2 => unfold maxLen; omega
  case b3 => exact Nat.le_refl _
  intro w2 hown hgrow
  have hB2 : Below w.heap.size w w2 := (Below.refl w.heap.size w).grown hgrow (Nat.le_refl _) (fun k hk => by cases hk)
  have hrow := BytesOf.of_owns (bitAt id) hown
  obtain ⟨g, hg⟩ : ∃ g, g = w.heap.size := ⟨_, rfl⟩
  rw [← hg] at hrow ⊢
  have HG := Lib.hid hg
  clear hown hgrow hg
  go_wp2_with fail
  go_loopw [8] (fun i wr => ∃ k : Nat, k ≤ 32 ∧ i = .int .i64 (k : Int) ∧ BytesOf wr g 32 (bitAt id) k ∧ Below g w wr) (fun i _ => 32 - (intOf i).toNat)
  case atStart => exact ⟨0, Nat.zero_le _, rfl, hrow, by rw [HG.out]; exact hB2⟩
  case round =>
    clear hrow hB2
    obtain ⟨k, hk, rfl, hr, hB⟩ := hrel
    by_cases hlt : k < 32
    · have hfz := (hr.1 k hlt).1
      obtain ⟨v, hv⟩ := (hr.1 k hlt).2
      have hk0 : (0 : Int) ≤ (k : Int) := by omega
      have hk1 : (k : Int) ≤ 64 := by omega
      have hby := Lib.hid (bit_byte id k hid)
      go_wp2_with fail
      go_roundw
      case rel => exact ⟨k + 1, by omega, by go_num, hr.set hlt hby.out, hB.setCell (by simp) _⟩
      case measure => simp [intOf]; omega
    · obtain rfl : k = 32 := by omega
      have hconv := hr.string 32
      have HR := Lib.hid hr
      clear hr
      go_wp2_with fail
      go_ret
      exact ⟨rfl, by rw [← HG.out]; exact hB⟩
end Go.Proofs.YtkipkkaloiefpaaGreatDoor
