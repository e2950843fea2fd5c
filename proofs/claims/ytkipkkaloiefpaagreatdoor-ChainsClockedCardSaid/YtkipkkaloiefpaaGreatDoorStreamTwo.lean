/- The contracts of the stream's makers: Odd, AState, Bits. -/
import Derived.Test.YtkipkkaloiefpaaGreatDoorLongWalk
namespace Go.Proofs.YtkipkkaloiefpaaGreatDoor
open Go.RowKit

theorem Ran.later {sb t K K' : Nat} {a b c : World} (h : Ran sb t K a b) (k : ∀ t', t ≤ t' → t' ≤ t + K → Strm b sb t' → Ran sb t' K' b c) : Ran sb t (K + K') a c := by
  obtain ⟨h1, t', x, y, z⟩ := h
  exact Ran.trans h1 x y (k t' x y z)
theorem Ran.then {sb t t' K K' : Nat} {a b c : World} (h : Ran sb t K a b) (ht : t ≤ t') (ht' : t' ≤ t + K) (k : Ran sb t' K' b c) : Ran sb t (K + K') a c := Ran.trans h.1 ht ht' k

/-- Numbers that lie in a new block. -/
theorem ints_fresh (w : World) (l : List Int) (ty : TypeId) : ∀ k, k < l.length → (w.alloc (.cells (l.map (Value.int .i64)).toArray ty)).cell? ⟨w.heap.size, 0 + k, none⟩ = some (.int .i64 (l.getD k 0)) := by
  intro k hk
  rw [Nat.zero_add]
  refine cell_fresh _ _ _ ?_
  simp [List.getD, hk]
theorem strs_fresh (w : World) (l : List ByteArray) (ty : TypeId) : ∀ k, k < l.length → (w.alloc (.cells (l.map Value.string).toArray ty)).cell? ⟨w.heap.size, 0 + k, none⟩ = some (.string (l.getD k ⟨#[]⟩)) := by
  intro k hk
  rw [Nat.zero_add]
  refine cell_fresh _ _ _ ?_
  simp [List.getD, hk]

theorem odd_any (sb t : Nat) (low high : Int) (w : World) (hs : Strm w sb t) (ht : t ≤ 1000000) (h0 : -1048576 ≤ low) (h1 : low ≤ high) (h2 : high ≤ 1048576) :
    Calls Tryz.prog 56 #[.pointer (some ⟨sb, 0, none⟩), .int .i64 low, .int .i64 high] w fun e w' => (∃ r : Int, -1099511627776 ≤ r ∧ r ≤ 1099511627776 ∧ e = .returned (.int .i64 r)) ∧ Ran sb t 2 w w' := by
  go_enter Tryz.func56, Tryz.ntmps56
  go_wp2_with fail
  refine (flip_any sb t _ _ hs (by omega) (by decide) (by decide)).mono ?_
  rintro e w1 ⟨⟨b, rfl⟩, hr⟩
  obtain ⟨t1, ht1, ht1', hs1⟩ := hr.strm
  have hlt := hs1.lt
  cases b with
  | true =>
    go_wp2_with fail
    refine (pick_any sb t1 w1.heap.size 0 6 6 (fun k => [low - 1, high + 1, low, high, -1099511627776, 1099511627776].getD k 0) _ (hs1.alloc _) (by omega) (by decide) (by decide) (by omega) (ints_fresh w1 [low - 1, high + 1, low, high, -1099511627776, 1099511627776] _)).mono ?_
    rintro e w2 ⟨⟨k, hk, rfl⟩, hr2⟩
    have hb : -1099511627776 ≤ [low - 1, high + 1, low, high, -1099511627776, 1099511627776].getD k 0 ∧ [low - 1, high + 1, low, high, -1099511627776, 1099511627776].getD k 0 ≤ 1099511627776 := by
      have : k = 0 ∨ k = 1 ∨ k = 2 ∨ k = 3 ∨ k = 4 ∨ k = 5 := by omega
      rcases this with rfl | rfl | rfl | rfl | rfl | rfl <;> simp <;> omega
    have hr3 := hr2.after_alloc
    generalize [low - 1, high + 1, low, high, -1099511627776, 1099511627776].getD k 0 = r at hb ⊢
    go_wp2_with fail
    go_ret
    exact ⟨⟨r, hb.1, hb.2, rfl⟩, (hr.then ht1 ht1' hr3).mono (by decide)⟩
  | false =>
    go_wp2_with fail
    refine (range_any sb t1 low high _ hs1 (by omega) h0 h1 h2).mono ?_
    rintro e w2 ⟨⟨r, h3, h4, rfl⟩, hr2⟩
    go_wp2_with fail
    go_ret
    exact ⟨⟨r, by omega, by omega, rfl⟩, (hr.then ht1 ht1' hr2).mono (by decide)⟩

theorem bits_any (sb t n : Nat) (w : World) (hs : Strm w sb t) (ht : t + n ≤ 1000000) :
    Calls Tryz.prog 77 #[.pointer (some ⟨sb, 0, none⟩), .int .i64 (n : Int)] w fun e w' => (∃ s : ByteArray, s.size = n ∧ s.data.toList.all bitB = true ∧ e = .returned (.string s)) ∧ Ran sb t n w w' := by
  go_enter Tryz.func77, Tryz.ntmps77
  go_wp2_with fail
  go_loopw [5, 7] (fun out c wr => ∃ k : Nat, k ≤ n ∧ c = .int .i64 (k : Int) ∧ (∃ s : ByteArray, s.size = k ∧ s.data.toList.all bitB = true ∧ out = .string s) ∧ Ran sb t k w wr) (fun _ c _ => n - (intOf c).toNat)
  case atStart => exact ⟨0, by omega, rfl, ⟨⟨#[]⟩, rfl, rfl, rfl⟩, Ran.refl hs⟩
  case round =>
    obtain ⟨k, hk, rfl, ⟨s, hs1, hs2, rfl⟩, hr⟩ := hrel
    obtain ⟨t1, ht1, ht1', hst⟩ := hr.strm
    have hlt := hst.lt
    by_cases hkn : k < n
    · go_wp2_with fail
      refine (some_any sb t1 wr.heap.size 0 2 2 (fun k => [⟨#[48]⟩, ⟨#[49]⟩].getD k ⟨#[]⟩) _ (hst.alloc _) (by omega) (by decide) (by decide) (by omega) (strs_fresh wr [⟨#[48]⟩, ⟨#[49]⟩] _)).mono ?_
      rintro e w2 ⟨⟨j, hj, rfl⟩, hr2⟩
      have hx : ([⟨#[48]⟩, ⟨#[49]⟩].getD j ⟨#[]⟩ : ByteArray).size = 1 ∧ ([⟨#[48]⟩, ⟨#[49]⟩].getD j ⟨#[]⟩ : ByteArray).data.toList.all bitB = true := by
        have : j = 0 ∨ j = 1 := by omega
        rcases this with rfl | rfl <;> decide
      have hr3 := hr.then ht1 ht1' hr2.after_alloc
      generalize ([⟨#[48]⟩, ⟨#[49]⟩].getD j ⟨#[]⟩ : ByteArray) = x at hx ⊢
      have hsz : (s ++ x).size = k + 1 := by rw [ByteArray.size_append]; omega
      have hall : (s ++ x).data.toList.all bitB = true := by rw [ByteArray.data_append]; simp; exact ⟨by simpa using hs2, by simpa using hx.2⟩
      have hcat : ¬ 9223372036854775807 < s.size + x.size := by omega
      clear hs2 hs1
      have HX := Lib.hid hx
      clear hx
      go_wp2_with fail
      go_roundw
      case rel => exact ⟨k + 1, by omega, by go_num, ⟨_, hsz, hall, rfl⟩, hr3⟩
      case measure => simp [intOf]; omega
    · obtain rfl : k = n := by omega
      go_wp2
      go_ret
      exact ⟨⟨s, hs1, hs2, rfl⟩, hr⟩
end Go.Proofs.YtkipkkaloiefpaaGreatDoor
