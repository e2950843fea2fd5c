/- The stream's makers: Odd, Bits, Changed, NearlyBits; the readers of bit strings on both sides. -/
import Derived.Test.YtgnkihiibednoaaGreatDoorVgCnt
import Derived.Shelf.Strings.SlTrimAscii
namespace Go.Proofs.YtgnkihiibednoaaGreatDoor
open Go.RowKit

def bitB (c : UInt8) : Bool := c == 48 || c == 49
/-- What the law asks of the slice that it is handed. -/
def RowIn (w : World) (a : Option Addr) (len : Nat) : Prop :=
  len ≤ 140737488355328 ∧ (0 < len → ∃ b off, a = some ⟨b, off, none⟩ ∧ b < w.heap.size ∧ ∀ k, k < len → ∃ z : Int, w.cell? ⟨b, off + k, none⟩ = some (.int .i64 z) ∧ -9223372036854775808 ≤ z ∧ z ≤ 9223372036854775807)
theorem cell_fresh (w : World) (cs : Array Value) (t : TypeId) {j : Nat} {v : Value} (h : cs[j]? = some v) : (w.alloc (.cells cs t)).cell? ⟨w.heap.size, j, none⟩ = some v := by
  have e : (w.alloc (.cells cs t)).heap[w.heap.size]? = some (.cells cs t) := heap_alloc_new w _
  unfold World.cell?
  simp only [e]
  simpa using h
theorem frozen_fresh (w : World) (cs : Array Value) (t : TypeId) (j : Nat) : (w.alloc (.cells cs t)).frozen? ⟨w.heap.size, j, none⟩ = false := by
  have e : (w.alloc (.cells cs t)).heap[w.heap.size]? = some (.cells cs t) := heap_alloc_new w _
  unfold World.frozen?
  simp only [e]
  simp
theorem Strm.start {w : World} {a : Option Addr} {len cap : Nat} (h : RowIn w a len) : Strm (w.alloc (.cells #[.slice a len cap, .int .i64 0] 25)) w.heap.size 0 := by
  obtain ⟨hlen, hrow⟩ := h
  refine ⟨cell_fresh _ _ _ rfl, frozen_fresh _ _ _ _, a, len, cap, cell_fresh _ _ _ rfl, hlen, fun h0 => ?_⟩
  obtain ⟨b, off, e, hb, hz⟩ := hrow h0
  refine ⟨b, off, e, hb, fun k hk => ?_⟩
  obtain ⟨z, hz1, hz2⟩ := hz k hk
  exact ⟨z, by rw [World.cell?_alloc_lt _ _ _ hb]; exact hz1, hz2⟩
theorem Ran.later {sb t K K' : Nat} {a b c : World} (h : Ran sb t K a b) (k : ∀ t', t ≤ t' → t' ≤ t + K → Strm b sb t' → Ran sb t' K' b c) : Ran sb t (K + K') a c := by
  obtain ⟨h1, t', x, y, z⟩ := h
  exact Ran.trans h1 x y (k t' x y z)
theorem Ran.then {sb t t' K K' : Nat} {a b c : World} (h : Ran sb t K a b) (ht : t ≤ t') (ht' : t' ≤ t + K) (k : Ran sb t' K' b c) : Ran sb t (K + K') a c := Ran.trans h.1 ht ht' k
/-- Numbers that lie in a new block. -/
theorem ints_fresh (w : World) (l : List Int) (ty : TypeId) : ∀ k, k < l.length → (w.alloc (.cells (l.map (Value.int .i64)).toArray ty)).cell? ⟨w.heap.size, 0 + k, none⟩ = some (.int .i64 (l.getD k 0)) := by
  intro k hk
  rw [Nat.zero_add]
  refine cell_fresh _ _ _ ?_
  simp [List.getD, hk]
theorem strs_fresh (w : World) (l : List ByteArray) (ty : TypeId) : ∀ k, k < l.length → (w.alloc (.cells (l.map Value.string).toArray ty)).cell? ⟨w.heap.size, 0 + k, none⟩ = some (.string (l.getD k ⟨#[]⟩)) := by
  intro k hk
  rw [Nat.zero_add]
  refine cell_fresh _ _ _ ?_
  simp [List.getD, hk]
theorem odd_any (sb t : Nat) (low high : Int) (w : World) (hs : Strm w sb t) (ht : t ≤ 1000000) (h0 : -1048576 ≤ low) (h1 : low ≤ high) (h2 : high ≤ 1048576) :
    Calls Tryz.prog 29 #[.pointer (some ⟨sb, 0, none⟩), .int .i64 low, .int .i64 high] w fun e w' => (∃ r : Int, -1099511627776 ≤ r ∧ r ≤ 1099511627776 ∧ e = .returned (.int .i64 r)) ∧ Ran sb t 2 w w' := by
  go_enter Tryz.func29, Tryz.ntmps29
  go_wp2_with fail
  refine (flip_any sb t _ _ hs (by omega) (by decide) (by decide)).mono ?_
  rintro e w1 ⟨⟨b, rfl⟩, hr⟩
  obtain ⟨t1, ht1, ht1', hs1⟩ := hr.strm
  have hlt := hs1.lt
  cases b with
  | true =>
    go_wp2_with fail
    refine (pick_any sb t1 w1.heap.size 0 6 6 (fun k => [low - 1, high + 1, low, high, -1099511627776, 1099511627776].getD k 0) _ (hs1.alloc _) (by omega) (by decide) (by decide) (by omega) (ints_fresh w1 [low - 1, high + 1, low, high, -1099511627776, 1099511627776] _)).mono ?_
    rintro e w2 ⟨⟨k, hk, rfl⟩, hr2⟩
    have hb : -1099511627776 ≤ [low - 1, high + 1, low, high, -1099511627776, 1099511627776].getD k 0 ∧ [low - 1, high + 1, low, high, -1099511627776, 1099511627776].getD k 0 ≤ 1099511627776 := by
      have : k = 0 ∨ k = 1 ∨ k = 2 ∨ k = 3 ∨ k = 4 ∨ k = 5 := by omega
      rcases this with rfl | rfl | rfl | rfl | rfl | rfl <;> simp <;> omega
    have hr3 := hr2.after_alloc
    generalize [low - 1, high + 1, low, high, -1099511627776, 1099511627776].getD k 0 = r at hb ⊢
    go_wp2_with fail
    go_ret
    exact ⟨⟨r, hb.1, hb.2, rfl⟩, (hr.then ht1 ht1' hr3).mono (by decide)⟩
  | false =>
    go_wp2_with fail
    refine (range_any sb t1 low high _ hs1 (by omega) h0 h1 h2).mono ?_
    rintro e w2 ⟨⟨r, h3, h4, rfl⟩, hr2⟩
    go_wp2_with fail
    go_ret
    exact ⟨⟨r, by omega, by omega, rfl⟩, (hr.then ht1 ht1' hr2).mono (by decide)⟩
theorem empty_of_size {s : ByteArray} (h : s.size = 0) : s.toList.isEmpty = true := by
  rw [ByteArray.toList_eq]
  have : s.data.toList.length = 0 := by simpa using h
  rw [List.isEmpty_iff, ← List.length_eq_zero_iff]; exact this
theorem not_empty_of_size {s : ByteArray} (h : 0 < s.size) : s.toList.isEmpty = false := by
  rw [ByteArray.toList_eq]
  have : 0 < s.data.toList.length := by simpa using h
  rw [List.isEmpty_eq_false_iff]; intro e; rw [e] at this; simp at this
theorem Ran.then_below {sb t K : Nat} {w w1 w2 : World} (h : Ran sb t K w w1) (hb : Below w1.heap.size w1 w2) : Ran sb t K w w2 := by
  obtain ⟨hg, t', a, b, hs⟩ := h
  exact ⟨hg.trans ⟨hb.os, hb.tape, hb.output, hb.size, fun k hk _ => hb.block k hk⟩, t', a, b, hs.below hb hs.lt⟩
theorem dropWhile_nil {p : UInt8 → Bool} : ∀ (l : List UInt8), (l.dropWhile p).isEmpty = l.all p
  | [] => rfl
  | x :: l => by
    by_cases h : p x = true
    · simp [List.dropWhile, h, dropWhile_nil l]
    · simp [List.dropWhile, h]
theorem dropWhile_all {p : UInt8 → Bool} : ∀ (l : List UInt8), (l.dropWhile p).all p = l.all p
  | [] => rfl
  | x :: l => by
    by_cases h : p x = true
    · simp [List.dropWhile, h, dropWhile_all l]
    · simp [List.dropWhile, h]
theorem trim_bits (l : List UInt8) : (Lib.trimS l [48, 49]).isEmpty = l.all bitB := by
  have e : (fun c : UInt8 => [48, 49].contains c) = bitB := by
    funext c
    simp [bitB, List.contains, List.elem]
    cases h1 : (c == 48) <;> cases h2 : (c == 49) <;> rfl
  unfold Lib.trimS Lib.trimLeftS Lib.trimRightS
  rw [e, dropWhile_nil, List.all_reverse, dropWhile_all, List.all_reverse]
/-- IsBits: whether all bytes are 0 or 1. -/
theorem isBits_any (s : ByteArray) (w : World) (hs : s.size ≤ 9223372036854775807) :
    Calls Tryz.prog 47 #[.string s] w fun e w' => e = .returned (.bool (s.data.toList.all bitB)) ∧ Below w.heap.size w w' := by
  have hcon := Any.strings_Trim_laid Tryz.lays160 (by kernel_rfl) s ⟨#[48, 49]⟩ w hs (by decide) (ascii_of_all (by decide))
  change Calls Tryz.prog 71 _ _ (fun e w' => e = .returned (.string ⟨(Lib.trimS s.data.toList [48, 49]).toArray⟩) ∧ Below w.heap.size w w') at hcon
  rw [← trim_bits]
  generalize Lib.trimS s.data.toList [48, 49] = l at hcon ⊢
  go_enter Tryz.func47, Tryz.ntmps47
  go_wp2_with fail
  refine hcon.mono ?_
  rintro e w' ⟨rfl, hB⟩
  go_wp2_with fail
  go_ret
  exact ⟨rfl, hB⟩
end Go.Proofs.YtgnkihiibednoaaGreatDoor
