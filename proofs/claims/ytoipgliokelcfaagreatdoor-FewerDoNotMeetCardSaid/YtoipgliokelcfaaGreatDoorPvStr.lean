/- The stream's makers: Odd, Bits, Changed, NearlyBits; the readers of bit strings on both sides. -/
import Derived.Test.YtoipgliokelcfaaGreatDoorTapped
import Derived.Test.YtoipgliokelcfaaGreatDoorVgCnt
import Derived.Shelf.Strings.SlTrimAscii
namespace Go.Proofs.YtoipgliokelcfaaGreatDoor
open Go.RowKit

/-- What the law asks of the slice that it is handed. -/
def RowIn (w : World) (a : Option Addr) (len : Nat) : Prop :=
  len ≤ 140737488355328 ∧ (0 < len → ∃ b off, a = some ⟨b, off, none⟩ ∧ b < w.heap.size ∧ ∀ k, k < len → ∃ z : Int, w.cell? ⟨b, off + k, none⟩ = some (.int .i64 z) ∧ -9223372036854775808 ≤ z ∧ z ≤ 9223372036854775807)
theorem cell_fresh (w : World) (cs : Array Value) (t : TypeId) {j : Nat} {v : Value} (h : cs[j]? = some v) : (w.alloc (.cells cs t)).cell? ⟨w.heap.size, j, none⟩ = some v := by
  have e : (w.alloc (.cells cs t)).heap[w.heap.size]? = some (.cells cs t) := heap_alloc_new w _
  unfold World.cell?
  simp only [e]
  simpa using h
theorem frozen_fresh (w : World) (cs : Array Value) (t : TypeId) (j : Nat) : (w.alloc (.cells cs t)).frozen? ⟨w.heap.size, j, none⟩ = false := by
  have e : (w.alloc (.cells cs t)).heap[w.heap.size]? = some (.cells cs t) := heap_alloc_new w _
  unfold World.frozen?
  simp only [e]
  simp
theorem Strm.start {w : World} {a : Option Addr} {len cap : Nat} (h : RowIn w a len) : Strm (w.alloc (.cells #[.slice a len cap, .int .i64 0] 25)) w.heap.size 0 := by
  obtain ⟨hlen, hrow⟩ := h
  refine ⟨cell_fresh _ _ _ rfl, frozen_fresh _ _ _ _, a, len, cap, cell_fresh _ _ _ rfl, hlen, fun h0 => ?_⟩
  obtain ⟨b, off, e, hb, hz⟩ := hrow h0
  refine ⟨b, off, e, hb, fun k hk => ?_⟩
  obtain ⟨z, hz1, hz2⟩ := hz k hk
  exact ⟨z, by rw [World.cell?_alloc_lt _ _ _ hb]; exact hz1, hz2⟩
theorem Ran.later {sb t K K' : Nat} {a b c : World} (h : Ran sb t K a b) (k : ∀ t', t ≤ t' → t' ≤ t + K → Strm b sb t' → Ran sb t' K' b c) : Ran sb t (K + K') a c := by
  obtain ⟨h1, t', x, y, z⟩ := h
  exact Ran.trans h1 x y (k t' x y z)
theorem Ran.then {sb t t' K K' : Nat} {a b c : World} (h : Ran sb t K a b) (ht : t ≤ t') (ht' : t' ≤ t + K) (k : Ran sb t' K' b c) : Ran sb t (K + K') a c := Ran.trans h.1 ht ht' k
/-- Numbers that lie in a new block. -/
theorem ints_fresh (w : World) (l : List Int) (ty : TypeId) : ∀ k, k < l.length → (w.alloc (.cells (l.map (Value.int .i64)).toArray ty)).cell? ⟨w.heap.size, 0 + k, none⟩ = some (.int .i64 (l.getD k 0)) := by
  intro k hk
  rw [Nat.zero_add]
  refine cell_fresh _ _ _ ?_
  simp [List.getD, hk]
theorem strs_fresh (w : World) (l : List ByteArray) (ty : TypeId) : ∀ k, k < l.length → (w.alloc (.cells (l.map Value.string).toArray ty)).cell? ⟨w.heap.size, 0 + k, none⟩ = some (.string (l.getD k ⟨#[]⟩)) := by
  intro k hk
  rw [Nat.zero_add]
  refine cell_fresh _ _ _ ?_
  simp [List.getD, hk]
theorem odd_any (sb t : Nat) (low high : Int) (w : World) (hs : Strm w sb t) (ht : t ≤ 1000000) (h0 : -1048576 ≤ low) (h1 : low ≤ high) (h2 : high ≤ 1048576) :
    Calls Tryz.prog 94 #[.pointer (some ⟨sb, 0, none⟩), .int .i64 low, .int .i64 high] w fun e w' => (∃ r : Int, -1099511627776 ≤ r ∧ r ≤ 1099511627776 ∧ e = .returned (.int .i64 r)) ∧ Ran sb t 2 w w' := by
  go_enter Tryz.func94, Tryz.ntmps94
  go_wp2_with fail
  refine (flip_any sb t _ _ hs (by omega) (by decide) (by decide)).mono ?_
  rintro e w1 ⟨⟨b, rfl⟩, hr⟩
  obtain ⟨t1, ht1, ht1', hs1⟩ := hr.strm
  have hlt := hs1.lt
  cases b with
  | true =>
    go_wp2_with fail
    refine (pick_any sb t1 w1.heap.size 0 6 6 (fun k => [low - 1, high + 1, low, high, -1099511627776, 1099511627776].getD k 0) _ (hs1.alloc _) (by omega) (by decide) (by decide) (by omega) (ints_fresh w1 [low - 1, high + 1, low, high, -1099511627776, 1099511627776] _)).mono ?_
    rintro e w2 ⟨⟨k, hk, rfl⟩, hr2⟩
    have hb : -1099511627776 ≤ [low - 1, high + 1, low, high, -1099511627776, 1099511627776].getD k 0 ∧ [low - 1, high + 1, low, high, -1099511627776, 1099511627776].getD k 0 ≤ 1099511627776 := by
      have : k = 0 ∨ k = 1 ∨ k = 2 ∨ k = 3 ∨ k = 4 ∨ k = 5 := by omega
      rcases this with rfl | rfl | rfl | rfl | rfl | rfl <;> simp <;> omega
    have hr3 := hr2.after_alloc
    generalize [low - 1, high + 1, low, high, -1099511627776, 1099511627776].getD k 0 = r at hb ⊢
    go_wp2_with fail
    go_ret
    exact ⟨⟨r, hb.1, hb.2, rfl⟩, (hr.then ht1 ht1' hr3).mono (by decide)⟩
  | false =>
    go_wp2_with fail
    refine (range_any sb t1 low high _ hs1 (by omega) h0 h1 h2).mono ?_
    rintro e w2 ⟨⟨r, h3, h4, rfl⟩, hr2⟩
    go_wp2_with fail
    go_ret
    exact ⟨⟨r, by omega, by omega, rfl⟩, (hr.then ht1 ht1' hr2).mono (by decide)⟩
theorem bits_any (sb t n : Nat) (w : World) (hs : Strm w sb t) (ht : t + n ≤ 1000000) :
    Calls Tryz.prog 90 #[.pointer (some ⟨sb, 0, none⟩), .int .i64 (n : Int)] w fun e w' => (∃ s : ByteArray, s.size = n ∧ s.data.toList.all bitB = true ∧ e = .returned (.string s)) ∧ Ran sb t n w w' := by
  go_enter Tryz.func90, Tryz.ntmps90
  go_wp2_with fail
  go_loopw [5, 7] (fun out c wr => ∃ k : Nat, k ≤ n ∧ c = .int .i64 (k : Int) ∧ (∃ s : ByteArray, s.size = k ∧ s.data.toList.all bitB = true ∧ out = .string s) ∧ Ran sb t k w wr) (fun _ c _ => n - (intOf c).toNat)
  case atStart => exact ⟨0, by omega, rfl, ⟨⟨#[]⟩, rfl, rfl, rfl⟩, Ran.refl hs⟩
  case round =>
    obtain ⟨k, hk, rfl, ⟨s, hs1, hs2, rfl⟩, hr⟩ := hrel
    obtain ⟨t1, ht1, ht1', hst⟩ := hr.strm
    have hlt := hst.lt
    by_cases hkn : k < n
    · go_wp2_with fail
      refine (some_any sb t1 wr.heap.size 0 2 2 (fun k => [⟨#[48]⟩, ⟨#[49]⟩].getD k ⟨#[]⟩) _ (hst.alloc _) (by omega) (by decide) (by decide) (by omega) (strs_fresh wr [⟨#[48]⟩, ⟨#[49]⟩] _)).mono ?_
      rintro e w2 ⟨⟨j, hj, rfl⟩, hr2⟩
      have hx : ([⟨#[48]⟩, ⟨#[49]⟩].getD j ⟨#[]⟩ : ByteArray).size = 1 ∧ ([⟨#[48]⟩, ⟨#[49]⟩].getD j ⟨#[]⟩ : ByteArray).data.toList.all bitB = true := by
        have : j = 0 ∨ j = 1 := by omega
        rcases this with rfl | rfl <;> decide
      have hr3 := hr.then ht1 ht1' hr2.after_alloc
      generalize ([⟨#[48]⟩, ⟨#[49]⟩].getD j ⟨#[]⟩ : ByteArray) = x at hx ⊢
      have hsz : (s ++ x).size = k + 1 := by rw [ByteArray.size_append]; omega
      have hall : (s ++ x).data.toList.all bitB = true := by rw [ByteArray.data_append]; simp; exact ⟨by simpa using hs2, by simpa using hx.2⟩
      have hcat : ¬ 9223372036854775807 < s.size + x.size := by omega
      clear hs2 hs1
      have HX := Lib.hid hx
      clear hx
      go_wp2_with fail
      go_roundw
      case rel => exact ⟨k + 1, by omega, by go_num, ⟨_, hsz, hall, rfl⟩, hr3⟩
      case measure => simp [intOf]; omega
    · obtain rfl : k = n := by omega
      go_wp2
      go_ret
      exact ⟨⟨s, hs1, hs2, rfl⟩, hr⟩
theorem empty_of_size {s : ByteArray} (h : s.size = 0) : s.toList.isEmpty = true := by
  rw [ByteArray.toList_eq]
  have : s.data.toList.length = 0 := by simpa using h
  rw [List.isEmpty_iff, ← List.length_eq_zero_iff]; exact this
theorem not_empty_of_size {s : ByteArray} (h : 0 < s.size) : s.toList.isEmpty = false := by
  rw [ByteArray.toList_eq]
  have : 0 < s.data.toList.length := by simpa using h
  rw [List.isEmpty_eq_false_iff]; intro e; rw [e] at this; simp at this
theorem changed_any (sb t : Nat) (s wi : ByteArray) (w : World) (hs : Strm w sb t) (ht : t ≤ 1000000) (hsz : s.size ≤ 1000000) (hw0 : 0 < wi.size) (hw1 : wi.size ≤ 1000) :
    Calls Tryz.prog 93 #[.pointer (some ⟨sb, 0, none⟩), .string s, .string wi] w fun e w' => (∃ r : ByteArray, r.size ≤ s.size + wi.size + 4 ∧ e = .returned (.string r)) ∧ Ran sb t 3 w w' := by
  by_cases h0 : s.size = 0
  · have he : s.toList.isEmpty = true := empty_of_size h0
    go_enter Tryz.func93, Tryz.ntmps93
    go_wp2_with fail
    go_ret
    exact ⟨⟨wi, by omega, rfl⟩, (Ran.refl hs).mono (by decide)⟩
  · have he : s.toList.isEmpty = false := not_empty_of_size (by omega)
    have he2 : wi.toList.isEmpty = false := not_empty_of_size hw0
    go_enter Tryz.func93, Tryz.ntmps93
    go_wp2_with fail
    refine (next_any sb t _ _ hs (by omega) (by omega) (by omega)).mono ?_
    rintro e w1 ⟨⟨r1, h1, h2, rfl⟩, hr1⟩
    obtain ⟨t1, ht1, ht1', hs1⟩ := hr1.strm
    obtain ⟨i, rfl⟩ : ∃ i : Nat, r1 = i := ⟨r1.toNat, by omega⟩
    go_wp2_with fail
    refine (next_any sb t1 _ _ hs1 (by omega) (by omega) (by omega)).mono ?_
    rintro e w2 ⟨⟨r2, h3, h4, rfl⟩, hr2⟩
    obtain ⟨t2, ht2, ht2', hs2⟩ := hr2.strm
    obtain ⟨k, rfl⟩ : ∃ k : Nat, r2 = k := ⟨r2.toNat, by omega⟩
    have hkw : k < wi.size := by omega
    have hi : i < s.size := by omega
    go_wp2_with fail
    refine (next_any sb t2 _ _ hs2 (by omega) (by omega) (by omega)).mono ?_
    rintro e w3 ⟨⟨r3, h5, h6, rfl⟩, hr3⟩
    have hrr := (hr1.then ht1 ht1' (hr2.then ht2 ht2' hr3)).mono (show 1 + (1 + 1) ≤ 3 by decide)
    have h012 : r3 = 0 ∨ r3 = 1 ∨ r3 = 2 := by omega
    have hi2 : i ≤ s.size := by omega
    have hi3 : (i : Int) ≤ (s.size : Int) := by omega
    clear h5 h6
    rcases h012 with rfl | rfl | rfl
    · go_wp2_with fail
      have hx := encode_size_le (wrap32 (wi[k].toNat : Int))
      have hA : ¬ 9223372036854775807 < i + (Utf8.encode (wrap32 (wi[k].toNat : Int))).size := by omega
      have hB : ¬ 9223372036854775807 < i + (Utf8.encode (wrap32 (wi[k].toNat : Int))).size + (s.size - (i + 1)) := by omega
      go_quiet (fail)
      clear hA hB
      go_wp2_with fail
      go_ret
      refine ⟨⟨_, ?_, rfl⟩, ?_⟩
      · simp only [ByteArray.size_append, ByteArray.size_extract]; omega
      · obtain ⟨g, t', x, y, z⟩ := hrr
        exact ⟨⟨g.os, g.tape, g.output, g.size, g.block⟩, t', x, y, z.kept fun _ _ => rfl⟩
    · have hx := encode_size_le (wrap32 (wi[k].toNat : Int))
      have hA : ¬ 9223372036854775807 < i + (Utf8.encode (wrap32 (wi[k].toNat : Int))).size := by omega
      have hB : ¬ 9223372036854775807 < i + (Utf8.encode (wrap32 (wi[k].toNat : Int))).size + (s.size - i) := by omega
      go_wp2_with fail
      go_quiet (fail)
      clear hA hB
      go_wp2_with fail
      go_ret
      refine ⟨⟨_, ?_, rfl⟩, ?_⟩
      · simp only [ByteArray.size_append, ByteArray.size_extract]; omega
      · obtain ⟨g, t', x, y, z⟩ := hrr
        exact ⟨⟨g.os, g.tape, g.output, g.size, g.block⟩, t', x, y, z.kept fun _ _ => rfl⟩
    · have hB : ¬ 9223372036854775807 < i + (s.size - (i + 1)) := by omega
      go_wp2_with fail
      go_quiet (fail)
      clear hB
      go_wp2_with fail
      go_ret
      refine ⟨⟨_, ?_, rfl⟩, ?_⟩
      · simp only [ByteArray.size_append, ByteArray.size_extract]; omega
      · obtain ⟨g, t', x, y, z⟩ := hrr
        exact ⟨⟨g.os, g.tape, g.output, g.size, g.block⟩, t', x, y, z.kept fun _ _ => rfl⟩
theorem Ran.then_below {sb t K : Nat} {w w1 w2 : World} (h : Ran sb t K w w1) (hb : Below w1.heap.size w1 w2) : Ran sb t K w w2 := by
  obtain ⟨hg, t', a, b, hs⟩ := h
  exact ⟨hg.trans ⟨hb.os, hb.tape, hb.output, hb.size, fun k hk _ => hb.block k hk⟩, t', a, b, hs.below hb hs.lt⟩
theorem bitsFault_any (s : ByteArray) (w : World) (hs : s.size ≤ 9223372036854775807) :
    Calls Tryz.prog 96 #[.string s] w fun e w' => e = .returned (.int .i64 (if s.data.toList.all bitB = true then 0 else 9)) ∧ Below w.heap.size w w' := by
  have hcon := Any.strings_Trim_laid Tryz.lays160 (by kernel_rfl) s ⟨#[48, 49]⟩ w hs (by decide) (ascii_of_all (by decide))
  change Calls Tryz.prog 99 _ _ (fun e w' => e = .returned (.string ⟨(Lib.trimS s.data.toList [48, 49]).toArray⟩) ∧ Below w.heap.size w w') at hcon
  rw [← trim_bits]
  generalize Lib.trimS s.data.toList [48, 49] = l at hcon ⊢
  cases hl : l.isEmpty with
  | true =>
    rw [if_pos rfl]
    obtain rfl : l = [] := by simpa using hl
    clear hl
    go_enter Tryz.func96, Tryz.ntmps96
    go_wp2_with fail
    refine hcon.mono ?_
    rintro e w' ⟨rfl, hB⟩
    go_wp2_with fail
    go_ret
    exact ⟨rfl, hB⟩
  | false =>
    rw [if_neg (by decide)]
    have h2 : (⟨l.toArray⟩ : ByteArray).toList.isEmpty = false := by rw [ByteArray.toList_eq]; simpa using hl
    go_enter Tryz.func96, Tryz.ntmps96
    go_wp2_with fail
    refine hcon.mono ?_
    rintro e w' ⟨rfl, hB⟩
    go_wp2_with fail
    go_ret
    exact ⟨rfl, hB⟩
end Go.Proofs.YtoipgliokelcfaaGreatDoor
