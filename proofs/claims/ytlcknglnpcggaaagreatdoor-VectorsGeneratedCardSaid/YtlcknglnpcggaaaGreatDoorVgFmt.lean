/- strconv.FormatInt of numbers below 1024 in base 2. -/
import Derived.Test.YtlcknglnpcggaaaGreatDoorDigits
import Derived.Laws.IdiomStrings
namespace Go.Proofs.YtlcknglnpcggaaaGreatDoor
open Go.RowKit

/-- What the table of trailing zeros holds at the place of 2. -/
def Tz (w : World) : Prop := w.cell? ⟨5, 1, none⟩ = some (.int .u8 1)
theorem Tz.below {w w' : World} {B : Nat} (h : Tz w) (hb : Below B w w') (hB : 5 < B) : Tz w' := (hb.cell (p := ⟨_, 1, none⟩) hB).trans h
theorem Tz.lt {w : World} (h : Tz w) : 5 < w.heap.size := World.block_lt_of_cell? w ⟨_, 1, none⟩ h

theorem tz64_two (w : World) (h : Tz w) : Calls Tryz.prog 99 #[.int .u64 2] w fun e w' => e = .returned (.int .i64 1) ∧ w = w' := by
  unfold Tz at h
  have e1 : bits .and .u64 2 (IntKind.u64.wrap (-2)) = 2 := by kernel_rfl
  have e2 : IntKind.u64.wrap 571740426102707730 = 571740426102707730 := by kernel_rfl
  go_enter Tryz.func99, Tryz.ntmps99
  go_wp2_with fail
  go_ret
  exact ⟨rfl, rfl⟩
set_option maxRecDepth 10000 in
theorem tz_two (w : World) (h : Tz w) : Calls Tryz.prog 93 #[.int .u64 2] w fun e w' => e = .returned (.int .i64 1) ∧ w = w' := by
  go_enter Tryz.func93, Tryz.ntmps93
  go_wp2_with fail
  refine (tz64_two _ h).mono ?_
  rintro e w' ⟨rfl, rfl⟩
  go_wp2_with fail
  go_ret
  exact ⟨rfl, rfl⟩
theorem isPow2_two (w : World) : Calls Tryz.prog 92 #[.int .i64 2] w fun e w' => e = .returned (.bool true) ∧ w = w' := by
  have e1 : bits .and .i64 2 1 = 0 := by kernel_rfl
  go_enter Tryz.func92, Tryz.ntmps92
  go_wp2_with fail
  go_ret
  exact ⟨rfl, rfl⟩

theorem Tryz.zc : (List.range 65).all (fun j => match Tryz.zeroCells113[j]? with | some (.int .u8 0) => true | _ => false) = true := by kernel_rfl
theorem zc_at {j : Nat} (h : j < 65) : Tryz.zeroCells113[j]? = some (.int .u8 0) := by
  have h1 := List.all_eq_true.1 Tryz.zc j (List.mem_range.2 h)
  revert h1
  split
  · intro _; assumption
  · intro e; cases e


theorem cellF_fresh (w : World) (cs : Array Value) (t : TypeId) {j : Nat} {v : Value} (h : cs[j]? = some v) : (w.alloc (.cells cs t)).cell? ⟨w.heap.size, j, none⟩ = some v := by
  have e : (w.alloc (.cells cs t)).heap[w.heap.size]? = some (.cells cs t) := heap_alloc_new w _
  unfold World.cell?
  simp only [e]
  simpa using h
theorem frozenF_fresh (w : World) (cs : Array Value) (t : TypeId) (j : Nat) : (w.alloc (.cells cs t)).frozen? ⟨w.heap.size, j, none⟩ = false := by
  have e : (w.alloc (.cells cs t)).heap[w.heap.size]? = some (.cells cs t) := heap_alloc_new w _
  unfold World.frozen?
  simp only [e]
  simp

theorem slice_tail (ab k : Nat) (hk : k < 65) (W : World) : (Instr.sliceAt 113 (.pointer (some ⟨ab, 0, none⟩)) (some (.int .i64 (k : Int))) none none).run Tryz.prog W = .ok (.slice (some ⟨ab, k, none⟩) (65 - k) (65 - k)) W := by
  have hA : Tryz.prog.arrayLen 113 = 65 := by kernel_rfl
  have hs : (sizeOf (Tryz.prog.elem 113)).run Tryz.prog W = .ok 1 W := by kernel_rfl
  have ht : Tryz.prog.underlying 113 = some (.array (Tryz.prog.arrayLen 113) (Tryz.prog.elem 113)) := by kernel_rfl
  rw [run_sliceAt_array_l W 113 ⟨ab, 0, none⟩ ht .i64 (k : Int) (by omega) (by rw [hA]; omega), hs, hA]
  show Result.ok (slicedAt ⟨ab, 0, none⟩ (Int.toNat (k : Int)) 65 65 1) W = _
  unfold slicedAt
  rw [Int.toNat_natCast, if_neg (by omega), add_at]
  simp
/-- A number in base 2, the highest digit first. -/
def binF : Nat → Nat → List UInt8
  | 0, _ => []
  | f + 1, n => if n < 2 then [if n = 0 then 48 else 49] else binF f (n / 2) ++ [if n % 2 = 0 then 48 else 49]
theorem andU_one : ∀ m : Nat, m < 1024 → bits .and .u64 (m : Int) 1 = ((m % 2 : Nat) : Int) := by decide +kernel
set_option maxRecDepth 10000 in
theorem wrap_u64 (m : Nat) (h : m < 1024) : IntKind.u64.wrap (m : Int) = (m : Int) := by
  revert h
  revert m
  decide +kernel
/-- What the loop over the digits holds. -/
def AtF (ab n : Nat) (m : Nat) (l : List UInt8) (w wr : World) : Prop := m < 2 ^ (10 - l.length) ∧ l.length < 10 ∧ binF (10 - l.length) m ++ l = binF 10 n ∧ (∀ j (h : j < l.length), wr.cell? ⟨ab, 65 - l.length + j, none⟩ = some (.int .u8 (l[j].toNat : Int))) ∧ (∀ j, j < 65 - l.length → wr.cell? ⟨ab, j, none⟩ = some (.int .u8 0)) ∧ (∀ j, j < 65 → wr.frozen? ⟨ab, j, none⟩ = false) ∧ Below ab w wr
theorem AtF.put {ab n m : Nat} {l : List UInt8} {w wr : World} (h : AtF ab n m l w wr) (hm : 2 ≤ m) (c : UInt8) (hc : c = if m % 2 = 0 then 48 else 49) : AtF ab n (m / 2) (c :: l) w (wr.setCell ⟨ab, 64 - l.length, none⟩ (.int .u8 (c.toNat : Int))) := by
  obtain ⟨h1, h2, h3, h4, h5, h6, h7⟩ := h
  have hl : l.length < 9 := by
    rcases Nat.lt_or_ge l.length 9 with e | e
    · exact e
    · have : l.length = 9 := by omega
      rw [this] at h1
      have : m < 2 := h1
      omega
  obtain ⟨f, hf⟩ : ∃ f, 10 - l.length = f + 1 := ⟨9 - l.length, by omega⟩
  have hf2 : 10 - (c :: l).length = f := by simp; omega
  rw [hf] at h1 h3
  have hmf : binF (f + 1) m = binF f (m / 2) ++ [c] := by
    show (if m < 2 then _ else _) = _
    rw [if_neg (by omega), hc]
  refine ⟨?_, by simp; omega, ?_, fun j hj => ?_, fun j hj => ?_, fun j hj => ?_, h7.setCell (Nat.le_refl _) _⟩
  · rw [hf2]
    have : (2 : Nat) ^ (f + 1) = 2 * 2 ^ f := by rw [Nat.pow_succ]; omega
    omega
  · rw [hf2, ← h3, hmf]
    simp
  · simp at hj
    have e0 : 65 - (c :: l).length = 64 - l.length := by simp
    rw [e0]
    cases j with
    | zero =>
      exact World.cell?_setCell_same wr ⟨ab, 64 - l.length, none⟩ _ (h5 (64 - l.length) (by omega))
    | succ j =>
      rw [World.cell?_setCell_other _ _ _ _ (by simp)]
      have := h4 j (by omega)
      rw [show 64 - l.length + (j + 1) = 65 - l.length + j from by omega]
      exact this
  · simp at hj
    rw [World.cell?_setCell_other _ _ _ _ (by simp)]
    exact h5 j (by omega)
  · rw [World.frozen?_setCell]
    exact h6 j hj
theorem AtF.last {ab n m : Nat} {l : List UInt8} {w wr : World} (h : AtF ab n m l w wr) (hm : m < 2) (c : UInt8) (hc : c = if m = 0 then 48 else 49) (cap : Nat) : (convert 63 9 (.slice (some ⟨ab, 64 - l.length, none⟩) (l.length + 1) cap)).run Tryz.prog (wr.setCell ⟨ab, 64 - l.length, none⟩ (.int .u8 (c.toNat : Int))) = .ok (.string ⟨(binF 10 n).toArray⟩) (wr.setCell ⟨ab, 64 - l.length, none⟩ (.int .u8 (c.toNat : Int))) := by
  obtain ⟨h1, h2, h3, h4, h5, h6, h7⟩ := h
  obtain ⟨f, hf⟩ : ∃ f, 10 - l.length = f + 1 := ⟨9 - l.length, by omega⟩
  rw [hf] at h3
  have hmf : binF (f + 1) m = [c] := by
    show (if m < 2 then _ else _) = _
    rw [if_pos hm, hc]
  rw [hmf] at h3
  rw [← h3]
  refine run_convert_bytes_back (P := Tryz.prog) _ 63 9 5 ⟨ab, 64 - l.length, none⟩ cap (c :: l) Tryz.underlying63 Tryz.underlying5 Tryz.underlying9 (fun j hj => ?_)
  rw [add_at]
  cases j with
  | zero => exact World.cell?_setCell_same wr ⟨ab, 64 - l.length, none⟩ _ (h5 (64 - l.length) (by omega))
  | succ j =>
    simp at hj
    rw [World.cell?_setCell_other _ _ _ _ (by simp)]
    have := h4 j (by omega)
    rw [show 64 - l.length + (j + 1) = 65 - l.length + j from by omega]
    exact this

set_option maxHeartbeats 2000000 in
set_option maxRecDepth 100000 in
theorem formatBits_any (n : Nat) (hn : n < 1024) (w : World) (h : Tz w) : Calls Tryz.prog 86 #[.slice none 0 0, .int .u64 (n : Int), .int .i64 2, .bool false, .bool false] w fun e w' => e = .returned (.tuple #[.slice none 0 0, .string ⟨(binF 10 n).toArray⟩]) ∧ Below w.heap.size w w' := by
  have htz := (h.below ((Below.refl _ w).alloc (Nat.le_refl _) (.cells Tryz.zeroCells113 113)) h.lt)
  have hA : AtF w.heap.size n n [] w (w.alloc (.cells Tryz.zeroCells113 113)) := ⟨hn, by decide, by simp, fun j hj => absurd hj (by simp), fun j hj => cellF_fresh _ _ _ (zc_at hj), fun j hj => frozenF_fresh _ _ _ _, (Below.refl _ w).alloc (Nat.le_refl _) _⟩
  have e1 : IntKind.u64.wrap 2 = 2 := by kernel_rfl
  have e2 : IntKind.u64.wrap 1 = 1 := by kernel_rfl
  clear h
  generalize hW : w.alloc (.cells Tryz.zeroCells113 113) = W at htz hA
  go_enter Tryz.func86, Tryz.ntmps86
  go_wp2_with fail
  have HW := Lib.hid hW
  clear hW
  refine (isPow2_two _).mono ?_
  rintro e w' ⟨rfl, rfl⟩
  go_wp2_with fail
  refine (tz_two _ htz).mono ?_
  rintro e w' ⟨rfl, rfl⟩
  go_wp2_with fail
  have HA := Lib.hid hA
  clear hA
  go_loopw [1, 13] (fun u i wr => ∃ (m : Nat) (l : List UInt8), u = .int .u64 (m : Int) ∧ i = .int .i64 ((65 - l.length : Nat) : Int) ∧ AtF w.heap.size n m l w wr) (fun u _ _ => (intOf u).toNat)
  case atStart => exact ⟨n, [], rfl, rfl, HA.out⟩
  case round =>
    obtain ⟨m, l, rfl, rfl, hAt⟩ := hrel
    have hm : m < 1024 := Nat.lt_of_lt_of_le hAt.1 (Nat.pow_le_pow_right (n := 2) (by decide) (by omega : 10 - l.length ≤ 10))
    have hl := hAt.2.1
    have hcell := hAt.2.2.2.2.1 (64 - l.length) (by omega)
    have hfro := hAt.2.2.2.2.2.1 (64 - l.length) (by omega)
    have ei : IntKind.i64.wrap (((65 - l.length : Nat) : Int) - 1) = ((64 - l.length : Nat) : Int) := by
      rw [IntWalk.i64_in _ (by omega)]
      omega
    have ea := andU_one m hm
    have hsl := slice_tail w.heap.size (64 - l.length) (by omega)
    rw [show 65 - (64 - l.length) = l.length + 1 from by omega] at hsl
    have HT := Lib.hid hAt
    clear hAt
    by_cases hm2 : m < 2
    · have hk2 : m = 0 ∨ m = 1 := by omega
      rcases hk2 with rfl | rfl
      · have hcv := fun cap => HT.out.last (by decide) (⟨#[48, 49, 50, 51, 52, 53, 54, 55, 56, 57, 97, 98, 99, 100, 101, 102, 103, 104, 105, 106, 107, 108, 109, 110, 111, 112, 113, 114, 115, 116, 117, 118, 119, 120, 121, 122]⟩ : ByteArray)[0] rfl cap
        go_wp2_with fail
        go_ret2
        exact ⟨rfl, HT.out.2.2.2.2.2.2.setCell (Nat.le_refl _) _⟩
      · have hcv := fun cap => HT.out.last (by decide) (⟨#[48, 49, 50, 51, 52, 53, 54, 55, 56, 57, 97, 98, 99, 100, 101, 102, 103, 104, 105, 106, 107, 108, 109, 110, 111, 112, 113, 114, 115, 116, 117, 118, 119, 120, 121, 122]⟩ : ByteArray)[1] rfl cap
        go_wp2_with fail
        go_ret2
        exact ⟨rfl, HT.out.2.2.2.2.2.2.setCell (Nat.le_refl _) _⟩
    · have hg : ¬ (m : Int) < 2 := by omega
      have hg2 : (2 : Int) ≤ (m : Int) := by omega
      rcases Nat.mod_two_eq_zero_or_one m with h0 | h0
      · rw [h0] at ea
        go_wp2_with fail
        go_roundw
        case rel => exact ⟨m / 2, _ :: l, congrArg (Value.int .u64) (by omega), congrArg (fun k : Nat => Value.int .i64 (k : Int)) (by simp), HT.out.put (by omega) (⟨#[48, 49, 50, 51, 52, 53, 54, 55, 56, 57, 97, 98, 99, 100, 101, 102, 103, 104, 105, 106, 107, 108, 109, 110, 111, 112, 113, 114, 115, 116, 117, 118, 119, 120, 121, 122]⟩ : ByteArray)[0] (by rw [if_pos h0]; rfl)⟩
        case measure =>
          show ((m : Int) / 2).toNat < (m : Int).toNat
          omega
      · rw [h0] at ea
        go_wp2_with fail
        go_roundw
        case rel => exact ⟨m / 2, _ :: l, congrArg (Value.int .u64) (by omega), congrArg (fun k : Nat => Value.int .i64 (k : Int)) (by simp), HT.out.put (by omega) (⟨#[48, 49, 50, 51, 52, 53, 54, 55, 56, 57, 97, 98, 99, 100, 101, 102, 103, 104, 105, 106, 107, 108, 109, 110, 111, 112, 113, 114, 115, 116, 117, 118, 119, 120, 121, 122]⟩ : ByteArray)[1] (by rw [if_neg (by omega)]; rfl)⟩
        case measure =>
          show ((m : Int) / 2).toNat < (m : Int).toNat
          omega

theorem iFormatInt_any (n : Nat) (hn : n < 1024) (w : World) (h : Tz w) : Calls Tryz.prog 75 #[.int .i64 (n : Int), .int .i64 2] w fun e w' => e = .returned (.string ⟨(binF 10 n).toArray⟩) ∧ Below w.heap.size w w' := by
  have hcon := formatBits_any n hn w h
  obtain ⟨s, hs⟩ : ∃ s, s = (⟨(binF 10 n).toArray⟩ : ByteArray) := ⟨_, rfl⟩
  rw [← hs] at hcon ⊢
  have e1 : IntKind.u64.wrap (n : Int) = (n : Int) := wrap_u64 n hn
  have hk0 : ¬ (n : Int) < 0 := by omega
  clear hs
  go_enter Tryz.func75, Tryz.ntmps75
  go_wp2_with fail
  refine hcon.mono ?_
  rintro e w' ⟨rfl, hB⟩
  go_wp2_with fail
  go_ret
  exact ⟨rfl, hB⟩
theorem formatInt_any (n : Nat) (hn : n < 1024) (w : World) (h : Tz w) : Calls Tryz.prog 58 #[.int .i64 (n : Int), .int .i64 2] w fun e w' => e = .returned (.string ⟨(binF 10 n).toArray⟩) ∧ Below w.heap.size w w' := by
  have hcon := iFormatInt_any n hn w h
  obtain ⟨s, hs⟩ : ∃ s, s = (⟨(binF 10 n).toArray⟩ : ByteArray) := ⟨_, rfl⟩
  rw [← hs] at hcon ⊢
  clear hs
  go_enter Tryz.func58, Tryz.ntmps58
  go_wp2_with fail
  refine hcon.mono ?_
  rintro e w' ⟨rfl, hB⟩
  go_wp2_with fail
  go_ret
  exact ⟨rfl, hB⟩
end Go.Proofs.YtlcknglnpcggaaaGreatDoor
