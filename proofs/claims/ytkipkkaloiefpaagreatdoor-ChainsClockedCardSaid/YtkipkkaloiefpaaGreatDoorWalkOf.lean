/- The contract of the reference's WalkOf, and of the closure of its SynchronizedTo. -/
import Derived.Test.YtkipkkaloiefpaaGreatDoorOr
import Derived.Laws.IdiomStrings
namespace Go.Proofs.YtkipkkaloiefpaaGreatDoor
open Go.RowKit

/-- The states after each clock. -/
def walkL (s : Nat) : List UInt8 → List Nat
  | [] => []
  | c :: l => nx s c :: walkL (nx s c) l
theorem walkL_len : ∀ (l : List UInt8) (s : Nat), (walkL s l).length = l.length
  | [], _ => rfl
  | c :: l, s => by simp [walkL, walkL_len l]
theorem walkL_snoc : ∀ (l : List UInt8) (s : Nat) (c : UInt8), walkL s (l ++ [c]) = walkL s l ++ [nx (nxs s l) c]
  | [], s, c => rfl
  | d :: l, s, c => by simp [walkL, walkL_snoc l, nxs]
theorem walkL_at : ∀ (l : List UInt8) (s k : Nat), k < l.length → (walkL s l)[k]? = some (nxs s (l.take (k + 1)))
  | [], _, _, h => by simp at h
  | c :: l, s, 0, _ => rfl
  | c :: l, s, k + 1, h => by
    have := walkL_at l (nx s c) k (by simpa using h)
    simpa [walkL, nxs] using this

/-- The bytes of a string in a new block. -/
theorem bytes_conv (s : ByteArray) (w : World) : ∃ (cap : Nat) (C : Array Value), (convert 9 95 (.string s)).run Tryz.prog w = .ok (.slice (some ⟨w.heap.size, 0, none⟩) s.size cap) (w.drew.alloc (.cells C 5 (C.size, C.size + 1))) ∧
    ∀ k (h : k < s.size), C[k]? = some (.int .u8 (s[k].toNat : Int)) := by
  refine ⟨_, _, run_bytes_of_string w 9 95 5 s Tryz.underlying9 Tryz.underlying95 Tryz.underlying5, fun k h => ?_⟩
  unfold bytesRow
  rw [Array.getElem?_append_left (by simpa using h)]
  have h' : k < s.data.size := h
  rw [Array.getElem?_map, Array.getElem?_eq_getElem h']
  rfl

theorem cell_bytes (w : World) (C : Array Value) (t : TypeId) (fr : Nat × Nat) {j : Nat} {v : Value} (h : C[j]? = some v) : (w.alloc (.cells C t fr)).cell? ⟨w.heap.size, j, none⟩ = some v := by
  have e : (w.alloc (.cells C t fr)).heap[w.heap.size]? = some (.cells C t fr) := heap_alloc_new w _
  unfold World.cell?
  simp only [e]
  simpa using h

theorem walkOf_any (s : Nat) (tms : ByteArray) (w : World) (hs : s < 16) (hl : tms.size ≤ 1000000) (hbits : tms.data.toList.all bitB = true) :
    Calls Tryz.prog 122 #[.int .i64 (s : Int), .string tms] w fun e w' => ∃ v, e = .returned v ∧ w'.ownsRow (w.heap.size + 1) 3 1 v tms.size ((walkL s tms.data.toList).map fun x : Nat => Value.int .i64 (x : Int)) ∧ Below w.heap.size w w' := by
  obtain ⟨cap, C, hconv, hC⟩ := bytes_conv tms w
  obtain ⟨i0, hi, hz0, hz1, hz2⟩ := info_parts Tryz.infoInt
  go_enter Tryz.func122, Tryz.ntmps122
  go_wp2_with fail
  have hcells := fun k (h : k < tms.size) => cell_bytes w C 5 (C.size, C.size + 1) (hC k h)
  have hb0 : Below w.heap.size w (w.alloc (.cells C 5 (C.size, C.size + 1))) := (Below.refl _ _).alloc (Nat.le_refl _) _
  have hsz0 : w.heap.size < (w.alloc (.cells C 5 (C.size, C.size + 1))).heap.size := by simp
  clear hconv hC
  generalize w.alloc (.cells C 5 (C.size, C.size + 1)) = W1 at hcells hb0 hsz0 ⊢
  go_wp2_with fail
  go_loopw [0, 5, 11] (fun st v c wr => ∃ k : Nat, k ≤ tms.size ∧ c = .int .i64 (k : Int) ∧ st = .int .i64 ((nxs s (tms.data.toList.take k) : Nat) : Int) ∧ wr.ownsRow (w.heap.size + 1) 3 1 v k ((walkL s (tms.data.toList.take k)).map fun x : Nat => Value.int .i64 (x : Int)) ∧ Below (w.heap.size + 1) W1 wr) (fun _ _ c _ => tms.size - (intOf c).toNat)
  case atStart => exact ⟨0, Nat.zero_le _, rfl, rfl, World.ownsRow_nil _ _ _ _, (Below.refl _ _).drew⟩
  case round =>
    obtain ⟨k, hk, rfl, rfl, hown, hB⟩ := hrel
    by_cases hlt : k < tms.size
    · have hsn : Hid (nxs s (tms.data.toList.take (k + 1)) = nx (nxs s (tms.data.toList.take k)) tms[k]) := Lib.hid (by rw [take_snoc _ _ hlt, nxs_snoc])
      have hws : Hid (walkL s (tms.data.toList.take (k + 1)) = walkL s (tms.data.toList.take k) ++ [nx (nxs s (tms.data.toList.take k)) tms[k]]) := Lib.hid (by rw [take_snoc _ _ hlt, walkL_snoc])
      have hst := nxs_lt (tms.data.toList.take k) s hs (all_take _ k hbits)
      have hcell := (hB.cell (p := ⟨w.heap.size, k, none⟩) (Nat.lt_succ_self _)).trans (hcells k hlt)
      have hbit : tms[k] = 48 ∨ tms[k] = 49 := by simpa [bitB] using bit_at tms k hlt hbits
      have hb1 : w.heap.size + 1 ≤ wr.heap.size := Nat.le_trans hsz0 hB.size
      clear hcells hbits
      generalize tms[k] = c at hsn hws hcell hbit
      generalize nxs s (tms.data.toList.take k) = st at hsn hws hst hown ⊢
      rcases hbit with rfl | rfl
      · have hcon := fun W => rafter_zero st W hst
        generalize nx st 48 = st' at hcon hsn hws
        go_wp2_with fail
        refine (hcon _).mono ?_
        rintro e w' ⟨rfl, rfl⟩
        clear hcon
        go_wp2_with (at_builtin; refine wpList_append_own _ rfl _ _ 22 rfl (w.heap.size + 1) 3 i0 (.int .i64 0) 1 8 Tryz.underlying22 hi hz0 hz1 hz2 rfl (by decide) _ _ _ rfl (hown.alloc _) ⟨wr.heap.size, 0, none⟩ 1 1 [.int .i64 (st' : Int)] rfl rfl ?c1 ?c2 ?c3 ?c4 ?c5 ?_)
        case c1 => exact cell_one_new _ _ _
        case c2 => exact ints_oneCell .i64 [(st' : Int)]
        case c3 => unfold maxLen; omega
        case c4 => omega
        case c5 => simp; omega
        intro v' w4 hown' hg4 _
        have hB4 : Below (w.heap.size + 1) W1 w4 := (hB.alloc hb1 _).grown hg4 (by simp; omega) (fun k hk => (hown.lt k hk).1)
        clear hown
        go_wp2_with fail
        go_roundw
        case rel => exact ⟨k + 1, by omega, by go_num, by rw [hsn.out], by rw [hws.out]; simpa using hown', hB4⟩
        case measure => simp [intOf]; omega
      · have hcon := fun W => rafter_one st W hst
        generalize nx st 49 = st' at hcon hsn hws
        go_wp2_with fail
        refine (hcon _).mono ?_
        rintro e w' ⟨rfl, rfl⟩
        clear hcon
        go_wp2_with (at_builtin; refine wpList_append_own _ rfl _ _ 22 rfl (w.heap.size + 1) 3 i0 (.int .i64 0) 1 8 Tryz.underlying22 hi hz0 hz1 hz2 rfl (by decide) _ _ _ rfl (hown.alloc _) ⟨wr.heap.size, 0, none⟩ 1 1 [.int .i64 (st' : Int)] rfl rfl ?d1 ?d2 ?d3 ?d4 ?d5 ?_)
        case d1 => exact cell_one_new _ _ _
        case d2 => exact ints_oneCell .i64 [(st' : Int)]
        case d3 => unfold maxLen; omega
        case d4 => omega
        case d5 => simp; omega
        intro v' w4 hown' hg4 _
        have hB4 : Below (w.heap.size + 1) W1 w4 := (hB.alloc hb1 _).grown hg4 (by simp; omega) (fun k hk => (hown.lt k hk).1)
        clear hown
        go_wp2_with fail
        go_roundw
        case rel => exact ⟨k + 1, by omega, by go_num, by rw [hsn.out], by rw [hws.out]; simpa using hown', hB4⟩
        case measure => simp [intOf]; omega
    · obtain rfl : k = tms.size := by omega
      have hall : tms.data.toList.take tms.size = tms.data.toList := List.take_of_length_le (by simp)
      rw [hall] at hown
      go_wp2
      go_ret
      exact ⟨_, rfl, hown, hb0.trans (hB.mono (Nat.le_succ _))⟩
end Go.Proofs.YtkipkkaloiefpaaGreatDoor
