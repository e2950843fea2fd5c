/- The AND of two bit strings, on both sides. -/
import Derived.Test.YtoipgliokelcfaaGreatDoorPdA
import Derived.Laws.IdiomStrings
namespace Go.Proofs.YtoipgliokelcfaaGreatDoor
open Go.RowKit

/-- The AND, letter by letter. -/
def andC (a b : UInt8) : UInt8 := if b.toNat < a.toNat then b else a
def andL (x y : List UInt8) : List UInt8 := (List.range x.length).map fun i => andC (x.getD i 0) (y.getD i 0)
def bothC (a b : UInt8) : UInt8 := if b = 48 then 48 else a
theorem andL_len (x y : List UInt8) : (andL x y).length = x.length := by simp [andL]
theorem bit_two {c : UInt8} (h : bitB c = true) : c = 48 ∨ c = 49 := by simpa [bitB] using h
theorem both_and (a b : UInt8) (ha : bitB a = true) (hb : bitB b = true) : bothC a b = andC a b := by
  rcases bit_two ha with rfl | rfl <;> rcases bit_two hb with rfl | rfl <;> decide
theorem bit_atD {l : List UInt8} (h : l.all bitB = true) (k : Nat) (hk : k < l.length) : bitB (l.getD k 0) = true := by
  have e : l.getD k 0 = l[k] := by simp [List.getD, hk]
  rw [e]
  exact List.all_eq_true.1 h _ (List.getElem_mem hk)
/-- Bytes in block g. -/
def BytW (w : World) (g m : Nat) (F : Nat → UInt8) : Prop := ∀ j, j < m → w.cell? ⟨g, j, none⟩ = some (.int .u8 ((F j).toNat : Int)) ∧ w.frozen? ⟨g, j, none⟩ = false
theorem BytW.put {w : World} {g m k : Nat} {F : Nat → UInt8} (h : BytW w g m F) (hk : k < m) (c : UInt8) : BytW (w.setCell ⟨g, k, none⟩ (.int .u8 (c.toNat : Int))) g m (fun j => if j = k then c else F j) := fun j hj => by
  refine ⟨?_, by rw [World.frozen?_setCell]; exact (h j hj).2⟩
  by_cases e : j = k
  · subst e
    dsimp only
    rw [World.cell?_setCell_same _ _ _ (h j hj).1, if_pos rfl]
  · dsimp only
    rw [World.cell?_setCell_other _ _ _ _ (by simp; try omega), if_neg e]
    exact (h j hj).1
theorem BytW.drew {w : World} {g m : Nat} {F : Nat → UInt8} (h : BytW w g m F) : BytW w.drew g m F := h
theorem bytes_conv3 (s : ByteArray) (w : World) : ∃ (cap : Nat) (C : Array Value), (convert 9 65 (.string s)).run Tryz.prog w = .ok (.slice (some ⟨w.heap.size, 0, none⟩) s.size cap) (w.drew.alloc (.cells C 5 (C.size, C.size + 1))) ∧
    ∀ k (h : k < s.size), C[k]? = some (.int .u8 (s[k].toNat : Int)) := by
  refine ⟨_, _, run_bytes_of_string w 9 65 5 s Tryz.underlying9 Tryz.underlying65 Tryz.underlying5, fun k h => ?_⟩
  unfold bytesRow
  rw [Array.getElem?_append_left (by simpa using h)]
  have h' : k < s.data.size := h
  rw [Array.getElem?_map, Array.getElem?_eq_getElem h']
  rfl
theorem bytW_new (w : World) (C : Array Value) (m : Nat) (F : Nat → UInt8) (hC : ∀ k, k < m → C[k]? = some (.int .u8 ((F k).toNat : Int))) : BytW (w.alloc (.cells C 5 (C.size, C.size + 1))) w.heap.size m F := fun j hj => by
  have e : (w.alloc (.cells C 5 (C.size, C.size + 1))).heap[w.heap.size]? = some (.cells C 5 (C.size, C.size + 1)) := heap_alloc_new w _
  have hlt : j < C.size := (Array.getElem?_eq_some_iff.1 (hC j hj)).1
  refine ⟨?_, ?_⟩
  · unfold World.cell?
    simp only [e]
    simpa using hC j hj
  · unfold World.frozen?
    simp only [e]
    simp
    omega
theorem bytW_back {w : World} {g : Nat} {F : Nat → UInt8} {m cap : Nat} (h : BytW w g m F) (l : List UInt8) (hl : l.length = m) (hF : ∀ k, k < m → F k = l.getD k 0) : (convert 65 9 (.slice (some ⟨g, 0, none⟩) m cap)).run Tryz.prog w = .ok (.string ⟨l.toArray⟩) w := by
  have := run_convert_bytes_back (P := Tryz.prog) w 65 9 5 ⟨g, 0, none⟩ cap l Tryz.underlying65 Tryz.underlying5 Tryz.underlying9 (fun j hj => by
    rw [add_at, Nat.zero_add, (h j (by omega)).1, hF j (by omega)]
    simp [List.getD, hj])
  rw [hl] at this
  exact this

set_option maxHeartbeats 2000000 in
set_option maxRecDepth 100000 in
theorem and_any (x y : List UInt8) (hl : x.length = y.length) (hz : x.length ≤ 100000) (w : World) :
    Calls Tryz.prog 89 #[.string ⟨x.toArray⟩, .string ⟨y.toArray⟩] w fun e w' => e = .returned (.string ⟨(andL x y).toArray⟩) ∧ Below w.heap.size w w' := by
  obtain ⟨sx, hsx⟩ : ∃ s : ByteArray, s = ⟨x.toArray⟩ := ⟨_, rfl⟩
  obtain ⟨sy, hsy⟩ : ∃ s : ByteArray, s = ⟨y.toArray⟩ := ⟨_, rfl⟩
  have hwx := (word_dec _ sx hsx).1
  have hwy := (word_dec _ sy hsy).1
  have hxl : sx.size = x.length := by omega
  have hyl : sy.size = x.length := by omega
  rw [← hsx, ← hsy]
  have hzz : sx.size ≤ 100000 := by omega
  have hxy : sx.size = sy.size := by omega
  obtain ⟨cap, C, hconv, hC⟩ := bytes_conv3 sx w
  have hnew := bytW_new w C sx.size (fun j => x.getD j 0) (fun k hk => by rw [hC k hk, str_at sx x hsx k hk])
  have hB0 : Below w.heap.size w (w.alloc (.cells C 5 (C.size, C.size + 1))) := (Below.refl _ _).alloc (Nat.le_refl _) _
  have hres : (andL x y).length = sx.size := by rw [andL_len]; omega
  have hat : ∀ k, k < sx.size → (andL x y).getD k 0 = andC (x.getD k 0) (y.getD k 0) := fun k hk => by
    have hk2 : k < x.length := by omega
    have e : (andL x y).getD k 0 = andC (x.getD k 0) (y.getD k 0) := by simp [andL, List.getD, hk2]
    rw [e]
    
  obtain ⟨R, hR⟩ : ∃ R : List UInt8, R = andL x y := ⟨_, rfl⟩
  rw [← hR] at hres hat ⊢
  have HX := Lib.hid (⟨hsx, hsy, hxy, hres, hat⟩ : _ ∧ _ ∧ _ ∧ _ ∧ _)
  clear hsx hsy hwx hwy hxl hyl hl hz hxy hC hR hres hat
  obtain ⟨g, hg⟩ : ∃ g, g = w.heap.size := ⟨_, rfl⟩
  go_enter Tryz.func89, Tryz.ntmps89
  go_wp2_with fail
  have HN := Lib.hid (⟨hnew, hB0⟩ : _ ∧ _)
  clear hconv hnew hB0
  generalize w.alloc (.cells C 5 (C.size, C.size + 1)) = W1 at HN ⊢
  rw [← hg] at HN ⊢
  have HG := Lib.hid hg
  clear hg
  go_loopw [6, 11] (fun _ i wr => ∃ k : Nat, k ≤ sx.size ∧ i = .int .i64 (k : Int) ∧ BytW wr g sx.size (fun j => if j < k then R.getD j 0 else x.getD j 0) ∧ Below g w wr) (fun _ i _ => sx.size - (intOf i).toNat)
  case atStart => exact ⟨0, by omega, rfl, HN.out.1.drew, HN.out.2.drew⟩
  case round =>
    clear HN
    obtain ⟨k, hk, rfl, hb, hB⟩ := hrel
    by_cases hlt : k < sx.size
    · have hlt2 : k < sy.size := by have := HX.out.2.2.1; omega
      have hx1 := str_at sx x HX.out.1 k hlt
      have hy1 := str_at sy y HX.out.2.1 k hlt2
      have hr := HX.out.2.2.2.2 k hlt
      have hc := (hb k hlt).1
      have hf := (hb k hlt).2
      have i0 : (0 : Int) ≤ (k : Int) := by omega
      have i1 : (k : Int) < (sx.size : Int) := by omega
      have i2 : (k : Int) < (sy.size : Int) := by omega
      have hstep := hb.put hlt (R.getD k 0)
      have hstep2 : BytW (wr.setCell ⟨g, k, none⟩ (.int .u8 ((R.getD k 0).toNat : Int))) g sx.size (fun j => if j < k + 1 then R.getD j 0 else x.getD j 0) := fun j hj => by
        have h := hstep j hj
        by_cases e : j = k
        · subst e
          simpa using h
        · by_cases e2 : j < k
          · have e3 : j < k + 1 := by omega
            simpa [e, e2, e3] using h
          · have e3 : ¬ j < k + 1 := by omega
            simpa [e, e2, e3] using h
      have hB2 := hB.setCell (p := ⟨g, k, none⟩) (Nat.le_refl _) (.int .u8 ((R.getD k 0).toNat : Int))
      have hval : Value.int IntKind.u8 (min (sx[k].toNat : Int) (sy[k].toNat : Int)) = .int .u8 ((R.getD k 0).toNat : Int) := by
        rw [hr, hx1, hy1]
        unfold andC
        congr 1
        by_cases e : (y.getD k 0).toNat < (x.getD k 0).toNat
        · rw [if_pos e, Int.min_eq_right (by omega)]
        · rw [if_neg e, Int.min_eq_left (by omega)]
      rw [← hval] at hstep2 hB2
      have HS := Lib.hid (⟨hstep2, hB2⟩ : _ ∧ _)
      clear hstep hstep2 hB2 hval hr hx1 hy1 hb hB
      go_wp2_with fail
      go_region
      all_goals
        go_wp2_with fail
        go_roundw
        case rel => exact ⟨k + 1, by omega, by go_num, HS.out.1.drew, HS.out.2.drew⟩
        case measure => simp [intOf]; omega

    · obtain rfl : k = sx.size := by omega
      have hcv := bytW_back (cap := cap) hb R HX.out.2.2.2.1 (fun k hk => by rw [if_pos hk])
      have HB := Lib.hid hB
      clear hb hB
      go_wp2_with fail
      go_ret
      exact ⟨rfl, HG.out ▸ HB.out⟩

end Go.Proofs.YtoipgliokelcfaaGreatDoor
