/- strings.Builder's writers, at this translation; the closures that write lines; the program's Write and Text of vectors. -/
import Derived.Test.YtgnkihiibednoabGreatDoorPwRd
import Derived.Shelf.Strings.OnBuilder
namespace Go.Proofs.YtgnkihiibednoabGreatDoor
open Go.RowKit

def rnB : Go.Shelf.Ren := ⟨fun | 167 => 50 | n => Tryz.lays156_ren.f n, Tryz.lays156_ren.t, Tryz.lays156_ren.g⟩
theorem laysWS : Go.Proofs.Lays.n166 Tryz.prog Tryz.lays156_ren := { Tryz.lays156 with }
theorem laysWB : Go.Proofs.Lays.n167 Tryz.prog rnB := { Tryz.lays156 with f167 := Tryz.func50.trans (congrArg some (by kernel_rfl)), t5 := Tryz.underlying5, a5 := Tryz.isAgg5, z5 := Tryz.sizeOf5, v5 := Tryz.zeroValue5 }
theorem extraWB : Builder.Extra Tryz.prog rnB := { sizeBuilder := by kernel_rfl, liesBuilder := by kernel_rfl, t5 := Tryz.underlying5, a5 := Tryz.isAgg5, z5 := Tryz.sizeOf5, v5 := Tryz.zeroValue5, infoByte := by kernel_rfl, cellsByte := by kernel_rfl, sizeByte := by kernel_rfl, neB5 := by decide }
abbrev BldF (B b : Nat) (l : List UInt8) (w : World) : Prop := Lib.IsBuilderF 71 5 B b (Lib.byteCells l) w
theorem strCells_data (s : ByteArray) : Lib.strCells s = Lib.byteCells s.data.toList := rfl
theorem byteCells_append (a b : List UInt8) : Lib.byteCells (a ++ b) = Lib.byteCells a ++ Lib.byteCells b := by unfold Lib.byteCells; rw [List.map_append]

theorem writeString_any (B b : Nat) (l : List UInt8) (s : ByteArray) (w : World) (h : BldF B b l w) (hl : l.length ≤ 100000000) (hs : s.size ≤ 1000000) (hBw : B ≤ w.heap.size) :
    Calls Tryz.prog 48 #[.pointer (some ⟨b, 0, none⟩), .string s] w fun e w' => e = .returned (.tuple #[.int .i64 (s.size : Int), .nilIface]) ∧ BldF B b (l ++ s.data.toList) w' ∧ Below B w w' := by
  refine (Any.Builder_WriteString_k laysWS Tryz.Builder_Extra_156 B b (Lib.byteCells l) s w h (by rw [Lib.byteCells_length]; omega) hBw).mono ?_
  rintro e w' ⟨rfl, hA, hB, -⟩
  refine ⟨rfl, .inr ?_, hB⟩
  rw [byteCells_append, ← strCells_data]
  exact hA
theorem writeByte_any (B b : Nat) (l : List UInt8) (c : UInt8) (w : World) (h : BldF B b l w) (hl : l.length ≤ 100000000) (hBw : B ≤ w.heap.size) :
    Calls Tryz.prog 50 #[.pointer (some ⟨b, 0, none⟩), .int .u8 (c.toNat : Int)] w fun e w' => e = .returned .nilIface ∧ BldF B b (l ++ [c]) w' ∧ Below B w w' := by
  refine (Any.Builder_WriteByte_k laysWB extraWB B b (Lib.byteCells l) (c.toNat : Int) w h (by rw [Lib.byteCells_length]; omega) hBw).mono ?_
  rintro e w' ⟨rfl, hA, hB, -⟩
  refine ⟨rfl, .inr ?_, hB⟩
  rw [byteCells_append]
  exact hA
theorem bLen_any (B b : Nat) (l : List UInt8) (w : World) (h : BldF B b l w) : Calls Tryz.prog 51 #[.pointer (some ⟨b, 0, none⟩)] w fun e w' => e = .returned (.int .i64 (l.length : Int)) ∧ w = w' := by
  refine (Tryz.Builder_Len_f B b _ w h).mono ?_
  rintro e w' ⟨rfl, rfl⟩
  rw [Lib.byteCells_length]
  exact ⟨rfl, rfl⟩
theorem bString_any (B b : Nat) (l : List UInt8) (w : World) (h : BldF B b l w) (hBw : B ≤ w.heap.size) : Calls Tryz.prog 52 #[.pointer (some ⟨b, 0, none⟩)] w fun e w' => e = .returned (.string ⟨l.toArray⟩) ∧ Below B w w' := by
  refine (Tryz.Builder_String_any_k B b l w h hBw).mono ?_
  rintro e w' ⟨rfl, -, hB, -⟩
  exact ⟨rfl, hB⟩
theorem bld_new (w : World) : BldF w.heap.size w.heap.size [] (w.alloc (.cells #[.pointer none, .slice none 0 0] 71)) :=
  .inl ⟨Nat.le_refl _, _, heap_alloc_new w _, World.ownsRowF_of (World.ownsRow_nil _ _ _ _), by simp [Value.ownBlock]⟩
theorem bld_kept {B b : Nat} {l : List UInt8} {w w' : World} (h : BldF B b l w) (hB : Below w.heap.size w w') : BldF B b l w' := by
  have one : ∀ {p : Value}, Lib.BuilderAtF 71 5 B b p (Lib.byteCells l) w → Lib.BuilderAtF 71 5 B b p (Lib.byteCells l) w' := fun h => by
    have hlt := h.lt
    obtain ⟨h1, v, h2, h3, h4⟩ := h
    refine ⟨h1, v, (hB.block b hlt).trans h2, ?_, h4⟩
    obtain ⟨k1, k2 | ⟨g, cap, cur, fz, e1, e2, e3, e4⟩⟩ := h3
    · exact ⟨k1, .inl k2⟩
    · exact ⟨k1, .inr ⟨g, cap, cur, fz, e1, e2, (hB.block g (Array.getElem?_eq_some_iff.1 e3).1).trans e3, e4⟩⟩
  exact h.elim (fun h => .inl (one h)) (fun h => .inr (one h))

theorem join_one (x sep : List UInt8) : Lib.join [x] sep = x := by simp [Lib.join]
set_option maxHeartbeats 2000000 in
/-- The closure that writes a line, of one word. -/
theorem write1_any (B b : Nat) (l : List UInt8) (s : ByteArray) (g c : Nat) (w : World) (h : BldF B b l w) (hl : l.length ≤ 90000000) (hs : s.size ≤ 1000000) (hBw : B ≤ w.heap.size) (hg : g < w.heap.size) (hc : w.cell? ⟨g, 0, none⟩ = some (.string s)) (hc1 : 1 ≤ c) :
    Calls Tryz.prog 47 #[.slice (some ⟨g, 0, none⟩) 1 c, .pointer (some ⟨b, 0, none⟩)] w fun e w' => e = .returned (.tuple #[]) ∧ BldF B b (l ++ s.data.toList ++ [10]) w' ∧ Below B w w' := by
  have hjn : Lib.join ([s].map (·.data.toList)) (⟨#[32]⟩ : ByteArray).data.toList = s.data.toList := join_one _ _
  have hj := Tryz.strings_Join g 0 c [s] ⟨#[32]⟩ w (fun j x hx => by
    cases j with
    | zero =>
      obtain rfl : s = x := by simpa using hx
      exact hc
    | succ j => simp at hx) hg (by simp) hc1 (by rw [hjn]; simp; omega)
  rw [hjn] at hj
  change Calls Tryz.prog _ #[.slice (some ⟨g, 0, none⟩) 1 c, .string ⟨#[32]⟩] _ (fun e w' => e = .returned (.string s) ∧ Below w.heap.size w w') at hj
  clear hjn
  have H := Lib.hid (⟨h, hBw⟩ : _ ∧ _)
  clear h hc
  have hlen : (l ++ s.data.toList).length ≤ 100000000 := by rw [List.length_append]; simp; omega
  have HL := Lib.hid hlen
  clear hlen
  go_enter Tryz.func47, Tryz.ntmps47
  go_wp2_with fail
  refine hj.mono ?_
  rintro e w2 ⟨rfl, hB2⟩
  clear hj
  have hws := writeString_any B b l s w2 (bld_kept H.out.1 hB2) (by omega) hs (Nat.le_trans H.out.2 hB2.size)
  have HB2 := Lib.hid (hB2.mono H.out.2)
  clear hB2
  go_wp2_with fail
  refine hws.mono ?_
  rintro e w3 ⟨rfl, hA3, hB3⟩
  clear hws
  have hwb := writeByte_any B b _ 10 w3 hA3 HL.out (Nat.le_trans H.out.2 (HB2.out.trans hB3).size)
  have HB3 := Lib.hid (HB2.out.trans hB3)
  clear hB3 HB2 hA3
  go_wp2_with fail
  refine hwb.mono ?_
  rintro e w4 ⟨rfl, hA4, hB4⟩
  clear hwb
  have HB4 := Lib.hid (⟨hA4, HB3.out.trans hB4⟩ : _ ∧ _)
  clear hB4 hA4
  go_wp2_with fail
  go_end0
  exact ⟨rfl, HB4.out⟩
end Go.Proofs.YtgnkihiibednoabGreatDoor
