/- The shift register of a port: what it holds, loading it, shifting it, its content. -/
import Derived.Test.YtkipkkaloiefpaaGreatDoorChainM
import Derived.Test.YtkipkkaloiefpaaGreatDoorWalkOf
import Derived.StillTailTactics
namespace Go.Proofs.YtkipkkaloiefpaaGreatDoor
open Go.RowKit Go.Maps

theorem add_cell (b o j : Nat) : (⟨b, o, none⟩ : Addr).add j = ⟨b, o + j, none⟩ := by unfold Addr.add; split <;> simp_all

/-- Block bb has the bytes of b, and they can be written. -/
structure ByteRow (w : World) (bb : Nat) (b : List UInt8) : Prop where
  cell : ∀ j, j < b.length → w.cell? ⟨bb, j, none⟩ = some (.int .u8 ((b.getD j 0).toNat : Int))
  free : ∀ j, j < b.length → w.frozen? ⟨bb, j, none⟩ = false

theorem ByteRow.block {w w' : World} {bb : Nat} {b : List UInt8} (h : ByteRow w bb b) (hb : w'.heap[bb]? = w.heap[bb]?) : ByteRow w' bb b :=
  ⟨fun j hj => (World.cell?_of_block (a := ⟨bb, j, none⟩) hb).trans (h.cell j hj), fun j hj => (World.frozen?_of_block (a := ⟨bb, j, none⟩) hb).trans (h.free j hj)⟩

theorem ByteRow.set {w : World} {bb : Nat} {b : List UInt8} (h : ByteRow w bb b) {f : Nat} (hf : f < b.length) (c : UInt8) : ByteRow (w.setCell ⟨bb, f, none⟩ (.int .u8 (c.toNat : Int))) bb (b.set f c) := by
  have hs := World.cell?_setCell_same _ _ (.int .u8 (c.toNat : Int)) (h.cell f hf)
  refine ⟨fun j hj => ?_, fun j hj => ?_⟩
  · rw [List.length_set] at hj
    by_cases e : j = f
    · subst e
      rw [hs]
      simp [List.getD, hf]
    · rw [World.cell?_setCell_other _ _ _ _ (by simp; try omega)]
      rw [h.cell j hj]
      have : (b.set f c).getD j 0 = b.getD j 0 := by
        simp [List.getD, Ne.symm e]
      rw [this]
  · rw [List.length_set] at hj
    rw [World.frozen?_setCell]
    exact h.free j hj

/-- The shift register at block pb, cells 7 and 8, with its bits in block bb: its content is l. -/
def ShiftAt (w : World) (pb bb : Nat) (l : List UInt8) : Prop :=
  ∃ (b : List UInt8) (f cap : Nat), f < b.length ∧ l = b.drop f ++ b.take f ∧ b.length ≤ 1000 ∧ b.length ≤ cap ∧ w.cell? ⟨pb, 7, none⟩ = some (.slice (some ⟨bb, 0, none⟩) b.length cap) ∧ w.cell? ⟨pb, 8, none⟩ = some (.int .i64 (f : Int)) ∧ ByteRow w bb b

/-- Only blocks of S, and new ones, are other than they were. -/
structure Touch (S : Nat → Prop) (w w' : World) : Prop where
  os : w'.os = w.os
  tape : w'.tape = w.tape
  output : w'.output = w.output
  size : w.heap.size ≤ w'.heap.size
  block : ∀ b, b < w.heap.size → ¬ S b → w'.heap[b]? = w.heap[b]?
theorem Touch.refl (S : Nat → Prop) (w : World) : Touch S w w := ⟨rfl, rfl, rfl, Nat.le_refl _, fun _ _ _ => rfl⟩
theorem Touch.trans {S : Nat → Prop} {a b c : World} (h : Touch S a b) (k : Touch S b c) : Touch S a c :=
  ⟨k.os.trans h.os, k.tape.trans h.tape, k.output.trans h.output, Nat.le_trans h.size k.size, fun x hx hS => (k.block x (Nat.lt_of_lt_of_le hx h.size) hS).trans (h.block x hx hS)⟩
theorem Touch.mono {S T : Nat → Prop} {a b : World} (h : Touch S a b) (hST : ∀ x, x < a.heap.size → S x → T x) : Touch T a b := ⟨h.os, h.tape, h.output, h.size, fun x hx hT => h.block x hx fun hS => hT (hST x hx hS)⟩
theorem Touch.drewN {S : Nat → Prop} {a b : World} (h : Touch S a b) (q : Nat) : Touch S a (b.drewN q) := ⟨h.os, h.tape, h.output, h.size, h.block⟩
theorem Touch.drew {S : Nat → Prop} {a b : World} (h : Touch S a b) : Touch S a b.drew := ⟨h.os, h.tape, h.output, h.size, h.block⟩
theorem Touch.setCell {S : Nat → Prop} {a b : World} (h : Touch S a b) {p : Addr} (hp : p.block < a.heap.size → S p.block) (u : Value) : Touch S a (b.setCell p u) :=
  ⟨h.os, h.tape, h.output, by simpa [World.setCell] using h.size, fun x hx hS => (Below.heap_setCell b p u x (fun e => hS (e ▸ hp (e ▸ hx)))).trans (h.block x hx hS)⟩
theorem Touch.alloc {S : Nat → Prop} {a b : World} (h : Touch S a b) (o : Obj) : Touch S a (b.alloc o) :=
  ⟨h.os, h.tape, h.output, by simp; have := h.size; omega, fun x hx hS => (Below.heap_alloc b o x (Nat.lt_of_lt_of_le hx h.size)).trans (h.block x hx hS)⟩
theorem Touch.grown {S : Nat → Prop} {a b c : World} (h : Touch S a b) {row : Option Nat} (hg : b.grownBy c row) (hr : ∀ k, row = some k → k < a.heap.size → S k) : Touch S a c :=
  ⟨hg.os.trans h.os, hg.tape.trans h.tape, hg.output.trans h.output, Nat.le_trans h.size hg.size, fun x hx hS => (hg.block x (Nat.lt_of_lt_of_le hx h.size) (fun e => hS (hr x e.symm hx))).trans (h.block x hx hS)⟩
theorem Touch.below {S : Nat → Prop} {a b c : World} (h : Touch S a b) (hb : Below b.heap.size b c) : Touch S a c :=
  ⟨hb.os.trans h.os, hb.tape.trans h.tape, hb.output.trans h.output, Nat.le_trans h.size hb.size, fun x hx hS => (hb.block x (Nat.lt_of_lt_of_le hx h.size)).trans (h.block x hx hS)⟩

/-- The cells ahead of the shift register are as they were. -/
def PortKept (pb : Nat) (w w' : World) : Prop := (∀ j, j < 7 → w'.cell? ⟨pb, j, none⟩ = w.cell? ⟨pb, j, none⟩) ∧ ∀ j, w'.frozen? ⟨pb, j, none⟩ = w.frozen? ⟨pb, j, none⟩

theorem rot_shift (b : List UInt8) (f : Nat) (hf : f < b.length) (c : UInt8) : (b.set f c).drop ((f + 1) % b.length) ++ (b.set f c).take ((f + 1) % b.length) = (b.drop f ++ b.take f).tail ++ [c] := by
  have h1 : b.drop f = b[f] :: b.drop (f + 1) := List.drop_eq_getElem_cons hf
  rw [h1]
  simp only [List.cons_append, List.tail_cons]
  by_cases e : f + 1 = b.length
  · rw [e, Nat.mod_self]
    have h2 : b.drop b.length = [] := List.drop_length
    rw [h2]
    simp only [List.drop_zero, List.take_zero, List.append_nil, List.nil_append]
    apply List.ext_getElem
    · simp; omega
    · intro n h3 h4
      rw [List.getElem_set]
      by_cases en : f = n
      · subst en
        rw [if_pos rfl]
        rw [List.getElem_append_right (by simp; omega)]
        simp
      · rw [if_neg en]
        have : n < f := by simp at h3; omega
        rw [List.getElem_append_left (by simp; omega)]
        simp
  · rw [Nat.mod_eq_of_lt (by omega)]
    rw [List.append_assoc]
    congr 1
    · rw [List.drop_set]
      simp
    · rw [List.take_set]
      rw [List.take_succ_eq_append_getElem hf]
      rw [List.set_append_right _ _ (by simp; omega)]
      have : f - (b.take f).length = 0 := by simp; omega
      rw [this]
      simp
theorem rot_head (b : List UInt8) (f : Nat) (hf : f < b.length) : (b.drop f ++ b.take f).headD 48 = b.getD f 0 := by
  have h1 : b.drop f = b[f] :: b.drop (f + 1) := List.drop_eq_getElem_cons hf
  rw [h1]
  simp [List.getD, hf]

theorem Tryz.shift_mod (f n : Nat) : ((f : Int) + 1) % (n : Int) = (((f + 1) % n : Nat) : Int) := by
  rw [Int.natCast_emod]
  rfl

theorem ShiftAt.shifted {w : World} {pb bb f cap : Nat} {b : List UInt8} (hf : f < b.length) (hb : b.length ≤ 1000) (hcap : b.length ≤ cap) (h7 : w.cell? ⟨pb, 7, none⟩ = some (.slice (some ⟨bb, 0, none⟩) b.length cap))
    (hc8 : w.cell? ⟨pb, 8, none⟩ = some (.int .i64 (f : Int))) (hrow : ByteRow w bb b) (hne : bb ≠ pb) (c : UInt8) (q : Nat) :
    ShiftAt (((w.setCell ⟨bb, f, none⟩ (.int .u8 (c.toNat : Int))).setCell ⟨pb, 8, none⟩ (.int .i64 (((f + 1) % b.length : Nat) : Int))).drewN q) pb bb ((b.drop f ++ b.take f).tail ++ [c]) := by
  have hlen : (b.set f c).length = b.length := List.length_set
  have hset := hrow.set hf c
  have hne2 : ¬ pb = bb := fun e => hne e.symm
  refine ⟨b.set f c, (f + 1) % b.length, cap, ?_, (rot_shift b f hf c).symm, by rw [hlen]; exact hb, by rw [hlen]; exact hcap, ?_, ?_, ?_⟩
  · rw [hlen]
    exact Nat.mod_lt _ (by omega)
  · rw [World.cell?_drewN, World.cell?_setCell_other _ _ _ _ (by simp), World.cell?_setCell_other _ _ _ _ (by simp; try omega), hlen]
    exact h7
  · rw [World.cell?_drewN]
    have hold : (w.setCell ⟨bb, f, none⟩ (.int .u8 (c.toNat : Int))).cell? ⟨pb, 8, none⟩ = some (.int .i64 (f : Int)) := by
      rw [World.cell?_setCell_other _ _ _ _ (by simp; try omega)]
      exact hc8
    exact World.cell?_setCell_same _ _ _ hold
  · refine ⟨fun j hj => ?_, fun j hj => ?_⟩
    · rw [World.cell?_drewN, World.cell?_setCell_other _ _ _ _ (by simp; try omega)]
      exact hset.cell j hj
    · rw [World.frozen?_drewN, World.frozen?_setCell]
      exact hset.free j hj

set_option maxRecDepth 100000 in
/-- shift: a bit in, a bit out. -/
theorem shiftR_any (w : World) (pb bb : Nat) (l : List UInt8) (c : UInt8) (h : ShiftAt w pb bb l) (hne : bb ≠ pb) (h8 : w.frozen? ⟨pb, 8, none⟩ = false) :
    Calls Tryz.prog 117 #[.pointer (some ⟨pb, 7, none⟩), .int .u8 (c.toNat : Int)] w fun e w' => e = .returned (.int .u8 ((l.headD 48).toNat : Int)) ∧ ShiftAt w' pb bb (l.tail ++ [c]) ∧ ∃ (f : Nat) (u v : Value) (q : Nat), w' = ((w.setCell ⟨bb, f, none⟩ u).setCell ⟨pb, 8, none⟩ v).drewN q := by
  obtain ⟨b, f, cap, hf, rfl, hb, hcap, h7, hc8, hrow⟩ := h
  have hrd := hrow.cell f hf
  have hfr := hrow.free f hf
  have hhead := Lib.hid (rot_head b f hf)
  have hfin := fun q => ShiftAt.shifted hf hb hcap h7 hc8 hrow hne c q
  clear hrow
  have hf0 : (0 : Int) ≤ (f : Int) := by omega
  have hf1 : (f : Int) < (b.length : Int) := by omega
  have hb0 : (1 : Int) ≤ (b.length : Int) := by omega
  have hb1 : (b.length : Int) ≤ 1000 := by omega
  have hm := Lib.hid (Tryz.shift_mod f b.length)
  have hz : ((b.length : Int) == 0) = false := by simpa using (by omega : b.length ≠ 0)
  obtain ⟨hv, hHV⟩ : ∃ hv, hv = b.getD f 0 := ⟨_, rfl⟩
  rw [← hHV] at hrd hhead
  clear hHV
  have hne2 : ¬ pb = bb := fun e => hne e.symm
  have hF := Lib.hid hfin
  clear hfin
  go_enter Tryz.func117, Tryz.ntmps117
  go_wp2_with fail
  go_quiet (fail)
  go_wp2_with fail
  go_region
  go_wp2_with fail
  go_region
  go_wp2_with fail
  go_ret
  rw [hm.out, hhead.out]
  exact ⟨rfl, hF.out (nq + 2), f, _, _, nq + 2, rfl⟩

theorem shiftR_port (w : World) (pb bb : Nat) (l : List UInt8) (c : UInt8) (h : ShiftAt w pb bb l) (hne : bb ≠ pb) (h8 : w.frozen? ⟨pb, 8, none⟩ = false) :
    Calls Tryz.prog 117 #[.pointer (some ⟨pb, 7, none⟩), .int .u8 (c.toNat : Int)] w fun e w' => e = .returned (.int .u8 ((l.headD 48).toNat : Int)) ∧ ShiftAt w' pb bb (l.tail ++ [c]) ∧ PortKept pb w w' ∧ Touch (fun b => b = pb ∨ b = bb) w w' := by
  refine (shiftR_any w pb bb l c h hne h8).mono ?_
  rintro e w' ⟨he, hS, f, u, v, q, rfl⟩
  refine ⟨he, hS, ⟨fun j hj => ?_, fun j => ?_⟩, (((Touch.refl _ w).setCell (fun _ => .inr rfl) u).setCell (fun _ => .inl rfl) v).drewN q⟩
  · rw [World.cell?_drewN, World.cell?_setCell_other _ _ _ _ (by simp; try omega), World.cell?_setCell_other _ _ _ _ (by simp; try omega)]
  · rw [World.frozen?_drewN, World.frozen?_setCell, World.frozen?_setCell]

theorem bytes_conv2 (s : ByteArray) (w : World) : ∃ (cap : Nat) (C : Array Value), (convert 9 95 (.string s)).run Tryz.prog w = .ok (.slice (some ⟨w.heap.size, 0, none⟩) s.size cap) (w.drew.alloc (.cells C 5 (C.size, C.size + 1))) ∧
    (∀ k (h : k < s.size), C[k]? = some (.int .u8 (s[k].toNat : Int))) ∧ s.size ≤ cap := by
  refine ⟨_, _, run_bytes_of_string w 9 95 5 s Tryz.underlying9 Tryz.underlying95 Tryz.underlying5, fun k h => ?_, grownCap_ge _ _ _ _⟩
  unfold bytesRow
  rw [Array.getElem?_append_left (by simpa using h)]
  have h' : k < s.data.size := h
  rw [Array.getElem?_map, Array.getElem?_eq_getElem h']
  rfl

set_option maxRecDepth 100000 in
/-- load: the bits lie in a new block. -/
theorem load_any (w : World) (pb : Nat) (s : ByteArray) (hs1 : 1 ≤ s.size) (hs2 : s.size ≤ 1000) (v7 v8 : Value) (hpb : pb < w.heap.size) (h7 : w.cell? ⟨pb, 7, none⟩ = some v7) (h8 : w.cell? ⟨pb, 8, none⟩ = some v8) (f7 : w.frozen? ⟨pb, 7, none⟩ = false) (f8 : w.frozen? ⟨pb, 8, none⟩ = false) :
    Calls Tryz.prog 61 #[.pointer (some ⟨pb, 7, none⟩), .string s] w fun e w' => e = .returned (.tuple #[]) ∧ ShiftAt w' pb w.heap.size s.data.toList ∧ PortKept pb w w' ∧ Touch (fun b => b = pb) w w' ∧ w.heap.size < w'.heap.size := by
  obtain ⟨cap, C, hconv, hC, hcap⟩ := bytes_conv2 s w
  go_enter Tryz.func61, Tryz.ntmps61
  go_wp2_with fail
  go_end0
  have hl := hC
  have hsz : s.data.toList.length = s.size := by simp
  have hcell : ∀ j, j < s.size → C[j]? = some (.int .u8 ((s.data.toList.getD j 0).toNat : Int)) := fun j hj => by
    rw [hC j hj]
    have : s.data.toList.getD j 0 = s[j] := by
      have h2 : j < s.data.size := hj
      rw [List.getD_eq_getElem?_getD, Array.getElem?_toList, Array.getElem?_eq_getElem h2]
      rfl
    rw [this]
  have hlt : ∀ j, j < s.size → j < C.size := fun j hj => by
    have := (Array.getElem?_eq_some_iff.1 (hcell j hj)).1
    exact this
  obtain ⟨W, hW⟩ : ∃ W, W = (w.setCell ⟨pb, 7, none⟩ (.slice (some ⟨w.heap.size, 0, none⟩) s.size cap)).setCell ⟨pb, 8, none⟩ (.int .i64 0) := ⟨_, rfl⟩
  have hWsz : W.heap.size = w.heap.size := by rw [hW]; simp [World.setCell]
  have hne : ¬ pb = w.heap.size := by omega
  have hT : Touch (fun b => b = pb) w W := by
    rw [hW]
    have h1 : Touch (fun b => b = pb) w (w.setCell ⟨pb, 7, none⟩ (.slice (some ⟨w.heap.size, 0, none⟩) s.size cap)) := Touch.setCell (S := fun b => b = pb) (p := ⟨pb, 7, none⟩) (Touch.refl _ w) (fun _ => rfl) _
    exact Touch.setCell (S := fun b => b = pb) (p := ⟨pb, 8, none⟩) h1 (fun _ => rfl) _
  rw [← hW]
  have hrow : ByteRow (W.alloc (.cells C 5 (C.size, C.size + 1))).drew w.heap.size s.data.toList := by
    rw [← hWsz]
    refine ⟨fun j hj => ?_, fun j hj => ?_⟩
    · rw [hsz] at hj
      exact cell_bytes W C 5 (C.size, C.size + 1) (hcell j hj)
    · rw [hsz] at hj
      have e : (W.alloc (.cells C 5 (C.size, C.size + 1))).heap[W.heap.size]? = some (.cells C 5 (C.size, C.size + 1)) := heap_alloc_new W _
      have := hlt j hj
      show (W.alloc (.cells C 5 (C.size, C.size + 1))).frozen? _ = false
      unfold World.frozen?
      simp only [e]
      simp
      omega
  have hcw : ∀ j, (W.alloc (.cells C 5 (C.size, C.size + 1))).drew.cell? ⟨pb, j, none⟩ = W.cell? ⟨pb, j, none⟩ := fun j => World.cell?_alloc_lt _ _ _ (by show pb < W.heap.size; omega)
  have h70 : (w.setCell ⟨pb, 7, none⟩ (.slice (some ⟨w.heap.size, 0, none⟩) s.size cap)).cell? ⟨pb, 7, none⟩ = some (.slice (some ⟨w.heap.size, 0, none⟩) s.size cap) := World.cell?_setCell_same _ _ _ h7
  have h80 : (w.setCell ⟨pb, 7, none⟩ (.slice (some ⟨w.heap.size, 0, none⟩) s.size cap)).cell? ⟨pb, 8, none⟩ = some v8 := by
    rw [World.cell?_setCell_other _ _ _ _ (by simp)]
    exact h8
  refine ⟨rfl, ⟨s.data.toList, 0, cap, by omega, by simp, by omega, ?_, ?_, ?_, hrow⟩, ⟨fun j hj => ?_, fun j => ?_⟩, ?_, ?_⟩
  · rw [hsz]
    exact hcap
  · rw [hcw, hW, World.cell?_setCell_other _ _ _ _ (by simp), h70, hsz]
  · rw [hcw, hW]
    exact World.cell?_setCell_same _ _ _ h80
  · rw [hcw, hW, World.cell?_setCell_other _ _ _ _ (by simp; try omega), World.cell?_setCell_other _ _ _ _ (by simp; try omega)]
  · show (W.alloc (.cells C 5 (C.size, C.size + 1))).frozen? _ = _
    rw [World.frozen?_of_block (a := ⟨pb, j, none⟩) (Below.heap_alloc W _ pb (by omega)), hW, World.frozen?_setCell, World.frozen?_setCell]
  · exact (hT.alloc _).drew
  · show w.heap.size < (W.alloc (.cells C 5 (C.size, C.size + 1))).heap.size
    simp
    omega

set_option maxRecDepth 100000 in
/-- content. -/
theorem content_any (w : World) (pb bb : Nat) (l : List UInt8) (h : ShiftAt w pb bb l) :
    Calls Tryz.prog 140 #[.pointer (some ⟨pb, 7, none⟩)] w fun e w' => e = .returned (.string ⟨l.toArray⟩) ∧ ∃ q, w' = w.drewN q := by
  obtain ⟨b, f, cap, hf, rfl, hb, hcap, h7, hc8, hrow⟩ := h
  have hf0 : (0 : Int) ≤ (f : Int) := by omega
  have hf1 : (f : Int) ≤ (b.length : Int) := by omega
  have hf2 : (b.length : Int) ≤ (cap : Int) := by omega
  have hf3 : (f : Int) ≤ (cap : Int) := by omega
  have hcf : ¬ cap = f := by omega
  have hc1 : ∀ n : Nat, (convert 95 9 (.slice (some ⟨bb, f, none⟩) (b.length - f) (cap - f))).run Tryz.prog (w.drewN n) = .ok (.string ⟨(b.drop f).toArray⟩) (w.drewN n) := by
    intro n
    have := run_convert_bytes_back (P := Tryz.prog) (w.drewN n) 95 9 5 ⟨bb, f, none⟩ (cap - f) (b.drop f) Tryz.underlying95 Tryz.underlying5 Tryz.underlying9 (fun j hj => by
      have hj2 : f + j < b.length := by simp at hj; omega
      have := (hrow.block (w' := w.drewN n) rfl).cell (f + j) hj2
      rw [add_cell]
      rw [this]
      simp [List.getD, hj2])
    rw [List.length_drop] at this
    exact this
  have hc2 : ∀ n : Nat, (convert 95 9 (.slice (some ⟨bb, 0, none⟩) f cap)).run Tryz.prog (w.drewN n) = .ok (.string ⟨(b.take f).toArray⟩) (w.drewN n) := by
    intro n
    have := run_convert_bytes_back (P := Tryz.prog) (w.drewN n) 95 9 5 ⟨bb, 0, none⟩ cap (b.take f) Tryz.underlying95 Tryz.underlying5 Tryz.underlying9 (fun j hj => by
      have hj1 : j < f := by simp at hj; omega
      have hj2 : j < b.length := by omega
      have := (hrow.block (w' := w.drewN n) rfl).cell j hj2
      rw [add_cell, Nat.zero_add]
      rw [this]
      simp [List.getD, hj2])
    rw [List.length_take, Nat.min_eq_left (by omega)] at this
    exact this
  have hsz1 : (⟨(b.drop f).toArray⟩ : ByteArray).size = b.length - f := by
    show (b.drop f).toArray.size = _
    simp
  have hsz2 : (⟨(b.take f).toArray⟩ : ByteArray).size = f := by
    show (b.take f).toArray.size = _
    simp
    omega
  have hcat : ¬ 9223372036854775807 < (⟨(b.drop f).toArray⟩ : ByteArray).size + (⟨(b.take f).toArray⟩ : ByteArray).size := by rw [hsz1, hsz2]; omega
  have hcats : (⟨(b.drop f).toArray⟩ : ByteArray) ++ (⟨(b.take f).toArray⟩ : ByteArray) = ⟨(b.drop f ++ b.take f).toArray⟩ := by
    apply ByteArray.ext
    rw [ByteArray.data_append]
    simp
  have HC := Lib.hid hcats
  clear hsz1 hsz2 hcats hrow
  generalize (⟨(b.drop f).toArray⟩ : ByteArray) = x1 at hc1 hcat HC
  generalize (⟨(b.take f).toArray⟩ : ByteArray) = x2 at hc2 hcat HC
  go_enter Tryz.func140, Tryz.ntmps140
  go_wp2_with fail
  go_quiet (fail)
  go_wp2_with fail
  go_ret
  rw [HC.out]
  exact ⟨rfl, _, rfl⟩
end Go.Proofs.YtkipkkaloiefpaaGreatDoor
