/- The program's methods of a chain: Clock, State, Instruction, Output, SetInput. -/
import Derived.Test.YtkipkkaloiefpaaGreatDoorM11
import Derived.Test.YtkipkkaloiefpaaGreatDoorPath
import Derived.Laws.MakeOwn
namespace Go.Proofs.YtkipkkaloiefpaaGreatDoor
open Go.RowKit Go.Maps

section
variable {q : Tw} {B x N : Nat} {w : World} {s1 s2 : Nat} {p1 p2 : Nat → PS}

theorem two_step (h : Two q B x N w s1 s2 p1 p2) (t c : UInt8) (ht : bitB t = true) (hc : bitB c = true) (hN : N < 700000) :
    Calls Tryz.prog 30 #[.pointer (some ⟨q.cb, 0, none⟩), .int .u8 (t.toNat : Int), .int .u8 (c.toNat : Int)] w fun e w' => e = .returned (.int .u8 ((outS q.r.n s1 c p1).toNat : Int)) ∧ Two q B x (N + 1) w' (nx s1 t) s2 (stepS q.r.dev s1 c p1) p2 ∧ Below B w w' ∧ w'.heap[x]? = w.heap[x]? := by
  obtain ⟨o, hB, ho, hx, hC, hR, hg, hT, hTB⟩ := h
  have hd := fun k hk => (hR.sure k hk).right
  refine (chainStep_any o q.r.n N w q.cb q.g q.cap q.mb q.pbs s1 q.r.dev p1 hC hg hd (by omega) t c ht hT (by rw [hB _ hTB]; omega)).mono ?_
  rintro e w' ⟨rfl, o', h1, h2, h3⟩
  exact ⟨rfl, Two.chain hB ho hx hR h1 h2 h3 (Nat.le_succ N) (Good.step hg hd hc s1) hT hTB⟩

/-- What comes out, as a byte and as a number. -/
theorem out_cases (h : Two q B x N w s1 s2 p1 p2) (c : UInt8) (hc : bitB c = true) : (outS q.r.n s1 c p1 = 122 ∧ clockV q.r.n s1 c p1 = -1) ∨ (outS q.r.n s1 c p1 = 48 ∧ clockV q.r.n s1 c p1 = 0) ∨ (outS q.r.n s1 c p1 = 49 ∧ clockV q.r.n s1 c p1 = 1) := by
  have hb := carry_bit h.good1 hc q.r.n (Nat.le_refl _)
  unfold outS clockV
  cases hs : shifts s1 with
  | false => exact .inl ⟨rfl, rfl⟩
  | true =>
    have h48 : carry p1 c q.r.n = 48 ∨ carry p1 c q.r.n = 49 := by simpa [bitB] using hb
    rcases h48 with e | e
    · exact .inr (.inl ⟨by rw [if_pos rfl]; exact e, by rw [if_pos rfl, e]; rfl⟩)
    · exact .inr (.inr ⟨by rw [if_pos rfl]; exact e, by rw [if_pos rfl, e]; rfl⟩)

set_option maxHeartbeats 1000000 in
set_option maxRecDepth 100000 in
theorem two_clock (h : Two q B x N w s1 s2 p1 p2) (t c : UInt8) (ht : bitB t = true) (hc : bitB c = true) (hN : N < 700000) :
    Calls Tryz.prog 11 #[.pointer (some ⟨q.cb, 0, none⟩), .int .i64 (bitv t), .int .i64 (bitv c)] w fun e w' => e = .returned (.tuple #[.int .i64 (clockV q.r.n s1 c p1), .int .i64 0]) ∧ Two q B x (N + 1) w' (nx s1 t) s2 (stepS q.r.dev s1 c p1) p2 ∧ Below B w w' := by
  have hs := two_step h t c ht hc hN
  have ho := out_cases h c hc
  have hb1 : ∀ W, Calls Tryz.prog 29 #[.int .i64 0] W fun e w' => e = .returned (.bool true) ∧ W = w' := fun W => isBit_any 0 W
  have hb2 : ∀ W, Calls Tryz.prog 29 #[.int .i64 1] W fun e w' => e = .returned (.bool true) ∧ W = w' := fun W => isBit_any 1 W
  generalize outS q.r.n s1 c p1 = co at hs ho
  generalize clockV q.r.n s1 c p1 = V at ho
  clear h
  have h1 : t = 48 ∨ t = 49 := by simpa [bitB] using ht
  have h2 : c = 48 ∨ c = 49 := by simpa [bitB] using hc
  rcases h1 with rfl | rfl <;> rcases h2 with rfl | rfl
  · change Calls _ _ #[_, .int .i64 0, .int .i64 0] _ _
    change Calls _ _ #[_, .int .u8 48, .int .u8 48] _ _ at hs
    clear ht hc
    rcases ho with ⟨rfl, rfl⟩ | ⟨rfl, rfl⟩ | ⟨rfl, rfl⟩
    all_goals
      go_enter Tryz.func11, Tryz.ntmps11
      go_wp2_with fail
      refine (hb1 _).mono ?_
      rintro e w' ⟨rfl, rfl⟩
      go_wp2_with fail
      refine (hb1 _).mono ?_
      rintro e w' ⟨rfl, rfl⟩
      go_wp2_with fail
      refine hs.mono ?_
      rintro e w' ⟨rfl, hT, hB, hx⟩
      have HT := Lib.hid (⟨hT, hB⟩ : _ ∧ _)
      clear hT hB hx
      go_wp2_with fail
      go_ret2
      exact ⟨rfl, HT.out⟩
  · change Calls _ _ #[_, .int .i64 0, .int .i64 1] _ _
    change Calls _ _ #[_, .int .u8 48, .int .u8 49] _ _ at hs
    clear ht hc
    rcases ho with ⟨rfl, rfl⟩ | ⟨rfl, rfl⟩ | ⟨rfl, rfl⟩
    all_goals
      go_enter Tryz.func11, Tryz.ntmps11
      go_wp2_with fail
      refine (hb1 _).mono ?_
      rintro e w' ⟨rfl, rfl⟩
      go_wp2_with fail
      refine (hb2 _).mono ?_
      rintro e w' ⟨rfl, rfl⟩
      go_wp2_with fail
      refine hs.mono ?_
      rintro e w' ⟨rfl, hT, hB, hx⟩
      have HT := Lib.hid (⟨hT, hB⟩ : _ ∧ _)
      clear hT hB hx
      go_wp2_with fail
      go_ret2
      exact ⟨rfl, HT.out⟩
  · change Calls _ _ #[_, .int .i64 1, .int .i64 0] _ _
    change Calls _ _ #[_, .int .u8 49, .int .u8 48] _ _ at hs
    clear ht hc
    rcases ho with ⟨rfl, rfl⟩ | ⟨rfl, rfl⟩ | ⟨rfl, rfl⟩
    all_goals
      go_enter Tryz.func11, Tryz.ntmps11
      go_wp2_with fail
      refine (hb2 _).mono ?_
      rintro e w' ⟨rfl, rfl⟩
      go_wp2_with fail
      refine (hb1 _).mono ?_
      rintro e w' ⟨rfl, rfl⟩
      go_wp2_with fail
      refine hs.mono ?_
      rintro e w' ⟨rfl, hT, hB, hx⟩
      have HT := Lib.hid (⟨hT, hB⟩ : _ ∧ _)
      clear hT hB hx
      go_wp2_with fail
      go_ret2
      exact ⟨rfl, HT.out⟩
  · change Calls _ _ #[_, .int .i64 1, .int .i64 1] _ _
    change Calls _ _ #[_, .int .u8 49, .int .u8 49] _ _ at hs
    clear ht hc
    rcases ho with ⟨rfl, rfl⟩ | ⟨rfl, rfl⟩ | ⟨rfl, rfl⟩
    all_goals
      go_enter Tryz.func11, Tryz.ntmps11
      go_wp2_with fail
      refine (hb2 _).mono ?_
      rintro e w' ⟨rfl, rfl⟩
      go_wp2_with fail
      refine (hb2 _).mono ?_
      rintro e w' ⟨rfl, rfl⟩
      go_wp2_with fail
      refine hs.mono ?_
      rintro e w' ⟨rfl, hT, hB, hx⟩
      have HT := Lib.hid (⟨hT, hB⟩ : _ ∧ _)
      clear hT hB hx
      go_wp2_with fail
      go_ret2
      exact ⟨rfl, HT.out⟩

set_option maxRecDepth 100000 in
/-- Clock, of what are no bits. -/
theorem clock_no (cb : Nat) (z y : Int) (w : World) (h : (inB z 0 1 && inB y 0 1) = false) :
    Calls Tryz.prog 11 #[.pointer (some ⟨cb, 0, none⟩), .int .i64 z, .int .i64 y] w fun e w' => e = .returned (.tuple #[.int .i64 0, .int .i64 1]) ∧ w = w' := by
  have h1 := fun W => isBit_any z W
  have h2 := fun W => isBit_any y W
  cases hz : inB z 0 1 with
  | false =>
    rw [hz] at h1
    clear h h2 hz
    go_enter Tryz.func11, Tryz.ntmps11
    go_wp2_with ((with_reducible refine (h1 _).mono ?_); rintro e w' ⟨rfl, rfl⟩)
    go_ret2
    exact ⟨rfl, rfl⟩
  | true =>
    rw [hz] at h h1
    have hy : inB y 0 1 = false := h
    rw [hy] at h2
    clear h hz hy
    go_enter Tryz.func11, Tryz.ntmps11
    go_wp2_with fail
    refine (h1 _).mono ?_
    rintro e w' ⟨rfl, rfl⟩
    clear h1
    go_wp2_with fail
    refine (h2 _).mono ?_
    rintro e w' ⟨rfl, rfl⟩
    go_wp2_with fail
    go_ret2
    exact ⟨rfl, rfl⟩

set_option maxRecDepth 100000 in
theorem chainState_any (h : Two q B x N w s1 s2 p1 p2) :
    Calls Tryz.prog 14 #[.pointer (some ⟨q.cb, 0, none⟩)] w fun e w' => e = .returned (.int .i64 (s1 : Int)) ∧ w = w' := by
  obtain ⟨o, hB, ho, hx, hC, hR, hg, hT, hTB⟩ := h
  have c0 := hC.c0
  clear hB ho hx hC hR hg hT hTB
  go_enter Tryz.func14, Tryz.ntmps14
  go_wp2_with fail
  go_ret
  exact ⟨rfl, rfl⟩

theorem Tryz.zeroPtr (w : World) : (zeroValue 63).run Tryz.prog w = .ok (.pointer none) w := by kernel_rfl
/-- The look-up of a device's port. -/
theorem Two.look (h : Two q B x N w s1 s2 p1 p2) (dv : ByteArray) (hz : dv.size ≤ 1048576) :
    (devIx q.r.name dv q.r.n = none → (Instr.lookup 59 (.map (some q.mb)) (.string dv) true).run Tryz.prog w = .ok (.tuple #[.pointer none, .bool false]) w) ∧
    (∀ k, devIx q.r.name dv q.r.n = some k → (Instr.lookup 59 (.map (some q.mb)) (.string dv) true).run Tryz.prog w = .ok (.tuple #[.pointer (some ⟨q.pbs k, 0, none⟩), .bool true]) w ∧ (Instr.lookup 59 (.map (some q.mb)) (.string dv) false).run Tryz.prog w = .ok (.pointer (some ⟨q.pbs k, 0, none⟩)) w) := by
  obtain ⟨o, hB, ho, hx, hC, hR, hg, hT, hTB⟩ := h
  have hkey : keyOf Tryz.prog 9 (.string dv) = some (.string dv.data.toList) := WideMaps.keyOf_string_mk Tryz.underlying9 (s := dv) (by unfold maxLen; omega)
  have hl := hC.map2.look_ok (string_keyed Tryz.underlying9) Tryz.underlying59 ptrV ptrR_ptrV (.bool false) (Tryz.zeroPtr w) rfl _ _ hkey
  have hl2 := hC.map2.look (string_keyed Tryz.underlying9) Tryz.underlying59 ptrV ptrR_ptrV (.bool false) (Tryz.zeroPtr w) rfl _ _ hkey
  rw [byM_at] at hl hl2
  refine ⟨fun e => ?_, fun k e => ?_⟩
  · rw [show devIx (fun k => (q.r.dev k).name) dv q.r.n = none from e] at hl
    exact hl
  · rw [show devIx (fun k => (q.r.dev k).name) dv q.r.n = some k from e] at hl hl2
    exact ⟨hl, hl2⟩

set_option maxRecDepth 100000 in
theorem instruction_any (h : Two q B x N w s1 s2 p1 p2) (dv : ByteArray) (hz : dv.size ≤ 1048576) :
    Calls Tryz.prog 35 #[.pointer (some ⟨q.cb, 0, none⟩), .string dv] w fun e w' => e = .returned (.tuple #[.string (bs ((codeQ q.r p1 dv).getD [])), .int .i64 (if (codeQ q.r p1 dv).isSome = true then 0 else 8)]) ∧ w = w' := by
  obtain ⟨h1, h2⟩ := h.look dv hz
  obtain ⟨o, hB, ho, hx, hC, hR, hg, hT, hTB⟩ := h
  have c2 := hC.c2
  unfold codeQ
  cases hd : devIx q.r.name dv q.r.n with
  | none =>
    have hl := h1 hd
    clear h1 h2 hd hB ho hx hC hR hg hT hTB
    go_enter Tryz.func35, Tryz.ntmps35
    go_wp2_with fail
    go_ret2
    exact ⟨rfl, rfl⟩
  | some k =>
    obtain ⟨hl, _⟩ := h2 k hd
    obtain ⟨m1, m3, m4, bb, hP⟩ := hC.ports k (devIx_some _ hd).1
    have c5 := hP.c5
    show Calls _ _ _ _ fun e w' => e = .returned (.tuple #[.string (bs (p1 k).code), .int .i64 0]) ∧ w = w'
    clear h1 h2 hd hB ho hx hC hR hg hT hTB hP
    go_enter Tryz.func35, Tryz.ntmps35
    go_wp2_with fail
    go_ret2
    exact ⟨rfl, rfl⟩

set_option maxRecDepth 100000 in
theorem output_any (h : Two q B x N w s1 s2 p1 p2) (hL : LenAll q.r s1 p1) (dv rg : ByteArray) (hz : dv.size ≤ 1048576) (hz2 : rg.size ≤ 1048576) :
    Calls Tryz.prog 38 #[.pointer (some ⟨q.cb, 0, none⟩), .string dv, .string rg] w fun e w' => e = .returned (.tuple #[.string (bs (strOf (outQ q.r p1 dv rg))), .int .i64 (if (outQ q.r p1 dv rg).isSome = true then 0 else 8)]) ∧ w = w' := by
  obtain ⟨h1, h2⟩ := h.look dv hz
  obtain ⟨o, hB, ho, hx, hC, hR, hg, hT, hTB⟩ := h
  have c2 := hC.c2
  unfold outQ
  cases hd : devIx q.r.name dv q.r.n with
  | none =>
    have hl := h1 hd
    clear h1 h2 hd hB ho hx hC hR hg hT hTB hL
    go_enter Tryz.func38, Tryz.ntmps38
    go_wp2_with fail
    go_ret2
    exact ⟨rfl, rfl⟩
  | some k =>
    obtain ⟨hl, _⟩ := h2 k hd
    have hk := (devIx_some _ hd).1
    obtain ⟨m1, m3, m4, bb, hP⟩ := hC.ports k hk
    have c4 := hP.c4
    have hlk := hP.map4.look_ok Tryz.underlying9 Tryz.underlying107 (.string []) (Tryz.zeroStr w) (plain_str ⟨#[]⟩ (by decide)) rg hz2
    show Calls _ _ _ _ fun e w' => e = .returned (.tuple #[.string (bs (strOf ((p1 k).out rg.data.toList))), .int .i64 (if ((p1 k).out rg.data.toList).isSome = true then 0 else 8)]) ∧ w = w'
    cases ho2 : (p1 k).out rg.data.toList with
    | none =>
      rw [ho2] at hlk
      change _ = Result.ok (Value.tuple #[.string ⟨#[]⟩, .bool false]) w at hlk
      clear h1 h2 hd hB ho hx hC hR hg hT hTB hP hL ho2
      go_enter Tryz.func38, Tryz.ntmps38
      go_wp2_with fail
      go_ret2
      exact ⟨rfl, rfl⟩
    | some v =>
      obtain ⟨l, rfl⟩ := (hL k hk).str _ _ ho2
      rw [ho2] at hlk
      change _ = Result.ok (Value.tuple #[.string ⟨l.toArray⟩, .bool true]) w at hlk
      clear h1 h2 hd hB ho hx hC hR hg hT hTB hP hL ho2
      go_enter Tryz.func38, Tryz.ntmps38
      go_wp2_with fail
      go_ret2
      exact ⟨rfl, rfl⟩
end
end Go.Proofs.YtkipkkaloiefpaaGreatDoor
/- The program's shifts: follow, shiftIn, ShiftIR, ShiftDR. -/
namespace Go.Proofs.YtkipkkaloiefpaaGreatDoor
open Go.RowKit Go.Maps

/-- A sequence of clocks under way. -/
def FolI (q : Tw) (B x N : Nat) (w : World) (s1 s2 : Nat) (p1 p2 : Nat → PS) (tm : List UInt8) (k : Nat) (wr : World) : Prop :=
  Two q B x (N + k) wr (fol q.r.dev (s1, p1) (tm.take k)).1 s2 (fol q.r.dev (s1, p1) (tm.take k)).2 p2 ∧ Below B w wr ∧ wr.heap[x]? = w.heap[x]?

section
variable {q : Tw} {B x N : Nat} {w : World} {s1 s2 : Nat} {p1 p2 : Nat → PS}

theorem FolI.step {tm : ByteArray} {k : Nat} {wr : World} (h : FolI q B x N w s1 s2 p1 p2 tm.data.toList k wr) (hk : k < tm.size) (hb : tm.data.toList.all bitB = true) (hN : N + k < 700000) :
    Calls Tryz.prog 30 #[.pointer (some ⟨q.cb, 0, none⟩), .int .u8 (tm[k].toNat : Int), .int .u8 48] wr fun e w' => (∃ z : Int, e = .returned (.int .u8 z)) ∧ FolI q B x N w s1 s2 p1 p2 tm.data.toList (k + 1) w' := by
  obtain ⟨h1, h2, h3⟩ := h
  refine (two_step h1 tm[k] 48 (bit_at tm k hk hb) rfl hN).mono ?_
  rintro e w' ⟨rfl, g1, g2, g3⟩
  refine ⟨⟨_, rfl⟩, ?_, h2.trans g2, g3.trans h3⟩
  rw [take_snoc _ _ hk, fol_snoc]
  exact g1

set_option maxRecDepth 100000 in
theorem follow_any (h : Two q B x N w s1 s2 p1 p2) (tm : ByteArray) (hb : tm.data.toList.all bitB = true) (hz : tm.size ≤ 30) (hN : N < 600000) :
    Calls Tryz.prog 121 #[.pointer (some ⟨q.cb, 0, none⟩), .string tm] w fun e w' => e = .returned (.tuple #[]) ∧ Two q B x (N + tm.size) w' (fol q.r.dev (s1, p1) tm.data.toList).1 s2 (fol q.r.dev (s1, p1) tm.data.toList).2 p2 ∧ Below B w w' ∧ w'.heap[x]? = w.heap[x]? := by
  have h0 : FolI q B x N w s1 s2 p1 p2 tm.data.toList 0 w := ⟨h, Below.refl _ _, rfl⟩
  have HB := Lib.hid hb
  clear h hb
  go_enter Tryz.func121, Tryz.ntmps121
  go_wp2_with fail
  go_loopw [4, 7] (fun _ i wr => ∃ k : Nat, k ≤ tm.size ∧ i = .int .i64 (k : Int) ∧ FolI q B x N w s1 s2 p1 p2 tm.data.toList k wr) (fun _ i _ => tm.size - (intOf i).toNat)
  case atStart => exact ⟨0, by omega, rfl, h0⟩
  case round =>
    clear h0
    obtain ⟨k, hk, rfl, hI⟩ := hrel
    by_cases hlt : k < tm.size
    · have hstep := hI.step hlt HB.out (by omega)
      have hki : (0 : Int) ≤ (k : Int) := by omega
      have hki2 : (k : Int) < (tm.size : Int) := by omega
      clear hI
      go_wp2_with fail
      refine hstep.mono ?_
      rintro e w' ⟨⟨z, rfl⟩, hI⟩
      have HI := Lib.hid hI
      clear hI hstep
      go_wp2_with fail
      go_roundw
      case rel => exact ⟨k + 1, by omega, by go_num, HI.out⟩
      case measure => simp [intOf]; omega
    · obtain rfl : k = tm.size := by omega
      have HI := Lib.hid hI
      clear hI
      go_wp2_with fail
      go_end0
      obtain ⟨h1, h2, h3⟩ := HI.out
      have e : tm.data.toList.take tm.size = tm.data.toList := List.take_of_length_le (by simp)
      rw [e] at h1
      exact ⟨rfl, h1, h2, h3⟩

/-- What is wrong with bits to be shifted. -/
def shiftErr (st : Nat) (b : ByteArray) : Int := if st ≠ 1 ∧ st ≠ 0 then 11 else if b.size = 0 then 8 else clockErr b

set_option maxHeartbeats 1000000 in
set_option maxRecDepth 100000 in
theorem shiftIn_err (h : Two q B x N w s1 s2 p1 p2) (st : Nat) (b : ByteArray) (hz : b.size ≤ 1000000) (he : shiftErr s1 b ≠ 0) :
    Calls Tryz.prog 81 #[.pointer (some ⟨q.cb, 0, none⟩), .int .i64 (st : Int), .string b] w fun e w' => e = .returned (.tuple #[.string ⟨#[]⟩, .int .i64 (shiftErr s1 b)]) ∧ Below w.heap.size w w' := by
  obtain ⟨o, hB, ho, hx, hC, hR, hg, hT, hTB⟩ := h
  have c0 := hC.c0
  clear hB ho hx hC hR hg hT hTB
  by_cases h1 : s1 ≠ 1 ∧ s1 ≠ 0
  · have e : shiftErr s1 b = 11 := if_pos h1
    rw [e]
    have b1 : ((s1 : Int) != 1) = true := by simp; omega
    have b0 : ((s1 : Int) != 0) = true := by simp; omega
    have b1' : ((s1 : Int) == 1) = false := by simp; omega
    have b0' : ((s1 : Int) == 0) = false := by simp; omega
    clear e he h1
    go_enter Tryz.func81, Tryz.ntmps81
    go_wp2_with fail
    go_ret2
    exact ⟨rfl, Below.refl _ _⟩
  · have e : shiftErr s1 b = if b.size = 0 then 8 else clockErr b := if_neg h1
    rw [e] at he ⊢
    have hs : s1 = 1 ∨ s1 = 0 := by omega
    by_cases h2 : b.size = 0
    · rw [if_pos h2]
      have hb1 : (b.toList == []) = true := by rw [ByteArray.toList_eq]; have : b.data.toList.length = 0 := by simp [h2]
                                               rw [List.length_eq_zero_iff.1 this]; rfl
      have hb2 : b = ⟨#[]⟩ := by
        apply ByteArray.ext
        apply Array.ext'
        exact List.length_eq_zero_iff.1 (by simp [h2])
      subst hb2
      clear e he h1 h2 hb1
      rcases hs with rfl | rfl
      · go_enter Tryz.func81, Tryz.ntmps81
        go_wp2_with fail
        go_ret2
        exact ⟨rfl, Below.refl _ _⟩
      · go_enter Tryz.func81, Tryz.ntmps81
        go_wp2_with fail
        go_ret2
        exact ⟨rfl, Below.refl _ _⟩
    · rw [if_neg h2] at he ⊢
      have hcon := fun W => checkClocks_any b W (by omega)
      have hne : (clockErr b != 0) = true := by simpa using he
      have hb1 := not_empty_of_size (s := b) (by omega)
      have hb2 : (b.toList == []) = false := by
        cases hl : b.toList with
        | nil => rw [hl] at hb1; cases hb1
        | cons c l => rfl
      generalize clockErr b = ce at hcon hne ⊢
      clear e he h1 h2
      rcases hs with rfl | rfl
      · go_enter Tryz.func81, Tryz.ntmps81
        go_wp2_with fail
        refine (hcon _).mono ?_
        rintro e w' ⟨rfl, hB⟩
        go_wp2_with fail
        go_ret2
        exact ⟨rfl, hB⟩
      · go_enter Tryz.func81, Tryz.ntmps81
        go_wp2_with fail
        refine (hcon _).mono ?_
        rintro e w' ⟨rfl, hB⟩
        go_wp2_with fail
        go_ret2
        exact ⟨rfl, hB⟩
end

/-- Bits that are shifted, under way: k of them are out. -/
def ShI (q : Tw) (B g N : Nat) (w : World) (s2 : Nat) (p2 : Nat → PS) (x0 : Nat × (Nat → PS)) (b : List UInt8) (j k : Nat) (wr : World) : Prop :=
  Two q B g (N + k) wr (shTo q.r.dev x0 b k).1 s2 (shTo q.r.dev x0 b k).2 p2 ∧ BytesOf wr g b.length (shOut q.r.dev q.r.n x0 b) j ∧ Below B w wr ∧ B ≤ g ∧ q.rb ≠ g ∧ q.gc ≠ g ∧ q.gs ≠ g ∧ q.mi ≠ g ∧ q.mo ≠ g

section
variable {q : Tw} {B g N : Nat} {w : World} {s2 : Nat} {p2 : Nat → PS} {x0 : Nat × (Nat → PS)} {b : ByteArray}

theorem ShI.row {j k : Nat} {wr : World} {b : List UInt8} (h : ShI q B g N w s2 p2 x0 b j k wr) {i : Nat} (hi : i < b.length) : wr.frozen? ⟨g, i, none⟩ = false ∧ ∃ v, wr.cell? ⟨g, i, none⟩ = some v := h.2.1.1 i hi
theorem ShI.step {k : Nat} {wr : World} (h : ShI q B g N w s2 p2 x0 b.data.toList k k wr) (hk : k < b.size) (hx : x0.1 = 4 ∨ x0.1 = 11) (hb : b.data.toList.all bitB = true) (hN : N + k < 700000) (t : UInt8) (ht : t = if k + 1 = b.size then 49 else 48) :
    Calls Tryz.prog 30 #[.pointer (some ⟨q.cb, 0, none⟩), .int .u8 (t.toNat : Int), .int .u8 (b[k].toNat : Int)] wr fun e w' => e = .returned (.int .u8 ((shOut q.r.dev q.r.n x0 b.data.toList k).toNat : Int)) ∧ ShI q B g N w s2 p2 x0 b.data.toList k (k + 1) w' := by
  obtain ⟨h1, h2, h3, h4⟩ := h
  have hl : b.data.toList.length = b.size := by simp
  have htb : bitB t = true := by
    rw [ht]
    split <;> rfl
  have hst := shTo_state q.r.dev x0 b.data.toList hx k (by omega)
  have hsh : shifts (shTo q.r.dev x0 b.data.toList k).1 = true := by
    rw [hst]
    rcases hx with e | e <;> rw [e] <;> rfl
  refine (two_step h1 t b[k] htb (bit_at b k hk hb) hN).mono ?_
  rintro e w' ⟨rfl, g1, g2, g3⟩
  refine ⟨?_, ?_, h2.block g3, h3.trans g2, h4⟩
  · unfold outS shOut
    rw [if_pos hsh, getD_at b k hk]
  · have e2 : shTo q.r.dev x0 b.data.toList (k + 1) = clk q.r.dev (shTo q.r.dev x0 b.data.toList k) t b[k] := by
      show clk _ _ (if k + 1 = b.data.toList.length then 49 else 48) (b.data.toList.getD k 0) = _
      rw [hl, ht, getD_at b k hk]
    rw [e2]
    exact g1
theorem ShI.store {k : Nat} {wr : World} {b : List UInt8} (h : ShI q B g N w s2 p2 x0 b k (k + 1) wr) (hk : k < b.length) : ShI q B g N w s2 p2 x0 b (k + 1) (k + 1) (wr.setCell ⟨g, k, none⟩ (.int .u8 ((shOut q.r.dev q.r.n x0 b k).toNat : Int))) := by
  obtain ⟨h1, h2, h3, h4, h5⟩ := h
  exact ⟨h1.setx h4 h5 _ _, h2.set hk rfl, h3.setCell (by show B ≤ g; exact h4) _, h4, h5⟩
end
end Go.Proofs.YtkipkkaloiefpaaGreatDoor
