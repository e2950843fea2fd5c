/- The program's map of the registers that codes select, and what it selects. -/
import Derived.Test.YtkipkkaloiefpaaGreatDoorCheckIns
namespace Go.Proofs.YtkipkkaloiefpaaGreatDoor
open Go.RowKit Go.Maps

/-- The registers of the first k codes. -/
def codesM (i : Inss) : Nat → List UInt8 → Option Lit
  | 0 => fun _ => none
  | k + 1 => putS (codesM i k) (i.code k).data.toList (.string (i.reg k).data.toList)
/-- The register of a code. -/
def regOf (i : Inss) (c : List UInt8) : List UInt8 :=
  match codesM i i.n c with
  | some (.string l) => l
  | _ => bypassS.data.toList

theorem plain_str (s : ByteArray) (h : s.size ≤ 1048576) : plainElem (H := Unit) Tryz.prog 9 (.string s) = some (.lit (.string s.data.toList), []) := plainElem_string Tryz.underlying9 (by unfold maxLen; omega)

set_option maxRecDepth 100000 in
theorem codeRegisters_any (d : Dev) (p : Plc) (w : World) (h : DevOk w.heap.size w d p) :
    Calls Tryz.prog 59 #[devV d p] w fun e w' => e = .returned (.map (some (w.heap.size + 1))) ∧ StrMap Tryz.prog 9 9 w' (w.heap.size + 1) d.ins.n (codesM d.ins d.ins.n) ∧ Below w.heap.size w w' := by
  obtain ⟨ra, rc, ia, ic⟩ := p
  have hm := h.ins.n_le
  have hI : InsAt w.heap.size w ia d.ins := h.ins
  have hmm := @run_makeMap Tryz.prog
  clear h
  have hm0 := StrMap.made Tryz.prog 9 9 (w.alloc (.cells #[.string d.name, .int .i64 d.long, .int .i64 d.id, .slice ra d.regs.n rc, .slice ia d.ins.n ic] 48))
  have hs1 : ∀ o : Obj, (w.alloc o).heap.size = w.heap.size + 1 := fun o => by simp
  rw [hs1] at hm0
  clear hs1
  go_enter Tryz.func59, Tryz.ntmps59
  go_wp2_with fail
  have hB0 := ((Below.refl w.heap.size w).alloc (Nat.le_refl _) (.cells #[.string d.name, .int .i64 d.long, .int .i64 d.id, .slice ra d.regs.n rc, .slice ia d.ins.n ic] 48)).alloc (by simp) (.map #[] 0)
  go_loopw [5, 10] (fun _ i wr => ∃ k : Nat, k ≤ d.ins.n ∧ i = .int .i64 (k : Int) ∧ StrMap Tryz.prog 9 9 wr (w.heap.size + 1) k (codesM d.ins k) ∧ Below w.heap.size w wr) (fun _ i _ => d.ins.n - (intOf i).toNat)
  case atStart => exact ⟨0, by omega, rfl, hm0, hB0⟩
  case round =>
    obtain ⟨k, hk, rfl, hM, hB⟩ := hrel
    clear hm0 hB0 hmm
    by_cases hlt : k < d.ins.n
    · obtain ⟨b, off, rfl, hbB, hcells⟩ := (hI.below hB (Nat.le_refl _)).cells (by omega)
      obtain ⟨hc1, hc2, hz1, hz2⟩ := hcells k hlt
      have hMlt := hM.lt
      have hMa := hM.alloc (.cells #[.string (d.ins.code k), .string (d.ins.reg k)] 55)
      clear hcells
      go_wp2_with (refine wpList_mapset_str (P := Tryz.prog) (k := 9) (e := 9) rfl (.tmp 14) (.tmp 16) (.tmp 18) 107 rfl Tryz.underlying9 Tryz.underlying107 rfl hMa (by omega) (d.ins.code k) hz1 (.string (d.ins.reg k).data.toList) _ (plain_str _ hz2) rfl rfl ?_)
      intro w2 hm2 hg2
      go_wp2_with fail
      go_roundw
      case rel => exact ⟨k + 1, by omega, by go_num, hm2, (hB.alloc hB.size _).grown hg2 (by simp; omega) (fun k hk => by cases hk; omega)⟩
      case measure => simp [intOf]; omega
    · obtain rfl : k = d.ins.n := by omega
      clear hI
      go_wp2_with fail
      go_ret
      exact ⟨rfl, hM, hB⟩

theorem codesM_string (i : Inss) (c : List UInt8) : ∀ k, codesM i k c = none ∨ ∃ l, codesM i k c = some (.string l) := by
  intro k
  induction k with
  | zero => exact .inl rfl
  | succ k ih =>
    show putS _ _ _ c = none ∨ ∃ l, putS _ _ _ c = some (.string l)
    unfold putS
    by_cases e : c = (i.code k).data.toList
    · rw [if_pos e]
      exact .inr ⟨_, rfl⟩
    · rw [if_neg e]
      exact ih

theorem registerOf_any (i : Inss) (w : World) (b n : Nat) (c : ByteArray) (hc : c.size ≤ 1048576) (h : StrMap Tryz.prog 9 9 w b n (codesM i i.n)) :
    Calls Tryz.prog 141 #[.map (some b), .string c] w fun e w' => e = .returned (.string ⟨(regOf i c.data.toList).toArray⟩) ∧ w = w' := by
  have hl := h.look_ok Tryz.underlying9 Tryz.underlying107 (.string []) (Tryz.zeroStr w) (plain_str ⟨#[]⟩ (by decide)) c hc
  rcases codesM_string i c.data.toList i.n with hn | ⟨l, hn⟩
  · have e : regOf i c.data.toList = bypassS.data.toList := by unfold regOf; rw [hn]
    rw [hn] at hl
    rw [e]
    clear e hn h
    change _ = Result.ok (Value.tuple #[.string ⟨#[]⟩, .bool false]) w at hl
    go_enter Tryz.func141, Tryz.ntmps141
    go_wp2_with fail
    go_ret
    exact ⟨rfl, rfl⟩
  · have e : regOf i c.data.toList = l := by unfold regOf; rw [hn]
    rw [hn] at hl
    rw [e]
    clear e hn h
    change _ = Result.ok (Value.tuple #[.string ⟨l.toArray⟩, .bool true]) w at hl
    go_enter Tryz.func141, Tryz.ntmps141
    go_wp2_with fail
    go_ret
    exact ⟨rfl, rfl⟩
end Go.Proofs.YtkipkkaloiefpaaGreatDoor
