/- The program's map of the lengths of a device's registers. -/
import Derived.Test.YtkipkkaloiefpaaGreatDoorInstrs
namespace Go.Proofs.YtkipkkaloiefpaaGreatDoor
open Go.RowKit Go.Maps

/-- The lengths of the registers that every device has, or can have, by name. -/
def longs0 (d : Dev) : List UInt8 → Option Lit :=
  if (d.id == 0) = true then putS (fun _ => none) bypassS.data.toList (.int .i64 1) else putS (putS (fun _ => none) bypassS.data.toList (.int .i64 1)) idcodeS.data.toList (.int .i64 32)
/-- .. and of the first k of its own. -/
def longsM (d : Dev) : Nat → List UInt8 → Option Lit
  | 0 => longs0 d
  | k + 1 => putS (longsM d k) (d.regs.name k).data.toList (.int .i64 (d.regs.long k))

theorem longsM_some (d : Dev) (s : ByteArray) : (longsM d d.regs.n s.data.toList).isSome = knownB d s := by
  have h : ∀ k, (longsM d k s.data.toList).isSome = (((s.toList == bypassS.toList) || ((s.toList == idcodeS.toList) && !(d.id == 0))) || hasName d.regs.name s k) := by
    intro k
    induction k with
    | zero =>
      show (longs0 d s.data.toList).isSome = _
      unfold longs0 hasName
      rw [ByteArray.toList_eq, ByteArray.toList_eq, ByteArray.toList_eq]
      generalize bypassS.data.toList = p1
      generalize idcodeS.data.toList = p2
      cases hz : (d.id == 0) with
      | true =>
        rw [if_pos rfl]
        unfold putS
        by_cases e1 : s.data.toList = p1
        · simp [e1]
        · simp [e1]
      | false =>
        rw [if_neg (by decide)]
        unfold putS
        by_cases e2 : s.data.toList = p2
        · simp [e2]
        · by_cases e1 : s.data.toList = p1
          · rw [if_neg e2, if_pos e1, e1]
            simp
          · rw [if_neg e2, if_neg e1]
            simp [e1, e2]
    | succ k ih =>
      show (putS (longsM d k) (d.regs.name k).data.toList (.int .i64 (d.regs.long k)) s.data.toList).isSome = _
      have e2 : hasName d.regs.name s (k + 1) = (hasName d.regs.name s k || ((d.regs.name k).data.toList == s.data.toList)) := by
        rw [← ByteArray.toList_eq, ← ByteArray.toList_eq]
        rfl
      rw [e2]
      unfold putS
      by_cases e : s.data.toList = (d.regs.name k).data.toList
      · rw [if_pos e, e]
        simp
      · rw [if_neg e, ih]
        have : ((d.regs.name k).data.toList == s.data.toList) = false := by
          rw [beq_eq_false_iff_ne]
          exact fun h => e h.symm
        rw [this]
        simp
  exact h d.regs.n

theorem plain_int {v : Int} (h0 : -1048576 ≤ v) (h1 : v ≤ 1048576) : plainElem (H := Unit) Tryz.prog 3 (.int .i64 v) = some (.lit (.int .i64 v), []) := plainElem_int Tryz.underlying3 (WalkArith.wf_i64 (by omega))

set_option maxRecDepth 100000 in
theorem registerLongs_any (d : Dev) (p : Plc) (w : World) (h : DevOk w.heap.size w d p) (hl : ∀ k, k < d.regs.n → -1048576 ≤ d.regs.long k ∧ d.regs.long k ≤ 1048576) :
    Calls Tryz.prog 132 #[devV d p] w fun e w' => e = .returned (.map (some (w.heap.size + 1))) ∧ StrMap Tryz.prog 9 3 w' (w.heap.size + 1) (2 + d.regs.n) (longsM d d.regs.n) ∧ Below w.heap.size w w' := by
  obtain ⟨ra, rc, ia, ic⟩ := p
  have hn := h.regs.n_le
  have hR : RegsAt w.heap.size w ra d.regs := h.regs
  have hmm := @run_makeMap Tryz.prog
  clear h
  have hm0 := StrMap.made Tryz.prog 9 3 (w.alloc (.cells #[.string d.name, .int .i64 d.long, .int .i64 d.id, .slice ra d.regs.n rc, .slice ia d.ins.n ic] 48))
  have hs1 : ∀ o : Obj, (w.alloc o).heap.size = w.heap.size + 1 := fun o => by simp
  rw [hs1] at hm0
  clear hs1
  cases hz : (d.id == 0) with
  | true =>
    have hzn : (d.id != 0) = false := by rw [bne, hz]; rfl
    have h0 : longsM d 0 = putS (fun _ => none) bypassS.data.toList (.int .i64 1) := by show longs0 d = _; unfold longs0; rw [if_pos hz]
    clear hz
    go_enter Tryz.func132, Tryz.ntmps132
    go_wp2_with (refine wpList_insert_str (P := Tryz.prog) (k := 9) (e := 3) rfl (.tmp 6) (.const (.string bypassS)) (.const (.int .i64 1)) 168 rfl Tryz.underlying9 Tryz.underlying168 rfl hm0 (by decide) bypassS (by decide) (.int .i64 1) _ (plain_int (by decide) (by decide)) rfl rfl ?_)
    intro w1 hm1 hg1
    rw [← h0] at hm1
    have c2 := hg1.cell (a := ⟨w.heap.size, 2, none⟩) (v := .int .i64 d.id) (by rw [World.cell?_alloc_past _ _ _ (by simp)]; exact World.cell?_alloc_at _ _ _ _ rfl) (by simp)
    have c3 := hg1.cell (a := ⟨w.heap.size, 3, none⟩) (v := .slice ra d.regs.n rc) (by rw [World.cell?_alloc_past _ _ _ (by simp)]; exact World.cell?_alloc_at _ _ _ _ rfl) (by simp)
    have hB1 := (((Below.refl w.heap.size w).alloc (Nat.le_refl _) (.cells #[.string d.name, .int .i64 d.long, .int .i64 d.id, .slice ra d.regs.n rc, .slice ia d.ins.n ic] 48)).alloc (by simp) (.map #[] 0)).grown hg1 (by simp; omega) (fun k hk => by cases hk; omega)
    have hz1 := hg1.size
    have hz2 : w.heap.size + 2 ≤ w1.heap.size := by simpa using hz1
    clear hm0 hg1 h0 hz1
    go_wp2_with fail
    clear c2 c3 hmm
    go_loopw [5, 15] (fun _ i wr => ∃ k : Nat, k ≤ d.regs.n ∧ i = .int .i64 (k : Int) ∧ StrMap Tryz.prog 9 3 wr (w.heap.size + 1) (2 + k) (longsM d k) ∧ Below w.heap.size w wr ∧ w.heap.size + 2 ≤ wr.heap.size) (fun _ i _ => d.regs.n - (intOf i).toNat)
    case atStart => exact ⟨0, by omega, rfl, hm1.up (by decide), hB1, hz2⟩
    case round =>
      obtain ⟨k, hk, rfl, hm, hB, hsz⟩ := hrel
      clear hm1 hB1 hz2
      by_cases hlt : k < d.regs.n
      · obtain ⟨b, off, rfl, hbB, hcells⟩ := (hR.below hB (Nat.le_refl _)).cells (by omega)
        obtain ⟨hc1, hc2, hns⟩ := hcells k hlt
        obtain ⟨hl1, hl2⟩ := hl k hlt
        have hma := hm.alloc (.cells #[.string (d.regs.name k), .int .i64 (d.regs.long k)] 50)
        clear hcells hl
        go_wp2_with (refine wpList_mapset_str (P := Tryz.prog) (k := 9) (e := 3) rfl (.tmp 19) (.tmp 21) (.tmp 23) 168 rfl Tryz.underlying9 Tryz.underlying168 rfl hma (by omega) (d.regs.name k) hns (.int .i64 (d.regs.long k)) _ (plain_int hl1 hl2) rfl rfl ?_)
        intro w2 hm2 hg2
        go_wp2_with fail
        go_roundw
        case rel => exact ⟨k + 1, by omega, by go_num, hm2, (hB.alloc hB.size _).grown hg2 (by simp; omega) (fun k hk => by cases hk; omega), by have := hg2.size; simp at this; omega⟩
        case measure => simp [intOf]; omega
      · obtain rfl : k = d.regs.n := by omega
        clear hl hR
        go_wp2_with fail
        go_ret
        exact ⟨rfl, hm, hB⟩
  | false =>
    have hzn : (d.id != 0) = true := by rw [bne, hz]; rfl
    have h0 : longsM d 0 = putS (putS (fun _ => none) bypassS.data.toList (.int .i64 1)) idcodeS.data.toList (.int .i64 32) := by show longs0 d = _; unfold longs0; rw [if_neg (by rw [hz]; decide)]
    clear hz
    go_enter Tryz.func132, Tryz.ntmps132
    go_wp2_with (refine wpList_insert_str (P := Tryz.prog) (k := 9) (e := 3) rfl (.tmp 6) (.const (.string bypassS)) (.const (.int .i64 1)) 168 rfl Tryz.underlying9 Tryz.underlying168 rfl hm0 (by decide) bypassS (by decide) (.int .i64 1) _ (plain_int (by decide) (by decide)) rfl rfl ?_)
    intro w1 hm1 hg1
    have c2 := hg1.cell (a := ⟨w.heap.size, 2, none⟩) (v := .int .i64 d.id) (by rw [World.cell?_alloc_past _ _ _ (by simp)]; exact World.cell?_alloc_at _ _ _ _ rfl) (by simp)
    have c3 := hg1.cell (a := ⟨w.heap.size, 3, none⟩) (v := .slice ra d.regs.n rc) (by rw [World.cell?_alloc_past _ _ _ (by simp)]; exact World.cell?_alloc_at _ _ _ _ rfl) (by simp)
    have hB1 := (((Below.refl w.heap.size w).alloc (Nat.le_refl _) (.cells #[.string d.name, .int .i64 d.long, .int .i64 d.id, .slice ra d.regs.n rc, .slice ia d.ins.n ic] 48)).alloc (by simp) (.map #[] 0)).grown hg1 (by simp; omega) (fun k hk => by cases hk; omega)
    have hz1 := hg1.size
    have hz2 : w.heap.size + 2 ≤ w1.heap.size := by simpa using hz1
    clear hm0 hg1 hz1
    go_wp2_with (refine wpList_mapset_str (P := Tryz.prog) (k := 9) (e := 3) rfl (.tmp 11) (.const (.string idcodeS)) (.const (.int .i64 32)) 168 rfl Tryz.underlying9 Tryz.underlying168 rfl hm1 (by decide) idcodeS (by decide) (.int .i64 32) _ (plain_int (by decide) (by decide)) rfl rfl ?_)
    intro w2 hm2 hg2
    rw [← h0] at hm2
    have c3' := hg2.cell c3 (by simp)
    have hB2 := hB1.grown hg2 (by omega) (fun k hk => by cases hk; omega)
    have hz3 : w.heap.size + 2 ≤ w2.heap.size := Nat.le_trans hz2 hg2.size
    clear c2 c3 hm1 hg2 h0 hB1 hz2
    go_wp2_with fail
    clear c3' hmm
    go_loopw [5, 15] (fun _ i wr => ∃ k : Nat, k ≤ d.regs.n ∧ i = .int .i64 (k : Int) ∧ StrMap Tryz.prog 9 3 wr (w.heap.size + 1) (2 + k) (longsM d k) ∧ Below w.heap.size w wr ∧ w.heap.size + 2 ≤ wr.heap.size) (fun _ i _ => d.regs.n - (intOf i).toNat)
    case atStart => exact ⟨0, by omega, rfl, hm2.up (by decide), hB2, hz3⟩
    case round =>
      obtain ⟨k, hk, rfl, hm, hB, hsz⟩ := hrel
      clear hm2 hB2 hz3
      by_cases hlt : k < d.regs.n
      · obtain ⟨b, off, rfl, hbB, hcells⟩ := (hR.below hB (Nat.le_refl _)).cells (by omega)
        obtain ⟨hc1, hc2, hns⟩ := hcells k hlt
        obtain ⟨hl1, hl2⟩ := hl k hlt
        have hma := hm.alloc (.cells #[.string (d.regs.name k), .int .i64 (d.regs.long k)] 50)
        clear hcells hl
        go_wp2_with (refine wpList_mapset_str (P := Tryz.prog) (k := 9) (e := 3) rfl (.tmp 19) (.tmp 21) (.tmp 23) 168 rfl Tryz.underlying9 Tryz.underlying168 rfl hma (by omega) (d.regs.name k) hns (.int .i64 (d.regs.long k)) _ (plain_int hl1 hl2) rfl rfl ?_)
        intro w2 hm2 hg2
        go_wp2_with fail
        go_roundw
        case rel => exact ⟨k + 1, by omega, by go_num, hm2, (hB.alloc hB.size _).grown hg2 (by simp; omega) (fun k hk => by cases hk; omega), by have := hg2.size; simp at this; omega⟩
        case measure => simp [intOf]; omega
      · obtain rfl : k = d.regs.n := by omega
        clear hl hR
        go_wp2_with fail
        go_ret
        exact ⟨rfl, hm, hB⟩
end Go.Proofs.YtkipkkaloiefpaaGreatDoor
