/- Package fault: what is right is told so: a fault, a list of faults, a test. -/
import Derived.Test.YtldilggfmclnlaaGreatDoorFtA
import Derived.IntWalk
import Derived.BigQuiet
import Derived.Deep.QuietTactic
namespace Go.Proofs.YtldilggfmclnlaaGreatDoor
open Go.RowKit

/-- The slice value reads as these numbers. -/
def NetsAt (w : World) (v : Value) (l : List Int) : Prop :=
  ∃ a c, v = .slice a l.length c ∧ l.length ≤ c ∧ (0 < l.length → ∃ g o, a = some ⟨g, o, none⟩ ∧ g < w.heap.size ∧ ∀ j, j < l.length → w.cell? ⟨g, o + j, none⟩ = some (.int .i64 (l.getD j 0)))
theorem NetsAt.later {w w' : World} {v : Value} {l : List Int} (h : NetsAt w v l) (hB : Below w.heap.size w w') : NetsAt w' v l := by
  obtain ⟨a, c, h1, h2, h3⟩ := h
  refine ⟨a, c, h1, h2, fun h0 => ?_⟩
  obtain ⟨g, o, h4, h5, h6⟩ := h3 h0
  exact ⟨g, o, h4, Nat.lt_of_lt_of_le h5 hB.size, fun j hj => (hB.cell (p := ⟨g, o + j, none⟩) h5).trans (h6 j hj)⟩
theorem NetsAt.tail {w : World} {a : Option Addr} {n c : Nat} {x : Int} {l : List Int} (h : NetsAt w (.slice a n c) (x :: l)) (g o : Nat) (ha : a = some ⟨g, o, none⟩) (c' : Nat) (hc : l.length ≤ c') : NetsAt w (.slice (some ⟨g, o + 1, none⟩) l.length c') l := by
  obtain ⟨a', c2, h1, h2, h3⟩ := h
  cases h1
  obtain ⟨g', o', h4, h5, h6⟩ := h3 (by simp)
  rw [ha] at h4
  cases h4
  refine ⟨_, _, rfl, hc, fun _ => ⟨g, o + 1, rfl, h5, fun j hj => ?_⟩⟩
  have := h6 (j + 1) (by simp; omega)
  rw [Nat.add_assoc, Nat.add_comm 1 j]
  exact this

/-- A fault of so many nets that is right. -/
structure FltRight (n : Nat) (f : Flt) : Prop where
  n1 : 1 ≤ n
  n2 : n ≤ 100
  k1 : 1 ≤ f.1
  k2 : f.1 ≤ 6
  l1 : 1 ≤ f.2.length
  l2 : f.2.length ≤ 6
  low : ∀ j, j < f.2.length → 0 ≤ f.2.getD j 0
  high : ∀ j, j < f.2.length → f.2.getD j 0 < n
  short : shortK f.1 = decide (1 < f.2.length)
  rise : ∀ j, j + 1 < f.2.length → (f.1 = 5 → 1 ≤ j) → f.2.getD j 0 < f.2.getD (j + 1) 0
  once : f.1 = 5 → ∀ j, 1 ≤ j → j < f.2.length → f.2.getD j 0 ≠ f.2.getD 0 0

set_option maxRecDepth 100000 in
theorem indexInt_none (l : List Int) (hz : l.length ≤ 1000) (x : Int) (hx : ∀ j, j < l.length → l.getD j 0 ≠ x) (w : World) (v : Value) (h : NetsAt w v l) :
    Calls Tryz.prog 105 #[v, .int .i64 x] w fun e w' => e = .returned (.int .i64 (-1)) ∧ Below w.heap.size w w' := by
  obtain ⟨a, c, rfl, -, hop⟩ := h
  obtain ⟨n, hn⟩ : ∃ n, n = l.length := ⟨_, rfl⟩
  rw [← hn] at hop hx hz ⊢
  have HC := Lib.hid (⟨hop, hx⟩ : _ ∧ _)
  clear hop hn hx
  go_enter Tryz.func105, Tryz.ntmps105
  go_wp2_with fail
  go_loopw [8] (fun i wr => ∃ (k : Nat), k ≤ n ∧ i = .int .i64 (k : Int) ∧ Below w.heap.size w wr) (fun i _ => n - (intOf i).toNat)
  case atStart => exact ⟨0, by omega, rfl, Below.refl _ _⟩
  case round =>
    obtain ⟨k, hk, rfl, hB⟩ := hrel
    by_cases hlt : k < n
    · obtain ⟨g, o, rfl, hg, hcell⟩ := HC.out.1 (by omega)
      have hc := (hB.cell (p := ⟨g, o + k, none⟩) hg).trans (hcell k hlt)
      have hne := HC.out.2 k hlt
      obtain ⟨y, hy⟩ : ∃ y, y = l.getD k 0 := ⟨_, rfl⟩
      rw [← hy] at hc hne
      have n1 : (x == y) = false := by rw [beq_eq_false_iff_ne]; exact fun e => hne e.symm
      have k0 : (0 : Int) ≤ (k : Int) := by omega
      have k1 : (k : Int) < (n : Int) := by omega
      have HB := Lib.hid hB
      clear hB hcell hy hne
      go_wp2_with fail
      go_roundw
      case rel => exact ⟨k + 1, by omega, by go_num, HB.out⟩
      case measure => simp [intOf]; omega
    · obtain rfl : k = n := by omega
      have HB := Lib.hid hB
      clear hB
      go_wp2_with fail
      go_ret
      exact ⟨rfl, HB.out⟩
theorem contInt_none (l : List Int) (hz : l.length ≤ 1000) (x : Int) (hx : ∀ j, j < l.length → l.getD j 0 ≠ x) (w : World) (v : Value) (h : NetsAt w v l) :
    Calls Tryz.prog 97 #[v, .int .i64 x] w fun e w' => e = .returned (.bool false) ∧ Below w.heap.size w w' := by
  have hi := indexInt_none l hz x hx w v h
  clear h hx
  go_enter Tryz.func97, Tryz.ntmps97
  go_wp2_with fail
  refine hi.mono ?_
  rintro e w' ⟨rfl, hB⟩
  clear hi
  go_wp2_with fail
  go_ret
  exact ⟨rfl, hB⟩

theorem checkFault1_no (x n : Int) (h0 : 0 ≤ x) (h1 : x < n) (b : Nat) (w : World) (hb : w.cell? ⟨b, 0, none⟩ = some (.int .i64 n)) :
    Calls Tryz.prog 85 #[.int .i64 x, .pointer (some ⟨b, 0, none⟩)] w fun e w' => e = .returned (.bool false) ∧ w = w' := by
  have d1 : decide (x < 0) = false := decide_eq_false (by omega)
  have d2 : decide (n ≤ x) = false := decide_eq_false (by omega)
  go_enter Tryz.func85, Tryz.ntmps85
  go_wp2_with fail
  go_ret
  exact ⟨rfl, rfl⟩
set_option maxRecDepth 100000 in
theorem indexIntF_none (l : List Int) (hz : l.length ≤ 1000) (m : Int) (h0 : ∀ j, j < l.length → 0 ≤ l.getD j 0) (h1 : ∀ j, j < l.length → l.getD j 0 < m) (b : Nat) (w : World) (hb : w.cell? ⟨b, 0, none⟩ = some (.int .i64 m)) (v : Value) (h : NetsAt w v l) :
    Calls Tryz.prog 96 #[v, .func (.func 85) #[] #[.pointer (some ⟨b, 0, none⟩)]] w fun e w' => e = .returned (.int .i64 (-1)) ∧ Below w.heap.size w w' := by
  obtain ⟨a, c, rfl, -, hop⟩ := h
  have hbl : b < w.heap.size := World.block_lt_of_cell? w ⟨b, 0, none⟩ hb
  obtain ⟨n, hn⟩ : ∃ n, n = l.length := ⟨_, rfl⟩
  rw [← hn] at hop h0 h1 hz ⊢
  have HC := Lib.hid (⟨hop, h0, h1, hb⟩ : _ ∧ _ ∧ _ ∧ _)
  clear hop hn h0 h1 hb
  go_enter Tryz.func96, Tryz.ntmps96
  go_wp2_with fail
  go_loopw [8] (fun i wr => ∃ (k : Nat), k ≤ n ∧ i = .int .i64 (k : Int) ∧ Below w.heap.size w wr) (fun i _ => n - (intOf i).toNat)
  case atStart => exact ⟨0, by omega, rfl, Below.refl _ _⟩
  case round =>
    obtain ⟨k, hk, rfl, hB⟩ := hrel
    by_cases hlt : k < n
    · obtain ⟨g, o, rfl, hg, hcell⟩ := HC.out.1 (by omega)
      have hc := (hB.cell (p := ⟨g, o + k, none⟩) hg).trans (hcell k hlt)
      have hcb := (hB.cell (p := ⟨b, 0, none⟩) hbl).trans HC.out.2.2.2
      have hq := fun W (hW : W.cell? ⟨b, 0, none⟩ = some (.int .i64 m)) => checkFault1_no (l.getD k 0) m (HC.out.2.1 k hlt) (HC.out.2.2.1 k hlt) b W hW
      obtain ⟨y, hy⟩ : ∃ y, y = l.getD k 0 := ⟨_, rfl⟩
      rw [← hy] at hc hq
      have hq2 := hq wr hcb
      have k0 : (0 : Int) ≤ (k : Int) := by omega
      have k1 : (k : Int) < (n : Int) := by omega
      have HB := Lib.hid hB
      clear hB hcell hy hcb hq
      go_wp2_with fail
      refine hq2.mono ?_
      rintro e w' ⟨rfl, rfl⟩
      clear hq2
      go_wp2_with fail
      go_roundw
      case rel => exact ⟨k + 1, by omega, by go_num, HB.out⟩
      case measure => simp [intOf]; omega
    · obtain rfl : k = n := by omega
      have HB := Lib.hid hB
      clear hB
      go_wp2_with fail
      go_ret
      exact ⟨rfl, HB.out⟩
theorem contIntF_none (l : List Int) (hz : l.length ≤ 1000) (m : Int) (h0 : ∀ j, j < l.length → 0 ≤ l.getD j 0) (h1 : ∀ j, j < l.length → l.getD j 0 < m) (b : Nat) (w : World) (hb : w.cell? ⟨b, 0, none⟩ = some (.int .i64 m)) (v : Value) (h : NetsAt w v l) :
    Calls Tryz.prog 84 #[v, .func (.func 85) #[] #[.pointer (some ⟨b, 0, none⟩)]] w fun e w' => e = .returned (.bool false) ∧ Below w.heap.size w w' := by
  have hi := indexIntF_none l hz m h0 h1 b w hb v h
  clear h h0 h1 hb
  go_enter Tryz.func84, Tryz.ntmps84
  go_wp2_with fail
  refine hi.mono ?_
  rintro e w' ⟨rfl, hB⟩
  clear hi
  go_wp2_with fail
  go_ret
  exact ⟨rfl, hB⟩

set_option maxHeartbeats 4000000 in
set_option maxRecDepth 100000 in
theorem checkOrder_ok (n : Nat) (f : Flt) (hf : FltRight n f) (w : World) (v : Value) (h : NetsAt w v f.2) :
    Calls Tryz.prog 86 #[.agg #[.int .i64 f.1, v]] w fun e w' => e = .returned (.int .i64 0) ∧ Below w.heap.size w w' := by
  have hl1 := hf.l1
  have hl2 := hf.l2
  obtain ⟨k, l⟩ := f
  dsimp only at hf h hl1 hl2 ⊢
  have hN := h
  obtain ⟨a, c, rfl, hcc, hop⟩ := h
  obtain ⟨g, o, rfl, hg, hcell⟩ := hop (by omega)
  by_cases hk5 : k = 5
  · have n5 : (k == 5) = true := by simp [hk5]
    have hm2 : 2 ≤ l.length := by
      have := hf.short
      rw [hk5] at this
      have h2 : decide (1 < l.length) = true := this.symm
      have := of_decide_eq_true h2
      omega
    obtain ⟨x, l', rfl⟩ : ∃ x l', l = x :: l' := by
      cases l with
      | nil => simp at hl1
      | cons x l' => exact ⟨x, l', rfl⟩
    have hcont := fun (W : World) (hB : Below w.heap.size w W) => contInt_none l' (by simp at hl2; omega) x (fun j hj => hf.once hk5 (j + 1) (by omega) (by simp; omega)) W _ ((hN.tail g o rfl (c - 1) (by simp at hcc; omega)).later hB)
    have hx := hcell 0 (by simp)
    change _ = some (Value.int .i64 x) at hx
    rw [Nat.add_zero] at hx
    have hr : ∀ j, j + 1 < l'.length → l'.getD j 0 < l'.getD (j + 1) 0 := fun j hj => hf.rise (j + 1) (by simp; omega) (fun _ => by omega)
    have hce : ∀ j, j < l'.length → w.cell? ⟨g, o + 1 + j, none⟩ = some (.int .i64 (l'.getD j 0)) := fun j hj => by
      have := hcell (j + 1) (by simp; omega)
      rw [Nat.add_assoc, Nat.add_comm 1 j]
      exact this
    have hlen : (x :: l').length = l'.length + 1 := rfl
    rw [hlen] at hcc hm2 hl1 hl2 ⊢
    have hne1 : ¬ c = 1 := by omega
    obtain ⟨M, hM⟩ : ∃ M, M = l'.length := ⟨_, rfl⟩
    rw [← hM] at hcont hr hce hcc hm2 hl1 hl2 ⊢
    have HH := Lib.hid (⟨hcont, hr, hce⟩ : _ ∧ _ ∧ _)
    clear hcont hr hce hcell hop hN hf hM hk5 hlen
    have e1 : ((M + 1 : Nat) : Int) - 1 = (M : Int) := by omega
    go_enter Tryz.func86, Tryz.ntmps86
    go_wp2_with fail
    go_loopw [4] (fun i wr => ∃ q : Nat, q + 1 ≤ max M 1 ∧ i = .int .i64 ((q : Int) + 1) ∧ Below w.heap.size w wr ∧ wr.cell? ⟨w.heap.size, 0, none⟩ = some (.int .i64 k) ∧ wr.cell? ⟨w.heap.size, 1, none⟩ = some (.slice (some ⟨g, o, none⟩) (M + 1) c)) (fun i _ => M - (intOf i).toNat)
    case atStart => exact ⟨0, by omega, by rfl, ((Below.refl _ _).alloc (Nat.le_refl _) _), by simp, by simp⟩
    case round =>
      obtain ⟨q, hq, rfl, hB, b0, b1⟩ := hrel
      by_cases hlt : q + 1 < M
      · have cA := (hB.cell (p := ⟨g, o + 1 + q, none⟩) hg).trans (HH.out.2.2 q (by omega))
        have cB := (hB.cell (p := ⟨g, o + 1 + (q + 1), none⟩) hg).trans (HH.out.2.2 (q + 1) hlt)
        have hri := HH.out.2.1 q hlt
        obtain ⟨y0, hy0⟩ : ∃ y, y = l'.getD q 0 := ⟨_, rfl⟩
        obtain ⟨y1, hy1⟩ : ∃ y, y = l'.getD (q + 1) 0 := ⟨_, rfl⟩
        rw [← hy0] at cA hri
        rw [← hy1] at cB hri
        have dd : decide (y1 ≤ y0) = false := decide_eq_false (by omega)
        have q0 : (0 : Int) ≤ (q : Int) := by omega
        have q1 : (q : Int) < (M : Int) := by omega
        have q2 : (q : Int) + 1 < (M : Int) := by omega
        have q3 : (0 : Int) ≤ (q : Int) + 1 := by omega
        have hw1 : IntKind.i64.wrap ((q : Int)) = (q : Int) := IntWalk.i64_in _ (by omega)
        have ht1 : ((q : Int) + 1).toNat = q + 1 := by omega
        have HB := Lib.hid (⟨hB, b0, b1⟩ : _ ∧ _ ∧ _)
        clear hB hy0 hy1 hri b0 b1
        go_wp2_with fail
        go_quiet (fail)
        clear hw1 ht1
        go_wp2_with fail
        go_roundw
        case rel => exact ⟨q + 1, by omega, by go_num, HB.out.1.trans ((drewN_below _ _).mono HB.out.1.size), HB.out.2⟩
        case measure => simp [intOf]; omega
      · have HB := Lib.hid hB
        have q2 : ¬ (q : Int) + 1 < (M : Int) := by omega
        have hx' := (hB.cell (p := ⟨g, o, none⟩) hg).trans hx
        have hq2 := HH.out.1 wr hB
        clear hB
        go_wp2_with fail
        refine hq2.mono ?_
        rintro e w' ⟨rfl, hB2⟩
        have HB2 := Lib.hid (HB.out.trans (hB2.mono HB.out.size))
        clear hq2 hB2
        go_wp2_with fail
        go_ret
        exact ⟨rfl, HB2.out⟩
  · have n5 : (k == 5) = false := by simpa using hk5
    have hr : ∀ j, j + 1 < l.length → l.getD j 0 < l.getD (j + 1) 0 := fun j hj => hf.rise j hj (fun h => absurd h hk5)
    obtain ⟨M, hM⟩ : ∃ M, M = l.length := ⟨_, rfl⟩
    rw [← hM] at hr hcell hcc hl1 hl2 ⊢
    have HH := Lib.hid (⟨trivial, hr, hcell⟩ : True ∧ _ ∧ _)
    clear hr hcell hop hN hf hM hk5
    go_enter Tryz.func86, Tryz.ntmps86
    go_wp2_with fail
    go_loopw [4] (fun i wr => ∃ q : Nat, q + 1 ≤ max M 1 ∧ i = .int .i64 ((q : Int) + 1) ∧ Below w.heap.size w wr ∧ wr.cell? ⟨w.heap.size, 0, none⟩ = some (.int .i64 k) ∧ wr.cell? ⟨w.heap.size, 1, none⟩ = some (.slice (some ⟨g, o, none⟩) M c)) (fun i _ => M - (intOf i).toNat)
    case atStart => exact ⟨0, by omega, by rfl, ((Below.refl _ _).alloc (Nat.le_refl _) _), by simp, by simp⟩
    case round =>
      obtain ⟨q, hq, rfl, hB, b0, b1⟩ := hrel
      by_cases hlt : q + 1 < M
      · have cA := (hB.cell (p := ⟨g, o + q, none⟩) hg).trans (HH.out.2.2 q (by omega))
        have cB := (hB.cell (p := ⟨g, o + (q + 1), none⟩) hg).trans (HH.out.2.2 (q + 1) hlt)
        have hri := HH.out.2.1 q hlt
        obtain ⟨y0, hy0⟩ : ∃ y, y = l.getD q 0 := ⟨_, rfl⟩
        obtain ⟨y1, hy1⟩ : ∃ y, y = l.getD (q + 1) 0 := ⟨_, rfl⟩
        rw [← hy0] at cA hri
        rw [← hy1] at cB hri
        have dd : decide (y1 ≤ y0) = false := decide_eq_false (by omega)
        have q0 : (0 : Int) ≤ (q : Int) := by omega
        have q1 : (q : Int) < (M : Int) := by omega
        have q2 : (q : Int) + 1 < (M : Int) := by omega
        have q3 : (0 : Int) ≤ (q : Int) + 1 := by omega
        have hw1 : IntKind.i64.wrap ((q : Int)) = (q : Int) := IntWalk.i64_in _ (by omega)
        have ht1 : ((q : Int) + 1).toNat = q + 1 := by omega
        have HB := Lib.hid (⟨hB, b0, b1⟩ : _ ∧ _ ∧ _)
        clear hB hy0 hy1 hri b0 b1
        go_wp2_with fail
        go_quiet (fail)
        clear hw1 ht1
        go_wp2_with fail
        go_roundw
        case rel => exact ⟨q + 1, by omega, by go_num, HB.out.1.trans ((drewN_below _ _).mono HB.out.1.size), HB.out.2⟩
        case measure => simp [intOf]; omega
      · have HB := Lib.hid hB
        have q2 : ¬ (q : Int) + 1 < (M : Int) := by omega
        clear hB
        go_wp2_with fail
        go_ret
        exact ⟨rfl, HB.out⟩

set_option maxHeartbeats 4000000 in
set_option maxRecDepth 100000 in
theorem checkFault_ok (n : Nat) (f : Flt) (hf : FltRight n f) (w : World) (v : Value) (h : NetsAt w v f.2) :
    Calls Tryz.prog 70 #[.int .i64 (n : Int), .agg #[.int .i64 f.1, v]] w fun e w' => e = .returned (.int .i64 0) ∧ Below w.heap.size w w' := by
  have hn := fun W => fcheckNets_any (n : Int) W
  rw [if_neg (by have := hf.n1; have := hf.n2; omega)] at hn
  have hk := fun W => fisKind_any f.1 W
  rw [decide_eq_true ⟨hf.k1, hf.k2⟩] at hk
  have hsh := fun W => isShort_any f.1 W
  rw [hf.short] at hsh
  obtain ⟨sb, hsb⟩ : ∃ b, b = decide (1 < f.2.length) := ⟨_, rfl⟩
  rw [← hsb] at hsh
  have hci := fun W b hB hb => contIntF_none f.2 (by have := hf.l2; omega) (n : Int) hf.low hf.high b W hb v (h.later (w' := W) hB)
  have hco := fun W hB => checkOrder_ok n f hf W v (h.later (w' := W) hB)
  have hl1 := hf.l1
  have hl2 := hf.l2
  obtain ⟨k, l⟩ := f
  dsimp only at hf h hl1 hl2 hk hsh hci hco hsb ⊢
  obtain ⟨a, c, rfl, -, -⟩ := h
  obtain ⟨M, hM⟩ : ∃ M, M = l.length := ⟨_, rfl⟩
  rw [← hM] at hl1 hl2 hsb hci hco ⊢
  have hd : decide ((1 : Int) < (M : Int)) = sb := by rw [hsb, decide_eq_decide]; omega
  have HD := Lib.hid hd
  have n0 : ((M : Int) == 0) = false := by rw [beq_eq_false_iff_ne]; omega
  have n6 : decide ((M : Int) > 6) = false := decide_eq_false (by omega)
  have HH := Lib.hid (⟨hn, hk, hsh, hci, hco⟩ : _ ∧ _ ∧ _ ∧ _ ∧ _)
  clear hn hk hsh hci hco hf hM hsb hd
  have hBw : Below w.heap.size w ((w.alloc (.cells #[.int .i64 (n : Int)] 3)).alloc (.cells #[.int .i64 k, .slice a M c] 92)) := ((Below.refl _ _).alloc (Nat.le_refl _) _).alloc (by simp) _
  have HBW := Lib.hid hBw
  clear hBw
  go_enter Tryz.func70, Tryz.ntmps70
  go_wp2_with fail
  refine (HH.out.1 _).mono ?_
  rintro e w' ⟨rfl, rfl⟩
  go_wp2_with fail
  refine (HH.out.2.1 _).mono ?_
  rintro e w' ⟨rfl, rfl⟩
  go_wp2_with fail
  refine (HH.out.2.2.2.1 _ _ HBW.out (by simp; try omega)).mono ?_
  rintro e w2 ⟨rfl, hB⟩
  have f0 := (hB.cell (p := ⟨w.heap.size, 0, none⟩) (by simp; try omega)).trans (show _ = some (Value.int .i64 (n : Int)) by simp; try omega)
  have f1 := (hB.cell (p := ⟨w.heap.size + 1, 0, none⟩) (by simp)).trans (show _ = some (Value.int .i64 k) by simp)
  have f2 := (hB.cell (p := ⟨w.heap.size + 1, 1, none⟩) (by simp)).trans (show _ = some (Value.slice a M c) by simp)
  have HB := Lib.hid (HBW.out.trans (hB.mono (by simp; omega)))
  clear hB HBW
  go_wp2_with fail
  have hd := HD.out
  go_quiet ((go_at_call 46; exact Calls.quiet_of_same ((HH.out.2.2.1 _).mono fun _ _ h => ⟨h.1, h.2.symm⟩)))
  clear hd
  go_wp2_with fail
  refine (HH.out.2.2.2.2 _ (HB.out.trans ((drewN_below _ _).mono HB.out.size))).mono ?_
  rintro e w3 ⟨rfl, hB⟩
  have hB3 : Below w.heap.size w w3 := (HB.out.trans ((drewN_below _ _).mono HB.out.size)).trans (hB.mono HB.out.size)
  have HB3 := Lib.hid hB3
  clear hB hB3
  go_wp2_with fail
  go_ret
  exact ⟨rfl, HB3.out⟩

/-- The slice value reads as these faults. -/
def FltsAt (w : World) (v : Value) (L : List Flt) : Prop :=
  ∃ a c, v = .slice a L.length c ∧ (0 < L.length → ∃ g, a = some ⟨g, 0, none⟩ ∧ g < w.heap.size ∧ ∀ i, i < L.length → w.cell? ⟨g, i * 2, none⟩ = some (.int .i64 (L.getD i (0, [])).1) ∧ ∃ nv, w.cell? ⟨g, i * 2 + 1, none⟩ = some nv ∧ NetsAt w nv (L.getD i (0, [])).2)
theorem FltsAt.later {w w' : World} {v : Value} {L : List Flt} (h : FltsAt w v L) (hB : Below w.heap.size w w') : FltsAt w' v L := by
  obtain ⟨a, c, h1, h3⟩ := h
  refine ⟨a, c, h1, fun h0 => ?_⟩
  obtain ⟨g, h4, h5, h6⟩ := h3 h0
  refine ⟨g, h4, Nat.lt_of_lt_of_le h5 hB.size, fun i hi => ?_⟩
  obtain ⟨h7, nv, h8, h9⟩ := h6 i hi
  exact ⟨(hB.cell (p := ⟨g, i * 2, none⟩) h5).trans h7, nv, (hB.cell (p := ⟨g, i * 2 + 1, none⟩) h5).trans h8, h9.later hB⟩
theorem FltsAt.open {w : World} {v : Value} {L : List Flt} (h : FltsAt w v L) : ∃ a c, v = .slice a L.length c := by
  obtain ⟨a, c, h1, -⟩ := h
  exact ⟨a, c, h1⟩

set_option maxHeartbeats 4000000 in
set_option maxRecDepth 100000 in
theorem checkFaults_ok (n : Nat) (L : List Flt) (hz : L.length ≤ 20000) (hL : ∀ i, i < L.length → FltRight n (L.getD i (0, []))) (w : World) (v : Value) (h : FltsAt w v L) :
    Calls Tryz.prog 60 #[.int .i64 (n : Int), v] w fun e w' => e = .returned (.int .i64 0) ∧ Below w.heap.size w w' := by
  obtain ⟨a, c, rfl, hop⟩ := h
  obtain ⟨M, hM⟩ : ∃ M, M = L.length := ⟨_, rfl⟩
  rw [← hM] at hz hL hop ⊢
  have hzI : (M : Int) ≤ 20000 := by omega
  have HH := Lib.hid (⟨hop, hL⟩ : _ ∧ _)
  clear hop hL hM
  go_enter Tryz.func60, Tryz.ntmps60
  go_wp2_with fail
  go_loopw [13] (fun i wr => ∃ (k : Nat), k ≤ M ∧ i = .int .i64 (k : Int) ∧ Below w.heap.size w wr) (fun i _ => M - (intOf i).toNat)
  case atStart => exact ⟨0, by omega, rfl, Below.refl _ _⟩
  case round =>
    obtain ⟨k, hk, rfl, hB⟩ := hrel
    by_cases hlt : k < M
    · obtain ⟨g, rfl, hg, hcell⟩ := HH.out.1 (by omega)
      obtain ⟨c0, nv, c1, hN⟩ := hcell k hlt
      have hB1 : Below w.heap.size w (wr.alloc (.cells #[.int .i64 (L.getD k (0, [])).1, nv] 92)) := hB.alloc hB.size _
      have hcf := checkFault_ok n (L.getD k (0, [])) (HH.out.2 k hlt) _ nv (hN.later hB1)
      have c0' := (hB.cell (p := ⟨g, k * 2, none⟩) hg).trans c0
      have c1' := (hB.cell (p := ⟨g, k * 2 + 1, none⟩) hg).trans c1
      obtain ⟨nk, hnk⟩ : ∃ x, x = (L.getD k (0, [])).1 := ⟨_, rfl⟩
      rw [← hnk] at hcf c0' hB1
      obtain ⟨na, nc, hform, -⟩ := hN
      rw [hform] at hcf c1' hB1
      generalize (L.getD k (0, [])).2.length = nl at hcf c1' hB1
      have k0 : (0 : Int) ≤ (k : Int) := by omega
      have k1 : (k : Int) < (M : Int) := by omega
      have HB := Lib.hid hB1
      clear hB hB1 hcell c0 c1 hnk hform
      go_wp2_with fail
      refine hcf.mono ?_
      rintro e w2 ⟨rfl, hB2⟩
      have HB2 := Lib.hid (HB.out.trans (hB2.mono HB.out.size))
      clear hcf hB2
      go_wp2_with fail
      go_roundw
      case rel => exact ⟨k + 1, by omega, by go_num, HB2.out⟩
      case measure => simp [intOf]; omega
    · obtain rfl : k = M := by omega
      have HB := Lib.hid hB
      clear hB
      go_wp2_with fail
      go_ret
      exact ⟨rfl, HB.out⟩

/-- A test that is right: so many nets, so many vectors. -/
structure TestRight (T : List (List UInt8)) (n m : Nat) : Prop where
  n1 : 1 ≤ n
  n2 : n ≤ 100
  m2 : m ≤ 64
  len : T.length = n
  long : ∀ k, k < n → (T.getD k []).length = m
  bits : ∀ k, k < n → (T.getD k []).all bitB = true

set_option maxHeartbeats 4000000 in
set_option maxRecDepth 100000 in
theorem checkTest_ok (T : List (List UInt8)) (n m : Nat) (hT : TestRight T n m) (B : Nat) (w : World) (v : Value) (h : StrsAt B w v T) :
    Calls Tryz.prog 59 #[v] w fun e w' => e = .returned (.int .i64 0) ∧ Below w.heap.size w w' := by
  obtain ⟨a, c, rfl, hop⟩ := strs_open h
  have hn1 := hT.n1
  have hn2 := hT.n2
  have hm2 := hT.m2
  rw [hT.len] at hop ⊢
  obtain ⟨g, rfl, hg, hcell⟩ := hop (by omega)
  have HH := Lib.hid (⟨hcell, hT⟩ : _ ∧ _)
  have z0 : ((n : Int) == 0) = false := by rw [beq_eq_false_iff_ne]; omega
  have z1 : (n : Int) ≤ 100 := by omega
  have z2 : (0 : Int) < (n : Int) := by omega
  clear hop hcell hT h
  go_enter Tryz.func59, Tryz.ntmps59
  go_wp2_with fail
  go_loopw [15] (fun i wr => ∃ (k : Nat), k ≤ n ∧ i = .int .i64 (k : Int) ∧ Below w.heap.size w wr) (fun i _ => n - (intOf i).toNat)
  case atStart => exact ⟨0, by omega, rfl, Below.refl _ _⟩
  case round =>
    obtain ⟨k, hk, rfl, hB⟩ := hrel
    by_cases hlt : k < n
    · have ck := (hB.cell (p := ⟨g, k, none⟩) hg).trans (HH.out.1 k hlt)
      have c0 := (hB.cell (p := ⟨g, 0, none⟩) hg).trans (HH.out.1 0 (by omega))
      have lk := HH.out.2.long k hlt
      have l0 := HH.out.2.long 0 (by omega)
      have hbk := HH.out.2.bits k hlt
      obtain ⟨sk, hsk⟩ : ∃ s : ByteArray, s = ⟨(T.getD k []).toArray⟩ := ⟨_, rfl⟩
      obtain ⟨s0, hs0⟩ : ∃ s : ByteArray, s = ⟨(T.getD 0 []).toArray⟩ := ⟨_, rfl⟩
      have wk := word_dec _ sk hsk
      have w0 := word_dec _ s0 hs0
      change _ = some (Value.string ⟨(T.getD k []).toArray⟩) at ck
      change _ = some (Value.string ⟨(T.getD 0 []).toArray⟩) at c0
      rw [← hsk] at ck
      rw [← hs0] at c0
      have zk : sk.size = m := by have := wk.1; omega
      have zz : s0.size = m := by have := w0.1; omega
      have hib := fun W => isBits_any sk W (by omega)
      rw [wk.2, hbk] at hib
      have k0 : (0 : Int) ≤ (k : Int) := by omega
      have k1 : (k : Int) < (n : Int) := by omega
      have dm : decide ((m : Int) > 64) = false := decide_eq_false (by omega)
      have hib1 := hib wr
      have HB := Lib.hid hB
      have HZ := Lib.hid (⟨ck, c0⟩ : _ ∧ _)
      have hkw : g < wr.heap.size := Nat.lt_of_lt_of_le hg hB.size
      clear hB lk l0 hbk hsk hs0 wk w0 hib c0
      go_wp2_with fail
      refine hib1.mono ?_
      rintro e w2 ⟨rfl, hB2⟩
      have c0' := (hB2.cell (p := ⟨g, 0, none⟩) hkw).trans HZ.out.2
      have HB2 := Lib.hid (HB.out.trans (hB2.mono HB.out.size))
      clear hib1 hB2
      go_wp2_with fail
      go_roundw
      case rel => exact ⟨k + 1, by omega, by go_num, HB2.out⟩
      case measure => simp [intOf]; omega
    · obtain rfl : k = n := by omega
      have HB := Lib.hid hB
      clear hB
      go_wp2_with fail
      go_ret
      exact ⟨rfl, HB.out⟩
theorem fcheck_ok (T : List (List UInt8)) (n m : Nat) (hT : TestRight T n m) (L : List Flt) (hz : L.length ≤ 20000) (hL : ∀ i, i < L.length → FltRight n (L.getD i (0, []))) (B : Nat) (w : World) (v v2 : Value) (h : StrsAt B w v T) (h2 : FltsAt w v2 L) :
    Calls Tryz.prog 47 #[v, v2] w fun e w' => e = .returned (.int .i64 0) ∧ Below w.heap.size w w' := by
  have hc1 := checkTest_ok T n m hT B w v h
  have hc2 := fun W (hB : Below w.heap.size w W) => checkFaults_ok n L hz hL W v2 (h2.later hB)
  obtain ⟨a, c, rfl, -⟩ := strs_open h
  rw [hT.len] at hc1 ⊢
  have HH := Lib.hid hc2
  clear hc2 h h2 hL hT
  go_enter Tryz.func47, Tryz.ntmps47
  go_wp2_with fail
  refine hc1.mono ?_
  rintro e w2 ⟨rfl, hB2⟩
  have HB2 := Lib.hid hB2
  clear hc1 hB2
  go_wp2_with fail
  refine (HH.out _ HB2.out).mono ?_
  rintro e w3 ⟨rfl, hB3⟩
  have HB3 := Lib.hid (HB2.out.trans (hB3.mono HB2.out.size))
  clear hB3
  go_wp2_with fail
  go_ret
  exact ⟨rfl, HB3.out⟩
end Go.Proofs.YtldilggfmclnlaaGreatDoor
