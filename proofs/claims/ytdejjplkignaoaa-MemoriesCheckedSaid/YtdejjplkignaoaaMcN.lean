/- The reference's SectorAt. -/
import Derived.Test.YtdejjplkignaoaaMcL
namespace Go.Proofs.Ytdejjplkignaoaa
open Go.RowKit

/-- The sector of an address, its first address, and whether there is one. -/
def secTup (S : List Int) (a : Int) : Value := match secAt S a with | some k => .tuple #[.int .i64 (k : Int), .int .i64 (preS S k), .bool true] | none => .tuple #[.int .i64 0, .int .i64 0, .bool false]
theorem secTup_is {S : List Int} (hS : FlashRight S) {a : Int} {k : Nat} (hk : k < S.length) (h : isAt S a k = true) : secTup S a = .tuple #[.int .i64 (k : Int), .int .i64 (preS S k), .bool true] := by
  unfold isAt at h
  simp at h
  unfold secTup
  rw [secAt_is hS hk h.1 h.2]
theorem secTup_no {S : List Int} {a : Int} (h : ∀ j, j < S.length → isAt S a j = false) : secTup S a = .tuple #[.int .i64 0, .int .i64 0, .bool false] := by
  unfold secTup
  cases h1 : secAt S a with
  | none => rfl
  | some k =>
    obtain ⟨e1, e2, e3⟩ := secAt_some h1
    have h2 := h k e1
    unfold isAt at h2
    simp at h2
    omega
set_option maxHeartbeats 800000 in
set_option maxRecDepth 100000 in
theorem rsectorAt_any (S : List Int) (hS : FlashRight S) (x : Int) (w : World) (v : Value) (h : NumsAt w v S) :
    Calls Try.prog 17 #[.agg #[v], .int .i64 x] w fun e w' => e = .returned (secTup S x) ∧ Below w.heap.size w w' := by
  have hps := fun k hk => preS_small hS.small k hk
  have hn20 := hS.l2
  obtain ⟨W1, hW1⟩ : ∃ W1 : World, W1 = w.alloc (.cells #[v] 27) := ⟨_, rfl⟩
  have hB1 : Below w.heap.size w W1 := by rw [hW1]; exact (Below.refl _ _).alloc (Nat.le_refl _) _
  have hc0 : W1.cell? ⟨w.heap.size, 0, none⟩ = some v := by rw [hW1]; simp
  have h1 := h.later hB1
  obtain ⟨a, c, rfl, -, hop⟩ := h1
  obtain ⟨n, hn⟩ : ∃ n, n = S.length := ⟨_, rfl⟩
  rw [← hn] at hop hps hW1 hc0 hn20 ⊢
  have HC := Lib.hid (⟨hop, hB1, hps, hn, hS⟩ : _ ∧ _ ∧ _ ∧ _ ∧ _)
  have HW := Lib.hid hW1
  clear hop hB1 hps hn hS h hW1
  go_enter Try.func17, Try.ntmps17
  go_wp2_with fail
  rw [← HW.out]
  go_loopw [7, 13] (fun s i wr => ∃ k : Nat, k ≤ n ∧ i = .int .i64 (k : Int) ∧ s = .int .i64 (preS S k) ∧ (∀ j, j < k → isAt S x j = false) ∧ wr = W1) (fun _ i _ => n - (intOf i).toNat)
  case atStart => exact ⟨0, by omega, rfl, rfl, fun j hj => by omega, rfl⟩
  case round =>
    obtain ⟨k, hk, rfl, rfl, hno, rfl⟩ := hrel
    by_cases hlt : k < n
    · obtain ⟨g, o, rfl, hg, hcell⟩ := HC.out.1 (by omega)
      have hc := hcell k hlt
      have hp := HC.out.2.2.1 k (by omega)
      have hp2 := HC.out.2.2.1 (k + 1) (by omega)
      have hsn : preS S (k + 1) = preS S k + S.getD k 0 := rfl
      have hlo := HC.out.2.2.2.2.low k (by rw [← HC.out.2.2.2.1]; exact hlt)
      have hhi := HC.out.2.2.2.2.high k (by rw [← HC.out.2.2.2.1]; exact hlt)
      have hq := fun W => rin_any x (preS S k) (preS S (k + 1) - 1) W
      rw [show inB x (preS S k) (preS S (k + 1) - 1) = isAt S x k by
        unfold inB isAt
        congr 1
        exact decide_eq_decide.2 (by omega)] at hq
      have k0 : (0 : Int) ≤ (k : Int) := by omega
      have k1 : (k : Int) < (n : Int) := by omega
      have hd1 := fun hyes => secTup_is HC.out.2.2.2.2 (a := x) (k := k) (by rw [← HC.out.2.2.2.1]; exact hlt) hyes
      rw [hsn] at hq hp2
      obtain ⟨y, hy⟩ : ∃ y, y = S.getD k 0 := ⟨_, rfl⟩
      obtain ⟨p, hpp⟩ : ∃ p, p = preS S k := ⟨_, rfl⟩
      rw [← hy] at hc hlo hhi hsn hq hp2
      rw [← hpp] at hp hsn hq hp2 hd1 ⊢
      cases hq2 : isAt S x k with
      | true =>
        have hd := hd1 hq2
        rw [hq2] at hq
        have HD := Lib.hid hd
        clear hcell hy hpp hsn hno hd1 hd hq2
        go_wp2_with fail
        refine (hq _).mono ?_
        rintro e w' ⟨rfl, rfl⟩
        clear hq
        go_wp2_with fail
        go_ret3
        exact ⟨by rw [HD.out]; rfl, HC.out.2.1⟩
      | false =>
        rw [hq2] at hq
        have hno2 : ∀ j, j < k + 1 → isAt S x j = false := fun j hj => by
          by_cases e : j = k
          · rw [e]; exact hq2
          · exact hno j (by omega)
        have HD := Lib.hid (⟨hno2, hsn⟩ : _ ∧ _)
        clear hcell hy hpp hsn hno hd1 hno2 hq2
        go_wp2_with fail
        refine (hq _).mono ?_
        rintro e w' ⟨rfl, rfl⟩
        clear hq
        go_wp2_with fail
        go_roundw
        case rel => exact ⟨k + 1, by omega, by go_num, by rw [HD.out.2], HD.out.1, trivial⟩
        case measure => simp [intOf]; omega
    · obtain rfl : k = n := by omega
      have hd := secTup_no (S := S) (a := x) (by rw [← HC.out.2.2.2.1]; exact hno)
      have HD := Lib.hid hd
      clear hd hno
      go_wp2_with fail
      go_ret3
      exact ⟨by rw [HD.out]; rfl, HC.out.2.1⟩
end Go.Proofs.Ytdejjplkignaoaa
