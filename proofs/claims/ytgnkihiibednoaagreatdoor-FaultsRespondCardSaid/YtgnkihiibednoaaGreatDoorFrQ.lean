/- Package fault: Detects. -/
import Derived.Test.YtgnkihiibednoaaGreatDoorFrP
namespace Go.Proofs.YtgnkihiibednoaaGreatDoor
open Go.RowKit

set_option maxHeartbeats 4000000 in
theorem flDetects_any (T : List (List UInt8)) (hTz : T.length ≤ 1000000) (hTb : ∀ k, k < T.length → (T.getD k []).length ≤ 1000000) (k : Int) (l : List Int) (hl : l.length ≤ 1000) (B : Nat) (w : World) (tv nv : Value) (h : StrsAt B w tv T) (hN : NetsAt w nv l) :
    Calls Tryz.prog 10 #[tv, .agg #[.int .i64 k, nv]] w fun e w' => e = .returned (.tuple #[.bool (if listErr T [(k, l)] = 0 then anyN T (k, l) (T.getD 0 []).length else false), .int .i64 (listErr T [(k, l)])]) ∧ Below w.heap.size w w' := by
  have hBa : Below w.heap.size w (w.alloc (.cells #[.int .i64 k, nv] 30)) := (Below.refl _ _).alloc (Nat.le_refl _) _
  have hq := flFirst_any T hTz hTb k l hl B _ tv nv (row_later h hBa) (hN.later hBa)
  obtain ⟨ta, tc, rfl, -⟩ := strs_open h
  obtain ⟨na, nc, rfl, -⟩ := hN
  generalize (if listErr T [(k, l)] = 0 then (firstN T (k, l) (T.getD 0 []).length : Int) else 0) = r1 at hq
  generalize (if listErr T [(k, l)] = 0 then anyN T (k, l) (T.getD 0 []).length else false) = r2 at hq ⊢
  generalize listErr T [(k, l)] = r3 at hq ⊢
  generalize T.length = tl at hq ⊢
  generalize l.length = nl at hq hBa ⊢
  have HB := Lib.hid hBa
  clear hBa h hTz hTb hl
  go_enter Tryz.func10, Tryz.ntmps10
  go_wp2_with fail
  refine hq.mono ?_
  rintro e w3 ⟨rfl, hB3⟩
  have HB3 := Lib.hid (HB.out.trans (hB3.mono HB.out.size))
  clear hq hB3
  go_wp2_with fail
  go_ret2
  exact ⟨rfl, HB3.out⟩
end Go.Proofs.YtgnkihiibednoaaGreatDoor
