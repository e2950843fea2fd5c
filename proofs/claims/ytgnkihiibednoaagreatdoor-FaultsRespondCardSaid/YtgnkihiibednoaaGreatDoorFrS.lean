/- Package fault: Response, by what is to be said of Combined. -/
import Derived.Test.YtgnkihiibednoaaGreatDoorFrR
namespace Go.Proofs.YtgnkihiibednoaaGreatDoor
open Go.RowKit

/-- What is to be said of Combined, at any arguments. -/
def CombSaid : Prop := ∀ (T : List (List UInt8)), T.length ≤ 1000000 → (∀ k, k < T.length → (T.getD k []).length ≤ 1000000) → ∀ (L : List Flt), L.length ≤ 1000000 → (∀ i, i < L.length → (L.getD i (0, [])).2.length ≤ 1000) → ∀ (B : Nat) (w : World) (tv lv : Value), StrsAt B w tv T → FltsAt w lv L →
  Calls Tryz.prog 9 #[tv, lv] w fun e w' => ∃ v', e = .returned (.tuple #[v', .int .i64 (listErr T L)]) ∧ StrsAt w.heap.size w' v' (if listErr T L = 0 then combL (T.getD 0 []).length T L else []) ∧ Below w.heap.size w w'
set_option maxHeartbeats 4000000 in
theorem flResponse_any (hC : CombSaid) (T : List (List UInt8)) (hTz : T.length ≤ 1000000) (hTb : ∀ k, k < T.length → (T.getD k []).length ≤ 1000000) (k : Int) (l : List Int) (hl : l.length ≤ 1000) (B : Nat) (w : World) (tv nv : Value) (h : StrsAt B w tv T) (hN : NetsAt w nv l) :
    Calls Tryz.prog 8 #[tv, .agg #[.int .i64 k, nv]] w fun e w' => ∃ v', e = .returned (.tuple #[v', .int .i64 (listErr T [(k, l)])]) ∧ StrsAt w.heap.size w' v' (if listErr T [(k, l)] = 0 then respL T (k, l) (T.getD 0 []).length else []) ∧ Below w.heap.size w w' := by
  have hBa : Below w.heap.size w (w.alloc (.cells #[.int .i64 k, nv] 30)) := (Below.refl _ _).alloc (Nat.le_refl _) _
  have hBb : Below w.heap.size w ((w.alloc (.cells #[.int .i64 k, nv] 30)).alloc (.cells #[.int .i64 k, nv] 30)) := hBa.alloc (by simp) _
  have hfo := flts_one (k := k) (hN.later hBa)
  have hq := hC T hTz hTb [(k, l)] (by simp) (fun i hi => by
    have : i = 0 := by simpa using hi
    subst this
    exact hl) B _ tv _ (row_later h hBb) hfo
  have hsz1 : (w.alloc (.cells #[.int .i64 k, nv] 30)).heap.size = w.heap.size + 1 := by simp
  rw [hsz1] at hq
  have hcm : combL (T.getD 0 []).length T [(k, l)] = respL T (k, l) (T.getD 0 []).length := rfl
  rw [hcm] at hq
  generalize (if listErr T [(k, l)] = 0 then respL T (k, l) (T.getD 0 []).length else []) = R at hq ⊢
  generalize listErr T [(k, l)] = r3 at hq ⊢
  obtain ⟨ta, tc, rfl, -⟩ := strs_open h
  obtain ⟨na, nc, rfl, -⟩ := hN
  generalize T.length = tl at hq ⊢
  generalize l.length = nl at hq hBb ⊢
  have HB := Lib.hid hBb
  clear hBa hBb h hTz hTb hl hfo hcm hsz1
  go_enter Tryz.func8, Tryz.ntmps8
  go_wp2_with fail
  refine hq.mono ?_
  rintro e w3 ⟨v', rfl, hv', hB3⟩
  obtain ⟨va, vc, rfl, -⟩ := strs_open hv'
  have H3 := Lib.hid (⟨row_base hv' HB.out.size, HB.out.trans (hB3.mono HB.out.size)⟩ : StrsAt w.heap.size w3 _ R ∧ _)
  clear hq hB3 hv'
  go_wp2_with fail
  go_ret2
  exact ⟨_, rfl, H3.out⟩
end Go.Proofs.YtgnkihiibednoaaGreatDoor
