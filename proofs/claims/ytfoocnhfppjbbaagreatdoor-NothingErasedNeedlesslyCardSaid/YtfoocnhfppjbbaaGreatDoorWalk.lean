/- The contract of Walk. -/
import Derived.Test.YtfoocnhfppjbbaaGreatDoorSync
namespace Go.Proofs.YtfoocnhfppjbbaaGreatDoor
open Go.RowKit

theorem isState_yes (s : Int) (w : World) (h0 : 0 ≤ s) (h1 : s < 16) :
    Calls Tryz.prog 44 #[.int .i64 s] w fun e w' => e = .returned (.bool true) ∧ w = w' := by
  go_enter Tryz.func44, Tryz.ntmps44
  go_wp2
  go_ret
  exact ⟨rfl, rfl⟩
theorem isState_no (s : Int) (w : World) (h : s < 0 ∨ 16 ≤ s) :
    Calls Tryz.prog 44 #[.int .i64 s] w fun e w' => e = .returned (.bool false) ∧ w = w' := by
  rcases h with h | h
  · have h' : decide (0 ≤ s) = false := by simp; omega
    go_enter Tryz.func44, Tryz.ntmps44
    go_wp2
    go_ret
    exact ⟨rfl, rfl⟩
  · have h' : decide (0 ≤ s) = true := by simp; omega
    have h2 : decide (s < 16) = false := by simp; omega
    go_enter Tryz.func44, Tryz.ntmps44
    go_wp2
    go_ret
    exact ⟨rfl, rfl⟩

/-- The first k numbers of the row at block g, which has n numbers, are those of f. -/
def RowOf (w : World) (g n : Nat) (f : Nat → Int) (k : Nat) : Prop :=
  (∀ j, j < n → w.frozen? ⟨g, j, none⟩ = false ∧ ∃ v, w.cell? ⟨g, j, none⟩ = some v) ∧ ∀ j, j < k → w.cell? ⟨g, j, none⟩ = some (.int .i64 (f j))

theorem RowOf.set {w : World} {g n k : Nat} {f : Nat → Int} (h : RowOf w g n f k) (hk : k < n) {u : Int} (hu : u = f k) : RowOf (w.setCell ⟨g, k, none⟩ (.int .i64 u)) g n f (k + 1) := by
  subst hu
  obtain ⟨h1, h2⟩ := h
  obtain ⟨v, hv⟩ := (h1 k hk).2
  have hs := World.cell?_setCell_same _ _ (.int .i64 (f k)) hv
  refine ⟨fun j hj => ⟨by rw [World.frozen?_setCell]; exact (h1 j hj).1, ?_⟩, fun j hj => ?_⟩
  · by_cases e : j = k
    · exact ⟨_, by rw [e]; exact hs⟩
    · obtain ⟨v', hv'⟩ := (h1 j hj).2
      exact ⟨v', by rw [World.cell?_setCell_other _ _ _ _ (by simp; try omega)]; exact hv'⟩
  · by_cases e : j = k
    · rw [e]; exact hs
    · rw [World.cell?_setCell_other _ _ _ _ (by simp; try omega)]; exact h2 j (by omega)

theorem RowOf.of_owns {w : World} {base g n cap : Nat} {e : TypeId} {xs : List Value} (f : Nat → Int) (h : w.ownsRow base e 1 (.slice (some ⟨g, 0, none⟩) n cap) n xs) : RowOf w g n f 0 := by
  obtain ⟨hl, h⟩ := h
  rcases h with ⟨h, _⟩ | ⟨g', cap', cur, hv, hg, hh, hn, hc, hcs, ht⟩
  · simp at h
  · simp at hv
    obtain ⟨rfl, rfl⟩ := hv
    refine ⟨fun j hj => ⟨by simp [World.frozen?, hh], ?_⟩, fun j hj => by omega⟩
    have : j < cur.size := by omega
    exact ⟨cur[j], by simp [World.cell?, hh, this]⟩

theorem Tryz.infoInt : (Tryz.prog.info? 3).map (fun i => (i.zero, i.size, i.bytes)) = some (some (.int .i64 0), 1, 8) := by kernel_rfl

end Go.Proofs.YtfoocnhfppjbbaaGreatDoor
