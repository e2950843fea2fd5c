/- The contract of Walk. -/
import Derived.Test.YtoipgliokelcfaaGreatDoorSync
namespace Go.Proofs.YtoipgliokelcfaaGreatDoor
open Go.RowKit

theorem isState_yes (s : Int) (w : World) (h0 : 0 ≤ s) (h1 : s < 16) :
    Calls Tryz.prog 35 #[.int .i64 s] w fun e w' => e = .returned (.bool true) ∧ w = w' := by
  go_enter Tryz.func35, Tryz.ntmps35
  go_wp2
  go_ret
  exact ⟨rfl, rfl⟩
theorem isState_no (s : Int) (w : World) (h : s < 0 ∨ 16 ≤ s) :
    Calls Tryz.prog 35 #[.int .i64 s] w fun e w' => e = .returned (.bool false) ∧ w = w' := by
  rcases h with h | h
  · have h' : decide (0 ≤ s) = false := by simp; omega
    go_enter Tryz.func35, Tryz.ntmps35
    go_wp2
    go_ret
    exact ⟨rfl, rfl⟩
  · have h' : decide (0 ≤ s) = true := by simp; omega
    have h2 : decide (s < 16) = false := by simp; omega
    go_enter Tryz.func35, Tryz.ntmps35
    go_wp2
    go_ret
    exact ⟨rfl, rfl⟩

/-- The first k numbers of the row at block g, which has n numbers, are those of f. -/
def RowOf (w : World) (g n : Nat) (f : Nat → Int) (k : Nat) : Prop :=
  (∀ j, j < n → w.frozen? ⟨g, j, none⟩ = false ∧ ∃ v, w.cell? ⟨g, j, none⟩ = some v) ∧ ∀ j, j < k → w.cell? ⟨g, j, none⟩ = some (.int .i64 (f j))

theorem RowOf.set {w : World} {g n k : Nat} {f : Nat → Int} (h : RowOf w g n f k) (hk : k < n) {u : Int} (hu : u = f k) : RowOf (w.setCell ⟨g, k, none⟩ (.int .i64 u)) g n f (k + 1) := by
  subst hu
  obtain ⟨h1, h2⟩ := h
  obtain ⟨v, hv⟩ := (h1 k hk).2
  have hs := World.cell?_setCell_same _ _ (.int .i64 (f k)) hv
  refine ⟨fun j hj => ⟨by rw [World.frozen?_setCell]; exact (h1 j hj).1, ?_⟩, fun j hj => ?_⟩
  · by_cases e : j = k
    · exact ⟨_, by rw [e]; exact hs⟩
    · obtain ⟨v', hv'⟩ := (h1 j hj).2
      exact ⟨v', by rw [World.cell?_setCell_other _ _ _ _ (by simp; try omega)]; exact hv'⟩
  · by_cases e : j = k
    · rw [e]; exact hs
    · rw [World.cell?_setCell_other _ _ _ _ (by simp; try omega)]; exact h2 j (by omega)

theorem RowOf.of_owns {w : World} {base g n cap : Nat} {e : TypeId} {xs : List Value} (f : Nat → Int) (h : w.ownsRow base e 1 (.slice (some ⟨g, 0, none⟩) n cap) n xs) : RowOf w g n f 0 := by
  obtain ⟨hl, h⟩ := h
  rcases h with ⟨h, _⟩ | ⟨g', cap', cur, hv, hg, hh, hn, hc, hcs, ht⟩
  · simp at h
  · simp at hv
    obtain ⟨rfl, rfl⟩ := hv
    refine ⟨fun j hj => ⟨by simp [World.frozen?, hh], ?_⟩, fun j hj => by omega⟩
    have : j < cur.size := by omega
    exact ⟨cur[j], by simp [World.cell?, hh, this]⟩

theorem Tryz.infoInt : (Tryz.prog.info? 3).map (fun i => (i.zero, i.size, i.bytes)) = some (some (.int .i64 0), 1, 8) := by kernel_rfl

theorem walk_state (s : Int) (tms : ByteArray) (w : World) (h : s < 0 ∨ 16 ≤ s) :
    Calls Tryz.prog 11 #[.int .i64 s, .string tms] w fun e w' => e = .returned (.tuple #[.slice none 0 0, .int .i64 1]) ∧ w = w' := by
  have hcon := isState_no s w h
  clear h
  go_enter Tryz.func11, Tryz.ntmps11
  go_wp2_with fail
  refine hcon.mono ?_
  rintro e w' ⟨rfl, rfl⟩
  go_wp2_with fail
  go_ret2
  exact ⟨rfl, rfl⟩

theorem walk_err (s : Int) (tms : ByteArray) (w : World) (h0 : 0 ≤ s) (h1 : s < 16) (hs : tms.size ≤ 9223372036854775807) (he : clockErr tms ≠ 0) :
    Calls Tryz.prog 11 #[.int .i64 s, .string tms] w fun e w' => e = .returned (.tuple #[.slice none 0 0, .int .i64 (clockErr tms)]) ∧ Below w.heap.size w w' := by
  have hst := isState_yes s w h0 h1
  have hcon := checkClocks_any tms w hs
  have hne : (clockErr tms == 0) = false := by simpa using he
  generalize clockErr tms = c at hcon he hne ⊢
  go_enter Tryz.func11, Tryz.ntmps11
  go_wp2_with fail
  refine hst.mono ?_
  rintro e w' ⟨rfl, rfl⟩
  go_wp2_with fail
  refine hcon.mono ?_
  rintro e w' ⟨rfl, hB⟩
  go_wp2_with fail
  go_ret2
  exact ⟨rfl, hB⟩

theorem walk_ok (s : Nat) (tms : ByteArray) (w : World) (h1 : s < 16) (he : clockErr tms = 0) (hT : Tab w) :
    Calls Tryz.prog 11 #[.int .i64 (s : Int), .string tms] w fun e w' => ∃ g, e = .returned (.tuple #[.slice (some ⟨g, 0, none⟩) tms.size tms.size, .int .i64 0]) ∧ w.heap.size ≤ g ∧
      RowOf w' g tms.size (fun j => (nxs s (tms.data.toList.take (j + 1)) : Int)) tms.size ∧ Below w.heap.size w w' := by
  have hsz := clockErr_size he
  have hbits := clockErr_bits he
  have hst := isState_yes s w (by omega) (by omega)
  have hcon := checkClocks_any tms w (by omega)
  have hlt := hT.lt
  rw [he] at hcon
  clear he
  obtain ⟨i0, hi, hz0, hz1, hz2⟩ := info_parts Tryz.infoInt
  go_enter Tryz.func11, Tryz.ntmps11
  go_wp2_with fail
  refine hst.mono ?_
  rintro e w' ⟨rfl, rfl⟩
  go_wp2_with fail
  refine hcon.mono ?_
  rintro e w1 ⟨rfl, hB⟩
  have hT1 := hT.below hB hlt
  clear hst hcon
  go_wp2_with (at_make; refine wpList_make_full _ rfl (.tmp 18) (.tmp 18) 22 rfl w1.heap.size 3 i0 (.int .i64 0) 1 Tryz.underlying22 hi hz0 hz1 _ _ _ _ tms.size rfl rfl rfl rfl ?b1 ?b2 ?b3 ?_)
  case b1 => rw [hz2]; omega
  case b2 => unfold maxLen; omega
  case b3 => exact Nat.le_refl _
  intro w2 hown hgrow
  have hB2 : Below w.heap.size w w2 := hB.trans ((Below.refl w.heap.size w1).grown hgrow (hB.size) (fun k hk => by cases hk))
  have hrow := RowOf.of_owns (fun j => (nxs s (tms.data.toList.take (j + 1)) : Int)) hown
  have hwg : w.heap.size ≤ w1.heap.size := hB.size
  clear hown hgrow hB hT1
  generalize w1.heap.size = g at hrow hwg ⊢
  go_wp2_with fail
  go_loopw [0, 8, 22] (fun st _ i wr => ∃ k : Nat, k ≤ tms.size ∧ i = .int .i64 (k : Int) ∧ st = .int .i64 (nxs s (tms.data.toList.take k) : Int) ∧ RowOf wr g tms.size (fun j => (nxs s (tms.data.toList.take (j + 1)) : Int)) k ∧ Below w.heap.size w wr) (fun _ _ i _ => tms.size - (intOf i).toNat)
  case atStart => exact ⟨0, Nat.zero_le _, rfl, rfl, hrow, hB2⟩
  case round =>
    obtain ⟨k, hk, rfl, rfl, hrw, hBr⟩ := hrel
    by_cases hlt2 : k < tms.size
    · have hTr := hT.below hBr hlt
      have hsn : Hid (nxs s (tms.data.toList.take (k + 1)) = nx (nxs s (tms.data.toList.take k)) tms[k]) := Lib.hid (by rw [take_snoc _ _ hlt2, nxs_snoc])
      have hcon := fun (W : World) (hW : Tab W) => after_any (nxs s (tms.data.toList.take k)) tms[k] W (nxs_lt _ s h1 (all_take _ k hbits)) (bit_at tms k hlt2 hbits) hW
      have hfz := (hrw.1 k hlt2).1
      obtain ⟨v, hv⟩ := (hrw.1 k hlt2).2
      clear hbits
      go_wp2_with fail
      refine (hcon _ hTr).mono ?_
      rintro e w' ⟨rfl, rfl⟩
      go_wp2_with fail
      go_roundw
      case rel => exact ⟨k + 1, by omega, by go_num, by rw [hsn.out], hrw.set hlt2 (by show _ = ((nxs s (tms.data.toList.take (k + 1)) : Nat) : Int); rw [hsn.out]), hBr.setCell (by simpa using hwg) _⟩
      case measure => simp [intOf]; omega
    · obtain rfl : k = tms.size := by omega
      go_wp2
      go_ret2
      exact ⟨g, rfl, hwg, hrw, hBr⟩
end Go.Proofs.YtoipgliokelcfaaGreatDoor
