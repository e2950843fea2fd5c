/- The walk of LongSequences: it returns true, and turns nothing that was there. -/
import Derived.Test.YtnlejnldimihcaaDoorTapped
namespace Go.Proofs.YtnlejnldimihcaaDoor
open Go.RowKit

/-- So many ones. -/
def ones (c : Nat) : ByteArray := ⟨(Lib.repeatL [49] c).toArray⟩
theorem ones_size (c : Nat) : (ones c).size = c := by
  show (Lib.repeatL [49] c).toArray.size = c
  simp [Lib.repeatL_length]
theorem ones_list (c : Nat) : (ones c).data.toList = Lib.repeatL [49] c := rfl
theorem ones_bits : ∀ c, (Lib.repeatL [49] c).all bitB = true
  | 0 => rfl
  | c + 1 => by
    show ([49] ++ Lib.repeatL [49] c).all bitB = true
    rw [List.all_append, ones_bits c]; rfl
theorem ones_nxs0 : ∀ c, nxs 0 (Lib.repeatL [49] c) = 0
  | 0 => rfl
  | c + 1 => by
    show nxs (nx 0 49) (Lib.repeatL [49] c) = 0
    rw [show nx 0 49 = 0 from by decide]; exact ones_nxs0 c
theorem five : ∀ s, s < 16 → nx (nx (nx (nx (nx s 49) 49) 49) 49) 49 = 0 := by decide
theorem ones_nxs (c s : Nat) (hs : s < 16) : nxs s (Lib.repeatL [49] (c + 5)) = 0 := by
  show nxs (nx (nx (nx (nx (nx s 49) 49) 49) 49) 49) (Lib.repeatL [49] c) = 0
  rw [five s hs]; exact ones_nxs0 c
theorem ones_all (c : Nat) : AllTo (Lib.repeatL [49] (c + 5)) 16 := fun j hj => by rw [ones_nxs c j hj, ones_nxs c 0 (by decide)]
theorem ones_ok {c : Nat} (h : c ≤ 20000) : clockErr (ones c) = 0 := by
  unfold clockErr
  rw [ones_size, if_neg (by omega), ones_list, if_pos (ones_bits c)]
theorem ones_long {c : Nat} (h : 20000 < c) : clockErr (ones c) = 2 := by
  unfold clockErr
  rw [ones_size, if_pos h]

theorem repeated_ones (c : Nat) (N : Int) (hN : N = (c : Int)) (hc : c ≤ 1000000) (w : World) :
    Calls Tryd.prog 22 #[.string ⟨#[49]⟩, .int .i64 N] w fun e w' => e = .returned (.string (ones c)) ∧ Below w.heap.size w w' := by
  subst hN
  exact repeated_any ⟨#[49]⟩ c w (by show 1 * c ≤ _; omega) (by omega)

/-- What the law asks of the slice that it is handed. -/
def RowIn (w : World) (a : Option Addr) (len : Nat) : Prop :=
  len ≤ 140737488355328 ∧ (0 < len → ∃ b off, a = some ⟨b, off, none⟩ ∧ b < w.heap.size ∧ ∀ k, k < len → ∃ z : Int, w.cell? ⟨b, off + k, none⟩ = some (.int .i64 z) ∧ -9223372036854775808 ≤ z ∧ z ≤ 9223372036854775807)

theorem cell_fresh (w : World) (cs : Array Value) (t : TypeId) {j : Nat} {v : Value} (h : cs[j]? = some v) : (w.alloc (.cells cs t)).cell? ⟨w.heap.size, j, none⟩ = some v := by
  have e : (w.alloc (.cells cs t)).heap[w.heap.size]? = some (.cells cs t) := heap_alloc_new w _
  unfold World.cell?
  simp only [e]
  simpa using h
theorem frozen_fresh (w : World) (cs : Array Value) (t : TypeId) (j : Nat) : (w.alloc (.cells cs t)).frozen? ⟨w.heap.size, j, none⟩ = false := by
  have e : (w.alloc (.cells cs t)).heap[w.heap.size]? = some (.cells cs t) := heap_alloc_new w _
  unfold World.frozen?
  simp only [e]
  simp
theorem Strm.start {w : World} {a : Option Addr} {len cap : Nat} (h : RowIn w a len) : Strm (w.alloc (.cells #[.slice a len cap, .int .i64 0] 25)) w.heap.size 0 := by
  obtain ⟨hlen, hrow⟩ := h
  refine ⟨cell_fresh _ _ _ rfl, frozen_fresh _ _ _ _, a, len, cap, cell_fresh _ _ _ rfl, hlen, fun h0 => ?_⟩
  obtain ⟨b, off, e, hb, hz⟩ := hrow h0
  refine ⟨b, off, e, hb, fun k hk => ?_⟩
  obtain ⟨z, hz1, hz2⟩ := hz k hk
  exact ⟨z, by rw [World.cell?_alloc_lt _ _ _ hb]; exact hz1, hz2⟩

theorem pick01 {w : World} (lb : Nat) (hl : lb = w.heap.size) (t : TypeId) : ∀ k, k < 2 → (w.alloc (.cells #[.int .i64 0, .int .i64 1] t)).cell? ⟨lb, 0 + k, none⟩ = some (.int .i64 (k : Int)) := by
  intro k hk
  subst hl
  have : k = 0 ∨ k = 1 := by omega
  rcases this with rfl | rfl <;> exact cell_fresh _ _ _ rfl

set_option maxRecDepth 100000 in
theorem long_any (a : Option Addr) (len cap : Nat) (w : World) (h : RowIn w a len) (hT : Tab w) :
    Calls Tryd.prog 4 #[.slice a len cap] w fun e w' => e = .returned (.bool true) ∧ Below w.heap.size w w' := by
  have hlt := hT.lt
  have hs := Strm.start (cap := cap) h
  go_enter Tryd.func4, Tryd.ntmps4
  go_wp2_with fail
  refine (pick_any w.heap.size 0 (w.heap.size + 1) 0 2 2 (fun k => (k : Int)) _ (hs.alloc _) (by decide) (by decide) (by decide) (by omega) (pick01 (w.heap.size + 1) (by simp) _)).mono ?_
  rintro e w1 ⟨⟨k, hk, rfl⟩, hr⟩
  have hb1 : Below w.heap.size w w1 := (((Below.refl _ _).alloc (Nat.le_refl _) _).alloc (by simp) _).trans (hr.below (by simp; omega))
  have hT1 := hT.below hb1 hlt
  clear hr hs h
  have hk01 : k = 0 ∨ k = 1 := by omega
  rcases hk01 with rfl | rfl
  · have h1 := ones_ok (c := 20000) (by decide)
    have h2 : AllTo (ones 20000).data.toList 16 := ones_all 19995
    have h3 : nxs 0 (ones 20000).data.toList = 0 := ones_nxs 19995 0 (by decide)
    have h4 := ones_size 20000
    have hcon := repeated_ones 20000 20000 rfl (by decide) w1
    generalize ones 20000 = tms at h1 h2 h3 h4 hcon
    have H4 := Lib.hid h4
    clear h4
    go_wp2_with fail
    refine hcon.mono ?_
    rintro e w2 ⟨rfl, hb2⟩
    have hb2' := hb1.trans (hb2.mono hb1.size)
    have hT2 := hT.below hb2' hlt
    have hs := sync_yes tms w2 h1 hT2 h2
    rw [h3] at hs
    clear h3 hcon
    go_wp2_with fail
    refine hs.mono ?_
    rintro e w3 ⟨rfl, hb3⟩
    have hb3' := hb2'.trans (hb3.mono hb2'.size)
    have hT3 := hT.below hb3' hlt
    go_wp2_with fail
    refine (walk_ok 1 tms w3 (by decide) h1 hT3).mono ?_
    rintro e w4 ⟨g, rfl, hg, _, hb4⟩
    have hb4' := hb3'.trans (hb4.mono hb3'.size)
    have hT4 := hT.below hb4' hlt
    rw [H4.out]
    go_wp2_with fail
    refine (when_any _ _ _).mono ?_
    rintro e w' ⟨rfl, rfl⟩
    go_wp2_with fail
    refine (tapped_any _ hT4).mono ?_
    rintro e w5 ⟨rfl, hb5⟩
    go_wp2_with fail
    go_ret
    exact ⟨rfl, hb4'.trans (hb5.mono hb4'.size)⟩
  · have h1 := ones_long (c := 20001) (by decide)
    have h4 := ones_size 20001
    have hcon := repeated_ones 20001 20001 rfl (by decide) w1
    generalize ones 20001 = tms at h1 h4 hcon
    have h5 : tms.size ≤ 9223372036854775807 := by omega
    have hs := fun W => sync_err tms W h5 (by omega)
    have hw := fun W => walk_err 1 tms W (by decide) (by decide) h5 (by omega)
    rw [h1] at hs hw
    clear h1 h4 h5
    go_wp2_with fail
    refine hcon.mono ?_
    rintro e w2 ⟨rfl, hb2⟩
    have hb2' := hb1.trans (hb2.mono hb1.size)
    clear hcon
    go_wp2_with fail
    refine (hs _).mono ?_
    rintro e w3 ⟨rfl, hb3⟩
    have hb3' := hb2'.trans (hb3.mono hb2'.size)
    go_wp2_with fail
    refine (hw _).mono ?_
    rintro e w4 ⟨rfl, hb4⟩
    have hb4' := hb3'.trans (hb4.mono hb3'.size)
    have hT4 := hT.below hb4' hlt
    clear hs hw
    go_wp2_with fail
    refine (when_any _ _ _).mono ?_
    rintro e w' ⟨rfl, rfl⟩
    go_wp2_with fail
    refine (tapped_any _ hT4).mono ?_
    rintro e w5 ⟨rfl, hb5⟩
    go_wp2_with fail
    go_ret
    exact ⟨rfl, hb4'.trans (hb5.mono hb4'.size)⟩
end Go.Proofs.YtnlejnldimihcaaDoor
