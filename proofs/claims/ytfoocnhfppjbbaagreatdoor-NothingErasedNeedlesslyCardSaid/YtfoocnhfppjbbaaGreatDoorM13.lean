/- slices.Equal of equal numbers and of equal operations; the readiness of package flash. -/
import Derived.Test.YtfoocnhfppjbbaaGreatDoorMcZ
import Derived.Laws.StructEq
import Derived.BigQuiet
import Derived.Deep.AppendLies
namespace Go.Proofs.YtfoocnhfppjbbaaGreatDoor
open Go.RowKit

theorem eqInts_same (L : List Int) (hz : L.length ≤ 1000000) (w : World) (v u : Value) (h : NumsAt w v L) (h2 : NumsAt w u L) :
    Calls Tryz.prog 13 #[v, u] w fun e w' => e = .returned (.bool true) ∧ Below w.heap.size w w' := by
  obtain ⟨a, c, rfl, -, hop⟩ := h
  obtain ⟨a2, c2, rfl, -, hop2⟩ := h2
  by_cases h0 : L.length = 0
  · rw [h0]
    refine (Tryz.slices_Equal_int_empty a a2 c 0 c2 w (by omega)).mono ?_
    rintro e w' ⟨rfl, rfl⟩
    exact ⟨rfl, Below.refl _ _⟩
  · obtain ⟨g, o, rfl, -, hc⟩ := hop (by omega)
    obtain ⟨g2, o2, rfl, -, hc2⟩ := hop2 (by omega)
    refine (Tryz.slices_Equal_int g o L.length c g2 o2 L.length c2 L L w (Nat.le_refl _) (Nat.le_refl _) (by omega) (by omega) hc hc2).mono ?_
    rintro e w' ⟨rfl, q, rfl⟩
    exact ⟨by rw [beq_self_eq_true], drewN_below _ _⟩
theorem nums_one (w : World) (x : Int) : NumsAt (w.alloc (.cells #[.int .i64 x] 3)) (.slice (some ⟨w.heap.size, 0, none⟩) 1 1) [x] := by
  refine ⟨_, _, rfl, Nat.le_refl _, fun _ => ⟨w.heap.size, 0, rfl, by simp, fun j hj => ?_⟩⟩
  obtain rfl : j = 0 := by simpa using hj
  exact cell_new1 w #[.int .i64 x] _ rfl
theorem ops_one (w : World) (x y z : Int) : OpsAt (w.alloc (.cells #[.int .i64 x, .int .i64 y, .int .i64 z] 51)) (.slice (some ⟨w.heap.size, 0, none⟩) 1 1) [(x, y, z)] := by
  refine ⟨_, _, rfl, Nat.le_refl _, fun _ => ⟨w.heap.size, 0, rfl, by simp, fun j hj => ?_⟩⟩
  obtain rfl : j = 0 := by simpa using hj
  exact ⟨cell_new1 w _ _ rfl, cell_new1 w _ _ rfl, cell_new1 w _ _ rfl⟩
theorem below_alloc (w : World) (o : Obj) : Below w.heap.size w (w.alloc o) := (Below.refl _ _).alloc (Nat.le_refl _) _
theorem plan_ready : planL [1] [65535] [1] = [(2, 0, 1)] := by decide +kernel
theorem err_ready : twoErr (cmErr [1] [65535]) (cmErr [1] [1]) = 0 := by decide +kernel
end Go.Proofs.YtfoocnhfppjbbaaGreatDoor
/- Package flash: cycles, plain and in memory; the keys of the sequences. -/
namespace Go.Proofs.YtfoocnhfppjbbaaGreatDoor
open Go.RowKit

/-- A cycle: its address, its data. -/
abbrev Cyc := Int × Int
def cellsC (C : List Cyc) : List Value := C.flatMap fun c => [.int .i64 c.1, .int .i64 c.2]
def eraseKey : List Cyc := [(1365, 170), (682, 85), (1365, 128), (1365, 170), (682, 85)]
def progKey : List Cyc := [(1365, 170), (682, 85), (1365, 160)]
/-- The cycles of an operation. -/
def cycOf (S : List Int) (o : Opn) : List Cyc := if o.1 = 1 then eraseKey ++ [(preS S o.2.1.toNat, 48)] else progKey ++ [(o.2.1, o.2.2)]
def cycL (S : List Int) (O : List Opn) : List Cyc := O.flatMap (cycOf S)
theorem cellsC_app (A B : List Cyc) : cellsC (A ++ B) = cellsC A ++ cellsC B := by
  unfold cellsC
  rw [List.flatMap_append]
theorem cellsC_at : ∀ (C : List Cyc) (j : Nat), j < C.length → (cellsC C)[j * 2]? = some (.int .i64 (C.getD j (0, 0)).1) ∧ (cellsC C)[j * 2 + 1]? = some (.int .i64 (C.getD j (0, 0)).2)
  | [], j, h => by simp at h
  | c :: C, 0, _ => ⟨rfl, rfl⟩
  | c :: C, j + 1, h => by
    have h1 := cellsC_at C j (by simpa using h)
    have e : cellsC (c :: C) = .int .i64 c.1 :: .int .i64 c.2 :: cellsC C := rfl
    rw [e, show (j + 1) * 2 = j * 2 + 1 + 1 by omega]
    simpa using h1
theorem cellsC_len : ∀ C : List Cyc, (cellsC C).length = C.length * 2
  | [] => rfl
  | c :: C => by
    show (cellsC C).length + 1 + 1 = _
    rw [cellsC_len C, List.length_cons]
    omega
theorem cellsC_one (C : List Cyc) : ∀ u ∈ cellsC C, u.oneCell' = true := by
  intro u hu
  unfold cellsC at hu
  rw [List.mem_flatMap] at hu
  obtain ⟨c, -, h⟩ := hu
  simp at h
  rcases h with rfl | rfl <;> rfl
theorem cycOf_len (S : List Int) (o : Opn) : (cycOf S o).length ≤ 6 := by
  unfold cycOf
  split <;> simp [eraseKey, progKey]
theorem cycL_take (S : List Int) (O : List Opn) (k : Nat) (hk : k < O.length) : cycL S (O.take (k + 1)) = cycL S (O.take k) ++ cycOf S (O.getD k (0, 0, 0)) := by
  have e : O.getD k (0, 0, 0) = O[k] := by simp [hk]
  unfold cycL
  rw [List.take_succ_eq_append_getElem hk, List.flatMap_append, e]
  simp
theorem cycL_len (S : List Int) : ∀ O : List Opn, (cycL S O).length ≤ 6 * O.length
  | [] => Nat.zero_le _
  | o :: O => by
    show (cycOf S o ++ cycL S O).length ≤ _
    rw [List.length_append, List.length_cons]
    have h1 := cycOf_len S o
    have h2 := cycL_len S O
    omega
/-- The slice value reads as these cycles. -/
def CycsAt (w : World) (v : Value) (C : List Cyc) : Prop :=
  ∃ a c, v = .slice a C.length c ∧ C.length ≤ c ∧ (0 < C.length → ∃ g o, a = some ⟨g, o, none⟩ ∧ g < w.heap.size ∧ ∀ j, j < C.length → w.cell? ⟨g, o + j * 2, none⟩ = some (.int .i64 (C.getD j (0, 0)).1) ∧ w.cell? ⟨g, o + j * 2 + 1, none⟩ = some (.int .i64 (C.getD j (0, 0)).2))
theorem CycsAt.later {w w' : World} {v : Value} {C : List Cyc} (h : CycsAt w v C) (hB : Below w.heap.size w w') : CycsAt w' v C := by
  obtain ⟨a, c, h1, h2, h3⟩ := h
  refine ⟨a, c, h1, h2, fun h0 => ?_⟩
  obtain ⟨g, o, h4, h5, h6⟩ := h3 h0
  exact ⟨g, o, h4, Nat.lt_of_lt_of_le h5 hB.size, fun j hj => ⟨(hB.cell (p := ⟨g, o + j * 2, none⟩) h5).trans (h6 j hj).1, (hB.cell (p := ⟨g, o + j * 2 + 1, none⟩) h5).trans (h6 j hj).2⟩⟩
/-- The slice value owns these cycles. -/
def COwn (B : Nat) (w : World) (v : Value) (C : List Cyc) : Prop := w.ownsRow B 83 2 v C.length (cellsC C)
theorem COwn.at {B : Nat} {w : World} {v : Value} {C : List Cyc} (h : COwn B w v C) : CycsAt w v C := by
  obtain ⟨hl, h⟩ := h
  rcases h with ⟨hv, h⟩ | ⟨g, cap, cur, hv, hg, hh, hnc, hcm, hcs, ht⟩
  · exact ⟨none, 0, by rw [hv, h], by omega, fun h0 => by omega⟩
  · have hgl : g < w.heap.size := (Array.getElem?_eq_some_iff.1 hh).1
    have hcell : ∀ i u, i < C.length * 2 → (cellsC C)[i]? = some u → w.cell? ⟨g, i, none⟩ = some u := by
      intro i u hi hu
      rw [← ht, List.getElem?_take_of_lt hi] at hu
      have h2 : cur[i]? = some u := by simpa using hu
      unfold World.cell?
      simp only [hh]
      simp [h2]
    refine ⟨_, cap, hv, hnc, fun _ => ⟨g, 0, rfl, hgl, fun j hj => ?_⟩⟩
    obtain ⟨h1, h2⟩ := cellsC_at C j hj
    simp only [Nat.zero_add]
    exact ⟨hcell _ _ (by omega) h1, hcell _ _ (by omega) h2⟩
theorem COwn.form {B : Nat} {w : World} {v : Value} {C : List Cyc} (h : COwn B w v C) : ∃ a c, v = .slice a C.length c := by
  obtain ⟨a, c, h1, -⟩ := h.at
  exact ⟨a, c, h1⟩
theorem COwn.below {B : Nat} {w w' : World} {v : Value} {C : List Cyc} (h : COwn B w v C) (hb : Below w.heap.size w w') : COwn B w' v C := row_heap h fun g _ hl => hb.block g hl
theorem COwn.nil (B : Nat) (w : World) : COwn B w (.slice none 0 0) [] := World.ownsRow_nil _ _ _ _
theorem COwn.push {B : Nat} {w : World} {v : Value} {C D : List Cyc} (h : w.ownsRow B 83 2 v (C.length + D.length) (cellsC C ++ cellsC D)) : COwn B w v (C ++ D) := by
  unfold COwn
  rw [cellsC_app, List.length_append]
  exact h
theorem cells_list (w : World) (l : List Value) (t : TypeId) : ∀ j u, l[j]? = some u → (w.alloc (.cells l.toArray t)).cell? ((⟨w.heap.size, 0, none⟩ : Addr).add j) = some u := by
  intro j u hj
  rw [show (⟨w.heap.size, 0, none⟩ : Addr).add j = ⟨w.heap.size, j, none⟩ by simp [Addr.add]; exact fun h => h.symm]
  exact cell_new1 _ _ _ (by simpa using hj)
theorem CycsAt.cells {w : World} {g o n c : Nat} {C : List Cyc} (hn : n = C.length) (h0 : 0 < n) (h : CycsAt w (.slice (some ⟨g, o, none⟩) n c) C) : ∀ j u, (cellsC C)[j]? = some u → w.cell? ((⟨g, o, none⟩ : Addr).add j) = some u := by
  intro j u hj
  obtain ⟨a', c', h1, -, h3⟩ := h
  injection h1 with x1 x2 x3
  obtain ⟨g', o', h4, -, h6⟩ := h3 (by omega)
  rw [← x1] at h4
  injection h4 with h4
  injection h4 with h4 h7
  subst h4
  subst h7
  have hl := (List.getElem?_eq_some_iff.1 hj).1
  rw [cellsC_len] at hl
  obtain ⟨e1, e2⟩ := cellsC_at C (j / 2) (by omega)
  obtain ⟨f1, f2⟩ := h6 (j / 2) (by omega)
  rw [show (⟨g, o, none⟩ : Addr).add j = ⟨g, o + j, none⟩ by simp [Addr.add]]
  rcases Nat.mod_two_eq_zero_or_one j with hm | hm
  · have hj2 : j / 2 * 2 = j := by omega
    rw [hj2] at e1 f1
    rw [e1] at hj
    rw [f1, ← hj]
  · have hj2 : j / 2 * 2 + 1 = j := by omega
    have hj3 : o + j / 2 * 2 + 1 = o + j := by omega
    rw [hj2] at e2
    rw [hj3] at f2
    rw [e2] at hj
    rw [f2, ← hj]
theorem Tryz.infoCyc : (Tryz.prog.info? 83).map (fun i => (i.zero, i.size, i.bytes)) = some (some (.agg #[.int .i64 0, .int .i64 0]), 2, 16) := by kernel_rfl
set_option maxRecDepth 100000 in
theorem eraseStart_any (w : World) : Calls Tryz.prog 38 #[] w fun e w' => e = .returned (.slice (some ⟨w.heap.size, 0, none⟩) 5 5) ∧ w' = w.alloc (.cells (cellsC eraseKey).toArray 83) := by
  go_enter Tryz.func38, Tryz.ntmps38
  go_wp2_with fail
  go_ret
  exact ⟨rfl, rfl⟩
set_option maxRecDepth 100000 in
theorem programStart_any (w : World) : Calls Tryz.prog 39 #[] w fun e w' => e = .returned (.slice (some ⟨w.heap.size, 0, none⟩) 3 3) ∧ w' = w.alloc (.cells (cellsC progKey).toArray 83) := by
  go_enter Tryz.func39, Tryz.ntmps39
  go_wp2_with fail
  go_ret
  exact ⟨rfl, rfl⟩
end Go.Proofs.YtfoocnhfppjbbaaGreatDoor
