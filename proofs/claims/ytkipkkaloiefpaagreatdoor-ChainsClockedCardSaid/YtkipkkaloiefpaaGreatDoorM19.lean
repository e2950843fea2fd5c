/- Devices that the stream makes: the list of them. -/
import Derived.Test.YtkipkkaloiefpaaGreatDoorDvsC
import Derived.Test.YtkipkkaloiefpaaGreatDoorM5
import Derived.Test.YtkipkkaloiefpaaGreatDoorNewQ
namespace Go.Proofs.YtkipkkaloiefpaaGreatDoor
open Go.RowKit Go.Maps

/-- A device's cells in a row. -/
def dCells (q : Dev × Plc) : List Value := [.string q.1.name, .int .i64 q.1.long, .int .i64 q.1.id, .slice q.2.ra q.1.regs.n q.2.rc, .slice q.2.ia q.1.ins.n q.2.ic]
/-- The parts of a device lie in blocks from lo on, none of them the row's, and may be written. -/
structure DevP (lo : Nat) (w : World) (v : Value) (q : Dev × Plc) : Prop where
  ok : DevOk w.heap.size w q.1 q.2
  regs : ∀ x, q.2.ra = some x → lo ≤ x.block ∧ x.block < w.heap.size ∧ some x.block ≠ v.ownBlock ∧ ∀ j, w.frozen? ⟨x.block, j, none⟩ = false
  ins : ∀ x, q.2.ia = some x → lo ≤ x.block ∧ x.block < w.heap.size ∧ some x.block ≠ v.ownBlock ∧ ∀ j, w.frozen? ⟨x.block, j, none⟩ = false
  long : 0 ≤ q.1.long ∧ q.1.long ≤ 1000

theorem RegsAt.over {B : Nat} {w w' : World} {a : Option Addr} {r : Regs} (h : RegsAt B w a r) (hb : ∀ x, a = some x → w'.heap[x.block]? = w.heap[x.block]?) : RegsAt B w' a r := by
  refine ⟨h.n_le, fun h0 => ?_⟩
  obtain ⟨b, off, rfl, hl, hc⟩ := h.cells h0
  have e := hb _ rfl
  exact ⟨b, off, rfl, hl, fun k hk => ⟨(World.cell?_of_block (a := ⟨b, off + k * 2, none⟩) e).trans (hc k hk).1, (World.cell?_of_block (a := ⟨b, off + k * 2 + 1, none⟩) e).trans (hc k hk).2.1, (hc k hk).2.2⟩⟩
theorem InsAt.over {B : Nat} {w w' : World} {a : Option Addr} {r : Inss} (h : InsAt B w a r) (hb : ∀ x, a = some x → w'.heap[x.block]? = w.heap[x.block]?) : InsAt B w' a r := by
  refine ⟨h.n_le, fun h0 => ?_⟩
  obtain ⟨b, off, rfl, hl, hc⟩ := h.cells h0
  have e := hb _ rfl
  exact ⟨b, off, rfl, hl, fun k hk => ⟨(World.cell?_of_block (a := ⟨b, off + k * 2, none⟩) e).trans (hc k hk).1, (World.cell?_of_block (a := ⟨b, off + k * 2 + 1, none⟩) e).trans (hc k hk).2.1, (hc k hk).2.2⟩⟩
/-- They stay where the blocks of the parts stay. -/
theorem DevP.over {lo : Nat} {w w' : World} {v v' : Value} {q : Dev × Plc} (h : DevP lo w v q) (hs : w.heap.size ≤ w'.heap.size) (hb : ∀ b, b < w.heap.size → lo ≤ b → some b ≠ v.ownBlock → w'.heap[b]? = w.heap[b]?) (hv : ∀ b, b < w.heap.size → some b ≠ v.ownBlock → some b ≠ v'.ownBlock) : DevP lo w' v' q := by
  have hf : ∀ b j, b < w.heap.size → lo ≤ b → some b ≠ v.ownBlock → w'.frozen? ⟨b, j, none⟩ = w.frozen? ⟨b, j, none⟩ := fun b j h1 h2 h3 => World.frozen?_of_block (a := ⟨b, j, none⟩) (hb b h1 h2 h3)
  exact ⟨⟨(h.ok.regs.over (fun x hx => hb _ (h.regs x hx).2.1 (h.regs x hx).1 (h.regs x hx).2.2.1)).up hs, (h.ok.ins.over (fun x hx => hb _ (h.ins x hx).2.1 (h.ins x hx).1 (h.ins x hx).2.2.1)).up hs, h.ok.name, h.ok.capR, h.ok.capI⟩,
    fun x hx => ⟨(h.regs x hx).1, Nat.lt_of_lt_of_le (h.regs x hx).2.1 hs, hv _ (h.regs x hx).2.1 (h.regs x hx).2.2.1, fun j => (hf _ _ (h.regs x hx).2.1 (h.regs x hx).1 (h.regs x hx).2.2.1).trans ((h.regs x hx).2.2.2 j)⟩,
    fun x hx => ⟨(h.ins x hx).1, Nat.lt_of_lt_of_le (h.ins x hx).2.1 hs, hv _ (h.ins x hx).2.1 (h.ins x hx).2.2.1, fun j => (hf _ _ (h.ins x hx).2.1 (h.ins x hx).1 (h.ins x hx).2.2.1).trans ((h.ins x hx).2.2.2 j)⟩, h.long⟩

/-- A device that has been made. -/
theorem DVar.made {sb t K : Nat} {Wk : World} {db : Nat} {name : ByteArray} {long id : Int} {v u : Value} {rn inn : Nat} {W : World} (h : DVar sb t K Wk db name long id v u rn inn W) (hl : 0 ≤ long ∧ long ≤ 1000) (h1 : rn ≤ 1000) (h2 : inn ≤ 1000) {o : Value} {lo : Nat} (hlo : lo ≤ Wk.heap.size) (ho : ∀ g, o.ownBlock = some g → g < Wk.heap.size) :
    ∃ q : Dev × Plc, dCells q = [.string name, .int .i64 long, .int .i64 id, v, u] ∧ DevP lo W o q := by
  obtain ⟨xs, hr, hx⟩ := h.regs
  obtain ⟨ys, hi, hy⟩ := h.ins
  obtain ⟨ra, rc, rfl⟩ := row_shape hr
  obtain ⟨ia, ic, rfl⟩ := row_shape hi
  have hfz : ∀ {e n : Nat} {a : Option Addr} {c : Nat} {zs : List Value}, W.ownsRow Wk.heap.size e 2 (.slice a n c) n zs → ∀ x, a = some x → lo ≤ x.block ∧ x.block < W.heap.size ∧ some x.block ≠ o.ownBlock ∧ ∀ j, W.frozen? ⟨x.block, j, none⟩ = false := fun {e n a c zs} hrow x hx => by
    subst hx
    have hb := hrow.lt x.block rfl
    refine ⟨by omega, hb.2, fun e => by have := ho _ e.symm; omega, fun j => ?_⟩
    obtain ⟨_, ⟨e1, _⟩ | ⟨g, cap, cur, e1, _, hh, _⟩⟩ := hrow
    · simp at e1
    · simp at e1
      rw [e1.1]
      exact frozen_of hh j
  have hcap : ∀ {e n : Nat} {a : Option Addr} {c : Nat} {zs : List Value}, W.ownsRow Wk.heap.size e 2 (.slice a n c) n zs → n ≤ c := fun {e n a c zs} hrow => by
    obtain ⟨_, ⟨e1, h0⟩ | ⟨g, cap, cur, e1, _, _, hn, _⟩⟩ := hrow
    · omega
    · simp at e1
      omega
  exact ⟨(⟨name, long, id, regsOf xs rn, inssOf ys inn⟩, ⟨ra, rc, ia, ic⟩), rfl, ⟨⟨regs_at hr hx h1, inss_at hi hy h2, h.nz, hcap hr, hcap hi⟩, hfz hr, hfz hi, hl⟩⟩

/-- The devices so far: out's value is v. -/
structure DevsI (sb T lo k : Nat) (W0 : World) (v : Value) (W : World) : Prop where
  lt : sb < W0.heap.size
  lo_le : W0.heap.size ≤ lo
  ran : Ran sb 0 T W0 W
  row : ∃ ds : List (Dev × Plc), ds.length = k ∧ W.ownsRow lo 48 5 v k (ds.flatMap dCells) ∧ ∀ q, q ∈ ds → DevP lo W v q
theorem DevsI.kept {sb T T' lo k : Nat} {W0 W W' : World} {v : Value} (h : DevsI sb T lo k W0 v W) (hr : Ran sb 0 T' W0 W') (hs : W.heap.size ≤ W'.heap.size) (hb : ∀ b, b < W.heap.size → lo ≤ b → W'.heap[b]? = W.heap[b]?) : DevsI sb T' lo k W0 v W' := by
  obtain ⟨ds, h1, h2, h3⟩ := h.row
  exact ⟨h.lt, h.lo_le, hr, ds, h1, row_any h2 (fun g hg => hb g (h2.lt g hg).2 (h2.lt g hg).1), fun q hq => (h3 q hq).over hs (fun b hl h5 _ => hb b hl h5) (fun b _ h5 => h5)⟩
/-- A device more. -/
theorem DevsI.push {sb T T' lo k : Nat} {W0 W W' w4 : World} {v : Value} {g cap : Nat} {q : Dev × Plc} (h : DevsI sb T lo k W0 v W) (hr : Ran sb 0 T' W0 W') (hs : W.heap.size ≤ W'.heap.size) (hb : ∀ b, b < W.heap.size → lo ≤ b → W'.heap[b]? = W.heap[b]?) (hq : DevP lo W' v q) (ds : List (Dev × Plc)) (hd1 : ds.length = k) (hd2 : W.ownsRow lo 48 5 v k (ds.flatMap dCells)) (hd3 : ∀ q, q ∈ ds → DevP lo W v q)
    (hown : w4.ownsRow lo 48 5 (.slice (some ⟨g, 0, none⟩) (k + 1) cap) (k + 1) (ds.flatMap dCells ++ dCells q)) (hg : W'.grownBy w4 v.ownBlock) (hat : v.ownBlock = some g ∨ W'.heap.size ≤ g) : DevsI sb T' lo (k + 1) W0 (.slice (some ⟨g, 0, none⟩) (k + 1) cap) w4 := by
  have hlo := h.lo_le
  have hvb := fun x hx => (hd2.lt x hx).1
  have hv2 : ∀ b, b < W'.heap.size → some b ≠ v.ownBlock → some b ≠ (Value.slice (some ⟨g, 0, none⟩) (k + 1) cap).ownBlock := fun b hl hne e => by
    have e2 : b = g := by simpa [Value.ownBlock] using e
    subst e2
    rcases hat with hat | hat
    · exact hne hat.symm
    · omega
  refine ⟨h.lt, h.lo_le, hr.grown hg (fun x hx => by have := hvb x hx; omega) h.lt, ds ++ [q], by simp [hd1], ?_, fun q' hq' => ?_⟩
  · rw [List.flatMap_append]
    simpa using hown
  · rcases List.mem_append.1 hq' with h5 | h5
    · exact (((hd3 q' h5).over (v' := v) hs (fun b hl h6 _ => hb b hl h6) (fun b _ h6 => h6))).over hg.size (fun b hl _ hne => hg.block b hl hne) hv2
    · obtain rfl : q' = q := by simpa using h5
      exact hq.over hg.size (fun b hl _ hne => hg.block b hl hne) hv2

def dvNil : Dev × Plc := (⟨⟨#[]⟩, 0, 0, ⟨0, fun _ => ⟨#[]⟩, fun _ => 0⟩, ⟨0, fun _ => ⟨#[]⟩, fun _ => ⟨#[]⟩⟩⟩, ⟨none, 0, none, 0⟩)
def devsOf (ds : List (Dev × Plc)) : Devs := ⟨ds.length, fun k => (ds.getD k dvNil).1, fun k => (ds.getD k dvNil).2⟩
theorem flat_at : ∀ (ds : List (Dev × Plc)) (k j : Nat), k < ds.length → j < 5 → (ds.flatMap dCells)[k * 5 + j]? = (dCells (ds.getD k dvNil))[j]?
  | [], k, j, hk, _ => absurd hk (Nat.not_lt_zero k)
  | q :: ds, 0, j, _, hj => by
    rw [List.flatMap_cons, List.getElem?_append_left (by show 0 * 5 + j < 5; omega), Nat.zero_mul, Nat.zero_add]
    rfl
  | q :: ds, k + 1, j, hk, hj => by
    rw [List.flatMap_cons, List.getElem?_append_right (by show 5 ≤ _; omega)]
    have e : (k + 1) * 5 + j - (dCells q).length = k * 5 + j := by show (k + 1) * 5 + j - 5 = _; omega
    rw [e, flat_at ds k j (by simpa using hk) hj]
    rfl
/-- The devices in memory. -/
theorem DevsI.at {sb T lo k : Nat} {W0 W : World} {v : Value} (h : DevsI sb T lo k W0 v W) (hk : k ≤ 1000) : ∃ (a : Option Addr) (cap : Nat) (r : Devs), v = .slice a r.n cap ∧ r.n = k ∧ r.n ≤ cap ∧ DevsAt W.heap.size W a r ∧ FarA sb a ∧ (∀ j, j < r.n → FarA sb (r.plc j).ra ∧ FarA sb (r.plc j).ia) ∧
    ∀ j, j < r.n → ∃ g, a = some ⟨g, 0, none⟩ ∧ DevHere W0.heap.size W g (j * 5) (r.dev j) (r.plc j) := by
  have hlt := h.lt
  have hlo := h.lo_le
  obtain ⟨ds, rfl, h2, h3⟩ := h.row
  have hq : ∀ j, j < ds.length → DevP lo W v (ds.getD j dvNil) := fun j hj => h3 _ (by
    rw [List.getD_eq_getElem?_getD, List.getElem?_eq_getElem hj]
    exact List.getElem_mem hj)
  have hfar : ∀ j, j < ds.length → FarA sb ((devsOf ds).plc j).ra ∧ FarA sb ((devsOf ds).plc j).ia := fun j hj => ⟨fun x hx => by have := ((hq j hj).regs x hx).1; omega, fun x hx => by have := ((hq j hj).ins x hx).1; omega⟩
  obtain ⟨hl, ⟨rfl, h0⟩ | ⟨g, cap, cur, rfl, hg, hh, hn, hr⟩⟩ := h2
  · exact ⟨none, 0, devsOf ds, by show _ = Value.slice none ds.length 0; rw [h0], rfl, by show ds.length ≤ 0; omega, ⟨hk, fun h5 => absurd h5 (by show ¬ 0 < ds.length; omega)⟩, (fun x hx => by cases hx), hfar, fun j hj => absurd hj (by show ¬ j < ds.length; omega)⟩
  · have hrow : W.ownsRow lo 48 5 (.slice (some ⟨g, 0, none⟩) ds.length cap) ds.length (ds.flatMap dCells) := ⟨hl, .inr ⟨g, cap, cur, rfl, hg, hh, hn, hr⟩⟩
    have hgl := blk_lt hh
    have hc : ∀ j i, j < ds.length → i < 5 → W.cell? ⟨g, j * 5 + i, none⟩ = (dCells (ds.getD j dvNil))[i]? := fun j i hj hi => (hrow.cellAt (j * 5 + i) (by omega)).trans (flat_at ds j i hj hi)
    refine ⟨some ⟨g, 0, none⟩, cap, devsOf ds, rfl, rfl, hn, ⟨hk, fun _ => ⟨g, 0, rfl, hgl, fun j hj => ?_⟩⟩, (fun x hx => by cases hx; show g ≠ sb; omega), hfar, fun j hj => ⟨g, rfl, by omega, ?_, frozen_of hh, (hq j hj).ok, fun x hx => ⟨by have := ((hq j hj).regs x hx).1; omega, ((hq j hj).regs x hx).2.2.2⟩, fun x hx => ⟨by have := ((hq j hj).ins x hx).1; omega, ((hq j hj).ins x hx).2.2.2⟩, (hq j hj).long⟩⟩
    · rw [Nat.zero_add]
      exact ⟨⟨hc j 0 hj (by decide), hc j 1 hj (by decide), hc j 2 hj (by decide), hc j 3 hj (by decide), hc j 4 hj (by decide)⟩, (hq j hj).ok⟩
    · exact ⟨hc j 0 hj (by decide), hc j 1 hj (by decide), hc j 2 hj (by decide), hc j 3 hj (by decide), hc j 4 hj (by decide)⟩
end Go.Proofs.YtkipkkaloiefpaaGreatDoor
/- The region in which a device gets an instruction more: what is so in whatever order its operations come. -/
namespace Go.Proofs.YtkipkkaloiefpaaGreatDoor
open Go.RowKit Go.Maps

/-- What waits for what. -/
def d20 : List (Nat × Nat) := [(3, 2), (8, 5), (8, 7), (9, 3), (9, 8), (10, 9), (12, 10), (12, 11), (14, 12), (14, 13), (15, 14), (16, 1), (16, 15), (18, 17), (18, 16)]
/-- The values. -/
def v20 (db : Nat) (u : Value) (long : Int) (sc zs sx : ByteArray) (c : Nat) : Nat → Value → Prop
  | 0, v | 17, v => v = .pointer (some ⟨db, 4, none⟩)
  | 2, v | 4, v => v = .pointer (some ⟨db, 1, none⟩)
  | 1, v => v = u
  | 3, v | 5, v => v = .int .i64 long
  | 6, v | 11, v => v = .string sc
  | 7, v | 8, v => v = .int .i64 (sc.size : Int)
  | 9, v => v = .int .i64 (c : Int)
  | 10, v => v = .string zs
  | 12, v => v = .string (zs ++ sc)
  | 13, v => v = .string sx
  | 14, v => v = .agg #[.string (zs ++ sc), .string sx]
  | _, _ => True
/-- Appended, not yet stored. -/
def App20 (sb t K : Nat) (Wk : World) (db : Nat) (name : ByteArray) (long id : Int) (v u : Value) (rn inn : Nat) (tx sx : ByteArray) (w : World) (x : Value) : Prop :=
  ∃ (g cap : Nat) (ys : List Value) (w0 : World), x = .slice (some ⟨g, 0, none⟩) (inn + 1) cap ∧ DVar sb t K Wk db name long id v u rn inn w0 ∧ w0.ownsRow Wk.heap.size 55 2 u inn ys ∧ InsL ys ∧
    w.ownsRow Wk.heap.size 55 2 (.slice (some ⟨g, 0, none⟩) (inn + 1) cap) (inn + 1) (ys ++ [.string tx, .string sx]) ∧ w0.grownBy w u.ownBlock
structure S20 (sb t K : Nat) (Wk : World) (db : Nat) (name : ByteArray) (long id : Int) (v u : Value) (rn inn : Nat) (sc zs sx : ByteArray) (c : Nat) (l : Array Bool) (sv : Nat → Value) (w : World) : Prop where
  n : l.size = 19
  vals : ∀ k, k < 19 → l[k]?.getD false = true → v20 db u long sc zs sx c k (sv k)
  dep : ∀ i j, (i, j) ∈ d20 → l[i]?.getD false = true → l[j]?.getD false = true
  a0 : l[16]?.getD false = false → DVar sb t K Wk db name long id v u rn inn w
  a15 : l[15]?.getD false = true → l[16]?.getD false = false → ∃ nb, sv 15 = .slice (some ⟨nb, 0, none⟩) 1 1 ∧ w.heap[nb]? = some (.cells #[.string (zs ++ sc), .string sx] 55)
  a1 : l[16]?.getD false = true → l[18]?.getD false = false → App20 sb t K Wk db name long id v u rn inn (zs ++ sc) sx w (sv 16)
  a2 : l[18]?.getD false = true → ∃ x, DVar sb t K Wk db name long id v x rn (inn + 1) w

theorem fl_set {l : Array Bool} {i k : Nat} (hi : i < l.size) (h : l[k]?.getD false = true) : (l.setIfInBounds i true)[k]?.getD false = true := by
  by_cases e : k = i
  · subst e
    rw [Array.getElem?_setIfInBounds_self_of_lt hi]
    rfl
  · rw [flag_other l i k e]
    exact h
theorem fl_off {l : Array Bool} {k : Nat} (h : ¬ l[k]?.getD false = true) : l[k]?.getD false = false := by simpa using h

section
variable {sb t K : Nat} {Wk : World} {db : Nat} {name : ByteArray} {long id : Int} {v u : Value} {rn inn : Nat} {sc zs sx : ByteArray} {c : Nat} {l : Array Bool} {sv : Nat → Value} {w : World}
theorem S20.vals_set (h : S20 sb t K Wk db name long id v u rn inn sc zs sx c l sv w) (i : Nat) (x : Value) (hx : v20 db u long sc zs sx c i x) : ∀ k, k < 19 → (l.setIfInBounds i true)[k]?.getD false = true → v20 db u long sc zs sx c k (if k = i then x else sv k) := fun k hk hl => by
  by_cases e : k = i
  · subst e
    rw [if_pos rfl]
    exact hx
  · rw [if_neg e]
    rw [flag_other l i k e] at hl
    exact h.vals k hk hl
theorem S20.dep_set (h : S20 sb t K Wk db name long id v u rn inn sc zs sx c l sv w) (i : Nat) (hi : i < 19) (hd : ∀ j, (i, j) ∈ d20 → l[j]?.getD false = true) : ∀ a b, (a, b) ∈ d20 → (l.setIfInBounds i true)[a]?.getD false = true → (l.setIfInBounds i true)[b]?.getD false = true := fun a b hab hl => by
  have hn := h.n
  by_cases e : a = i
  · subst e
    exact fl_set (by omega) (hd b hab)
  · rw [flag_other l i a e] at hl
    exact fl_set (by omega) (h.dep a b hab hl)
/-- An operation that turns nothing. -/
theorem S20.pure (h : S20 sb t K Wk db name long id v u rn inn sc zs sx c l sv w) (i : Nat) (hi : i < 15 ∨ i = 17) (x : Value) (hx : v20 db u long sc zs sx c i x) (hd : ∀ j, (i, j) ∈ d20 → l[j]?.getD false = true) : S20 sb t K Wk db name long id v u rn inn sc zs sx c (l.setIfInBounds i true) (fun k => if k = i then x else sv k) w := by
  have e16 := flag_other l i 16 (by omega)
  have e15 := flag_other l i 15 (by omega)
  have e18 := flag_other l i 18 (by omega)
  refine ⟨Array.size_setIfInBounds.trans h.n, h.vals_set i x hx, h.dep_set i (by omega) hd, fun e => h.a0 (e16.symm.trans e), fun e1 e2 => ?_, fun e1 e2 => ?_, fun e => h.a2 (e18.symm.trans e)⟩
  · show ∃ nb, (if 15 = i then x else sv 15) = _ ∧ _
    rw [if_neg (by omega)]
    exact h.a15 (e15.symm.trans e1) (e16.symm.trans e2)
  · show App20 _ _ _ _ _ _ _ _ _ _ _ _ _ _ _ (if 16 = i then x else sv 16)
    rw [if_neg (by omega)]
    exact h.a1 (e16.symm.trans e1) (e18.symm.trans e2)
/-- Behind what is not yet done. -/
theorem S20.no16 (h : S20 sb t K Wk db name long id v u rn inn sc zs sx c l sv w) (hx : ¬ l[1]?.getD false = true ∨ ¬ l[3]?.getD false = true ∨ ¬ l[5]?.getD false = true ∨ ¬ l[10]?.getD false = true ∨ ¬ l[15]?.getD false = true) : l[16]?.getD false = false := by
  refine fl_off fun e => ?_
  have h1 := h.dep 16 1 (by decide) e
  have h15 := h.dep 16 15 (by decide) e
  have h10 := h.dep 12 10 (by decide) (h.dep 14 12 (by decide) (h.dep 15 14 (by decide) h15))
  have h9 := h.dep 10 9 (by decide) h10
  have h3 := h.dep 9 3 (by decide) h9
  have h5 := h.dep 8 5 (by decide) (h.dep 9 8 (by decide) h9)
  rcases hx with hx | hx | hx | hx | hx
  · exact hx h1
  · exact hx h3
  · exact hx h5
  · exact hx h10
  · exact hx h15
theorem S20.no18 (h : S20 sb t K Wk db name long id v u rn inn sc zs sx c l sv w) (hx : l[16]?.getD false = false) : l[18]?.getD false = false := fl_off fun e => by
  have := h.dep 18 16 (by decide) e
  rw [hx] at this
  cases this
/-- Repeat. -/
theorem S20.rep (h : S20 sb t K Wk db name long id v u rn inn sc zs sx c l sv w) (hoff : ¬ l[10]?.getD false = true) {w2 : World} (hB : Below w.heap.size w w2) (hd : ∀ j, (10, j) ∈ d20 → l[j]?.getD false = true) : S20 sb t K Wk db name long id v u rn inn sc zs sx c (l.setIfInBounds 10 true) (fun k => if k = 10 then .string zs else sv k) w2 := by
  have e16 := h.no16 (.inr (.inr (.inr (.inl hoff))))
  have e18 := h.no18 e16
  have e15 : l[15]?.getD false = false := fl_off fun e => hoff (h.dep 12 10 (by decide) (h.dep 14 12 (by decide) (h.dep 15 14 (by decide) e)))
  refine ⟨Array.size_setIfInBounds.trans h.n, h.vals_set 10 _ rfl, h.dep_set 10 (by decide) hd, fun _ => (h.a0 e16).below hB, fun e1 _ => ?_, fun e1 _ => ?_, fun e => ?_⟩
  · rw [flag_other l 10 15 (by decide), e15] at e1
    cases e1
  · rw [flag_other l 10 16 (by decide), e16] at e1
    cases e1
  · rw [flag_other l 10 18 (by decide), e18] at e
    cases e
/-- The element's own block. -/
theorem S20.lay (h : S20 sb t K Wk db name long id v u rn inn sc zs sx c l sv w) (hoff : ¬ l[15]?.getD false = true) (hd : ∀ j, (15, j) ∈ d20 → l[j]?.getD false = true) : S20 sb t K Wk db name long id v u rn inn sc zs sx c (l.setIfInBounds 15 true) (fun k => if k = 15 then .slice (some ⟨w.heap.size, 0, none⟩) 1 1 else sv k) (w.alloc (.cells #[.string (zs ++ sc), .string sx] 55)) := by
  have e16 := h.no16 (.inr (.inr (.inr (.inr hoff))))
  have e18 := h.no18 e16
  refine ⟨Array.size_setIfInBounds.trans h.n, h.vals_set 15 _ trivial, h.dep_set 15 (by decide) hd, fun _ => (h.a0 e16).alloc _, fun _ _ => ⟨w.heap.size, rfl, heap_alloc_new w _⟩, fun e1 _ => ?_, fun e => ?_⟩
  · rw [flag_other l 15 16 (by decide), e16] at e1
    cases e1
  · rw [flag_other l 15 18 (by decide), e18] at e
    cases e
/-- The append. -/
theorem S20.app (h : S20 sb t K Wk db name long id v u rn inn sc zs sx c l sv w) (hoff : ¬ l[16]?.getD false = true) (hd : ∀ j, (16, j) ∈ d20 → l[j]?.getD false = true) {w4 : World} {g cap : Nat} {ys : List Value} (hown : w.ownsRow Wk.heap.size 55 2 u inn ys) (hys : InsL ys) (hown4 : w4.ownsRow Wk.heap.size 55 2 (.slice (some ⟨g, 0, none⟩) (inn + 1) cap) (inn + 1) (ys ++ [.string (zs ++ sc), .string sx])) (hg : w.grownBy w4 u.ownBlock) : S20 sb t K Wk db name long id v u rn inn sc zs sx c (l.setIfInBounds 16 true) (fun k => if k = 16 then .slice (some ⟨g, 0, none⟩) (inn + 1) cap else sv k) w4 := by
  have hn := h.n
  have e16 := fl_off hoff
  have e18 := h.no18 e16
  have on : (l.setIfInBounds 16 true)[16]?.getD false = true := by rw [Array.getElem?_setIfInBounds_self_of_lt (by omega)]; rfl
  refine ⟨Array.size_setIfInBounds.trans hn, h.vals_set 16 _ trivial, h.dep_set 16 (by decide) hd, fun e => ?_, fun _ e => ?_, fun _ _ => ⟨g, cap, ys, w, rfl, h.a0 e16, hown, hys, hown4, hg⟩, fun e => ?_⟩
  · rw [on] at e
    cases e
  · rw [on] at e
    cases e
  · rw [flag_other l 16 18 (by decide), e18] at e
    cases e
/-- The store. -/
theorem S20.sto (h : S20 sb t K Wk db name long id v u rn inn sc zs sx c l sv w) (hoff : ¬ l[18]?.getD false = true) (hd : ∀ j, (18, j) ∈ d20 → l[j]?.getD false = true) (hz1 : (zs ++ sc).size ≤ 1048576) (hz2 : sx.size ≤ 1048576) (x : Value) : S20 sb t K Wk db name long id v u rn inn sc zs sx c (l.setIfInBounds 18 true) (fun k => if k = 18 then x else sv k) (w.setCell ⟨db, 4, none⟩ (sv 16)) := by
  have hn := h.n
  have e16 := hd 16 (by decide)
  obtain ⟨g, cap, ys, w0, hv, hD, hown, hys, hown4, hg⟩ := h.a1 e16 (fl_off hoff)
  have on : (l.setIfInBounds 18 true)[18]?.getD false = true := by rw [Array.getElem?_setIfInBounds_self_of_lt (by omega)]; rfl
  have on16 := flag_other l 18 16 (by decide)
  refine ⟨Array.size_setIfInBounds.trans hn, h.vals_set 18 _ trivial, h.dep_set 18 (by decide) hd, fun e => ?_, fun _ e => ?_, fun _ e => ?_, fun _ => ?_⟩
  · rw [on16, e16] at e
    cases e
  · rw [on16, e16] at e
    cases e
  · rw [on] at e
    cases e
  · rw [hv]
    exact ⟨_, hD.pushI hown hys hz1 hz2 hown4 hg⟩
/-- What stands where the store goes. -/
theorem S20.cell4 (h : S20 sb t K Wk db name long id v u rn inn sc zs sx c l sv w) (hoff : ¬ l[18]?.getD false = true) (e16 : l[16]?.getD false = true) : w.cell? ⟨db, 4, none⟩ = some u ∧ w.frozen? ⟨db, 4, none⟩ = false := by
  obtain ⟨g, cap, ys, w0, hv, hD, hown, hys, hown4, hg⟩ := h.a1 e16 (fl_off hoff)
  have hb := hg.block db (blk_lt hD.blk) (Ne.symm (row_ne hown hD.blk (by decide)))
  exact ⟨(World.cell?_of_block (a := ⟨db, 4, none⟩) hb).trans hD.cells.2.2.2.2.1, (World.frozen?_of_block (a := ⟨db, 4, none⟩) hb).trans (frozen_of hD.blk 4)⟩
/-- At the end. -/
theorem S20.done (h : S20 sb t K Wk db name long id v u rn inn sc zs sx c l sv w) (hl : ∀ i, i < 19 → l.getD i true = true) : ∃ x, DVar sb t K Wk db name long id v x rn (inn + 1) w := h.a2 (flag_on (by rw [h.n]; decide) (hl 18 (by decide)))
end
end Go.Proofs.YtkipkkaloiefpaaGreatDoor
