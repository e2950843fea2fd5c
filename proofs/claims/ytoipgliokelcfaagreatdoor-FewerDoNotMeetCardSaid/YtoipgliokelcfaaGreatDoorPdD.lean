/- netsWith: the nets with each sequence. -/
import Derived.Test.YtoipgliokelcfaaGreatDoorPdM
namespace Go.Proofs.YtoipgliokelcfaaGreatDoor
open Go.RowKit Go.Maps

/-- The first k nets with a sequence. -/
def idxTo (L : List (List UInt8)) (k : Nat) (s : List UInt8) : List Nat := (List.range k).filter fun i => decide (L.getD i [] = s)
theorem idxTo_succ (L : List (List UInt8)) (k : Nat) (s : List UInt8) : idxTo L (k + 1) s = if L.getD k [] = s then idxTo L k s ++ [k] else idxTo L k s := by
  unfold idxTo
  rw [List.range_succ, List.filter_append]
  by_cases h : L.getD k [] = s
  · rw [if_pos h, List.filter_cons, if_pos (by simpa using h)]; rfl
  · rw [if_neg h, List.filter_cons, if_neg (by simpa using h)]; simp
theorem idxTo_len (L : List (List UInt8)) (k : Nat) (s : List UInt8) : (idxTo L k s).length ≤ k := by
  unfold idxTo
  have := List.length_filter_le (fun i => decide (L.getD i [] = s)) (List.range k)
  simpa using this

/-- A slice's head as a datum: three numbers. -/
def unary : Nat → List UInt8 → List UInt8
  | 0, r => 1 :: r
  | n + 1, r => 0 :: unary n r
def unread : List UInt8 → Nat × List UInt8
  | [] => (0, [])
  | c :: r => if c = 0 then ((unread r).1 + 1, (unread r).2) else (0, r)
theorem unread_unary : ∀ (n : Nat) (r : List UInt8), unread (unary n r) = (n, r)
  | 0, r => rfl
  | n + 1, r => by
    show (if (0 : UInt8) = 0 then ((unread (unary n r)).1 + 1, (unread (unary n r)).2) else _) = _
    rw [if_pos rfl, unread_unary n r]
def slcL (g n c : Nat) : Lit := .string (unary g (unary n (unary c [])))
def slcV (l : Lit) : Value :=
  match l with
  | .string b => .slice (some ⟨(unread b).1, 0, none⟩) (unread (unread b).2).1 (unread (unread (unread b).2).2).1
  | _ => .slice none 0 0
def slcR (v : Value) : Option (DataW Unit × List MemPlace) :=
  match v with
  | .slice none 0 0 => some (.lit (.bool false), [])
  | .slice (some ⟨g, 0, none⟩) n c => some (.lit (slcL g n c), [])
  | _ => none
theorem slcV_slcL (g n c : Nat) : slcV (slcL g n c) = .slice (some ⟨g, 0, none⟩) n c := by
  unfold slcL slcV
  simp only [unread_unary]
theorem slcR_slcV : ∀ v l ps, slcR v = some (.lit l, ps) → v = slcV l := by
  intro v l ps h
  unfold slcR at h
  split at h
  · cases h
    rfl
  · cases h
    rw [slcV_slcL]
  · cases h

/-- The head of the row of a sequence. -/
def hdr (L : List (List UInt8)) (k : Nat) (H : List UInt8 → Nat × Nat) (s : List UInt8) : Value := if idxTo L k s = [] then .slice none 0 0 else .slice (some ⟨(H s).1, 0, none⟩) (idxTo L k s).length (H s).2
noncomputable def netsLit (L : List (List UInt8)) (k : Nat) (H : List UInt8 → Nat × Nat) : Lit → Option Lit
  | .string s => if idxTo L k s = [] then none else some (slcL (H s).1 (idxTo L k s).length (H s).2)
  | _ => none
/-- The map of the first k nets: rows of their own, from B on. -/
structure NetsMap (L : List (List UInt8)) (k b B : Nat) (H : List UInt8 → Nat × Nat) (W : World) : Prop where
  map : LMap Tryz.prog 9 slcR W b k (netsLit L k H)
  rows : ∀ s, NatsAt B W (hdr L k H s) (idxTo L k s)
  apart : ∀ s t, idxTo L k s ≠ [] → idxTo L k t ≠ [] → s ≠ t → (H s).1 ≠ (H t).1
  lt : b < B
theorem NetsMap.later {L : List (List UInt8)} {k b B : Nat} {H : List UInt8 → Nat × Nat} {W W' : World} (h : NetsMap L k b B H W) (hB : Below W.heap.size W W') : NetsMap L k b B H W' :=
  ⟨h.map.below hB h.map.lt, fun s => row_later (h.rows s) hB, h.apart, h.lt⟩
theorem Tryz.zeroInts (w : World) : (zeroValue 22).run Tryz.prog w = .ok (.slice none 0 0) w := by kernel_rfl
theorem NetsMap.look {L : List (List UInt8)} {k b B : Nat} {H : List UInt8 → Nat × Nat} {W : World} (h : NetsMap L k b B H W) (s : ByteArray) (hs : s.size ≤ 1000000) : (Instr.lookup 155 (.map (some b)) (.string s) false).run Tryz.prog W = .ok (hdr L k H s.data.toList) W := by
  have hkey : keyOf Tryz.prog 9 (.string s) = some (.string s.data.toList) := WideMaps.keyOf_string_mk Tryz.underlying9 (by unfold maxLen; omega)
  have hl := h.map.look (string_keyed Tryz.underlying9) Tryz.underlying155 slcV slcR_slcV (.bool false) (Tryz.zeroInts W) rfl _ _ hkey
  have e : slcV ((netsLit L k H (.string s.data.toList)).getD (.bool false)) = hdr L k H s.data.toList := by
    unfold netsLit hdr
    dsimp only
    by_cases e : idxTo L k s.data.toList = []
    · rw [if_pos e, if_pos e]
      rfl
    · rw [if_neg e, if_neg e]
      exact slcV_slcL _ _ _
  rw [hl, e]
theorem netsMap_new (L : List (List UInt8)) (W : World) : NetsMap L 0 W.heap.size (W.heap.size + 1) (fun _ => (0, 0)) (W.alloc (.map #[] 0)) where
  map := (LMap.made Tryz.prog 9 slcR W).same fun x => by
    unfold netsLit
    split
    · rename_i s
      have e : idxTo L 0 s = [] := rfl
      rw [if_pos e]
    · rfl
  rows := fun s => World.ownsRow_nil _ _ _ _
  apart := fun s t h => absurd rfl h
  lt := Nat.lt_succ_self _
/-- The heads of rows lie in the rows' blocks. -/
theorem NetsMap.block {L : List (List UInt8)} {k b B : Nat} {H : List UInt8 → Nat × Nat} {W : World} (h : NetsMap L k b B H W) (s : List UInt8) (x : Nat) (hx : (hdr L k H s).ownBlock = some x) : B ≤ x ∧ x < W.heap.size := (h.rows s).lt x hx
theorem hdr_block {L : List (List UInt8)} {k : Nat} {H : List UInt8 → Nat × Nat} {s : List UInt8} (h : idxTo L k s ≠ []) : (hdr L k H s).ownBlock = some (H s).1 := by unfold hdr; rw [if_neg h]; rfl
theorem hdr_none {L : List (List UInt8)} {k : Nat} {H : List UInt8 → Nat × Nat} {s : List UInt8} (h : idxTo L k s = []) : hdr L k H s = .slice none 0 0 := by unfold hdr; rw [if_pos h]

/-- One head more. -/
def putH (H : List UInt8 → Nat × Nat) (s : List UInt8) (g cap : Nat) (t : List UInt8) : Nat × Nat := if t = s then (g, cap) else H t
theorem putH_same (H : List UInt8 → Nat × Nat) (s : List UInt8) (g cap : Nat) : putH H s g cap s = (g, cap) := if_pos rfl
theorem putH_other (H : List UInt8 → Nat × Nat) {s t : List UInt8} (g cap : Nat) (h : t ≠ s) : putH H s g cap t = H t := if_neg h
/-- One net more. -/
theorem NetsMap.step {L : List (List UInt8)} {k b B : Nat} {H : List UInt8 → Nat × Nat} {W W4 W5 : World} (h : NetsMap L k b B H W) {g cap : Nat} (hown : W4.ownsRow B 3 1 (.slice (some ⟨g, 0, none⟩) ((idxTo L k (L.getD k [])).length + 1) cap) ((idxTo L k (L.getD k [])).length + 1) ((idxTo L k (L.getD k [])).map natV ++ [.int .i64 (k : Int)]))
    (hg4 : W.grownBy W4 (hdr L k H (L.getD k [])).ownBlock) (hnew : (hdr L k H (L.getD k [])).ownBlock = some g ∨ W.heap.size ≤ g) (hmap : LMap Tryz.prog 9 slcR W5 b (k + 1) (putL (netsLit L k H) (.string (L.getD k [])) (slcL g ((idxTo L k (L.getD k [])).length + 1) cap))) (hg5 : W4.grownBy W5 (some b)) :
    NetsMap L (k + 1) b B (putH H (L.getD k []) g cap) W5 := by
  have hgB : B ≤ g := (hown.lt g rfl).1
  have hk5 : ∀ x, B ≤ x → x < W4.heap.size → W5.heap[x]? = W4.heap[x]? := fun x hx hl => hg5.block x hl (fun e => by have := Option.some.inj e; have := h.lt; omega)
  refine ⟨hmap.same fun x => ?_, fun s => ?_, fun s t hs ht hst => ?_, h.lt⟩
  · unfold putL
    by_cases e : x = .string (L.getD k [])
    · subst e
      rw [if_pos rfl]
      unfold netsLit
      dsimp only
      rw [idxTo_succ, if_pos rfl, if_neg (by simp), putH_same, List.length_append, List.length_singleton]
    · rw [if_neg e]
      unfold netsLit
      split
      · rename_i s
        have e2 : ¬ L.getD k [] = s := fun e3 => e (by rw [e3])
        rw [idxTo_succ, if_neg e2, putH_other H g cap (fun e3 => e2 e3.symm)]
      · rfl
  · by_cases e : L.getD k [] = s
    · subst e
      have e1 : idxTo L (k + 1) (L.getD k []) = idxTo L k (L.getD k []) ++ [k] := by rw [idxTo_succ, if_pos rfl]
      have e2 : hdr L (k + 1) (putH H (L.getD k []) g cap) (L.getD k []) = .slice (some ⟨g, 0, none⟩) ((idxTo L k (L.getD k [])).length + 1) cap := by
        unfold hdr
        rw [e1, if_neg (by simp), putH_same, List.length_append, List.length_singleton]
      rw [e1, e2]
      exact row_kept (nats_snoc k hown) hk5
    · have e1 : idxTo L (k + 1) s = idxTo L k s := by rw [idxTo_succ, if_neg e]
      have e2 : hdr L (k + 1) (putH H (L.getD k []) g cap) s = hdr L k H s := by
        unfold hdr
        rw [e1, putH_other H g cap (fun e3 => e e3.symm)]
      rw [e1, e2]
      refine row_kept ((h.rows s).kept hg4 ?_) hk5
      by_cases hs0 : idxTo L k s = []
      · rw [hdr_none hs0]; exact .inl rfl
      · rw [hdr_block hs0]
        right
        by_cases hl0 : idxTo L k (L.getD k []) = []
        · rw [hdr_none hl0]; intro h0; cases h0
        · rw [hdr_block hl0]
          intro h0
          exact h.apart _ _ hs0 hl0 (fun e3 => e e3.symm) (Option.some.inj h0)
  · have one : ∀ s, idxTo L (k + 1) s ≠ [] → s ≠ L.getD k [] → (H s).1 ≠ g := fun s hs e => by
      rw [idxTo_succ, if_neg (fun e3 => e e3.symm)] at hs
      have hb := h.block s (H s).1 (hdr_block hs)
      rcases hnew with h1 | h1
      · intro h2
        by_cases hl0 : idxTo L k (L.getD k []) = []
        · rw [hdr_none hl0] at h1; cases h1
        · rw [hdr_block hl0] at h1
          exact h.apart _ _ hs hl0 e (h2.trans (Option.some.inj h1).symm)
      · omega
    by_cases e1 : s = L.getD k []
    · have e2 : t ≠ L.getD k [] := fun e2 => hst (e1.trans e2.symm)
      rw [e1, putH_same, putH_other H g cap e2]
      exact fun h0 => one t ht e2 h0.symm
    · rw [putH_other H g cap e1]
      by_cases e2 : t = L.getD k []
      · rw [e2, putH_same]
        exact one s hs e1
      · rw [putH_other H g cap e2]
        rw [idxTo_succ, if_neg (fun e3 => e1 e3.symm)] at hs
        rw [idxTo_succ, if_neg (fun e3 => e2 e3.symm)] at ht
        exact h.apart s t hs ht hst

set_option maxHeartbeats 4000000 in
set_option maxRecDepth 100000 in
theorem netsWith_any (L : List (List UInt8)) (hz : L.length ≤ 1000) (hb : ∀ k, k < L.length → (L.getD k []).length ≤ 1000) (Bv : Nat) (w : World) (v : Value) (h : StrsAt Bv w v L) :
    Calls Tryz.prog 120 #[v] w fun e w' => e = .returned (.map (some w.heap.size)) ∧ ∃ H, NetsMap L L.length w.heap.size (w.heap.size + 1) H w' ∧ Below w.heap.size w w' := by
  obtain ⟨i0, hi, hz0, hz1, hz2⟩ := info_parts Tryz.infoIntc
  obtain ⟨a, c, rfl, hop⟩ := strs_open h
  obtain ⟨n, hn⟩ : ∃ n, n = L.length := ⟨_, rfl⟩
  have HH := Lib.hid (⟨hop, hb, hn⟩ : _ ∧ _ ∧ _)
  have HN := Lib.hid (netsMap_new L w)
  have hBa : Below w.heap.size w (w.alloc (.map #[] 0)) := (Below.refl _ _).alloc (Nat.le_refl _) _
  have HB := Lib.hid hBa
  rw [← hn] at hz
  rw [← hn]
  clear h hop hb hn hBa
  have hmm := @run_makeMap Tryz.prog
  obtain ⟨b, hbw⟩ : ∃ b, b = w.heap.size := ⟨_, rfl⟩
  go_enter Tryz.func120, Tryz.ntmps120
  go_wp2_with fail
  clear hmm
  rw [← hbw] at HN HB ⊢
  generalize w.alloc (.map #[] 0) = W1 at HN HB ⊢
  have HBW := Lib.hid hbw
  clear hbw
  go_loopw [9] (fun i wr => ∃ (k : Nat) (H : List UInt8 → Nat × Nat), k ≤ n ∧ i = .int .i64 (k : Int) ∧ NetsMap L k b (b + 1) H wr ∧ Below b w wr) (fun i _ => n - (intOf i).toNat)
  case atStart => exact ⟨0, _, by omega, rfl, HN.out, HB.out⟩
  case round =>
    clear HN HB
    obtain ⟨k, H, hk, rfl, hM, hB⟩ := hrel
    by_cases hlt : k < n
    · obtain ⟨g, rfl, hg, hcell⟩ := HH.out.1 (by rw [← HH.out.2.2]; omega)
      have hkS : k < L.length := by rw [← HH.out.2.2]; exact hlt
      have hgb : g < b := by rw [HBW.out]; exact hg
      have hc := (hB.cell (p := ⟨g, k, none⟩) hgb).trans (hcell k hkS)
      have hsz := HH.out.2.1 k hkS
      obtain ⟨s, hs⟩ : ∃ s : ByteArray, s = ⟨(L.getD k []).toArray⟩ := ⟨_, rfl⟩
      have hw := word_dec _ s hs
      change _ = some (Value.string ⟨(L.getD k []).toArray⟩) at hc
      rw [← hs] at hc
      have hss : s.size ≤ 1000 := by have := hw.1; omega
      have hlook := hM.look s (by omega)
      obtain ⟨q, hq⟩ : ∃ q, q = L.getD k [] := ⟨_, rfl⟩
      rw [hw.2, ← hq] at hlook
      have hrow : wr.ownsRow (b + 1) 3 1 (hdr L k H q) (idxTo L k q).length ((idxTo L k q).map natV) := hM.rows _
      have hlen := idxTo_len L k q
      have hb1 : b < wr.heap.size := hM.map.lt
      have hkey : keyOf Tryz.prog 9 (.string s) = some (.string q) := by rw [hq, ← hw.2]; exact WideMaps.keyOf_string_mk Tryz.underlying9 (by unfold maxLen; omega)
      have H5 := Lib.hid (⟨hM, hB⟩ : _ ∧ _)
      obtain ⟨hv, hhv⟩ : ∃ v, v = hdr L k H q := ⟨_, rfl⟩
      obtain ⟨ha, hn2, hc2, hform⟩ : ∃ a n c, hv = .slice a n c := by
        rw [hhv]
        unfold hdr
        split
        · exact ⟨_, _, _, rfl⟩
        · exact ⟨_, _, _, rfl⟩
      rw [← hhv] at hlook hrow
      subst hform
      have HV := Lib.hid hhv
      have HQ := Lib.hid hq
      have i0' : (0 : Int) ≤ (k : Int) := by omega
      have i1 : (k : Int) < (n : Int) := by omega
      clear hcell hs hw hsz hM hB hhv hq
      generalize hm : (idxTo L k q).length = m at hlen hrow
      have HM := Lib.hid hm
      clear hm
      go_wp2_with (at_builtin; refine wpList_append_lies _ rfl _ _ 22 rfl (b + 1) 3 i0 (.int .i64 0) 1 8 Tryz.underlying22 hi hz0 hz1 hz2 rfl (by decide) _ _ _ rfl (hrow.alloc _) ⟨wr.heap.size, 0, none⟩ 1 1 [.int .i64 (k : Int)] rfl rfl ?c1 ?c2 (by decide) ?c3 ?c4 ?c5 _ rfl ?_)
      case c1 => exact cell_one_new _ _ _
      case c2 => exact ints_oneCell .i64 [(k : Int)]
      case c3 => unfold maxLen; omega
      case c4 => omega
      case c5 => simp; omega
      intro g4 cap4 w4 hown4 hg4 hat4 hlt4
      have hMa : LMap Tryz.prog 9 slcR w4 b k (netsLit L k H) := (H5.out.1.map.alloc _).kept hg4 (by rw [HV.out]; intro h0; have := H5.out.1.block _ _ h0.symm; omega)
      go_wp2_with (refine wpList_mapset_lit (P := Tryz.prog) (k := 9) (e := 22) rfl (.tmp 14) (.tmp 15) (.tmp 21) 155 rfl (string_keyed Tryz.underlying9) Tryz.underlying155 rfl hMa (by omega) (.string s) _ hkey (slcL g4 (m + 1) cap4) _ rfl rfl rfl ?_)
      intro w5 hm5 hg5
      have hq := HQ.out
      subst hq
      have hgr : wr.grownBy w4 (hdr L k H (L.getD k [])).ownBlock := by rw [← HV.out]; exact (World.grownBy_alloc _ _ _).trans hg4
      have hat5 : (hdr L k H (L.getD k [])).ownBlock = some g4 ∨ wr.heap.size ≤ g4 := by
        rw [← HV.out]
        rcases hat4 with h | h
        · exact .inl h
        · right; rw [h]; simp
      have hst : NetsMap L (k + 1) b (b + 1) (putH H (L.getD k []) g4 cap4) w5 := by
        rw [← HM.out] at hown4 hm5
        exact H5.out.1.step hown4 hgr hat5 hm5 hg5
      have hB5 : Below b w w5 := (H5.out.2.grown hgr (Nat.le_of_lt (by rw [HBW.out]; rw [HBW.out] at hb1; exact Nat.lt_of_le_of_lt (Nat.le_refl _) hb1)) (fun j hj => by have := (H5.out.1.block _ _ hj).1; omega)).grown hg5 (by have := hgr.size; omega) (fun j hj => by have := Option.some.inj hj; omega)
      have HF := Lib.hid (⟨hst, hB5⟩ : _ ∧ _)
      clear hst hB5 hgr hat5 hm5 hg5 hown4 hg4 hat4 hMa hrow hlook H5
      go_wp2_with fail
      go_roundw
      case rel => exact ⟨k + 1, _, by omega, by go_num, HF.out⟩
      case measure => simp [intOf]; omega
    · obtain rfl : k = n := by omega
      have HF := Lib.hid (⟨hM, hB⟩ : _ ∧ _)
      clear hM hB
      go_wp2_with fail
      go_ret
      have hbw := HBW.out
      subst hbw
      exact ⟨rfl, H, HF.out⟩
end Go.Proofs.YtoipgliokelcfaaGreatDoor
