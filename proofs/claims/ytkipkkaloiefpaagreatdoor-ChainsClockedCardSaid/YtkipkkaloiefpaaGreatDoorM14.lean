/- The contract of the reference's PathOf. -/
import Derived.Test.YtkipkkaloiefpaaGreatDoorM13
namespace Go.Proofs.YtkipkkaloiefpaaGreatDoor
open Go.RowKit

theorem Tryz.infoStr : (Tryz.prog.info? 9).map (fun i => (i.zero, i.size, i.bytes)) = some (some (.string ⟨#[]⟩), 1, 16) := by kernel_rfl

def strV (l : List UInt8) : Value := .string ⟨l.toArray⟩
def strVs (L : List (List UInt8)) : List Value := L.map strV
def sliceLen : Value → Nat
  | .slice _ n _ => n
  | _ => 0

theorem own_form {w : World} {base e n : Nat} {v : Value} {xs : List Value} (h : w.ownsRow base e 1 v n xs) : ∃ a cap, v = .slice a n cap ∧ (0 < n → ∃ g, a = some ⟨g, 0, none⟩ ∧ ∀ k, k < n → w.cell? ⟨g, k, none⟩ = xs[k]?) := by
  obtain ⟨hl, h2⟩ := h
  rcases h2 with ⟨hv, h0⟩ | ⟨g, cap, cur, hv, hg, hh, hn, hc, hcs, htk⟩
  · exact ⟨none, 0, by rw [hv, h0], fun h => by omega⟩
  · refine ⟨some ⟨g, 0, none⟩, cap, hv, fun _ => ⟨g, rfl, fun k hk => ?_⟩⟩
    rw [← htk, List.getElem?_take_of_lt (by omega)]
    simp [World.cell?, hh]

theorem own_below {w w' : World} {base e n B : Nat} {v : Value} {xs : List Value} (h : w.ownsRow base e 1 v n xs) (hb : Below B w w') (hB : B = w.heap.size) : w'.ownsRow base e 1 v n xs := by
  obtain ⟨hl, h2⟩ := h
  refine ⟨hl, ?_⟩
  rcases h2 with h2 | ⟨g, cap, cur, hv, hg, hh, r⟩
  · exact .inl h2
  · exact .inr ⟨g, cap, cur, hv, hg, by rw [hb.block g (by rw [hB]; exact (Array.getElem?_eq_some_iff.1 hh).1)]; exact hh, r⟩
theorem own_mono {w : World} {base base' e n : Nat} {v : Value} {xs : List Value} (h : w.ownsRow base e 1 v n xs) (hb : base' ≤ base) : w.ownsRow base' e 1 v n xs := by
  obtain ⟨hl, h2⟩ := h
  refine ⟨hl, ?_⟩
  rcases h2 with h2 | ⟨g, cap, cur, hv, hg, r⟩
  · exact .inl h2
  · exact .inr ⟨g, cap, cur, hv, Nat.le_trans hb hg, r⟩

/-- The list of the next length, as far as it is made. -/
def nextL (L : List (List UInt8)) (k : Nat) : List (List UInt8) := (L.take k).flatMap fun l => [l ++ [48], l ++ [49]]
theorem nextL_succ (L : List (List UInt8)) (k : Nat) (hk : k < L.length) : nextL L (k + 1) = nextL L k ++ [L.getD k [] ++ [48], L.getD k [] ++ [49]] := by
  unfold nextL
  rw [List.take_succ_eq_append_getElem hk, List.flatMap_append]
  simp [List.getD, hk]

/-- What holds at the head of the outer loop: all sequences of a length that is not above the path's. -/
def OuterP (f t : Nat) (w : World) (v5 : Value) (wr : World) : Prop :=
  ∃ d, d ≤ (pathOf f t).length ∧ wr.ownsRow w.heap.size 9 1 v5 (allB d).length (strVs (allB d)) ∧ Below w.heap.size w wr

theorem strV_cat (l : List UInt8) (c : UInt8) : Value.string ((⟨l.toArray⟩ : ByteArray) ++ (⟨#[c]⟩ : ByteArray)) = strV (l ++ [c]) := by
  have h : ((⟨l.toArray⟩ : ByteArray) ++ (⟨#[c]⟩ : ByteArray)).data.toList = l ++ [c] := cat_list l [c]
  unfold strV
  rw [← h, ← string_eq]
theorem strVs_next (L : List (List UInt8)) (l : List UInt8) : strVs L ++ [Value.string ((⟨l.toArray⟩ : ByteArray) ++ (⟨#[48]⟩ : ByteArray)), Value.string ((⟨l.toArray⟩ : ByteArray) ++ (⟨#[49]⟩ : ByteArray))] = strVs (L ++ [l ++ [48], l ++ [49]]) := by
  rw [strV_cat, strV_cat]
  simp [strVs]
theorem two_fresh (w : World) (x y : Value) (ty : TypeId) : ∀ (j : Nat) (u : Value), [x, y][j]? = some u → (w.alloc (.cells #[x, y] ty)).cell? ((⟨w.heap.size, 0, none⟩ : Addr).add j) = some u := by
  intro j u h
  rw [Addr.add_lit, Nat.zero_add]
  exact cell_fresh _ _ _ (by simpa using h)

theorem walk_list (f : Nat) (l : List UInt8) (w : World) (hf : f < 16) (hl : l.length ≤ 1000) (hbits : l.all bitB = true) :
    Calls Tryz.prog 122 #[.int .i64 (f : Int), .string ⟨l.toArray⟩] w fun e w' => ∃ a cap, e = .returned (.slice a l.length cap) ∧ (0 < l.length → ∃ g, a = some ⟨g, 0, none⟩ ∧ w'.cell? ⟨g, l.length - 1, none⟩ = some (.int .i64 ((nxs f l : Nat) : Int))) ∧ Below w.heap.size w w' := by
  have hsz : (⟨l.toArray⟩ : ByteArray).size = l.length := by simp [ByteArray.size]
  refine (walkOf_any f ⟨l.toArray⟩ w hf (by rw [hsz]; omega) hbits).mono ?_
  rintro e w' ⟨v, rfl, hown, hB⟩
  rw [hsz] at hown
  obtain ⟨a, cap, rfl, hrow⟩ := own_form hown
  refine ⟨a, cap, rfl, fun h => ?_, hB⟩
  obtain ⟨g, hg, hc⟩ := hrow h
  refine ⟨g, hg, ?_⟩
  rw [hc _ (by omega)]
  have h1 := walkL_at l f (l.length - 1) (by omega)
  rw [show l.length - 1 + 1 = l.length from by omega, List.take_of_length_le (Nat.le_refl _)] at h1
  show ((walkL f l).map fun x : Nat => Value.int .i64 (x : Int))[l.length - 1]? = _
  rw [List.getElem?_map, h1]; rfl

set_option maxHeartbeats 1000000 in
set_option maxRecDepth 100000 in
theorem pathOf_any (f t : Nat) (w : World) (hf : f < 16) (ht : t < 16) :
    Calls Tryz.prog 83 #[.int .i64 (f : Int), .int .i64 (t : Int)] w fun e w' => e = .returned (.string ⟨(pathOf f t).toArray⟩) ∧ Below w.heap.size w w' := by
  obtain ⟨i0, hi, hz0, hz1, hz2⟩ := info_parts Tryz.infoStr
  have hP8 := path_long hf ht
  go_enter Tryz.func83, Tryz.ntmps83
  go_wp2_with fail
  have hb0 : OuterP f t w (.slice (some ⟨w.heap.size, 0, none⟩) 1 1) (w.alloc (.cells #[.string ⟨#[]⟩] 9)) :=
    ⟨0, Nat.zero_le _, ⟨rfl, .inr ⟨w.heap.size, 1, #[.string ⟨#[]⟩], rfl, Nat.le_refl _, heap_alloc_new w _, Nat.le_refl _, by decide, rfl, rfl⟩⟩, (Below.refl _ _).alloc (Nat.le_refl _) _⟩
  go_loopw [5] (fun v5 wr => OuterP f t w v5 wr) (fun v5 _ => 1000 - sliceLen v5)
  case atStart => exact hb0
  case round =>
    obtain ⟨d, hd, hown, hB⟩ := hrel
    clear hb0
    have hn256 : (allB d).length ≤ 256 := by
      rw [all_len]
      exact Nat.pow_le_pow_right (n := 2) (by decide) (show d ≤ 8 by omega)
    have hn1 : 1 ≤ (allB d).length := by
      rw [all_len]; exact Nat.one_le_two_pow
    obtain ⟨a, cap, rfl, hrow⟩ := own_form hown
    obtain ⟨g, rfl, hcells⟩ := hrow (by omega)
    have hge : w.heap.size ≤ wr.heap.size := hB.size
    go_wp2_with fail
    obtain ⟨wo, rfl⟩ : ∃ wo : World, wo = wr := ⟨_, rfl⟩
    go_loopw [6, 14] (fun v6 c wr => ∃ k : Nat, k ≤ uptoP f t d ∧ c = .int .i64 (k : Int) ∧ wr.ownsRow wo.heap.size 9 1 v6 (2 * k) (strVs (nextL (allB d) k)) ∧ Below wo.heap.size wo wr) (fun _ c _ => 1000 - (intOf c).toNat)
    case atStart => exact ⟨0, Nat.zero_le _, rfl, World.ownsRow_nil _ _ _ _, Below.refl _ _⟩
    case round =>
      obtain ⟨k, hk, rfl, hown2, hB2⟩ := hrel
      have hkn := uptoP_le f t d
      by_cases hlt : k < (allB d).length
      · have hcell : wr.cell? ⟨g, k, none⟩ = some (.string ⟨((allB d).getD k []).toArray⟩) := by
          have h1 := hcells k hlt
          have h2 : (strVs (allB d))[k]? = some (strV ((allB d).getD k [])) := by simp [strVs, List.getD, hlt]
          rw [h2] at h1
          have hg : g < wo.heap.size := World.block_lt_of_cell? wo ⟨g, k, none⟩ h1
          exact (hB2.cell (p := ⟨g, k, none⟩) hg).trans h1
        have hmem : (allB d).getD k [] ∈ allB d := by
          have : (allB d).getD k [] = (allB d)[k] := by simp [List.getD, hlt]
          rw [this]; exact List.getElem_mem _
        obtain ⟨hlen, hbits⟩ := all_long d _ hmem
        have hnx : Hid (nextL (allB d) (k + 1) = nextL (allB d) k ++ [(allB d).getD k [] ++ [48], (allB d).getD k [] ++ [49]]) := Lib.hid (nextL_succ _ _ hlt)
        have hno : Hid (k < uptoP f t d → nxs f ((allB d).getD k []) ≠ t) := Lib.hid (fun h => not_yet hlt h)
        have hyes : Hid (k = uptoP f t d → (allB d).getD k [] = pathOf f t ∧ nxs f (pathOf f t) = t) := Lib.hid (fun h => by rw [h]; exact is_it hf ht hd (by omega))
        clear hmem hcells hrow
        generalize (allB d).getD k [] = l at hcell hlen hbits hnx hno hyes
        have hcon := fun (W : World) => walk_list f l W hf (by omega) hbits
        have hl8 : l.length ≤ 8 := by omega
        have hHB : w.heap.size ≤ wr.heap.size := Nat.le_trans hge hB2.size
        have hBr : Below w.heap.size w wr := hB.trans (hB2.mono hge)
        clear hbits hlen
        by_cases hl0 : l.length = 0
        · have he : nxs f l = f := by
            have : l = [] := List.length_eq_zero_iff.1 hl0
            rw [this]; rfl
          rw [hl0] at hcon
          clear hl0
          have HE := Lib.hid he
          clear he
          by_cases hku : k < uptoP f t d
          · have hne : ((f : Int) == (t : Int)) = false := by have := hno.out hku; rw [HE.out] at this; simp; omega
            have hne2 : (f == t) = false := by have := hno.out hku; rw [HE.out] at this; simpa using this
            have hcat : ¬ 9223372036854775807 < l.length + 1 := by omega
            go_wp2_with fail
            refine (hcon _).mono ?_
            rintro e w2 ⟨a, cap2, rfl, hac, hb2⟩
            have hown3 := own_below hown2 hb2 rfl
            have hB3 := hB2.trans (hb2.mono hB2.size)
            have hsz3 := Nat.le_trans hB2.size hb2.size
            clear hown2 hcon hac
            go_wp2_with (at_builtin; refine wpList_append_own _ rfl _ _ 43 rfl wo.heap.size 9 i0 (.string ⟨#[]⟩) 1 16 Tryz.underlying43 hi hz0 hz1 hz2 rfl (by decide) _ _ _ rfl (hown3.alloc _) ⟨w2.heap.size, 0, none⟩ 2 2 [.string ((⟨l.toArray⟩ : ByteArray) ++ (⟨#[48]⟩ : ByteArray)), .string ((⟨l.toArray⟩ : ByteArray) ++ (⟨#[49]⟩ : ByteArray))] rfl rfl ?c1 ?c2 ?c3 ?c4 ?c5 ?_)
            case c1 => exact two_fresh _ _ _ _
            case c2 => simp [Value.oneCell']
            case c3 => unfold maxLen; omega
            case c4 => omega
            case c5 => simp; omega
            intro v' w4 hown4 hg4 _
            rw [strVs_next, ← hnx.out] at hown4
            have hB4 : Below wo.heap.size wo w4 := (hB3.alloc hsz3 _).grown hg4 (by simp; omega) (fun j hj => (hown3.lt j hj).1)
            clear hown3 hcat
            go_wp2_with fail
            go_roundw
            case rel => exact ⟨k + 1, by omega, by go_num, hown4, hB4⟩
            case measure => simp [intOf]; omega
          · have hft : f = t := by have := hyes.out (by omega); rw [← this.1, HE.out] at this; exact this.2
            subst hft
            have HY := Lib.hid (hyes.out (by omega)).1
            clear hown2
            go_wp2_with fail
            refine (hcon _).mono ?_
            rintro e w2 ⟨a, cap2, rfl, hac, hb2⟩
            clear hcon hac
            go_wp2_with fail
            go_ret
            exact ⟨by rw [← HY.out]; rfl, hBr.trans (hb2.mono hHB)⟩
        · have hll : ((l.length : Int) == 0) = false := by simpa using hl0
          have hl1 : 0 < l.length := by omega
          by_cases hku : k < uptoP f t d
          · have hst : ((nxs f l : Nat) : Int) == (t : Int) ↔ False := by have := hno.out hku; simp; omega
            have hst1 : (((nxs f l : Nat) : Int) == (t : Int)) = false := by have := hno.out hku; simp; omega
            have hst2 : (nxs f l == t) = false := by have := hno.out hku; simpa using this
            clear hst
            have hst := hst1
            clear hst1
            have hcat : ¬ 9223372036854775807 < l.length + 1 := by omega
            go_wp2_with fail
            refine (hcon _).mono ?_
            rintro e w2 ⟨a, cap2, rfl, hac, hb2⟩
            obtain ⟨g2, rfl, hc2⟩ := hac (by omega)
            generalize nxs f l = st at hc2 hst hst2
            have hown3 := own_below hown2 hb2 rfl
            have hB3 := hB2.trans (hb2.mono hB2.size)
            have hsz3 := Nat.le_trans hB2.size hb2.size
            clear hown2 hcon hac
            go_wp2_with (at_builtin; refine wpList_append_own _ rfl _ _ 43 rfl wo.heap.size 9 i0 (.string ⟨#[]⟩) 1 16 Tryz.underlying43 hi hz0 hz1 hz2 rfl (by decide) _ _ _ rfl (hown3.alloc _) ⟨w2.heap.size, 0, none⟩ 2 2 [.string ((⟨l.toArray⟩ : ByteArray) ++ (⟨#[48]⟩ : ByteArray)), .string ((⟨l.toArray⟩ : ByteArray) ++ (⟨#[49]⟩ : ByteArray))] rfl rfl ?d1 ?d2 ?d3 ?d4 ?d5 ?_)
            case d1 => exact two_fresh _ _ _ _
            case d2 => simp [Value.oneCell']
            case d3 => unfold maxLen; omega
            case d4 => omega
            case d5 => simp; omega
            intro v' w4 hown4 hg4 _
            rw [strVs_next, ← hnx.out] at hown4
            have hB4 : Below wo.heap.size wo w4 := (hB3.alloc hsz3 _).grown hg4 (by simp; omega) (fun j hj => (hown3.lt j hj).1)
            clear hown3 hcat
            go_wp2_with fail
            go_roundw
            case rel => exact ⟨k + 1, by omega, by go_num, hown4, hB4⟩
            case measure => simp [intOf]; omega
          · have hft : nxs f l = t := by have := hyes.out (by omega); rw [← this.1] at this; exact this.2
            have hst := Lib.hid hft
            clear hft
            have HY := Lib.hid (hyes.out (by omega)).1
            clear hown2
            go_wp2_with fail
            refine (hcon _).mono ?_
            rintro e w2 ⟨a, cap2, rfl, hac, hb2⟩
            obtain ⟨g2, rfl, hc2⟩ := hac (by omega)
            rw [hst.out] at hc2
            clear hcon hac
            go_wp2_with fail
            go_ret
            exact ⟨by rw [← HY.out]; rfl, hBr.trans (hb2.mono hHB)⟩
      · have hkd : k = (allB d).length := by omega
        have hgo := goes_on hf ht hd (show uptoP f t d = (allB d).length by omega)
        have hnext : nextL (allB d) k = allB (d + 1) := by
          unfold nextL
          rw [hkd, List.take_of_length_le (Nat.le_refl _)]; rfl
        have hlen2 : 2 * k = (allB (d + 1)).length := by rw [hkd, all_len, all_len, Nat.pow_succ]; omega
        rw [hnext, hlen2] at hown2
        have hP : OuterP f t w u6 wr := ⟨d + 1, hgo, own_mono hown2 hge, hB.trans (hB2.mono hge)⟩
        obtain ⟨a6, cap6, rfl, _⟩ := own_form hown2
        have hms : (allB d).length < (allB (d + 1)).length := by omega
        have hms2 : (allB (d + 1)).length < 1000 := by omega
        clear hown2 hnext hrow hcells hown
        have HK := Lib.hid hkd
        clear hkd hlen2
        go_wp2_with fail
        exact ⟨hP, by simp only [sliceLen]; omega⟩
end Go.Proofs.YtkipkkaloiefpaaGreatDoor
/- The reference's Shift. -/
namespace Go.Proofs.YtkipkkaloiefpaaGreatDoor
open Go.RowKit Go.Maps

theorem truth_any (b : Bool) (w : World) : Calls Tryz.prog 84 #[.bool b] w fun e w' => e = .returned (.int .i64 (if b = true then 1 else 0)) ∧ w = w' := by
  cases b
  · go_enter Tryz.func84, Tryz.ntmps84
    go_wp2_with fail
    go_ret
    exact ⟨rfl, rfl⟩
  · go_enter Tryz.func84, Tryz.ntmps84
    go_wp2_with fail
    go_ret
    exact ⟨rfl, rfl⟩

theorem bitv_256 {c : UInt8} (h : bitB c = true) : ((c.toNat : Int) - 48) % 256 = bitv c := by
  have h48 : c = 48 ∨ c = 49 := by simpa [bitB] using h
  rcases h48 with rfl | rfl <;> rfl

/-- The bytes of a string in block y, which the reference leaves alone. -/
def RowY (q : Tw) (W : World) (y : Nat) (s : ByteArray) : Prop := y < W.heap.size ∧ y ≠ q.rb ∧ y ≠ q.gc ∧ y ≠ q.gs ∧ y ≠ q.mo ∧ ∀ k (h : k < s.size), W.cell? ⟨y, k, none⟩ = some (.int .u8 (s[k].toNat : Int))
theorem RowY.step {q : Tw} {W W' : World} {y : Nat} {s : ByteArray} (h : RowY q W y s) (hs : W.heap.size ≤ W'.heap.size) (hb : ∀ b, b < W.heap.size → b ≠ q.rb → b ≠ q.gc → b ≠ q.gs → b ≠ q.mo → W'.heap[b]? = W.heap[b]?) : RowY q W' y s := by
  obtain ⟨h1, h2, h3, h4, h5, h6⟩ := h
  exact ⟨Nat.lt_of_lt_of_le h1 hs, h2, h3, h4, h5, fun k hk => (World.cell?_of_block (a := ⟨y, k, none⟩) (hb y h1 h2 h3 h4 h5)).trans (h6 k hk)⟩

/-- A sequence of clocks of the reference under way. -/
def FolR (q : Tw) (B x N : Nat) (w : World) (s1 s2 : Nat) (p1 p2 : Nat → PS) (tm : ByteArray) (y k : Nat) (wr : World) : Prop :=
  Two q B x (N + 30 * k) wr s1 (fol q.r.dev (s2, p2) (tm.data.toList.take k)).1 p1 (fol q.r.dev (s2, p2) (tm.data.toList.take k)).2 ∧ Below B w wr ∧ RowY q wr y tm
/-- Bits that the reference shifts, under way. -/
def ShR (q : Tw) (B x N : Nat) (w : World) (s1 : Nat) (p1 : Nat → PS) (x0 : Nat × (Nat → PS)) (b : ByteArray) (y k : Nat) (wr : World) : Prop :=
  Two q B x (N + 30 * k) wr s1 (shTo q.r.dev x0 b.data.toList k).1 p1 (shTo q.r.dev x0 b.data.toList k).2 ∧ Below B w wr ∧ RowY q wr y b
/-- What has come out behind k bits. -/
def shText (q : Tw) (x0 : Nat × (Nat → PS)) (b : List UInt8) (k : Nat) : ByteArray := bs ((List.range k).map (shOut q.r.dev q.r.n x0 b))
theorem shText_succ (q : Tw) (x0 : Nat × (Nat → PS)) (b : List UInt8) (k : Nat) : shText q x0 b (k + 1) = shText q x0 b k ++ bs [shOut q.r.dev q.r.n x0 b k] := by
  unfold shText
  rw [List.range_succ, List.map_append]
  apply ByteArray.ext
  rw [ByteArray.data_append]
  apply Array.ext'
  rw [Array.toList_append, bs_list, bs_list, bs_list]
  rfl
theorem shText_size (q : Tw) (x0 : Nat × (Nat → PS)) (b : List UInt8) (k : Nat) : (shText q x0 b k).size = k := by
  unfold shText
  rw [bs_size, List.length_map, List.length_range]

section
variable {q : Tw} {B x N : Nat} {w : World} {s1 s2 : Nat} {p1 p2 : Nat → PS}

theorem FolR.step {tm : ByteArray} {y k : Nat} {wr : World} (h : FolR q B x N w s1 s2 p1 p2 tm y k wr) (hk : k < tm.size) (hb : tm.data.toList.all bitB = true) (hN : N + 30 * k < 700000) :
    Calls Tryz.prog 12 #[.pointer (some ⟨q.rb, 0, none⟩), .int .i64 (((tm[k].toNat : Int) - 48) % 256), .int .i64 0] wr fun e w' => (∃ z : Int, e = .returned (.int .i64 z)) ∧ FolR q B x N w s1 s2 p1 p2 tm y (k + 1) w' := by
  obtain ⟨h1, h2, h3⟩ := h
  have hbit := bit_at tm k hk hb
  rw [bitv_256 hbit]
  refine (two_refClock h1 tm[k] 48 hbit rfl hN).mono ?_
  rintro e w' ⟨rfl, g1, g2, g3⟩
  have hsz : wr.heap.size ≤ w'.heap.size := g2.size
  refine ⟨⟨_, rfl⟩, ?_, h2.trans g2, h3.step hsz g3⟩
  rw [take_snoc _ _ hk, fol_snoc]
  exact g1

theorem ShR.step {x0 : Nat × (Nat → PS)} {b : ByteArray} {y k : Nat} {wr : World} (h : ShR q B x N w s1 p1 x0 b y k wr) (hk : k < b.size) (hx : x0.1 = 4 ∨ x0.1 = 11) (hb : b.data.toList.all bitB = true) (hN : N + 30 * k < 700000) (z : Int) (hz : z = if k + 1 = b.size then 1 else 0) :
    Calls Tryz.prog 12 #[.pointer (some ⟨q.rb, 0, none⟩), .int .i64 z, .int .i64 (((b[k].toNat : Int) - 48) % 256)] wr fun e w' => e = .returned (.int .i64 (bitv (shOut q.r.dev q.r.n x0 b.data.toList k))) ∧ ShR q B x N w s1 p1 x0 b y (k + 1) w' := by
  obtain ⟨h1, h2, h3⟩ := h
  have hl : b.data.toList.length = b.size := by simp
  have hbit := bit_at b k hk hb
  rw [bitv_256 hbit]
  have hst := shTo_state q.r.dev x0 b.data.toList hx k (by omega)
  have hsh : shifts (shTo q.r.dev x0 b.data.toList k).1 = true := by
    rw [hst]
    rcases hx with e | e <;> rw [e] <;> rfl
  have hzt : z = bitv (if k + 1 = b.size then 49 else 48) := by
    rw [hz]
    split <;> rfl
  rw [hzt]
  refine (two_refClock h1 (if k + 1 = b.size then 49 else 48) b[k] (by split <;> rfl) hbit hN).mono ?_
  rintro e w' ⟨rfl, g1, g2, g3⟩
  have hsz : wr.heap.size ≤ w'.heap.size := g2.size
  refine ⟨?_, ?_, h2.trans g2, h3.step hsz g3⟩
  · unfold clockV shOut
    rw [if_pos hsh, getD_at b k hk]
  · have e2 : shTo q.r.dev x0 b.data.toList (k + 1) = clk q.r.dev (shTo q.r.dev x0 b.data.toList k) (if k + 1 = b.size then 49 else 48) b[k] := by
      show clk _ _ (if k + 1 = b.data.toList.length then 49 else 48) (b.data.toList.getD k 0) = _
      rw [hl, getD_at b k hk]
    rw [e2]
    exact g1
theorem ShR.bit {x0 : Nat × (Nat → PS)} {b : ByteArray} {y k : Nat} {wr : World} (h : ShR q B x N w s1 p1 x0 b y k wr) (hk : k < b.size) (hb : b.data.toList.all bitB = true) : bitB (shOut q.r.dev q.r.n x0 b.data.toList k) = true := by
  unfold shOut
  refine carry_bit h.1.good2 ?_ q.r.n (Nat.le_refl _)
  rw [getD_at b k hk]
  exact bit_at b k hk hb

set_option maxHeartbeats 1000000 in
set_option maxRecDepth 100000 in
theorem refShift_err (h : Two q B x N w s1 s2 p1 p2) (st : Nat) (b : ByteArray) (hz : b.size ≤ 1000000) (he : shiftErr s2 b ≠ 0) :
    Calls Tryz.prog 44 #[.pointer (some ⟨q.rb, 0, none⟩), .int .i64 (st : Int), .string b] w fun e w' => e = .returned (.tuple #[.string ⟨#[]⟩, .int .i64 (shiftErr s2 b)]) ∧ Below w.heap.size w w' := by
  obtain ⟨o, hB, ho, hx, hC, hR, hg, hT, hTB⟩ := h
  have c1 := hR.c1
  clear hB ho hx hC hR hg hT hTB
  by_cases h1 : s2 ≠ 1 ∧ s2 ≠ 0
  · have e : shiftErr s2 b = 11 := if_pos h1
    rw [e]
    have b1 : ((s2 : Int) != 1) = true := by simp; omega
    have b0 : ((s2 : Int) != 0) = true := by simp; omega
    have b1' : ((s2 : Int) == 1) = false := by simp; omega
    have b0' : ((s2 : Int) == 0) = false := by simp; omega
    clear e he h1
    go_enter Tryz.func44, Tryz.ntmps44
    go_wp2_with fail
    go_ret2
    exact ⟨rfl, Below.refl _ _⟩
  · have e : shiftErr s2 b = if b.size = 0 then 8 else clockErr b := if_neg h1
    rw [e] at he ⊢
    have hs : s2 = 1 ∨ s2 = 0 := by omega
    by_cases h2 : b.size = 0
    · rw [if_pos h2]
      have hb2 : b = ⟨#[]⟩ := by
        apply ByteArray.ext
        apply Array.ext'
        exact List.length_eq_zero_iff.1 (by simp [h2])
      subst hb2
      clear e he h1 h2
      rcases hs with rfl | rfl
      · go_enter Tryz.func44, Tryz.ntmps44
        go_wp2_with fail
        go_ret2
        exact ⟨rfl, Below.refl _ _⟩
      · go_enter Tryz.func44, Tryz.ntmps44
        go_wp2_with fail
        go_ret2
        exact ⟨rfl, Below.refl _ _⟩
    · rw [if_neg h2] at he ⊢
      have hcon := fun W => tmsFault_any b W (by omega)
      have hne : (clockErr b != 0) = true := by simpa using he
      have hb1 := not_empty_of_size (s := b) (by omega)
      have hb2 : (b.toList == []) = false := by
        cases hl : b.toList with
        | nil => rw [hl] at hb1; cases hb1
        | cons c l => rfl
      generalize clockErr b = ce at hcon hne ⊢
      clear e he h1 h2
      rcases hs with rfl | rfl
      · go_enter Tryz.func44, Tryz.ntmps44
        go_wp2_with fail
        refine (hcon _).mono ?_
        rintro e w' ⟨rfl, hB⟩
        go_wp2_with fail
        refine (hcon _).mono ?_
        rintro e w2 ⟨rfl, hB2⟩
        go_wp2_with fail
        go_ret2
        exact ⟨rfl, hB.trans (hB2.mono hB.size)⟩
      · go_enter Tryz.func44, Tryz.ntmps44
        go_wp2_with fail
        refine (hcon _).mono ?_
        rintro e w' ⟨rfl, hB⟩
        go_wp2_with fail
        refine (hcon _).mono ?_
        rintro e w2 ⟨rfl, hB2⟩
        go_wp2_with fail
        go_ret2
        exact ⟨rfl, hB.trans (hB2.mono hB.size)⟩
end
end Go.Proofs.YtkipkkaloiefpaaGreatDoor
