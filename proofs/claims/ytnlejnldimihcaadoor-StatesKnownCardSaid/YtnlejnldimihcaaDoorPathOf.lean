/- The contract of the reference's PathOf. -/
import Derived.Test.YtnlejnldimihcaaDoorPathPlain
namespace Go.Proofs.YtnlejnldimihcaaDoor
open Go.RowKit

theorem Tryd.infoStr : (Tryd.prog.info? 9).map (fun i => (i.zero, i.size, i.bytes)) = some (some (.string ⟨#[]⟩), 1, 16) := by kernel_rfl

def strV (l : List UInt8) : Value := .string ⟨l.toArray⟩
def strVs (L : List (List UInt8)) : List Value := L.map strV
def sliceLen : Value → Nat
  | .slice _ n _ => n
  | _ => 0

theorem own_form {w : World} {base e n : Nat} {v : Value} {xs : List Value} (h : w.ownsRow base e 1 v n xs) : ∃ a cap, v = .slice a n cap ∧ (0 < n → ∃ g, a = some ⟨g, 0, none⟩ ∧ ∀ k, k < n → w.cell? ⟨g, k, none⟩ = xs[k]?) := by
  obtain ⟨hl, h2⟩ := h
  rcases h2 with ⟨hv, h0⟩ | ⟨g, cap, cur, hv, hg, hh, hn, hc, hcs, htk⟩
  · exact ⟨none, 0, by rw [hv, h0], fun h => by omega⟩
  · refine ⟨some ⟨g, 0, none⟩, cap, hv, fun _ => ⟨g, rfl, fun k hk => ?_⟩⟩
    rw [← htk, List.getElem?_take_of_lt (by omega)]
    simp [World.cell?, hh]

theorem own_below {w w' : World} {base e n B : Nat} {v : Value} {xs : List Value} (h : w.ownsRow base e 1 v n xs) (hb : Below B w w') (hB : B = w.heap.size) : w'.ownsRow base e 1 v n xs := by
  obtain ⟨hl, h2⟩ := h
  refine ⟨hl, ?_⟩
  rcases h2 with h2 | ⟨g, cap, cur, hv, hg, hh, r⟩
  · exact .inl h2
  · exact .inr ⟨g, cap, cur, hv, hg, by rw [hb.block g (by rw [hB]; exact (Array.getElem?_eq_some_iff.1 hh).1)]; exact hh, r⟩
theorem own_mono {w : World} {base base' e n : Nat} {v : Value} {xs : List Value} (h : w.ownsRow base e 1 v n xs) (hb : base' ≤ base) : w.ownsRow base' e 1 v n xs := by
  obtain ⟨hl, h2⟩ := h
  refine ⟨hl, ?_⟩
  rcases h2 with h2 | ⟨g, cap, cur, hv, hg, r⟩
  · exact .inl h2
  · exact .inr ⟨g, cap, cur, hv, Nat.le_trans hb hg, r⟩

/-- The list of the next length, as far as it is made. -/
def nextL (L : List (List UInt8)) (k : Nat) : List (List UInt8) := (L.take k).flatMap fun l => [l ++ [48], l ++ [49]]
theorem nextL_succ (L : List (List UInt8)) (k : Nat) (hk : k < L.length) : nextL L (k + 1) = nextL L k ++ [L.getD k [] ++ [48], L.getD k [] ++ [49]] := by
  unfold nextL
  rw [List.take_succ_eq_append_getElem hk, List.flatMap_append]
  simp [List.getD, hk]

/-- What holds at the head of the outer loop: all sequences of a length that is not above the path's. -/
def OuterP (f t : Nat) (w : World) (v5 : Value) (wr : World) : Prop :=
  ∃ d, d ≤ (pathOf f t).length ∧ wr.ownsRow w.heap.size 9 1 v5 (allB d).length (strVs (allB d)) ∧ Below w.heap.size w wr

theorem strV_cat (l : List UInt8) (c : UInt8) : Value.string ((⟨l.toArray⟩ : ByteArray) ++ (⟨#[c]⟩ : ByteArray)) = strV (l ++ [c]) := by
  have h : ((⟨l.toArray⟩ : ByteArray) ++ (⟨#[c]⟩ : ByteArray)).data.toList = l ++ [c] := cat_list l [c]
  unfold strV
  rw [← h, ← string_eq]
theorem strVs_next (L : List (List UInt8)) (l : List UInt8) : strVs L ++ [Value.string ((⟨l.toArray⟩ : ByteArray) ++ (⟨#[48]⟩ : ByteArray)), Value.string ((⟨l.toArray⟩ : ByteArray) ++ (⟨#[49]⟩ : ByteArray))] = strVs (L ++ [l ++ [48], l ++ [49]]) := by
  rw [strV_cat, strV_cat]
  simp [strVs]
theorem two_fresh (w : World) (x y : Value) (ty : TypeId) : ∀ (j : Nat) (u : Value), [x, y][j]? = some u → (w.alloc (.cells #[x, y] ty)).cell? ((⟨w.heap.size, 0, none⟩ : Addr).add j) = some u := by
  intro j u h
  rw [Addr.add_lit, Nat.zero_add]
  exact cell_fresh _ _ _ (by simpa using h)

theorem walk_list (f : Nat) (l : List UInt8) (w : World) (hf : f < 16) (hl : l.length ≤ 1000) (hbits : l.all bitB = true) :
    Calls Tryd.prog 17 #[.int .i64 (f : Int), .string ⟨l.toArray⟩] w fun e w' => ∃ a cap, e = .returned (.slice a l.length cap) ∧ (0 < l.length → ∃ g, a = some ⟨g, 0, none⟩ ∧ w'.cell? ⟨g, l.length - 1, none⟩ = some (.int .i64 ((nxs f l : Nat) : Int))) ∧ Below w.heap.size w w' := by
  have hsz : (⟨l.toArray⟩ : ByteArray).size = l.length := by simp [ByteArray.size]
  refine (walkOf_any f ⟨l.toArray⟩ w hf (by rw [hsz]; omega) hbits).mono ?_
  rintro e w' ⟨v, rfl, hown, hB⟩
  rw [hsz] at hown
  obtain ⟨a, cap, rfl, hrow⟩ := own_form hown
  refine ⟨a, cap, rfl, fun h => ?_, hB⟩
  obtain ⟨g, hg, hc⟩ := hrow h
  refine ⟨g, hg, ?_⟩
  rw [hc _ (by omega)]
  have h1 := walkL_at l f (l.length - 1) (by omega)
  rw [show l.length - 1 + 1 = l.length from by omega, List.take_of_length_le (Nat.le_refl _)] at h1
  show ((walkL f l).map fun x : Nat => Value.int .i64 (x : Int))[l.length - 1]? = _
  rw [List.getElem?_map, h1]; rfl

set_option maxHeartbeats 1000000 in
set_option maxRecDepth 100000 in
theorem pathOf_any (f t : Nat) (w : World) (hf : f < 16) (ht : t < 16) :
    Calls Tryd.prog 18 #[.int .i64 (f : Int), .int .i64 (t : Int)] w fun e w' => e = .returned (.string ⟨(pathOf f t).toArray⟩) ∧ Below w.heap.size w w' := by
  obtain ⟨i0, hi, hz0, hz1, hz2⟩ := info_parts Tryd.infoStr
  have hP8 := path_long hf ht
  go_enter Tryd.func18, Tryd.ntmps18
  go_wp2_with fail
  have hb0 : OuterP f t w (.slice (some ⟨w.heap.size, 0, none⟩) 1 1) (w.alloc (.cells #[.string ⟨#[]⟩] 9)) :=
    ⟨0, Nat.zero_le _, ⟨rfl, .inr ⟨w.heap.size, 1, #[.string ⟨#[]⟩], rfl, Nat.le_refl _, heap_alloc_new w _, Nat.le_refl _, by decide, rfl, rfl⟩⟩, (Below.refl _ _).alloc (Nat.le_refl _) _⟩
  go_loopw [5] (fun v5 wr => OuterP f t w v5 wr) (fun v5 _ => 1000 - sliceLen v5)
  case atStart => exact hb0
  case round =>
    obtain ⟨d, hd, hown, hB⟩ := hrel
    clear hb0
    have hn256 : (allB d).length ≤ 256 := by
      rw [all_len]
      exact Nat.pow_le_pow_right (n := 2) (by decide) (show d ≤ 8 by omega)
    have hn1 : 1 ≤ (allB d).length := by
      rw [all_len]; exact Nat.one_le_two_pow
    obtain ⟨a, cap, rfl, hrow⟩ := own_form hown
    obtain ⟨g, rfl, hcells⟩ := hrow (by omega)
    have hge : w.heap.size ≤ wr.heap.size := hB.size
    go_wp2_with fail
    obtain ⟨wo, rfl⟩ : ∃ wo : World, wo = wr := ⟨_, rfl⟩
    go_loopw [6, 14] (fun v6 c wr => ∃ k : Nat, k ≤ upTo f t d ∧ c = .int .i64 (k : Int) ∧ wr.ownsRow wo.heap.size 9 1 v6 (2 * k) (strVs (nextL (allB d) k)) ∧ Below wo.heap.size wo wr) (fun _ c _ => 1000 - (intOf c).toNat)
    case atStart => exact ⟨0, Nat.zero_le _, rfl, World.ownsRow_nil _ _ _ _, Below.refl _ _⟩
    case round =>
      obtain ⟨k, hk, rfl, hown2, hB2⟩ := hrel
      have hkn := upTo_le f t d
      by_cases hlt : k < (allB d).length
      · have hcell : wr.cell? ⟨g, k, none⟩ = some (.string ⟨((allB d).getD k []).toArray⟩) := by
          have h1 := hcells k hlt
          have h2 : (strVs (allB d))[k]? = some (strV ((allB d).getD k [])) := by simp [strVs, List.getD, hlt]
          rw [h2] at h1
          have hg : g < wo.heap.size := World.block_lt_of_cell? wo ⟨g, k, none⟩ h1
          exact (hB2.cell (p := ⟨g, k, none⟩) hg).trans h1
        have hmem : (allB d).getD k [] ∈ allB d := by
          have : (allB d).getD k [] = (allB d)[k] := by simp [List.getD, hlt]
          rw [this]; exact List.getElem_mem _
        obtain ⟨hlen, hbits⟩ := all_long d _ hmem
        have hnx : Hid (nextL (allB d) (k + 1) = nextL (allB d) k ++ [(allB d).getD k [] ++ [48], (allB d).getD k [] ++ [49]]) := Lib.hid (nextL_succ _ _ hlt)
        have hno : Hid (k < upTo f t d → nxs f ((allB d).getD k []) ≠ t) := Lib.hid (fun h => not_yet hlt h)
        have hyes : Hid (k = upTo f t d → (allB d).getD k [] = pathOf f t ∧ nxs f (pathOf f t) = t) := Lib.hid (fun h => by rw [h]; exact is_it hf ht hd (by omega))
        clear hmem hcells hrow
        generalize (allB d).getD k [] = l at hcell hlen hbits hnx hno hyes
        have hcon := fun (W : World) => walk_list f l W hf (by omega) hbits
        have hl8 : l.length ≤ 8 := by omega
        have hHB : w.heap.size ≤ wr.heap.size := Nat.le_trans hge hB2.size
        have hBr : Below w.heap.size w wr := hB.trans (hB2.mono hge)
        clear hbits hlen
        by_cases hl0 : l.length = 0
        · have he : nxs f l = f := by
            have : l = [] := List.length_eq_zero_iff.1 hl0
            rw [this]; rfl
          rw [hl0] at hcon
          clear hl0
          have HE := Lib.hid he
          clear he
          by_cases hku : k < upTo f t d
          · have hne : ((f : Int) == (t : Int)) = false := by have := hno.out hku; rw [HE.out] at this; simp; omega
            have hne2 : (f == t) = false := by have := hno.out hku; rw [HE.out] at this; simpa using this
            have hcat : ¬ 9223372036854775807 < l.length + 1 := by omega
            go_wp2_with fail
            refine (hcon _).mono ?_
            rintro e w2 ⟨a, cap2, rfl, hac, hb2⟩
            have hown3 := own_below hown2 hb2 rfl
            have hB3 := hB2.trans (hb2.mono hB2.size)
            have hsz3 := Nat.le_trans hB2.size hb2.size
            clear hown2 hcon hac
            go_wp2_with (at_builtin; refine wpList_append_own _ rfl _ _ 63 rfl wo.heap.size 9 i0 (.string ⟨#[]⟩) 1 16 Tryd.underlying63 hi hz0 hz1 hz2 rfl (by decide) _ _ _ rfl (hown3.alloc _) ⟨w2.heap.size, 0, none⟩ 2 2 [.string ((⟨l.toArray⟩ : ByteArray) ++ (⟨#[48]⟩ : ByteArray)), .string ((⟨l.toArray⟩ : ByteArray) ++ (⟨#[49]⟩ : ByteArray))] rfl rfl ?c1 ?c2 ?c3 ?c4 ?c5 ?_)
            case c1 => exact two_fresh _ _ _ _
            case c2 => simp [Value.oneCell']
            case c3 => unfold maxLen; omega
            case c4 => omega
            case c5 => simp; omega
            intro v' w4 hown4 hg4 _
            rw [strVs_next, ← hnx.out] at hown4
            have hB4 : Below wo.heap.size wo w4 := (hB3.alloc hsz3 _).grown hg4 (by simp; omega) (fun j hj => (hown3.lt j hj).1)
            clear hown3 hcat
            go_wp2_with fail
            go_roundw
            case rel => exact ⟨k + 1, by omega, by go_num, hown4, hB4⟩
            case measure => simp [intOf]; omega
          · have hft : f = t := by have := hyes.out (by omega); rw [← this.1, HE.out] at this; exact this.2
            subst hft
            have HY := Lib.hid (hyes.out (by omega)).1
            clear hown2
            go_wp2_with fail
            refine (hcon _).mono ?_
            rintro e w2 ⟨a, cap2, rfl, hac, hb2⟩
            clear hcon hac
            go_wp2_with fail
            go_ret
            exact ⟨by rw [← HY.out]; rfl, hBr.trans (hb2.mono hHB)⟩
        · have hll : ((l.length : Int) == 0) = false := by simpa using hl0
          have hl1 : 0 < l.length := by omega
          by_cases hku : k < upTo f t d
          · have hst : ((nxs f l : Nat) : Int) == (t : Int) ↔ False := by have := hno.out hku; simp; omega
            have hst1 : (((nxs f l : Nat) : Int) == (t : Int)) = false := by have := hno.out hku; simp; omega
            have hst2 : (nxs f l == t) = false := by have := hno.out hku; simpa using this
            clear hst
            have hst := hst1
            clear hst1
            have hcat : ¬ 9223372036854775807 < l.length + 1 := by omega
            go_wp2_with fail
            refine (hcon _).mono ?_
            rintro e w2 ⟨a, cap2, rfl, hac, hb2⟩
            obtain ⟨g2, rfl, hc2⟩ := hac (by omega)
            generalize nxs f l = st at hc2 hst hst2
            have hown3 := own_below hown2 hb2 rfl
            have hB3 := hB2.trans (hb2.mono hB2.size)
            have hsz3 := Nat.le_trans hB2.size hb2.size
            clear hown2 hcon hac
            go_wp2_with (at_builtin; refine wpList_append_own _ rfl _ _ 63 rfl wo.heap.size 9 i0 (.string ⟨#[]⟩) 1 16 Tryd.underlying63 hi hz0 hz1 hz2 rfl (by decide) _ _ _ rfl (hown3.alloc _) ⟨w2.heap.size, 0, none⟩ 2 2 [.string ((⟨l.toArray⟩ : ByteArray) ++ (⟨#[48]⟩ : ByteArray)), .string ((⟨l.toArray⟩ : ByteArray) ++ (⟨#[49]⟩ : ByteArray))] rfl rfl ?d1 ?d2 ?d3 ?d4 ?d5 ?_)
            case d1 => exact two_fresh _ _ _ _
            case d2 => simp [Value.oneCell']
            case d3 => unfold maxLen; omega
            case d4 => omega
            case d5 => simp; omega
            intro v' w4 hown4 hg4 _
            rw [strVs_next, ← hnx.out] at hown4
            have hB4 : Below wo.heap.size wo w4 := (hB3.alloc hsz3 _).grown hg4 (by simp; omega) (fun j hj => (hown3.lt j hj).1)
            clear hown3 hcat
            go_wp2_with fail
            go_roundw
            case rel => exact ⟨k + 1, by omega, by go_num, hown4, hB4⟩
            case measure => simp [intOf]; omega
          · have hft : nxs f l = t := by have := hyes.out (by omega); rw [← this.1] at this; exact this.2
            have hst := Lib.hid hft
            clear hft
            have HY := Lib.hid (hyes.out (by omega)).1
            clear hown2
            go_wp2_with fail
            refine (hcon _).mono ?_
            rintro e w2 ⟨a, cap2, rfl, hac, hb2⟩
            obtain ⟨g2, rfl, hc2⟩ := hac (by omega)
            rw [hst.out] at hc2
            clear hcon hac
            go_wp2_with fail
            go_ret
            exact ⟨by rw [← HY.out]; rfl, hBr.trans (hb2.mono hHB)⟩
      · have hkd : k = (allB d).length := by omega
        have hgo := goes_on hf ht hd (show upTo f t d = (allB d).length by omega)
        have hnext : nextL (allB d) k = allB (d + 1) := by
          unfold nextL
          rw [hkd, List.take_of_length_le (Nat.le_refl _)]; rfl
        have hlen2 : 2 * k = (allB (d + 1)).length := by rw [hkd, all_len, all_len, Nat.pow_succ]; omega
        rw [hnext, hlen2] at hown2
        have hP : OuterP f t w u6 wr := ⟨d + 1, hgo, own_mono hown2 hge, hB.trans (hB2.mono hge)⟩
        obtain ⟨a6, cap6, rfl, _⟩ := own_form hown2
        have hms : (allB d).length < (allB (d + 1)).length := by omega
        have hms2 : (allB (d + 1)).length < 1000 := by omega
        clear hown2 hnext hrow hcells hown
        have HK := Lib.hid hkd
        clear hkd hlen2
        go_wp2_with fail
        exact ⟨hP, by simp only [sliceLen]; omega⟩
end Go.Proofs.YtnlejnldimihcaaDoor
