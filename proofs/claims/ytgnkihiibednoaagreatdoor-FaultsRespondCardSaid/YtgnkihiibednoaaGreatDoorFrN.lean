/- The reference: caught, FirstOf. -/
import Derived.Test.YtgnkihiibednoaaGreatDoorFrL
namespace Go.Proofs.YtgnkihiibednoaaGreatDoor
open Go.RowKit

theorem Tryz.infoInt9 : (Tryz.prog.info? 3).map (fun i => (i.zero, i.size, i.bytes)) = some (some (.int .i64 0), 1, 8) := by kernel_rfl
/-- A row of numbers of the call's own. -/
def NumsOwn (B : Nat) (w : World) (v : Value) (l : List Nat) : Prop := w.ownsRow B 3 1 v l.length (l.map natV)
theorem nums_snoc {B : Nat} {w : World} {v : Value} {l : List Nat} (b : Nat) (h : w.ownsRow B 3 1 v (l.length + 1) (l.map natV ++ [.int .i64 (b : Int)])) : NumsOwn B w v (l ++ [b]) := by
  unfold NumsOwn
  rw [List.length_append, List.map_append]
  exact h
theorem NumsOwn.open {B : Nat} {w : World} {v : Value} {l : List Nat} (h : NumsOwn B w v l) : ∃ a c, v = .slice a l.length c := by
  obtain ⟨-, ⟨e, h0⟩ | ⟨g, cap, cur, e, -⟩⟩ := h
  · exact ⟨none, 0, by rw [e, h0]⟩
  · exact ⟨_, _, e⟩
theorem byte_bne (a b : UInt8) : ((a.toNat : Int) != (b.toNat : Int)) = (a != b) := by
  rw [Bool.eq_iff_iff]
  simp only [bne_iff_ne, ne_eq]
  exact not_congr ⟨fun h => UInt8.toNat_inj.1 (by omega), fun h => by rw [h]⟩
theorem filter_snoc (p : Nat → Bool) (v : Nat) : (List.range (v + 1)).filter p = if p v = true then (List.range v).filter p ++ [v] else (List.range v).filter p := by
  rw [List.range_succ, List.filter_append]
  split
  · rename_i h; simp [h]
  · rename_i h; simp [h]
theorem any_snoc (p : Nat → Bool) (i : Nat) (h : (List.range i).any p = false) : (List.range (i + 1)).any p = p i := by
  rw [List.range_succ, List.any_append, h]
  simp
theorem any_lift (p : Nat → Bool) (i n : Nat) (h : i < n) (hp : p i = true) : (List.range n).any p = true := List.any_eq_true.2 ⟨i, List.mem_range.2 h, hp⟩
set_option maxHeartbeats 8000000 in
set_option maxRecDepth 100000 in
theorem caught_any (T : List (List UInt8)) (n m : Nat) (hT : TestRight T n m) (f : Flt) (hf : FltRight n f) (B : Nat) (w : World) (tv nv : Value) (h : StrsAt B w tv T) (hN : NetsAt w nv f.2) :
    Calls Tryz.prog 45 #[tv, .agg #[.int .i64 f.1, nv]] w fun e w' => ∃ v', e = .returned v' ∧ NumsOwn w.heap.size w' v' (caughtL T f m) ∧ Below w.heap.size w w' := by
  obtain ⟨i0, hi, hz0, hz1, hz2⟩ := info_parts Tryz.infoInt9
  have hn1 := hT.n1
  have hn2 := hT.n2
  have hm2 := hT.m2
  obtain ⟨W1, hW1⟩ : ∃ W1 : World, W1 = w.alloc (.cells #[.int .i64 f.1, nv] 30) := ⟨_, rfl⟩
  have hB1 : Below w.heap.size w W1 := by rw [hW1]; exact (Below.refl _ _).alloc (Nat.le_refl _) _
  have hb0 : W1.cell? ⟨w.heap.size, 0, none⟩ = some (.int .i64 f.1) := by rw [hW1]; simp
  have hb1 : W1.cell? ⟨w.heap.size, 1, none⟩ = some nv := by rw [hW1]; simp
  have hro := responseOf_any T n m hT f hf B W1 tv nv (row_later h hB1) (hN.later hB1)
  have hrl := respL_len T f m
  obtain ⟨a, c, rfl, hop⟩ := strs_open h
  rw [hT.len] at hop hro hrl ⊢
  obtain ⟨g, rfl, hg, hcell⟩ := hop (by omega)
  have hstr : ∀ j, j < n → ∃ s : ByteArray, (∀ W, Below w.heap.size w W → W.cell? ⟨g, j, none⟩ = some (.string s)) ∧ s.size = m ∧ ∀ v, v < m → ∀ (hh : v < s.size), s[v]'hh = byteT T (j : Int) v := fun j hj => by
    refine ⟨⟨(T.getD j []).toArray⟩, fun W hB => (hB.cell (p := ⟨g, j, none⟩) hg).trans (hcell j hj), ?_, fun v hv hh => ?_⟩
    · show (T.getD j []).toArray.size = m
      simpa using hT.long j hj
    · have h2 : v < (T.getD j []).length := by rw [hT.long j hj]; exact hv
      show _ = (T.getD ((j : Int)).toNat []).getD v 0
      rw [Int.toNat_natCast, List.getD_eq_getElem?_getD (l := T.getD j []), List.getElem?_eq_getElem h2]
      rfl
  have hres : ∀ j, j < n → ∃ s : ByteArray, strV ((respL T f m).getD j []) = .string s ∧ s.size = m ∧ ∀ v, v < m → ∀ (hh : v < s.size), s[v]'hh = seenB T f j v := fun j hj => by
    rw [respL_get _ _ _ _ (by rw [hT.len]; exact hj)]
    refine ⟨⟨(respRow T f m j).toArray⟩, rfl, ?_, fun v hv hh => ?_⟩
    · show (respRow T f m j).toArray.size = m
      simpa using respRow_len T f m j
    · rw [← respRow_get T f m j v hv]
      have h2 : v < (respRow T f m j).length := by rw [respRow_len]; exact hv
      rw [List.getD_eq_getElem?_getD, List.getElem?_eq_getElem h2]
      rfl
  obtain ⟨p, hp⟩ : ∃ p : Nat → Nat → Bool, p = fun v i => seenB T f i v != byteT T (i : Int) v := ⟨_, rfl⟩
  have hcb : ∀ v, caughtB T f v = (List.range n).any (p v) := fun v => by unfold caughtB; rw [hT.len, hp]
  have hpv : ∀ v i, p v i = (seenB T f i v != byteT T (i : Int) v) := fun v i => by rw [hp]
  have hfin : caughtL T f m = (List.range m).filter fun v => (List.range n).any (p v) := by unfold caughtL; congr 1; funext v; exact hcb v
  rw [hfin]
  obtain ⟨na, nc, hnv, -⟩ := hN
  obtain ⟨k, l⟩ := f
  dsimp only at hb0 hb1 hro hres hrl hW1 hnv ⊢
  generalize l.length = nl at hnv
  subst hnv
  have HH := Lib.hid (⟨hstr, hres, hB1, hpv, hrl⟩ : _ ∧ _ ∧ _ ∧ _ ∧ _)
  have HW := Lib.hid hW1
  clear hstr hres hB1 hpv hrl hW1 hfin h hop hcell hT hf hcb hp
  go_enter Tryz.func45, Tryz.ntmps45
  go_wp2_with fail
  rw [← HW.out]
  refine hro.mono ?_
  rintro e w2 ⟨rv, rfl, hrv, hB2⟩
  obtain ⟨ra, rc, rfl, hrop⟩ := strs_open hrv
  rw [HH.out.2.2.2.2] at hrop ⊢
  obtain ⟨g2, rfl, hg2, hcell2⟩ := hrop (by omega)
  have hBw := HH.out.2.2.1.trans (hB2.mono HH.out.2.2.1.size)
  obtain ⟨s0, hs01, hs02, -⟩ := HH.out.1 0 (by omega)
  have c00 := hs01 _ hBw
  have hn0 : (0 : Int) < (n : Int) := by omega
  have H2 := Lib.hid (⟨hcell2, hBw⟩ : _ ∧ _)
  clear hro hrv hB2 hrop hcell2 hBw hs01 hb0 hb1
  go_wp2_with fail
  go_loopw [6, 16] (fun out ix wr => ∃ v : Nat, v ≤ m ∧ ix = .int .i64 (v : Int) ∧ NumsOwn w2.heap.size wr out ((List.range v).filter fun v => (List.range n).any (p v)) ∧ Below w2.heap.size w2 wr) (fun _ ix _ => m - (intOf ix).toNat)
  case atStart => exact ⟨0, by omega, rfl, World.ownsRow_nil _ _ _ _, Below.refl _ _⟩
  case round =>
    obtain ⟨v, hv', rfl, hout, hB⟩ := hrel
    obtain ⟨wo, rfl⟩ : ∃ wo : World, wo = wr := ⟨_, rfl⟩
    obtain ⟨F, hF⟩ : ∃ F, F = (List.range v).filter fun v => (List.range n).any (p v) := ⟨_, rfl⟩
    rw [← hF] at hout
    have hFl : F.length ≤ v := by
      rw [hF]
      have := List.length_filter_le (fun v => (List.range n).any (p v)) (List.range v)
      simpa using this
    obtain ⟨oa, oc, rfl⟩ := hout.open
    obtain ⟨fl, hfl⟩ : ∃ x, x = F.length := ⟨_, rfl⟩
    have hrow : wo.ownsRow w2.heap.size 3 1 (.slice oa fl oc) fl (F.map natV) := by rw [hfl]; exact hout
    rw [← hfl] at hFl ⊢
    by_cases hlt : v < m
    · have v0 : (0 : Int) ≤ (v : Int) := by omega
      have v1 : (v : Int) < (m : Int) := by omega
      have hsn := filter_snoc (fun v => (List.range n).any (p v)) v
      rw [← hF] at hsn
      have HO := Lib.hid (⟨hrow, hB, hsn, hfl⟩ : _ ∧ _ ∧ _ ∧ _)
      clear hout hrow hB hsn hF hfl
      go_wp2_with fail
      go_loopw [6, 21] (fun out jx wr => ∃ i : Nat, i ≤ n ∧ jx = .int .i64 (i : Int) ∧ out = .slice oa fl oc ∧ (List.range i).any (p v) = false ∧ wr.ownsRow w2.heap.size 3 1 (.slice oa fl oc) fl (F.map natV) ∧ Below w2.heap.size w2 wr) (fun _ jx _ => n - (intOf jx).toNat)
      case atStart => exact ⟨0, by omega, rfl, rfl, rfl, HO.out.1, HO.out.2.1⟩
      case round =>
        obtain ⟨i, hi', rfl, rfl, hany, hrow, hB⟩ := hrel
        by_cases hlti : i < n
        · obtain ⟨s1, h11, h12, h13⟩ := HH.out.1 i hlti
          obtain ⟨s2, h21, h22, h23⟩ := HH.out.2.1 i hlti
          have c1 := h11 _ (H2.out.2.trans (hB.mono H2.out.2.size))
          have c2 := (hB.cell (p := ⟨g2, i, none⟩) hg2).trans (H2.out.1 i hlti)
          rw [h21] at c2
          have e1 := h13 v hlt (by omega)
          have e2 := h23 v hlt (by omega)
          have hsnp := any_snoc (p v) i hany
          have hlift := any_lift (p v) i n hlti
          have hpe := HH.out.2.2.2.1 v i
          rw [← e1, ← e2] at hpe
          have vs1 : v < s1.size := by omega
          have vs2 : v < s2.size := by omega
          have vz1 : (v : Int) < (s1.size : Int) := by omega
          have vz2 : (v : Int) < (s2.size : Int) := by omega
          have i0' : (0 : Int) ≤ (i : Int) := by omega
          have i1' : (i : Int) < (n : Int) := by omega
          have hd : (((s2[v]'vs2).toNat : Int) != ((s1[v]'vs1).toNat : Int)) = p v i := by rw [byte_bne, ← hpe]
          cases hp1 : p v i with
          | true =>
            rw [hp1] at hd
            have hyes := hlift hp1
            have HS := Lib.hid (⟨hrow, hB, hyes⟩ : _ ∧ _ ∧ _)
            have hbz := hB.size
            clear hrow hB hany h11 h13 h21 h23 e1 e2 hsnp hlift hpe hp1 hyes
            go_wp2_with fail
            go_quiet (fail)
            clear hd c1 c2
            have hdr : ∀ q, (wr.drewN q).ownsRow w2.heap.size 3 1 (.slice oa fl oc) fl (F.map natV) := fun q => row_later HS.out.1 (drewN_below _ _)
            have hdb : ∀ q, Below w2.heap.size w2 (wr.drewN q) := fun q => HS.out.2.1.trans ((drewN_below _ _).mono HS.out.2.1.size)
            have hds : ∀ q, (wr.drewN q).heap.size = wr.heap.size := fun q => by simp
            have HD := Lib.hid (⟨hdr, hdb, hds⟩ : _ ∧ _ ∧ _)
            clear hdr hdb hds
            go_wp2_with (at_builtin; refine wpList_append_own _ rfl _ _ 22 rfl w2.heap.size 3 i0 (.int .i64 0) 1 8 Tryz.underlying22 hi hz0 hz1 hz2 rfl (by decide) _ _ _ rfl ((HD.out.1 _).alloc _) ⟨wr.heap.size, 0, none⟩ 1 1 [.int .i64 (v : Int)] rfl rfl ?c1 ?c2 ?c3 ?c4 ?c5 ?_)
            case c1 =>
              first
                | exact cell_one_new _ _ _
                | (intro j hj; simp at hj; subst hj; simp)
                | simp
            case c2 =>
              intro u hu
              simp at hu
              subst hu
              rfl
            case c3 => unfold maxLen; omega
            case c4 => omega
            case c5 => simp; try omega
            intro v' w7 hown' hg7 _
            have hB7 : Below w2.heap.size w2 w7 := ((HD.out.2.1 _).alloc (by rw [HD.out.2.2]; exact hbz) _).grown hg7 (by simp; try omega) (fun j hj => ((HD.out.1 0).lt j hj).1)
            have hN7 : NumsOwn w2.heap.size w7 v' ((List.range (v + 1)).filter fun v => (List.range n).any (p v)) := by
              have hsn := HO.out.2.2.1
              rw [if_pos HS.out.2.2] at hsn
              rw [hsn]
              refine nums_snoc v ?_
              rw [← HO.out.2.2.2]
              exact hown'
            obtain ⟨g9, cap9, rfl⟩ := ownsRow_succ hown'
            have hl9 : (List.filter (fun v => (List.range n).any (p v)) (List.range (v + 1))).length = fl + 1 := by
              have hsn := HO.out.2.2.1
              rw [if_pos HS.out.2.2] at hsn
              rw [hsn, HO.out.2.2.2]
              simp
            have H9 := Lib.hid (⟨hN7, hB7⟩ : _ ∧ _)
            clear hB7 hN7 hown' hg7 hl9
            go_wp2_with fail
            go_roundw
            case rel => exact ⟨v + 1, by omega, by go_num, H9.out⟩
            case measure => simp [intOf]; omega
          | false =>
            rw [hp1] at hd hsnp
            have HS := Lib.hid (⟨hrow, hB, hsnp⟩ : _ ∧ _ ∧ _)
            clear hrow hB hany h11 h13 h21 h23 e1 e2 hsnp hlift hpe hp1
            go_wp2_with fail
            go_quiet (fail)
            clear hd c1 c2
            go_wp2_with fail
            go_roundw
            case rel => exact ⟨i + 1, by omega, by go_num, rfl, HS.out.2.2, row_later HS.out.1 (drewN_below _ _), HS.out.2.1.trans ((drewN_below _ _).mono HS.out.2.1.size)⟩
            case measure => simp [intOf]; omega
        · obtain rfl : i = n := by omega
          have hsn := HO.out.2.2.1
          simp only [hany] at hsn
          rw [if_neg (by decide)] at hsn
          have hN7 : NumsOwn w2.heap.size wr (.slice oa fl oc) ((List.range (v + 1)).filter fun v => (List.range i).any (p v)) := by
            rw [hsn]
            unfold NumsOwn
            rw [← HO.out.2.2.2]
            exact hrow
          have H9 := Lib.hid (⟨hN7, hB⟩ : _ ∧ _)
          clear hrow hB hany hsn hN7
          go_wp2_with fail
          go_roundw
          case rel => exact ⟨v + 1, by omega, by go_num, H9.out⟩
          case measure => simp [intOf]; omega
    · obtain rfl : v = m := by omega
      have hb9 : NumsOwn w.heap.size wo (.slice oa fl oc) F := by
        have h1 := row_base hrow (show w.heap.size ≤ w2.heap.size from H2.out.2.size)
        unfold NumsOwn
        rw [← hfl]
        exact h1
      have H9 := Lib.hid (⟨hF ▸ hb9, H2.out.2.trans (hB.mono H2.out.2.size)⟩ : _ ∧ _)
      clear hout hrow hB hb9 hF hfl
      go_wp2_with fail
      go_ret
      exact ⟨_, rfl, H9.out⟩
end Go.Proofs.YtgnkihiibednoaaGreatDoor
