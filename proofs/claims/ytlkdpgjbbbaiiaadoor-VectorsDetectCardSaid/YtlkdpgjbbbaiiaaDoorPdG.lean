/- The reference's EqualOf. -/
import Derived.Test.YtlkdpgjbbbaiiaaDoorPdF
import Derived.Deep.CutRange
namespace Go.Proofs.YtlkdpgjbbbaiiaaDoor
open Go.RowKit Go.Maps

theorem own_drewN2 {w : World} {B e size n : Nat} {v : Value} {xs : List Value} (h : w.ownsRow B e size v n xs) (q : Nat) : (w.drewN q).ownsRow B e size v n xs := h
/-- Rows of numbers, each in a block of its own, other than the block of their heads. -/
def GroupsOwn (w : World) (B : Nat) (v : Value) (G : List (List Nat)) : Prop := ∃ vals : List Value, vals.length = G.length ∧ w.ownsRow B 22 1 v G.length vals ∧ ∀ i, i < G.length → (∃ Bi, NatsAt Bi w (vals.getD i undef) (G.getD i [])) ∧ (vals.getD i undef).ownBlock ≠ v.ownBlock
theorem GroupsOwn.at {w : World} {B : Nat} {v : Value} {G : List (List Nat)} (h : GroupsOwn w B v G) : GroupsAt w v G := by
  obtain ⟨vals, h1, h2, h3⟩ := h
  exact ⟨B, vals, h1, h2, fun i hi => (h3 i hi).1⟩
theorem GroupsOwn.later {w w' : World} {B : Nat} {v : Value} {G : List (List Nat)} (h : GroupsOwn w B v G) (hB : Below w.heap.size w w') : GroupsOwn w' B v G := by
  obtain ⟨vals, h1, h2, h3⟩ := h
  refine ⟨vals, h1, row_later h2 hB, fun i hi => ?_⟩
  obtain ⟨⟨Bi, h4⟩, h5⟩ := h3 i hi
  exact ⟨⟨Bi, row_later h4 hB⟩, h5⟩
theorem GroupsOwn.block {w : World} {B : Nat} {v : Value} {G : List (List Nat)} (h : GroupsOwn w B v G) (x : Nat) (hx : v.ownBlock = some x) : B ≤ x ∧ x < w.heap.size := by
  obtain ⟨vals, _, h2, _⟩ := h
  exact h2.lt x hx
theorem GroupsOwn.form {w : World} {B : Nat} {v : Value} {G : List (List Nat)} (h : GroupsOwn w B v G) : ∃ a c, v = .slice a G.length c := by
  obtain ⟨vals, _, h2, _⟩ := h
  exact slice_form h2
/-- One row more. -/
theorem GroupsOwn.push {w w4 : World} {B g5 c5 : Nat} {v x : Value} {G : List (List Nat)} {I : List Nat} {vals : List Value} {Bx : Nat} (h1 : vals.length = G.length) (h3 : ∀ i, i < G.length → (∃ Bi, NatsAt Bi w (vals.getD i undef) (G.getD i [])) ∧ (vals.getD i undef).ownBlock ≠ v.ownBlock)
    (hx : NatsAt Bx w x I) (hxb : x.ownBlock ≠ v.ownBlock) (hown : w4.ownsRow B 22 1 (.slice (some ⟨g5, 0, none⟩) (G.length + 1) c5) (G.length + 1) (vals ++ [x])) (hg : w.grownBy w4 v.ownBlock) (hat : v.ownBlock = some g5 ∨ w.heap.size ≤ g5) :
    GroupsOwn w4 B (.slice (some ⟨g5, 0, none⟩) (G.length + 1) c5) (G ++ [I]) := by
  have hl1 : (G ++ [I]).length = G.length + 1 := by simp
  refine ⟨vals ++ [x], by rw [hl1, List.length_append, h1]; rfl, by rw [hl1]; exact hown, fun i hi => ?_⟩
  have hne : ∀ (y : Value) {By : Nat} {l : List Nat}, NatsAt By w y l → y.ownBlock ≠ v.ownBlock → y.ownBlock ≠ some g5 := fun y By l hy hyb e => by
    have hlt := (World.ownsRow.lt hy g5 e).2
    rcases hat with h | h
    · exact hyb (e.trans h.symm)
    · omega
  by_cases e : i < G.length
  · have e1 : (vals ++ [x]).getD i undef = vals.getD i undef := by
      have : i < vals.length := by rw [h1]; exact e
      simp [List.getD, List.getElem?_append, this]
    have e2 : (G ++ [I]).getD i [] = G.getD i [] := by simp [List.getD, List.getElem?_append, e]
    rw [e1, e2]
    obtain ⟨⟨Bi, h4⟩, h5⟩ := h3 i e
    exact ⟨⟨Bi, World.ownsRow.kept h4 hg (.inr h5)⟩, hne _ h4 h5⟩
  · have e0 : i = G.length := by rw [hl1] at hi; omega
    have e1 : (vals ++ [x]).getD i undef = x := by rw [e0, ← h1]; simp [List.getD]
    have e2 : (G ++ [I]).getD i [] = I := by rw [e0]; simp [List.getD]
    rw [e1, e2]
    exact ⟨⟨Bx, World.ownsRow.kept hx hg (.inr hxb)⟩, hne _ hx hxb⟩

set_option maxHeartbeats 4000000 in
set_option maxRecDepth 100000 in
theorem equalOf_ok (V : List (List UInt8)) (n : Nat) (h1 : 1 ≤ n) (h2 : n ≤ 100) (hz : V.length ≤ 200) (hb : ∀ s, s ∈ V → s.length = n) (B : Nat) (w : World) (v : Value) (h : StrsAt B w v V) :
    Calls Tryd.prog 19 #[.int .i64 (n : Int), v] w fun e w' => ∃ v', e = .returned v' ∧ GroupsAt w' v' (groupsTo (turnL V n) n n) ∧ Below w.heap.size w w' := by
  have hs := rsequences_any V n (by omega) (by omega) hb B w v h
  obtain ⟨i0, hi, hz0, hz1, hz2⟩ := info_parts Tryd.infoIntc
  obtain ⟨j0, hj, hy0, hy1, hy2⟩ := info_parts Tryd.infoSl
  have hlen := gridL_length V n
  obtain ⟨a, c, rfl, -⟩ := strs_open h
  generalize turnL V n = L at hs hlen ⊢
  clear h hb hz
  go_enter Tryd.func19, Tryd.ntmps19
  go_wp2_with fail
  refine hs.mono ?_
  rintro e w2 ⟨v1, rfl, hS, hB⟩
  clear hs
  obtain ⟨a1, c1, rfl, hop⟩ := strs_open hS
  rw [hlen] at hop ⊢
  obtain ⟨g, rfl, hg, hcell⟩ := hop (by omega)
  have HC := Lib.hid hcell
  have HB := Lib.hid hB
  have hcap : n ≤ c1 := by
    obtain ⟨-, ⟨e, h0⟩ | ⟨g', cap, cur, e, -, -, hnc, -⟩⟩ := hS
    · cases e
    · rw [hlen] at e hnc
      injection e with e1 e2 e3
      omega
  clear hop hS hB hlen hcell
  go_wp2_with fail
  go_loopw [5, 15] (fun v i wr => ∃ (k : Nat), k ≤ n ∧ i = .int .i64 (k : Int) ∧ GroupsOwn wr w2.heap.size v (groupsTo L n k) ∧ Below w2.heap.size w2 wr) (fun _ i _ => n - (intOf i).toNat)
  case atStart => exact ⟨0, by omega, rfl, ⟨[], rfl, World.ownsRow_nil _ _ _ _, (fun i hi => by cases hi)⟩, Below.refl _ _⟩
  case round =>
    obtain ⟨k, hk, rfl, hG, hB2⟩ := hrel
    obtain ⟨a3, c3, rfl⟩ := hG.form
    by_cases hlt : k < n
    · obtain ⟨wo, rfl⟩ : ∃ wo : World, wo = wr := ⟨_, rfl⟩
      have hb1 := hB2.size
      have hnew : NatsAt wo.heap.size (wo.alloc (.cells #[.int .i64 (k : Int)] 3)) (.slice (some ⟨wo.heap.size, 0, none⟩) 1 1) (fromTo L k (k + 1)) := by
        rw [fromTo_self]
        exact World.ownsRow_lit (base := wo.heap.size) (e := 3) (size := 1) wo #[.int .i64 (k : Int)] 1 (Nat.le_refl _) (by decide) rfl
      have hBa : Below wo.heap.size wo (wo.alloc (.cells #[.int .i64 (k : Int)] 3)) := (Below.refl _ _).alloc (Nat.le_refl _) _
      have HR := Lib.hid (⟨hG, hB2, hnew, hBa⟩ : _ ∧ _ ∧ _ ∧ _)
      clear hG hB2 hnew hBa
      go_wp2_with fail
      go_loopw [8, 9] (fun v i wq => ∃ (j : Nat), k + 1 ≤ j ∧ j ≤ n ∧ i = .int .i64 (j : Int) ∧ NatsAt wo.heap.size wq v (fromTo L k j) ∧ Below wo.heap.size wo wq) (fun _ i _ => n - (intOf i).toNat)
      case atStart => exact ⟨k + 1, by omega, by omega, by go_num, HR.out.2.2.1, HR.out.2.2.2⟩
      case round =>
        obtain ⟨j, hj1, hj2, rfl, hown, hB3⟩ := hrel
        obtain ⟨a4, c4, rfl⟩ := nats_open hown
        have hBq : Below w2.heap.size w2 wr := HR.out.2.1.trans (hB3.mono hb1)
        have hck := (hBq.cell (p := ⟨g, k, none⟩) hg).trans (HC.out k hlt)
        obtain ⟨sk, hsk⟩ : ∃ s : ByteArray, s = ⟨(L.getD k []).toArray⟩ := ⟨_, rfl⟩
        have hwk := word_dec _ sk hsk
        change _ = some (Value.string ⟨(L.getD k []).toArray⟩) at hck
        rw [← hsk] at hck
        have k0 : (0 : Int) ≤ (k : Int) := by omega
        have k1 : (k : Int) < (n : Int) := by omega
        have hsl := fromTo_len L k j
        have hb3 := hB3.size
        by_cases hltj : j < n
        · have hcj := (hBq.cell (p := ⟨g, j, none⟩) hg).trans (HC.out j hltj)
          obtain ⟨sj, hsj⟩ : ∃ s : ByteArray, s = ⟨(L.getD j []).toArray⟩ := ⟨_, rfl⟩
          have hwj := word_dec _ sj hsj
          change _ = some (Value.string ⟨(L.getD j []).toArray⟩) at hcj
          rw [← hsj] at hcj
          have j0' : (0 : Int) ≤ (j : Int) := by omega
          have j1 : (j : Int) < (n : Int) := by omega
          have hsu := fromTo_succ L k j (by omega)
          by_cases e : L.getD j [] = L.getD k []
          · have he : (sj.toList == sk.toList) = true := by rw [ByteArray.toList_eq, ByteArray.toList_eq, hwj.2, hwk.2, e]; simp
            have he2 : sj = sk := by rw [hsj, hsk, e]
            rw [if_pos e] at hsu
            have HS := Lib.hid (⟨hsu, hB3⟩ : _ ∧ _)
            have hrow : wr.ownsRow wo.heap.size 3 1 (.slice a4 (fromTo L k j).length c4) (fromTo L k j).length ((fromTo L k j).map natV) := hown
            subst he2
            clear hsu e hsj hsk hwj hwk hown hB3 hBq he
            generalize fromTo L k j = F at HS hrow hsl ⊢
            go_wp2_with fail
            go_quiet (fail)
            go_wp2_with (at_builtin; refine wpList_append_own _ rfl _ _ 22 rfl wo.heap.size 3 i0 (.int .i64 0) 1 8 Tryd.underlying22 hi hz0 hz1 hz2 rfl (by decide) _ _ _ rfl ((own_drewN2 hrow _).alloc _) ⟨wr.heap.size, 0, none⟩ 1 1 [.int .i64 (j : Int)] rfl rfl ?c1 ?c2 ?c3 ?c4 ?c5 ?_)
            case c1 => exact cell_one_new _ _ _
            case c2 => exact ints_oneCell .i64 [(j : Int)]
            case c3 => unfold maxLen; omega
            case c4 => omega
            case c5 => simp; omega
            intro v' w4 hown' hg4 _
            have hB4 : Below wo.heap.size wo w4 := ((HS.out.2.trans ((drewN_below wr _).mono hb3)).alloc hb3 _).grown hg4 (by simp; omega) (fun j hj => (hrow.lt j hj).1)
            have hN := nats_snoc j hown'
            rw [← HS.out.1] at hN
            have HN := Lib.hid (⟨hN, hB4⟩ : _ ∧ _)
            obtain ⟨a5, c5, rfl⟩ := nats_open hN
            clear hN hB4 hown' hg4 hrow
            go_wp2_with fail
            go_roundw
            case rel => exact ⟨j + 1, by omega, by omega, by go_num, HN.out⟩
            case measure => simp [intOf]; omega
          · have he : (sj.toList == sk.toList) = false := by
              rw [beq_eq_false_iff_ne, ByteArray.toList_eq, ByteArray.toList_eq, hwj.2, hwk.2]
              exact e
            rw [if_neg e] at hsu
            have HS := Lib.hid (⟨hsu, hown, hB3⟩ : _ ∧ _ ∧ _)
            clear hsu e hsj hsk hwj hwk hown hB3 hBq
            go_wp2_with fail
            go_quiet (fail)
            go_wp2_with fail
            go_roundw
            case rel => exact ⟨j + 1, by omega, by omega, by go_num, by rw [HS.out.1]; exact own_drewN2 HS.out.2.1 _, HS.out.2.2.trans ((drewN_below _ _).mono hb3)⟩
            case measure => simp [intOf]; omega
        · obtain rfl : j = n := by omega
          have hgf := grp_from L j k hlt
          have hsu := groupsTo_succ L j k
          have hgl := groupsTo_len L j k
          have hcs := fun q => contStr_any L (L.getD k []) k g c1 (by omega) (wr.drewN q) (fun m hm => (hBq.cell (p := ⟨g, m, none⟩) hg).trans (HC.out m (by omega)))
          rw [← hsk] at hcs
          obtain ⟨eb, heb⟩ : ∃ eb, eb = earlierB L (L.getD k []) k := ⟨_, rfl⟩
          rw [← heb] at hcs hgf
          have kc : (k : Int) ≤ (c1 : Int) := by omega
          have hrow : wr.ownsRow wo.heap.size 3 1 (.slice a4 (fromTo L k j).length c4) (fromTo L k j).length ((fromTo L k j).map natV) := hown
          have hGw := HR.out.1.later hB3
          have HS := Lib.hid (⟨hsu, hgf, hown, hBq, hGw⟩ : _ ∧ _ ∧ _ ∧ _ ∧ _)
          have hno : ∀ q, grpB L j k = false → ∃ k', k' ≤ j ∧ Value.int .i64 ((k : Int) + 1) = .int .i64 (k' : Int) ∧ GroupsOwn (wr.drewN q) w2.heap.size (.slice a3 (groupsTo L j k).length c3) (groupsTo L j k') ∧ Below w2.heap.size w2 (wr.drewN q) := fun q h => by
            have hsu := HS.out.1
            rw [h, if_neg (by decide)] at hsu
            refine ⟨k + 1, by omega, by go_num, ?_, HS.out.2.2.2.1.trans ((drewN_below _ _).mono HS.out.2.2.2.1.size)⟩
            rw [hsu]
            exact HS.out.2.2.2.2.later (drewN_below _ _)
          have HNO := Lib.hid hno
          clear hsu hgf hsk hwk hown hB3 hBq hGw hno heb
          by_cases hl1 : 1 < (fromTo L k j).length
          · have l1 : (1 : Int) < ((fromTo L k j).length : Int) := by omega
            cases eb with
            | true =>
              have hg0 : grpB L j k = false := by rw [HS.out.2.1.1]; simp
              have HN2 := Lib.hid (fun q => HNO.out q hg0)
              clear hg0 hl1
              generalize fromTo L k j = F at hrow hsl l1 HS ⊢
              go_wp2_with fail
              go_quiet ((go_at_call 47; exact Calls.quiet_of_same (hcs _)))
              go_wp2_with fail
              go_roundw
              case rel => exact HN2.out _
              case measure => simp [intOf]; omega
            | false =>
              have hg1 : grpB L j k = true := by rw [HS.out.2.1.1]; simp [hl1]
              have he1 : idxTo L j (L.getD k []) = fromTo L k j := HS.out.2.1.2 rfl
              have hsu := HS.out.1
              rw [hg1, if_pos rfl, he1] at hsu
              obtain ⟨vals, v1', v2', v3'⟩ := HS.out.2.2.2.2
              have hvb : (Value.slice a4 (fromTo L k j).length c4).ownBlock ≠ (Value.slice a3 (groupsTo L j k).length c3).ownBlock := by
                intro e
                cases a4 with
                | none =>
                  have := hrow.2
                  rcases this with ⟨e2, h0⟩ | ⟨g', cap', cur', e2, -⟩
                  · omega
                  · cases e2
                | some ad =>
                  have h3 := (hrow.lt ad.block rfl).1
                  have h4 := (HR.out.1.block ad.block e.symm).2
                  omega
              have HP := Lib.hid (⟨hsu, v1', v2', v3', HS.out.2.2.1, hvb, HS.out.2.2.2.1⟩ : _ ∧ _ ∧ _ ∧ _ ∧ _ ∧ _ ∧ _)
              have hrowG : wr.ownsRow w2.heap.size 22 1 (.slice a3 (groupsTo L j k).length c3) (groupsTo L j k).length vals := v2'
              have hbw := HS.out.2.2.2.1.size
              clear hg1 he1 hsu v1' v2' v3' hvb HS HNO hrow hl1
              generalize fromTo L k j = F at hsl l1 HP ⊢
              generalize groupsTo L j k = G at hgl HP hrowG ⊢
              go_wp2_with fail
              go_quiet ((go_at_call 47; exact Calls.quiet_of_same (hcs _)))
              go_wp2_with (at_builtin; refine wpList_append_lies _ rfl _ _ 36 rfl w2.heap.size 22 j0 (.slice none 0 0) 1 24 Tryd.underlying36 hj hy0 hy1 hy2 rfl (by decide) _ _ _ rfl ((own_drewN2 hrowG _).alloc _) ⟨wr.heap.size, 0, none⟩ 1 1 [.slice a4 F.length c4] rfl rfl ?d1 ?d2 (by decide) ?d3 ?d4 ?d5 _ rfl ?_)
              case d1 => exact cell_one_new _ _ _
              case d2 => simp [Value.oneCell']
              case d3 => unfold maxLen; omega
              case d4 => omega
              case d5 => simp; omega
              intro g5 c5 w5 hown5 hg5 hat5 hlt5
              have key := fun (w0 : World) (hB0 : Below wr.heap.size wr w0) (hg : w0.grownBy w5 (Value.slice a3 G.length c3).ownBlock) (hat : (Value.slice a3 G.length c3).ownBlock = some g5 ∨ w0.heap.size ≤ g5) => GroupsOwn.push (w := w0) (I := F) HP.out.2.1 (fun i hi => by
                obtain ⟨⟨Bi, h4⟩, h5⟩ := HP.out.2.2.2.1 i hi
                exact ⟨⟨Bi, row_later h4 hB0⟩, h5⟩) (row_later HP.out.2.2.2.2.1 hB0) HP.out.2.2.2.2.2.1 hown5 hg hat
              have hP := key _ ((drewN_below wr _).alloc (Nat.le_refl _) _) hg5 (by
                rcases hat5 with h | h
                · exact .inl h
                · right; rw [h]; simp)
              have hB5 : Below w2.heap.size w2 w5 := ((HP.out.2.2.2.2.2.2.trans ((drewN_below wr _).mono hbw)).alloc hbw _).grown hg5 (by simp; omega) (fun j hj => (hrowG.lt j hj).1)
              have HF := Lib.hid (⟨hP, hB5⟩ : _ ∧ _)
              clear hP hB5 key hown5 hg5 hat5 hlt5 hrowG
              go_wp2_with fail
              go_roundw
              case rel => exact ⟨k + 1, by omega, by go_num, by rw [HP.out.1]; exact HF.out.1, HF.out.2⟩
              case measure => simp [intOf]; omega
          · have l0 : decide (1 < (fromTo L k j).length) = false := decide_eq_false hl1
            have l1 : decide ((1 : Int) < ((fromTo L k j).length : Int)) = false := decide_eq_false (by omega)
            have l2 : ((fromTo L k j).length : Int) ≤ 1 := by omega
            have hg0 : grpB L j k = false := by rw [HS.out.2.1.1, l0, Bool.false_and]
            have HN2 := Lib.hid (fun q => HNO.out q hg0)
            clear hg0 hl1 l0
            generalize fromTo L k j = F at hrow hsl l1 l2 HS ⊢
            go_wp2_with fail
            go_quiet (fail)
            go_wp2_with fail
            go_roundw
            case rel => exact HN2.out _
            case measure => simp [intOf]; omega
    · obtain rfl : k = n := by omega
      have HF := Lib.hid (⟨hG.at, HB.out.trans (hB2.mono HB.out.size)⟩ : _ ∧ _)
      clear hG hB2
      go_wp2_with fail
      go_ret
      exact ⟨_, rfl, HF.out⟩
end Go.Proofs.YtlkdpgjbbbaiiaaDoor
