/- MaskedOf. -/
import Derived.Test.YtlkdpgjbbbaiiaaDoorPdQ
namespace Go.Proofs.YtlkdpgjbbbaiiaaDoor
open Go.RowKit Go.Maps

theorem Tryd.infoTri : (Tryd.prog.info? 55).map (fun i => (i.zero, i.size, i.bytes)) = some (some (.agg #[.int .i64 0, .int .i64 0, .int .i64 0]), 3, 24) := by kernel_rfl

def triCells (T : List (Nat × Nat × Nat)) : List Value := T.flatMap fun t => [natV t.1, natV t.2.1, natV t.2.2]
theorem triCells_len (T : List (Nat × Nat × Nat)) : (triCells T).length = T.length * 3 := by
  unfold triCells
  induction T with
  | nil => rfl
  | cons t T ih => rw [List.flatMap_cons, List.length_append, ih, List.length_cons]; simp; omega
def TrisAt (B : Nat) (w : World) (v : Value) (T : List (Nat × Nat × Nat)) : Prop := w.ownsRow B 55 3 v T.length (triCells T)
theorem tris_open {B : Nat} {w : World} {v : Value} {T : List (Nat × Nat × Nat)} (h : TrisAt B w v T) : ∃ a c, v = .slice a T.length c := by
  obtain ⟨-, ⟨e, h0⟩ | ⟨g, cap, cur, e, -⟩⟩ := h
  · exact ⟨none, 0, by rw [e, h0]⟩
  · exact ⟨_, _, e⟩
theorem tris_snoc {B : Nat} {w : World} {v : Value} {T : List (Nat × Nat × Nat)} (x y z : Nat) (h : w.ownsRow B 55 3 v (T.length + 1) (triCells T ++ [.int .i64 (x : Int), .int .i64 (y : Int), .int .i64 (z : Int)])) : TrisAt B w v (T ++ [(x, y, z)]) := by
  unfold TrisAt
  have e : triCells (T ++ [(x, y, z)]) = triCells T ++ [.int .i64 (x : Int), .int .i64 (y : Int), .int .i64 (z : Int)] := by
    unfold triCells
    rw [List.flatMap_append]
    rfl
  rw [e, List.length_append]
  exact h

/-- Whether net k looks like a short of a and b. -/
def triB (L : List (List UInt8)) (a b k : Nat) : Bool := decide (k ≠ a) && (decide (k ≠ b) && decide (L.getD k [] = andL (L.getD a []) (L.getD b [])))
def triTo (L : List (List UInt8)) (a b k : Nat) : List (Nat × Nat × Nat) := (List.range k).filterMap fun c => if triB L a b c = true then some (a, b, c) else none
theorem triTo_zero (L : List (List UInt8)) (a b : Nat) : triTo L a b 0 = [] := rfl
theorem triTo_succ (L : List (List UInt8)) (a b k : Nat) : triTo L a b (k + 1) = if triB L a b k = true then triTo L a b k ++ [(a, b, k)] else triTo L a b k := by
  unfold triTo
  rw [List.range_succ, List.filterMap_append]
  cases h : triB L a b k with
  | true => rw [if_pos rfl]; simp [h]
  | false => rw [if_neg (by decide)]; simp [h]
theorem triTo_len (L : List (List UInt8)) (a b k : Nat) : (triTo L a b k).length ≤ k := by
  unfold triTo
  have := List.length_filterMap_le (fun c => if triB L a b c = true then some (a, b, c) else none) (List.range k)
  simpa using this
def trisL (L : List (List UInt8)) (n : Nat) (xs : List (Nat × Nat)) : List (Nat × Nat × Nat) := xs.flatMap fun x => triTo L x.1 x.2 n
theorem trisL_snoc (L : List (List UInt8)) (n : Nat) (xs : List (Nat × Nat)) (x : Nat × Nat) : trisL L n (xs ++ [x]) = trisL L n xs ++ triTo L x.1 x.2 n := by
  unfold trisL
  rw [List.flatMap_append]
  simp
theorem trisL_len (L : List (List UInt8)) (n : Nat) : ∀ xs, (trisL L n xs).length ≤ xs.length * n
  | [] => Nat.zero_le _
  | x :: xs => by
    have h1 := trisL_len L n xs
    have h2 := triTo_len L x.1 x.2 n
    have e : trisL L n (x :: xs) = triTo L x.1 x.2 n ++ trisL L n xs := by unfold trisL; rw [List.flatMap_cons]
    rw [e, List.length_append, List.length_cons, Nat.add_mul]
    omega

set_option maxHeartbeats 8000000 in
set_option maxRecDepth 100000 in
theorem maskedOf_any (V : List (List UInt8)) (n : Nat) (h1 : 1 ≤ n) (h2 : n ≤ 100) (hz : V.length ≤ 200) (hb : ∀ s, s ∈ V → s.length = n ∧ s.all bitB = true) (B : Nat) (w : World) (v : Value) (h : StrsAt B w v V) :
    Calls Tryd.prog 20 #[.int .i64 (n : Int), v] w fun e w' => ∃ v', e = .returned (.tuple #[v', .bool (decide ((trisL (turnL V n) n (pairsTo n n)).length ≤ 10000))]) ∧ TrisAt w.heap.size w' v' (trisL (turnL V n) n (pairsTo n n)) ∧ Below w.heap.size w w' := by
  have hs := rsequences_any V n (by omega) (by omega) (fun s hs => (hb s hs).1) B w v h
  obtain ⟨i0, hi, hz0, hz1, hz2⟩ := info_parts Tryd.infoTri
  have hG := turnL_grid V n h1 h2 hz hb
  obtain ⟨a0, c0, rfl, -⟩ := strs_open h
  generalize turnL V n = L at hs hG ⊢
  generalize V.length = m at hs hG ⊢
  obtain ⟨T, hT⟩ : ∃ T, T = trisL L n (pairsTo n n) := ⟨_, rfl⟩
  rw [← hT]
  have HR := Lib.hid (⟨hT, hG⟩ : _ ∧ _)
  clear h hb hz hT
  go_enter Tryd.func20, Tryd.ntmps20
  go_wp2_with fail
  refine hs.mono ?_
  rintro e w2 ⟨v1, rfl, hS, hB⟩
  clear hs
  obtain ⟨a1, c1, rfl, hop⟩ := strs_open hS
  rw [hG.len] at hop ⊢
  obtain ⟨g, rfl, hg, hcell⟩ := hop (by omega)
  have HC := Lib.hid hcell
  have HB := Lib.hid hB
  clear hop hS hB hcell hG
  go_wp2_with fail
  go_loopw [6, 17] (fun v i wr => ∃ (a : Nat), a ≤ n ∧ i = .int .i64 (a : Int) ∧ TrisAt w2.heap.size wr v (trisL L n (pairsTo n a)) ∧ Below w2.heap.size w2 wr) (fun _ i _ => n - (intOf i).toNat)
  case atStart => exact ⟨0, by omega, rfl, World.ownsRow_nil _ _ _ _, Below.refl _ _⟩
  case round =>
    obtain ⟨a, ha, rfl, hown, hB2⟩ := hrel
    obtain ⟨a3, c3, rfl⟩ := tris_open hown
    by_cases hlta : a < n
    · have hb1 := hB2.size
      have HN := Lib.hid (⟨hown, hB2⟩ : _ ∧ _)
      clear hown hB2
      go_wp2_with fail
      go_loopw [6, 9] (fun v i wq => ∃ (b : Nat), a + 1 ≤ b ∧ b ≤ n ∧ i = .int .i64 (b : Int) ∧ TrisAt w2.heap.size wq v (trisL L n (pairsTo n a ++ rowTo a b)) ∧ Below w2.heap.size w2 wq) (fun _ i _ => n - (intOf i).toNat)
      case atStart => exact ⟨a + 1, by omega, by omega, by go_num, by rw [rowTo_none a (a + 1) (by omega), List.append_nil]; exact HN.out.1, HN.out.2⟩
      case round =>
        obtain ⟨b, hbl, hbn, rfl, hown, hB3⟩ := hrel
        obtain ⟨a4, c4, rfl⟩ := tris_open hown
        by_cases hltb : b < n
        · have hca := (hB3.cell (p := ⟨g, a, none⟩) hg).trans (HC.out a hlta)
          have hcb := (hB3.cell (p := ⟨g, b, none⟩) hg).trans (HC.out b hltb)
          have hG := HR.out.2
          have la := hG.long a hlta
          have lb := hG.long b hltb
          have lm := hG.m2
          have hap := fun W => both_any (L.getD a []) (L.getD b []) (by omega) (by omega) (hG.bits a hlta) (hG.bits b hltb) W
          obtain ⟨sa, hsa⟩ : ∃ s : ByteArray, s = ⟨(L.getD a []).toArray⟩ := ⟨_, rfl⟩
          obtain ⟨sb, hsb⟩ : ∃ s : ByteArray, s = ⟨(L.getD b []).toArray⟩ := ⟨_, rfl⟩
          obtain ⟨sc, hsc⟩ : ∃ s : ByteArray, s = ⟨(andL (L.getD a []) (L.getD b [])).toArray⟩ := ⟨_, rfl⟩
          have hwc := word_dec _ sc hsc
          change _ = some (Value.string ⟨(L.getD a []).toArray⟩) at hca
          change _ = some (Value.string ⟨(L.getD b []).toArray⟩) at hcb
          rw [← hsa] at hca
          rw [← hsb] at hcb
          rw [← hsa, ← hsb, ← hsc] at hap
          have a0' : (0 : Int) ≤ (a : Int) := by omega
          have a1' : (a : Int) < (n : Int) := by omega
          have b0' : (0 : Int) ≤ (b : Int) := by omega
          have b1' : (b : Int) < (n : Int) := by omega
          have hbw := hB3.size
          have HWC := Lib.hid hwc.2
          clear hsa hsb hsc la lb lm hG hwc
          go_wp2_with fail
          go_region_with (go_at_call 48; refine (hap _).mono ?_; rintro e w' ⟨rfl, hB1⟩; have hB5 : Below wr.heap.size wr w' := (Below.refl wr.heap.size wr).drew.trans hB1; clear hB1)
          · rename_i w3
            have HB4 := Lib.hid (hB3.trans (hB5.mono hbw))
            have hown3 := row_later hown hB5
            have HO := Lib.hid hown3
            clear hB5 hown hown3 hB3
            go_wp2_with fail
            go_loopw [6, 38] (fun v i wc => ∃ (k : Nat), k ≤ n ∧ i = .int .i64 (k : Int) ∧ TrisAt w2.heap.size wc v (trisL L n (pairsTo n a ++ rowTo a b) ++ triTo L a b k) ∧ Below w2.heap.size w2 wc) (fun _ i _ => n - (intOf i).toNat)
            case atStart => exact ⟨0, by omega, by go_num, by rw [triTo_zero, List.append_nil]; exact HO.out, HB4.out⟩
            case round =>
              obtain ⟨k, hk, rfl, hown4, hB6⟩ := hrel
              obtain ⟨a6, c6, rfl⟩ := tris_open hown4
              have hsl := trisL_len L n (pairsTo n a ++ rowTo a b)
              have hsl2 := triTo_len L a b k
              have hpl := pairsTo_len n a
              have hrl := rowTo_len a b
              have hpn : a * n ≤ 100 * 100 := Nat.mul_le_mul (by omega) h2
              have hxn : (pairsTo n a ++ rowTo a b).length * n ≤ 10100 * 100 := Nat.mul_le_mul (by rw [List.length_append]; omega) h2
              have hlen : (trisL L n (pairsTo n a ++ rowTo a b) ++ triTo L a b k).length ≤ 1010100 := by rw [List.length_append]; omega
              have hb6 := hB6.size
              clear hsl hsl2 hpl hrl hpn hxn
              by_cases hltk : k < n
              · have hck := (hB6.cell (p := ⟨g, k, none⟩) hg).trans (HC.out k hltk)
                obtain ⟨sk, hsk⟩ : ∃ s : ByteArray, s = ⟨(L.getD k []).toArray⟩ := ⟨_, rfl⟩
                have hwk := word_dec _ sk hsk
                change _ = some (Value.string ⟨(L.getD k []).toArray⟩) at hck
                rw [← hsk] at hck
                have k0' : (0 : Int) ≤ (k : Int) := by omega
                have k1' : (k : Int) < (n : Int) := by omega
                have hsu := triTo_succ L a b k
                have hno : triB L a b k = false → ∃ k', k' ≤ n ∧ Value.int .i64 ((k : Int) + 1) = .int .i64 (k' : Int) ∧ TrisAt w2.heap.size wr (.slice a6 (trisL L n (pairsTo n a ++ rowTo a b) ++ triTo L a b k).length c6) (trisL L n (pairsTo n a ++ rowTo a b) ++ triTo L a b k') ∧ Below w2.heap.size w2 wr := fun h => by
                  rw [h, if_neg (by decide)] at hsu
                  exact ⟨k + 1, by omega, by go_num, by rw [hsu]; exact hown4, hB6⟩
                have htb : triB L a b k = (decide (k ≠ a) && (decide (k ≠ b) && decide (L.getD k [] = andL (L.getD a []) (L.getD b [])))) := rfl
                have HNO := Lib.hid (⟨hno, htb, hsu, hB6⟩ : _ ∧ _ ∧ _ ∧ _)
                have hrow : wr.ownsRow w2.heap.size 55 3 (.slice a6 (trisL L n (pairsTo n a ++ rowTo a b) ++ triTo L a b k).length c6) (trisL L n (pairsTo n a ++ rowTo a b) ++ triTo L a b k).length (triCells (trisL L n (pairsTo n a ++ rowTo a b) ++ triTo L a b k)) := hown4
                clear hno htb hsu hB6 hown4
                by_cases hka : k = a
                · have hn1 : ((k : Int) != (a : Int)) = false := by rw [hka]; simp
                  have H9 := Lib.hid (HNO.out.1 (by rw [HNO.out.2.1, decide_eq_false (by omega)]; rfl))
                  clear hka hrow hwk hsk
                  go_wp2_with fail
                  go_roundw
                  case rel => exact H9.out
                  case measure => simp [intOf]; omega
                have hn1 : ((k : Int) != (a : Int)) = true := by rw [bne_iff_ne]; omega
                by_cases hkb : k = b
                · have hn2 : ((k : Int) != (b : Int)) = false := by rw [hkb]; simp
                  have H9 := Lib.hid (HNO.out.1 (by rw [HNO.out.2.1, decide_eq_false (p := k ≠ b) (by omega), Bool.false_and, Bool.and_false]))
                  clear hka hkb hrow hwk hsk
                  go_wp2_with fail
                  go_roundw
                  case rel => exact H9.out
                  case measure => simp [intOf]; omega
                have hn2 : ((k : Int) != (b : Int)) = true := by rw [bne_iff_ne]; omega
                have he : (sk.toList == sc.toList) = decide (L.getD k [] = andL (L.getD a []) (L.getD b [])) := by
                  rw [ByteArray.toList_eq, ByteArray.toList_eq, hwk.2, HWC.out]
                  exact beq_dec _ _
                by_cases hd : L.getD k [] = andL (L.getD a []) (L.getD b [])
                · rw [decide_eq_true hd] at he
                  have ht : triB L a b k = true := by rw [HNO.out.2.1, decide_eq_true hka, decide_eq_true hkb, decide_eq_true hd]; rfl
                  have hs2 := HNO.out.2.2.1
                  rw [ht, if_pos rfl] at hs2
                  have HS := Lib.hid (⟨hs2, HNO.out.2.2.2⟩ : _ ∧ _)
                  clear hs2 ht hd hka hkb hwk hsk HNO
                  obtain ⟨F, hF⟩ : ∃ F, F = trisL L n (pairsTo n a ++ rowTo a b) ++ triTo L a b k := ⟨_, rfl⟩
                  rw [← hF] at hrow hlen ⊢
                  have HF := Lib.hid hF
                  clear hF
                  go_wp2_with (at_builtin; refine wpList_append_own _ rfl _ _ 39 rfl w2.heap.size 55 i0 (.agg #[.int .i64 0, .int .i64 0, .int .i64 0]) 3 24 Tryd.underlying39 hi hz0 hz1 hz2 rfl (by decide) _ _ _ rfl (hrow.alloc _) ⟨wr.heap.size, 0, none⟩ 1 1 [.int .i64 (a : Int), .int .i64 (b : Int), .int .i64 (k : Int)] rfl rfl ?c1 ?c2 ?c3 ?c4 ?c5 ?_)
                  case c1 =>
                    intro j u hj
                    match j, hj with
                    | 0, hj => cases hj; simp [Addr.add]
                    | 1, hj => cases hj; simp [Addr.add]
                    | 2, hj => cases hj; simp [Addr.add]
                  case c2 =>
                    intro u hu
                    simp at hu
                    rcases hu with rfl | rfl | rfl <;> rfl
                  case c3 => unfold maxLen; omega
                  case c4 => omega
                  case c5 => simp; omega
                  intro v' w4 hown' hg4 _
                  have hB7 : Below w2.heap.size w2 w4 := (HS.out.2.alloc hb6 _).grown hg4 (by simp; omega) (fun j hj => (hrow.lt j hj).1)
                  have hN := tris_snoc a b k hown'
                  rw [HF.out, List.append_assoc, ← HS.out.1] at hN
                  have HN2 := Lib.hid (⟨hN, hB7⟩ : _ ∧ _)
                  obtain ⟨a7, c7, rfl⟩ := tris_open hN
                  clear hN hB7 hown' hg4 hrow
                  go_wp2_with fail
                  go_roundw
                  case rel => exact ⟨k + 1, by omega, by go_num, HN2.out⟩
                  case measure => simp [intOf]; omega
                · rw [decide_eq_false hd] at he
                  have H9 := Lib.hid (HNO.out.1 (by rw [HNO.out.2.1, decide_eq_false hd, Bool.and_false, Bool.and_false]))
                  clear hka hkb hd hrow hwk hsk
                  go_wp2_with fail
                  go_roundw
                  case rel => exact H9.out
                  case measure => simp [intOf]; omega
              · obtain rfl : k = n := by omega
                have H9 := Lib.hid (⟨hown4, hB6⟩ : _ ∧ _)
                clear hown4 hB6
                go_wp2_with fail
                go_roundw
                case rel => exact ⟨b + 1, by omega, by omega, by go_num, by rw [rowTo_succ a b (by omega), ← List.append_assoc, trisL_snoc]; exact H9.out.1, H9.out.2⟩
                case measure => simp [intOf]; omega
          · rename_i w3
            have HB4 := Lib.hid (hB3.trans (hB5.mono hbw))
            have hown3 := row_later hown hB5
            have HO := Lib.hid hown3
            clear hB5 hown hown3 hB3
            go_wp2_with fail
            go_loopw [6, 38] (fun v i wc => ∃ (k : Nat), k ≤ n ∧ i = .int .i64 (k : Int) ∧ TrisAt w2.heap.size wc v (trisL L n (pairsTo n a ++ rowTo a b) ++ triTo L a b k) ∧ Below w2.heap.size w2 wc) (fun _ i _ => n - (intOf i).toNat)
            case atStart => exact ⟨0, by omega, by go_num, by rw [triTo_zero, List.append_nil]; exact HO.out, HB4.out⟩
            case round =>
              obtain ⟨k, hk, rfl, hown4, hB6⟩ := hrel
              obtain ⟨a6, c6, rfl⟩ := tris_open hown4
              have hsl := trisL_len L n (pairsTo n a ++ rowTo a b)
              have hsl2 := triTo_len L a b k
              have hpl := pairsTo_len n a
              have hrl := rowTo_len a b
              have hpn : a * n ≤ 100 * 100 := Nat.mul_le_mul (by omega) h2
              have hxn : (pairsTo n a ++ rowTo a b).length * n ≤ 10100 * 100 := Nat.mul_le_mul (by rw [List.length_append]; omega) h2
              have hlen : (trisL L n (pairsTo n a ++ rowTo a b) ++ triTo L a b k).length ≤ 1010100 := by rw [List.length_append]; omega
              have hb6 := hB6.size
              clear hsl hsl2 hpl hrl hpn hxn
              by_cases hltk : k < n
              · have hck := (hB6.cell (p := ⟨g, k, none⟩) hg).trans (HC.out k hltk)
                obtain ⟨sk, hsk⟩ : ∃ s : ByteArray, s = ⟨(L.getD k []).toArray⟩ := ⟨_, rfl⟩
                have hwk := word_dec _ sk hsk
                change _ = some (Value.string ⟨(L.getD k []).toArray⟩) at hck
                rw [← hsk] at hck
                have k0' : (0 : Int) ≤ (k : Int) := by omega
                have k1' : (k : Int) < (n : Int) := by omega
                have hsu := triTo_succ L a b k
                have hno : triB L a b k = false → ∃ k', k' ≤ n ∧ Value.int .i64 ((k : Int) + 1) = .int .i64 (k' : Int) ∧ TrisAt w2.heap.size wr (.slice a6 (trisL L n (pairsTo n a ++ rowTo a b) ++ triTo L a b k).length c6) (trisL L n (pairsTo n a ++ rowTo a b) ++ triTo L a b k') ∧ Below w2.heap.size w2 wr := fun h => by
                  rw [h, if_neg (by decide)] at hsu
                  exact ⟨k + 1, by omega, by go_num, by rw [hsu]; exact hown4, hB6⟩
                have htb : triB L a b k = (decide (k ≠ a) && (decide (k ≠ b) && decide (L.getD k [] = andL (L.getD a []) (L.getD b [])))) := rfl
                have HNO := Lib.hid (⟨hno, htb, hsu, hB6⟩ : _ ∧ _ ∧ _ ∧ _)
                have hrow : wr.ownsRow w2.heap.size 55 3 (.slice a6 (trisL L n (pairsTo n a ++ rowTo a b) ++ triTo L a b k).length c6) (trisL L n (pairsTo n a ++ rowTo a b) ++ triTo L a b k).length (triCells (trisL L n (pairsTo n a ++ rowTo a b) ++ triTo L a b k)) := hown4
                clear hno htb hsu hB6 hown4
                by_cases hka : k = a
                · have hn1 : ((k : Int) != (a : Int)) = false := by rw [hka]; simp
                  have H9 := Lib.hid (HNO.out.1 (by rw [HNO.out.2.1, decide_eq_false (by omega)]; rfl))
                  clear hka hrow hwk hsk
                  go_wp2_with fail
                  go_roundw
                  case rel => exact H9.out
                  case measure => simp [intOf]; omega
                have hn1 : ((k : Int) != (a : Int)) = true := by rw [bne_iff_ne]; omega
                by_cases hkb : k = b
                · have hn2 : ((k : Int) != (b : Int)) = false := by rw [hkb]; simp
                  have H9 := Lib.hid (HNO.out.1 (by rw [HNO.out.2.1, decide_eq_false (p := k ≠ b) (by omega), Bool.false_and, Bool.and_false]))
                  clear hka hkb hrow hwk hsk
                  go_wp2_with fail
                  go_roundw
                  case rel => exact H9.out
                  case measure => simp [intOf]; omega
                have hn2 : ((k : Int) != (b : Int)) = true := by rw [bne_iff_ne]; omega
                have he : (sk.toList == sc.toList) = decide (L.getD k [] = andL (L.getD a []) (L.getD b [])) := by
                  rw [ByteArray.toList_eq, ByteArray.toList_eq, hwk.2, HWC.out]
                  exact beq_dec _ _
                by_cases hd : L.getD k [] = andL (L.getD a []) (L.getD b [])
                · rw [decide_eq_true hd] at he
                  have ht : triB L a b k = true := by rw [HNO.out.2.1, decide_eq_true hka, decide_eq_true hkb, decide_eq_true hd]; rfl
                  have hs2 := HNO.out.2.2.1
                  rw [ht, if_pos rfl] at hs2
                  have HS := Lib.hid (⟨hs2, HNO.out.2.2.2⟩ : _ ∧ _)
                  clear hs2 ht hd hka hkb hwk hsk HNO
                  obtain ⟨F, hF⟩ : ∃ F, F = trisL L n (pairsTo n a ++ rowTo a b) ++ triTo L a b k := ⟨_, rfl⟩
                  rw [← hF] at hrow hlen ⊢
                  have HF := Lib.hid hF
                  clear hF
                  go_wp2_with (at_builtin; refine wpList_append_own _ rfl _ _ 39 rfl w2.heap.size 55 i0 (.agg #[.int .i64 0, .int .i64 0, .int .i64 0]) 3 24 Tryd.underlying39 hi hz0 hz1 hz2 rfl (by decide) _ _ _ rfl (hrow.alloc _) ⟨wr.heap.size, 0, none⟩ 1 1 [.int .i64 (a : Int), .int .i64 (b : Int), .int .i64 (k : Int)] rfl rfl ?c1 ?c2 ?c3 ?c4 ?c5 ?_)
                  case c1 =>
                    intro j u hj
                    match j, hj with
                    | 0, hj => cases hj; simp [Addr.add]
                    | 1, hj => cases hj; simp [Addr.add]
                    | 2, hj => cases hj; simp [Addr.add]
                  case c2 =>
                    intro u hu
                    simp at hu
                    rcases hu with rfl | rfl | rfl <;> rfl
                  case c3 => unfold maxLen; omega
                  case c4 => omega
                  case c5 => simp; omega
                  intro v' w4 hown' hg4 _
                  have hB7 : Below w2.heap.size w2 w4 := (HS.out.2.alloc hb6 _).grown hg4 (by simp; omega) (fun j hj => (hrow.lt j hj).1)
                  have hN := tris_snoc a b k hown'
                  rw [HF.out, List.append_assoc, ← HS.out.1] at hN
                  have HN2 := Lib.hid (⟨hN, hB7⟩ : _ ∧ _)
                  obtain ⟨a7, c7, rfl⟩ := tris_open hN
                  clear hN hB7 hown' hg4 hrow
                  go_wp2_with fail
                  go_roundw
                  case rel => exact ⟨k + 1, by omega, by go_num, HN2.out⟩
                  case measure => simp [intOf]; omega
                · rw [decide_eq_false hd] at he
                  have H9 := Lib.hid (HNO.out.1 (by rw [HNO.out.2.1, decide_eq_false hd, Bool.and_false, Bool.and_false]))
                  clear hka hkb hd hrow hwk hsk
                  go_wp2_with fail
                  go_roundw
                  case rel => exact H9.out
                  case measure => simp [intOf]; omega
              · obtain rfl : k = n := by omega
                have H9 := Lib.hid (⟨hown4, hB6⟩ : _ ∧ _)
                clear hown4 hB6
                go_wp2_with fail
                go_roundw
                case rel => exact ⟨b + 1, by omega, by omega, by go_num, by rw [rowTo_succ a b (by omega), ← List.append_assoc, trisL_snoc]; exact H9.out.1, H9.out.2⟩
                case measure => simp [intOf]; omega
        · obtain rfl : b = n := by omega
          have H9 := Lib.hid (⟨hown, hB3⟩ : _ ∧ _)
          clear hB3 hown
          go_wp2_with fail
          go_roundw
          case rel => exact ⟨a + 1, by omega, by go_num, by rw [pairsTo_succ]; exact H9.out.1, H9.out.2⟩
          case measure => simp [intOf]; omega
    · obtain rfl : a = n := by omega
      have hB4 : Below w.heap.size w wr := HB.out.trans (hB2.mono HB.out.size)
      rw [← HR.out.1] at hown ⊢
      have hown2 : TrisAt w.heap.size wr (.slice a3 T.length c3) T := row_base hown HB.out.size
      have H9 := Lib.hid (⟨hown2, hB4⟩ : _ ∧ _)
      have hl : decide ((T.length : Int) ≤ 10000) = decide (T.length ≤ 10000) := by rw [decide_eq_decide]; omega
      have HL := Lib.hid hl
      clear hB2 hB4 hown hown2 hl
      go_wp2_with fail
      go_ret2
      refine ⟨.slice a3 T.length c3, ?_, H9.out⟩
      rw [← HL.out]
      rfl
end Go.Proofs.YtlkdpgjbbbaiiaaDoor
