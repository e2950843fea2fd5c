/- The program's Identify. -/
import Derived.Test.YthcakdminnmjoaaGreatDoorIdcode
import Derived.Test.YthcakdminnmjoaaGreatDoorWalkOf
namespace Go.Proofs.YthcakdminnmjoaaGreatDoor
open Go.RowKit

/-- What is identified: the error, the place, the idcodes. -/
def idF : Nat → List UInt8 → List Int → Nat → Int × Nat × List Int
  | 0, _, _, _ => (8, 0, [])
  | f + 1, rest, ids, n =>
    if rest = [] then (8, 0, [])
    else if rest.headD 0 = 48 then idF f (rest.drop 1) (ids ++ [0]) (n + 1)
    else if rest.length < 32 then (9, 0, [])
    else if decide (0 ≤ Lib.indexByte (rest.take 32) 48) = false then (if 20 < ids.length then (2, 0, []) else (0, n, ids))
    else idF f (rest.drop 32) (ids ++ [(codeN (rest.take 32) : Int)]) (n + 32)

/-- Of bits, the whole. -/
def idOf (s : ByteArray) : Int × Nat × List Int := if clockErr s = 0 then idF (s.size + 1) s.data.toList [] 0 else (clockErr s, 0, [])

theorem identified_any (a : Option Addr) (len cap : Nat) (n : Nat) (w : World) :
    Calls Tryz.prog 41 #[.slice a len cap, .int .i64 (n : Int)] w fun e w' => e = .returned (if 20 < len then .tuple #[.slice none 0 0, .int .i64 0, .int .i64 2] else .tuple #[.slice a len cap, .int .i64 (n : Int), .int .i64 0]) ∧ w = w' := by
  by_cases h : 20 < len
  · rw [if_pos h]
    go_enter Tryz.func41, Tryz.ntmps41
    go_wp2
    go_ret3
    exact ⟨rfl, rfl⟩
  · rw [if_neg h]
    go_enter Tryz.func41, Tryz.ntmps41
    go_wp2
    go_ret3
    exact ⟨rfl, rfl⟩

theorem identify_err (s : ByteArray) (w : World) (hs : s.size ≤ 1000000) (he : clockErr s ≠ 0) :
    Calls Tryz.prog 14 #[.string s] w fun e w' => e = .returned (.tuple #[.slice none 0 0, .int .i64 0, .int .i64 (clockErr s)]) ∧ Below w.heap.size w w' := by
  have hcon := checkClocks_any s w (by omega)
  have hne : (clockErr s == 0) = false := by simpa using he
  generalize clockErr s = c at hcon he hne ⊢
  go_enter Tryz.func14, Tryz.ntmps14
  go_wp2_with fail
  refine hcon.mono ?_
  rintro e w' ⟨rfl, hB⟩
  go_wp2_with fail
  go_ret3
  exact ⟨rfl, hB⟩

theorem row_shape {w : World} {base : Nat} {e : TypeId} {size n : Nat} {v : Value} {xs : List Value} (h : w.ownsRow base e size v n xs) : ∃ a cap, v = .slice a n cap := by
  obtain ⟨_, ⟨rfl, rfl⟩ | ⟨g, cap, cur, rfl, _⟩⟩ := h
  · exact ⟨none, 0, rfl⟩
  · exact ⟨_, cap, rfl⟩
theorem extract_bytes (s : ByteArray) (a b : Nat) : (s.extract a b).data.toList = (s.data.toList.drop a).take (b - a) := by
  have := Go.Lib.extract_data s a b
  exact this
theorem drop_head (s : ByteArray) (k : Nat) (h : k < s.size) : s.data.toList.drop k = s[k] :: s.data.toList.drop (k + 1) := by
  rw [List.drop_eq_getElem_cons (by simpa using h)]
  rfl

set_option maxRecDepth 100000 in
set_option maxHeartbeats 2000000 in
theorem identify_ok (s : ByteArray) (w : World) (hs : s.size ≤ 1000000) (he : clockErr s = 0) :
    Calls Tryz.prog 14 #[.string s] w fun e w' => ∃ v, e = .returned (.tuple #[v, .int .i64 ((idOf s).2.1 : Int), .int .i64 (idOf s).1]) ∧ w'.ownsRow w.heap.size 3 1 v (idOf s).2.2.length ((idOf s).2.2.map (Value.int .i64)) ∧ Below w.heap.size w w' := by
  have hcon := checkClocks_any s w (by omega)
  have hbits := clockErr_bits he
  obtain ⟨i0, hi, hz0, hz1, hz2⟩ := info_parts Tryz.infoInt
  have hR : idOf s = idF (s.size + 1) s.data.toList [] 0 := by unfold idOf; rw [if_pos he]
  rw [he] at hcon
  generalize idOf s = R at hR ⊢
  clear he
  go_enter Tryz.func14, Tryz.ntmps14
  go_wp2_with fail
  refine hcon.mono ?_
  rintro e w1 ⟨rfl, hB⟩
  clear hcon
  go_wp2_with fail
  go_loopw [6, 7] (fun v i wr => ∃ (k f : Nat) (ids : List Int), k ≤ s.size ∧ s.size < k + f ∧ i = .int .i64 (k : Int) ∧ wr.ownsRow w.heap.size 3 1 v ids.length (ids.map (Value.int .i64)) ∧ ids.length ≤ k ∧ R = idF f (s.data.toList.drop k) ids k ∧ Below w.heap.size w wr) (fun _ i _ => s.size - (intOf i).toNat)
  case atStart => exact ⟨0, s.size + 1, [], Nat.zero_le _, by omega, rfl, World.ownsRow_nil _ _ _ _, Nat.le_refl _, hR, hB⟩
  case round =>
    clear hR hB
    obtain ⟨k, f, ids, hk, hf, rfl, hown, hil, hR, hB⟩ := hrel
    obtain ⟨f, rfl⟩ : ∃ g, f = g + 1 := ⟨f - 1, by omega⟩
    by_cases hlt : k < s.size
    · have hhead := drop_head s k hlt
      have hbit : s[k] = 48 ∨ s[k] = 49 := by simpa [bitB] using bit_at s k hlt hbits
      have hwb : w.heap.size ≤ wr.heap.size := hB.size
      have hunf : idF (f + 1) (s.data.toList.drop k) ids k = if s[k] = 48 then idF f (s.data.toList.drop (k + 1)) (ids ++ [0]) (k + 1) else if (s.data.toList.drop k).length < 32 then (9, 0, []) else if decide (0 ≤ Lib.indexByte ((s.data.toList.drop k).take 32) 48) = false then (if 20 < ids.length then (2, 0, []) else (0, k, ids)) else idF f (s.data.toList.drop (k + 32)) (ids ++ [(codeN ((s.data.toList.drop k).take 32) : Int)]) (k + 32) := by
        conv => lhs; unfold idF
        rw [if_neg (by rw [hhead]; simp), List.drop_drop, List.drop_drop]
        rw [hhead]
        rfl
      rw [hunf] at hR
      clear hunf hhead
      rcases hbit with hb | hb
      · have hc : ((s[k].toNat : Int) == 48) = true := by rw [hb]; rfl
        rw [if_pos hb] at hR
        have HR := Lib.hid hR
        clear hR hb
        go_wp2_with (at_builtin; refine wpList_append_own _ rfl _ _ 22 rfl w.heap.size 3 i0 (.int .i64 0) 1 8 Tryz.underlying22 hi hz0 hz1 hz2 rfl (by decide) _ _ _ rfl (hown.alloc _) ⟨wr.heap.size, 0, none⟩ 1 1 [.int .i64 (0 : Int)] rfl rfl ?c1 ?c2 ?c3 ?c4 ?c5 ?_)
        case c1 => exact cell_one_new _ _ _
        case c2 => exact ints_oneCell .i64 [(0 : Int)]
        case c3 => unfold maxLen; omega
        case c4 => omega
        case c5 => simp; omega
        intro v' w4 hown' hg4 _
        have hB4 : Below w.heap.size w w4 := (hB.alloc hwb _).grown hg4 (by simp; omega) (fun k hk => (hown.lt k hk).1)
        clear hown
        go_wp2_with fail
        go_roundw
        case rel => exact ⟨k + 1, f, ids ++ [0], by omega, by omega, by go_num, by simpa using hown', by simp; omega, HR.out, hB4⟩
        case measure => simp [intOf]; omega
      · have hc : ((s[k].toNat : Int) == 48) = false := by rw [hb]; rfl
        rw [if_neg (by rw [hb]; decide), List.length_drop] at hR
        by_cases h32 : s.size - k < 32
        · have HR := Lib.hid (hR.trans (if_pos (by simpa using h32)))
          clear hR hb
          go_wp2_with fail
          go_ret3
          rw [HR.out]
          exact ⟨_, rfl, World.ownsRow_nil _ _ _ _, hB⟩
        · have hx : (s.extract k (k + 32)).data.toList = (s.data.toList.drop k).take 32 := by
            rw [extract_bytes, Nat.add_sub_cancel_left]
          have hxs : (s.extract k (k + 32)).size = 32 := by
            rw [ByteArray.size_extract]
            omega
          rw [if_neg (by simpa using h32), ← hx] at hR
          have hcon := fun W => Tryz.strings_Contains_one (s.extract k (k + 32)) 48 W
          have hid := fun W => idcodeOf_any (s.extract k (k + 32)) W (by omega) (by
            rw [hx]
            rw [List.all_eq_true] at hbits ⊢
            exact fun c hc => hbits c (List.mem_of_mem_drop (List.mem_of_mem_take hc)))
          clear hx hb hbits
          generalize decide (0 ≤ Lib.indexByte (s.extract k (k + 32)).data.toList 48) = ze at hcon hR
          generalize codeN (s.extract k (k + 32)).data.toList = cv at hid hR
          cases ze with
          | false =>
            obtain ⟨a, cap, rfl⟩ := row_shape hown
            have hidd := fun W => identified_any a ids.length cap k W
            by_cases h20 : 20 < ids.length
            · have HR := Lib.hid (hR.trans ((if_pos rfl).trans (if_pos h20)))
              clear hR hown
              rw [if_pos h20] at hidd
              go_wp2_with fail
              refine (hcon _).mono ?_
              rintro e w3 ⟨rfl, rfl⟩
              go_wp2_with fail
              refine (hidd _).mono ?_
              rintro e w4 ⟨rfl, rfl⟩
              go_wp2_with fail
              go_ret3
              rw [HR.out]
              exact ⟨_, rfl, World.ownsRow_nil _ _ _ _, hB⟩
            · have HR := Lib.hid (hR.trans ((if_pos rfl).trans (if_neg h20)))
              clear hR
              rw [if_neg h20] at hidd
              go_wp2_with fail
              refine (hcon _).mono ?_
              rintro e w3 ⟨rfl, rfl⟩
              go_wp2_with fail
              refine (hidd _).mono ?_
              rintro e w4 ⟨rfl, rfl⟩
              go_wp2_with fail
              go_ret3
              rw [HR.out]
              exact ⟨_, rfl, hown, hB⟩
          | true =>
            have HR := Lib.hid (hR.trans (if_neg (by decide)))
            clear hR
            go_wp2_with fail
            refine (hcon _).mono ?_
            rintro e w3 ⟨rfl, rfl⟩
            go_wp2_with fail
            refine (hid _).mono ?_
            rintro e w4 ⟨rfl, rfl⟩
            go_wp2_with (at_builtin; refine wpList_append_own _ rfl _ _ 22 rfl w.heap.size 3 i0 (.int .i64 0) 1 8 Tryz.underlying22 hi hz0 hz1 hz2 rfl (by decide) _ _ _ rfl (hown.alloc _) ⟨w3.heap.size, 0, none⟩ 1 1 [.int .i64 (cv : Int)] rfl rfl ?d1 ?d2 ?d3 ?d4 ?d5 ?_)
            case d1 => exact cell_one_new _ _ _
            case d2 => exact ints_oneCell .i64 [(cv : Int)]
            case d3 => unfold maxLen; omega
            case d4 => omega
            case d5 => simp; omega
            intro v' w4 hown' hg4 _
            have hB4 : Below w.heap.size w w4 := (hB.alloc hwb _).grown hg4 (by simp; omega) (fun k hk => (hown.lt k hk).1)
            clear hown
            go_wp2_with fail
            go_roundw
            case rel => exact ⟨k + 32, f, ids ++ [(cv : Int)], by omega, by omega, by go_num, by simpa using hown', by simp; omega, HR.out, hB4⟩
            case measure => simp [intOf]; omega
    · obtain rfl : k = s.size := by omega
      have hfin : R = (8, 0, []) := by
        rw [hR]
        unfold idF
        rw [if_pos (by simp)]
      subst hfin
      clear hR
      go_wp2_with fail
      go_ret3
      exact ⟨_, rfl, World.ownsRow_nil _ _ _ _, hB⟩
end Go.Proofs.YthcakdminnmjoaaGreatDoor
