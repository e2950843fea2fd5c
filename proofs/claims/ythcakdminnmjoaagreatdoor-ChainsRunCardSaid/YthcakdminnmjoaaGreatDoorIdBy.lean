/- The reference's IdentifiedBy. -/
import Derived.Test.YthcakdminnmjoaaGreatDoorIdentify
import Derived.Test.YthcakdminnmjoaaGreatDoorKeys
import Derived.Test.YthcakdminnmjoaaGreatDoorShelfTwo
import Derived.Deep.RegionWith
import Derived.Deep.RegionLaw
import Derived.Deep.AppendLies
namespace Go.Proofs.YthcakdminnmjoaaGreatDoor
open Go.RowKit

theorem identifiedBy_err (s : ByteArray) (w : World) (hs : s.size ≤ 1000000) (he : clockErr s ≠ 0) :
    Calls Tryz.prog 15 #[.string s] w fun e w' => e = .returned (.tuple #[.slice none 0 0, .int .i64 0, .int .i64 (clockErr s)]) ∧ Below w.heap.size w w' := by
  have hcon := tmsFault_any s w (by omega)
  have hne : (clockErr s == 0) = false := by simpa using he
  generalize clockErr s = c at hcon he hne ⊢
  go_enter Tryz.func15, Tryz.ntmps15
  go_wp2_with fail
  refine hcon.mono ?_
  rintro e w' ⟨rfl, hB⟩
  go_wp2_with fail
  go_ret3
  exact ⟨rfl, hB⟩

theorem row_below {w w' : World} {base e n : Nat} {v : Value} {xs : List Value} (h : w.ownsRow base e 1 v n xs) (hb : Below w.heap.size w w') : w'.ownsRow base e 1 v n xs := by
  obtain ⟨hl, h2⟩ := h
  refine ⟨hl, ?_⟩
  rcases h2 with h2 | ⟨g, cap, cur, hv, hg, hh, r⟩
  · exact .inl h2
  · exact .inr ⟨g, cap, cur, hv, hg, by rw [hb.block g (Array.getElem?_eq_some_iff.1 hh).1]; exact hh, r⟩
theorem add_step (v k : Nat) (c : UInt8) (hv : v < 2 ^ k) (hk : k < 32) (hc : c = 48 ∨ c = 49) : wrap64 ((v : Int) + wrap64 (((c.toNat : Int) - 48) % 256 * 2 ^ k)) = ((v + bitN c * 2 ^ k : Nat) : Int) := by
  have hp : 2 ^ k ≤ 2 ^ 31 := Nat.pow_le_pow_right (by decide) (by omega)
  have hcast : ((2 : Int) ^ k) = ((2 ^ k : Nat) : Int) := by simp
  rw [hcast]
  generalize 2 ^ k = q at hp hv
  rcases hc with rfl | rfl
  · show wrap64 ((v : Int) + wrap64 (0 % 256 * (q : Int))) = ((v + 0 * q : Nat) : Int)
    rw [Nat.zero_mul]
    unfold wrap64
    omega
  · show wrap64 ((v : Int) + wrap64 (1 % 256 * (q : Int))) = ((v + 1 * q : Nat) : Int)
    rw [Nat.one_mul]
    unfold wrap64
    omega
abbrev ones32 : ByteArray := ⟨(Lib.repeatL [49] 32).toArray⟩
theorem prefix_ones : ∀ (n : Nat) (l : List UInt8), l.all bitB = true → (Lib.repeatL [49] n).isPrefixOf l = (decide (n ≤ l.length) && !decide (0 ≤ Lib.indexByte (l.take n) 48))
  | 0, l, _ => by
    rw [List.take_zero]
    rfl
  | n + 1, [], _ => rfl
  | n + 1, c :: l, h => by
    rw [List.all_cons, Bool.and_eq_true] at h
    have ih := prefix_ones n l h.2
    show ((49 : UInt8) == c && (Lib.repeatL [49] n).isPrefixOf l) = (decide (n + 1 ≤ l.length + 1) && !decide (0 ≤ (if c == 48 then 0 else if Lib.indexByte (l.take n) 48 == -1 then -1 else Lib.indexByte (l.take n) 48 + 1)))
    have hc : c = 48 ∨ c = 49 := by simpa [bitB] using h.1
    have hn : decide (n + 1 ≤ l.length + 1) = decide (n ≤ l.length) := by simp
    rw [hn, ih]
    have hge := Lib.indexByte_ge (l.take n) 48
    generalize Lib.indexByte (l.take n) 48 = x at hge ⊢
    rcases hc with rfl | rfl
    · simp
    · by_cases hx : x = -1
      · subst hx
        simp
      · have h0 : 0 ≤ x := by omega
        have h1 : 0 ≤ x + 1 := by omega
        simp [hx, h0, h1]
theorem first_zero {l : List UInt8} (h0 : l ≠ []) (h : l.headD 0 = 48) : decide (0 ≤ Lib.indexByte (l.take 32) 48) = true := by
  cases l with
  | nil => exact absurd rfl h0
  | cons c t =>
    have : c = 48 := h
    subst this
    rfl
theorem prefix_is (l : List UInt8) (hb : l.all bitB = true) : Lib.hasPrefix l ones32.data.toList = (decide (32 ≤ l.length) && !decide (0 ≤ Lib.indexByte (l.take 32) 48)) := prefix_ones 32 l hb

set_option maxRecDepth 100000 in
set_option maxHeartbeats 2000000 in
theorem identifiedBy_ok (s : ByteArray) (w : World) (hs : s.size ≤ 1000000) (he : clockErr s = 0) :
    Calls Tryz.prog 15 #[.string s] w fun e w' => ∃ v, e = .returned (.tuple #[v, .int .i64 ((idOf s).2.1 : Int), .int .i64 (idOf s).1]) ∧ w'.ownsRow w.heap.size 3 1 v (idOf s).2.2.length ((idOf s).2.2.map (Value.int .i64)) ∧ Below w.heap.size w w' := by
  have hcon := tmsFault_any s w (by omega)
  have hbits := clockErr_bits he
  obtain ⟨i0, hi, hz0, hz1, hz2⟩ := info_parts Tryz.infoInt
  have hR : idOf s = idF (s.size + 1) s.data.toList [] 0 := by unfold idOf; rw [if_pos he]
  rw [he] at hcon
  generalize idOf s = R at hR ⊢
  clear he
  go_enter Tryz.func15, Tryz.ntmps15
  go_wp2_with fail
  refine hcon.mono ?_
  rintro e w1 ⟨rfl, hB⟩
  clear hcon
  go_wp2_with fail
  go_loopw [6, 7] (fun v x wr => ∃ (k f : Nat) (ids : List Int) (r : ByteArray), k ≤ s.size ∧ s.size < k + f ∧ x = .string r ∧ r.data.toList = s.data.toList.drop k ∧ wr.ownsRow w.heap.size 3 1 v ids.length (ids.map (Value.int .i64)) ∧ ids.length ≤ k ∧ R = idF f (s.data.toList.drop k) ids k ∧ Below w.heap.size w wr) (fun _ x _ => strLen x)
  case atStart => exact ⟨0, s.size + 1, [], s, Nat.zero_le _, by omega, rfl, rfl, World.ownsRow_nil _ _ _ _, Nat.le_refl _, hR, hB⟩
  case round =>
    clear hR hB
    obtain ⟨k, f, ids, r, hk, hf, rfl, hr, hown, hil, hR, hB⟩ := hrel
    obtain ⟨f, rfl⟩ : ∃ g, f = g + 1 := ⟨f - 1, by omega⟩
    have hrs : r.size = s.size - k := by
      have := congrArg List.length hr
      simpa using this
    have hrb : r.data.toList.all bitB = true := by
      rw [hr, List.all_eq_true]
      rw [List.all_eq_true] at hbits
      exact fun c hc => hbits c (List.mem_of_mem_drop hc)
    rw [← hr] at hR
    have hrs1 : k + r.size ≤ s.size := by omega
    have hrs2 : s.size ≤ k + r.size := by omega
    have HRD := Lib.hid hr
    clear hr hbits hrs
    have hones := fun W => Tryz.strings_Repeat ⟨#[49]⟩ 32 W (by decide) (by decide)
    have hpre := fun W => Tryz.strings_HasPrefix r ones32 W
    rw [prefix_is _ hrb] at hpre
    by_cases h0 : r.size = 0
    · obtain rfl : r = ⟨#[]⟩ := nil_of h0
      have hfin : R = (8, 0, []) := by
        rw [hR]
        unfold idF
        rw [if_pos rfl]
      subst hfin
      clear hR
      go_wp2_with fail
      refine (hones _).mono ?_
      rintro e w2 ⟨rfl, hB2⟩
      go_wp2_with fail
      refine (hpre _).mono ?_
      rintro e w3 ⟨rfl, rfl⟩
      go_wp2_with fail
      go_ret3
      exact ⟨_, rfl, World.ownsRow_nil _ _ _ _, hB.trans (hB2.mono hB.size)⟩
    · have hne : ¬ r.toList = [] := ne_nil_of h0
      have hem : r.toList.isEmpty = false := by
        cases h : r.toList with
        | nil => exact absurd h hne
        | cons => rfl
      have hfirst := key_first (show 0 < r.size by omega)
      have hbit : r[0] = 48 ∨ r[0] = 49 := by simpa [bitB] using bit_at r 0 (by omega) hrb
      have hwb : w.heap.size ≤ wr.heap.size := hB.size
      have hunf : idF (f + 1) r.data.toList ids k = if r[0] = 48 then idF f (r.data.toList.drop 1) (ids ++ [0]) (k + 1) else if r.data.toList.length < 32 then (9, 0, []) else if decide (0 ≤ Lib.indexByte (r.data.toList.take 32) 48) = false then (if 20 < ids.length then (2, 0, []) else (0, k, ids)) else idF f (r.data.toList.drop 32) (ids ++ [(codeN (r.data.toList.take 32) : Int)]) (k + 32) := by
        conv => lhs; unfold idF
        rw [if_neg (by rw [← ByteArray.toList_eq]; exact hne), hfirst]
      rw [hunf] at hR
      clear hunf hfirst
      rcases hbit with hb | hb
      · have hc : ((r[0].toNat : Int) == 48) = true := by rw [hb]; rfl
        have hno : (decide (32 ≤ r.data.toList.length) && !decide (0 ≤ Lib.indexByte (r.data.toList.take 32) 48)) = false := by
          rw [first_zero (by rw [← ByteArray.toList_eq]; exact hne) (by rw [key_first (show 0 < r.size by omega)]; exact hb)]
          simp
        rw [if_pos hb] at hR
        rw [hno] at hpre
        have HR := Lib.hid hR
        clear hR hb hno
        go_wp2_with fail
        refine (hones _).mono ?_
        rintro e w2 ⟨rfl, hB2⟩
        go_wp2_with fail
        refine (hpre _).mono ?_
        rintro e w3 ⟨rfl, rfl⟩
        have hown2 := row_below hown hB2
        have hB3 := hB.trans (hB2.mono hB.size)
        go_wp2_with fail
        have hw3 : w.heap.size ≤ w3.heap.size := hB3.size
        have h1n : 1 ≤ r.size := by omega
        have h1p : 0 < r.size := by omega
        have h1i : (1 : Int) ≤ (r.size : Int) := by omega
        go_region_law (refine step_append_lies (P := Tryz.prog) _ rfl (.tmp 27) (.tmp 28) 22 rfl w.heap.size 3 i0 (.int .i64 0) 1 8 Tryz.underlying22 hi hz0 hz1 hz2 rfl (by decide) _ _ _ (by simp [Act.eval]) (World.ownsRow.alloc (w := w3) hown2 _) ⟨w3.heap.size, 0, none⟩ 1 1 [.int .i64 (0 : Int)] (by simp [Act.eval]) rfl (by exact cell_one_new _ _ _) (by exact ints_oneCell .i64 [(0 : Int)]) (by decide) (by unfold maxLen; omega) (by omega) (by simp; omega) _ rfl ?_; intro g4 cap4 w4 hown4 hg4 hat4 hlt4)
        have hB4 : Below w.heap.size w w4 := (hB3.alloc hw3 _).drew.grown hg4 (by simp; omega) (fun k hk => (hown2.lt k hk).1)
        have hex : Hid ((r.extract 1 r.size).data.toList = s.data.toList.drop (k + 1)) := Lib.hid (by
          rw [extract_bytes, HRD.out, List.drop_drop, List.take_of_length_le (by simp; omega)])
        have hR' : Hid (R = idF f (s.data.toList.drop (k + 1)) (ids ++ [0]) (k + 1)) := Lib.hid (by
          rw [HR.out, HRD.out, List.drop_drop])
        have hz : Hid ((r.extract 1 r.size).size < r.size) := Lib.hid (by rw [ByteArray.size_extract]; omega)
        clear hown hown2 hg4 hat4 hB2 hpre hones HR
        go_simp
        go_wp2_with fail
        go_roundw
        case rel => exact ⟨k + 1, f, ids ++ [0], _, by omega, by omega, rfl, hex.out, by simpa using hown4, by simp; omega, hR'.out, hB4⟩
        case measure => exact hz.out
      · have hc : ((r[0].toNat : Int) == 48) = false := by rw [hb]; rfl
        have hlen : r.data.toList.length = r.size := by simp
        rw [if_neg (by rw [hb]; decide)] at hR
        rw [hlen] at hR hpre
        clear hb hlen
        by_cases h32 : r.size < 32
        · have hno : (decide (32 ≤ r.size) && !decide (0 ≤ Lib.indexByte (r.data.toList.take 32) 48)) = false := by
            rw [decide_eq_false (by omega)]; rfl
          rw [hno] at hpre
          have HR := Lib.hid (hR.trans (if_pos h32))
          clear hR hno
          go_wp2_with fail
          refine (hones _).mono ?_
          rintro e w2 ⟨rfl, hB2⟩
          go_wp2_with fail
          refine (hpre _).mono ?_
          rintro e w3 ⟨rfl, rfl⟩
          have hown2 := row_below hown hB2
          have hB3 := hB.trans (hB2.mono hB.size)
          go_wp2_with fail
          go_ret3
          rw [HR.out]
          exact ⟨_, rfl, World.ownsRow_nil _ _ _ _, hB3⟩
        · have h32' : 32 ≤ r.size := by omega
          rw [if_neg h32] at hR
          rw [decide_eq_true h32', Bool.true_and] at hpre
          have hx : (r.extract 0 32).data.toList = r.data.toList.take 32 := by rw [extract_bytes]; rfl
          have hcv := codeN_lt (r.data.toList.take 32)
          generalize decide (0 ≤ Lib.indexByte (r.data.toList.take 32) 48) = ze at hpre hR
          cases ze with
          | false =>
            by_cases h20 : 20 < ids.length
            · have HR := Lib.hid (hR.trans ((if_pos rfl).trans (if_pos h20)))
              obtain ⟨a, cap, rfl⟩ := row_shape hown
              clear hR
              go_wp2_with fail
              refine (hones _).mono ?_
              rintro e w2 ⟨rfl, hB2⟩
              go_wp2_with fail
              refine (hpre _).mono ?_
              rintro e w3 ⟨rfl, rfl⟩
              have hown2 := row_below hown hB2
              have hB3 := hB.trans (hB2.mono hB.size)
              go_wp2_with fail
              go_ret3
              rw [HR.out]
              exact ⟨_, rfl, World.ownsRow_nil _ _ _ _, hB3⟩
            · have HR := Lib.hid (hR.trans ((if_pos rfl).trans (if_neg h20)))
              obtain ⟨a, cap, rfl⟩ := row_shape hown
              have hsk : Hid ((s.size : Int) - (r.size : Int) = (k : Int)) := Lib.hid (by omega)
              clear hR
              go_wp2_with fail
              refine (hones _).mono ?_
              rintro e w2 ⟨rfl, hB2⟩
              go_wp2_with fail
              refine (hpre _).mono ?_
              rintro e w3 ⟨rfl, rfl⟩
              have hown2 := row_below hown hB2
              have hB3 := hB.trans (hB2.mono hB.size)
              go_wp2_with fail
              go_ret3
              rw [HR.out]
              refine ⟨.slice a ids.length cap, ?_, hown2, hB3⟩
              show Ending.returned (.tuple #[_, .int .i64 ((s.size : Int) - (r.size : Int)), .int .i64 0]) = _
              rw [hsk.out]
              rfl
          | true =>
            have HR := Lib.hid (hR.trans (if_neg (by decide)))
            clear hR
            go_wp2_with fail
            refine (hones _).mono ?_
            rintro e w2 ⟨rfl, hB2⟩
            go_wp2_with fail
            refine (hpre _).mono ?_
            rintro e w3 ⟨rfl, rfl⟩
            have hown2 := row_below hown hB2
            have hB3 := hB.trans (hB2.mono hB.size)
            go_wp2_with fail
            obtain ⟨wo, hwo⟩ : ∃ wo : World, wo = w3 := ⟨_, rfl⟩
            go_loop [8, 9, 36] (fun v _ i => ∃ j : Nat, j ≤ 32 ∧ i = .int .i64 (j : Int) ∧ v = .int .i64 (codeN (r.data.toList.take j) : Int)) (fun _ _ i => 32 - (intOf i).toNat)
            case atStart => exact ⟨0, Nat.zero_le _, rfl, rfl⟩
            case round =>
              obtain ⟨j, hj, rfl, rfl⟩ := hrel
              by_cases hjl : j < 32
              · have hbit : r[j] = 48 ∨ r[j] = 49 := by simpa [bitB] using bit_at r j (by omega) hrb
                have hsn : Hid (codeN (r.data.toList.take (j + 1)) = codeN (r.data.toList.take j) + bitN r[j] * 2 ^ j) := Lib.hid (by
                  rw [take_snoc _ _ (by omega), codeN_snoc, List.length_take]
                  rw [Nat.min_eq_left (by simp; omega)])
                have hlt2 : codeN (r.data.toList.take j) < 2 ^ j := by
                  have := codeN_lt (r.data.toList.take j)
                  rw [List.length_take] at this
                  exact Nat.lt_of_lt_of_le this (Nat.pow_le_pow_right (by decide) (Nat.min_le_left _ _))
                have hor := Lib.hid (add_step _ j r[j] hlt2 hjl hbit)
                have hjr : j < r.size := by omega
                clear hbit hlt2
                generalize codeN (r.data.toList.take j) = v at hsn hor
                go_wp2_with fail
                go_round
                case rel => exact ⟨j + 1, by omega, by go_num, by rw [hsn.out, hor.out]⟩
                case measure => simp [intOf]; omega
              · obtain rfl : j = 32 := by omega
                have hex : Hid ((r.extract 32 r.size).data.toList = s.data.toList.drop (k + 32)) := Lib.hid (by
                  rw [extract_bytes, HRD.out, List.drop_drop, List.take_of_length_le (by simp; omega)])
                have hR' : Hid (R = idF f (s.data.toList.drop (k + 32)) (ids ++ [(codeN (r.data.toList.take 32) : Int)]) (k + 32)) := Lib.hid (by
                  rw [HR.out, HRD.out, List.drop_drop])
                have hz : Hid ((r.extract 32 r.size).size < r.size) := Lib.hid (by rw [ByteArray.size_extract]; omega)
                clear HR HRD hrb hx
                generalize codeN (r.data.toList.take 32) = cv at hcv hR'
                have hw3 : w.heap.size ≤ w3.heap.size := hB3.size
                have h1i : (32 : Int) ≤ (r.size : Int) := by omega
                go_wp2_with fail
                go_region_law (refine step_append_lies (P := Tryz.prog) _ rfl (.tmp 49) (.tmp 51) 22 rfl w.heap.size 3 i0 (.int .i64 0) 1 8 Tryz.underlying22 hi hz0 hz1 hz2 rfl (by decide) _ _ _ (by simp [Act.eval]) (World.ownsRow.alloc (w := w3) hown2 _) ⟨w3.heap.size, 0, none⟩ 1 1 [.int .i64 (cv : Int)] (by simp [Act.eval]) rfl (by exact cell_one_new _ _ _) (by exact ints_oneCell .i64 [(cv : Int)]) (by decide) (by unfold maxLen; omega) (by omega) (by simp; omega) _ rfl ?_; intro g4 cap4 w4 hown4 hg4 hat4 hlt4)
                have hB4 : Below w.heap.size w w4 := (hB3.alloc hw3 _).drew.grown hg4 (by simp; omega) (fun k hk => (hown2.lt k hk).1)
                clear hown hown2 hg4 hat4 hB2 hpre hones
                go_simp
                go_wp2_with fail
                go_roundw
                case rel => exact ⟨k + 32, f, ids ++ [(cv : Int)], _, by omega, by omega, rfl, hex.out, by simpa using hown4, by simp; omega, hR'.out, hB4⟩
                case measure => exact hz.out
end Go.Proofs.YthcakdminnmjoaaGreatDoor
