/- Package pattern, plain: what is generated meets its goal, for the numbers of nets that the property draws. -/
import Derived.Test.YtoipgliokelcfaaGreatDoorPdK
import Derived.Test.YtoipgliokelcfaaGreatDoorM3
import Derived.Test.YtoipgliokelcfaaGreatDoorPvMs
namespace Go.Proofs.YtoipgliokelcfaaGreatDoor
open Go.RowKit

def rowsB (S : List (List UInt8)) (n k : Nat) : Bool := decide (S.length = n) && S.all fun s => decide (s.length = k) && s.all bitB
theorem turn_twice (S : List (List UInt8)) (n k : Nat) (h : rowsB S n k = true) : turnL (turnL S k) n = S := by
  unfold rowsB at h
  rw [Bool.and_eq_true, List.all_eq_true] at h
  obtain ⟨hn, hs⟩ := h
  have hn := of_decide_eq_true hn
  apply List.ext_getElem
  · simp [turnL, hn]
  · intro i h1 h2
    have hk : (S[i]).length = k := by
      have := hs _ (List.getElem_mem h2)
      rw [Bool.and_eq_true] at this
      exact of_decide_eq_true this.1
    simp only [turnL, List.getElem_map, List.getElem_range]
    apply List.ext_getElem
    · simp [hk]
    · intro c h3 h4
      simp only [List.getElem_map, List.getElem_range]
      rw [List.getD_eq_getElem?_getD, List.getElem?_map, List.getElem?_eq_getElem h2]
      simp only [Option.map_some, Option.getD_some]
      rw [List.getD_eq_getElem?_getD, List.getElem?_eq_getElem h4]
      rfl
theorem firstErr_right (f : List UInt8 → Int) : ∀ (S : List (List UInt8)), (∀ s, s ∈ S → f s = 0) → firstErr f S = 0
  | [], _ => rfl
  | s :: S, h => by
    have e := firstErr_at f (s :: S) 0 (by simp)
    rw [List.drop_zero] at e
    rw [e]
    show (if f s = 0 then firstErr f S else f s) = 0
    rw [if_pos (h s (by simp))]
    exact firstErr_right f S (fun x hx => h x (by simp [hx]))
/-- Columns of right rows are right vectors. -/
theorem turn_right (S : List (List UInt8)) (n k : Nat) (h : rowsB S n k = true) (h1 : 1 ≤ n) (h2 : n ≤ 100) (hk : k ≤ 200) :
    (turnL S k).length = k ∧ (∀ s, s ∈ turnL S k → s.length = n ∧ s.all bitB = true) ∧ vecErr (n : Int) (turnL S k) = 0 := by
  unfold rowsB at h
  rw [Bool.and_eq_true, List.all_eq_true] at h
  obtain ⟨hn, hs⟩ := h
  have hn := of_decide_eq_true hn
  have hl : (turnL S k).length = k := by simp [turnL]
  have hall : ∀ s, s ∈ turnL S k → s.length = n ∧ s.all bitB = true := by
    intro s hm
    unfold turnL at hm
    rw [List.mem_map] at hm
    obtain ⟨c, hc, rfl⟩ := hm
    rw [List.mem_range] at hc
    refine ⟨by rw [List.length_map, hn], ?_⟩
    rw [List.all_eq_true]
    intro x hx
    rw [List.mem_map] at hx
    obtain ⟨row, hr, rfl⟩ := hx
    have h3 := hs row hr
    rw [Bool.and_eq_true] at h3
    have h4 := of_decide_eq_true h3.1
    rw [List.getD_eq_getElem?_getD, List.getElem?_eq_getElem (by omega)]
    exact List.all_eq_true.1 h3.2 _ (List.getElem_mem _)
  refine ⟨hl, hall, ?_⟩
  unfold vecErr netsErr
  rw [if_pos (by rw [if_pos (by omega)]), if_neg (by omega)]
  refine firstErr_right _ _ (fun s hm => ?_)
  obtain ⟨e1, e2⟩ := hall s hm
  unfold wordErr
  rw [if_pos (by omega), if_pos e2]
structure GmN (n k1 : Nat) : Prop where
  least : Least 2 n k1
  r1 : rowsB (genS 2 n k1) n k1 = true
  r2 : rowsB (compS n) n (2 * cLen n) = true
  m1 : meetsB (genS 2 n k1) n 2 = true
  m2 : meetsB (compS n) n 2 = true
  m3 : meetsB (compS n) n 3 = true
structure GmZ (z n k : Nat) : Prop where
  least : Least z n k
  r : rowsB (genS z n k) n k = true
  m : meetsB (genS z n k) n (z : Int) = true
set_option maxRecDepth 100000
theorem gmN_1 : GmN 1 2 := ⟨by unfold Least; decide +kernel, by decide +kernel, by decide +kernel, by decide +kernel, by decide +kernel, by decide +kernel⟩
theorem gmN_2 : GmN 2 2 := ⟨by unfold Least; decide +kernel, by decide +kernel, by decide +kernel, by decide +kernel, by decide +kernel, by decide +kernel⟩
theorem gmN_3 : GmN 3 3 := ⟨by unfold Least; decide +kernel, by decide +kernel, by decide +kernel, by decide +kernel, by decide +kernel, by decide +kernel⟩
theorem gmN_5 : GmN 5 3 := ⟨by unfold Least; decide +kernel, by decide +kernel, by decide +kernel, by decide +kernel, by decide +kernel, by decide +kernel⟩
theorem gmN_20 : GmN 20 5 := ⟨by unfold Least; decide +kernel, by decide +kernel, by decide +kernel, by decide +kernel, by decide +kernel, by decide +kernel⟩
theorem gmN_70 : GmN 70 7 := ⟨by unfold Least; decide +kernel, by decide +kernel, by decide +kernel, by decide +kernel, by decide +kernel, by decide +kernel⟩
theorem gmN_100 : GmN 100 7 := ⟨by unfold Least; decide +kernel, by decide +kernel, by decide +kernel, by decide +kernel, by decide +kernel, by decide +kernel⟩
theorem gmZ_1_1 : GmZ 1 1 0 := ⟨by unfold Least; decide +kernel, by decide +kernel, by decide +kernel⟩
theorem gmZ_2_1 : GmZ 2 1 2 := ⟨by unfold Least; decide +kernel, by decide +kernel, by decide +kernel⟩
theorem gmZ_3_1 : GmZ 3 1 0 := ⟨by unfold Least; decide +kernel, by decide +kernel, by decide +kernel⟩
theorem gmZ_1_2 : GmZ 1 2 1 := ⟨by unfold Least; decide +kernel, by decide +kernel, by decide +kernel⟩
theorem gmZ_2_2 : GmZ 2 2 2 := ⟨by unfold Least; decide +kernel, by decide +kernel, by decide +kernel⟩
theorem gmZ_3_2 : GmZ 3 2 2 := ⟨by unfold Least; decide +kernel, by decide +kernel, by decide +kernel⟩
theorem gmZ_1_3 : GmZ 1 3 2 := ⟨by unfold Least; decide +kernel, by decide +kernel, by decide +kernel⟩
theorem gmZ_2_3 : GmZ 2 3 3 := ⟨by unfold Least; decide +kernel, by decide +kernel, by decide +kernel⟩
theorem gmZ_3_3 : GmZ 3 3 3 := ⟨by unfold Least; decide +kernel, by decide +kernel, by decide +kernel⟩
theorem gmZ_1_5 : GmZ 1 5 3 := ⟨by unfold Least; decide +kernel, by decide +kernel, by decide +kernel⟩
theorem gmZ_2_5 : GmZ 2 5 3 := ⟨by unfold Least; decide +kernel, by decide +kernel, by decide +kernel⟩
theorem gmZ_3_5 : GmZ 3 5 4 := ⟨by unfold Least; decide +kernel, by decide +kernel, by decide +kernel⟩
theorem gmZ_1_20 : GmZ 1 20 5 := ⟨by unfold Least; decide +kernel, by decide +kernel, by decide +kernel⟩
theorem gmZ_2_20 : GmZ 2 20 5 := ⟨by unfold Least; decide +kernel, by decide +kernel, by decide +kernel⟩
theorem gmZ_3_20 : GmZ 3 20 6 := ⟨by unfold Least; decide +kernel, by decide +kernel, by decide +kernel⟩
theorem gmZ_1_70 : GmZ 1 70 7 := ⟨by unfold Least; decide +kernel, by decide +kernel, by decide +kernel⟩
theorem gmZ_2_70 : GmZ 2 70 7 := ⟨by unfold Least; decide +kernel, by decide +kernel, by decide +kernel⟩
theorem gmZ_3_70 : GmZ 3 70 8 := ⟨by unfold Least; decide +kernel, by decide +kernel, by decide +kernel⟩
theorem gmZ_1_100 : GmZ 1 100 7 := ⟨by unfold Least; decide +kernel, by decide +kernel, by decide +kernel⟩
theorem gmZ_2_100 : GmZ 2 100 7 := ⟨by unfold Least; decide +kernel, by decide +kernel, by decide +kernel⟩
theorem gmZ_3_100 : GmZ 3 100 9 := ⟨by unfold Least; decide +kernel, by decide +kernel, by decide +kernel⟩
theorem gm_all (n z : Nat) (hn : n = 1 ∨ n = 2 ∨ n = 3 ∨ n = 5 ∨ n = 20 ∨ n = 70 ∨ n = 100) (hz : z = 1 ∨ z = 2 ∨ z = 3) :
    ∃ k1 k, GmN n k1 ∧ GmZ z n k ∧ (z ≠ 3 → k ≤ k1) ∧ k ≤ 2 * cLen n ∧ k1 ≤ 9 ∧ k ≤ 9 ∧ 2 * cLen n ≤ 18 := by
  rcases hn with rfl | rfl | rfl | rfl | rfl | rfl | rfl <;> rcases hz with rfl | rfl | rfl
  · exact ⟨_, _, gmN_1, gmZ_1_1, by decide, by decide +kernel, by decide, by decide, by decide +kernel⟩
  · exact ⟨_, _, gmN_1, gmZ_2_1, by decide, by decide +kernel, by decide, by decide, by decide +kernel⟩
  · exact ⟨_, _, gmN_1, gmZ_3_1, by decide, by decide +kernel, by decide, by decide, by decide +kernel⟩
  · exact ⟨_, _, gmN_2, gmZ_1_2, by decide, by decide +kernel, by decide, by decide, by decide +kernel⟩
  · exact ⟨_, _, gmN_2, gmZ_2_2, by decide, by decide +kernel, by decide, by decide, by decide +kernel⟩
  · exact ⟨_, _, gmN_2, gmZ_3_2, by decide, by decide +kernel, by decide, by decide, by decide +kernel⟩
  · exact ⟨_, _, gmN_3, gmZ_1_3, by decide, by decide +kernel, by decide, by decide, by decide +kernel⟩
  · exact ⟨_, _, gmN_3, gmZ_2_3, by decide, by decide +kernel, by decide, by decide, by decide +kernel⟩
  · exact ⟨_, _, gmN_3, gmZ_3_3, by decide, by decide +kernel, by decide, by decide, by decide +kernel⟩
  · exact ⟨_, _, gmN_5, gmZ_1_5, by decide, by decide +kernel, by decide, by decide, by decide +kernel⟩
  · exact ⟨_, _, gmN_5, gmZ_2_5, by decide, by decide +kernel, by decide, by decide, by decide +kernel⟩
  · exact ⟨_, _, gmN_5, gmZ_3_5, by decide, by decide +kernel, by decide, by decide, by decide +kernel⟩
  · exact ⟨_, _, gmN_20, gmZ_1_20, by decide, by decide +kernel, by decide, by decide, by decide +kernel⟩
  · exact ⟨_, _, gmN_20, gmZ_2_20, by decide, by decide +kernel, by decide, by decide, by decide +kernel⟩
  · exact ⟨_, _, gmN_20, gmZ_3_20, by decide, by decide +kernel, by decide, by decide, by decide +kernel⟩
  · exact ⟨_, _, gmN_70, gmZ_1_70, by decide, by decide +kernel, by decide, by decide, by decide +kernel⟩
  · exact ⟨_, _, gmN_70, gmZ_2_70, by decide, by decide +kernel, by decide, by decide, by decide +kernel⟩
  · exact ⟨_, _, gmN_70, gmZ_3_70, by decide, by decide +kernel, by decide, by decide, by decide +kernel⟩
  · exact ⟨_, _, gmN_100, gmZ_1_100, by decide, by decide +kernel, by decide, by decide, by decide +kernel⟩
  · exact ⟨_, _, gmN_100, gmZ_2_100, by decide, by decide +kernel, by decide, by decide, by decide +kernel⟩
  · exact ⟨_, _, gmN_100, gmZ_3_100, by decide, by decide +kernel, by decide, by decide, by decide +kernel⟩
end Go.Proofs.YtoipgliokelcfaaGreatDoor
/- The maker of right vectors, which are right; vectors that are written are read. Made by gens/sqa.py. -/
namespace Go.Proofs.YtoipgliokelcfaaGreatDoor
open Go.RowKit

set_option maxHeartbeats 2000000 in
set_option maxRecDepth 100000 in
theorem rightPatR_any (sb t most : Nat) (w : World) (hs : Strm w sb t) (ht : t ≤ 800000) (hm : most ≤ 10) :
    Calls Tryz.prog 20 #[.pointer (some ⟨sb, 0, none⟩), .int .i64 (most : Int)] w fun e w' => ∃ (z : Int) (v : Value), e = .returned (.tuple #[.int .i64 z, v]) ∧ ∃ S : List (List UInt8), StrsAt w.heap.size w' v S ∧ S.length ≤ 11 ∧ (∀ k, k < S.length → (S.getD k []).length ≤ 12) ∧ Ran sb t 600 w w' ∧ vecErr z S = 0 := by
  have hsb := hs.lt
  have hR0 : Ran sb t (100 * 0) w w := Ran.refl hs
  have HR0 := Lib.hid hR0
  clear hR0 hs
  go_enter Tryz.func20, Tryz.ntmps20
  go_wp2_with fail
  go_loopw [8] (fun c wr => ∃ k : Nat, k ≤ 6 ∧ c = .int .i64 (k : Int) ∧ Ran sb t (100 * k) w wr) (fun c _ => 6 - (intOf c).toNat)
  case atStart => exact ⟨0, by omega, rfl, HR0.out⟩
  case round =>
    clear HR0
    obtain ⟨k, hk, rfl, hr⟩ := hrel
    by_cases hlt : k < 6
    · obtain ⟨t1, ht1, ht1', hs1⟩ := hr.strm
      have HR := Lib.hid hr
      have hgl : w.heap.size ≤ wr.heap.size := hr.1.size
      clear hr
      go_wp2_with fail
      refine (patterns_any sb t1 most _ hs1 (by omega) hm).mono ?_
      rintro e w2 ⟨z, v, rfl, S, hS, hl, hz, hr2⟩
      have hr3 : Ran sb t (100 * (k + 1)) w w2 := (HR.out.then ht1 ht1' hr2).mono (by omega)
      have hS3 := row_base hS hgl
      obtain ⟨a, c, rfl, -⟩ := strs_open hS
      have hpf := patternsFault_any S z (by omega) (fun k hk => by have := hz k hk; omega) _ w2 _ hS
      have H := Lib.hid (⟨hS3, hl, hz, hr3⟩ : _ ∧ _ ∧ _ ∧ _)
      clear hS hS3 hz hr2 hr3 HR hs1
      by_cases hE : vecErr z S = 0
      · rw [hE] at hpf
        have HE := Lib.hid hE
        clear hE
        go_wp2_with fail
        refine hpf.mono ?_
        rintro e w3 ⟨rfl, hB3⟩
        clear hpf
        have HF := Lib.hid (⟨row_later H.out.1 hB3, H.out.2.2.2.then_below hB3⟩ : _ ∧ _)
        clear hB3
        go_wp2_with fail
        go_ret2
        exact ⟨_, _, rfl, S, HF.out.1, H.out.2.1, H.out.2.2.1, HF.out.2.mono (by omega), HE.out⟩
      · generalize vecErr z S = E at hpf hE
        have hne : (E != 0) = true := by simpa using hE
        have hne2 : (E == 0) = false := by simpa using hE
        clear hE
        go_wp2_with fail
        refine hpf.mono ?_
        rintro e w3 ⟨rfl, hB3⟩
        clear hpf
        have HF := Lib.hid (H.out.2.2.2.then_below hB3)
        clear hB3
        go_wp2_with fail
        go_roundw
        case rel => exact ⟨k + 1, by omega, by go_num, HF.out⟩
        case measure => simp [intOf]; omega
    · obtain rfl : k = 6 := by omega
      have HR := Lib.hid hr
      clear hr
      go_wp2_with fail
      go_ret2
      exact ⟨_, _, rfl, [], World.ownsRow_nil _ _ _ _, by decide, (fun k hk => by cases hk), HR.out, by decide⟩

theorem rowsB_of {V : List (List UInt8)} {n : Nat} (h : ∀ s, s ∈ V → s.length = n ∧ s.all bitB = true) : rowsB V V.length n = true := by
  unfold rowsB
  rw [Bool.and_eq_true, List.all_eq_true]
  refine ⟨decide_eq_true rfl, fun s hs => ?_⟩
  rw [decide_eq_true (h s hs).1, (h s hs).2]
  rfl
theorem cols_right (V : List (List UInt8)) (n : Nat) (h : ∀ s, s ∈ V → s.length = n ∧ s.all bitB = true) : (turnL V n).length = n ∧ ∀ s, s ∈ turnL V n → s.length = V.length ∧ s.all bitB = true := by
  refine ⟨by simp [turnL], fun s hm => ?_⟩
  unfold turnL at hm
  rw [List.mem_map] at hm
  obtain ⟨c, hc, rfl⟩ := hm
  rw [List.mem_range] at hc
  refine ⟨List.length_map _, ?_⟩
  rw [List.all_eq_true]
  intro x hx
  rw [List.mem_map] at hx
  obtain ⟨row, hr, rfl⟩ := hx
  obtain ⟨h4, h5⟩ := h row hr
  rw [List.getD_eq_getElem?_getD, List.getElem?_eq_getElem (by omega)]
  exact List.all_eq_true.1 h5 _ (List.getElem_mem _)
theorem seq_right (V : List (List UInt8)) (n : Nat) (h1 : 1 ≤ n) (h2 : n ≤ 100) (hz : V.length ≤ 200) (h : ∀ s, s ∈ V → s.length = n ∧ s.all bitB = true) : seqErr (turnL V n) = 0 ∧ ((turnL V n).getD 0 []).length = V.length := by
  obtain ⟨e1, e2⟩ := cols_right V n h
  have e3 : ((turnL V n).getD 0 []).length = V.length := by
    have h0 : 0 < (turnL V n).length := by omega
    have : (turnL V n).getD 0 [] = (turnL V n)[0] := by simp [h0]
    rw [this]
    exact (e2 _ (List.getElem_mem h0)).1
  refine ⟨?_, e3⟩
  unfold seqErr
  rw [e3, if_neg (by omega), if_neg (by omega)]
  refine firstErr_right _ _ (fun s hs => ?_)
  obtain ⟨x1, x2⟩ := e2 s hs
  unfold wordErr
  rw [if_pos (by omega), if_pos x2]
theorem lines_right (V : List (List UInt8)) (n : Nat) (h1 : 1 ≤ n) (h2 : n ≤ 100) (hz : V.length ≤ 200) (h : ∀ s, s ∈ V → s.length = n ∧ s.all bitB = true) : linesErr V = 0 := by
  unfold linesErr
  rw [if_neg (by omega)]
  refine firstErr_right _ _ (fun s hs => ?_)
  obtain ⟨x1, x2⟩ := h s hs
  have e3 : ((V.getD 0 []).length : Int) = (n : Int) := by
    cases V with
    | nil => cases hs
    | cons a V => show ((a.length : Nat) : Int) = _; rw [(h a (by simp)).1]
  unfold lineErr wordErr
  rw [e3, if_neg (by intro e; rw [e] at x1; simp at x1; omega), if_neg (by omega), if_pos (by omega), if_pos x2]
theorem cut_row : ∀ (a b : List UInt8), a.all bitB = true → cutLF (a ++ 10 :: b) = some (a, b)
  | [], _, _ => rfl
  | c :: a, b, h => by
    simp only [List.all_cons, Bool.and_eq_true] at h
    have hc : ¬ c = 10 := by
      intro e
      rw [e] at h
      exact absurd h.1 (by decide)
    show cutLF (c :: (a ++ 10 :: b)) = _
    unfold cutLF
    rw [if_neg hc, cut_row a b h.2]
    rfl
theorem read_text : ∀ (V : List (List UInt8)) (f k : Nat) (A : List (List UInt8)), (textL V).length ≤ f → (∀ s, s ∈ V → s ≠ [] ∧ s.all bitB = true) → readS patStep f (textL V) k A = (0, true, A ++ V)
  | [], f, k, A, _, _ => by rw [List.append_nil]; exact readS_nil f k A
  | a :: V, f, k, A, hf, h => by
    obtain ⟨h1, h2⟩ := h a (by simp)
    have e : textL (a :: V) = a ++ 10 :: textL V := by unfold textL; rw [List.flatMap_cons]; simp
    have hc := cut_row a (textL V) h2
    rw [← e] at hc
    have hg : (patStep A a).2 = true := by
      unfold patStep
      rw [h2]
      cases a with
      | nil => exact absurd rfl h1
      | cons c a => rfl
    obtain ⟨g, hgl, hr⟩ := readS_good (step := patStep) (k := k) A hf hc hg
    rw [hr]
    have e2 : (patStep A a).1 = A ++ [a] := rfl
    rw [e2, read_text V g (k + 1) (A ++ [a]) hgl (fun s hs => h s (by simp [hs]))]
    simp
theorem read_back (V : List (List UInt8)) (n : Nat) (h1 : 1 ≤ n) (h2 : n ≤ 100) (hz : V.length ≤ 200) (h : ∀ s, s ∈ V → s.length = n ∧ s.all bitB = true) : (textL V).length ≤ 20200 ∧ readOut (textL V) = (0, 0, V) := by
  have hle := lines_right V n h1 h2 hz h
  have hlen : (textL V).length ≤ V.length * 101 := by
    have h3 := textL_len V 100 (fun k hk => by
      have e : V.getD k [] = V[k] := by simp [hk]
      rw [e, (h _ (List.getElem_mem hk)).1]
      exact h2) V.length (Nat.le_refl _)
    rw [List.take_length] at h3
    omega
  refine ⟨by omega, ?_⟩
  have hr := read_text V (textL V).length 0 [] (Nat.le_refl _) (fun s hs => by
    obtain ⟨x1, x2⟩ := h s hs
    exact ⟨by intro e; rw [e] at x1; simp at x1; omega, x2⟩)
  unfold readOut
  rw [if_neg (by omega), hr]
  simp only [List.nil_append, if_true]
  rw [hle]
  rfl
end Go.Proofs.YtoipgliokelcfaaGreatDoor
