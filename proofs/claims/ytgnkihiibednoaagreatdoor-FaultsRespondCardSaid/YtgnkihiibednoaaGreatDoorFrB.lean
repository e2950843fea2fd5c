/- What is wrong with a test: CheckTest and the reference's TestFault. Made by gens/frb.py. -/
import Derived.Test.YtgnkihiibednoaaGreatDoorFrA
namespace Go.Proofs.YtgnkihiibednoaaGreatDoor
open Go.RowKit

/-- What is wrong with a bit string of a test whose first one has so many bits. -/
def tbitErr (long : Int) (l : List UInt8) : Int := if l.all bitB = true then (if 64 < (l.length : Int) then 2 else if (l.length : Int) = long then 0 else 3) else 3
/-- What is wrong with a test. -/
def testErr (T : List (List UInt8)) : Int := if T.length = 0 then 8 else if 100 < T.length then 2 else firstErr (tbitErr ((T.getD 0 []).length : Int)) T

set_option maxHeartbeats 4000000 in
set_option maxRecDepth 100000 in
theorem checkTestG_any (T : List (List UInt8)) (hz : T.length ≤ 1000000) (hb : ∀ k, k < T.length → (T.getD k []).length ≤ 1000000) (B : Nat) (w : World) (v : Value) (h : StrsAt B w v T) :
    Calls Tryz.prog 18 #[v] w fun e w' => e = .returned (.int .i64 (testErr T)) ∧ Below w.heap.size w w' := by
  obtain ⟨a, c, rfl, hop⟩ := strs_open h
  obtain ⟨n, hn⟩ : ∃ n, n = T.length := ⟨_, rfl⟩
  obtain ⟨E, hE⟩ : ∃ E, E = testErr T := ⟨_, rfl⟩
  rw [← hE, ← hn]
  rw [← hn] at hop hz
  unfold testErr at hE
  rw [← hn] at hE
  by_cases h0 : n = 0
  · rw [if_pos h0] at hE
    subst h0
    subst hE
    clear hop hz hn hb h
    go_enter Tryz.func18, Tryz.ntmps18
    go_wp2_with fail
    go_ret
    exact ⟨rfl, Below.refl _ _⟩
  rw [if_neg h0] at hE
  have z0 : ((n : Int) == 0) = false := by rw [beq_eq_false_iff_ne]; omega
  by_cases h1 : 100 < n
  · rw [if_pos h1] at hE
    subst hE
    have z1 : (n : Int) > 100 := by omega
    clear hop hz hn hb h h0
    go_enter Tryz.func18, Tryz.ntmps18
    go_wp2_with fail
    go_ret
    exact ⟨rfl, Below.refl _ _⟩
  rw [if_neg h1] at hE
  obtain ⟨g, rfl, hg, hcell⟩ := hop (by omega)
  obtain ⟨L0, hL0⟩ : ∃ z : Int, z = ((T.getD 0 []).length : Int) := ⟨_, rfl⟩
  have hst : firstErr (tbitErr L0) (T.drop 0) = E := by rw [hE, hL0]; rfl
  have hnT : T.length = n := hn.symm
  have hb' : ∀ k, k < n → (T.getD k []).length ≤ 1000000 := fun k hk => hb k (by omega)
  have HS0 := Lib.hid hst
  have HH := Lib.hid (⟨hcell, hb', hL0, hnT⟩ : _ ∧ _ ∧ _ ∧ _)
  have z1 : (n : Int) ≤ 100 := by omega
  have z2 : (0 : Int) < (n : Int) := by omega
  clear hop hcell hE hst hn hb hb' h hL0 hz hnT
  go_enter Tryz.func18, Tryz.ntmps18
  go_wp2_with fail
  go_loopw [15] (fun i wr => ∃ (k : Nat), k ≤ n ∧ i = .int .i64 (k : Int) ∧ firstErr (tbitErr L0) (T.drop k) = E ∧ Below w.heap.size w wr) (fun i _ => n - (intOf i).toNat)
  case atStart => exact ⟨0, by omega, rfl, HS0.out, Below.refl _ _⟩
  case round =>
    clear HS0
    obtain ⟨k, hk, rfl, hE, hB⟩ := hrel
    by_cases hlt : k < n
    · have ck := (hB.cell (p := ⟨g, k, none⟩) hg).trans (HH.out.1 k hlt)
      have c0 := (hB.cell (p := ⟨g, 0, none⟩) hg).trans (HH.out.1 0 (by omega))
      have lk := HH.out.2.1 k hlt
      have l0 := HH.out.2.1 0 (by omega)
      rw [firstErr_at _ _ _ (by rw [HH.out.2.2.2]; exact hlt)] at hE
      obtain ⟨sk, hsk⟩ : ∃ s : ByteArray, s = ⟨(T.getD k []).toArray⟩ := ⟨_, rfl⟩
      obtain ⟨s0, hs0⟩ : ∃ s : ByteArray, s = ⟨(T.getD 0 []).toArray⟩ := ⟨_, rfl⟩
      have wk := word_dec _ sk hsk
      have w0 := word_dec _ s0 hs0
      change _ = some (Value.string ⟨(T.getD k []).toArray⟩) at ck
      change _ = some (Value.string ⟨(T.getD 0 []).toArray⟩) at c0
      rw [← hsk] at ck
      rw [← hs0] at c0
      have zk : sk.size ≤ 1000000 := by have := wk.1; omega
      have zz : (s0.size : Int) = L0 := by rw [HH.out.2.2.1]; exact w0.1
      have hib := fun W => isBits_any sk W (by omega)
      rw [wk.2] at hib
      unfold tbitErr at hE
      rw [← wk.1] at hE
      obtain ⟨rest, hrest⟩ : ∃ z, z = firstErr (tbitErr L0) (T.drop (k + 1)) := ⟨_, rfl⟩
      change (if _ = 0 then firstErr (tbitErr L0) (T.drop (k + 1)) else _) = E at hE
      have k0 : (0 : Int) ≤ (k : Int) := by omega
      have k1 : (k : Int) < (n : Int) := by omega
      have hib1 := hib wr
      have HB := Lib.hid hB
      have HZ := Lib.hid (⟨ck, c0⟩ : _ ∧ _)
      have hkw : g < wr.heap.size := Nat.lt_of_lt_of_le hg hB.size
      clear hB lk l0 hsk hs0 wk w0 hib c0 hrest
      cases hbt : (T.getD k []).all bitB with
      | false =>
        rw [hbt] at hE hib1
        rw [show (if false = true then (if 64 < (sk.size : Int) then (2 : Int) else if (sk.size : Int) = L0 then 0 else 3) else 3) = 3 from if_neg (by decide), if_neg (by decide)] at hE
        have HE := Lib.hid hE
        clear hE hbt
        go_wp2_with fail
        refine hib1.mono ?_
        rintro e w2 ⟨rfl, hB2⟩
        have hB2' := hB2
        have HB2 := Lib.hid (HB.out.trans (hB2'.mono HB.out.size))
        clear hib1 hB2 hB2'
        go_wp2_with fail
        go_ret
        obtain rfl := HE.out
        exact ⟨rfl, HB2.out⟩
      | true =>
        rw [hbt] at hE hib1
        rw [if_pos rfl] at hE
        by_cases hlong : 64 < (sk.size : Int)
        · have dm : decide ((sk.size : Int) > 64) = true := decide_eq_true hlong
          rw [if_pos hlong, if_neg (by decide)] at hE
          have HE := Lib.hid hE
          clear hE hbt hlong
          go_wp2_with fail
          refine hib1.mono ?_
          rintro e w2 ⟨rfl, hB2⟩
          have hB2' := hB2
          have HB2 := Lib.hid (HB.out.trans (hB2'.mono HB.out.size))
          clear hib1 hB2 hB2'
          go_wp2_with fail
          go_ret
          obtain rfl := HE.out
          exact ⟨rfl, HB2.out⟩
        · have dm : decide ((sk.size : Int) > 64) = false := decide_eq_false hlong
          rw [if_neg hlong] at hE
          by_cases heq : (sk.size : Int) = L0
          · rw [if_pos heq, if_pos rfl] at hE
            have e2 : ((sk.size : Int) != (s0.size : Int)) = false := by rw [zz]; simpa using heq
            have HE := Lib.hid hE
            clear hE hbt hlong heq zz
            go_wp2_with fail
            refine hib1.mono ?_
            rintro e w2 ⟨rfl, hB2⟩
            have hB2' := hB2
            have c0' := (hB2'.cell (p := ⟨g, 0, none⟩) hkw).trans HZ.out.2
            have HB2 := Lib.hid (HB.out.trans (hB2'.mono HB.out.size))
            clear hib1 hB2 hB2'
            go_wp2_with fail
            go_roundw
            case rel => exact ⟨k + 1, by omega, by go_num, HE.out, HB2.out⟩
            case measure => simp [intOf]; omega
          · rw [if_neg heq, if_neg (by decide)] at hE
            have e2 : ((sk.size : Int) != (s0.size : Int)) = true := by rw [zz]; simpa using heq
            have HE := Lib.hid hE
            clear hE hbt hlong heq zz
            go_wp2_with fail
            refine hib1.mono ?_
            rintro e w2 ⟨rfl, hB2⟩
            have hB2' := hB2
            have c0' := (hB2'.cell (p := ⟨g, 0, none⟩) hkw).trans HZ.out.2
            have HB2 := Lib.hid (HB.out.trans (hB2'.mono HB.out.size))
            clear hib1 hB2 hB2'
            go_wp2_with fail
            go_ret
            obtain rfl := HE.out
            exact ⟨rfl, HB2.out⟩
    · have hkn : k = T.length := by rw [HH.out.2.2.2]; omega
      rw [hkn, firstErr_end] at hE
      have HE := Lib.hid hE
      have HB := Lib.hid hB
      have hkn2 : ¬ (k : Int) < (n : Int) := by omega
      clear hE hkn hB
      go_wp2_with fail
      go_ret
      obtain rfl := HE.out
      exact ⟨rfl, HB.out⟩

set_option maxHeartbeats 4000000 in
set_option maxRecDepth 100000 in
theorem testFaultG_any (T : List (List UInt8)) (hz : T.length ≤ 1000000) (hb : ∀ k, k < T.length → (T.getD k []).length ≤ 1000000) (B : Nat) (w : World) (v : Value) (h : StrsAt B w v T) :
    Calls Tryz.prog 13 #[v] w fun e w' => e = .returned (.int .i64 (testErr T)) ∧ Below w.heap.size w w' := by
  obtain ⟨a, c, rfl, hop⟩ := strs_open h
  obtain ⟨n, hn⟩ : ∃ n, n = T.length := ⟨_, rfl⟩
  obtain ⟨E, hE⟩ : ∃ E, E = testErr T := ⟨_, rfl⟩
  rw [← hE, ← hn]
  rw [← hn] at hop hz
  unfold testErr at hE
  rw [← hn] at hE
  by_cases h0 : n = 0
  · rw [if_pos h0] at hE
    subst h0
    subst hE
    clear hop hz hn hb h
    go_enter Tryz.func13, Tryz.ntmps13
    go_wp2_with fail
    go_ret
    exact ⟨rfl, Below.refl _ _⟩
  rw [if_neg h0] at hE
  have z0 : ((n : Int) == 0) = false := by rw [beq_eq_false_iff_ne]; omega
  by_cases h1 : 100 < n
  · rw [if_pos h1] at hE
    subst hE
    have z1 : (n : Int) > 100 := by omega
    clear hop hz hn hb h h0
    go_enter Tryz.func13, Tryz.ntmps13
    go_wp2_with fail
    go_ret
    exact ⟨rfl, Below.refl _ _⟩
  rw [if_neg h1] at hE
  obtain ⟨g, rfl, hg, hcell⟩ := hop (by omega)
  obtain ⟨L0, hL0⟩ : ∃ z : Int, z = ((T.getD 0 []).length : Int) := ⟨_, rfl⟩
  have hst : firstErr (tbitErr L0) (T.drop 0) = E := by rw [hE, hL0]; rfl
  have hnT : T.length = n := hn.symm
  have hb' : ∀ k, k < n → (T.getD k []).length ≤ 1000000 := fun k hk => hb k (by omega)
  have HS0 := Lib.hid hst
  have HH := Lib.hid (⟨hcell, hb', hL0, hnT⟩ : _ ∧ _ ∧ _ ∧ _)
  have z1 : (n : Int) ≤ 100 := by omega
  have z2 : (0 : Int) < (n : Int) := by omega
  clear hop hcell hE hst hn hb hb' h hL0 hz hnT
  go_enter Tryz.func13, Tryz.ntmps13
  go_wp2_with fail
  go_loopw [15] (fun i wr => ∃ (k : Nat), k ≤ n ∧ i = .int .i64 (k : Int) ∧ firstErr (tbitErr L0) (T.drop k) = E ∧ Below w.heap.size w wr) (fun i _ => n - (intOf i).toNat)
  case atStart => exact ⟨0, by omega, rfl, HS0.out, Below.refl _ _⟩
  case round =>
    clear HS0
    obtain ⟨k, hk, rfl, hE, hB⟩ := hrel
    by_cases hlt : k < n
    · have ck := (hB.cell (p := ⟨g, k, none⟩) hg).trans (HH.out.1 k hlt)
      have c0 := (hB.cell (p := ⟨g, 0, none⟩) hg).trans (HH.out.1 0 (by omega))
      have lk := HH.out.2.1 k hlt
      have l0 := HH.out.2.1 0 (by omega)
      rw [firstErr_at _ _ _ (by rw [HH.out.2.2.2]; exact hlt)] at hE
      obtain ⟨sk, hsk⟩ : ∃ s : ByteArray, s = ⟨(T.getD k []).toArray⟩ := ⟨_, rfl⟩
      obtain ⟨s0, hs0⟩ : ∃ s : ByteArray, s = ⟨(T.getD 0 []).toArray⟩ := ⟨_, rfl⟩
      have wk := word_dec _ sk hsk
      have w0 := word_dec _ s0 hs0
      change _ = some (Value.string ⟨(T.getD k []).toArray⟩) at ck
      change _ = some (Value.string ⟨(T.getD 0 []).toArray⟩) at c0
      rw [← hsk] at ck
      rw [← hs0] at c0
      have zk : sk.size ≤ 1000000 := by have := wk.1; omega
      have zz : (s0.size : Int) = L0 := by rw [HH.out.2.2.1]; exact w0.1
      have hib := fun W => rbits2_any sk W (by omega)
      rw [wk.2] at hib
      unfold tbitErr at hE
      rw [← wk.1] at hE
      obtain ⟨rest, hrest⟩ : ∃ z, z = firstErr (tbitErr L0) (T.drop (k + 1)) := ⟨_, rfl⟩
      change (if _ = 0 then firstErr (tbitErr L0) (T.drop (k + 1)) else _) = E at hE
      have k0 : (0 : Int) ≤ (k : Int) := by omega
      have k1 : (k : Int) < (n : Int) := by omega
      have hib1 := hib wr
      have HB := Lib.hid hB
      have HZ := Lib.hid (⟨ck, c0⟩ : _ ∧ _)
      have hkw : g < wr.heap.size := Nat.lt_of_lt_of_le hg hB.size
      clear hB lk l0 hsk hs0 wk w0 hib c0 hrest
      cases hbt : (T.getD k []).all bitB with
      | false =>
        rw [hbt] at hE hib1
        rw [show (if false = true then (if 64 < (sk.size : Int) then (2 : Int) else if (sk.size : Int) = L0 then 0 else 3) else 3) = 3 from if_neg (by decide), if_neg (by decide)] at hE
        have HE := Lib.hid hE
        clear hE hbt
        go_wp2_with fail
        refine hib1.mono ?_
        rintro e w2 ⟨rfl, hB2⟩
        have hB2' : Below wr.heap.size wr w2 := by subst hB2; exact Below.refl _ _
        have HB2 := Lib.hid (HB.out.trans (hB2'.mono HB.out.size))
        clear hib1 hB2 hB2'
        go_wp2_with fail
        go_ret
        obtain rfl := HE.out
        exact ⟨rfl, HB2.out⟩
      | true =>
        rw [hbt] at hE hib1
        rw [if_pos rfl] at hE
        by_cases hlong : 64 < (sk.size : Int)
        · have dm : decide ((sk.size : Int) > 64) = true := decide_eq_true hlong
          rw [if_pos hlong, if_neg (by decide)] at hE
          have HE := Lib.hid hE
          clear hE hbt hlong
          go_wp2_with fail
          refine hib1.mono ?_
          rintro e w2 ⟨rfl, hB2⟩
          have hB2' : Below wr.heap.size wr w2 := by subst hB2; exact Below.refl _ _
          have HB2 := Lib.hid (HB.out.trans (hB2'.mono HB.out.size))
          clear hib1 hB2 hB2'
          go_wp2_with fail
          go_ret
          obtain rfl := HE.out
          exact ⟨rfl, HB2.out⟩
        · have dm : decide ((sk.size : Int) > 64) = false := decide_eq_false hlong
          rw [if_neg hlong] at hE
          by_cases heq : (sk.size : Int) = L0
          · rw [if_pos heq, if_pos rfl] at hE
            have e2 : ((sk.size : Int) != (s0.size : Int)) = false := by rw [zz]; simpa using heq
            have HE := Lib.hid hE
            clear hE hbt hlong heq zz
            go_wp2_with fail
            refine hib1.mono ?_
            rintro e w2 ⟨rfl, hB2⟩
            have hB2' : Below wr.heap.size wr w2 := by subst hB2; exact Below.refl _ _
            have c0' := (hB2'.cell (p := ⟨g, 0, none⟩) hkw).trans HZ.out.2
            have HB2 := Lib.hid (HB.out.trans (hB2'.mono HB.out.size))
            clear hib1 hB2 hB2'
            go_wp2_with fail
            go_roundw
            case rel => exact ⟨k + 1, by omega, by go_num, HE.out, HB2.out⟩
            case measure => simp [intOf]; omega
          · rw [if_neg heq, if_neg (by decide)] at hE
            have e2 : ((sk.size : Int) != (s0.size : Int)) = true := by rw [zz]; simpa using heq
            have HE := Lib.hid hE
            clear hE hbt hlong heq zz
            go_wp2_with fail
            refine hib1.mono ?_
            rintro e w2 ⟨rfl, hB2⟩
            have hB2' : Below wr.heap.size wr w2 := by subst hB2; exact Below.refl _ _
            have c0' := (hB2'.cell (p := ⟨g, 0, none⟩) hkw).trans HZ.out.2
            have HB2 := Lib.hid (HB.out.trans (hB2'.mono HB.out.size))
            clear hib1 hB2 hB2'
            go_wp2_with fail
            go_ret
            obtain rfl := HE.out
            exact ⟨rfl, HB2.out⟩
    · have hkn : k = T.length := by rw [HH.out.2.2.2]; omega
      rw [hkn, firstErr_end] at hE
      have HE := Lib.hid hE
      have HB := Lib.hid hB
      have hkn2 : ¬ (k : Int) < (n : Int) := by omega
      clear hE hkn hB
      go_wp2_with fail
      go_ret
      obtain rfl := HE.out
      exact ⟨rfl, HB.out⟩
end Go.Proofs.YtgnkihiibednoaaGreatDoor
