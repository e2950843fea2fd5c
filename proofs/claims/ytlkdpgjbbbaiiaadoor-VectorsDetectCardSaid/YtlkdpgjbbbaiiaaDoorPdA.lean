/- Two bit strings of one length: changes, apart, and, both, within; isStuck; cmp.Or; equal rows of numbers. -/
import Derived.Test.YtlkdpgjbbbaiiaaDoorPvMs
import Derived.Deep.QuietTactic
import Derived.BigQuiet
namespace Go.Proofs.YtlkdpgjbbbaiiaaDoor
open Go.RowKit

/-- In how many of the first k places two lists differ. -/
def diffN (x y : List UInt8) (k : Nat) : Nat := ((List.range k).filter fun i => decide (x.getD i 0 ≠ y.getD i 0)).length
theorem diffN_succ (x y : List UInt8) (k : Nat) : diffN x y (k + 1) = diffN x y k + if x.getD k 0 = y.getD k 0 then 0 else 1 := by
  unfold diffN
  rw [List.range_succ, List.filter_append, List.length_append]
  congr 1
  cases hd : decide (x.getD k 0 ≠ y.getD k 0) with
  | true => rw [List.filter_cons, hd, if_neg (of_decide_eq_true hd)]; rfl
  | false => rw [List.filter_cons, hd, if_pos (Decidable.of_not_not (of_decide_eq_false hd))]; rfl
theorem diffN_le (x y : List UInt8) (k : Nat) : diffN x y k ≤ k := by
  unfold diffN
  have := List.length_filter_le (fun i => decide (x.getD i 0 ≠ y.getD i 0)) (List.range k)
  simpa using this
theorem str_at (s : ByteArray) (l : List UInt8) (hs : s = ⟨l.toArray⟩) (k : Nat) (h : k < s.size) : s[k]'h = l.getD k 0 := by
  subst hs
  have h2 : k < l.length := by have : (⟨l.toArray⟩ : ByteArray).size = l.length := by show l.toArray.size = _; simp
                               omega
  rw [List.getD_eq_getElem?_getD, List.getElem?_eq_getElem h2]
  rfl

set_option maxHeartbeats 2000000 in
set_option maxRecDepth 100000 in
theorem changes_any (x y : List UInt8) (hl : x.length = y.length) (hz : x.length ≤ 100000) (w : World) :
    Calls Tryd.prog 41 #[.string ⟨x.toArray⟩, .string ⟨y.toArray⟩] w fun e w' => e = .returned (.int .i64 (diffN x y x.length : Int)) ∧ Below w.heap.size w w' := by
  obtain ⟨sx, hsx⟩ : ∃ s : ByteArray, s = ⟨x.toArray⟩ := ⟨_, rfl⟩
  obtain ⟨sy, hsy⟩ : ∃ s : ByteArray, s = ⟨y.toArray⟩ := ⟨_, rfl⟩
  have hwx := (word_dec _ sx hsx).1
  have hwy := (word_dec _ sy hsy).1
  have hxl : sx.size = x.length := by omega
  have hyl : sy.size = x.length := by omega
  rw [← hsx, ← hsy, ← hxl]
  have hzz : sx.size ≤ 100000 := by omega
  have hxy : sx.size = sy.size := by omega
  have HX := Lib.hid (⟨hsx, hsy, hxy⟩ : _ ∧ _ ∧ _)
  clear hsx hsy hwx hwy hxl hyl hl hz hxy
  go_enter Tryd.func41, Tryd.ntmps41
  go_wp2_with fail
  go_loopw [5, 9] (fun n i wr => ∃ k : Nat, k ≤ sx.size ∧ i = .int .i64 (k : Int) ∧ n = .int .i64 (diffN x y k : Int) ∧ Below w.heap.size w wr) (fun _ i _ => sx.size - (intOf i).toNat)
  case atStart => exact ⟨0, by omega, rfl, rfl, Below.refl _ _⟩
  case round =>
    obtain ⟨k, hk, rfl, rfl, hB⟩ := hrel
    by_cases hlt : k < sx.size
    · have hlt2 : k < sy.size := by have := HX.out.2.2; omega
      have hx1 := str_at sx x HX.out.1 k hlt
      have hy1 := str_at sy y HX.out.2.1 k hlt2
      have hd := diffN_succ x y k
      have hdl := diffN_le x y k
      have HB := Lib.hid hB
      have i0 : (0 : Int) ≤ (k : Int) := by omega
      have i1 : (k : Int) < (sx.size : Int) := by omega
      have i2 : (k : Int) < (sy.size : Int) := by omega
      clear hB
      by_cases e : x.getD k 0 = y.getD k 0
      · have hne : ((sx[k].toNat : Int) != (sy[k].toNat : Int)) = false := by rw [hx1, hy1, e]; simp
        rw [if_pos e] at hd
        have HD := Lib.hid hd
        clear e hd hx1 hy1
        generalize diffN x y k = d at HD hdl ⊢
        go_wp2_with fail
        go_quiet (fail)
        go_wp2_with fail
        go_roundw
        case rel => exact ⟨k + 1, by omega, by go_num, by rw [HD.out]; rfl, HB.out.trans ((drewN_below _ _).mono HB.out.size)⟩
        case measure => simp [intOf]; omega
      · have hne : ((sx[k].toNat : Int) != (sy[k].toNat : Int)) = true := by
          rw [hx1, hy1, bne_iff_ne]
          intro h
          exact e (UInt8.toNat_inj.1 (by exact_mod_cast h))
        rw [if_neg e] at hd
        have HD := Lib.hid hd
        clear e hd hx1 hy1
        generalize diffN x y k = d at HD hdl ⊢
        go_wp2_with fail
        go_quiet (fail)
        go_wp2_with fail
        go_roundw
        case rel => exact ⟨k + 1, by omega, by go_num, by rw [HD.out]; go_num, HB.out.trans ((drewN_below _ _).mono HB.out.size)⟩
        case measure => simp [intOf]; omega
    · obtain rfl : k = sx.size := by omega
      have HB := Lib.hid hB
      clear hB
      go_wp2_with fail
      go_ret
      exact ⟨rfl, HB.out⟩

theorem truth_one (w : World) : Calls Tryd.prog 59 #[.bool true] w fun e w' => e = .returned (.int .i64 1) ∧ w' = w := by
  go_enter Tryd.func59, Tryd.ntmps59
  go_wp2_with fail
  go_ret
  exact ⟨rfl, rfl⟩
theorem truth_zero (w : World) : Calls Tryd.prog 59 #[.bool false] w fun e w' => e = .returned (.int .i64 0) ∧ w' = w := by
  go_enter Tryd.func59, Tryd.ntmps59
  go_wp2_with fail
  go_ret
  exact ⟨rfl, rfl⟩
set_option maxHeartbeats 2000000 in
set_option maxRecDepth 100000 in
theorem apart_any (x y : List UInt8) (hl : x.length = y.length) (hz : x.length ≤ 100000) (w : World) :
    Calls Tryd.prog 49 #[.string ⟨x.toArray⟩, .string ⟨y.toArray⟩] w fun e w' => e = .returned (.int .i64 (diffN x y x.length : Int)) ∧ Below w.heap.size w w' := by
  obtain ⟨sx, hsx⟩ : ∃ s : ByteArray, s = ⟨x.toArray⟩ := ⟨_, rfl⟩
  obtain ⟨sy, hsy⟩ : ∃ s : ByteArray, s = ⟨y.toArray⟩ := ⟨_, rfl⟩
  have hwx := (word_dec _ sx hsx).1
  have hwy := (word_dec _ sy hsy).1
  have hxl : sx.size = x.length := by omega
  have hyl : sy.size = x.length := by omega
  rw [← hsx, ← hsy, ← hxl]
  have hzz : sx.size ≤ 100000 := by omega
  have hxy : sx.size = sy.size := by omega
  have HX := Lib.hid (⟨hsx, hsy, hxy⟩ : _ ∧ _ ∧ _)
  clear hsx hsy hwx hwy hxl hyl hl hz hxy
  go_enter Tryd.func49, Tryd.ntmps49
  go_wp2_with fail
  go_loopw [5, 9] (fun n i wr => ∃ k : Nat, k ≤ sx.size ∧ i = .int .i64 (k : Int) ∧ n = .int .i64 (diffN x y k : Int) ∧ Below w.heap.size w wr) (fun _ i _ => sx.size - (intOf i).toNat)
  case atStart => exact ⟨0, by omega, rfl, rfl, Below.refl _ _⟩
  case round =>
    obtain ⟨k, hk, rfl, rfl, hB⟩ := hrel
    by_cases hlt : k < sx.size
    · have hlt2 : k < sy.size := by have := HX.out.2.2; omega
      have hx1 := str_at sx x HX.out.1 k hlt
      have hy1 := str_at sy y HX.out.2.1 k hlt2
      have hd := diffN_succ x y k
      have hdl := diffN_le x y k
      have HB := Lib.hid hB
      have i0 : (0 : Int) ≤ (k : Int) := by omega
      have i1 : (k : Int) < (sx.size : Int) := by omega
      have i2 : (k : Int) < (sy.size : Int) := by omega
      clear hB
      by_cases e : x.getD k 0 = y.getD k 0
      · have hne : ((sx[k].toNat : Int) != (sy[k].toNat : Int)) = false := by rw [hx1, hy1, e]; simp
        rw [if_pos e] at hd
        have HD := Lib.hid hd
        clear e hd hx1 hy1
        generalize diffN x y k = d at HD hdl ⊢
        have hsum : IntKind.i64.wrap ((d : Int) + 0) = (d : Int) := by rw [Int.add_zero]; exact IntWalk.i64_in _ (by omega)
        go_wp2_with fail
        go_quiet ((go_at_call 59; exact Calls.quiet_of_same (truth_zero _)))
        clear hsum
        go_wp2_with fail
        go_roundw
        case rel => exact ⟨k + 1, by omega, by go_num, by rw [HD.out]; go_num, HB.out.trans ((drewN_below _ _).mono HB.out.size)⟩
        case measure => simp [intOf]; omega
      · have hne : ((sx[k].toNat : Int) != (sy[k].toNat : Int)) = true := by
          rw [hx1, hy1, bne_iff_ne]
          intro h
          exact e (UInt8.toNat_inj.1 (by exact_mod_cast h))
        rw [if_neg e] at hd
        have HD := Lib.hid hd
        clear e hd hx1 hy1
        generalize diffN x y k = d at HD hdl ⊢
        have hsum : IntKind.i64.wrap ((d : Int) + 1) = (d : Int) + 1 := IntWalk.i64_in _ (by omega)
        go_wp2_with fail
        go_quiet ((go_at_call 59; exact Calls.quiet_of_same (truth_one _)))
        clear hsum
        go_wp2_with fail
        go_roundw
        case rel => exact ⟨k + 1, by omega, by go_num, by rw [HD.out]; go_num, HB.out.trans ((drewN_below _ _).mono HB.out.size)⟩
        case measure => simp [intOf]; omega
    · obtain rfl : k = sx.size := by omega
      have HB := Lib.hid hB
      clear hB
      go_wp2_with fail
      go_ret
      exact ⟨rfl, HB.out⟩

/-- Whether the first list has a 1 only where the second one has no 0, in the first k places. -/
def withinB (x y : List UInt8) (k : Nat) : Bool := (List.range k).all fun i => !(x.getD i 0 == 49 && y.getD i 0 == 48)
theorem withinB_succ (x y : List UInt8) (k : Nat) : withinB x y (k + 1) = (withinB x y k && !(x.getD k 0 == 49 && y.getD k 0 == 48)) := by
  unfold withinB
  rw [List.range_succ, List.all_append]
  simp
theorem withinB_all (x y : List UInt8) : ∀ (m k : Nat), k ≤ m → withinB x y m = true → withinB x y k = true
  | 0, k, hk, h => by obtain rfl : k = 0 := by omega
                      exact h
  | m + 1, k, hk, h => by
    by_cases e : k = m + 1
    · subst e; exact h
    · rw [withinB_succ, Bool.and_eq_true] at h
      exact withinB_all x y m k (by omega) h.1
theorem u8_eq (a : UInt8) (n : Nat) (hn : n < 256) : ((a.toNat : Int) == (n : Int)) = (a == UInt8.ofNat n) := by
  by_cases e : a = UInt8.ofNat n
  · subst e
    have : (UInt8.ofNat n).toNat = n := by rw [UInt8.toNat_ofNat']; omega
    rw [this]
    simp
  · have h1 : (a == UInt8.ofNat n) = false := by simpa using e
    rw [h1, beq_eq_false_iff_ne]
    intro h
    apply e
    have h2 : a.toNat = n := by exact_mod_cast h
    rw [← h2]
    simp

set_option maxHeartbeats 2000000 in
set_option maxRecDepth 100000 in
theorem within_any (x y : List UInt8) (hl : x.length = y.length) (hz : x.length ≤ 100000) (w : World) :
    Calls Tryd.prog 43 #[.string ⟨x.toArray⟩, .string ⟨y.toArray⟩] w fun e w' => e = .returned (.bool (withinB x y x.length)) ∧ w = w' := by
  obtain ⟨sx, hsx⟩ : ∃ s : ByteArray, s = ⟨x.toArray⟩ := ⟨_, rfl⟩
  obtain ⟨sy, hsy⟩ : ∃ s : ByteArray, s = ⟨y.toArray⟩ := ⟨_, rfl⟩
  have hwx := (word_dec _ sx hsx).1
  have hwy := (word_dec _ sy hsy).1
  have hxl : sx.size = x.length := by omega
  have hyl : sy.size = x.length := by omega
  rw [← hsx, ← hsy, ← hxl]
  have hzz : sx.size ≤ 100000 := by omega
  have hxy : sx.size = sy.size := by omega
  obtain ⟨R, hR⟩ : ∃ R, R = withinB x y sx.size := ⟨_, rfl⟩
  rw [← hR]
  have HX := Lib.hid (⟨hsx, hsy, hxy, hR⟩ : _ ∧ _ ∧ _ ∧ _)
  clear hsx hsy hwx hwy hxl hyl hl hz hxy hR
  go_enter Tryd.func43, Tryd.ntmps43
  go_wp2_with fail
  go_loop [8] (fun i => ∃ k : Nat, k ≤ sx.size ∧ i = .int .i64 (k : Int) ∧ withinB x y k = true) (fun i => sx.size - (intOf i).toNat)
  case atStart => exact ⟨0, by omega, rfl, rfl⟩
  case round =>
    obtain ⟨k, hk, rfl, hW⟩ := hrel
    by_cases hlt : k < sx.size
    · have hlt2 : k < sy.size := by have := HX.out.2.2.1; omega
      have hx1 := str_at sx x HX.out.1 k hlt
      have hy1 := str_at sy y HX.out.2.1 k hlt2
      have hd := withinB_succ x y k
      have hbx := u8_eq sx[k] 49 (by decide)
      have hby := u8_eq sy[k] 48 (by decide)
      rw [hx1] at hbx
      rw [hy1] at hby
      change _ = (x.getD k 0 == 49) at hbx
      change _ = (y.getD k 0 == 48) at hby
      rw [← hx1] at hbx
      rw [← hy1] at hby
      rw [hW, Bool.true_and] at hd
      have i0 : (0 : Int) ≤ (k : Int) := by omega
      have i1 : (k : Int) < (sx.size : Int) := by omega
      have i2 : (k : Int) < (sy.size : Int) := by omega
      cases e1 : (x.getD k 0 == 49) with
      | false =>
        rw [hx1, e1, ← hx1] at hbx
        rw [e1, Bool.false_and] at hd
        have HD := Lib.hid hd
        clear hd e1 hby hx1 hy1 hW
        change ((sx[k].toNat : Int) == 49) = false at hbx
        go_wp2_with fail
        go_round
        case rel => exact ⟨k + 1, by omega, by go_num, HD.out⟩
        case measure => simp [intOf]; omega
      | true =>
        rw [hx1, e1, ← hx1] at hbx
        change ((sx[k].toNat : Int) == 49) = true at hbx
        cases e2 : (y.getD k 0 == 48) with
        | false =>
          rw [hy1, e2, ← hy1] at hby
          change ((sy[k].toNat : Int) == 48) = false at hby
          rw [e1, e2] at hd
          have HD := Lib.hid hd
          clear hd e1 e2 hx1 hy1 hW
          go_wp2_with fail
          go_round
          case rel => exact ⟨k + 1, by omega, by go_num, HD.out⟩
          case measure => simp [intOf]; omega
        | true =>
          rw [hy1, e2, ← hy1] at hby
          change ((sy[k].toNat : Int) == 48) = true at hby
          rw [e1, e2] at hd
          have hr : R = false := by
            rw [HX.out.2.2.2]
            cases hw : withinB x y sx.size with
            | false => rfl
            | true =>
              have := withinB_all x y _ (k + 1) (by omega) hw
              rw [hd] at this
              cases this
          have HR := Lib.hid hr
          clear hd e1 e2 hx1 hy1 hW hr
          go_wp2_with fail
          go_ret
          obtain hr := HR.out
          subst hr
          exact ⟨rfl, rfl⟩
    · obtain rfl : k = sx.size := by omega
      have HR := Lib.hid (HX.out.2.2.2.trans hW)
      clear hW
      go_wp2_with fail
      go_ret
      have hr := HR.out
      subst hr
      exact ⟨rfl, rfl⟩
end Go.Proofs.YtlkdpgjbbbaiiaaDoor
