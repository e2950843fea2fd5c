/- Devices in memory; what is wrong with their registers. -/
import Derived.Test.YtkipkkaloiefpaaGreatDoorSeen
import Derived.Test.YtkipkkaloiefpaaGreatDoorKeys
namespace Go.Proofs.YtkipkkaloiefpaaGreatDoor
open Go.RowKit Go.Maps

/-- The first number that is not 0. -/
def firstErr (f : Nat → Int) : Nat → Int
  | 0 => 0
  | n + 1 => if firstErr f n = 0 then f n else firstErr f n
theorem firstErr_at {f : Nat → Int} {k : Nat} (h : firstErr f k = 0) (hk : f k ≠ 0) : ∀ n, k < n → firstErr f n = f k := by
  intro n
  induction n with
  | zero => intro h; omega
  | succ n ih =>
    intro hn
    show (if firstErr f n = 0 then f n else firstErr f n) = f k
    by_cases e : k = n
    · subst e
      rw [if_pos h]
    · rw [ih (by omega), if_neg hk]
theorem firstErr_succ {f : Nat → Int} {k : Nat} (h : firstErr f k = 0) (hk : f k = 0) : firstErr f (k + 1) = 0 := by
  show (if firstErr f k = 0 then f k else firstErr f k) = 0
  rw [if_pos h, hk]

/-- Registers: their number, their names and lengths, at most 10^6 of them. -/
structure Regs where
  n : Nat
  name : Nat → ByteArray
  long : Nat → Int
/-- A slice of registers, in blocks below B. -/
structure RegsAt (B : Nat) (w : World) (a : Option Addr) (r : Regs) : Prop where
  n_le : r.n ≤ 1000
  cells : 0 < r.n → ∃ b off, a = some ⟨b, off, none⟩ ∧ b < B ∧ ∀ k, k < r.n → w.cell? ⟨b, off + k * 2, none⟩ = some (.string (r.name k)) ∧ w.cell? ⟨b, off + k * 2 + 1, none⟩ = some (.int .i64 (r.long k)) ∧ (r.name k).size ≤ 1048576

theorem RegsAt.below {B B' : Nat} {w w' : World} {a : Option Addr} {r : Regs} (h : RegsAt B w a r) (hb : Below B' w w') (hB : B ≤ B') : RegsAt B w' a r := by
  refine ⟨h.n_le, fun h0 => ?_⟩
  obtain ⟨b, off, e, hlt, hc⟩ := h.cells h0
  refine ⟨b, off, e, hlt, fun k hk => ?_⟩
  obtain ⟨h1, h2, h3⟩ := hc k hk
  exact ⟨(hb.cell (p := ⟨b, off + k * 2, none⟩) (by show b < B'; omega)).trans h1, (hb.cell (p := ⟨b, off + k * 2 + 1, none⟩) (by show b < B'; omega)).trans h2, h3⟩

abbrev bypassS : ByteArray := ⟨#[98, 121, 112, 97, 115, 115]⟩
abbrev idcodeS : ByteArray := ⟨#[105, 100, 99, 111, 100, 101]⟩
/-- The names that no register has. -/
def ownL : List (List UInt8) := [idcodeS.data.toList, bypassS.data.toList]

/-- The names that were given before a register's. -/
def before (xs : Nat → ByteArray) (l : List (List UInt8)) : Nat → List (List UInt8)
  | 0 => l
  | k + 1 => (xs k).data.toList :: before xs l k
theorem before_length (xs : Nat → ByteArray) (l : List (List UInt8)) (k : Nat) : (before xs l k).length = l.length + k := by
  induction k with
  | zero => rfl
  | succ k ih => simp [before, ih]; omega

/-- What is wrong with a register. -/
def regErr (r : Regs) (k : Nat) : Int :=
  if keyS (r.name k) = false then 5 else if (before r.name ownL k).contains (r.name k).data.toList = true then 6 else if inB (r.long k) 1 1000 = false then 1 else 0

theorem checkRegisters_any (w : World) (a : Option Addr) (cap : Nat) (r : Regs) (h : RegsAt w.heap.size w a r) :
    Calls Tryz.prog 96 #[.slice a r.n cap] w fun e w' => e = .returned (.int .i64 (firstErr (regErr r) r.n)) ∧ Below w.heap.size w w' := by
  have hn := h.n_le
  go_enter Tryz.func96, Tryz.ntmps96
  go_wp2_with fail
  refine (newStrings_any _ (some ⟨w.heap.size, 0, none⟩) 2 2 (fun k => if k = 0 then bypassS else idcodeS) (by decide) (fun _ => ⟨_, _, rfl, fun k hk => ?_⟩)).mono ?_
  · have hk' : k = 0 ∨ k = 1 := by omega
    rcases hk' with rfl | rfl
    · exact ⟨World.cell?_alloc_at _ _ _ _ rfl, by decide⟩
    · exact ⟨World.cell?_alloc_at _ _ _ _ rfl, by decide⟩
  rintro e w1 ⟨rfl, hS, hB⟩
  have hB1 : Below w.heap.size w w1 := ((Below.refl _ w).alloc (Nat.le_refl _) _).trans (hB.mono (by simp))
  have hsz1 : ∀ o : Obj, (w.alloc o).heap.size = w.heap.size + 1 := fun o => by simp
  rw [hsz1] at hS
  have hS1 : Seen w1 (w.heap.size + 1 + 1) (w.heap.size + 1) (before r.name ownL 0) := hS
  clear hS hB hsz1
  have hlt := hS1.lt
  go_wp2_with fail
  go_loopw [5, 10] (fun _ i wr => ∃ k : Nat, k ≤ r.n ∧ i = .int .i64 (k : Int) ∧ firstErr (regErr r) k = 0 ∧ Seen wr (w.heap.size + 1 + 1) (w.heap.size + 1) (before r.name ownL k) ∧ Below w.heap.size w wr) (fun _ i _ => r.n - (intOf i).toNat)
  case atStart => exact ⟨0, by omega, rfl, rfl, hS1, hB1⟩
  case round =>
    obtain ⟨k, hk, rfl, hE, hS, hB⟩ := hrel
    clear hS1 hB1
    by_cases hlt : k < r.n
    · have hrr := h.below hB (Nat.le_refl _)
      obtain ⟨b, off, rfl, hbB, hcells⟩ := hrr.cells (by omega)
      obtain ⟨hc1, hc2, hsz⟩ := hcells k hlt
      clear hcells hrr
      have hlS := hS.lt
      have hkey := fun W => isKey_any (r.name k) W hsz
      have hBa := fun o => hB.alloc hB.size o
      have hnew := isNew_any (wr.alloc (.cells #[.string (r.name k), .int .i64 (r.long k)] 50)) _ _ _ (r.name k) hsz (by rw [before_length]; simp [ownL]; omega) (hS.alloc _)
      have hlong : Hid (regErr r k = if keyS (r.name k) = false then 5 else if (before r.name ownL k).contains (r.name k).data.toList = true then 6 else if inB (r.long k) 1 1000 = false then 1 else 0) := Lib.hid rfl
      have hend := fun (e : Int) (he : regErr r k = e) (h0 : e ≠ 0) => (firstErr_at hE (by rw [he]; exact h0) r.n hlt).trans he
      have hgo := fun (he : regErr r k = 0) => firstErr_succ hE he
      have hSn : before r.name ownL (k + 1) = (r.name k).data.toList :: before r.name ownL k := rfl
      rw [← hSn] at hnew
      clear hSn h hS hE
      generalize (before r.name ownL k).contains (r.name k).data.toList = ct at hnew hlong
      cases hk1 : keyS (r.name k) with
      | false =>
        have hfin := Lib.hid (hend 5 (by rw [hlong.out, if_pos hk1]) (by decide))
        rw [hk1] at hkey
        clear hend hgo hlong hnew hk1
        go_wp2_with fail
        refine (hkey _).mono ?_
        rintro e w' ⟨rfl, rfl⟩
        go_wp2_with fail
        go_ret
        exact ⟨ret_int hfin.out.symm, hBa _⟩
      | true =>
        have hk1' : ¬ keyS (r.name k) = false := by rw [hk1]; decide
        rw [hk1] at hkey
        clear hk1
        cases ct with
        | true =>
          have hfin := Lib.hid (hend 6 (by rw [hlong.out, if_neg hk1', if_pos rfl]) (by decide))
          clear hend hgo hlong hk1'
          go_wp2_with fail
          refine (hkey _).mono ?_
          rintro e w' ⟨rfl, rfl⟩
          go_wp2_with fail
          refine hnew.mono ?_
          rintro e w2 ⟨rfl, hS2, hg2⟩
          go_wp2_with fail
          go_ret
          exact ⟨ret_int hfin.out.symm, (hBa _).grown hg2 (by simp; omega) (fun k hk => by cases hk; omega)⟩
        | false =>
          have hct : ¬ false = true := by decide
          have hl2 : ∀ w2, (wr.alloc (.cells #[.string (r.name k), .int .i64 (r.long k)] 50)).grownBy w2 (some (w.heap.size + 1)) → w2.cell? ⟨wr.heap.size, 1, none⟩ = some (.int .i64 (r.long k)) := fun w2 hg => hg.cell (a := ⟨wr.heap.size, 1, none⟩) (World.cell?_alloc_at _ _ _ _ rfl) (fun e => by have := Option.some.inj e; simp at this; omega)
          cases hi : inB (r.long k) 1 1000 with
          | false =>
            have hfin := Lib.hid (hend 1 (by rw [hlong.out, if_neg hk1', if_neg hct, if_pos hi]) (by decide))
            clear hend hgo hlong hk1'
            have hr : r.long k < 1 ∨ 1000 < r.long k := by simp [inB] at hi; omega
            clear hi
            go_wp2_with fail
            refine (hkey _).mono ?_
            rintro e w' ⟨rfl, rfl⟩
            go_wp2_with fail
            refine hnew.mono ?_
            rintro e w2 ⟨rfl, hS2, hg2⟩
            have hl := hl2 w2 hg2
            clear hl2
            rcases hr with hr | hr
            · go_wp2_with fail
              go_ret
              exact ⟨ret_int hfin.out.symm, (hBa _).grown hg2 (by simp; omega) (fun k hk => by cases hk; omega)⟩
            · go_wp2_with fail
              go_ret
              exact ⟨ret_int hfin.out.symm, (hBa _).grown hg2 (by simp; omega) (fun k hk => by cases hk; omega)⟩
          | true =>
            have hnx := hgo (by rw [hlong.out, if_neg hk1', if_neg hct, if_neg (by rw [hi]; decide)])
            clear hend hgo hlong hk1'
            have hr : 1 ≤ r.long k ∧ r.long k ≤ 1000 := by simp [inB] at hi; omega
            obtain ⟨hr1, hr2⟩ := hr
            clear hi
            have hH := Lib.hid hnx
            clear hnx
            go_wp2_with fail
            refine (hkey _).mono ?_
            rintro e w' ⟨rfl, rfl⟩
            go_wp2_with fail
            refine hnew.mono ?_
            rintro e w2 ⟨rfl, hS2, hg2⟩
            have hl := hl2 w2 hg2
            clear hl2
            go_wp2_with fail
            go_roundw
            case rel => exact ⟨k + 1, by omega, by go_num, hH.out, hS2, (hBa _).grown hg2 (by simp; omega) (fun k hk => by cases hk; omega)⟩
            case measure => simp [intOf]; omega
    · obtain rfl : k = r.n := by omega
      clear h
      go_wp2
      go_ret
      exact ⟨ret_int hE.symm, hB⟩
end Go.Proofs.YtkipkkaloiefpaaGreatDoor
