/- Package pattern's inverted, and strings.Map with it, at a row of digits. -/
import Derived.Test.YtoipgliokelcfaaGreatDoorVgCnt
import Derived.WalkLawsBesides
namespace Go.Proofs.YtoipgliokelcfaaGreatDoor
open Go.RowKit

/-- What inverting makes of a rune. -/
def invR (x : Int) : Int := 97 - x
def invB (c : UInt8) : UInt8 := if c = 48 then 49 else 48
theorem map_inv : ∀ long, long < 8 → ∀ n, n < 128 → Lib.mapD invR (digL n long) = (digL n long).map invB := by decide +kernel
/-- The tables of package utf8. -/
abbrev U8T (w : World) : Prop := Lib.Utf8Tabs 2 3 w
theorem U8T.lt {w : World} (h : U8T w) : 2 < w.heap.size ∧ 3 < w.heap.size :=
  ⟨World.block_lt_of_cell? w ⟨_, 0, none⟩ (h.1 0 (by decide)), World.block_lt_of_cell? w ⟨_, 2 * 0, none⟩ (h.2 0 (by decide)).1⟩
theorem U8T.below {w w' : World} {B : Nat} (h : U8T w) (hb : Below B w w') (h1 : 2 < B) (h2 : 3 < B) : U8T w' :=
  ⟨fun c hc => (hb.cell (p := ⟨_, c, none⟩) h1).trans (h.1 c hc), fun i hi => ⟨(hb.cell (p := ⟨_, 2 * i, none⟩) h2).trans (h.2 i hi).1, (hb.cell (p := ⟨_, 2 * i + 1, none⟩) h2).trans (h.2 i hi).2⟩⟩

theorem pinverted_any (x : Nat) (hx : x ≤ 1114111) (W : World) : Calls Tryz.prog 46 #[.int .i32 (x : Int)] W fun e w' => e = .returned (.int .i32 (invR (x : Int))) ∧ Below W.heap.size W w' := by
  have hw : IntKind.i32.wrap (97 - (x : Int)) = 97 - (x : Int) := IntWalk.i32_in _ (by omega)
  go_enter Tryz.func46, Tryz.ntmps46
  go_wp2_with fail
  go_ret
  exact ⟨rfl, Below.refl _ _⟩

/-- The inverted digits. -/
def invL (n long : Nat) : List UInt8 := (digL n long).map invB
theorem pmap_any (n long : Nat) (hl : long < 8) (hn : n < 128) (w : World) (hU : U8T w) : Calls Tryz.prog 45 #[.func (.func 46) #[] #[], .string ⟨(digL n long).toArray⟩] w fun e w' => e = .returned (strV (invL n long)) ∧ Below w.heap.size w w' := by
  have h := Tryz.strings_Map_grows 46 #[] (enters_of Tryz.func46 (by kernel_rfl) rfl) invR ⟨(digL n long).toArray⟩ w (by
    show (digL n long).toArray.size < _
    rw [List.size_toArray, digL_len]
    omega) (fun W x hx _ => pinverted_any x hx W) (fun x hx => by unfold invR; omega) hU
  have e : (⟨(digL n long).toArray⟩ : ByteArray).data.toList = digL n long := by simp
  rw [e, map_inv long hl n hn] at h
  exact h
end Go.Proofs.YtoipgliokelcfaaGreatDoor
