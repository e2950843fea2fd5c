/- Stuck and StuckOf. -/
import Derived.Test.YtoipgliokelcfaaGreatDoorPdB
namespace Go.Proofs.YtoipgliokelcfaaGreatDoor
open Go.RowKit

/-- Bit strings of one length. -/
structure Grid (L : List (List UInt8)) (n m : Nat) : Prop where
  len : L.length = n
  long : ∀ k, k < n → (L.getD k []).length = m
  bits : ∀ k, k < n → (L.getD k []).all bitB = true
  n1 : 1 ≤ n
  n2 : n ≤ 100
  m2 : m ≤ 200
theorem gridL_length (S : List (List UInt8)) (long : Nat) : (turnL S long).length = long := by simp [turnL]
theorem turnL_grid (V : List (List UInt8)) (n : Nat) (h1 : 1 ≤ n) (h2 : n ≤ 100) (hz : V.length ≤ 200) (hb : ∀ s, s ∈ V → s.length = n ∧ s.all bitB = true) : Grid (turnL V n) n V.length := by
  have hat : ∀ k, k < n → (turnL V n).getD k [] = V.map fun s => s.getD k 0 := fun k hk => by
    unfold turnL
    simp [List.getD, hk]
  refine ⟨gridL_length V n, fun k hk => by rw [hat k hk, List.length_map], fun k hk => ?_, h1, h2, hz⟩
  rw [hat k hk, List.all_map, List.all_eq_true]
  intro s hs
  have := hb s hs
  exact bit_atD this.2 k (by omega)

/-- A sequence that has not both values. -/
def stuckB (l : List UInt8) : Bool := !decide (0 ≤ Lib.indexByte l 48) || !decide (0 ≤ Lib.indexByte l 49)
theorem contains_any (s : ByteArray) (c : UInt8) (w : World) : Calls Tryz.prog 87 #[.string s, .string ⟨#[c]⟩] w fun e w' => e = .returned (.bool (decide (0 ≤ Lib.indexByte s.data.toList c))) ∧ w = w' :=
  (Tryz.strings_Contains_one s c w).mono fun _ _ h => ⟨h.1, h.2.symm⟩
theorem isStuck_any (s : ByteArray) (w : World) : Calls Tryz.prog 51 #[.string s] w fun e w' => e = .returned (.bool (stuckB s.data.toList)) ∧ w = w' := by
  have h0 := Tryz.strings_Contains_one s 48 w
  have h1 := Tryz.strings_Contains_one s 49 w
  unfold stuckB
  cases e0 : decide (0 ≤ Lib.indexByte s.data.toList 48) with
  | false =>
    rw [e0] at h0
    clear h1 e0
    go_enter Tryz.func51, Tryz.ntmps51
    go_wp2_with fail
    refine h0.mono ?_
    rintro e w' ⟨rfl, rfl⟩
    clear h0
    go_wp2_with fail
    go_ret
    exact ⟨rfl, rfl⟩
  | true =>
    rw [e0] at h0
    generalize decide (0 ≤ Lib.indexByte s.data.toList 49) = b1 at h1 ⊢
    clear e0
    go_enter Tryz.func51, Tryz.ntmps51
    go_wp2_with fail
    refine h0.mono ?_
    rintro e w' ⟨rfl, rfl⟩
    clear h0
    go_wp2_with fail
    refine h1.mono ?_
    rintro e w' ⟨rfl, rfl⟩
    clear h1
    go_wp2_with fail
    go_ret
    exact ⟨rfl, rfl⟩
/-- The stuck ones of the first k. -/
def stuckTo (L : List (List UInt8)) (k : Nat) : List Nat := (List.range k).filter fun i => stuckB (L.getD i [])
theorem stuckTo_succ (L : List (List UInt8)) (k : Nat) : stuckTo L (k + 1) = if stuckB (L.getD k []) = true then stuckTo L k ++ [k] else stuckTo L k := by
  unfold stuckTo
  rw [List.range_succ, List.filter_append]
  cases h : stuckB (L.getD k []) with
  | true => rw [if_pos rfl, List.filter_cons, h]; rfl
  | false => rw [if_neg (by decide), List.filter_cons, h]; simp
theorem stuckTo_len (L : List (List UInt8)) (k : Nat) : (stuckTo L k).length ≤ k := by
  unfold stuckTo
  have := List.length_filter_le (fun i => stuckB (L.getD i [])) (List.range k)
  simpa using this
theorem nats_snoc {B : Nat} {w : World} {v' : Value} {l : List Nat} (k : Nat) (h : w.ownsRow B 3 1 v' (l.length + 1) (l.map natV ++ [.int .i64 (k : Int)])) : NatsAt B w v' (l ++ [k]) := by
  unfold NatsAt
  rw [List.length_append, List.map_append]
  exact h
theorem nats_open {B : Nat} {w : World} {v : Value} {l : List Nat} (h : NatsAt B w v l) : ∃ a c, v = .slice a l.length c := by
  obtain ⟨-, ⟨e, h0⟩ | ⟨g, cap, cur, e, -⟩⟩ := h
  · exact ⟨none, 0, by rw [e, h0]⟩
  · exact ⟨_, _, e⟩

end Go.Proofs.YtoipgliokelcfaaGreatDoor
