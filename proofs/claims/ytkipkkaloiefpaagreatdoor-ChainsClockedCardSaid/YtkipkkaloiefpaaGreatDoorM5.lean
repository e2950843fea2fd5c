/- The program's idcodeOf. -/
import Derived.Test.YtkipkkaloiefpaaGreatDoorM1
import Derived.Test.YtkipkkaloiefpaaGreatDoorWalkOf
import Derived.Shelf.Strings.Builder1
import Derived.Shelf.Strings.Builder2
import Derived.Shelf.Strings.Trim
import Derived.Shelf.Small.Utf8
import Derived.Shelf.Small.Strs
import Derived.Shelf.Strings.BuilderF
import Derived.Shelf.Strings.BuilderK
import Derived.Shelf.Strconv.Itoa0
import Derived.Shelf.Strconv.Itoa1
import Derived.Shelf.LaysM
import Derived.Shelf.Strconv.Itoa2
import Derived.Shelf.Strconv.Itoa3
import Derived.Shelf.Strconv.Itoa4
import Derived.Shelf.Strings.Search1
import Derived.Shelf.Strings.Search2
import Derived.Shelf.Strings.Search3
import Derived.Shelf.Strings.Shaped
import Derived.Shelf.Strings.Prefix
import Derived.Shelf.Strings.Runes
import Derived.Shelf.Strings.AsciiSet
import Derived.Shelf.Bits.Mul64
import Derived.Shelf.Strings.Repeat
import Derived.Shelf.Unicode.DecodeSlow
import Derived.Shelf.Unicode.DecodeAny
import Derived.Test.YtkipkkaloiefpaaGreatDoorProg
import Derived.Test.YtkipkkaloiefpaaGreatDoorKeys
import Derived.Deep.RegionWith
import Derived.Deep.RegionLaw
import Derived.Deep.AppendLies
import Derived.Test.YtkipkkaloiefpaaGreatDoorNewQ
import Derived.Test.YtkipkkaloiefpaaGreatDoorM3
import Derived.Test.YtkipkkaloiefpaaGreatDoorStep
namespace Go.Proofs.YtkipkkaloiefpaaGreatDoor
open Go.RowKit

def bitN (c : UInt8) : Nat := if c = 49 then 1 else 0
/-- The number with these bits, the one of value 1 first. -/
def codeN : List UInt8 → Nat
  | [] => 0
  | c :: l => bitN c + 2 * codeN l
theorem codeN_snoc (l : List UInt8) (c : UInt8) : codeN (l ++ [c]) = codeN l + bitN c * 2 ^ l.length := by
  induction l with
  | nil => simp [codeN]
  | cons d l ih =>
    show bitN d + 2 * codeN (l ++ [c]) = bitN d + 2 * codeN l + bitN c * 2 ^ (l.length + 1)
    rw [ih, Nat.pow_succ]
    have : bitN c * (2 ^ l.length * 2) = 2 * (bitN c * 2 ^ l.length) := by rw [← Nat.mul_assoc, Nat.mul_comm]
    omega
theorem codeN_lt (l : List UInt8) : codeN l < 2 ^ l.length := by
  induction l with
  | nil => decide
  | cons d l ih =>
    show bitN d + 2 * codeN l < 2 ^ (l.length + 1)
    rw [Nat.pow_succ]
    have : bitN d ≤ 1 := by unfold bitN; split <;> omega
    omega

theorem bits_or_nat (a b : Nat) (ha : a < 4294967296) (hb : b < 4294967296) : bits .or .i64 (a : Int) (b : Int) = ((a ||| b : Nat) : Int) := by
  have hab : a ||| b < 2 ^ 32 := Nat.or_lt_two_pow (by omega) (by omega)
  have h1 : (BitVec.ofInt 64 (a : Int)).toNat = a := by
    rw [BitVec.ofInt_natCast, BitVec.toNat_ofNat]; exact Nat.mod_eq_of_lt (by omega)
  have h2 : (BitVec.ofInt 64 (b : Int)).toNat = b := by
    rw [BitVec.ofInt_natCast, BitVec.toNat_ofNat]; exact Nat.mod_eq_of_lt (by omega)
  show IntKind.i64.wrap ((BitVec.ofInt 64 (a : Int) ||| BitVec.ofInt 64 (b : Int)).toNat : Int) = _
  rw [BitVec.toNat_or, h1, h2, IntKind.wrap_i64]
  generalize a ||| b = z at hab ⊢
  omega
theorem or_add (v k b : Nat) (hv : v < 2 ^ k) (hb : b ≤ 1) : v ||| b * 2 ^ k = v + b * 2 ^ k := by
  have h : b = 0 ∨ b = 1 := by omega
  rcases h with rfl | rfl
  · simp
  · rw [Nat.one_mul, Nat.or_comm, Nat.add_comm]
    have := Nat.two_pow_add_eq_or_of_lt hv 1
    simpa using this.symm
/-- A bit more, by the program's way. -/
theorem or_step (v k : Nat) (c : UInt8) (hv : v < 2 ^ k) (hk : k < 32) (hc : c = 48 ∨ c = 49) : bits .or .i64 (v : Int) (wrap64 (((c.toNat : Int) - 48) % 256 * 2 ^ k)) = ((v + bitN c * 2 ^ k : Nat) : Int) := by
  have hp : 2 ^ k ≤ 2 ^ 31 := Nat.pow_le_pow_right (by decide) (by omega)
  have hv2 : v < 4294967296 := by omega
  have hcast : ((2 : Int) ^ k) = ((2 ^ k : Nat) : Int) := by simp
  rw [hcast]
  have hb : bitN c ≤ 1 := by unfold bitN; split <;> omega
  rw [← or_add v k (bitN c) hv hb]
  generalize 2 ^ k = q at hp hv
  have he : wrap64 (((c.toNat : Int) - 48) % 256 * (q : Int)) = ((bitN c * q : Nat) : Int) := by
    rcases hc with rfl | rfl
    · show wrap64 (0 % 256 * (q : Int)) = ((0 * q : Nat) : Int)
      rw [Nat.zero_mul]
      unfold wrap64
      omega
    · show wrap64 (1 % 256 * (q : Int)) = ((1 * q : Nat) : Int)
      rw [Nat.one_mul]
      unfold wrap64
      omega
  rw [he]
  refine bits_or_nat _ _ hv2 ?_
  have : bitN c * q ≤ 1 * q := Nat.mul_le_mul_right _ hb
  omega

theorem all_of_take (s : ByteArray) : s.data.toList.take s.size = s.data.toList := List.take_of_length_le (by simp)

end Go.Proofs.YtkipkkaloiefpaaGreatDoor
/- The program's Identify. -/
namespace Go.Proofs.YtkipkkaloiefpaaGreatDoor
open Go.RowKit

/-- What is identified: the error, the place, the idcodes. -/
def idF : Nat → List UInt8 → List Int → Nat → Int × Nat × List Int
  | 0, _, _, _ => (8, 0, [])
  | f + 1, rest, ids, n =>
    if rest = [] then (8, 0, [])
    else if rest.headD 0 = 48 then idF f (rest.drop 1) (ids ++ [0]) (n + 1)
    else if rest.length < 32 then (9, 0, [])
    else if decide (0 ≤ Lib.indexByte (rest.take 32) 48) = false then (if 20 < ids.length then (2, 0, []) else (0, n, ids))
    else idF f (rest.drop 32) (ids ++ [(codeN (rest.take 32) : Int)]) (n + 32)

/-- Of bits, the whole. -/
def idOf (s : ByteArray) : Int × Nat × List Int := if clockErr s = 0 then idF (s.size + 1) s.data.toList [] 0 else (clockErr s, 0, [])

theorem row_shape {w : World} {base : Nat} {e : TypeId} {size n : Nat} {v : Value} {xs : List Value} (h : w.ownsRow base e size v n xs) : ∃ a cap, v = .slice a n cap := by
  obtain ⟨_, ⟨rfl, rfl⟩ | ⟨g, cap, cur, rfl, _⟩⟩ := h
  · exact ⟨none, 0, rfl⟩
  · exact ⟨_, cap, rfl⟩
theorem extract_bytes (s : ByteArray) (a b : Nat) : (s.extract a b).data.toList = (s.data.toList.drop a).take (b - a) := by
  have := Go.Lib.extract_data s a b
  exact this
theorem drop_head (s : ByteArray) (k : Nat) (h : k < s.size) : s.data.toList.drop k = s[k] :: s.data.toList.drop (k + 1) := by
  rw [List.drop_eq_getElem_cons (by simpa using h)]
  rfl

end Go.Proofs.YtkipkkaloiefpaaGreatDoor
/- The contracts of the library's functions that the proofs of this seat use, as the shelf lays them at this translation. -/
namespace Go.Proofs
open Go.Shelf
def Tryz.lays99_ren : Go.Shelf.Ren := ⟨fun | 99 => 51 | 206 => 91 | n => n, fun | 9 => 9 | 4 => 4 | 3 => 3 | n => n, fun | n => n⟩
theorem Tryz.lays99 : Go.Proofs.Lays.n99 Tryz.prog Tryz.lays99_ren := {
  mixed := by kernel_rfl
  f99 := Tryz.func51.trans (congrArg some (by kernel_rfl))
  f206 := Tryz.func91.trans (congrArg some (by kernel_rfl))
  t3 := Tryz.underlying3
  a3 := Tryz.isAgg3
  z3 := Tryz.sizeOf3
  v3 := Tryz.zeroValue3
  t4 := Tryz.underlying4
  a4 := Tryz.isAgg4
  z4 := Tryz.sizeOf4
  v4 := Tryz.zeroValue4
  t9 := Tryz.underlying9
  a9 := Tryz.isAgg9
  z9 := Tryz.sizeOf9
  v9 := Tryz.zeroValue9 }
open Go.RowKit Go.Lib in
theorem Tryz.strings_HasPrefix (s p : ByteArray) (w : World) :
    Calls Tryz.prog 51 #[.string s, .string p] w fun e w' => e = .returned (.bool (Lib.hasPrefix s.data.toList p.data.toList)) ∧ w' = w := Any.strings_HasPrefix Tryz.lays99 s p w
end Go.Proofs
/- The reference's IdentifiedBy. -/
namespace Go.Proofs.YtkipkkaloiefpaaGreatDoor
open Go.RowKit

theorem row_below {w w' : World} {base e n : Nat} {v : Value} {xs : List Value} (h : w.ownsRow base e 1 v n xs) (hb : Below w.heap.size w w') : w'.ownsRow base e 1 v n xs := by
  obtain ⟨hl, h2⟩ := h
  refine ⟨hl, ?_⟩
  rcases h2 with h2 | ⟨g, cap, cur, hv, hg, hh, r⟩
  · exact .inl h2
  · exact .inr ⟨g, cap, cur, hv, hg, by rw [hb.block g (Array.getElem?_eq_some_iff.1 hh).1]; exact hh, r⟩
theorem add_step (v k : Nat) (c : UInt8) (hv : v < 2 ^ k) (hk : k < 32) (hc : c = 48 ∨ c = 49) : wrap64 ((v : Int) + wrap64 (((c.toNat : Int) - 48) % 256 * 2 ^ k)) = ((v + bitN c * 2 ^ k : Nat) : Int) := by
  have hp : 2 ^ k ≤ 2 ^ 31 := Nat.pow_le_pow_right (by decide) (by omega)
  have hcast : ((2 : Int) ^ k) = ((2 ^ k : Nat) : Int) := by simp
  rw [hcast]
  generalize 2 ^ k = q at hp hv
  rcases hc with rfl | rfl
  · show wrap64 ((v : Int) + wrap64 (0 % 256 * (q : Int))) = ((v + 0 * q : Nat) : Int)
    rw [Nat.zero_mul]
    unfold wrap64
    omega
  · show wrap64 ((v : Int) + wrap64 (1 % 256 * (q : Int))) = ((v + 1 * q : Nat) : Int)
    rw [Nat.one_mul]
    unfold wrap64
    omega
abbrev ones32 : ByteArray := ⟨(Lib.repeatL [49] 32).toArray⟩
theorem prefix_ones : ∀ (n : Nat) (l : List UInt8), l.all bitB = true → (Lib.repeatL [49] n).isPrefixOf l = (decide (n ≤ l.length) && !decide (0 ≤ Lib.indexByte (l.take n) 48))
  | 0, l, _ => by
    rw [List.take_zero]
    rfl
  | n + 1, [], _ => rfl
  | n + 1, c :: l, h => by
    rw [List.all_cons, Bool.and_eq_true] at h
    have ih := prefix_ones n l h.2
    show ((49 : UInt8) == c && (Lib.repeatL [49] n).isPrefixOf l) = (decide (n + 1 ≤ l.length + 1) && !decide (0 ≤ (if c == 48 then 0 else if Lib.indexByte (l.take n) 48 == -1 then -1 else Lib.indexByte (l.take n) 48 + 1)))
    have hc : c = 48 ∨ c = 49 := by simpa [bitB] using h.1
    have hn : decide (n + 1 ≤ l.length + 1) = decide (n ≤ l.length) := by simp
    rw [hn, ih]
    have hge := Lib.indexByte_ge (l.take n) 48
    generalize Lib.indexByte (l.take n) 48 = x at hge ⊢
    rcases hc with rfl | rfl
    · simp
    · by_cases hx : x = -1
      · subst hx
        simp
      · have h0 : 0 ≤ x := by omega
        have h1 : 0 ≤ x + 1 := by omega
        simp [hx, h0, h1]
theorem first_zero {l : List UInt8} (h0 : l ≠ []) (h : l.headD 0 = 48) : decide (0 ≤ Lib.indexByte (l.take 32) 48) = true := by
  cases l with
  | nil => exact absurd rfl h0
  | cons c t =>
    have : c = 48 := h
    subst this
    rfl
theorem prefix_is (l : List UInt8) (hb : l.all bitB = true) : Lib.hasPrefix l ones32.data.toList = (decide (32 ≤ l.length) && !decide (0 ≤ Lib.indexByte (l.take 32) 48)) := prefix_ones 32 l hb

end Go.Proofs.YtkipkkaloiefpaaGreatDoor
/- A new chain. -/
namespace Go.Proofs.YtkipkkaloiefpaaGreatDoor
open Go.RowKit Go.Maps

theorem Tryz.infoPort : (Tryz.prog.info? 63).map (fun i => (i.zero, i.size, i.bytes)) = some (some (.pointer none), 1, 8) := by kernel_rfl
theorem info_ptr {T : TypeId} (h : (Tryz.prog.info? T).map (fun i => (i.zero, i.size, i.bytes)) = some (some (.pointer none), 1, 8)) : ∃ i, Tryz.prog.info? T = some i ∧ i.zero = some (.pointer none) ∧ i.size = 1 ∧ i.bytes = 8 := by
  cases hi : Tryz.prog.info? T with
  | none => rw [hi] at h; simp at h
  | some i =>
    rw [hi] at h
    simp at h
    exact ⟨i, rfl, h.1, h.2.1, h.2.2⟩

/-- The pointers to the first k ports. -/
def ptrL (pbs : Nat → Nat) (k : Nat) : List Value := (List.range k).map fun j => .pointer (some ⟨pbs j, 0, none⟩)
theorem ptrL_succ (pbs : Nat → Nat) (k : Nat) : ptrL pbs (k + 1) = ptrL pbs k ++ [.pointer (some ⟨pbs k, 0, none⟩)] := by
  unfold ptrL
  rw [List.range_succ, List.map_append]
  rfl
theorem ptrL_congr {f g : Nat → Nat} {k : Nat} (h : ∀ j, j < k → f j = g j) : ptrL f k = ptrL g k := by
  unfold ptrL
  apply List.map_congr_left
  intro j hj
  rw [h j (List.mem_range.1 hj)]
theorem byM_congr (dev : Nat → Dev) {f g : Nat → Nat} : ∀ k, (∀ j, j < k → f j = g j) → byM dev f k = byM dev g k
  | 0, _ => rfl
  | k + 1, h => by
    show putL (byM dev f k) _ (.int .i64 (f k : Int)) = putL (byM dev g k) _ (.int .i64 (g k : Int))
    rw [byM_congr dev k (fun j hj => h j (by omega)), h k (by omega)]

theorem PortAt.over' {o o' : Nat → Nat} {j N : Nat} {w w' : World} {pb : Nat} {d : Dev} {p : PS} (h : PortAt o j N w pb d p) (ho : ∀ b, b < w.heap.size → o b = j → o' b = j) (hT : ∀ b, b < w.heap.size → o b = j → w'.heap[b]? = w.heap[b]?) : PortAt o' j N w' pb d p := by
  obtain ⟨m1, m3, m4, bb, h⟩ := h
  have h1 := h.kept hT
  obtain ⟨l1, l2, l3, l4, l5⟩ := h.lt
  obtain ⟨o1, o2, o3, o4, o5⟩ := h.own
  exact ⟨m1, m3, m4, bb, { h1 with own := ⟨ho _ l1 o1, ho _ l2 o2, ho _ l3 o3, ho _ l4 o4, ho _ l5 o5⟩ }⟩

/-- A chain that is being made: it has k ports of n. Blocks below B were there before it. -/
def NewI (B n : Nat) (w : World) (cb mb : Nat) (dev : Nat → Dev) (k : Nat) (W : World) : Prop :=
  ∃ (o : Nat → Nat) (v : Value) (pbs : Nat → Nat), (∀ b, b < B → o b = n + 1) ∧ o cb = n ∧ o mb = n ∧ (∀ g, v.ownBlock = some g → o g = n) ∧
    W.cell? ⟨cb, 0, none⟩ = some (.int .i64 0) ∧ W.cell? ⟨cb, 1, none⟩ = some v ∧ W.cell? ⟨cb, 2, none⟩ = some (.map (some mb)) ∧ (∀ j, j < 3 → W.frozen? ⟨cb, j, none⟩ = false) ∧
    W.ownsRow (cb + 1) 63 1 v k (ptrL pbs k) ∧ LMap Tryz.prog 9 ptrR W mb k (byM dev pbs k) ∧
    (∀ j, j < k → PortAt o j 100 W (pbs j) (dev j) (newPS (dev j))) ∧ Below B w W

theorem LMap.update_run {P : Program} {k e : TypeId} {R : Value → Option (DataW Unit × List MemPlace)} {w : World} {b n : Nat} {M : Lit → Option Lit} (h : LMap P k R w b n M) (K : Keyed P k) {t : TypeId} (ht : P.underlying t = some (.map k e)) (hn : n < 1000000) (key : Value) (kl : Lit) (hkey : keyOf P k key = some kl) (l : Lit) (val : Value) (hl : R val = some (.lit l, [])) :
    ∃ w', (Instr.mapUpdate t (.map (some b)) key val).run P w = .ok () w' ∧ LMap P k R w' b (n + 1) (putL M kl l) ∧ w.grownBy w' (some b) := by
  obtain ⟨D, h1, h2, h3⟩ := h
  obtain ⟨w', hrun, r1, r2⟩ := h1.update K ht (by unfold maxLen; omega) hkey hl
  exact ⟨w', hrun, ⟨_, r1, h2.put _ _, LMap.put_data h2 h3 _ (K.key hkey) _⟩, r2⟩

/-- The tale of blocks, gone on: what lies from s1 to s2 is k's, what lies behind is n's. -/
def tale3 (o : Nat → Nat) (s1 s2 k n b : Nat) : Nat := if b < s1 then o b else if b < s2 then k else n
theorem tale_lo {o : Nat → Nat} {s1 s2 k n b : Nat} (h : b < s1) : tale3 o s1 s2 k n b = o b := if_pos h
theorem tale_mid {o : Nat → Nat} {s1 s2 k n b : Nat} (h1 : s1 ≤ b) (h2 : b < s2) : tale3 o s1 s2 k n b = k := (if_neg (by omega)).trans (if_pos h2)
theorem tale_hi {o : Nat → Nat} {s1 s2 k n b : Nat} (h1 : s1 ≤ b) (h2 : s2 ≤ b) : tale3 o s1 s2 k n b = n := (if_neg (by omega)).trans (if_neg (by omega))
def setAt (f : Nat → Nat) (k x j : Nat) : Nat := if j = k then x else f j

/-- A port more. -/
theorem NewI.step {B n : Nat} {w W W2 W3 : World} {cb mb k : Nat} {dev : Nat → Dev} {o : Nat → Nat} {v : Value} {pbs : Nat → Nat} {pb g cap : Nat} (hk : k < n) (hBcb : B ≤ cb)
    (ho : ∀ b, b < B → o b = n + 1) (hcb : o cb = n) (hmb : o mb = n) (hv : ∀ g, v.ownBlock = some g → o g = n) (hcl : cb < W.heap.size) (hml : mb < W.heap.size) (hvl : ∀ g, v.ownBlock = some g → g < W.heap.size)
    (hports : ∀ j, j < k → PortAt o j 100 W (pbs j) (dev j) (newPS (dev j))) (hB2 : Below W.heap.size W W2) (hpb : ∀ o j, (∀ b, W.heap.size ≤ b → o b = j) → PortAt o j 100 W2 pb (dev k) (newPS (dev k))) 
    (hT : ∀ b, b < W2.heap.size → b ≠ cb → b ≠ mb → some b ≠ v.ownBlock → W3.heap[b]? = W2.heap[b]?) (hg : v.ownBlock = some g ∨ W2.heap.size ≤ g)
    (c0 : W3.cell? ⟨cb, 0, none⟩ = some (.int .i64 0)) (c1 : W3.cell? ⟨cb, 1, none⟩ = some (.slice (some ⟨g, 0, none⟩) (k + 1) cap)) (c2 : W3.cell? ⟨cb, 2, none⟩ = some (.map (some mb))) (fr : ∀ j, j < 3 → W3.frozen? ⟨cb, j, none⟩ = false)
    (hrow : W3.ownsRow (cb + 1) 63 1 (.slice (some ⟨g, 0, none⟩) (k + 1) cap) (k + 1) (ptrL pbs k ++ [.pointer (some ⟨pb, 0, none⟩)])) (hmap : LMap Tryz.prog 9 ptrR W3 mb (k + 1) (putL (byM dev pbs k) (.string (dev k).name.data.toList) (.int .i64 (pb : Int)))) (hB3 : Below B w W3) :
    NewI B n w cb mb dev (k + 1) W3 := by
  have hWW2 := hB2.size
  have e1 : ∀ j, j < k → setAt pbs k pb j = pbs j := fun j hj => if_neg (by omega)
  have e2 : setAt pbs k pb k = pb := if_pos rfl
  refine ⟨tale3 o W.heap.size W2.heap.size k n, .slice (some ⟨g, 0, none⟩) (k + 1) cap, setAt pbs k pb, fun b hb => ?_, ?_, ?_, fun g' hg' => ?_, c0, c1, c2, fr, ?_, ?_, fun j hj => ?_, hB3⟩
  · rw [tale_lo (by omega)]
    exact ho b hb
  · rw [tale_lo hcl]
    exact hcb
  · rw [tale_lo hml]
    exact hmb
  · have hg'' : g = g' := by simpa [Value.ownBlock] using hg'
    subst hg''
    rcases hg with hg | hg
    · rw [tale_lo (hvl g hg)]
      exact hv g hg
    · rw [tale_hi (by omega) (by omega)]
  · rw [ptrL_succ, ptrL_congr e1, e2]
    exact hrow
  · show LMap Tryz.prog 9 ptrR W3 mb (k + 1) (putL (byM dev (setAt pbs k pb) k) (.string (dev k).name.data.toList) (.int .i64 (setAt pbs k pb k : Int)))
    rw [byM_congr dev k e1, e2]
    exact hmap
  · have hkeep : ∀ b, b < W2.heap.size → tale3 o W.heap.size W2.heap.size k n b < n → W3.heap[b]? = W2.heap[b]? := by
      intro b hb hob
      refine hT b hb (fun e => ?_) (fun e => ?_) (fun e => ?_)
      · rw [e, tale_lo hcl, hcb] at hob
        omega
      · rw [e, tale_lo hml, hmb] at hob
        omega
      · have := hv b e.symm
        rw [tale_lo (hvl b e.symm), this] at hob
        omega
    by_cases e : j = k
    · subst e
      have h1 : PortAt (fun b => if b < W.heap.size then n else j) j 100 W2 pb (dev j) (newPS (dev j)) := hpb _ _ (fun b hb => if_neg (by omega))
      rw [e2]
      refine h1.over' (fun b hb e => ?_) (fun b hb e => ?_)
      · by_cases h5 : b < W.heap.size
        · have : n = j := (if_pos h5).symm.trans e
          omega
        · exact tale_mid (by omega) hb
      · by_cases h5 : b < W.heap.size
        · have : n = j := (if_pos h5).symm.trans e
          omega
        · exact hkeep b hb (by rw [tale_mid (by omega) hb]; exact hk)
    · rw [e1 j (by omega)]
      refine (hports j (by omega)).over' (fun b hb eb => ?_) (fun b hb eb => ?_)
      · rw [tale_lo hb]
        exact eb
      · refine (hkeep b (by omega) ?_).trans (hB2.block b hb)
        rw [tale_lo hb, eb]
        omega

theorem row_block {w w' : World} {base e n : Nat} {v : Value} {xs : List Value} (h : w.ownsRow base e 1 v n xs) (hb : ∀ g, v.ownBlock = some g → w'.heap[g]? = w.heap[g]?) : w'.ownsRow base e 1 v n xs := by
  obtain ⟨hl, h2⟩ := h
  refine ⟨hl, ?_⟩
  rcases h2 with h2 | ⟨g, cap, cur, rfl, hg, hh, r⟩
  · exact .inl h2
  · exact .inr ⟨g, cap, cur, rfl, hg, by rw [hb g rfl]; exact hh, r⟩

set_option maxRecDepth 100000 in
theorem new_err (r : Devs) (w : World) (a : Option Addr) (cap : Nat) (h : DevsAt w.heap.size w a r) (he : devsErr r ≠ 0) :
    Calls Tryz.prog 5 #[.slice a r.n cap] w fun e w' => e = .returned (.tuple #[.pointer none, .int .i64 (devsErr r)]) ∧ Below w.heap.size w w' := by
  have hcon := checkDevices_any w a cap r h
  have hne : (devsErr r != 0) = true := by simpa using he
  generalize devsErr r = ec at hcon hne ⊢
  clear h he
  go_enter Tryz.func5, Tryz.ntmps5
  go_wp2_with fail
  refine hcon.mono ?_
  rintro e w1 ⟨rfl, hB⟩
  go_wp2_with fail
  go_ret2
  exact ⟨rfl, hB⟩

set_option maxRecDepth 100000 in
theorem new_ok (r : Devs) (w : World) (a : Option Addr) (cap : Nat) (h : DevsAt w.heap.size w a r) (he : devsErr r = 0) :
    Calls Tryz.prog 5 #[.slice a r.n cap] w fun e w' => ∃ o cb g cp mb pbs, e = .returned (.tuple #[.pointer (some ⟨cb, 0, none⟩), .int .i64 0]) ∧ Below w.heap.size w w' ∧ (∀ b, b < w.heap.size → o b = r.n + 1) ∧ ChainAt o r.n 100 w' cb g cp mb pbs 0 r.dev (fun k => newPS (r.dev k)) := by
  obtain ⟨⟨hn1, hn20⟩, hsure⟩ := devs_sure h he
  have hcon := checkDevices_any w a cap r h
  rw [he] at hcon
  obtain ⟨i0, hi, hz0, hz1, hz2⟩ := info_ptr Tryz.infoPort
  have hmm := @run_makeMap Tryz.prog
  have hn0 : (0 : Int) < (r.n : Int) := by omega
  go_enter Tryz.func5, Tryz.ntmps5
  go_wp2_with fail
  refine hcon.mono ?_
  rintro e w1 ⟨rfl, hB1⟩
  clear hcon
  go_wp2_with fail
  have hsz1 := hB1.size
  obtain ⟨mb, hmb⟩ : ∃ mb, mb = w1.heap.size := ⟨_, rfl⟩
  obtain ⟨cb, hcb⟩ : ∃ cb, cb = w1.heap.size + 1 := ⟨_, rfl⟩
  obtain ⟨W0, hW0⟩ : ∃ W0 : World, W0 = (w1.alloc (.map #[] 0)).alloc (.cells #[.int .i64 0, .slice none 0 0, .map (some w1.heap.size)] 62) := ⟨_, rfl⟩
  have hs2 : (w1.alloc (.map #[] 0)).heap.size = w1.heap.size + 1 := by simp
  have hs3 : W0.heap.size = w1.heap.size + 2 := by rw [hW0]; simp
  have hstart : NewI w.heap.size r.n w cb mb r.dev 0 W0 := by
    refine ⟨fun b => if b < w.heap.size then r.n + 1 else r.n, .slice none 0 0, fun _ => 0, fun b hb => if_pos hb, if_neg (by omega), if_neg (by omega), fun g hg => by simp [Value.ownBlock] at hg, ?_, ?_, ?_, fun j _ => ?_, ?_, ?_, fun j hj => by omega, ?_⟩
    · rw [hW0, hcb, ← hs2]; exact cell_fresh _ _ _ rfl
    · rw [hW0, hcb, ← hs2]; exact cell_fresh _ _ _ rfl
    · rw [hW0, hcb, hmb, ← hs2]; exact cell_fresh _ _ _ rfl
    · rw [hW0, hcb, ← hs2]; exact frozen_fresh _ _ _ _
    · exact World.ownsRow_nil _ _ _ _
    · rw [hW0, hmb]
      exact (LMap.made Tryz.prog 9 ptrR w1).alloc _
    · rw [hW0]
      exact (hB1.alloc hsz1 _).alloc (by rw [hs2]; omega) _
  have hcm : mb < cb := by omega
  have hBcb : w.heap.size ≤ cb := by omega
  have hBmb : w.heap.size ≤ mb := by omega
  rw [← hW0]
  have e16 : (w1.alloc (.map #[] 0)).heap.size = cb := by omega
  rw [← hcb]
  clear hB1 hmm hs2 hs3 e16 hcb hmb
  have HW0 := Lib.hid hW0
  clear hW0
  go_loopw [19] (fun i wr => ∃ k : Nat, k ≤ r.n ∧ i = .int .i64 (k : Int) ∧ NewI w.heap.size r.n w cb mb r.dev k wr) (fun i _ => r.n - (intOf i).toNat)
  case atStart => exact ⟨0, by omega, rfl, hstart⟩
  case round =>
    clear hstart
    obtain ⟨k, hk, rfl, hI⟩ := hrel
    by_cases hlt : k < r.n
    · obtain ⟨o, v, pbs, ho, hco, hmo, hv, c0, c1, c2, fr, hrow, hmap, hports, hB⟩ := hI
      obtain ⟨⟨rsure, rlongs, rid, _, rregs⟩, _⟩ := hsure k hlt
      obtain ⟨b, off, rfl, hbB, hcells⟩ := (h.below hB (Nat.le_refl _)).cells (by omega)
      obtain ⟨⟨d0, d1, d2, d3, d4⟩, hdo⟩ := hcells k hlt
      clear hcells h hsure
      obtain ⟨Wr, hWr⟩ : ∃ Wr : World, Wr = wr.alloc (.cells #[.string (r.dev k).name, .int .i64 (r.dev k).long, .int .i64 (r.dev k).id, .slice (r.plc k).ra (r.dev k).regs.n (r.plc k).rc, .slice (r.plc k).ia (r.dev k).ins.n (r.plc k).ic] 48) := ⟨_, rfl⟩
      have hBr : Below wr.heap.size wr Wr := by rw [hWr]; exact (Below.refl _ wr).alloc (Nat.le_refl _) _
      have hnp := newPort_any (r.dev k) (r.plc k) Wr ((hdo.below hBr hB.size).up (Nat.le_trans hB.size hBr.size)) rsure rlongs rid
      have hnz := hdo.name
      clear hdo rsure rlongs rid
      go_wp2_with fail
      rw [← hWr]
      have HWr := Lib.hid hWr
      clear hWr d0 d1 d2 d3 d4
      refine hnp.mono ?_
      rintro e w2 ⟨pb, rfl, hB2, hpbl, hport⟩
      have hBc : Below wr.heap.size wr w2 := hBr.trans (hB2.mono hBr.size)
      have hcl := World.block_lt_of_cell? wr ⟨cb, 0, none⟩ c0
      have hml := hmap.lt
      have hvl := fun g hg => (hrow.lt g hg).2
      have hvb := fun g hg => (hrow.lt g hg).1
      have hbx : w2.cell? ⟨wr.heap.size, 0, none⟩ = some (.string (r.dev k).name) := by
        refine (hB2.cell (p := ⟨wr.heap.size, 0, none⟩) (by rw [HWr.out]; simp)).trans ?_
        rw [HWr.out]
        exact cell_fresh _ _ _ rfl
      have hs1 : wr.heap.size < w2.heap.size := by have := hB2.size; rw [HWr.out] at this; simp at this; omega
      have c0' := (hBc.cell (p := ⟨cb, 0, none⟩) hcl).trans c0
      have c1' := (hBc.cell (p := ⟨cb, 1, none⟩) hcl).trans c1
      have c2' := (hBc.cell (p := ⟨cb, 2, none⟩) hcl).trans c2
      have fr' := fun j hj => (World.frozen?_of_block (a := ⟨cb, j, none⟩) (hBc.block cb hcl)).trans (fr j hj)
      have hrow' := row_below hrow hBc
      have hmap' := hmap.block (hBc.block mb hml)
      have hcells := Lib.hid fr'
      have f1 := fr' 1 (by decide)
      have HI := Lib.hid (⟨ho, hco, hmo, hv, hports, hB, hport⟩ : _ ∧ _ ∧ _ ∧ _ ∧ _ ∧ _ ∧ _)
      have hkey : keyOf Tryz.prog 9 (.string (r.dev k).name) = some (.string (r.dev k).name.data.toList) := WideMaps.keyOf_string_mk Tryz.underlying9 (s := (r.dev k).name) (by unfold maxLen; omega)
      clear ho hco hmo hv hports hport c0 c1 c2 fr fr' hrow hmap hnp hB
      go_wp2_with (at_builtin; refine wpList_append_lies _ rfl _ _ 60 rfl (cb + 1) 63 i0 (.pointer none) 1 8 Tryz.underlying60 hi hz0 hz1 hz2 rfl (by decide) _ _ _ rfl (hrow'.alloc _) ⟨w2.heap.size, 0, none⟩ 1 1 [.pointer (some ⟨pb, 0, none⟩)] rfl rfl ?c1 ?c2 ?c3 ?c4 ?c5 ?c6 _ rfl ?_)
      case c1 => exact cell_one_new _ _ _
      case c2 => intro u hu; simp at hu; subst hu; rfl
      case c3 => decide
      case c4 => unfold maxLen; omega
      case c5 => omega
      case c6 => simp; omega
      intro g cp w4 hown4 hg4 hat4 hlt4
      have hne1 : some cb ≠ v.ownBlock := fun e => by have := hvb cb e.symm; omega
      have hne2 : some wr.heap.size ≠ v.ownBlock := fun e => by have := hvl _ e.symm; omega
      have hne3 : some mb ≠ v.ownBlock := fun e => by have := hvb mb e.symm; omega
      have hcw2 : cb < w2.heap.size := Nat.lt_of_lt_of_le hcl hBc.size
      have hmw2 : mb < w2.heap.size := Nat.lt_of_lt_of_le hml hBc.size
      have hb4 : ∀ b, b < w2.heap.size → some b ≠ v.ownBlock → w4.heap[b]? = w2.heap[b]? := fun b hb hne => (hg4.block b (by simp; omega) hne).trans (Below.heap_alloc w2 _ b hb)
      have hs4 := hg4.size
      simp only [World.size_alloc] at hs4
      have c1w4 := (World.cell?_of_block (a := ⟨cb, 1, none⟩) (hb4 cb hcw2 hne1)).trans c1'
      have f1w4 := (World.frozen?_of_block (a := ⟨cb, 1, none⟩) (hb4 cb hcw2 hne1)).trans f1
      obtain ⟨W5, hW5⟩ : ∃ W5 : World, W5 = w4.setCell ⟨cb, 1, none⟩ (.slice (some ⟨g, 0, none⟩) (k + 1) cp) := ⟨_, rfl⟩
      have hs5 : W5.heap.size = w4.heap.size := by rw [hW5]; simp [World.setCell]
      have hb5 : ∀ b, b ≠ cb → W5.heap[b]? = w4.heap[b]? := fun b hb => by rw [hW5]; exact Below.heap_setCell _ _ _ b hb
      have hc5 : ∀ j, j ≠ 1 → W5.cell? ⟨cb, j, none⟩ = w2.cell? ⟨cb, j, none⟩ := fun j hj => by
        rw [hW5, World.cell?_setCell_other _ _ _ _ (by simp; try omega)]
        exact World.cell?_of_block (a := ⟨cb, j, none⟩) (hb4 cb hcw2 hne1)
      have c1W5 : W5.cell? ⟨cb, 1, none⟩ = some (.slice (some ⟨g, 0, none⟩) (k + 1) cp) := by rw [hW5]; exact World.cell?_setCell_same _ _ _ c1w4
      have c2W5 : W5.cell? ⟨cb, 2, none⟩ = some (.map (some mb)) := (hc5 2 (by decide)).trans c2'
      have hbx5 : W5.cell? ⟨wr.heap.size, 0, none⟩ = some (.string (r.dev k).name) := (World.cell?_of_block (a := ⟨wr.heap.size, 0, none⟩) ((hb5 wr.heap.size (by omega)).trans (hb4 wr.heap.size hs1 hne2))).trans hbx
      have hmap5 : LMap Tryz.prog 9 ptrR W5 mb k (byM r.dev pbs k) := hmap'.block ((hb5 mb (by omega)).trans (hb4 mb hmw2 hne3))
      obtain ⟨w6, hrun, hm6, hg6⟩ := (hmap5.drew).update_run (string_keyed Tryz.underlying9) Tryz.underlying59 (by omega) _ _ hkey (.int .i64 (pb : Int)) (.pointer (some ⟨pb, 0, none⟩)) rfl
      have hs6 := hg6.size
      have hb6 : ∀ b, b < W5.heap.size → b ≠ mb → w6.heap[b]? = W5.heap[b]? := fun b hb hne => hg6.block b hb (fun e => hne (Option.some.inj e))
      have hfin : NewI w.heap.size r.n w cb mb r.dev (k + 1) w6 := by
        obtain ⟨ho, hco, hmo, hv, hports, hB, hport⟩ := HI.out
        have hgn : g ≠ cb ∧ g ≠ mb := by
          have := (hown4.lt g rfl).1
          exact ⟨by omega, by omega⟩
        have hcb6 : ∀ j, w6.cell? ⟨cb, j, none⟩ = W5.cell? ⟨cb, j, none⟩ := fun j => World.cell?_of_block (a := ⟨cb, j, none⟩) (hb6 cb (by omega) (by omega))
        refine NewI.step (W := wr) (W2 := w2) (g := g) (cap := cp) (pbs := pbs) (o := o) (v := v) (pb := pb) hlt hBcb ho hco hmo hv hcl hml hvl hports hBc (fun o j hoj => ?_) (fun b hb h1 h2 h3 => ?_) (hat4.imp id (fun e => by rw [e]; simp)) ((hcb6 0).trans ((hc5 0 (by decide)).trans c0')) ((hcb6 1).trans c1W5) ((hcb6 2).trans c2W5) (fun j hj => ?_) ?_ hm6 ?_
        · obtain ⟨m1, m3, m4, bb, hp⟩ := hport o j (fun b hb => hoj b (Nat.le_trans hBr.size hb))
          exact ⟨m1, m3, m4, bb, hp.up (by omega)⟩
        · exact (hb6 b (by omega) h2).trans ((hb5 b h1).trans (hb4 b hb h3))
        · refine (World.frozen?_of_block (a := ⟨cb, j, none⟩) (hb6 cb (by omega) (by omega))).trans ?_
          rw [hW5, World.frozen?_setCell]
          exact (World.frozen?_of_block (a := ⟨cb, j, none⟩) (hb4 cb hcw2 hne1)).trans (hcells.out j hj)
        · exact row_block hown4 (fun g' hg' => by
            have e : g = g' := by simpa [Value.ownBlock] using hg'
            subst e
            exact (hb6 g (by omega) hgn.2).trans (hb5 g hgn.1))
        · have hB2' : Below w.heap.size w w2 := hB.trans (hBc.mono hB.size)
          have h3 := (hB2'.alloc hB2'.size (.cells #[.pointer (some ⟨pb, 0, none⟩)] 63)).grown hg4 (by simp; have := hB2'.size; omega) (fun x hx => by have := hvb x hx; omega)
          have h4 : Below w.heap.size w W5 := by rw [hW5]; exact h3.setCell (by show w.heap.size ≤ cb; omega) _
          exact h4.drew.grown hg6 h4.size (fun x hx => by cases hx; omega)
      have HF := Lib.hid hfin
      have HW5 := Lib.hid hW5
      clear hfin hW5 hb6 hs6 hm6 hg6 hmap5 hb5 hc5 hb4 hcells hown4 hg4 hmap' hrow' hvb hvl c0' c1' c2' hbx HI hBr hBc
      go_wp2_with fail
      rw [← HW5.out]
      clear c1w4 f1w4 HW5
      go_region
      all_goals
        go_wp2_with fail
        go_roundw
        case rel => exact ⟨k + 1, by omega, by go_num, HF.out⟩
        case measure => simp [intOf]; omega
    · obtain rfl : k = r.n := by omega
      have HI := Lib.hid hI
      clear hI h hsure
      go_wp2_with fail
      go_ret2
      obtain ⟨o, v, pbs, ho, hco, hmo, hv, c0, c1, c2, fr, hrow, hmap, hports, hB⟩ := HI.out
      obtain ⟨hl, ⟨_, h0⟩ | ⟨g, cp, cur, rfl, hg, hgb, hn, hc, hcs, ht⟩⟩ := hrow
      · omega
      · refine ⟨o, cb, g, cp, mb, pbs, rfl, hB, ho, ⟨hn20, by decide, c0, fr 0 (by decide), c1, c2, fun j hj => ?_, hmap, ⟨hco, hv g rfl, hmo, by omega, by omega⟩, (Array.getElem?_eq_some_iff.1 hgb).1, hports⟩⟩
        have h5 := ht
        have h6 : cur[j]? = some (.pointer (some ⟨pbs j, 0, none⟩)) := by
          have h7 : (cur.toList.take (r.n * 1))[j]? = (ptrL pbs r.n)[j]? := by rw [ht]
          rw [List.getElem?_take_of_lt (by omega)] at h7
          simp only [Array.getElem?_toList] at h7
          rw [h7]
          simp [ptrL, hj]
        unfold World.cell?
        simp only [hgb]
        simpa using h6
end Go.Proofs.YtkipkkaloiefpaaGreatDoor
