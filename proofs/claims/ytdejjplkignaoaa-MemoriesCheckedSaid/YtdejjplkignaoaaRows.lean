/-
  No cell of these rows narrows 'for every input' (looked for: loops, veiled, ifaces, maps, wideKeys, modest, calm, conditions, laid).
  DERIVED. THE GIVEN ROWS OF THIS SEAT. 3 by the template 'for every input the law returns true; each argument reads behind the call as it read before'; 0 by the template 'total and deterministic' (their statements: YtdejjplkignaoaaTotals.lean).
  GIVEN WITH THE SEED: the statements are not yours to turn. If you find one false, say at which input.
  Laid BY PROGRAM, IN A SANDBOX (cutbox-rows.mjs): the forced cells as the released guide's own fill.sh prints them over the translation c32c2f2c4300b5bc… (all of the seat's roots in one cut). By AI agents, Wed Nov 11 2026. No macro, syntax, notation, axiom, sorry.
-/
import Derived.Test.YtdejjplkignaoaaChecked
import GoSem.Claim
import GoSem.ClaimJoined
import GoSem.ClaimMapViews
import Derived.JoinedTies
import Derived.KernelRfl
namespace Go.Proofs.Ytdejjplkignaoaa
/- THE CELL 'sum', in the pinned program and in every row, IS THE sha256 OF THE DUMP (.gsa) THAT YtdejjplkignaoaaProg.lean LOADS. Nothing in Lean hashes anything: it is a label: what it is worth is what the hold of that sum in a sandbox is worth. -/
noncomputable def Try.pinned : Pinned := { name := "ytdejjplkignaoaa", sum := "c32c2f2c4300b5bcba13ea4c97a1294fa13860fefb35d1253eff28fa66a60516", checked := Try.checked }
namespace Rows
def none {H : Type} : Left H := { results := [], args := [] }

/-- 'scanlaw1.MemoriesChecked': WHATEVER THE INPUT: true; the input reads as it did. -/
def memoriesCheckedSpec : ChangeSpec := { name := "memoriesChecked", fn := fun _ => fun
  | [d] => { results := [.lit (.bool true)], args := [d] }
  | _ => none }
def memoriesCheckedRow : OpenClaim := { program := "ytdejjplkignaoaa", sum := "c32c2f2c4300b5bcba13ea4c97a1294fa13860fefb35d1253eff28fa66a60516", func := "scanchain/scanlaw1.MemoriesChecked", spec := "memoriesChecked", unfollowed := true, recurses := true, apart := false }
def MemoriesCheckedSaid : Prop := memoriesCheckedRow.holds Try.pinned (OpenSpec.ofChange memoriesCheckedSpec)

/-- ITS FALSE NEIGHBOUR: 'it returns false'. Refute it at one input. -/
def memoriesCheckedWrong : ChangeSpec := { name := "memoriesChecked", fn := fun _ => fun
  | [d] => { results := [.lit (.bool false)], args := [d] }
  | _ => none }
def MemoriesCheckedWrongFalsely : Prop := memoriesCheckedRow.holds Try.pinned (OpenSpec.ofChange memoriesCheckedWrong)

/-- 'scanlaw1.PlansMade': WHATEVER THE INPUT: true; the input reads as it did. -/
def plansMadeSpec : ChangeSpec := { name := "plansMade", fn := fun _ => fun
  | [d] => { results := [.lit (.bool true)], args := [d] }
  | _ => none }
def plansMadeRow : OpenClaim := { program := "ytdejjplkignaoaa", sum := "c32c2f2c4300b5bcba13ea4c97a1294fa13860fefb35d1253eff28fa66a60516", func := "scanchain/scanlaw1.PlansMade", spec := "plansMade", unfollowed := true, recurses := true, apart := false }
def PlansMadeSaid : Prop := plansMadeRow.holds Try.pinned (OpenSpec.ofChange plansMadeSpec)

/-- ITS FALSE NEIGHBOUR: 'it returns false'. Refute it at one input. -/
def plansMadeWrong : ChangeSpec := { name := "plansMade", fn := fun _ => fun
  | [d] => { results := [.lit (.bool false)], args := [d] }
  | _ => none }
def PlansMadeWrongFalsely : Prop := plansMadeRow.holds Try.pinned (OpenSpec.ofChange plansMadeWrong)

/-- 'scanlaw1.MemoriesDriven': WHATEVER THE INPUT: true; the input reads as it did. -/
def memoriesDrivenSpec : ChangeSpec := { name := "memoriesDriven", fn := fun _ => fun
  | [d] => { results := [.lit (.bool true)], args := [d] }
  | _ => none }
def memoriesDrivenRow : OpenClaim := { program := "ytdejjplkignaoaa", sum := "c32c2f2c4300b5bcba13ea4c97a1294fa13860fefb35d1253eff28fa66a60516", func := "scanchain/scanlaw1.MemoriesDriven", spec := "memoriesDriven", unfollowed := true, recurses := true, apart := false }
def MemoriesDrivenSaid : Prop := memoriesDrivenRow.holds Try.pinned (OpenSpec.ofChange memoriesDrivenSpec)

/-- ITS FALSE NEIGHBOUR: 'it returns false'. Refute it at one input. -/
def memoriesDrivenWrong : ChangeSpec := { name := "memoriesDriven", fn := fun _ => fun
  | [d] => { results := [.lit (.bool false)], args := [d] }
  | _ => none }
def MemoriesDrivenWrongFalsely : Prop := memoriesDrivenRow.holds Try.pinned (OpenSpec.ofChange memoriesDrivenWrong)

/- THE SECOND FORM. 'bulk': how many values and letters a reading holds, each counted each time it is reached (what is shared counts as often as it is met; a slice's spare places count too). A statement '..UptoSaid' is the law's where the arguments, and the package variables that the reading takes, are together of bulk at most 1048576: NARROWER than '..Said'. Prove '..Said' where nothing that the law and all that it calls make is longer than what came in: it says more and counts as full. Else prove '..UptoSaid'. A law counts once. -/
mutual
def uptoBulk {H : Type} : DataW H → Nat
  | .lit (.string bytes) => bytes.length + 1
  | .lit _ => 1
  | .nil => 1
  | .ptr d => uptoBulk d + 1
  | .slice elems spare => uptoBulkAll elems + uptoBulkAll spare + 1
  | .agg parts => uptoBulkAll parts + 1
  | .iface _ d => uptoBulk d + 1
  | .map entries => uptoBulkEntries entries + 1
  | .held _ => 1
def uptoBulkAll {H : Type} : List (DataW H) → Nat
  | [] => 0
  | d :: r => uptoBulk d + uptoBulkAll r
def uptoBulkEntries {H : Type} : List (Lit × DataW H) → Nat
  | [] => 0
  | x :: r => uptoBulkEntry x + uptoBulkEntries r
def uptoBulkEntry {H : Type} : Lit × DataW H → Nat
  | (.string bytes, d) => bytes.length + uptoBulk d + 1
  | (_, d) => uptoBulk d + 1
 end
def uptoSmall : (H : Type) → List (DataW H) → Bool := fun _ ds => decide (uptoBulkAll ds ≤ 1048576)
def OpenSpec.upto (s : _root_.Go.ChangeSpec) : _root_.Go.OpenSpec := { _root_.Go.OpenSpec.ofChange s with cond := some uptoSmall }

/-- 'scanlaw1.MemoriesChecked', WHERE WHAT IT READS IS OF BULK AT MOST 1048576: true; the input reads as it did. -/
def memoriesCheckedUptoRow : OpenClaim := { program := "ytdejjplkignaoaa", sum := "c32c2f2c4300b5bcba13ea4c97a1294fa13860fefb35d1253eff28fa66a60516", func := "scanchain/scanlaw1.MemoriesChecked", spec := "memoriesChecked", unfollowed := true, recurses := true, apart := false, narrowed := true }
def MemoriesCheckedUptoSaid : Prop := memoriesCheckedUptoRow.holds Try.pinned (OpenSpec.upto memoriesCheckedSpec)

/-- 'scanlaw1.PlansMade', WHERE WHAT IT READS IS OF BULK AT MOST 1048576: true; the input reads as it did. -/
def plansMadeUptoRow : OpenClaim := { program := "ytdejjplkignaoaa", sum := "c32c2f2c4300b5bcba13ea4c97a1294fa13860fefb35d1253eff28fa66a60516", func := "scanchain/scanlaw1.PlansMade", spec := "plansMade", unfollowed := true, recurses := true, apart := false, narrowed := true }
def PlansMadeUptoSaid : Prop := plansMadeUptoRow.holds Try.pinned (OpenSpec.upto plansMadeSpec)

/-- 'scanlaw1.MemoriesDriven', WHERE WHAT IT READS IS OF BULK AT MOST 1048576: true; the input reads as it did. -/
def memoriesDrivenUptoRow : OpenClaim := { program := "ytdejjplkignaoaa", sum := "c32c2f2c4300b5bcba13ea4c97a1294fa13860fefb35d1253eff28fa66a60516", func := "scanchain/scanlaw1.MemoriesDriven", spec := "memoriesDriven", unfollowed := true, recurses := true, apart := false, narrowed := true }
def MemoriesDrivenUptoSaid : Prop := memoriesDrivenUptoRow.holds Try.pinned (OpenSpec.upto memoriesDrivenSpec)

end Rows
end Go.Proofs.Ytdejjplkignaoaa
