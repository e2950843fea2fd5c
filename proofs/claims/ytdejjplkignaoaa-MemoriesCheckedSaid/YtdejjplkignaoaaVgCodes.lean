/- Package pattern's codes: codesOf, shortest. -/
import Derived.Test.YtdejjplkignaoaaVgA
import Derived.Laws.MakeOwn
import Derived.Laws.OwnMore
namespace Go.Proofs.Ytdejjplkignaoaa
open Go.RowKit

theorem Try.infoIntc : (Try.prog.info? 3).map (fun i => (i.zero, i.size, i.bytes)) = some (some (.int .i64 0), 1, 8) := by kernel_rfl
theorem one_new (W : World) (v : Value) (t : TypeId) : ∀ j u, [v][j]? = some u → (W.alloc (.cells #[v] t)).cell? ((⟨W.heap.size, 0, none⟩ : Addr).add j) = some u := cell_one_new W v t
abbrev natV (x : Nat) : Value := .int .i64 (x : Int)
/-- The slice value v has these numbers, in a block from B on. -/
def NatsAt (B : Nat) (w : World) (v : Value) (l : List Nat) : Prop := w.ownsRow B 3 1 v l.length (l.map natV)

end Go.Proofs.Ytdejjplkignaoaa
