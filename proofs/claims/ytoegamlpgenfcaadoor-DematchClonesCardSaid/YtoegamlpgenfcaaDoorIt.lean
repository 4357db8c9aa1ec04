/-
  The iterator over the known elements; a range over it.
-/
import Derived.Test.YtoegamlpgenfcaaDoorLe
import Derived.Test.YtoegamlpgenfcaaDoorGi
import Derived.Test.YtoegamlpgenfcaaDoorGm
import Derived.Test.YtoegamlpgenfcaaDoorRuns
import Derived.Test.YtoegamlpgenfcaaDoorQt
import Derived.Shelf.RegionOpen
import Derived.OwnWalkIn
import Derived.LoopNIn
import Derived.LoopIn
import Derived.Deep.QuietTactic
import Derived.BigQuiet
import Derived.Sort.LoopGhostIn
import Derived.Deep.RegionLaw
import Derived.Laws.EntriesVeiled
namespace Go.Proofs.YtoegamlpgenfcaaDoor
open Go.RowKit Go.Shelf BigFrame

attribute [local go_sem] Oper.semAt_some

/-- What the iterator reads: the list in its box. -/
structure KnownAt (W : World) (BL : Nat) (A : Option Addr) (N c : Nat) (xs : List Int) : Prop where
  bl : Boxed W BL 94 (.slice A N c)
  rd : Rd .i64 W W.heap.size A N xs
end Go.Proofs.YtoegamlpgenfcaaDoor
