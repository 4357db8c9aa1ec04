/-
  NARROWER THAN 'FOR EVERY INPUT', by the rows' own cells (each row's printed sentence says how): QppParams: laid · QppOrders: laid · QppInterleaves: laid · QppBits: laid · QppSteps: laid · QppFree: laid · QppHolds: laid.
  DERIVED. THE GIVEN ROWS OF THIS SEAT. 7 by the template 'for every input the law returns true; each argument reads behind the call as it read before'; 0 by the template 'total and deterministic' (their statements: YtfplklbicimhkaaDoorTotals.lean).
  GIVEN WITH THE SEED: the statements are not yours to turn. If you find one false, say at which input.
  Laid BY PROGRAM, IN A SANDBOX (cutbox-rows.mjs): the forced cells as the released guide's own fill.sh prints them over the translation e2e4ee55234842b6… (all of the seat's roots in one cut). By AI agents, Wed Nov 11 2026. No macro, syntax, notation, axiom, sorry.
-/
import Derived.Test.YtfplklbicimhkaaDoorChecked
import GoSem.Claim
import GoSem.ClaimJoined
import GoSem.ClaimMapViews
import Derived.JoinedTies
import Derived.KernelRfl
namespace Go.Proofs.YtfplklbicimhkaaDoor
/- THE CELL 'sum', in the pinned program and in every row, IS THE sha256 OF THE DUMP (.gsa) THAT YtfplklbicimhkaaDoorProg.lean LOADS. Nothing in Lean hashes anything: it is a label: what it is worth is what the hold of that sum in a sandbox is worth. -/
noncomputable def Tryd.pinned : Pinned := { name := "ytfplklbicimhkaadoor", sum := "e2e4ee55234842b6a6343cb76c0588053514297aab683eeaa0357feb1d8d36c6", checked := Tryd.checked }
namespace Rows
def none {H : Type} : Left H := { results := [], args := [] }

/- WHAT THE LISTED PACKAGE-LEVEL VARIABLES READ AS WHEN THE CALL BEGINS. Each datum BY PROGRAM (the guide's laid-datum.mjs) off the statement by which the dump's own 'gosem.cut.vars' lays the variable. In a bare row this is a premise. The card (YtfplklbicimhkaaDoorCards.lean) ties it to the program's text. -/
def laid_userplane_segment_ranges {H : Type} : DataW H := .agg [.agg [.lit (.int .i64 40), .lit (.int .i64 512), .lit (.int .i64 8)], .agg [.lit (.int .i64 528), .lit (.int .i64 1024), .lit (.int .i64 16)], .agg [.lit (.int .i64 1056), .lit (.int .i64 2048), .lit (.int .i64 32)], .agg [.lit (.int .i64 2112), .lit (.int .i64 6144), .lit (.int .i64 64)]]

/-- 'userplanelaw06.QppParams': WHATEVER THE INPUT: true; the input reads as it did. -/
def qppParamsSpec : ChangeSpec := { name := "qppParams", fn := fun _ => fun
  | [d1, d2] => { results := [.lit (.bool true)], args := [d1, d2] }
  | _ => none }
def qppParamsRow : OpenClaim := { program := "ytfplklbicimhkaadoor", sum := "e2e4ee55234842b6a6343cb76c0588053514297aab683eeaa0357feb1d8d36c6", func := "userplane/userplanelaw06.QppParams", spec := "qppParams", unfollowed := true, recurses := true, named := ["userplane/segment.ranges"], apart := false, laid := [("userplane/segment.ranges", laid_userplane_segment_ranges)] }
def QppParamsSaid : Prop := qppParamsRow.holds Tryd.pinned (OpenSpec.ofChange qppParamsSpec)

/-- ITS FALSE NEIGHBOUR: 'it returns false'. Refute it at one input. -/
def qppParamsWrong : ChangeSpec := { name := "qppParams", fn := fun _ => fun
  | [d1, d2] => { results := [.lit (.bool false)], args := [d1, d2] }
  | _ => none }
def QppParamsWrongFalsely : Prop := qppParamsRow.holds Tryd.pinned (OpenSpec.ofChange qppParamsWrong)

/-- 'userplanelaw06.QppOrders': WHATEVER THE INPUT: true; the input reads as it did. -/
def qppOrdersSpec : ChangeSpec := { name := "qppOrders", fn := fun _ => fun
  | [d] => { results := [.lit (.bool true)], args := [d] }
  | _ => none }
def qppOrdersRow : OpenClaim := { program := "ytfplklbicimhkaadoor", sum := "e2e4ee55234842b6a6343cb76c0588053514297aab683eeaa0357feb1d8d36c6", func := "userplane/userplanelaw06.QppOrders", spec := "qppOrders", unfollowed := true, recurses := true, named := ["userplane/segment.ranges"], apart := false, laid := [("userplane/segment.ranges", laid_userplane_segment_ranges)] }
def QppOrdersSaid : Prop := qppOrdersRow.holds Tryd.pinned (OpenSpec.ofChange qppOrdersSpec)

/-- ITS FALSE NEIGHBOUR: 'it returns false'. Refute it at one input. -/
def qppOrdersWrong : ChangeSpec := { name := "qppOrders", fn := fun _ => fun
  | [d] => { results := [.lit (.bool false)], args := [d] }
  | _ => none }
def QppOrdersWrongFalsely : Prop := qppOrdersRow.holds Tryd.pinned (OpenSpec.ofChange qppOrdersWrong)

/-- 'userplanelaw06.QppInterleaves': WHATEVER THE INPUT: true; the input reads as it did. -/
def qppInterleavesSpec : ChangeSpec := { name := "qppInterleaves", fn := fun _ => fun
  | [d] => { results := [.lit (.bool true)], args := [d] }
  | _ => none }
def qppInterleavesRow : OpenClaim := { program := "ytfplklbicimhkaadoor", sum := "e2e4ee55234842b6a6343cb76c0588053514297aab683eeaa0357feb1d8d36c6", func := "userplane/userplanelaw06.QppInterleaves", spec := "qppInterleaves", unfollowed := true, recurses := true, named := ["userplane/segment.ranges"], apart := false, laid := [("userplane/segment.ranges", laid_userplane_segment_ranges)] }
def QppInterleavesSaid : Prop := qppInterleavesRow.holds Tryd.pinned (OpenSpec.ofChange qppInterleavesSpec)

/-- ITS FALSE NEIGHBOUR: 'it returns false'. Refute it at one input. -/
def qppInterleavesWrong : ChangeSpec := { name := "qppInterleaves", fn := fun _ => fun
  | [d] => { results := [.lit (.bool false)], args := [d] }
  | _ => none }
def QppInterleavesWrongFalsely : Prop := qppInterleavesRow.holds Tryd.pinned (OpenSpec.ofChange qppInterleavesWrong)

/-- 'userplanelaw06.QppBits': WHATEVER THE INPUT: true; the input reads as it did. -/
def qppBitsSpec : ChangeSpec := { name := "qppBits", fn := fun _ => fun
  | [d] => { results := [.lit (.bool true)], args := [d] }
  | _ => none }
def qppBitsRow : OpenClaim := { program := "ytfplklbicimhkaadoor", sum := "e2e4ee55234842b6a6343cb76c0588053514297aab683eeaa0357feb1d8d36c6", func := "userplane/userplanelaw06.QppBits", spec := "qppBits", unfollowed := true, recurses := true, named := ["userplane/segment.ranges"], apart := false, laid := [("userplane/segment.ranges", laid_userplane_segment_ranges)] }
def QppBitsSaid : Prop := qppBitsRow.holds Tryd.pinned (OpenSpec.ofChange qppBitsSpec)

/-- ITS FALSE NEIGHBOUR: 'it returns false'. Refute it at one input. -/
def qppBitsWrong : ChangeSpec := { name := "qppBits", fn := fun _ => fun
  | [d] => { results := [.lit (.bool false)], args := [d] }
  | _ => none }
def QppBitsWrongFalsely : Prop := qppBitsRow.holds Tryd.pinned (OpenSpec.ofChange qppBitsWrong)

/-- 'userplanelaw06.QppSteps': WHATEVER THE INPUT: true; the input reads as it did. -/
def qppStepsSpec : ChangeSpec := { name := "qppSteps", fn := fun _ => fun
  | [d1, d2] => { results := [.lit (.bool true)], args := [d1, d2] }
  | _ => none }
def qppStepsRow : OpenClaim := { program := "ytfplklbicimhkaadoor", sum := "e2e4ee55234842b6a6343cb76c0588053514297aab683eeaa0357feb1d8d36c6", func := "userplane/userplanelaw06.QppSteps", spec := "qppSteps", unfollowed := true, recurses := true, named := ["userplane/segment.ranges"], apart := false, laid := [("userplane/segment.ranges", laid_userplane_segment_ranges)] }
def QppStepsSaid : Prop := qppStepsRow.holds Tryd.pinned (OpenSpec.ofChange qppStepsSpec)

/-- ITS FALSE NEIGHBOUR: 'it returns false'. Refute it at one input. -/
def qppStepsWrong : ChangeSpec := { name := "qppSteps", fn := fun _ => fun
  | [d1, d2] => { results := [.lit (.bool false)], args := [d1, d2] }
  | _ => none }
def QppStepsWrongFalsely : Prop := qppStepsRow.holds Tryd.pinned (OpenSpec.ofChange qppStepsWrong)

/-- 'userplanelaw06.QppFree': WHATEVER THE INPUT: true; the input reads as it did. -/
def qppFreeSpec : ChangeSpec := { name := "qppFree", fn := fun _ => fun
  | [d1, d2] => { results := [.lit (.bool true)], args := [d1, d2] }
  | _ => none }
def qppFreeRow : OpenClaim := { program := "ytfplklbicimhkaadoor", sum := "e2e4ee55234842b6a6343cb76c0588053514297aab683eeaa0357feb1d8d36c6", func := "userplane/userplanelaw06.QppFree", spec := "qppFree", unfollowed := true, recurses := true, named := ["userplane/segment.ranges"], apart := false, laid := [("userplane/segment.ranges", laid_userplane_segment_ranges)] }
def QppFreeSaid : Prop := qppFreeRow.holds Tryd.pinned (OpenSpec.ofChange qppFreeSpec)

/-- ITS FALSE NEIGHBOUR: 'it returns false'. Refute it at one input. -/
def qppFreeWrong : ChangeSpec := { name := "qppFree", fn := fun _ => fun
  | [d1, d2] => { results := [.lit (.bool false)], args := [d1, d2] }
  | _ => none }
def QppFreeWrongFalsely : Prop := qppFreeRow.holds Tryd.pinned (OpenSpec.ofChange qppFreeWrong)

/-- 'userplanelaw06.QppHolds': WHATEVER THE INPUT: true; the input reads as it did. -/
def qppHoldsSpec : ChangeSpec := { name := "qppHolds", fn := fun _ => fun
  | [d1, d2] => { results := [.lit (.bool true)], args := [d1, d2] }
  | _ => none }
def qppHoldsRow : OpenClaim := { program := "ytfplklbicimhkaadoor", sum := "e2e4ee55234842b6a6343cb76c0588053514297aab683eeaa0357feb1d8d36c6", func := "userplane/userplanelaw06.QppHolds", spec := "qppHolds", unfollowed := true, recurses := true, named := ["userplane/segment.ranges"], apart := false, laid := [("userplane/segment.ranges", laid_userplane_segment_ranges)] }
def QppHoldsSaid : Prop := qppHoldsRow.holds Tryd.pinned (OpenSpec.ofChange qppHoldsSpec)

/-- ITS FALSE NEIGHBOUR: 'it returns false'. Refute it at one input. -/
def qppHoldsWrong : ChangeSpec := { name := "qppHolds", fn := fun _ => fun
  | [d1, d2] => { results := [.lit (.bool false)], args := [d1, d2] }
  | _ => none }
def QppHoldsWrongFalsely : Prop := qppHoldsRow.holds Tryd.pinned (OpenSpec.ofChange qppHoldsWrong)

/- THE SECOND FORM. 'bulk': how many values and letters a reading holds, each counted each time it is reached (what is shared counts as often as it is met; a slice's spare places count too). A statement '..UptoSaid' is the law's where the arguments, and the package variables that the reading takes, are together of bulk at most 1048576: NARROWER than '..Said'. Prove '..Said' where nothing that the law and all that it calls make is longer than what came in: it says more and counts as full. Else prove '..UptoSaid'. A law counts once. -/
mutual
def uptoBulk {H : Type} : DataW H → Nat
  | .lit (.string bytes) => bytes.length + 1
  | .lit _ => 1
  | .nil => 1
  | .ptr d => uptoBulk d + 1
  | .slice elems spare => uptoBulkAll elems + uptoBulkAll spare + 1
  | .agg parts => uptoBulkAll parts + 1
  | .iface _ d => uptoBulk d + 1
  | .map entries => uptoBulkEntries entries + 1
  | .held _ => 1
def uptoBulkAll {H : Type} : List (DataW H) → Nat
  | [] => 0
  | d :: r => uptoBulk d + uptoBulkAll r
def uptoBulkEntries {H : Type} : List (Lit × DataW H) → Nat
  | [] => 0
  | x :: r => uptoBulkEntry x + uptoBulkEntries r
def uptoBulkEntry {H : Type} : Lit × DataW H → Nat
  | (.string bytes, d) => bytes.length + uptoBulk d + 1
  | (_, d) => uptoBulk d + 1
 end
def uptoSmall : (H : Type) → List (DataW H) → Bool := fun _ ds => decide (uptoBulkAll ds ≤ 1048576)
def OpenSpec.upto (s : _root_.Go.ChangeSpec) : _root_.Go.OpenSpec := { _root_.Go.OpenSpec.ofChange s with cond := some uptoSmall }

/-- 'userplanelaw06.QppParams', WHERE WHAT IT READS IS OF BULK AT MOST 1048576: true; the input reads as it did. -/
def qppParamsUptoRow : OpenClaim := { program := "ytfplklbicimhkaadoor", sum := "e2e4ee55234842b6a6343cb76c0588053514297aab683eeaa0357feb1d8d36c6", func := "userplane/userplanelaw06.QppParams", spec := "qppParams", unfollowed := true, recurses := true, named := ["userplane/segment.ranges"], apart := false, laid := [("userplane/segment.ranges", laid_userplane_segment_ranges)], narrowed := true }
def QppParamsUptoSaid : Prop := qppParamsUptoRow.holds Tryd.pinned (OpenSpec.upto qppParamsSpec)

/-- 'userplanelaw06.QppOrders', WHERE WHAT IT READS IS OF BULK AT MOST 1048576: true; the input reads as it did. -/
def qppOrdersUptoRow : OpenClaim := { program := "ytfplklbicimhkaadoor", sum := "e2e4ee55234842b6a6343cb76c0588053514297aab683eeaa0357feb1d8d36c6", func := "userplane/userplanelaw06.QppOrders", spec := "qppOrders", unfollowed := true, recurses := true, named := ["userplane/segment.ranges"], apart := false, laid := [("userplane/segment.ranges", laid_userplane_segment_ranges)], narrowed := true }
def QppOrdersUptoSaid : Prop := qppOrdersUptoRow.holds Tryd.pinned (OpenSpec.upto qppOrdersSpec)

/-- 'userplanelaw06.QppInterleaves', WHERE WHAT IT READS IS OF BULK AT MOST 1048576: true; the input reads as it did. -/
def qppInterleavesUptoRow : OpenClaim := { program := "ytfplklbicimhkaadoor", sum := "e2e4ee55234842b6a6343cb76c0588053514297aab683eeaa0357feb1d8d36c6", func := "userplane/userplanelaw06.QppInterleaves", spec := "qppInterleaves", unfollowed := true, recurses := true, named := ["userplane/segment.ranges"], apart := false, laid := [("userplane/segment.ranges", laid_userplane_segment_ranges)], narrowed := true }
def QppInterleavesUptoSaid : Prop := qppInterleavesUptoRow.holds Tryd.pinned (OpenSpec.upto qppInterleavesSpec)

/-- 'userplanelaw06.QppBits', WHERE WHAT IT READS IS OF BULK AT MOST 1048576: true; the input reads as it did. -/
def qppBitsUptoRow : OpenClaim := { program := "ytfplklbicimhkaadoor", sum := "e2e4ee55234842b6a6343cb76c0588053514297aab683eeaa0357feb1d8d36c6", func := "userplane/userplanelaw06.QppBits", spec := "qppBits", unfollowed := true, recurses := true, named := ["userplane/segment.ranges"], apart := false, laid := [("userplane/segment.ranges", laid_userplane_segment_ranges)], narrowed := true }
def QppBitsUptoSaid : Prop := qppBitsUptoRow.holds Tryd.pinned (OpenSpec.upto qppBitsSpec)

/-- 'userplanelaw06.QppSteps', WHERE WHAT IT READS IS OF BULK AT MOST 1048576: true; the input reads as it did. -/
def qppStepsUptoRow : OpenClaim := { program := "ytfplklbicimhkaadoor", sum := "e2e4ee55234842b6a6343cb76c0588053514297aab683eeaa0357feb1d8d36c6", func := "userplane/userplanelaw06.QppSteps", spec := "qppSteps", unfollowed := true, recurses := true, named := ["userplane/segment.ranges"], apart := false, laid := [("userplane/segment.ranges", laid_userplane_segment_ranges)], narrowed := true }
def QppStepsUptoSaid : Prop := qppStepsUptoRow.holds Tryd.pinned (OpenSpec.upto qppStepsSpec)

/-- 'userplanelaw06.QppFree', WHERE WHAT IT READS IS OF BULK AT MOST 1048576: true; the input reads as it did. -/
def qppFreeUptoRow : OpenClaim := { program := "ytfplklbicimhkaadoor", sum := "e2e4ee55234842b6a6343cb76c0588053514297aab683eeaa0357feb1d8d36c6", func := "userplane/userplanelaw06.QppFree", spec := "qppFree", unfollowed := true, recurses := true, named := ["userplane/segment.ranges"], apart := false, laid := [("userplane/segment.ranges", laid_userplane_segment_ranges)], narrowed := true }
def QppFreeUptoSaid : Prop := qppFreeUptoRow.holds Tryd.pinned (OpenSpec.upto qppFreeSpec)

/-- 'userplanelaw06.QppHolds', WHERE WHAT IT READS IS OF BULK AT MOST 1048576: true; the input reads as it did. -/
def qppHoldsUptoRow : OpenClaim := { program := "ytfplklbicimhkaadoor", sum := "e2e4ee55234842b6a6343cb76c0588053514297aab683eeaa0357feb1d8d36c6", func := "userplane/userplanelaw06.QppHolds", spec := "qppHolds", unfollowed := true, recurses := true, named := ["userplane/segment.ranges"], apart := false, laid := [("userplane/segment.ranges", laid_userplane_segment_ranges)], narrowed := true }
def QppHoldsUptoSaid : Prop := qppHoldsUptoRow.holds Tryd.pinned (OpenSpec.upto qppHoldsSpec)

end Rows
end Go.Proofs.YtfplklbicimhkaaDoor
