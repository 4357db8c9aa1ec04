/-
  NARROWER THAN 'FOR EVERY INPUT', by the rows' own cells (each row's printed sentence says how): TurboEncodes: laid · TurboChecks: laid · TurboLayouts: laid · TurboLinear: laid · TurboLists: laid · TurboFlips: laid · TurboHolds: laid.
  DERIVED. THE GIVEN ROWS OF THIS SEAT. 7 by the template 'for every input the law returns true; each argument reads behind the call as it read before'; 0 by the template 'total and deterministic' (their statements: YtbpkoilecdejiaaDoorTotals.lean).
  GIVEN WITH THE SEED: the statements are not yours to turn. If you find one false, say at which input.
  Laid BY PROGRAM, IN A SANDBOX (cutbox-rows.mjs): the forced cells as the released guide's own fill.sh prints them over the translation 5c25800b3293e951… (all of the seat's roots in one cut). By AI agents, Wed Nov 11 2026. No macro, syntax, notation, axiom, sorry.
-/
import Derived.Test.YtbpkoilecdejiaaDoorChecked
import GoSem.Claim
import GoSem.ClaimJoined
import GoSem.ClaimMapViews
import Derived.JoinedTies
import Derived.KernelRfl
namespace Go.Proofs.YtbpkoilecdejiaaDoor
/- THE CELL 'sum', in the pinned program and in every row, IS THE sha256 OF THE DUMP (.gsa) THAT YtbpkoilecdejiaaDoorProg.lean LOADS. Nothing in Lean hashes anything: it is a label: what it is worth is what the hold of that sum in a sandbox is worth. -/
noncomputable def Tryd.pinned : Pinned := { name := "ytbpkoilecdejiaadoor", sum := "5c25800b3293e95165d68859fd0831977bdb3cfb1ad3eb81f2322ed9753acb39", checked := Tryd.checked }
namespace Rows
def none {H : Type} : Left H := { results := [], args := [] }

/- WHAT THE LISTED PACKAGE-LEVEL VARIABLES READ AS WHEN THE CALL BEGINS. Each datum BY PROGRAM (the guide's laid-datum.mjs) off the statement by which the dump's own 'gosem.cut.vars' lays the variable. In a bare row this is a premise. The card (YtbpkoilecdejiaaDoorCards.lean) ties it to the program's text. -/
def laid_userplane_segment_ranges {H : Type} : DataW H := .agg [.agg [.lit (.int .i64 40), .lit (.int .i64 512), .lit (.int .i64 8)], .agg [.lit (.int .i64 528), .lit (.int .i64 1024), .lit (.int .i64 16)], .agg [.lit (.int .i64 1056), .lit (.int .i64 2048), .lit (.int .i64 32)], .agg [.lit (.int .i64 2112), .lit (.int .i64 6144), .lit (.int .i64 64)]]

/-- 'userplanelaw08.TurboEncodes': WHATEVER THE INPUT: true; the input reads as it did. -/
def turboEncodesSpec : ChangeSpec := { name := "turboEncodes", fn := fun _ => fun
  | [d1, d2] => { results := [.lit (.bool true)], args := [d1, d2] }
  | _ => none }
def turboEncodesRow : OpenClaim := { program := "ytbpkoilecdejiaadoor", sum := "5c25800b3293e95165d68859fd0831977bdb3cfb1ad3eb81f2322ed9753acb39", func := "userplane/userplanelaw08.TurboEncodes", spec := "turboEncodes", unfollowed := true, recurses := true, named := ["userplane/segment.ranges"], apart := false, laid := [("userplane/segment.ranges", laid_userplane_segment_ranges)] }
def TurboEncodesSaid : Prop := turboEncodesRow.holds Tryd.pinned (OpenSpec.ofChange turboEncodesSpec)

/-- ITS FALSE NEIGHBOUR: 'it returns false'. Refute it at one input. -/
def turboEncodesWrong : ChangeSpec := { name := "turboEncodes", fn := fun _ => fun
  | [d1, d2] => { results := [.lit (.bool false)], args := [d1, d2] }
  | _ => none }
def TurboEncodesWrongFalsely : Prop := turboEncodesRow.holds Tryd.pinned (OpenSpec.ofChange turboEncodesWrong)

/-- 'userplanelaw08.TurboChecks': WHATEVER THE INPUT: true; the input reads as it did. -/
def turboChecksSpec : ChangeSpec := { name := "turboChecks", fn := fun _ => fun
  | [d] => { results := [.lit (.bool true)], args := [d] }
  | _ => none }
def turboChecksRow : OpenClaim := { program := "ytbpkoilecdejiaadoor", sum := "5c25800b3293e95165d68859fd0831977bdb3cfb1ad3eb81f2322ed9753acb39", func := "userplane/userplanelaw08.TurboChecks", spec := "turboChecks", unfollowed := true, recurses := true, named := ["userplane/segment.ranges"], apart := false, laid := [("userplane/segment.ranges", laid_userplane_segment_ranges)] }
def TurboChecksSaid : Prop := turboChecksRow.holds Tryd.pinned (OpenSpec.ofChange turboChecksSpec)

/-- ITS FALSE NEIGHBOUR: 'it returns false'. Refute it at one input. -/
def turboChecksWrong : ChangeSpec := { name := "turboChecks", fn := fun _ => fun
  | [d] => { results := [.lit (.bool false)], args := [d] }
  | _ => none }
def TurboChecksWrongFalsely : Prop := turboChecksRow.holds Tryd.pinned (OpenSpec.ofChange turboChecksWrong)

/-- 'userplanelaw08.TurboLayouts': WHATEVER THE INPUT: true; the input reads as it did. -/
def turboLayoutsSpec : ChangeSpec := { name := "turboLayouts", fn := fun _ => fun
  | [d1, d2, d3] => { results := [.lit (.bool true)], args := [d1, d2, d3] }
  | _ => none }
def turboLayoutsRow : OpenClaim := { program := "ytbpkoilecdejiaadoor", sum := "5c25800b3293e95165d68859fd0831977bdb3cfb1ad3eb81f2322ed9753acb39", func := "userplane/userplanelaw08.TurboLayouts", spec := "turboLayouts", unfollowed := true, recurses := true, named := ["userplane/segment.ranges"], apart := false, laid := [("userplane/segment.ranges", laid_userplane_segment_ranges)] }
def TurboLayoutsSaid : Prop := turboLayoutsRow.holds Tryd.pinned (OpenSpec.ofChange turboLayoutsSpec)

/-- ITS FALSE NEIGHBOUR: 'it returns false'. Refute it at one input. -/
def turboLayoutsWrong : ChangeSpec := { name := "turboLayouts", fn := fun _ => fun
  | [d1, d2, d3] => { results := [.lit (.bool false)], args := [d1, d2, d3] }
  | _ => none }
def TurboLayoutsWrongFalsely : Prop := turboLayoutsRow.holds Tryd.pinned (OpenSpec.ofChange turboLayoutsWrong)

/-- 'userplanelaw08.TurboLinear': WHATEVER THE INPUT: true; the input reads as it did. -/
def turboLinearSpec : ChangeSpec := { name := "turboLinear", fn := fun _ => fun
  | [d1, d2, d3] => { results := [.lit (.bool true)], args := [d1, d2, d3] }
  | _ => none }
def turboLinearRow : OpenClaim := { program := "ytbpkoilecdejiaadoor", sum := "5c25800b3293e95165d68859fd0831977bdb3cfb1ad3eb81f2322ed9753acb39", func := "userplane/userplanelaw08.TurboLinear", spec := "turboLinear", unfollowed := true, recurses := true, named := ["userplane/segment.ranges"], apart := false, laid := [("userplane/segment.ranges", laid_userplane_segment_ranges)] }
def TurboLinearSaid : Prop := turboLinearRow.holds Tryd.pinned (OpenSpec.ofChange turboLinearSpec)

/-- ITS FALSE NEIGHBOUR: 'it returns false'. Refute it at one input. -/
def turboLinearWrong : ChangeSpec := { name := "turboLinear", fn := fun _ => fun
  | [d1, d2, d3] => { results := [.lit (.bool false)], args := [d1, d2, d3] }
  | _ => none }
def TurboLinearWrongFalsely : Prop := turboLinearRow.holds Tryd.pinned (OpenSpec.ofChange turboLinearWrong)

/-- 'userplanelaw08.TurboLists': WHATEVER THE INPUT: true; the input reads as it did. -/
def turboListsSpec : ChangeSpec := { name := "turboLists", fn := fun _ => fun
  | [d] => { results := [.lit (.bool true)], args := [d] }
  | _ => none }
def turboListsRow : OpenClaim := { program := "ytbpkoilecdejiaadoor", sum := "5c25800b3293e95165d68859fd0831977bdb3cfb1ad3eb81f2322ed9753acb39", func := "userplane/userplanelaw08.TurboLists", spec := "turboLists", unfollowed := true, recurses := true, named := ["userplane/segment.ranges"], apart := false, laid := [("userplane/segment.ranges", laid_userplane_segment_ranges)] }
def TurboListsSaid : Prop := turboListsRow.holds Tryd.pinned (OpenSpec.ofChange turboListsSpec)

/-- ITS FALSE NEIGHBOUR: 'it returns false'. Refute it at one input. -/
def turboListsWrong : ChangeSpec := { name := "turboLists", fn := fun _ => fun
  | [d] => { results := [.lit (.bool false)], args := [d] }
  | _ => none }
def TurboListsWrongFalsely : Prop := turboListsRow.holds Tryd.pinned (OpenSpec.ofChange turboListsWrong)

/-- 'userplanelaw08.TurboFlips': WHATEVER THE INPUT: true; the input reads as it did. -/
def turboFlipsSpec : ChangeSpec := { name := "turboFlips", fn := fun _ => fun
  | [d1, d2, d3, d4] => { results := [.lit (.bool true)], args := [d1, d2, d3, d4] }
  | _ => none }
def turboFlipsRow : OpenClaim := { program := "ytbpkoilecdejiaadoor", sum := "5c25800b3293e95165d68859fd0831977bdb3cfb1ad3eb81f2322ed9753acb39", func := "userplane/userplanelaw08.TurboFlips", spec := "turboFlips", unfollowed := true, recurses := true, named := ["userplane/segment.ranges"], apart := false, laid := [("userplane/segment.ranges", laid_userplane_segment_ranges)] }
def TurboFlipsSaid : Prop := turboFlipsRow.holds Tryd.pinned (OpenSpec.ofChange turboFlipsSpec)

/-- ITS FALSE NEIGHBOUR: 'it returns false'. Refute it at one input. -/
def turboFlipsWrong : ChangeSpec := { name := "turboFlips", fn := fun _ => fun
  | [d1, d2, d3, d4] => { results := [.lit (.bool false)], args := [d1, d2, d3, d4] }
  | _ => none }
def TurboFlipsWrongFalsely : Prop := turboFlipsRow.holds Tryd.pinned (OpenSpec.ofChange turboFlipsWrong)

/-- 'userplanelaw08.TurboHolds': WHATEVER THE INPUT: true; the input reads as it did. -/
def turboHoldsSpec : ChangeSpec := { name := "turboHolds", fn := fun _ => fun
  | [d1, d2] => { results := [.lit (.bool true)], args := [d1, d2] }
  | _ => none }
def turboHoldsRow : OpenClaim := { program := "ytbpkoilecdejiaadoor", sum := "5c25800b3293e95165d68859fd0831977bdb3cfb1ad3eb81f2322ed9753acb39", func := "userplane/userplanelaw08.TurboHolds", spec := "turboHolds", unfollowed := true, recurses := true, named := ["userplane/segment.ranges"], apart := false, laid := [("userplane/segment.ranges", laid_userplane_segment_ranges)] }
def TurboHoldsSaid : Prop := turboHoldsRow.holds Tryd.pinned (OpenSpec.ofChange turboHoldsSpec)

/-- ITS FALSE NEIGHBOUR: 'it returns false'. Refute it at one input. -/
def turboHoldsWrong : ChangeSpec := { name := "turboHolds", fn := fun _ => fun
  | [d1, d2] => { results := [.lit (.bool false)], args := [d1, d2] }
  | _ => none }
def TurboHoldsWrongFalsely : Prop := turboHoldsRow.holds Tryd.pinned (OpenSpec.ofChange turboHoldsWrong)

/- THE SECOND FORM. 'bulk': how many values and letters a reading holds, each counted each time it is reached (what is shared counts as often as it is met; a slice's spare places count too). A statement '..UptoSaid' is the law's where the arguments, and the package variables that the reading takes, are together of bulk at most 1048576: NARROWER than '..Said'. Prove '..Said' where nothing that the law and all that it calls make is longer than what came in: it says more and counts as full. Else prove '..UptoSaid'. A law counts once. -/
mutual
def uptoBulk {H : Type} : DataW H → Nat
  | .lit (.string bytes) => bytes.length + 1
  | .lit _ => 1
  | .nil => 1
  | .ptr d => uptoBulk d + 1
  | .slice elems spare => uptoBulkAll elems + uptoBulkAll spare + 1
  | .agg parts => uptoBulkAll parts + 1
  | .iface _ d => uptoBulk d + 1
  | .map entries => uptoBulkEntries entries + 1
  | .held _ => 1
def uptoBulkAll {H : Type} : List (DataW H) → Nat
  | [] => 0
  | d :: r => uptoBulk d + uptoBulkAll r
def uptoBulkEntries {H : Type} : List (Lit × DataW H) → Nat
  | [] => 0
  | x :: r => uptoBulkEntry x + uptoBulkEntries r
def uptoBulkEntry {H : Type} : Lit × DataW H → Nat
  | (.string bytes, d) => bytes.length + uptoBulk d + 1
  | (_, d) => uptoBulk d + 1
 end
def uptoSmall : (H : Type) → List (DataW H) → Bool := fun _ ds => decide (uptoBulkAll ds ≤ 1048576)
def OpenSpec.upto (s : _root_.Go.ChangeSpec) : _root_.Go.OpenSpec := { _root_.Go.OpenSpec.ofChange s with cond := some uptoSmall }

/-- 'userplanelaw08.TurboEncodes', WHERE WHAT IT READS IS OF BULK AT MOST 1048576: true; the input reads as it did. -/
def turboEncodesUptoRow : OpenClaim := { program := "ytbpkoilecdejiaadoor", sum := "5c25800b3293e95165d68859fd0831977bdb3cfb1ad3eb81f2322ed9753acb39", func := "userplane/userplanelaw08.TurboEncodes", spec := "turboEncodes", unfollowed := true, recurses := true, named := ["userplane/segment.ranges"], apart := false, laid := [("userplane/segment.ranges", laid_userplane_segment_ranges)], narrowed := true }
def TurboEncodesUptoSaid : Prop := turboEncodesUptoRow.holds Tryd.pinned (OpenSpec.upto turboEncodesSpec)

/-- 'userplanelaw08.TurboChecks', WHERE WHAT IT READS IS OF BULK AT MOST 1048576: true; the input reads as it did. -/
def turboChecksUptoRow : OpenClaim := { program := "ytbpkoilecdejiaadoor", sum := "5c25800b3293e95165d68859fd0831977bdb3cfb1ad3eb81f2322ed9753acb39", func := "userplane/userplanelaw08.TurboChecks", spec := "turboChecks", unfollowed := true, recurses := true, named := ["userplane/segment.ranges"], apart := false, laid := [("userplane/segment.ranges", laid_userplane_segment_ranges)], narrowed := true }
def TurboChecksUptoSaid : Prop := turboChecksUptoRow.holds Tryd.pinned (OpenSpec.upto turboChecksSpec)

/-- 'userplanelaw08.TurboLayouts', WHERE WHAT IT READS IS OF BULK AT MOST 1048576: true; the input reads as it did. -/
def turboLayoutsUptoRow : OpenClaim := { program := "ytbpkoilecdejiaadoor", sum := "5c25800b3293e95165d68859fd0831977bdb3cfb1ad3eb81f2322ed9753acb39", func := "userplane/userplanelaw08.TurboLayouts", spec := "turboLayouts", unfollowed := true, recurses := true, named := ["userplane/segment.ranges"], apart := false, laid := [("userplane/segment.ranges", laid_userplane_segment_ranges)], narrowed := true }
def TurboLayoutsUptoSaid : Prop := turboLayoutsUptoRow.holds Tryd.pinned (OpenSpec.upto turboLayoutsSpec)

/-- 'userplanelaw08.TurboLinear', WHERE WHAT IT READS IS OF BULK AT MOST 1048576: true; the input reads as it did. -/
def turboLinearUptoRow : OpenClaim := { program := "ytbpkoilecdejiaadoor", sum := "5c25800b3293e95165d68859fd0831977bdb3cfb1ad3eb81f2322ed9753acb39", func := "userplane/userplanelaw08.TurboLinear", spec := "turboLinear", unfollowed := true, recurses := true, named := ["userplane/segment.ranges"], apart := false, laid := [("userplane/segment.ranges", laid_userplane_segment_ranges)], narrowed := true }
def TurboLinearUptoSaid : Prop := turboLinearUptoRow.holds Tryd.pinned (OpenSpec.upto turboLinearSpec)

/-- 'userplanelaw08.TurboLists', WHERE WHAT IT READS IS OF BULK AT MOST 1048576: true; the input reads as it did. -/
def turboListsUptoRow : OpenClaim := { program := "ytbpkoilecdejiaadoor", sum := "5c25800b3293e95165d68859fd0831977bdb3cfb1ad3eb81f2322ed9753acb39", func := "userplane/userplanelaw08.TurboLists", spec := "turboLists", unfollowed := true, recurses := true, named := ["userplane/segment.ranges"], apart := false, laid := [("userplane/segment.ranges", laid_userplane_segment_ranges)], narrowed := true }
def TurboListsUptoSaid : Prop := turboListsUptoRow.holds Tryd.pinned (OpenSpec.upto turboListsSpec)

/-- 'userplanelaw08.TurboFlips', WHERE WHAT IT READS IS OF BULK AT MOST 1048576: true; the input reads as it did. -/
def turboFlipsUptoRow : OpenClaim := { program := "ytbpkoilecdejiaadoor", sum := "5c25800b3293e95165d68859fd0831977bdb3cfb1ad3eb81f2322ed9753acb39", func := "userplane/userplanelaw08.TurboFlips", spec := "turboFlips", unfollowed := true, recurses := true, named := ["userplane/segment.ranges"], apart := false, laid := [("userplane/segment.ranges", laid_userplane_segment_ranges)], narrowed := true }
def TurboFlipsUptoSaid : Prop := turboFlipsUptoRow.holds Tryd.pinned (OpenSpec.upto turboFlipsSpec)

/-- 'userplanelaw08.TurboHolds', WHERE WHAT IT READS IS OF BULK AT MOST 1048576: true; the input reads as it did. -/
def turboHoldsUptoRow : OpenClaim := { program := "ytbpkoilecdejiaadoor", sum := "5c25800b3293e95165d68859fd0831977bdb3cfb1ad3eb81f2322ed9753acb39", func := "userplane/userplanelaw08.TurboHolds", spec := "turboHolds", unfollowed := true, recurses := true, named := ["userplane/segment.ranges"], apart := false, laid := [("userplane/segment.ranges", laid_userplane_segment_ranges)], narrowed := true }
def TurboHoldsUptoSaid : Prop := turboHoldsUptoRow.holds Tryd.pinned (OpenSpec.upto turboHoldsSpec)

end Rows
end Go.Proofs.YtbpkoilecdejiaaDoor
