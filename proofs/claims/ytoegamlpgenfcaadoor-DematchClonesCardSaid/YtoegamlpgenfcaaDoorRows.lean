/-
  NARROWER THAN 'FOR EVERY INPUT', by the rows' own cells (each row's printed sentence says how): DematchPlays: laid · DematchNews: laid · DematchClones: laid · DematchNone: laid · DematchBounds: laid · DematchHolds: laid.
  DERIVED. THE GIVEN ROWS OF THIS SEAT. 6 by the template 'for every input the law returns true; each argument reads behind the call as it read before'; 0 by the template 'total and deterministic' (their statements: YtoegamlpgenfcaaDoorTotals.lean).
  GIVEN WITH THE SEED: the statements are not yours to turn. If you find one false, say at which input.
  Laid BY PROGRAM, IN A SANDBOX (cutbox-rows.mjs): the forced cells as the released guide's own fill.sh prints them over the translation 98536b071d5d00d3… (all of the seat's roots in one cut). By AI agents, Wed Nov 11 2026. No macro, syntax, notation, axiom, sorry.
-/
import Derived.Test.YtoegamlpgenfcaaDoorChecked
import GoSem.Claim
import GoSem.ClaimJoined
import GoSem.ClaimMapViews
import Derived.JoinedTies
import Derived.KernelRfl
namespace Go.Proofs.YtoegamlpgenfcaaDoor
/- THE CELL 'sum', in the pinned program and in every row, IS THE sha256 OF THE DUMP (.gsa) THAT YtoegamlpgenfcaaDoorProg.lean LOADS. Nothing in Lean hashes anything: it is a label: what it is worth is what the hold of that sum in a sandbox is worth. -/
noncomputable def Tryd.pinned : Pinned := { name := "ytoegamlpgenfcaadoor", sum := "98536b071d5d00d3d2d9f5d0161e7214c2542c01f4fa923831a9ec8d165d9c23", checked := Tryd.checked }
namespace Rows
def none {H : Type} : Left H := { results := [], args := [] }

/- WHAT THE LISTED PACKAGE-LEVEL VARIABLES READ AS WHEN THE CALL BEGINS. Each datum BY PROGRAM (the guide's laid-datum.mjs) off the statement by which the dump's own 'gosem.cut.vars' lays the variable. In a bare row this is a premise. The card (YtoegamlpgenfcaaDoorCards.lean) ties it to the program's text. -/
def laid_userplane_soft_limits {H : Type} : DataW H := .agg [.agg [.lit (.int .i64 (-127)), .lit (.int .i64 127)], .agg [.lit (.int .i64 0), .lit (.int .i64 127)], .agg [.lit (.int .i64 0), .lit (.int .i64 1073741824)], .agg [.lit (.int .i64 1), .lit (.int .i64 1073741824)]]
def laid_userplane_subblock_columns {H : Type} : DataW H := .agg [.lit (.int .i64 0), .lit (.int .i64 16), .lit (.int .i64 8), .lit (.int .i64 24), .lit (.int .i64 4), .lit (.int .i64 20), .lit (.int .i64 12), .lit (.int .i64 28), .lit (.int .i64 2), .lit (.int .i64 18), .lit (.int .i64 10), .lit (.int .i64 26), .lit (.int .i64 6), .lit (.int .i64 22), .lit (.int .i64 14), .lit (.int .i64 30), .lit (.int .i64 1), .lit (.int .i64 17), .lit (.int .i64 9), .lit (.int .i64 25), .lit (.int .i64 5), .lit (.int .i64 21), .lit (.int .i64 13), .lit (.int .i64 29), .lit (.int .i64 3), .lit (.int .i64 19), .lit (.int .i64 11), .lit (.int .i64 27), .lit (.int .i64 7), .lit (.int .i64 23), .lit (.int .i64 15), .lit (.int .i64 31)]

/-- 'userplanelaw12.DematchPlays': WHATEVER THE INPUT: true; the input reads as it did. -/
def dematchPlaysSpec : ChangeSpec := { name := "dematchPlays", fn := fun _ => fun
  | [d1, d2, d3, d4] => { results := [.lit (.bool true)], args := [d1, d2, d3, d4] }
  | _ => none }
def dematchPlaysRow : OpenClaim := { program := "ytoegamlpgenfcaadoor", sum := "98536b071d5d00d3d2d9f5d0161e7214c2542c01f4fa923831a9ec8d165d9c23", func := "userplane/userplanelaw12.DematchPlays", spec := "dematchPlays", unfollowed := true, recurses := true, named := ["userplane/soft.limits", "userplane/subblock.columns"], apart := false, laid := [("userplane/soft.limits", laid_userplane_soft_limits), ("userplane/subblock.columns", laid_userplane_subblock_columns)] }
def DematchPlaysSaid : Prop := dematchPlaysRow.holds Tryd.pinned (OpenSpec.ofChange dematchPlaysSpec)

/-- ITS FALSE NEIGHBOUR: 'it returns false'. Refute it at one input. -/
def dematchPlaysWrong : ChangeSpec := { name := "dematchPlays", fn := fun _ => fun
  | [d1, d2, d3, d4] => { results := [.lit (.bool false)], args := [d1, d2, d3, d4] }
  | _ => none }
def DematchPlaysWrongFalsely : Prop := dematchPlaysRow.holds Tryd.pinned (OpenSpec.ofChange dematchPlaysWrong)

/-- 'userplanelaw12.DematchNews': WHATEVER THE INPUT: true; the input reads as it did. -/
def dematchNewsSpec : ChangeSpec := { name := "dematchNews", fn := fun _ => fun
  | [d1, d2, d3] => { results := [.lit (.bool true)], args := [d1, d2, d3] }
  | _ => none }
def dematchNewsRow : OpenClaim := { program := "ytoegamlpgenfcaadoor", sum := "98536b071d5d00d3d2d9f5d0161e7214c2542c01f4fa923831a9ec8d165d9c23", func := "userplane/userplanelaw12.DematchNews", spec := "dematchNews", unfollowed := true, recurses := true, named := ["userplane/soft.limits", "userplane/subblock.columns"], apart := false, laid := [("userplane/soft.limits", laid_userplane_soft_limits), ("userplane/subblock.columns", laid_userplane_subblock_columns)] }
def DematchNewsSaid : Prop := dematchNewsRow.holds Tryd.pinned (OpenSpec.ofChange dematchNewsSpec)

/-- ITS FALSE NEIGHBOUR: 'it returns false'. Refute it at one input. -/
def dematchNewsWrong : ChangeSpec := { name := "dematchNews", fn := fun _ => fun
  | [d1, d2, d3] => { results := [.lit (.bool false)], args := [d1, d2, d3] }
  | _ => none }
def DematchNewsWrongFalsely : Prop := dematchNewsRow.holds Tryd.pinned (OpenSpec.ofChange dematchNewsWrong)

/-- 'userplanelaw12.DematchClones': WHATEVER THE INPUT: true; the input reads as it did. -/
def dematchClonesSpec : ChangeSpec := { name := "dematchClones", fn := fun _ => fun
  | [d1, d2, d3, d4, d5, d6, d7] => { results := [.lit (.bool true)], args := [d1, d2, d3, d4, d5, d6, d7] }
  | _ => none }
def dematchClonesRow : OpenClaim := { program := "ytoegamlpgenfcaadoor", sum := "98536b071d5d00d3d2d9f5d0161e7214c2542c01f4fa923831a9ec8d165d9c23", func := "userplane/userplanelaw12.DematchClones", spec := "dematchClones", unfollowed := true, recurses := true, named := ["userplane/soft.limits", "userplane/subblock.columns"], apart := false, laid := [("userplane/soft.limits", laid_userplane_soft_limits), ("userplane/subblock.columns", laid_userplane_subblock_columns)] }
def DematchClonesSaid : Prop := dematchClonesRow.holds Tryd.pinned (OpenSpec.ofChange dematchClonesSpec)

/-- ITS FALSE NEIGHBOUR: 'it returns false'. Refute it at one input. -/
def dematchClonesWrong : ChangeSpec := { name := "dematchClones", fn := fun _ => fun
  | [d1, d2, d3, d4, d5, d6, d7] => { results := [.lit (.bool false)], args := [d1, d2, d3, d4, d5, d6, d7] }
  | _ => none }
def DematchClonesWrongFalsely : Prop := dematchClonesRow.holds Tryd.pinned (OpenSpec.ofChange dematchClonesWrong)

/-- 'userplanelaw12.DematchNone': WHATEVER THE INPUT: true; the input reads as it did. -/
def dematchNoneSpec : ChangeSpec := { name := "dematchNone", fn := fun _ => fun
  | [d1, d2, d3] => { results := [.lit (.bool true)], args := [d1, d2, d3] }
  | _ => none }
def dematchNoneRow : OpenClaim := { program := "ytoegamlpgenfcaadoor", sum := "98536b071d5d00d3d2d9f5d0161e7214c2542c01f4fa923831a9ec8d165d9c23", func := "userplane/userplanelaw12.DematchNone", spec := "dematchNone", unfollowed := true, recurses := true, named := ["userplane/soft.limits", "userplane/subblock.columns"], apart := false, laid := [("userplane/soft.limits", laid_userplane_soft_limits), ("userplane/subblock.columns", laid_userplane_subblock_columns)] }
def DematchNoneSaid : Prop := dematchNoneRow.holds Tryd.pinned (OpenSpec.ofChange dematchNoneSpec)

/-- ITS FALSE NEIGHBOUR: 'it returns false'. Refute it at one input. -/
def dematchNoneWrong : ChangeSpec := { name := "dematchNone", fn := fun _ => fun
  | [d1, d2, d3] => { results := [.lit (.bool false)], args := [d1, d2, d3] }
  | _ => none }
def DematchNoneWrongFalsely : Prop := dematchNoneRow.holds Tryd.pinned (OpenSpec.ofChange dematchNoneWrong)

/-- 'userplanelaw12.DematchBounds': WHATEVER THE INPUT: true; the input reads as it did. -/
def dematchBoundsSpec : ChangeSpec := { name := "dematchBounds", fn := fun _ => fun
  | [d1, d2] => { results := [.lit (.bool true)], args := [d1, d2] }
  | _ => none }
def dematchBoundsRow : OpenClaim := { program := "ytoegamlpgenfcaadoor", sum := "98536b071d5d00d3d2d9f5d0161e7214c2542c01f4fa923831a9ec8d165d9c23", func := "userplane/userplanelaw12.DematchBounds", spec := "dematchBounds", unfollowed := true, recurses := true, named := ["userplane/soft.limits", "userplane/subblock.columns"], apart := false, laid := [("userplane/soft.limits", laid_userplane_soft_limits), ("userplane/subblock.columns", laid_userplane_subblock_columns)] }
def DematchBoundsSaid : Prop := dematchBoundsRow.holds Tryd.pinned (OpenSpec.ofChange dematchBoundsSpec)

/-- ITS FALSE NEIGHBOUR: 'it returns false'. Refute it at one input. -/
def dematchBoundsWrong : ChangeSpec := { name := "dematchBounds", fn := fun _ => fun
  | [d1, d2] => { results := [.lit (.bool false)], args := [d1, d2] }
  | _ => none }
def DematchBoundsWrongFalsely : Prop := dematchBoundsRow.holds Tryd.pinned (OpenSpec.ofChange dematchBoundsWrong)

/-- 'userplanelaw12.DematchHolds': WHATEVER THE INPUT: true; the input reads as it did. -/
def dematchHoldsSpec : ChangeSpec := { name := "dematchHolds", fn := fun _ => fun
  | [d1, d2, d3, d4, d5, d6, d7] => { results := [.lit (.bool true)], args := [d1, d2, d3, d4, d5, d6, d7] }
  | _ => none }
def dematchHoldsRow : OpenClaim := { program := "ytoegamlpgenfcaadoor", sum := "98536b071d5d00d3d2d9f5d0161e7214c2542c01f4fa923831a9ec8d165d9c23", func := "userplane/userplanelaw12.DematchHolds", spec := "dematchHolds", unfollowed := true, recurses := true, named := ["userplane/soft.limits", "userplane/subblock.columns"], apart := false, laid := [("userplane/soft.limits", laid_userplane_soft_limits), ("userplane/subblock.columns", laid_userplane_subblock_columns)] }
def DematchHoldsSaid : Prop := dematchHoldsRow.holds Tryd.pinned (OpenSpec.ofChange dematchHoldsSpec)

/-- ITS FALSE NEIGHBOUR: 'it returns false'. Refute it at one input. -/
def dematchHoldsWrong : ChangeSpec := { name := "dematchHolds", fn := fun _ => fun
  | [d1, d2, d3, d4, d5, d6, d7] => { results := [.lit (.bool false)], args := [d1, d2, d3, d4, d5, d6, d7] }
  | _ => none }
def DematchHoldsWrongFalsely : Prop := dematchHoldsRow.holds Tryd.pinned (OpenSpec.ofChange dematchHoldsWrong)

/- THE SECOND FORM. 'bulk': how many values and letters a reading holds, each counted each time it is reached (what is shared counts as often as it is met; a slice's spare places count too). A statement '..UptoSaid' is the law's where the arguments, and the package variables that the reading takes, are together of bulk at most 1048576: NARROWER than '..Said'. Prove '..Said' where nothing that the law and all that it calls make is longer than what came in: it says more and counts as full. Else prove '..UptoSaid'. A law counts once. -/
mutual
def uptoBulk {H : Type} : DataW H → Nat
  | .lit (.string bytes) => bytes.length + 1
  | .lit _ => 1
  | .nil => 1
  | .ptr d => uptoBulk d + 1
  | .slice elems spare => uptoBulkAll elems + uptoBulkAll spare + 1
  | .agg parts => uptoBulkAll parts + 1
  | .iface _ d => uptoBulk d + 1
  | .map entries => uptoBulkEntries entries + 1
  | .held _ => 1
def uptoBulkAll {H : Type} : List (DataW H) → Nat
  | [] => 0
  | d :: r => uptoBulk d + uptoBulkAll r
def uptoBulkEntries {H : Type} : List (Lit × DataW H) → Nat
  | [] => 0
  | x :: r => uptoBulkEntry x + uptoBulkEntries r
def uptoBulkEntry {H : Type} : Lit × DataW H → Nat
  | (.string bytes, d) => bytes.length + uptoBulk d + 1
  | (_, d) => uptoBulk d + 1
 end
def uptoSmall : (H : Type) → List (DataW H) → Bool := fun _ ds => decide (uptoBulkAll ds ≤ 1048576)
def OpenSpec.upto (s : _root_.Go.ChangeSpec) : _root_.Go.OpenSpec := { _root_.Go.OpenSpec.ofChange s with cond := some uptoSmall }

/-- 'userplanelaw12.DematchPlays', WHERE WHAT IT READS IS OF BULK AT MOST 1048576: true; the input reads as it did. -/
def dematchPlaysUptoRow : OpenClaim := { program := "ytoegamlpgenfcaadoor", sum := "98536b071d5d00d3d2d9f5d0161e7214c2542c01f4fa923831a9ec8d165d9c23", func := "userplane/userplanelaw12.DematchPlays", spec := "dematchPlays", unfollowed := true, recurses := true, named := ["userplane/soft.limits", "userplane/subblock.columns"], apart := false, laid := [("userplane/soft.limits", laid_userplane_soft_limits), ("userplane/subblock.columns", laid_userplane_subblock_columns)], narrowed := true }
def DematchPlaysUptoSaid : Prop := dematchPlaysUptoRow.holds Tryd.pinned (OpenSpec.upto dematchPlaysSpec)

/-- 'userplanelaw12.DematchNews', WHERE WHAT IT READS IS OF BULK AT MOST 1048576: true; the input reads as it did. -/
def dematchNewsUptoRow : OpenClaim := { program := "ytoegamlpgenfcaadoor", sum := "98536b071d5d00d3d2d9f5d0161e7214c2542c01f4fa923831a9ec8d165d9c23", func := "userplane/userplanelaw12.DematchNews", spec := "dematchNews", unfollowed := true, recurses := true, named := ["userplane/soft.limits", "userplane/subblock.columns"], apart := false, laid := [("userplane/soft.limits", laid_userplane_soft_limits), ("userplane/subblock.columns", laid_userplane_subblock_columns)], narrowed := true }
def DematchNewsUptoSaid : Prop := dematchNewsUptoRow.holds Tryd.pinned (OpenSpec.upto dematchNewsSpec)

/-- 'userplanelaw12.DematchClones', WHERE WHAT IT READS IS OF BULK AT MOST 1048576: true; the input reads as it did. -/
def dematchClonesUptoRow : OpenClaim := { program := "ytoegamlpgenfcaadoor", sum := "98536b071d5d00d3d2d9f5d0161e7214c2542c01f4fa923831a9ec8d165d9c23", func := "userplane/userplanelaw12.DematchClones", spec := "dematchClones", unfollowed := true, recurses := true, named := ["userplane/soft.limits", "userplane/subblock.columns"], apart := false, laid := [("userplane/soft.limits", laid_userplane_soft_limits), ("userplane/subblock.columns", laid_userplane_subblock_columns)], narrowed := true }
def DematchClonesUptoSaid : Prop := dematchClonesUptoRow.holds Tryd.pinned (OpenSpec.upto dematchClonesSpec)

/-- 'userplanelaw12.DematchNone', WHERE WHAT IT READS IS OF BULK AT MOST 1048576: true; the input reads as it did. -/
def dematchNoneUptoRow : OpenClaim := { program := "ytoegamlpgenfcaadoor", sum := "98536b071d5d00d3d2d9f5d0161e7214c2542c01f4fa923831a9ec8d165d9c23", func := "userplane/userplanelaw12.DematchNone", spec := "dematchNone", unfollowed := true, recurses := true, named := ["userplane/soft.limits", "userplane/subblock.columns"], apart := false, laid := [("userplane/soft.limits", laid_userplane_soft_limits), ("userplane/subblock.columns", laid_userplane_subblock_columns)], narrowed := true }
def DematchNoneUptoSaid : Prop := dematchNoneUptoRow.holds Tryd.pinned (OpenSpec.upto dematchNoneSpec)

/-- 'userplanelaw12.DematchBounds', WHERE WHAT IT READS IS OF BULK AT MOST 1048576: true; the input reads as it did. -/
def dematchBoundsUptoRow : OpenClaim := { program := "ytoegamlpgenfcaadoor", sum := "98536b071d5d00d3d2d9f5d0161e7214c2542c01f4fa923831a9ec8d165d9c23", func := "userplane/userplanelaw12.DematchBounds", spec := "dematchBounds", unfollowed := true, recurses := true, named := ["userplane/soft.limits", "userplane/subblock.columns"], apart := false, laid := [("userplane/soft.limits", laid_userplane_soft_limits), ("userplane/subblock.columns", laid_userplane_subblock_columns)], narrowed := true }
def DematchBoundsUptoSaid : Prop := dematchBoundsUptoRow.holds Tryd.pinned (OpenSpec.upto dematchBoundsSpec)

/-- 'userplanelaw12.DematchHolds', WHERE WHAT IT READS IS OF BULK AT MOST 1048576: true; the input reads as it did. -/
def dematchHoldsUptoRow : OpenClaim := { program := "ytoegamlpgenfcaadoor", sum := "98536b071d5d00d3d2d9f5d0161e7214c2542c01f4fa923831a9ec8d165d9c23", func := "userplane/userplanelaw12.DematchHolds", spec := "dematchHolds", unfollowed := true, recurses := true, named := ["userplane/soft.limits", "userplane/subblock.columns"], apart := false, laid := [("userplane/soft.limits", laid_userplane_soft_limits), ("userplane/subblock.columns", laid_userplane_subblock_columns)], narrowed := true }
def DematchHoldsUptoSaid : Prop := dematchHoldsUptoRow.holds Tryd.pinned (OpenSpec.upto dematchHoldsSpec)

end Rows
end Go.Proofs.YtoegamlpgenfcaaDoor
