/-
  NARROWER THAN 'FOR EVERY INPUT', by the rows' own cells (each row's printed sentence says how): SegmentSizes: laid · SegmentPlans: laid · SegmentEach: laid · SegmentSplits: laid · SegmentJoins: laid · SegmentBounds: laid · SegmentHolds: laid.
  DERIVED. THE GIVEN ROWS OF THIS SEAT. 7 by the template 'for every input the law returns true; each argument reads behind the call as it read before'; 0 by the template 'total and deterministic' (their statements: YtkdodmjhpkfhnaaDoorTotals.lean).
  GIVEN WITH THE SEED: the statements are not yours to turn. If you find one false, say at which input.
  Laid BY PROGRAM, IN A SANDBOX (cutbox-rows.mjs): the forced cells as the released guide's own fill.sh prints them over the translation 1ff075061cae5b87… (all of the seat's roots in one cut). By AI agents, Wed Nov 11 2026. No macro, syntax, notation, axiom, sorry.
-/
import Derived.Test.YtkdodmjhpkfhnaaDoorChecked
import GoSem.Claim
import GoSem.ClaimJoined
import GoSem.ClaimMapViews
import Derived.JoinedTies
import Derived.KernelRfl
namespace Go.Proofs.YtkdodmjhpkfhnaaDoor
/- THE CELL 'sum', in the pinned program and in every row, IS THE sha256 OF THE DUMP (.gsa) THAT YtkdodmjhpkfhnaaDoorProg.lean LOADS. Nothing in Lean hashes anything: it is a label: what it is worth is what the hold of that sum in a sandbox is worth. -/
noncomputable def Tryd.pinned : Pinned := { name := "ytkdodmjhpkfhnaadoor", sum := "1ff075061cae5b8728ab4f8aa530c9c3c58ab7dc0e5ea7f723d9140620a3ed0c", checked := Tryd.checked }
namespace Rows
def none {H : Type} : Left H := { results := [], args := [] }

/- WHAT THE LISTED PACKAGE-LEVEL VARIABLES READ AS WHEN THE CALL BEGINS. Each datum BY PROGRAM (the guide's laid-datum.mjs) off the statement by which the dump's own 'gosem.cut.vars' lays the variable. In a bare row this is a premise. The card (YtkdodmjhpkfhnaaDoorCards.lean) ties it to the program's text. -/
def laid_userplane_crc_kinds {H : Type} : DataW H := .agg [.agg [.lit (.int .i64 0), .lit (.int .u32 0)], .agg [.lit (.int .i64 24), .lit (.int .u32 8801531)], .agg [.lit (.int .i64 24), .lit (.int .u32 8388707)], .agg [.lit (.int .i64 16), .lit (.int .u32 4129)], .agg [.lit (.int .i64 8), .lit (.int .u32 155)]]
def laid_userplane_segment_ranges {H : Type} : DataW H := .agg [.agg [.lit (.int .i64 40), .lit (.int .i64 512), .lit (.int .i64 8)], .agg [.lit (.int .i64 528), .lit (.int .i64 1024), .lit (.int .i64 16)], .agg [.lit (.int .i64 1056), .lit (.int .i64 2048), .lit (.int .i64 32)], .agg [.lit (.int .i64 2112), .lit (.int .i64 6144), .lit (.int .i64 64)]]

/-- 'userplanelaw05.SegmentSizes': WHATEVER THE INPUT: true; the input reads as it did. -/
def segmentSizesSpec : ChangeSpec := { name := "segmentSizes", fn := fun _ => fun
  | [d] => { results := [.lit (.bool true)], args := [d] }
  | _ => none }
def segmentSizesRow : OpenClaim := { program := "ytkdodmjhpkfhnaadoor", sum := "1ff075061cae5b8728ab4f8aa530c9c3c58ab7dc0e5ea7f723d9140620a3ed0c", func := "userplane/userplanelaw05.SegmentSizes", spec := "segmentSizes", unfollowed := true, recurses := true, named := ["userplane/segment.ranges", "userplane/crc.kinds"], apart := false, laid := [("userplane/crc.kinds", laid_userplane_crc_kinds), ("userplane/segment.ranges", laid_userplane_segment_ranges)] }
def SegmentSizesSaid : Prop := segmentSizesRow.holds Tryd.pinned (OpenSpec.ofChange segmentSizesSpec)

/-- ITS FALSE NEIGHBOUR: 'it returns false'. Refute it at one input. -/
def segmentSizesWrong : ChangeSpec := { name := "segmentSizes", fn := fun _ => fun
  | [d] => { results := [.lit (.bool false)], args := [d] }
  | _ => none }
def SegmentSizesWrongFalsely : Prop := segmentSizesRow.holds Tryd.pinned (OpenSpec.ofChange segmentSizesWrong)

/-- 'userplanelaw05.SegmentPlans': WHATEVER THE INPUT: true; the input reads as it did. -/
def segmentPlansSpec : ChangeSpec := { name := "segmentPlans", fn := fun _ => fun
  | [d] => { results := [.lit (.bool true)], args := [d] }
  | _ => none }
def segmentPlansRow : OpenClaim := { program := "ytkdodmjhpkfhnaadoor", sum := "1ff075061cae5b8728ab4f8aa530c9c3c58ab7dc0e5ea7f723d9140620a3ed0c", func := "userplane/userplanelaw05.SegmentPlans", spec := "segmentPlans", unfollowed := true, recurses := true, named := ["userplane/crc.kinds", "userplane/segment.ranges"], apart := false, laid := [("userplane/crc.kinds", laid_userplane_crc_kinds), ("userplane/segment.ranges", laid_userplane_segment_ranges)] }
def SegmentPlansSaid : Prop := segmentPlansRow.holds Tryd.pinned (OpenSpec.ofChange segmentPlansSpec)

/-- ITS FALSE NEIGHBOUR: 'it returns false'. Refute it at one input. -/
def segmentPlansWrong : ChangeSpec := { name := "segmentPlans", fn := fun _ => fun
  | [d] => { results := [.lit (.bool false)], args := [d] }
  | _ => none }
def SegmentPlansWrongFalsely : Prop := segmentPlansRow.holds Tryd.pinned (OpenSpec.ofChange segmentPlansWrong)

/-- 'userplanelaw05.SegmentEach': WHATEVER THE INPUT: true; the input reads as it did. -/
def segmentEachSpec : ChangeSpec := { name := "segmentEach", fn := fun _ => fun
  | [d1, d2] => { results := [.lit (.bool true)], args := [d1, d2] }
  | _ => none }
def segmentEachRow : OpenClaim := { program := "ytkdodmjhpkfhnaadoor", sum := "1ff075061cae5b8728ab4f8aa530c9c3c58ab7dc0e5ea7f723d9140620a3ed0c", func := "userplane/userplanelaw05.SegmentEach", spec := "segmentEach", unfollowed := true, recurses := true, named := ["userplane/crc.kinds", "userplane/segment.ranges"], apart := false, laid := [("userplane/crc.kinds", laid_userplane_crc_kinds), ("userplane/segment.ranges", laid_userplane_segment_ranges)] }
def SegmentEachSaid : Prop := segmentEachRow.holds Tryd.pinned (OpenSpec.ofChange segmentEachSpec)

/-- ITS FALSE NEIGHBOUR: 'it returns false'. Refute it at one input. -/
def segmentEachWrong : ChangeSpec := { name := "segmentEach", fn := fun _ => fun
  | [d1, d2] => { results := [.lit (.bool false)], args := [d1, d2] }
  | _ => none }
def SegmentEachWrongFalsely : Prop := segmentEachRow.holds Tryd.pinned (OpenSpec.ofChange segmentEachWrong)

/-- 'userplanelaw05.SegmentSplits': WHATEVER THE INPUT: true; the input reads as it did. -/
def segmentSplitsSpec : ChangeSpec := { name := "segmentSplits", fn := fun _ => fun
  | [d] => { results := [.lit (.bool true)], args := [d] }
  | _ => none }
def segmentSplitsRow : OpenClaim := { program := "ytkdodmjhpkfhnaadoor", sum := "1ff075061cae5b8728ab4f8aa530c9c3c58ab7dc0e5ea7f723d9140620a3ed0c", func := "userplane/userplanelaw05.SegmentSplits", spec := "segmentSplits", unfollowed := true, recurses := true, named := ["userplane/crc.kinds", "userplane/segment.ranges"], apart := false, laid := [("userplane/crc.kinds", laid_userplane_crc_kinds), ("userplane/segment.ranges", laid_userplane_segment_ranges)] }
def SegmentSplitsSaid : Prop := segmentSplitsRow.holds Tryd.pinned (OpenSpec.ofChange segmentSplitsSpec)

/-- ITS FALSE NEIGHBOUR: 'it returns false'. Refute it at one input. -/
def segmentSplitsWrong : ChangeSpec := { name := "segmentSplits", fn := fun _ => fun
  | [d] => { results := [.lit (.bool false)], args := [d] }
  | _ => none }
def SegmentSplitsWrongFalsely : Prop := segmentSplitsRow.holds Tryd.pinned (OpenSpec.ofChange segmentSplitsWrong)

/-- 'userplanelaw05.SegmentJoins': WHATEVER THE INPUT: true; the input reads as it did. -/
def segmentJoinsSpec : ChangeSpec := { name := "segmentJoins", fn := fun _ => fun
  | [d1, d2, d3, d4, d5, d6] => { results := [.lit (.bool true)], args := [d1, d2, d3, d4, d5, d6] }
  | _ => none }
def segmentJoinsRow : OpenClaim := { program := "ytkdodmjhpkfhnaadoor", sum := "1ff075061cae5b8728ab4f8aa530c9c3c58ab7dc0e5ea7f723d9140620a3ed0c", func := "userplane/userplanelaw05.SegmentJoins", spec := "segmentJoins", unfollowed := true, recurses := true, named := ["userplane/crc.kinds", "userplane/segment.ranges"], apart := false, laid := [("userplane/crc.kinds", laid_userplane_crc_kinds), ("userplane/segment.ranges", laid_userplane_segment_ranges)] }
def SegmentJoinsSaid : Prop := segmentJoinsRow.holds Tryd.pinned (OpenSpec.ofChange segmentJoinsSpec)

/-- ITS FALSE NEIGHBOUR: 'it returns false'. Refute it at one input. -/
def segmentJoinsWrong : ChangeSpec := { name := "segmentJoins", fn := fun _ => fun
  | [d1, d2, d3, d4, d5, d6] => { results := [.lit (.bool false)], args := [d1, d2, d3, d4, d5, d6] }
  | _ => none }
def SegmentJoinsWrongFalsely : Prop := segmentJoinsRow.holds Tryd.pinned (OpenSpec.ofChange segmentJoinsWrong)

/-- 'userplanelaw05.SegmentBounds': WHATEVER THE INPUT: true; the input reads as it did. -/
def segmentBoundsSpec : ChangeSpec := { name := "segmentBounds", fn := fun _ => fun
  | [d1, d2] => { results := [.lit (.bool true)], args := [d1, d2] }
  | _ => none }
def segmentBoundsRow : OpenClaim := { program := "ytkdodmjhpkfhnaadoor", sum := "1ff075061cae5b8728ab4f8aa530c9c3c58ab7dc0e5ea7f723d9140620a3ed0c", func := "userplane/userplanelaw05.SegmentBounds", spec := "segmentBounds", unfollowed := true, recurses := true, named := ["userplane/segment.ranges", "userplane/crc.kinds"], apart := false, laid := [("userplane/crc.kinds", laid_userplane_crc_kinds), ("userplane/segment.ranges", laid_userplane_segment_ranges)] }
def SegmentBoundsSaid : Prop := segmentBoundsRow.holds Tryd.pinned (OpenSpec.ofChange segmentBoundsSpec)

/-- ITS FALSE NEIGHBOUR: 'it returns false'. Refute it at one input. -/
def segmentBoundsWrong : ChangeSpec := { name := "segmentBounds", fn := fun _ => fun
  | [d1, d2] => { results := [.lit (.bool false)], args := [d1, d2] }
  | _ => none }
def SegmentBoundsWrongFalsely : Prop := segmentBoundsRow.holds Tryd.pinned (OpenSpec.ofChange segmentBoundsWrong)

/-- 'userplanelaw05.SegmentHolds': WHATEVER THE INPUT: true; the input reads as it did. -/
def segmentHoldsSpec : ChangeSpec := { name := "segmentHolds", fn := fun _ => fun
  | [d1, d2, d3] => { results := [.lit (.bool true)], args := [d1, d2, d3] }
  | _ => none }
def segmentHoldsRow : OpenClaim := { program := "ytkdodmjhpkfhnaadoor", sum := "1ff075061cae5b8728ab4f8aa530c9c3c58ab7dc0e5ea7f723d9140620a3ed0c", func := "userplane/userplanelaw05.SegmentHolds", spec := "segmentHolds", unfollowed := true, recurses := true, named := ["userplane/crc.kinds", "userplane/segment.ranges"], apart := false, laid := [("userplane/crc.kinds", laid_userplane_crc_kinds), ("userplane/segment.ranges", laid_userplane_segment_ranges)] }
def SegmentHoldsSaid : Prop := segmentHoldsRow.holds Tryd.pinned (OpenSpec.ofChange segmentHoldsSpec)

/-- ITS FALSE NEIGHBOUR: 'it returns false'. Refute it at one input. -/
def segmentHoldsWrong : ChangeSpec := { name := "segmentHolds", fn := fun _ => fun
  | [d1, d2, d3] => { results := [.lit (.bool false)], args := [d1, d2, d3] }
  | _ => none }
def SegmentHoldsWrongFalsely : Prop := segmentHoldsRow.holds Tryd.pinned (OpenSpec.ofChange segmentHoldsWrong)

/- THE SECOND FORM. 'bulk': how many values and letters a reading holds, each counted each time it is reached (what is shared counts as often as it is met; a slice's spare places count too). A statement '..UptoSaid' is the law's where the arguments, and the package variables that the reading takes, are together of bulk at most 1048576: NARROWER than '..Said'. Prove '..Said' where nothing that the law and all that it calls make is longer than what came in: it says more and counts as full. Else prove '..UptoSaid'. A law counts once. -/
mutual
def uptoBulk {H : Type} : DataW H → Nat
  | .lit (.string bytes) => bytes.length + 1
  | .lit _ => 1
  | .nil => 1
  | .ptr d => uptoBulk d + 1
  | .slice elems spare => uptoBulkAll elems + uptoBulkAll spare + 1
  | .agg parts => uptoBulkAll parts + 1
  | .iface _ d => uptoBulk d + 1
  | .map entries => uptoBulkEntries entries + 1
  | .held _ => 1
def uptoBulkAll {H : Type} : List (DataW H) → Nat
  | [] => 0
  | d :: r => uptoBulk d + uptoBulkAll r
def uptoBulkEntries {H : Type} : List (Lit × DataW H) → Nat
  | [] => 0
  | x :: r => uptoBulkEntry x + uptoBulkEntries r
def uptoBulkEntry {H : Type} : Lit × DataW H → Nat
  | (.string bytes, d) => bytes.length + uptoBulk d + 1
  | (_, d) => uptoBulk d + 1
 end
def uptoSmall : (H : Type) → List (DataW H) → Bool := fun _ ds => decide (uptoBulkAll ds ≤ 1048576)
def OpenSpec.upto (s : _root_.Go.ChangeSpec) : _root_.Go.OpenSpec := { _root_.Go.OpenSpec.ofChange s with cond := some uptoSmall }

/-- 'userplanelaw05.SegmentSizes', WHERE WHAT IT READS IS OF BULK AT MOST 1048576: true; the input reads as it did. -/
def segmentSizesUptoRow : OpenClaim := { program := "ytkdodmjhpkfhnaadoor", sum := "1ff075061cae5b8728ab4f8aa530c9c3c58ab7dc0e5ea7f723d9140620a3ed0c", func := "userplane/userplanelaw05.SegmentSizes", spec := "segmentSizes", unfollowed := true, recurses := true, named := ["userplane/segment.ranges", "userplane/crc.kinds"], apart := false, laid := [("userplane/crc.kinds", laid_userplane_crc_kinds), ("userplane/segment.ranges", laid_userplane_segment_ranges)], narrowed := true }
def SegmentSizesUptoSaid : Prop := segmentSizesUptoRow.holds Tryd.pinned (OpenSpec.upto segmentSizesSpec)

/-- 'userplanelaw05.SegmentPlans', WHERE WHAT IT READS IS OF BULK AT MOST 1048576: true; the input reads as it did. -/
def segmentPlansUptoRow : OpenClaim := { program := "ytkdodmjhpkfhnaadoor", sum := "1ff075061cae5b8728ab4f8aa530c9c3c58ab7dc0e5ea7f723d9140620a3ed0c", func := "userplane/userplanelaw05.SegmentPlans", spec := "segmentPlans", unfollowed := true, recurses := true, named := ["userplane/crc.kinds", "userplane/segment.ranges"], apart := false, laid := [("userplane/crc.kinds", laid_userplane_crc_kinds), ("userplane/segment.ranges", laid_userplane_segment_ranges)], narrowed := true }
def SegmentPlansUptoSaid : Prop := segmentPlansUptoRow.holds Tryd.pinned (OpenSpec.upto segmentPlansSpec)

/-- 'userplanelaw05.SegmentEach', WHERE WHAT IT READS IS OF BULK AT MOST 1048576: true; the input reads as it did. -/
def segmentEachUptoRow : OpenClaim := { program := "ytkdodmjhpkfhnaadoor", sum := "1ff075061cae5b8728ab4f8aa530c9c3c58ab7dc0e5ea7f723d9140620a3ed0c", func := "userplane/userplanelaw05.SegmentEach", spec := "segmentEach", unfollowed := true, recurses := true, named := ["userplane/crc.kinds", "userplane/segment.ranges"], apart := false, laid := [("userplane/crc.kinds", laid_userplane_crc_kinds), ("userplane/segment.ranges", laid_userplane_segment_ranges)], narrowed := true }
def SegmentEachUptoSaid : Prop := segmentEachUptoRow.holds Tryd.pinned (OpenSpec.upto segmentEachSpec)

/-- 'userplanelaw05.SegmentSplits', WHERE WHAT IT READS IS OF BULK AT MOST 1048576: true; the input reads as it did. -/
def segmentSplitsUptoRow : OpenClaim := { program := "ytkdodmjhpkfhnaadoor", sum := "1ff075061cae5b8728ab4f8aa530c9c3c58ab7dc0e5ea7f723d9140620a3ed0c", func := "userplane/userplanelaw05.SegmentSplits", spec := "segmentSplits", unfollowed := true, recurses := true, named := ["userplane/crc.kinds", "userplane/segment.ranges"], apart := false, laid := [("userplane/crc.kinds", laid_userplane_crc_kinds), ("userplane/segment.ranges", laid_userplane_segment_ranges)], narrowed := true }
def SegmentSplitsUptoSaid : Prop := segmentSplitsUptoRow.holds Tryd.pinned (OpenSpec.upto segmentSplitsSpec)

/-- 'userplanelaw05.SegmentJoins', WHERE WHAT IT READS IS OF BULK AT MOST 1048576: true; the input reads as it did. -/
def segmentJoinsUptoRow : OpenClaim := { program := "ytkdodmjhpkfhnaadoor", sum := "1ff075061cae5b8728ab4f8aa530c9c3c58ab7dc0e5ea7f723d9140620a3ed0c", func := "userplane/userplanelaw05.SegmentJoins", spec := "segmentJoins", unfollowed := true, recurses := true, named := ["userplane/crc.kinds", "userplane/segment.ranges"], apart := false, laid := [("userplane/crc.kinds", laid_userplane_crc_kinds), ("userplane/segment.ranges", laid_userplane_segment_ranges)], narrowed := true }
def SegmentJoinsUptoSaid : Prop := segmentJoinsUptoRow.holds Tryd.pinned (OpenSpec.upto segmentJoinsSpec)

/-- 'userplanelaw05.SegmentBounds', WHERE WHAT IT READS IS OF BULK AT MOST 1048576: true; the input reads as it did. -/
def segmentBoundsUptoRow : OpenClaim := { program := "ytkdodmjhpkfhnaadoor", sum := "1ff075061cae5b8728ab4f8aa530c9c3c58ab7dc0e5ea7f723d9140620a3ed0c", func := "userplane/userplanelaw05.SegmentBounds", spec := "segmentBounds", unfollowed := true, recurses := true, named := ["userplane/segment.ranges", "userplane/crc.kinds"], apart := false, laid := [("userplane/crc.kinds", laid_userplane_crc_kinds), ("userplane/segment.ranges", laid_userplane_segment_ranges)], narrowed := true }
def SegmentBoundsUptoSaid : Prop := segmentBoundsUptoRow.holds Tryd.pinned (OpenSpec.upto segmentBoundsSpec)

/-- 'userplanelaw05.SegmentHolds', WHERE WHAT IT READS IS OF BULK AT MOST 1048576: true; the input reads as it did. -/
def segmentHoldsUptoRow : OpenClaim := { program := "ytkdodmjhpkfhnaadoor", sum := "1ff075061cae5b8728ab4f8aa530c9c3c58ab7dc0e5ea7f723d9140620a3ed0c", func := "userplane/userplanelaw05.SegmentHolds", spec := "segmentHolds", unfollowed := true, recurses := true, named := ["userplane/crc.kinds", "userplane/segment.ranges"], apart := false, laid := [("userplane/crc.kinds", laid_userplane_crc_kinds), ("userplane/segment.ranges", laid_userplane_segment_ranges)], narrowed := true }
def SegmentHoldsUptoSaid : Prop := segmentHoldsUptoRow.holds Tryd.pinned (OpenSpec.upto segmentHoldsSpec)

end Rows
end Go.Proofs.YtkdodmjhpkfhnaaDoor
