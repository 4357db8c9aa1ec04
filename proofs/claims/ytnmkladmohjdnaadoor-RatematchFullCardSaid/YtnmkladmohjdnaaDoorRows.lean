/-
  NARROWER THAN 'FOR EVERY INPUT', by the rows' own cells (each row's printed sentence says how): RatematchBuffers: laid · RatematchStarts: laid · RatematchPositions: laid · RatematchCovers: laid · RatematchFollows: laid · RatematchFull: laid · RatematchMost: laid.
  DERIVED. THE GIVEN ROWS OF THIS SEAT. 7 by the template 'for every input the law returns true; each argument reads behind the call as it read before'; 0 by the template 'total and deterministic' (their statements: YtnmkladmohjdnaaDoorTotals.lean).
  GIVEN WITH THE SEED: the statements are not yours to turn. If you find one false, say at which input.
  Laid BY PROGRAM, IN A SANDBOX (cutbox-rows.mjs): the forced cells as the released guide's own fill.sh prints them over the translation ced7f017db211d6c… (all of the seat's roots in one cut). By AI agents, Wed Nov 11 2026. No macro, syntax, notation, axiom, sorry.
-/
import Derived.Test.YtnmkladmohjdnaaDoorChecked
import GoSem.Claim
import GoSem.ClaimJoined
import GoSem.ClaimMapViews
import Derived.JoinedTies
import Derived.KernelRfl
namespace Go.Proofs.YtnmkladmohjdnaaDoor
/- THE CELL 'sum', in the pinned program and in every row, IS THE sha256 OF THE DUMP (.gsa) THAT YtnmkladmohjdnaaDoorProg.lean LOADS. Nothing in Lean hashes anything: it is a label: what it is worth is what the hold of that sum in a sandbox is worth. -/
noncomputable def Tryd.pinned : Pinned := { name := "ytnmkladmohjdnaadoor", sum := "ced7f017db211d6c0d9f4f6b82857a2b44a8bbeffdda26fccd1109054fd816a3", checked := Tryd.checked }
namespace Rows
def none {H : Type} : Left H := { results := [], args := [] }

/- WHAT THE LISTED PACKAGE-LEVEL VARIABLES READ AS WHEN THE CALL BEGINS. Each datum BY PROGRAM (the guide's laid-datum.mjs) off the statement by which the dump's own 'gosem.cut.vars' lays the variable. In a bare row this is a premise. The card (YtnmkladmohjdnaaDoorCards.lean) ties it to the program's text. -/
def laid_userplane_subblock_columns {H : Type} : DataW H := .agg [.lit (.int .i64 0), .lit (.int .i64 16), .lit (.int .i64 8), .lit (.int .i64 24), .lit (.int .i64 4), .lit (.int .i64 20), .lit (.int .i64 12), .lit (.int .i64 28), .lit (.int .i64 2), .lit (.int .i64 18), .lit (.int .i64 10), .lit (.int .i64 26), .lit (.int .i64 6), .lit (.int .i64 22), .lit (.int .i64 14), .lit (.int .i64 30), .lit (.int .i64 1), .lit (.int .i64 17), .lit (.int .i64 9), .lit (.int .i64 25), .lit (.int .i64 5), .lit (.int .i64 21), .lit (.int .i64 13), .lit (.int .i64 29), .lit (.int .i64 3), .lit (.int .i64 19), .lit (.int .i64 11), .lit (.int .i64 27), .lit (.int .i64 7), .lit (.int .i64 23), .lit (.int .i64 15), .lit (.int .i64 31)]

/-- 'userplanelaw10.RatematchBuffers': WHATEVER THE INPUT: true; the input reads as it did. -/
def ratematchBuffersSpec : ChangeSpec := { name := "ratematchBuffers", fn := fun _ => fun
  | [d1, d2, d3] => { results := [.lit (.bool true)], args := [d1, d2, d3] }
  | _ => none }
def ratematchBuffersRow : OpenClaim := { program := "ytnmkladmohjdnaadoor", sum := "ced7f017db211d6c0d9f4f6b82857a2b44a8bbeffdda26fccd1109054fd816a3", func := "userplane/userplanelaw10.RatematchBuffers", spec := "ratematchBuffers", unfollowed := true, recurses := true, named := ["userplane/subblock.columns"], apart := false, laid := [("userplane/subblock.columns", laid_userplane_subblock_columns)] }
def RatematchBuffersSaid : Prop := ratematchBuffersRow.holds Tryd.pinned (OpenSpec.ofChange ratematchBuffersSpec)

/-- ITS FALSE NEIGHBOUR: 'it returns false'. Refute it at one input. -/
def ratematchBuffersWrong : ChangeSpec := { name := "ratematchBuffers", fn := fun _ => fun
  | [d1, d2, d3] => { results := [.lit (.bool false)], args := [d1, d2, d3] }
  | _ => none }
def RatematchBuffersWrongFalsely : Prop := ratematchBuffersRow.holds Tryd.pinned (OpenSpec.ofChange ratematchBuffersWrong)

/-- 'userplanelaw10.RatematchStarts': WHATEVER THE INPUT: true; the input reads as it did. -/
def ratematchStartsSpec : ChangeSpec := { name := "ratematchStarts", fn := fun _ => fun
  | [d1, d2, d3] => { results := [.lit (.bool true)], args := [d1, d2, d3] }
  | _ => none }
def ratematchStartsRow : OpenClaim := { program := "ytnmkladmohjdnaadoor", sum := "ced7f017db211d6c0d9f4f6b82857a2b44a8bbeffdda26fccd1109054fd816a3", func := "userplane/userplanelaw10.RatematchStarts", spec := "ratematchStarts", unfollowed := true, recurses := true, named := ["userplane/subblock.columns"], apart := false, laid := [("userplane/subblock.columns", laid_userplane_subblock_columns)] }
def RatematchStartsSaid : Prop := ratematchStartsRow.holds Tryd.pinned (OpenSpec.ofChange ratematchStartsSpec)

/-- ITS FALSE NEIGHBOUR: 'it returns false'. Refute it at one input. -/
def ratematchStartsWrong : ChangeSpec := { name := "ratematchStarts", fn := fun _ => fun
  | [d1, d2, d3] => { results := [.lit (.bool false)], args := [d1, d2, d3] }
  | _ => none }
def RatematchStartsWrongFalsely : Prop := ratematchStartsRow.holds Tryd.pinned (OpenSpec.ofChange ratematchStartsWrong)

/-- 'userplanelaw10.RatematchPositions': WHATEVER THE INPUT: true; the input reads as it did. -/
def ratematchPositionsSpec : ChangeSpec := { name := "ratematchPositions", fn := fun _ => fun
  | [d1, d2, d3, d4, d5] => { results := [.lit (.bool true)], args := [d1, d2, d3, d4, d5] }
  | _ => none }
def ratematchPositionsRow : OpenClaim := { program := "ytnmkladmohjdnaadoor", sum := "ced7f017db211d6c0d9f4f6b82857a2b44a8bbeffdda26fccd1109054fd816a3", func := "userplane/userplanelaw10.RatematchPositions", spec := "ratematchPositions", unfollowed := true, recurses := true, named := ["userplane/subblock.columns"], apart := false, laid := [("userplane/subblock.columns", laid_userplane_subblock_columns)] }
def RatematchPositionsSaid : Prop := ratematchPositionsRow.holds Tryd.pinned (OpenSpec.ofChange ratematchPositionsSpec)

/-- ITS FALSE NEIGHBOUR: 'it returns false'. Refute it at one input. -/
def ratematchPositionsWrong : ChangeSpec := { name := "ratematchPositions", fn := fun _ => fun
  | [d1, d2, d3, d4, d5] => { results := [.lit (.bool false)], args := [d1, d2, d3, d4, d5] }
  | _ => none }
def RatematchPositionsWrongFalsely : Prop := ratematchPositionsRow.holds Tryd.pinned (OpenSpec.ofChange ratematchPositionsWrong)

/-- 'userplanelaw10.RatematchCovers': WHATEVER THE INPUT: true; the input reads as it did. -/
def ratematchCoversSpec : ChangeSpec := { name := "ratematchCovers", fn := fun _ => fun
  | [d1, d2, d3, d4, d5] => { results := [.lit (.bool true)], args := [d1, d2, d3, d4, d5] }
  | _ => none }
def ratematchCoversRow : OpenClaim := { program := "ytnmkladmohjdnaadoor", sum := "ced7f017db211d6c0d9f4f6b82857a2b44a8bbeffdda26fccd1109054fd816a3", func := "userplane/userplanelaw10.RatematchCovers", spec := "ratematchCovers", unfollowed := true, recurses := true, named := ["userplane/subblock.columns"], apart := false, laid := [("userplane/subblock.columns", laid_userplane_subblock_columns)] }
def RatematchCoversSaid : Prop := ratematchCoversRow.holds Tryd.pinned (OpenSpec.ofChange ratematchCoversSpec)

/-- ITS FALSE NEIGHBOUR: 'it returns false'. Refute it at one input. -/
def ratematchCoversWrong : ChangeSpec := { name := "ratematchCovers", fn := fun _ => fun
  | [d1, d2, d3, d4, d5] => { results := [.lit (.bool false)], args := [d1, d2, d3, d4, d5] }
  | _ => none }
def RatematchCoversWrongFalsely : Prop := ratematchCoversRow.holds Tryd.pinned (OpenSpec.ofChange ratematchCoversWrong)

/-- 'userplanelaw10.RatematchFollows': WHATEVER THE INPUT: true; the input reads as it did. -/
def ratematchFollowsSpec : ChangeSpec := { name := "ratematchFollows", fn := fun _ => fun
  | [d1, d2, d3, d4, d5, d6] => { results := [.lit (.bool true)], args := [d1, d2, d3, d4, d5, d6] }
  | _ => none }
def ratematchFollowsRow : OpenClaim := { program := "ytnmkladmohjdnaadoor", sum := "ced7f017db211d6c0d9f4f6b82857a2b44a8bbeffdda26fccd1109054fd816a3", func := "userplane/userplanelaw10.RatematchFollows", spec := "ratematchFollows", unfollowed := true, recurses := true, named := ["userplane/subblock.columns"], apart := false, laid := [("userplane/subblock.columns", laid_userplane_subblock_columns)] }
def RatematchFollowsSaid : Prop := ratematchFollowsRow.holds Tryd.pinned (OpenSpec.ofChange ratematchFollowsSpec)

/-- ITS FALSE NEIGHBOUR: 'it returns false'. Refute it at one input. -/
def ratematchFollowsWrong : ChangeSpec := { name := "ratematchFollows", fn := fun _ => fun
  | [d1, d2, d3, d4, d5, d6] => { results := [.lit (.bool false)], args := [d1, d2, d3, d4, d5, d6] }
  | _ => none }
def RatematchFollowsWrongFalsely : Prop := ratematchFollowsRow.holds Tryd.pinned (OpenSpec.ofChange ratematchFollowsWrong)

/-- 'userplanelaw10.RatematchFull': WHATEVER THE INPUT: true; the input reads as it did. -/
def ratematchFullSpec : ChangeSpec := { name := "ratematchFull", fn := fun _ => fun
  | [d1, d2] => { results := [.lit (.bool true)], args := [d1, d2] }
  | _ => none }
def ratematchFullRow : OpenClaim := { program := "ytnmkladmohjdnaadoor", sum := "ced7f017db211d6c0d9f4f6b82857a2b44a8bbeffdda26fccd1109054fd816a3", func := "userplane/userplanelaw10.RatematchFull", spec := "ratematchFull", unfollowed := true, recurses := true, named := ["userplane/subblock.columns"], apart := false, laid := [("userplane/subblock.columns", laid_userplane_subblock_columns)] }
def RatematchFullSaid : Prop := ratematchFullRow.holds Tryd.pinned (OpenSpec.ofChange ratematchFullSpec)

/-- ITS FALSE NEIGHBOUR: 'it returns false'. Refute it at one input. -/
def ratematchFullWrong : ChangeSpec := { name := "ratematchFull", fn := fun _ => fun
  | [d1, d2] => { results := [.lit (.bool false)], args := [d1, d2] }
  | _ => none }
def RatematchFullWrongFalsely : Prop := ratematchFullRow.holds Tryd.pinned (OpenSpec.ofChange ratematchFullWrong)

/-- 'userplanelaw10.RatematchMost': WHATEVER THE INPUT: true; the input reads as it did. -/
def ratematchMostSpec : ChangeSpec := { name := "ratematchMost", fn := fun _ => fun
  | [d1, d2] => { results := [.lit (.bool true)], args := [d1, d2] }
  | _ => none }
def ratematchMostRow : OpenClaim := { program := "ytnmkladmohjdnaadoor", sum := "ced7f017db211d6c0d9f4f6b82857a2b44a8bbeffdda26fccd1109054fd816a3", func := "userplane/userplanelaw10.RatematchMost", spec := "ratematchMost", unfollowed := true, recurses := true, named := ["userplane/subblock.columns"], apart := false, laid := [("userplane/subblock.columns", laid_userplane_subblock_columns)] }
def RatematchMostSaid : Prop := ratematchMostRow.holds Tryd.pinned (OpenSpec.ofChange ratematchMostSpec)

/-- ITS FALSE NEIGHBOUR: 'it returns false'. Refute it at one input. -/
def ratematchMostWrong : ChangeSpec := { name := "ratematchMost", fn := fun _ => fun
  | [d1, d2] => { results := [.lit (.bool false)], args := [d1, d2] }
  | _ => none }
def RatematchMostWrongFalsely : Prop := ratematchMostRow.holds Tryd.pinned (OpenSpec.ofChange ratematchMostWrong)

/- THE SECOND FORM. 'bulk': how many values and letters a reading holds, each counted each time it is reached (what is shared counts as often as it is met; a slice's spare places count too). A statement '..UptoSaid' is the law's where the arguments, and the package variables that the reading takes, are together of bulk at most 1048576: NARROWER than '..Said'. Prove '..Said' where nothing that the law and all that it calls make is longer than what came in: it says more and counts as full. Else prove '..UptoSaid'. A law counts once. -/
mutual
def uptoBulk {H : Type} : DataW H → Nat
  | .lit (.string bytes) => bytes.length + 1
  | .lit _ => 1
  | .nil => 1
  | .ptr d => uptoBulk d + 1
  | .slice elems spare => uptoBulkAll elems + uptoBulkAll spare + 1
  | .agg parts => uptoBulkAll parts + 1
  | .iface _ d => uptoBulk d + 1
  | .map entries => uptoBulkEntries entries + 1
  | .held _ => 1
def uptoBulkAll {H : Type} : List (DataW H) → Nat
  | [] => 0
  | d :: r => uptoBulk d + uptoBulkAll r
def uptoBulkEntries {H : Type} : List (Lit × DataW H) → Nat
  | [] => 0
  | x :: r => uptoBulkEntry x + uptoBulkEntries r
def uptoBulkEntry {H : Type} : Lit × DataW H → Nat
  | (.string bytes, d) => bytes.length + uptoBulk d + 1
  | (_, d) => uptoBulk d + 1
 end
def uptoSmall : (H : Type) → List (DataW H) → Bool := fun _ ds => decide (uptoBulkAll ds ≤ 1048576)
def OpenSpec.upto (s : _root_.Go.ChangeSpec) : _root_.Go.OpenSpec := { _root_.Go.OpenSpec.ofChange s with cond := some uptoSmall }

/-- 'userplanelaw10.RatematchBuffers', WHERE WHAT IT READS IS OF BULK AT MOST 1048576: true; the input reads as it did. -/
def ratematchBuffersUptoRow : OpenClaim := { program := "ytnmkladmohjdnaadoor", sum := "ced7f017db211d6c0d9f4f6b82857a2b44a8bbeffdda26fccd1109054fd816a3", func := "userplane/userplanelaw10.RatematchBuffers", spec := "ratematchBuffers", unfollowed := true, recurses := true, named := ["userplane/subblock.columns"], apart := false, laid := [("userplane/subblock.columns", laid_userplane_subblock_columns)], narrowed := true }
def RatematchBuffersUptoSaid : Prop := ratematchBuffersUptoRow.holds Tryd.pinned (OpenSpec.upto ratematchBuffersSpec)

/-- 'userplanelaw10.RatematchStarts', WHERE WHAT IT READS IS OF BULK AT MOST 1048576: true; the input reads as it did. -/
def ratematchStartsUptoRow : OpenClaim := { program := "ytnmkladmohjdnaadoor", sum := "ced7f017db211d6c0d9f4f6b82857a2b44a8bbeffdda26fccd1109054fd816a3", func := "userplane/userplanelaw10.RatematchStarts", spec := "ratematchStarts", unfollowed := true, recurses := true, named := ["userplane/subblock.columns"], apart := false, laid := [("userplane/subblock.columns", laid_userplane_subblock_columns)], narrowed := true }
def RatematchStartsUptoSaid : Prop := ratematchStartsUptoRow.holds Tryd.pinned (OpenSpec.upto ratematchStartsSpec)

/-- 'userplanelaw10.RatematchPositions', WHERE WHAT IT READS IS OF BULK AT MOST 1048576: true; the input reads as it did. -/
def ratematchPositionsUptoRow : OpenClaim := { program := "ytnmkladmohjdnaadoor", sum := "ced7f017db211d6c0d9f4f6b82857a2b44a8bbeffdda26fccd1109054fd816a3", func := "userplane/userplanelaw10.RatematchPositions", spec := "ratematchPositions", unfollowed := true, recurses := true, named := ["userplane/subblock.columns"], apart := false, laid := [("userplane/subblock.columns", laid_userplane_subblock_columns)], narrowed := true }
def RatematchPositionsUptoSaid : Prop := ratematchPositionsUptoRow.holds Tryd.pinned (OpenSpec.upto ratematchPositionsSpec)

/-- 'userplanelaw10.RatematchCovers', WHERE WHAT IT READS IS OF BULK AT MOST 1048576: true; the input reads as it did. -/
def ratematchCoversUptoRow : OpenClaim := { program := "ytnmkladmohjdnaadoor", sum := "ced7f017db211d6c0d9f4f6b82857a2b44a8bbeffdda26fccd1109054fd816a3", func := "userplane/userplanelaw10.RatematchCovers", spec := "ratematchCovers", unfollowed := true, recurses := true, named := ["userplane/subblock.columns"], apart := false, laid := [("userplane/subblock.columns", laid_userplane_subblock_columns)], narrowed := true }
def RatematchCoversUptoSaid : Prop := ratematchCoversUptoRow.holds Tryd.pinned (OpenSpec.upto ratematchCoversSpec)

/-- 'userplanelaw10.RatematchFollows', WHERE WHAT IT READS IS OF BULK AT MOST 1048576: true; the input reads as it did. -/
def ratematchFollowsUptoRow : OpenClaim := { program := "ytnmkladmohjdnaadoor", sum := "ced7f017db211d6c0d9f4f6b82857a2b44a8bbeffdda26fccd1109054fd816a3", func := "userplane/userplanelaw10.RatematchFollows", spec := "ratematchFollows", unfollowed := true, recurses := true, named := ["userplane/subblock.columns"], apart := false, laid := [("userplane/subblock.columns", laid_userplane_subblock_columns)], narrowed := true }
def RatematchFollowsUptoSaid : Prop := ratematchFollowsUptoRow.holds Tryd.pinned (OpenSpec.upto ratematchFollowsSpec)

/-- 'userplanelaw10.RatematchFull', WHERE WHAT IT READS IS OF BULK AT MOST 1048576: true; the input reads as it did. -/
def ratematchFullUptoRow : OpenClaim := { program := "ytnmkladmohjdnaadoor", sum := "ced7f017db211d6c0d9f4f6b82857a2b44a8bbeffdda26fccd1109054fd816a3", func := "userplane/userplanelaw10.RatematchFull", spec := "ratematchFull", unfollowed := true, recurses := true, named := ["userplane/subblock.columns"], apart := false, laid := [("userplane/subblock.columns", laid_userplane_subblock_columns)], narrowed := true }
def RatematchFullUptoSaid : Prop := ratematchFullUptoRow.holds Tryd.pinned (OpenSpec.upto ratematchFullSpec)

/-- 'userplanelaw10.RatematchMost', WHERE WHAT IT READS IS OF BULK AT MOST 1048576: true; the input reads as it did. -/
def ratematchMostUptoRow : OpenClaim := { program := "ytnmkladmohjdnaadoor", sum := "ced7f017db211d6c0d9f4f6b82857a2b44a8bbeffdda26fccd1109054fd816a3", func := "userplane/userplanelaw10.RatematchMost", spec := "ratematchMost", unfollowed := true, recurses := true, named := ["userplane/subblock.columns"], apart := false, laid := [("userplane/subblock.columns", laid_userplane_subblock_columns)], narrowed := true }
def RatematchMostUptoSaid : Prop := ratematchMostUptoRow.holds Tryd.pinned (OpenSpec.upto ratematchMostSpec)

end Rows
end Go.Proofs.YtnmkladmohjdnaaDoor
