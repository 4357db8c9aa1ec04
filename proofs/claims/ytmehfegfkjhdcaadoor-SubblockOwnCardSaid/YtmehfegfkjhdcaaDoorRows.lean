/-
  NARROWER THAN 'FOR EVERY INPUT', by the rows' own cells (each row's printed sentence says how): SubblockOrders: laid · SubblockOnce: laid · SubblockColumns: laid · SubblockShifts: laid · SubblockInterleaves: laid · SubblockBack: laid · SubblockAgain: laid · SubblockOwn: laid.
  DERIVED. THE GIVEN ROWS OF THIS SEAT. 8 by the template 'for every input the law returns true; each argument reads behind the call as it read before'; 0 by the template 'total and deterministic' (their statements: YtmehfegfkjhdcaaDoorTotals.lean).
  GIVEN WITH THE SEED: the statements are not yours to turn. If you find one false, say at which input.
  Laid BY PROGRAM, IN A SANDBOX (cutbox-rows.mjs): the forced cells as the released guide's own fill.sh prints them over the translation e56963241a38c7a1… (all of the seat's roots in one cut). By AI agents, Wed Nov 11 2026. No macro, syntax, notation, axiom, sorry.
-/
import Derived.Test.YtmehfegfkjhdcaaDoorChecked
import GoSem.Claim
import GoSem.ClaimJoined
import GoSem.ClaimMapViews
import Derived.JoinedTies
import Derived.KernelRfl
namespace Go.Proofs.YtmehfegfkjhdcaaDoor
/- THE CELL 'sum', in the pinned program and in every row, IS THE sha256 OF THE DUMP (.gsa) THAT YtmehfegfkjhdcaaDoorProg.lean LOADS. Nothing in Lean hashes anything: it is a label: what it is worth is what the hold of that sum in a sandbox is worth. -/
noncomputable def Tryd.pinned : Pinned := { name := "ytmehfegfkjhdcaadoor", sum := "e56963241a38c7a1685a7bf426d3a682f026dc1afcffb5dd863dbf7c2ede4106", checked := Tryd.checked }
namespace Rows
def none {H : Type} : Left H := { results := [], args := [] }

/- WHAT THE LISTED PACKAGE-LEVEL VARIABLES READ AS WHEN THE CALL BEGINS. Each datum BY PROGRAM (the guide's laid-datum.mjs) off the statement by which the dump's own 'gosem.cut.vars' lays the variable. In a bare row this is a premise. The card (YtmehfegfkjhdcaaDoorCards.lean) ties it to the program's text. -/
def laid_userplane_subblock_columns {H : Type} : DataW H := .agg [.lit (.int .i64 0), .lit (.int .i64 16), .lit (.int .i64 8), .lit (.int .i64 24), .lit (.int .i64 4), .lit (.int .i64 20), .lit (.int .i64 12), .lit (.int .i64 28), .lit (.int .i64 2), .lit (.int .i64 18), .lit (.int .i64 10), .lit (.int .i64 26), .lit (.int .i64 6), .lit (.int .i64 22), .lit (.int .i64 14), .lit (.int .i64 30), .lit (.int .i64 1), .lit (.int .i64 17), .lit (.int .i64 9), .lit (.int .i64 25), .lit (.int .i64 5), .lit (.int .i64 21), .lit (.int .i64 13), .lit (.int .i64 29), .lit (.int .i64 3), .lit (.int .i64 19), .lit (.int .i64 11), .lit (.int .i64 27), .lit (.int .i64 7), .lit (.int .i64 23), .lit (.int .i64 15), .lit (.int .i64 31)]

/-- 'userplanelaw09.SubblockOrders': WHATEVER THE INPUT: true; the input reads as it did. -/
def subblockOrdersSpec : ChangeSpec := { name := "subblockOrders", fn := fun _ => fun
  | [d1, d2] => { results := [.lit (.bool true)], args := [d1, d2] }
  | _ => none }
def subblockOrdersRow : OpenClaim := { program := "ytmehfegfkjhdcaadoor", sum := "e56963241a38c7a1685a7bf426d3a682f026dc1afcffb5dd863dbf7c2ede4106", func := "userplane/userplanelaw09.SubblockOrders", spec := "subblockOrders", unfollowed := true, recurses := true, named := ["userplane/subblock.columns"], apart := false, laid := [("userplane/subblock.columns", laid_userplane_subblock_columns)] }
def SubblockOrdersSaid : Prop := subblockOrdersRow.holds Tryd.pinned (OpenSpec.ofChange subblockOrdersSpec)

/-- ITS FALSE NEIGHBOUR: 'it returns false'. Refute it at one input. -/
def subblockOrdersWrong : ChangeSpec := { name := "subblockOrders", fn := fun _ => fun
  | [d1, d2] => { results := [.lit (.bool false)], args := [d1, d2] }
  | _ => none }
def SubblockOrdersWrongFalsely : Prop := subblockOrdersRow.holds Tryd.pinned (OpenSpec.ofChange subblockOrdersWrong)

/-- 'userplanelaw09.SubblockOnce': WHATEVER THE INPUT: true; the input reads as it did. -/
def subblockOnceSpec : ChangeSpec := { name := "subblockOnce", fn := fun _ => fun
  | [d1, d2] => { results := [.lit (.bool true)], args := [d1, d2] }
  | _ => none }
def subblockOnceRow : OpenClaim := { program := "ytmehfegfkjhdcaadoor", sum := "e56963241a38c7a1685a7bf426d3a682f026dc1afcffb5dd863dbf7c2ede4106", func := "userplane/userplanelaw09.SubblockOnce", spec := "subblockOnce", unfollowed := true, recurses := true, named := ["userplane/subblock.columns"], apart := false, laid := [("userplane/subblock.columns", laid_userplane_subblock_columns)] }
def SubblockOnceSaid : Prop := subblockOnceRow.holds Tryd.pinned (OpenSpec.ofChange subblockOnceSpec)

/-- ITS FALSE NEIGHBOUR: 'it returns false'. Refute it at one input. -/
def subblockOnceWrong : ChangeSpec := { name := "subblockOnce", fn := fun _ => fun
  | [d1, d2] => { results := [.lit (.bool false)], args := [d1, d2] }
  | _ => none }
def SubblockOnceWrongFalsely : Prop := subblockOnceRow.holds Tryd.pinned (OpenSpec.ofChange subblockOnceWrong)

/-- 'userplanelaw09.SubblockColumns': WHATEVER THE INPUT: true; the input reads as it did. -/
def subblockColumnsSpec : ChangeSpec := { name := "subblockColumns", fn := fun _ => fun
  | [d1, d2] => { results := [.lit (.bool true)], args := [d1, d2] }
  | _ => none }
def subblockColumnsRow : OpenClaim := { program := "ytmehfegfkjhdcaadoor", sum := "e56963241a38c7a1685a7bf426d3a682f026dc1afcffb5dd863dbf7c2ede4106", func := "userplane/userplanelaw09.SubblockColumns", spec := "subblockColumns", unfollowed := true, recurses := true, named := ["userplane/subblock.columns"], apart := false, laid := [("userplane/subblock.columns", laid_userplane_subblock_columns)] }
def SubblockColumnsSaid : Prop := subblockColumnsRow.holds Tryd.pinned (OpenSpec.ofChange subblockColumnsSpec)

/-- ITS FALSE NEIGHBOUR: 'it returns false'. Refute it at one input. -/
def subblockColumnsWrong : ChangeSpec := { name := "subblockColumns", fn := fun _ => fun
  | [d1, d2] => { results := [.lit (.bool false)], args := [d1, d2] }
  | _ => none }
def SubblockColumnsWrongFalsely : Prop := subblockColumnsRow.holds Tryd.pinned (OpenSpec.ofChange subblockColumnsWrong)

/-- 'userplanelaw09.SubblockShifts': WHATEVER THE INPUT: true; the input reads as it did. -/
def subblockShiftsSpec : ChangeSpec := { name := "subblockShifts", fn := fun _ => fun
  | [d] => { results := [.lit (.bool true)], args := [d] }
  | _ => none }
def subblockShiftsRow : OpenClaim := { program := "ytmehfegfkjhdcaadoor", sum := "e56963241a38c7a1685a7bf426d3a682f026dc1afcffb5dd863dbf7c2ede4106", func := "userplane/userplanelaw09.SubblockShifts", spec := "subblockShifts", unfollowed := true, recurses := true, named := ["userplane/subblock.columns"], apart := false, laid := [("userplane/subblock.columns", laid_userplane_subblock_columns)] }
def SubblockShiftsSaid : Prop := subblockShiftsRow.holds Tryd.pinned (OpenSpec.ofChange subblockShiftsSpec)

/-- ITS FALSE NEIGHBOUR: 'it returns false'. Refute it at one input. -/
def subblockShiftsWrong : ChangeSpec := { name := "subblockShifts", fn := fun _ => fun
  | [d] => { results := [.lit (.bool false)], args := [d] }
  | _ => none }
def SubblockShiftsWrongFalsely : Prop := subblockShiftsRow.holds Tryd.pinned (OpenSpec.ofChange subblockShiftsWrong)

/-- 'userplanelaw09.SubblockInterleaves': WHATEVER THE INPUT: true; the input reads as it did. -/
def subblockInterleavesSpec : ChangeSpec := { name := "subblockInterleaves", fn := fun _ => fun
  | [d1, d2] => { results := [.lit (.bool true)], args := [d1, d2] }
  | _ => none }
def subblockInterleavesRow : OpenClaim := { program := "ytmehfegfkjhdcaadoor", sum := "e56963241a38c7a1685a7bf426d3a682f026dc1afcffb5dd863dbf7c2ede4106", func := "userplane/userplanelaw09.SubblockInterleaves", spec := "subblockInterleaves", inPlace := ["internal/bytealg.MakeNoZero"], unfollowed := true, recurses := true, named := ["userplane/subblock.columns"], apart := false, laid := [("userplane/subblock.columns", laid_userplane_subblock_columns)] }
def SubblockInterleavesSaid : Prop := subblockInterleavesRow.holds Tryd.pinned (OpenSpec.ofChange subblockInterleavesSpec)

/-- ITS FALSE NEIGHBOUR: 'it returns false'. Refute it at one input. -/
def subblockInterleavesWrong : ChangeSpec := { name := "subblockInterleaves", fn := fun _ => fun
  | [d1, d2] => { results := [.lit (.bool false)], args := [d1, d2] }
  | _ => none }
def SubblockInterleavesWrongFalsely : Prop := subblockInterleavesRow.holds Tryd.pinned (OpenSpec.ofChange subblockInterleavesWrong)

/-- 'userplanelaw09.SubblockBack': WHATEVER THE INPUT: true; the input reads as it did. -/
def subblockBackSpec : ChangeSpec := { name := "subblockBack", fn := fun _ => fun
  | [d1, d2] => { results := [.lit (.bool true)], args := [d1, d2] }
  | _ => none }
def subblockBackRow : OpenClaim := { program := "ytmehfegfkjhdcaadoor", sum := "e56963241a38c7a1685a7bf426d3a682f026dc1afcffb5dd863dbf7c2ede4106", func := "userplane/userplanelaw09.SubblockBack", spec := "subblockBack", inPlace := ["internal/bytealg.MakeNoZero"], unfollowed := true, recurses := true, named := ["userplane/subblock.columns"], apart := false, laid := [("userplane/subblock.columns", laid_userplane_subblock_columns)] }
def SubblockBackSaid : Prop := subblockBackRow.holds Tryd.pinned (OpenSpec.ofChange subblockBackSpec)

/-- ITS FALSE NEIGHBOUR: 'it returns false'. Refute it at one input. -/
def subblockBackWrong : ChangeSpec := { name := "subblockBack", fn := fun _ => fun
  | [d1, d2] => { results := [.lit (.bool false)], args := [d1, d2] }
  | _ => none }
def SubblockBackWrongFalsely : Prop := subblockBackRow.holds Tryd.pinned (OpenSpec.ofChange subblockBackWrong)

/-- 'userplanelaw09.SubblockAgain': WHATEVER THE INPUT: true; the input reads as it did. -/
def subblockAgainSpec : ChangeSpec := { name := "subblockAgain", fn := fun _ => fun
  | [d1, d2, d3] => { results := [.lit (.bool true)], args := [d1, d2, d3] }
  | _ => none }
def subblockAgainRow : OpenClaim := { program := "ytmehfegfkjhdcaadoor", sum := "e56963241a38c7a1685a7bf426d3a682f026dc1afcffb5dd863dbf7c2ede4106", func := "userplane/userplanelaw09.SubblockAgain", spec := "subblockAgain", inPlace := ["internal/bytealg.MakeNoZero"], unfollowed := true, recurses := true, named := ["userplane/subblock.columns"], apart := false, laid := [("userplane/subblock.columns", laid_userplane_subblock_columns)] }
def SubblockAgainSaid : Prop := subblockAgainRow.holds Tryd.pinned (OpenSpec.ofChange subblockAgainSpec)

/-- ITS FALSE NEIGHBOUR: 'it returns false'. Refute it at one input. -/
def subblockAgainWrong : ChangeSpec := { name := "subblockAgain", fn := fun _ => fun
  | [d1, d2, d3] => { results := [.lit (.bool false)], args := [d1, d2, d3] }
  | _ => none }
def SubblockAgainWrongFalsely : Prop := subblockAgainRow.holds Tryd.pinned (OpenSpec.ofChange subblockAgainWrong)

/-- 'userplanelaw09.SubblockOwn': WHATEVER THE INPUT: true; the input reads as it did. -/
def subblockOwnSpec : ChangeSpec := { name := "subblockOwn", fn := fun _ => fun
  | [d1, d2] => { results := [.lit (.bool true)], args := [d1, d2] }
  | _ => none }
def subblockOwnRow : OpenClaim := { program := "ytmehfegfkjhdcaadoor", sum := "e56963241a38c7a1685a7bf426d3a682f026dc1afcffb5dd863dbf7c2ede4106", func := "userplane/userplanelaw09.SubblockOwn", spec := "subblockOwn", inPlace := ["internal/bytealg.MakeNoZero"], unfollowed := true, recurses := true, named := ["userplane/subblock.columns"], apart := false, laid := [("userplane/subblock.columns", laid_userplane_subblock_columns)] }
def SubblockOwnSaid : Prop := subblockOwnRow.holds Tryd.pinned (OpenSpec.ofChange subblockOwnSpec)

/-- ITS FALSE NEIGHBOUR: 'it returns false'. Refute it at one input. -/
def subblockOwnWrong : ChangeSpec := { name := "subblockOwn", fn := fun _ => fun
  | [d1, d2] => { results := [.lit (.bool false)], args := [d1, d2] }
  | _ => none }
def SubblockOwnWrongFalsely : Prop := subblockOwnRow.holds Tryd.pinned (OpenSpec.ofChange subblockOwnWrong)

/- THE SECOND FORM. 'bulk': how many values and letters a reading holds, each counted each time it is reached (what is shared counts as often as it is met; a slice's spare places count too). A statement '..UptoSaid' is the law's where the arguments, and the package variables that the reading takes, are together of bulk at most 1048576: NARROWER than '..Said'. Prove '..Said' where nothing that the law and all that it calls make is longer than what came in: it says more and counts as full. Else prove '..UptoSaid'. A law counts once. -/
mutual
def uptoBulk {H : Type} : DataW H → Nat
  | .lit (.string bytes) => bytes.length + 1
  | .lit _ => 1
  | .nil => 1
  | .ptr d => uptoBulk d + 1
  | .slice elems spare => uptoBulkAll elems + uptoBulkAll spare + 1
  | .agg parts => uptoBulkAll parts + 1
  | .iface _ d => uptoBulk d + 1
  | .map entries => uptoBulkEntries entries + 1
  | .held _ => 1
def uptoBulkAll {H : Type} : List (DataW H) → Nat
  | [] => 0
  | d :: r => uptoBulk d + uptoBulkAll r
def uptoBulkEntries {H : Type} : List (Lit × DataW H) → Nat
  | [] => 0
  | x :: r => uptoBulkEntry x + uptoBulkEntries r
def uptoBulkEntry {H : Type} : Lit × DataW H → Nat
  | (.string bytes, d) => bytes.length + uptoBulk d + 1
  | (_, d) => uptoBulk d + 1
 end
def uptoSmall : (H : Type) → List (DataW H) → Bool := fun _ ds => decide (uptoBulkAll ds ≤ 1048576)
def OpenSpec.upto (s : _root_.Go.ChangeSpec) : _root_.Go.OpenSpec := { _root_.Go.OpenSpec.ofChange s with cond := some uptoSmall }

/-- 'userplanelaw09.SubblockOrders', WHERE WHAT IT READS IS OF BULK AT MOST 1048576: true; the input reads as it did. -/
def subblockOrdersUptoRow : OpenClaim := { program := "ytmehfegfkjhdcaadoor", sum := "e56963241a38c7a1685a7bf426d3a682f026dc1afcffb5dd863dbf7c2ede4106", func := "userplane/userplanelaw09.SubblockOrders", spec := "subblockOrders", unfollowed := true, recurses := true, named := ["userplane/subblock.columns"], apart := false, laid := [("userplane/subblock.columns", laid_userplane_subblock_columns)], narrowed := true }
def SubblockOrdersUptoSaid : Prop := subblockOrdersUptoRow.holds Tryd.pinned (OpenSpec.upto subblockOrdersSpec)

/-- 'userplanelaw09.SubblockOnce', WHERE WHAT IT READS IS OF BULK AT MOST 1048576: true; the input reads as it did. -/
def subblockOnceUptoRow : OpenClaim := { program := "ytmehfegfkjhdcaadoor", sum := "e56963241a38c7a1685a7bf426d3a682f026dc1afcffb5dd863dbf7c2ede4106", func := "userplane/userplanelaw09.SubblockOnce", spec := "subblockOnce", unfollowed := true, recurses := true, named := ["userplane/subblock.columns"], apart := false, laid := [("userplane/subblock.columns", laid_userplane_subblock_columns)], narrowed := true }
def SubblockOnceUptoSaid : Prop := subblockOnceUptoRow.holds Tryd.pinned (OpenSpec.upto subblockOnceSpec)

/-- 'userplanelaw09.SubblockColumns', WHERE WHAT IT READS IS OF BULK AT MOST 1048576: true; the input reads as it did. -/
def subblockColumnsUptoRow : OpenClaim := { program := "ytmehfegfkjhdcaadoor", sum := "e56963241a38c7a1685a7bf426d3a682f026dc1afcffb5dd863dbf7c2ede4106", func := "userplane/userplanelaw09.SubblockColumns", spec := "subblockColumns", unfollowed := true, recurses := true, named := ["userplane/subblock.columns"], apart := false, laid := [("userplane/subblock.columns", laid_userplane_subblock_columns)], narrowed := true }
def SubblockColumnsUptoSaid : Prop := subblockColumnsUptoRow.holds Tryd.pinned (OpenSpec.upto subblockColumnsSpec)

/-- 'userplanelaw09.SubblockShifts', WHERE WHAT IT READS IS OF BULK AT MOST 1048576: true; the input reads as it did. -/
def subblockShiftsUptoRow : OpenClaim := { program := "ytmehfegfkjhdcaadoor", sum := "e56963241a38c7a1685a7bf426d3a682f026dc1afcffb5dd863dbf7c2ede4106", func := "userplane/userplanelaw09.SubblockShifts", spec := "subblockShifts", unfollowed := true, recurses := true, named := ["userplane/subblock.columns"], apart := false, laid := [("userplane/subblock.columns", laid_userplane_subblock_columns)], narrowed := true }
def SubblockShiftsUptoSaid : Prop := subblockShiftsUptoRow.holds Tryd.pinned (OpenSpec.upto subblockShiftsSpec)

/-- 'userplanelaw09.SubblockInterleaves', WHERE WHAT IT READS IS OF BULK AT MOST 1048576: true; the input reads as it did. -/
def subblockInterleavesUptoRow : OpenClaim := { program := "ytmehfegfkjhdcaadoor", sum := "e56963241a38c7a1685a7bf426d3a682f026dc1afcffb5dd863dbf7c2ede4106", func := "userplane/userplanelaw09.SubblockInterleaves", spec := "subblockInterleaves", inPlace := ["internal/bytealg.MakeNoZero"], unfollowed := true, recurses := true, named := ["userplane/subblock.columns"], apart := false, laid := [("userplane/subblock.columns", laid_userplane_subblock_columns)], narrowed := true }
def SubblockInterleavesUptoSaid : Prop := subblockInterleavesUptoRow.holds Tryd.pinned (OpenSpec.upto subblockInterleavesSpec)

/-- 'userplanelaw09.SubblockBack', WHERE WHAT IT READS IS OF BULK AT MOST 1048576: true; the input reads as it did. -/
def subblockBackUptoRow : OpenClaim := { program := "ytmehfegfkjhdcaadoor", sum := "e56963241a38c7a1685a7bf426d3a682f026dc1afcffb5dd863dbf7c2ede4106", func := "userplane/userplanelaw09.SubblockBack", spec := "subblockBack", inPlace := ["internal/bytealg.MakeNoZero"], unfollowed := true, recurses := true, named := ["userplane/subblock.columns"], apart := false, laid := [("userplane/subblock.columns", laid_userplane_subblock_columns)], narrowed := true }
def SubblockBackUptoSaid : Prop := subblockBackUptoRow.holds Tryd.pinned (OpenSpec.upto subblockBackSpec)

/-- 'userplanelaw09.SubblockAgain', WHERE WHAT IT READS IS OF BULK AT MOST 1048576: true; the input reads as it did. -/
def subblockAgainUptoRow : OpenClaim := { program := "ytmehfegfkjhdcaadoor", sum := "e56963241a38c7a1685a7bf426d3a682f026dc1afcffb5dd863dbf7c2ede4106", func := "userplane/userplanelaw09.SubblockAgain", spec := "subblockAgain", inPlace := ["internal/bytealg.MakeNoZero"], unfollowed := true, recurses := true, named := ["userplane/subblock.columns"], apart := false, laid := [("userplane/subblock.columns", laid_userplane_subblock_columns)], narrowed := true }
def SubblockAgainUptoSaid : Prop := subblockAgainUptoRow.holds Tryd.pinned (OpenSpec.upto subblockAgainSpec)

/-- 'userplanelaw09.SubblockOwn', WHERE WHAT IT READS IS OF BULK AT MOST 1048576: true; the input reads as it did. -/
def subblockOwnUptoRow : OpenClaim := { program := "ytmehfegfkjhdcaadoor", sum := "e56963241a38c7a1685a7bf426d3a682f026dc1afcffb5dd863dbf7c2ede4106", func := "userplane/userplanelaw09.SubblockOwn", spec := "subblockOwn", inPlace := ["internal/bytealg.MakeNoZero"], unfollowed := true, recurses := true, named := ["userplane/subblock.columns"], apart := false, laid := [("userplane/subblock.columns", laid_userplane_subblock_columns)], narrowed := true }
def SubblockOwnUptoSaid : Prop := subblockOwnUptoRow.holds Tryd.pinned (OpenSpec.upto subblockOwnSpec)

end Rows
end Go.Proofs.YtmehfegfkjhdcaaDoor
