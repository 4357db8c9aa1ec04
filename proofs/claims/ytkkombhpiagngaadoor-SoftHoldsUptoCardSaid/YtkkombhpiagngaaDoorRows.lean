/-
  NARROWER THAN 'FOR EVERY INPUT', by the rows' own cells (each row's printed sentence says how): SoftAdds: laid · SoftSums: laid · SoftScales: laid · SoftHards: laid · SoftCompares: laid · SoftSigns: laid · SoftHolds: laid.
  DERIVED. THE GIVEN ROWS OF THIS SEAT. 7 by the template 'for every input the law returns true; each argument reads behind the call as it read before'; 0 by the template 'total and deterministic' (their statements: YtkkombhpiagngaaDoorTotals.lean).
  GIVEN WITH THE SEED: the statements are not yours to turn. If you find one false, say at which input.
  Laid BY PROGRAM, IN A SANDBOX (cutbox-rows.mjs): the forced cells as the released guide's own fill.sh prints them over the translation fc83cbfc43e26f16… (all of the seat's roots in one cut). By AI agents, Wed Nov 11 2026. No macro, syntax, notation, axiom, sorry.
-/
import Derived.Test.YtkkombhpiagngaaDoorChecked
import GoSem.Claim
import GoSem.ClaimJoined
import GoSem.ClaimMapViews
import Derived.JoinedTies
import Derived.KernelRfl
namespace Go.Proofs.YtkkombhpiagngaaDoor
/- THE CELL 'sum', in the pinned program and in every row, IS THE sha256 OF THE DUMP (.gsa) THAT YtkkombhpiagngaaDoorProg.lean LOADS. Nothing in Lean hashes anything: it is a label: what it is worth is what the hold of that sum in a sandbox is worth. -/
noncomputable def Tryd.pinned : Pinned := { name := "ytkkombhpiagngaadoor", sum := "fc83cbfc43e26f16af38f9b1fbf174441f1fcadc88f444295ae24b5988f0856c", checked := Tryd.checked }
namespace Rows
def none {H : Type} : Left H := { results := [], args := [] }

/- WHAT THE LISTED PACKAGE-LEVEL VARIABLES READ AS WHEN THE CALL BEGINS. Each datum BY PROGRAM (the guide's laid-datum.mjs) off the statement by which the dump's own 'gosem.cut.vars' lays the variable. In a bare row this is a premise. The card (YtkkombhpiagngaaDoorCards.lean) ties it to the program's text. -/
def laid_userplane_soft_limits {H : Type} : DataW H := .agg [.agg [.lit (.int .i64 (-127)), .lit (.int .i64 127)], .agg [.lit (.int .i64 0), .lit (.int .i64 127)], .agg [.lit (.int .i64 0), .lit (.int .i64 1073741824)], .agg [.lit (.int .i64 1), .lit (.int .i64 1073741824)]]

/-- 'userplanelaw11.SoftAdds': WHATEVER THE INPUT: true; the input reads as it did. -/
def softAddsSpec : ChangeSpec := { name := "softAdds", fn := fun _ => fun
  | [d1, d2] => { results := [.lit (.bool true)], args := [d1, d2] }
  | _ => none }
def softAddsRow : OpenClaim := { program := "ytkkombhpiagngaadoor", sum := "fc83cbfc43e26f16af38f9b1fbf174441f1fcadc88f444295ae24b5988f0856c", func := "userplane/userplanelaw11.SoftAdds", spec := "softAdds", unfollowed := true, recurses := true, named := ["userplane/soft.limits"], apart := false, laid := [("userplane/soft.limits", laid_userplane_soft_limits)] }
def SoftAddsSaid : Prop := softAddsRow.holds Tryd.pinned (OpenSpec.ofChange softAddsSpec)

/-- ITS FALSE NEIGHBOUR: 'it returns false'. Refute it at one input. -/
def softAddsWrong : ChangeSpec := { name := "softAdds", fn := fun _ => fun
  | [d1, d2] => { results := [.lit (.bool false)], args := [d1, d2] }
  | _ => none }
def SoftAddsWrongFalsely : Prop := softAddsRow.holds Tryd.pinned (OpenSpec.ofChange softAddsWrong)

/-- 'userplanelaw11.SoftSums': WHATEVER THE INPUT: true; the input reads as it did. -/
def softSumsSpec : ChangeSpec := { name := "softSums", fn := fun _ => fun
  | [d1, d2] => { results := [.lit (.bool true)], args := [d1, d2] }
  | _ => none }
def softSumsRow : OpenClaim := { program := "ytkkombhpiagngaadoor", sum := "fc83cbfc43e26f16af38f9b1fbf174441f1fcadc88f444295ae24b5988f0856c", func := "userplane/userplanelaw11.SoftSums", spec := "softSums", unfollowed := true, recurses := true, named := ["userplane/soft.limits"], apart := false, laid := [("userplane/soft.limits", laid_userplane_soft_limits)] }
def SoftSumsSaid : Prop := softSumsRow.holds Tryd.pinned (OpenSpec.ofChange softSumsSpec)

/-- ITS FALSE NEIGHBOUR: 'it returns false'. Refute it at one input. -/
def softSumsWrong : ChangeSpec := { name := "softSums", fn := fun _ => fun
  | [d1, d2] => { results := [.lit (.bool false)], args := [d1, d2] }
  | _ => none }
def SoftSumsWrongFalsely : Prop := softSumsRow.holds Tryd.pinned (OpenSpec.ofChange softSumsWrong)

/-- 'userplanelaw11.SoftScales': WHATEVER THE INPUT: true; the input reads as it did. -/
def softScalesSpec : ChangeSpec := { name := "softScales", fn := fun _ => fun
  | [d1, d2, d3] => { results := [.lit (.bool true)], args := [d1, d2, d3] }
  | _ => none }
def softScalesRow : OpenClaim := { program := "ytkkombhpiagngaadoor", sum := "fc83cbfc43e26f16af38f9b1fbf174441f1fcadc88f444295ae24b5988f0856c", func := "userplane/userplanelaw11.SoftScales", spec := "softScales", unfollowed := true, recurses := true, named := ["userplane/soft.limits"], apart := false, laid := [("userplane/soft.limits", laid_userplane_soft_limits)] }
def SoftScalesSaid : Prop := softScalesRow.holds Tryd.pinned (OpenSpec.ofChange softScalesSpec)

/-- ITS FALSE NEIGHBOUR: 'it returns false'. Refute it at one input. -/
def softScalesWrong : ChangeSpec := { name := "softScales", fn := fun _ => fun
  | [d1, d2, d3] => { results := [.lit (.bool false)], args := [d1, d2, d3] }
  | _ => none }
def SoftScalesWrongFalsely : Prop := softScalesRow.holds Tryd.pinned (OpenSpec.ofChange softScalesWrong)

/-- 'userplanelaw11.SoftHards': WHATEVER THE INPUT: true; the input reads as it did. -/
def softHardsSpec : ChangeSpec := { name := "softHards", fn := fun _ => fun
  | [d1, d2, d3] => { results := [.lit (.bool true)], args := [d1, d2, d3] }
  | _ => none }
def softHardsRow : OpenClaim := { program := "ytkkombhpiagngaadoor", sum := "fc83cbfc43e26f16af38f9b1fbf174441f1fcadc88f444295ae24b5988f0856c", func := "userplane/userplanelaw11.SoftHards", spec := "softHards", unfollowed := true, recurses := true, named := ["userplane/soft.limits"], apart := false, laid := [("userplane/soft.limits", laid_userplane_soft_limits)] }
def SoftHardsSaid : Prop := softHardsRow.holds Tryd.pinned (OpenSpec.ofChange softHardsSpec)

/-- ITS FALSE NEIGHBOUR: 'it returns false'. Refute it at one input. -/
def softHardsWrong : ChangeSpec := { name := "softHards", fn := fun _ => fun
  | [d1, d2, d3] => { results := [.lit (.bool false)], args := [d1, d2, d3] }
  | _ => none }
def SoftHardsWrongFalsely : Prop := softHardsRow.holds Tryd.pinned (OpenSpec.ofChange softHardsWrong)

/-- 'userplanelaw11.SoftCompares': WHATEVER THE INPUT: true; the input reads as it did. -/
def softComparesSpec : ChangeSpec := { name := "softCompares", fn := fun _ => fun
  | [d1, d2] => { results := [.lit (.bool true)], args := [d1, d2] }
  | _ => none }
def softComparesRow : OpenClaim := { program := "ytkkombhpiagngaadoor", sum := "fc83cbfc43e26f16af38f9b1fbf174441f1fcadc88f444295ae24b5988f0856c", func := "userplane/userplanelaw11.SoftCompares", spec := "softCompares", unfollowed := true, recurses := true, named := ["userplane/soft.limits"], apart := false, laid := [("userplane/soft.limits", laid_userplane_soft_limits)] }
def SoftComparesSaid : Prop := softComparesRow.holds Tryd.pinned (OpenSpec.ofChange softComparesSpec)

/-- ITS FALSE NEIGHBOUR: 'it returns false'. Refute it at one input. -/
def softComparesWrong : ChangeSpec := { name := "softCompares", fn := fun _ => fun
  | [d1, d2] => { results := [.lit (.bool false)], args := [d1, d2] }
  | _ => none }
def SoftComparesWrongFalsely : Prop := softComparesRow.holds Tryd.pinned (OpenSpec.ofChange softComparesWrong)

/-- 'userplanelaw11.SoftSigns': WHATEVER THE INPUT: true; the input reads as it did. -/
def softSignsSpec : ChangeSpec := { name := "softSigns", fn := fun _ => fun
  | [d1, d2] => { results := [.lit (.bool true)], args := [d1, d2] }
  | _ => none }
def softSignsRow : OpenClaim := { program := "ytkkombhpiagngaadoor", sum := "fc83cbfc43e26f16af38f9b1fbf174441f1fcadc88f444295ae24b5988f0856c", func := "userplane/userplanelaw11.SoftSigns", spec := "softSigns", unfollowed := true, recurses := true, named := ["userplane/soft.limits"], apart := false, laid := [("userplane/soft.limits", laid_userplane_soft_limits)] }
def SoftSignsSaid : Prop := softSignsRow.holds Tryd.pinned (OpenSpec.ofChange softSignsSpec)

/-- ITS FALSE NEIGHBOUR: 'it returns false'. Refute it at one input. -/
def softSignsWrong : ChangeSpec := { name := "softSigns", fn := fun _ => fun
  | [d1, d2] => { results := [.lit (.bool false)], args := [d1, d2] }
  | _ => none }
def SoftSignsWrongFalsely : Prop := softSignsRow.holds Tryd.pinned (OpenSpec.ofChange softSignsWrong)

/-- 'userplanelaw11.SoftHolds': WHATEVER THE INPUT: true; the input reads as it did. -/
def softHoldsSpec : ChangeSpec := { name := "softHolds", fn := fun _ => fun
  | [d1, d2, d3, d4, d5, d6] => { results := [.lit (.bool true)], args := [d1, d2, d3, d4, d5, d6] }
  | _ => none }
def softHoldsRow : OpenClaim := { program := "ytkkombhpiagngaadoor", sum := "fc83cbfc43e26f16af38f9b1fbf174441f1fcadc88f444295ae24b5988f0856c", func := "userplane/userplanelaw11.SoftHolds", spec := "softHolds", unfollowed := true, recurses := true, named := ["userplane/soft.limits"], apart := false, laid := [("userplane/soft.limits", laid_userplane_soft_limits)] }
def SoftHoldsSaid : Prop := softHoldsRow.holds Tryd.pinned (OpenSpec.ofChange softHoldsSpec)

/-- ITS FALSE NEIGHBOUR: 'it returns false'. Refute it at one input. -/
def softHoldsWrong : ChangeSpec := { name := "softHolds", fn := fun _ => fun
  | [d1, d2, d3, d4, d5, d6] => { results := [.lit (.bool false)], args := [d1, d2, d3, d4, d5, d6] }
  | _ => none }
def SoftHoldsWrongFalsely : Prop := softHoldsRow.holds Tryd.pinned (OpenSpec.ofChange softHoldsWrong)

/- THE SECOND FORM. 'bulk': how many values and letters a reading holds, each counted each time it is reached (what is shared counts as often as it is met; a slice's spare places count too). A statement '..UptoSaid' is the law's where the arguments, and the package variables that the reading takes, are together of bulk at most 1048576: NARROWER than '..Said'. Prove '..Said' where nothing that the law and all that it calls make is longer than what came in: it says more and counts as full. Else prove '..UptoSaid'. A law counts once. -/
mutual
def uptoBulk {H : Type} : DataW H → Nat
  | .lit (.string bytes) => bytes.length + 1
  | .lit _ => 1
  | .nil => 1
  | .ptr d => uptoBulk d + 1
  | .slice elems spare => uptoBulkAll elems + uptoBulkAll spare + 1
  | .agg parts => uptoBulkAll parts + 1
  | .iface _ d => uptoBulk d + 1
  | .map entries => uptoBulkEntries entries + 1
  | .held _ => 1
def uptoBulkAll {H : Type} : List (DataW H) → Nat
  | [] => 0
  | d :: r => uptoBulk d + uptoBulkAll r
def uptoBulkEntries {H : Type} : List (Lit × DataW H) → Nat
  | [] => 0
  | x :: r => uptoBulkEntry x + uptoBulkEntries r
def uptoBulkEntry {H : Type} : Lit × DataW H → Nat
  | (.string bytes, d) => bytes.length + uptoBulk d + 1
  | (_, d) => uptoBulk d + 1
 end
def uptoSmall : (H : Type) → List (DataW H) → Bool := fun _ ds => decide (uptoBulkAll ds ≤ 1048576)
def OpenSpec.upto (s : _root_.Go.ChangeSpec) : _root_.Go.OpenSpec := { _root_.Go.OpenSpec.ofChange s with cond := some uptoSmall }

/-- 'userplanelaw11.SoftAdds', WHERE WHAT IT READS IS OF BULK AT MOST 1048576: true; the input reads as it did. -/
def softAddsUptoRow : OpenClaim := { program := "ytkkombhpiagngaadoor", sum := "fc83cbfc43e26f16af38f9b1fbf174441f1fcadc88f444295ae24b5988f0856c", func := "userplane/userplanelaw11.SoftAdds", spec := "softAdds", unfollowed := true, recurses := true, named := ["userplane/soft.limits"], apart := false, laid := [("userplane/soft.limits", laid_userplane_soft_limits)], narrowed := true }
def SoftAddsUptoSaid : Prop := softAddsUptoRow.holds Tryd.pinned (OpenSpec.upto softAddsSpec)

/-- 'userplanelaw11.SoftSums', WHERE WHAT IT READS IS OF BULK AT MOST 1048576: true; the input reads as it did. -/
def softSumsUptoRow : OpenClaim := { program := "ytkkombhpiagngaadoor", sum := "fc83cbfc43e26f16af38f9b1fbf174441f1fcadc88f444295ae24b5988f0856c", func := "userplane/userplanelaw11.SoftSums", spec := "softSums", unfollowed := true, recurses := true, named := ["userplane/soft.limits"], apart := false, laid := [("userplane/soft.limits", laid_userplane_soft_limits)], narrowed := true }
def SoftSumsUptoSaid : Prop := softSumsUptoRow.holds Tryd.pinned (OpenSpec.upto softSumsSpec)

/-- 'userplanelaw11.SoftScales', WHERE WHAT IT READS IS OF BULK AT MOST 1048576: true; the input reads as it did. -/
def softScalesUptoRow : OpenClaim := { program := "ytkkombhpiagngaadoor", sum := "fc83cbfc43e26f16af38f9b1fbf174441f1fcadc88f444295ae24b5988f0856c", func := "userplane/userplanelaw11.SoftScales", spec := "softScales", unfollowed := true, recurses := true, named := ["userplane/soft.limits"], apart := false, laid := [("userplane/soft.limits", laid_userplane_soft_limits)], narrowed := true }
def SoftScalesUptoSaid : Prop := softScalesUptoRow.holds Tryd.pinned (OpenSpec.upto softScalesSpec)

/-- 'userplanelaw11.SoftHards', WHERE WHAT IT READS IS OF BULK AT MOST 1048576: true; the input reads as it did. -/
def softHardsUptoRow : OpenClaim := { program := "ytkkombhpiagngaadoor", sum := "fc83cbfc43e26f16af38f9b1fbf174441f1fcadc88f444295ae24b5988f0856c", func := "userplane/userplanelaw11.SoftHards", spec := "softHards", unfollowed := true, recurses := true, named := ["userplane/soft.limits"], apart := false, laid := [("userplane/soft.limits", laid_userplane_soft_limits)], narrowed := true }
def SoftHardsUptoSaid : Prop := softHardsUptoRow.holds Tryd.pinned (OpenSpec.upto softHardsSpec)

/-- 'userplanelaw11.SoftCompares', WHERE WHAT IT READS IS OF BULK AT MOST 1048576: true; the input reads as it did. -/
def softComparesUptoRow : OpenClaim := { program := "ytkkombhpiagngaadoor", sum := "fc83cbfc43e26f16af38f9b1fbf174441f1fcadc88f444295ae24b5988f0856c", func := "userplane/userplanelaw11.SoftCompares", spec := "softCompares", unfollowed := true, recurses := true, named := ["userplane/soft.limits"], apart := false, laid := [("userplane/soft.limits", laid_userplane_soft_limits)], narrowed := true }
def SoftComparesUptoSaid : Prop := softComparesUptoRow.holds Tryd.pinned (OpenSpec.upto softComparesSpec)

/-- 'userplanelaw11.SoftSigns', WHERE WHAT IT READS IS OF BULK AT MOST 1048576: true; the input reads as it did. -/
def softSignsUptoRow : OpenClaim := { program := "ytkkombhpiagngaadoor", sum := "fc83cbfc43e26f16af38f9b1fbf174441f1fcadc88f444295ae24b5988f0856c", func := "userplane/userplanelaw11.SoftSigns", spec := "softSigns", unfollowed := true, recurses := true, named := ["userplane/soft.limits"], apart := false, laid := [("userplane/soft.limits", laid_userplane_soft_limits)], narrowed := true }
def SoftSignsUptoSaid : Prop := softSignsUptoRow.holds Tryd.pinned (OpenSpec.upto softSignsSpec)

/-- 'userplanelaw11.SoftHolds', WHERE WHAT IT READS IS OF BULK AT MOST 1048576: true; the input reads as it did. -/
def softHoldsUptoRow : OpenClaim := { program := "ytkkombhpiagngaadoor", sum := "fc83cbfc43e26f16af38f9b1fbf174441f1fcadc88f444295ae24b5988f0856c", func := "userplane/userplanelaw11.SoftHolds", spec := "softHolds", unfollowed := true, recurses := true, named := ["userplane/soft.limits"], apart := false, laid := [("userplane/soft.limits", laid_userplane_soft_limits)], narrowed := true }
def SoftHoldsUptoSaid : Prop := softHoldsUptoRow.holds Tryd.pinned (OpenSpec.upto softHoldsSpec)

end Rows
end Go.Proofs.YtkkombhpiagngaaDoor
