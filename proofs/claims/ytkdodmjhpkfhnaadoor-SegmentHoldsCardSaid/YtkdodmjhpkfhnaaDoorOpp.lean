/-
  A Pattern that came in.
-/
import Derived.Test.YtkdodmjhpkfhnaaDoorOpen
import Derived.Lib.SmallJoins
namespace Go.Proofs.YtkdodmjhpkfhnaaDoor
open Go.ChangeShapes Go.WideShapes Go.ChangeAt Go.RowKit Go.Deep Go.WideElems

theorem op_pattern {H : Type} {enc : TypeId × Value → H} {W : World} {base fuel : Nat} {x : DataW H × List MemPlace} {cs : Array Value} (hs : cs.size = 4) (h : DataW.trod enc Tryd.prog W base (fun _ => true) true fuel 45 cs.toList = some x) :
    ∃ a b p q, cs = #[.int .i64 a, .int .i64 b, .int .i64 p, .int .u8 q] ∧ 0 ≤ q ∧ q ≤ 255 := by
  have c3 : Tryd.prog.cellsOf 3 = 1 := by kernel_rfl
  have c5 : Tryd.prog.cellsOf 5 = 1 := by kernel_rfl
  obtain ⟨l⟩ := cs
  match l, hs with
  | [v0, v1, v2, v3], _ =>
    obtain ⟨y0, y1, y2, y3, n, rfl, _, h0, h1, h2, h3⟩ := Go.Joins.trod_struct4 Tryd.underlying45 h
    simp only [c3, c5] at h0 h1 h2 h3
    obtain ⟨k0, e0, f0, _⟩ := DataW.trod_int Tryd.underlying3 h0
    obtain ⟨k1, e1, f1, _⟩ := DataW.trod_int Tryd.underlying3 h1
    obtain ⟨k2, e2, f2, _⟩ := DataW.trod_int Tryd.underlying3 h2
    obtain ⟨k3, e3, f3, hw⟩ := DataW.trod_int Tryd.underlying5 h3
    simp at e0 e1 e2 e3
    have hq : 0 ≤ k3 ∧ k3 ≤ 255 := by simpa [Lit.wf, IntKind.min, IntKind.max, IntKind.signed, IntKind.bits] using hw
    exact ⟨k0, k1, k2, k3, by rw [e0, e1, e2, e3], hq⟩
end Go.Proofs.YtkdodmjhpkfhnaaDoor
