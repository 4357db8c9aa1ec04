/-
  Compare. Compare where it returns an error; Compare at any arguments.
-/
import Derived.Test.YtoegamlpgenfcaaDoorIt
namespace Go.Proofs.YtoegamlpgenfcaaDoor
/-! ### Compare. -/
section
open Go.RowKit Go.Shelf BigFrame

attribute [local go_sem] Oper.semAt_some

def compareS (l b : List Int) : (Nat × Nat) × Int := if (softB l && decide (l.length = b.length)) = true then (if validB b = true then ((wrongN l b l.length, unkN l l.length), 0) else ((0, 0), 3)) else ((0, 0), 2)
theorem wr1_bits {x b : Int} (hx : x ≠ 0) (hb : b = 0 ∨ b = 1) : wr1 x b = (hardE x != b) := by
  unfold wr1 hardE
  rw [decide_eq_true hx, Bool.true_and]
  by_cases h : x < 0
  · rw [if_pos h, decide_eq_true h]
    rcases hb with rfl | rfl <;> rfl
  · rw [if_neg h, decide_eq_false h]
    rcases hb with rfl | rfl <;> rfl
theorem wr1_zero (b : Int) : wr1 0 b = false := rfl
theorem known_unk (l : List Int) (j : Nat) : (knownN l j).length + unkN l j = j := by
  induction j with
  | zero => rfl
  | succ j ih =>
    rw [knownN_succ, unkN_succ]
    by_cases h : l[j]?.getD 0 = 0
    · rw [if_neg (by simpa using h), if_pos h]; omega
    · rw [if_pos h, if_neg h, List.length_append, List.length_singleton]; omega
/-- Where the loop over the known elements is: wrong ones and unknown ones in their boxes. -/
structure CmI (w : World) (A A2 : Option Addr) (n c c2 BL : Nat) (xs bs : List Int) (k : Nat) (W : World) : Prop where
  bB : Boxed W w.heap.size 58 (.slice A2 n c2)
  bW : Boxed W (w.heap.size + 1) 3 (.int .i64 ((wrongN xs bs k : Nat) : Int))
  bU : Boxed W (w.heap.size + 1 + 1) 3 (.int .i64 ((n : Int) - ((knownN xs k).length : Nat)))
  bl : Boxed W BL 94 (.slice A n c)
  low : Below w.heap.size w W
theorem CmI.own {w : World} {A A2 : Option Addr} {n c c2 BL M : Nat} {xs bs : List Int} (hM : w.heap.size ≤ M) : OwnFrom M (CmI w A A2 n c c2 BL xs bs) := by
  intro j W W' row h hg hr
  have hr' : ∀ r, row = some r → ∃ o : Obj, W.heap[r]? = some o ∧ o.isCells = false := fun r e => (hr r e).2
  exact ⟨boxed_keep h.bB hg hr', boxed_keep h.bW hg hr', boxed_keep h.bU hg hr', boxed_keep h.bl hg hr', h.low.grown hg h.low.size (fun r e => Nat.le_trans hM (hr r e).1)⟩
theorem CmI.zero {w W : World} {A A2 : Option Addr} {n c c2 BL k : Nat} {xs bs : List Int} (h : CmI w A A2 n c c2 BL xs bs k W) (hz : xs[k]?.getD 0 = 0) : CmI w A A2 n c c2 BL xs bs (k + 1) W := by
  have e1 : wrongN xs bs (k + 1) = wrongN xs bs k := by rw [wrongN_succ, hz, wr1_zero]; rfl
  have e2 : knownN xs (k + 1) = knownN xs k := by rw [knownN_succ, if_neg (by simpa using hz)]
  exact ⟨h.bB, by rw [e1]; exact h.bW, by rw [e2]; exact h.bU, h.bl, h.low⟩
end

/-! ### Compare where it returns an error; Compare at any arguments. -/
section
open Go.RowKit Go.Shelf

end
end Go.Proofs.YtoegamlpgenfcaaDoor
