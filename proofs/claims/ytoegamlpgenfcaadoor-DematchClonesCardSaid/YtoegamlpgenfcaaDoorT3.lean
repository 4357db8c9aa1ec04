/-
  Blocks of three cells; below, start, state, feedback, shift, step of the code. shift, step. Step.
-/
import Derived.Test.YtoegamlpgenfcaaDoorApp
import Derived.Test.YtoegamlpgenfcaaDoorQ
import Derived.ScopeJumps
import Derived.RegionTactic
import Derived.BigRegion
import Derived.Deep.RegionLaw
namespace Go.Proofs.YtoegamlpgenfcaaDoor
/-! ### Blocks of three cells; below, start, state, feedback, shift, step of the code. -/
section
open Go.RowKit

theorem makeFunc_run (fn : Fn) (first cap : Array Value) (w : World) : (Instr.makeFunc fn first cap).run Tryd.prog w = .ok (.func fn first cap) w := rfl
theorem arr_set {w : World} {B j : Nat} {t : TypeId} {arr : Array Value} {v : Value} (h : w.heap[B]? = some (.cells arr t)) : (w.setCell ⟨B, j, none⟩ v).heap[B]? = some (.cells (arr.setIfInBounds j v) t) := by
  obtain ⟨hlt, hk⟩ := Array.getElem?_eq_some_iff.1 h
  show (w.heap.modify B _)[B]? = _
  rw [Array.getElem?_eq_getElem (by rw [Array.size_modify]; exact hlt), Array.getElem_modify_self, hk]
  rfl
/-- Block B holds the three cells x, y, z. -/
def Three (w : World) (B : Nat) (t : TypeId) (x y z : Value) : Prop := w.heap[B]? = some (.cells #[x, y, z] t)
section
variable {w w' : World} {B N : Nat} {t : TypeId} {x y z : Value}
theorem Three.new (w : World) (t : TypeId) (x y z : Value) : Three (w.alloc (.cells #[x, y, z] t)) w.heap.size t x y z := World.alloc_heap_new w _
theorem Three.cell (h : Three w B t x y z) (j : Nat) : w.cell? ⟨B, j, none⟩ = #[x, y, z][j]? := by
  simp [World.cell?, show w.heap[B]? = _ from h]
theorem Three.cell0 (h : Three w B t x y z) : w.cell? ⟨B, 0, none⟩ = some x := h.cell 0
theorem Three.cell1 (h : Three w B t x y z) : w.cell? ⟨B, 1, none⟩ = some y := h.cell 1
theorem Three.cell2 (h : Three w B t x y z) : w.cell? ⟨B, 2, none⟩ = some z := h.cell 2
theorem Three.lt (h : Three w B t x y z) : B < w.heap.size := (Array.getElem?_eq_some_iff.1 h).1
theorem Three.frozen (h : Three w B t x y z) (j : Nat) : w.frozen? ⟨B, j, none⟩ = false := by simp [World.frozen?, show w.heap[B]? = _ from h]
theorem Three.set0 (h : Three w B t x y z) (u : Value) : Three (w.setCell ⟨B, 0, none⟩ u) B t u y z := arr_set h
theorem Three.set1 (h : Three w B t x y z) (u : Value) : Three (w.setCell ⟨B, 1, none⟩ u) B t x u z := arr_set h
theorem Three.set2 (h : Three w B t x y z) (u : Value) : Three (w.setCell ⟨B, 2, none⟩ u) B t x y u := arr_set h
theorem Three.put (h : Three w B t x y z) (a b c : Value) : Three (((w.setCell ⟨B, 0, none⟩ a).setCell ⟨B, 1, none⟩ b).setCell ⟨B, 2, none⟩ c) B t a b c := ((h.set0 a).set1 b).set2 c
theorem Three.block (h : Three w B t x y z) (hb : w'.heap[B]? = w.heap[B]?) : Three w' B t x y z := hb.trans h
theorem Three.drew (h : Three w B t x y z) : Three w.drew B t x y z := h
theorem Three.below (h : Three w B t x y z) (hb : Below N w w') (hB : B < N) : Three w' B t x y z := h.block (hb.block B hB)
theorem Three.other (h : Three w B t x y z) {p : Addr} (hp : p.block ≠ B) (u : Value) : Three (w.setCell p u) B t x y z := h.block (Below.heap_setCell _ _ _ _ (Ne.symm hp))
theorem Three.alloc (h : Three w B t x y z) (o : Obj) : Three (w.alloc o) B t x y z := h.block (Below.heap_alloc _ _ _ h.lt)
theorem Three.grown {row : Option Nat} (h : Three w B t x y z) (hg : w.grownBy w' row) (hr : some B ≠ row) : Three w' B t x y z := h.block (hg.block B h.lt hr)
theorem put_grown (w : World) (B : Nat) (a b c : Value) : w.grownBy (((w.setCell ⟨B, 0, none⟩ a).setCell ⟨B, 1, none⟩ b).setCell ⟨B, 2, none⟩ c) (some B) :=
  ⟨rfl, rfl, rfl, by simp [World.setCell], fun k hk hne => by
    have hn : k ≠ B := fun e => hne (by rw [e])
    rw [Below.heap_setCell _ _ _ _ hn, Below.heap_setCell _ _ _ _ hn, Below.heap_setCell _ _ _ _ hn]⟩
theorem grown_two {w2 : World} {row : Option Nat} (h : w.grownBy w' none) (k : w'.grownBy w2 row) : w.grownBy w2 row :=
  ⟨k.os.trans h.os, k.tape.trans h.tape, k.output.trans h.output, Nat.le_trans h.size k.size, fun i hi hne => (k.block i (Nat.lt_of_lt_of_le hi h.size) hne).trans (h.block i hi (fun e => by cases e))⟩
theorem grown_two' {w2 : World} {row : Option Nat} (h : w.grownBy w' row) (k : w'.grownBy w2 none) : w.grownBy w2 row :=
  ⟨k.os.trans h.os, k.tape.trans h.tape, k.output.trans h.output, Nat.le_trans h.size k.size, fun i hi hne => (k.block i (Nat.lt_of_lt_of_le hi h.size) (fun e => by cases e)).trans (h.block i hi hne)⟩
theorem grown_same {w2 : World} {row : Option Nat} (h : w.grownBy w' row) (k : w'.grownBy w2 row) : w.grownBy w2 row :=
  ⟨k.os.trans h.os, k.tape.trans h.tape, k.output.trans h.output, Nat.le_trans h.size k.size, fun i hi hne => (k.block i (Nat.lt_of_lt_of_le hi h.size) hne).trans (h.block i hi hne)⟩
theorem grown_drewN {row : Option Nat} (h : w.grownBy w' row) (k : Nat) : w.grownBy (w'.drewN k) row := ⟨h.os, h.tape, h.output, h.size, h.block⟩
theorem grown_below {B : Nat} (h : w.grownBy w' none) (hB : B ≤ w.heap.size) : Below B w w' := (Below.refl B w).grown h hB (fun k e => by cases e)
end
end
end Go.Proofs.YtoegamlpgenfcaaDoor
