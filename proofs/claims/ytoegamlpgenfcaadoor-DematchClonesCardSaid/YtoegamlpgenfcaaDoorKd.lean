/-
  The two listed variables: soft.limits (block 0), subblock.columns (block 1).
-/
import Derived.Test.YtoegamlpgenfcaaDoorKq
import Derived.Test.YtoegamlpgenfcaaDoorCq
namespace Go.Proofs.YtoegamlpgenfcaaDoor
open Go.RowKit Go.Shelf

structure Kinds (w : World) : Prop where
  lim : KLim w
  col : KCol w
theorem Kinds.keep {w w' : World} (h : Kinds w) (hs : w.heap.size ≤ w'.heap.size) (h0 : w'.heap[0]? = w.heap[0]?) (h1 : w'.heap[1]? = w.heap[1]?) : Kinds w' := ⟨h.lim.keep hs h0, h.col.keep hs h1⟩
theorem Kinds.below {w w' : World} {B : Nat} (h : Kinds w) (hb : Below B w w') (hB : 1 < B) : Kinds w' := ⟨h.lim.below hb (by omega), h.col.below hb hB⟩
theorem Kinds.step {w w' : World} (h : Kinds w) (hb : Below w.heap.size w w') : Kinds w' := ⟨h.lim.step hb, h.col.step hb⟩
theorem Kinds.drew {w : World} (h : Kinds w) : Kinds w.drew := ⟨h.lim.drew, h.col.drew⟩
theorem Kinds.drewN {w : World} (h : Kinds w) (n : Nat) : Kinds (w.drewN n) := ⟨h.lim.drewN n, h.col.drewN n⟩
theorem Kinds.alloc {w : World} (h : Kinds w) (o : Obj) : Kinds (w.alloc o) := ⟨h.lim.alloc o, h.col.alloc o⟩
end Go.Proofs.YtoegamlpgenfcaaDoor
