/-
  The table of the ranges of sizes.
-/
import Derived.Test.YtbpkoilecdejiaaDoorApp
import Derived.Test.YtbpkoilecdejiaaDoorPm
namespace Go.Proofs.YtbpkoilecdejiaaDoor
open Go.RowKit

/-- The ranges of sizes (block 0) hold what start-up lays. -/
def rgC : Array Value := #[.int .i64 40, .int .i64 512, .int .i64 8, .int .i64 528, .int .i64 1024, .int .i64 16, .int .i64 1056, .int .i64 2048, .int .i64 32, .int .i64 2112, .int .i64 6144, .int .i64 64]
structure Ranges (w : World) : Prop where
  lt : 0 < w.heap.size
  cells : ∀ (j : Nat) (v : Value), rgC[j]? = some v → w.cell? ⟨0, j, none⟩ = some v
/-- What the listed variables hold. -/
structure Kinds (w : World) : Prop where
  rg : Ranges w
theorem Kinds.lt {w : World} (h : Kinds w) : 0 < w.heap.size := h.rg.lt
theorem Kinds.keep {w w' : World} (h : Kinds w) (hs : w.heap.size ≤ w'.heap.size) (hr : w'.heap[0]? = w.heap[0]?) : Kinds w' := by
  have hg : ∀ j, w'.cell? ⟨0, j, none⟩ = w.cell? ⟨0, j, none⟩ := fun j => World.cell?_of_block hr
  exact ⟨⟨Nat.lt_of_lt_of_le h.rg.lt hs, fun j v hv => (hg j).trans (h.rg.cells j v hv)⟩⟩
theorem Kinds.below {w w' : World} {B : Nat} (h : Kinds w) (hb : Below B w w') (hB : 0 < B) : Kinds w' := h.keep hb.size (hb.block 0 hB)
theorem Kinds.step {w w' : World} (h : Kinds w) (hb : Below w.heap.size w w') : Kinds w' := h.below hb h.lt
theorem Kinds.drew {w : World} (h : Kinds w) : Kinds w.drew := h.keep (Nat.le_refl _) rfl
theorem Kinds.drewN {w : World} (h : Kinds w) (n : Nat) : Kinds (w.drewN n) := h.keep (Nat.le_refl _) rfl
theorem Kinds.alloc {w : World} (h : Kinds w) (o : Obj) : Kinds (w.alloc o) := h.step ((Below.refl _ w).alloc (Nat.le_refl _) _)
end Go.Proofs.YtbpkoilecdejiaaDoor
