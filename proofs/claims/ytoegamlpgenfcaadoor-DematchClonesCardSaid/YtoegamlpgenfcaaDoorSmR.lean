/-
  The references' Same, Own, Valid; slices.ContainsFunc at the two predicates.
-/
import Derived.Test.YtoegamlpgenfcaaDoorGn
import Derived.Test.YtoegamlpgenfcaaDoorGm
import Derived.Test.YtoegamlpgenfcaaDoorSm
import Derived.Test.YtoegamlpgenfcaaDoorApp
import Derived.Test.YtoegamlpgenfcaaDoorQ
import Derived.Shelf.Abstract
import Derived.Test.YtoegamlpgenfcaaDoorDmM
namespace Go.Proofs.YtoegamlpgenfcaaDoor
open Go.RowKit Go.Shelf

/-- A slice of the call's own, whatever it holds. -/
def Has (w : World) (lo : Nat) (V : Value) (n : Nat) : Prop := ∃ ys, w.ownsRow lo 5 1 V n ys
theorem Has.of {w : World} {lo n : Nat} {V : Value} {ys : List Value} (h : w.ownsRow lo 5 1 V n ys) : Has w lo V n := ⟨ys, h⟩
theorem Has.setCell {w : World} {lo n : Nat} {V : Value} (h : Has w lo V n) (b o : Nat) (u : Value) : Has (w.setCell ⟨b, o, none⟩ u) lo V n := by
  obtain ⟨ys, hl, h2⟩ := h
  obtain ⟨p, hpe⟩ : ∃ p : Addr, p = ⟨b, o, none⟩ := ⟨_, rfl⟩
  have hsp : p.spot = none := by rw [hpe]
  rw [← hpe]
  rcases h2 with ⟨rfl, rfl⟩ | ⟨g, cap, cur, rfl, hb, hg, hnc, hcm, hcs, ht⟩
  · exact ⟨ys, hl, .inl ⟨rfl, rfl⟩⟩
  · by_cases hp : g = p.block
    · subst hp
      have hg2 : ∃ cur2 : Array Value, (w.setCell p u).heap[p.block]? = some (.cells cur2 5 (0, 0)) ∧ cur2.size = cur.size := by
        refine ⟨cur.setIfInBounds p.off u, ?_, by simp⟩
        simp only [World.setCell, Array.getElem?_modify, hg]
        simp [hsp]
      obtain ⟨cur2, h3, h4⟩ := hg2
      refine ⟨cur2.toList.take (n * 1), ?_, .inr ⟨p.block, cap, cur2, rfl, hb, h3, hnc, hcm, by rw [h4]; exact hcs, rfl⟩⟩
      rw [List.length_take, Array.length_toList, h4, hcs]
      omega
    · exact ⟨ys, hl, .inr ⟨g, cap, cur, rfl, hb, (Below.heap_setCell _ _ _ _ hp).trans hg, hnc, hcm, hcs, ht⟩⟩
theorem Has.save {X : Nat → Prop} {w w' : World} {lo n : Nat} {V : Value} (h : Has w lo V n) (hs : Save X w w') (hX : ∀ g, V.ownBlock = some g → ¬ X g) : Has w' lo V n := by
  obtain ⟨ys, hy⟩ := h
  exact ⟨ys, ownsRow_save hy hs hX⟩
theorem Has.step {w w' : World} {lo n : Nat} {V : Value} (h : Has w lo V n) (hb : Below w.heap.size w w') : Has w' lo V n := by
  obtain ⟨ys, hy⟩ := h
  exact ⟨ys, own_step hy hb⟩
theorem Has.mono {w : World} {lo lo' n : Nat} {V : Value} (h : Has w lo V n) (hl : lo' ≤ lo) : Has w lo' V n := by
  obtain ⟨ys, hy⟩ := h
  exact ⟨ys, hy.mono hl⟩
end Go.Proofs.YtoegamlpgenfcaaDoor
