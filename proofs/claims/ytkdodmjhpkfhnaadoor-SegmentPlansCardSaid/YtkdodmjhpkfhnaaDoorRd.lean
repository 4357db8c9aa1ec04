/-
  plans.
-/
import Derived.Test.YtkdodmjhpkfhnaaDoorRc
namespace Go.Proofs.YtkdodmjhpkfhnaaDoor
open Go.RowKit

theorem layout_eql (l : Lay) (u : World) : (binOp .eql 34 (layV l) (layV l)).run Tryd.prog u = .ok (.bool true) u := by
  unfold layV layA
  simp [go_sem]
set_option maxHeartbeats 1000000 in
theorem plans_true {b : Int} {l : Lay} {w : World} (hK : Kinds w) (hl : planS b = (l, 0)) :
    Calls Tryd.prog 33 #[.int .i64 b, layV l] w fun e w' => e = .returned (.bool true) ∧ Below w.heap.size w w' := by
  have hp := Lib.hid (fun (u : World) (h : Below w.heap.size w u) => Plan_any (b := b) (hK.step h))
  rw [hl] at hp
  have hb0 := (Below.refl w.heap.size w).alloc (Nat.le_refl _) (.cells (layA l) 34)
  have hL := LayAt.new w 34 l
  have heq := layout_eql l
  have hs1 : (w.alloc (.cells (layA l) 34)).heap.size = w.heap.size + 1 := World.size_alloc _ _
  unfold layV layA at *
  go_enter Tryd.func33, Tryd.ntmps33
  go_wp2_with fail
  refine (hp.out _ hb0).mono ?_
  rintro e w1 ⟨rfl, hb1⟩
  rw [hs1] at hb1
  have hL1 := hL.below hb1 (by omega)
  have hb2 := hb0.trans (hb1.mono (by omega))
  have hL2 := hL1.alloc (.cells (layA l) 34)
  have hM2 := LayAt.new w1 34 l
  have hb3 := hb2.alloc hb2.size (.cells (layA l) 34)
  unfold layA at hL2 hM2 hb3
  obtain ⟨c0, c1, c2, c3, c4, c5, c6⟩ := hL2.all
  obtain ⟨d0, d1, d2, d3, d4, d5, d6⟩ := hM2.all
  clear hL hL1 hL2 hM2 hp
  go_wp2_with (go_at_call 17; refine num_any.mono ?_; rintro e w2 ⟨rfl, rfl⟩)
  go_ret
  exact ⟨rfl, hb3⟩
end Go.Proofs.YtkdodmjhpkfhnaaDoor
