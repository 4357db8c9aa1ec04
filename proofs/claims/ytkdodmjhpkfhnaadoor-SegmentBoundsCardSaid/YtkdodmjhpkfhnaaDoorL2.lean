/-
  The law SegmentPlans's walk; SegmentBounds's.
-/
import Derived.Test.YtkdodmjhpkfhnaaDoorL1
import Derived.Test.YtkdodmjhpkfhnaaDoorRf
namespace Go.Proofs.YtkdodmjhpkfhnaaDoor
open Go.RowKit

set_option maxRecDepth 100000 in
set_option maxHeartbeats 2000000 in
theorem plans_walk {n : Int} {w : World} (hK : Kinds w) :
    Calls Tryd.prog 4 #[.int .i64 n] w fun e w' => e = .returned (.bool true) ∧ Below w.heap.size w w' := by
  have hN := Lib.hid (Plan_any (b := n) hK)
  have hR := Lib.hid (fun (u : World) => refPlan_any (b := n) (w := u))
  have hW := Lib.hid (fun (u : World) (h : Below w.heap.size w u) => works_any (hK.step h))
  obtain ⟨⟨l, z⟩, haz⟩ : ∃ p, planS n = p := ⟨_, rfl⟩
  rw [haz] at hN hR
  clear haz
  have heq := layout_eql l
  unfold layV layA at *
  go_enter Tryd.func4, Tryd.ntmps4
  go_wp2_with fail
  refine hN.out.mono ?_
  rintro e w1 ⟨rfl, hb1⟩
  go_wp2_with fail
  have hb2 := hb1.alloc hb1.size (.cells (layA l) 34)
  have hL := LayAt.new w1 34 l
  unfold layA at hb2 hL
  generalize (w1.alloc (.cells #[.int .i64 l.bits, .int .i64 l.blocks, .int .i64 l.long, .int .i64 l.short, .int .i64 l.longs, .int .i64 l.shorts, .int .i64 l.filler] 34)) = W1 at *
  refine (hR.out _).mono ?_
  rintro e w2 ⟨rfl, hb3⟩
  have hL2 := (hL.below hb3 hL.lt).alloc (.cells (layA l) 34)
  have hM2 := LayAt.new w2 34 l
  replace hb3 := hb2.trans (hb3.mono hb2.size)
  have hb4 := hb3.alloc hb3.size (.cells (layA l) 34)
  unfold layA at hL2 hM2 hb4
  obtain ⟨c0, c1, c2, c3, c4, c5, c6⟩ := hL2.all
  obtain ⟨d0, d1, d2, d3, d4, d5, d6⟩ := hM2.all
  clear hL hL2 hM2 hb2 hb1 hR hN
  go_wp2_with (go_at_call 17; refine num_any.mono ?_; rintro e w7 ⟨rfl, rfl⟩)
  refine (hW.out _ hb4).mono ?_
  rintro e w9 ⟨rfl, hb9⟩
  replace hb9 := hb4.trans (hb9.mono hb4.size)
  go_wp2_with fail
  go_ret
  exact ⟨rfl, hb9⟩
end Go.Proofs.YtkdodmjhpkfhnaaDoor
