/-
  The law SegmentSplits's walk.
-/
import Derived.Test.YtkdodmjhpkfhnaaDoorL1
import Derived.Test.YtkdodmjhpkfhnaaDoorRj
import Derived.Test.YtkdodmjhpkfhnaaDoorPt
namespace Go.Proofs.YtkdodmjhpkfhnaaDoor
open Go.RowKit

theorem splitS_len (xs : List Int) : (splitS xs).1.length ≤ 13 := by
  unfold splitS
  split
  · simp
  · rename_i h
    split
    · simp
    · simp only [splitL, List.length_map, List.length_range]
      exact (planN_ok (by omega) (by omega)).1.blocks1
set_option maxRecDepth 100000 in
set_option maxHeartbeats 2000000 in
theorem splits_walk {a b p q : Int} {w : World} (hK : Kinds w) (hq : 0 ≤ q ∧ q ≤ 255) :
    Calls Tryd.prog 6 #[.agg #[.int .i64 a, .int .i64 b, .int .i64 p, .int .u8 q]] w fun e w' => e = .returned (.bool true) ∧ Below w.heap.size w w' := by
  have hP := Lib.hid (fun (u : World) => patBits_any (a := a) (b := b) (p := p) (w := u) hq)
  have hW := Lib.hid (fun (u : World) (h : Below w.heap.size w u) => works_any (hK.step h))
  go_enter Tryd.func6, Tryd.ntmps6
  go_wp2_with fail
  refine (hP.out _).mono ?_
  rintro e w1 ⟨A1, n, c1, xs, rfl, hn, ho1, hx, hb1⟩
  have hb00 := (Below.refl w.heap.size w).alloc (Nat.le_refl _) (.cells #[.int .i64 a, .int .i64 b, .int .i64 p, .int .u8 q] 45)
  replace hb1 := hb00.trans (hb1.mono hb00.size)
  clear hb00
  have hc1 := own_cap' ho1
  have hr1 := Rd.of_own ho1
  have hlx := hr1.len
  have hbe := hb1.alloc hb1.size (.cells #[] 5)
  have hown0 : (w1.alloc (.cells #[] 5)).ownsRow w1.heap.size 5 1 (.slice (some ⟨w1.heap.size, 0, none⟩) 0 0) 0 (([] : List Int).map (Value.int .u8)) :=
    ⟨rfl, .inr ⟨w1.heap.size, 0, #[], rfl, Nat.le_refl _, World.alloc_heap_new w1 _, Nat.le_refl _, Nat.zero_le _, rfl, by simp⟩⟩
  obtain ⟨A2, c2, w2, hrun, ho2, hbb⟩ := more_run (c' := c1) hown0 ((hr1.alloc (Nat.le_refl _) (.cells #[] 5)).more (by rw [World.size_alloc]; omega)) (by decide) (by omega) (by rw [World.size_alloc]; omega)
  have hb2 : Below w1.heap.size w1 w2 := hbb _ _ ((Below.refl _ _).alloc (Nat.le_refl _) _) (Nat.le_refl _) (Nat.le_refl _)
  rw [Nat.zero_add, List.nil_append] at ho2
  rw [Nat.zero_add] at hrun
  have HR := Lib.hid hrun
  clear hrun hbb hown0 ho1 hP
  go_wp2_with (at_builtin; refine Lib.wpList_append_run _ rfl _ _ _ _ rfl _ _ rfl rfl _ _ HR.out ?_)
  have hr2 := Rd.of_own ho2
  have hc2 := own_cap' ho2
  have hbw2 := hb1.trans (hb2.mono hb1.size)
  have hS := Lib.hid (Split_any (hK.step hbw2) hr2 hc2 hx)
  have hrb2 := hr1.step hb2
  clear hbe ho2 hb2 hb1
  refine hS.out.mono ?_
  intro e w3 h3
  obtain ⟨⟨xss, z⟩, hz⟩ : ∃ r, splitS xs = r := ⟨_, rfl⟩
  rw [hz] at h3
  obtain ⟨m, hm⟩ : ∃ m, xss.length = m := ⟨_, rfl⟩
  obtain ⟨A3, c3, rows, rfl, hO3, hm3⟩ := h3.got hm
  have hb3 := hbw2.trans (hO3.below.mono hbw2.size)
  have hR := Lib.hid (refSplit_any (c := c1) (hrb2.step hO3.below) hc1 hx)
  rw [hz] at hR
  have hrd3 := hO3.rds
  have hrb3 := hrb2.step hO3.below
  have hrc3 := hr2.step hO3.below
  clear h3 hS hrb2 hr2 hbw2 hr1
  simp only
  go_wp2_with fail
  refine hR.out.mono ?_
  intro e w4 h4
  obtain ⟨A4, c4, rows4, rfl, hO4, hm4⟩ := h4.got hm
  have hb4 := hb3.trans (hO4.below.mono hb3.size)
  have hmx : m ≤ 1000000 := by
    have h := splitS_len xs
    rw [hz] at h
    simp only at h
    omega
  have hLs := Lib.hid (lists_true (c := c3) (c' := c4) (hrd3.step hO4.below) hO4.rds hmx (hm3.trans hm4.symm))
  have hrb4 := hrb3.step hO4.below
  have hrc4 := hrc3.step hO4.below
  clear h4 hR hrb3 hrc3 hrd3 hO3 hO4
  simp only
  go_wp2_with fail
  refine hLs.out.mono ?_
  rintro e w5 ⟨rfl, i, rfl⟩
  have k1 := (hrc4.keep (w' := w4.drewN i) (fun p _ => rfl)).convert (P := Tryd.prog) Tryd.underlying46 Tryd.underlying5 c2 9 Tryd.underlying9
  have k2 := (hrb4.keep (w' := w4.drewN i) (fun p _ => rfl)).convert (P := Tryd.prog) Tryd.underlying46 Tryd.underlying5 c1 9 Tryd.underlying9
  have hb5 := below_drewN' hb4 i
  generalize w4.drewN i = W5 at *
  generalize strOfNums xs = st at *
  clear hLs hrb4 hrc4
  go_wp2_with (go_at_call 17; refine num_any.mono ?_; rintro e w7 ⟨rfl, rfl⟩)
  refine (hW.out _ hb5).mono ?_
  rintro e w9 ⟨rfl, hb9⟩
  replace hb9 := hb5.trans (hb9.mono hb5.size)
  go_wp2_with fail
  go_ret
  exact ⟨rfl, hb9⟩
end Go.Proofs.YtkdodmjhpkfhnaaDoor
