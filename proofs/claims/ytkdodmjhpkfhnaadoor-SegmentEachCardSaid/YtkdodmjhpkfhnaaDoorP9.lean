/-
  Plan; each, Each.
-/
import Derived.Test.YtkdodmjhpkfhnaaDoorP8
namespace Go.Proofs.YtkdodmjhpkfhnaaDoor
open Go.RowKit

def zeroLay : Lay := ⟨0, 0, 0, 0, 0, 0, 0⟩
def planS (b : Int) : Lay × Int := if b < 1 ∨ 79560 < b then (zeroLay, 2) else (planN b.toNat, 0)
/-- The way out of Plan without a panic. -/
theorem plan_door {tmps : Array Value} {W : World} {B C : Nat} {v : Value} {l : Lay} {R : Ending → World → Prop} (h2 : tmps.getD 2 undef = .pointer (some ⟨C, 0, none⟩)) (h3 : tmps.getD 3 undef = .pointer (some ⟨B, 0, none⟩)) (hb : Boxed W B 22 v) (hL : LayAt W C 34 l)
    (hR : R (.returned (.tuple #[layV l, .int .i64 0])) (W.setCell ⟨B, 0, none⟩ (.int .i64 0))) :
    Leaves Tryd.prog Tryd.f19 tmps R [{ target := .fn (.func 35) #[.pointer (some ⟨B, 0, none⟩)], args := #[] }] .returning W := by
  refine leaves_cons (f := 35) (args := #[.pointer (some ⟨B, 0, none⟩)]) (by simp) (by simp [go_sem]) ?_
  refine (plan_calm ⟨B, 0, none⟩ W hb.cell hb.frozen).mono ?_
  rintro e u' w' ⟨rfl, rfl, rfl⟩
  have hne : C ≠ B := by
    intro e
    subst e
    have h1 := hb.symm.trans hL.heap
    simp at h1
  obtain ⟨c0, c1, c2, c3, c4, c5, c6⟩ := (LayAt.other hL (p := ⟨B, 0, none⟩) (Ne.symm hne) (.int .i64 0)).all
  have hc := (hb.set (.int .i64 0)).cell
  simp only [Array.getD_eq_getD_getElem?] at h2 h3
  unfold layV layA at hR
  simpa [Leaves, settle, results, Tryd.results19, go_sem, h2, h3, hc, c0, c1, c2, c3, c4, c5, c6] using hR
/-- The way out of Plan behind require's panic. -/
theorem plan_door_no {tmps : Array Value} {W : World} {B C : Nat} {v : Value} {l : Lay} {k : Int} {R : Ending → World → Prop} (h2 : tmps.getD 2 undef = .pointer (some ⟨C, 0, none⟩)) (h3 : tmps.getD 3 undef = .pointer (some ⟨B, 0, none⟩)) (hb : Boxed W B 22 v) (hL : LayAt W C 34 l)
    (hR : R (.returned (.tuple #[layV l, .int .i64 k])) (W.setCell ⟨B, 0, none⟩ (.int .i64 k))) :
    Leaves Tryd.prog Tryd.f19 tmps R [{ target := .fn (.func 35) #[.pointer (some ⟨B, 0, none⟩)], args := #[] }] (.panicking [{ v := failV k, recovered := false }]) W := by
  refine leaves_cons (f := 35) (args := #[.pointer (some ⟨B, 0, none⟩)]) (by simp) (by simp [go_sem]) ?_
  refine (plan_caught k ⟨B, 0, none⟩ W hb.cell hb.frozen).mono ?_
  rintro e u' w' ⟨rfl, rfl, rfl⟩
  have hne : C ≠ B := by
    intro e
    subst e
    have h1 := hb.symm.trans hL.heap
    simp at h1
  obtain ⟨c0, c1, c2, c3, c4, c5, c6⟩ := (LayAt.other hL (p := ⟨B, 0, none⟩) (Ne.symm hne) (.int .i64 k)).all
  have hc := (hb.set (.int .i64 k)).cell
  simp only [Array.getD_eq_getD_getElem?] at h2 h3
  unfold layV layA at hR
  simpa [Leaves, settle, results, Tryd.results19, go_sem, h2, h3, hc, c0, c1, c2, c3, c4, c5, c6] using hR
theorem field_lay (l : Lay) (w : World) : (Instr.field 70 (layV l) 0).run Tryd.prog w = .ok (layV l) w := by
  unfold layV layA
  simp [Instr.field, run_underlying Tryd.underlying70, asAgg, go_sem]
set_option maxRecDepth 100000 in
set_option maxHeartbeats 1000000 in
theorem Plan_ok {b : Nat} {w : World} (hK : Kinds w) (h1 : 1 ≤ b) (h2 : b ≤ 79560) :
    Calls Tryd.prog 19 #[.int .i64 (b : Int)] w fun e w' => e = .returned (.tuple #[layV (planN b), .int .i64 0]) ∧ Below w.heap.size w w' := by
  have hmf := makeFunc_run
  have hn := Lib.hid (fun (u : World) (hb : Below w.heap.size w u) => plan_any (b := b) (hK.step hb) h1 h2)
  go_enter_defers Tryd.func19, Tryd.ntmps19
  have hfl := field_lay
  have hb0 := below_two (w := w) (.cells #[.int .i64 0, .int .i64 0, .int .i64 0, .int .i64 0, .int .i64 0, .int .i64 0, .int .i64 0] 34) (.cells #[.int .i64 0] 22)
  have hR : LayAt ((w.alloc (.cells #[.int .i64 0, .int .i64 0, .int .i64 0, .int .i64 0, .int .i64 0, .int .i64 0, .int .i64 0] 34)).alloc (.cells #[.int .i64 0] 22)) w.heap.size 34 zeroLay := LayAt.alloc (LayAt.new w 34 zeroLay) _
  have bE := Boxed.new (w.alloc (.cells #[.int .i64 0, .int .i64 0, .int .i64 0, .int .i64 0, .int .i64 0, .int .i64 0, .int .i64 0] 34)) 22 (.int .i64 0)
  rw [World.size_alloc] at bE
  go_wp2_with fail
  generalize ((w.alloc (.cells #[.int .i64 0, .int .i64 0, .int .i64 0, .int .i64 0, .int .i64 0, .int .i64 0, .int .i64 0] 34)).alloc (.cells #[.int .i64 0] 22)) = W at *
  refine (hn.out _ hb0).mono ?_
  rintro e w1 ⟨rfl, hb1⟩
  replace hR := LayAt.step hR hb1
  replace bE := Boxed.below bE hb1 bE.lt
  replace hb1 := hb0.trans (hb1.mono hb0.size)
  obtain ⟨l, hl⟩ : ∃ l, planN b = l := ⟨_, rfl⟩
  rw [hl]
  have HL := Lib.hid hl
  clear hl hn hb0
  have hCq := hR.all
  have q0 : w1.cell? ⟨w.heap.size, 0, none⟩ = some (.int .i64 0) := hCq.c0
  have q1 : w1.cell? ⟨w.heap.size, 1, none⟩ = some (.int .i64 0) := hCq.c1
  have q2 : w1.cell? ⟨w.heap.size, 2, none⟩ = some (.int .i64 0) := hCq.c2
  have q3 : w1.cell? ⟨w.heap.size, 3, none⟩ = some (.int .i64 0) := hCq.c3
  have q4 : w1.cell? ⟨w.heap.size, 4, none⟩ = some (.int .i64 0) := hCq.c4
  have q5 : w1.cell? ⟨w.heap.size, 5, none⟩ = some (.int .i64 0) := hCq.c5
  have q6 : w1.cell? ⟨w.heap.size, 6, none⟩ = some (.int .i64 0) := hCq.c6
  have g0 := hR.frozen 0
  have g1 := hR.frozen 1
  have g2 := hR.frozen 2
  have g3 := hR.frozen 3
  have g4 := hR.frozen 4
  have g5 := hR.frozen 5
  have g6 := hR.frozen 6
  have e0 := bE.cell
  have e1 := bE.frozen
  clear hCq
  unfold layV layA at hfl
  unfold layV layA
  go_wp2_with fail
  have hR2 := hR.put (l := l) (v0 := .int .i64 l.bits) (v1 := .int .i64 l.blocks) (v2 := .int .i64 l.long) (v3 := .int .i64 l.short) (v4 := .int .i64 l.longs) (v5 := .int .i64 l.shorts) (v6 := .int .i64 l.filler) rfl
  have hB2 := put_below (B := w.heap.size) (v0 := .int .i64 l.bits) (v1 := .int .i64 l.blocks) (v2 := .int .i64 l.long) (v3 := .int .i64 l.short) (v4 := .int .i64 l.longs) (v5 := .int .i64 l.shorts) (v6 := .int .i64 l.filler) hb1 (Nat.le_refl _)
  have bE2 : Boxed (((((((w1.setCell ⟨w.heap.size, 0, none⟩ (.int .i64 l.bits)).setCell ⟨w.heap.size, 1, none⟩ (.int .i64 l.blocks)).setCell ⟨w.heap.size, 2, none⟩ (.int .i64 l.long)).setCell ⟨w.heap.size, 3, none⟩ (.int .i64 l.short)).setCell ⟨w.heap.size, 4, none⟩ (.int .i64 l.longs)).setCell ⟨w.heap.size, 5, none⟩ (.int .i64 l.shorts)).setCell ⟨w.heap.size, 6, none⟩ (.int .i64 l.filler)) (w.heap.size + 1) 22 (.int .i64 0) := (put_heap (by omega)).trans bE
  generalize (((((((w1.setCell ⟨w.heap.size, 0, none⟩ (.int .i64 l.bits)).setCell ⟨w.heap.size, 1, none⟩ (.int .i64 l.blocks)).setCell ⟨w.heap.size, 2, none⟩ (.int .i64 l.long)).setCell ⟨w.heap.size, 3, none⟩ (.int .i64 l.short)).setCell ⟨w.heap.size, 4, none⟩ (.int .i64 l.longs)).setCell ⟨w.heap.size, 5, none⟩ (.int .i64 l.shorts)).setCell ⟨w.heap.size, 6, none⟩ (.int .i64 l.filler)) = W2 at hR2 hB2 bE2 ⊢
  have hR3 := LayAt.other hR2 (p := ⟨w.heap.size + 1, 0, none⟩) (by simp) (.int .i64 0)
  refine plan_door rfl rfl (bE2.set _) hR3 ⟨?_, (hB2.setCell (p := ⟨w.heap.size + 1, 0, none⟩) (by simp) _).setCell (p := ⟨w.heap.size + 1, 0, none⟩) (by simp) _⟩
  rw [HL.out]
set_option maxRecDepth 100000 in
set_option maxHeartbeats 1000000 in
theorem Plan_no {b : Int} {w : World} (h : b < 1 ∨ 79560 < b) :
    Calls Tryd.prog 19 #[.int .i64 b] w fun e w' => e = .returned (.tuple #[layV zeroLay, .int .i64 2]) ∧ Below w.heap.size w w' := by
  have hmf := makeFunc_run
  have hn := Lib.hid (fun (u : World) => plan_no (w := u) h)
  have hb0 := below_two (w := w) (.cells #[.int .i64 0, .int .i64 0, .int .i64 0, .int .i64 0, .int .i64 0, .int .i64 0, .int .i64 0] 34) (.cells #[.int .i64 0] 22)
  have hR : LayAt ((w.alloc (.cells #[.int .i64 0, .int .i64 0, .int .i64 0, .int .i64 0, .int .i64 0, .int .i64 0, .int .i64 0] 34)).alloc (.cells #[.int .i64 0] 22)) w.heap.size 34 zeroLay := LayAt.alloc (LayAt.new w 34 zeroLay) _
  have bE := Boxed.new (w.alloc (.cells #[.int .i64 0, .int .i64 0, .int .i64 0, .int .i64 0, .int .i64 0, .int .i64 0, .int .i64 0] 34)) 22 (.int .i64 0)
  rw [World.size_alloc] at bE
  go_enter_defers Tryd.func19, Tryd.ntmps19
  go_wp2_with fail
  generalize ((w.alloc (.cells #[.int .i64 0, .int .i64 0, .int .i64 0, .int .i64 0, .int .i64 0, .int .i64 0, .int .i64 0] 34)).alloc (.cells #[.int .i64 0] 22)) = W at *
  refine (hn.out _).mono ?_
  rintro e w1 ⟨rfl, hb1⟩
  replace hR := LayAt.step hR hb1
  replace bE := Boxed.below bE hb1 bE.lt
  replace hb1 := hb0.trans (hb1.mono hb0.size)
  exact plan_door_no rfl rfl bE hR ⟨rfl, hb1.setCell (p := ⟨w.heap.size + 1, 0, none⟩) (by simp) _⟩
theorem Plan_any {b : Int} {w : World} (hK : Kinds w) :
    Calls Tryd.prog 19 #[.int .i64 b] w fun e w' => e = .returned (.tuple #[layV (planS b).1, .int .i64 (planS b).2]) ∧ Below w.heap.size w w' := by
  unfold planS
  split
  · rename_i h; exact Plan_no h
  · rename_i h
    obtain ⟨m, rfl⟩ : ∃ m : Nat, b = m := ⟨b.toNat, by omega⟩
    exact Plan_ok hK (by omega) (by omega)
/-! ### each, Each -/
theorem each_any {l : Lay} {w : World} :
    Calls Tryd.prog 37 #[layV l] w fun e w' => e = .returned (.func (.func 55) #[] #[.pointer (some ⟨w.heap.size, 0, none⟩)]) ∧ LayAt w' w.heap.size 70 l ∧ Below w.heap.size w w' := by
  have hmf := makeFunc_run
  have hL := LayAt.new w 70 l
  have hB := (Below.refl w.heap.size w).alloc (Nat.le_refl _) (.cells (layA l) 70)
  unfold layV layA at *
  go_enter Tryd.func37, Tryd.ntmps37
  go_wp2
  go_ret
  exact ⟨rfl, hL, hB⟩
theorem Each_any {b : Int} {w : World} (hK : Kinds w) :
    Calls Tryd.prog 22 #[.int .i64 b] w fun e w' => ∃ B, e = .returned (.func (.func 55) #[] #[.pointer (some ⟨B, 0, none⟩)]) ∧ w.heap.size ≤ B ∧ LayAt w' B 70 (planS b).1 ∧ Below w.heap.size w w' := by
  have hP := Lib.hid (Plan_any (b := b) hK)
  obtain ⟨⟨l, no⟩, hl⟩ : ∃ p, planS b = p := ⟨_, rfl⟩
  rw [hl] at hP ⊢
  simp only at hP ⊢
  clear hl
  go_enter Tryd.func22, Tryd.ntmps22
  go_wp2_with fail
  refine hP.out.mono ?_
  rintro e w1 ⟨rfl, hb1⟩
  unfold layV layA
  go_wp2_with fail
  refine (each_any (l := l)).mono ?_
  rintro e w2 ⟨rfl, hL, hb2⟩
  rw [World.size_alloc] at hb2 hL ⊢
  have hb3 := (hb1.alloc hb1.size (.cells (layA l) 34)).trans (hb2.mono (Nat.le_succ_of_le hb1.size))
  have hsz := hb1.size
  go_wp2_with fail
  go_ret
  exact ⟨_, rfl, by omega, hL, hb3⟩
end Go.Proofs.YtkdodmjhpkfhnaaDoor
