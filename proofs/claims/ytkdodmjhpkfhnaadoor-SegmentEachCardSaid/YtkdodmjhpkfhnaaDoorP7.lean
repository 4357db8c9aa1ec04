/-
  plan.
-/
import Derived.Test.YtkdodmjhpkfhnaaDoorP6
namespace Go.Proofs.YtkdodmjhpkfhnaaDoor
open Go.RowKit

theorem plan_no {b : Int} {w : World} (h : b < 1 ∨ 79560 < b) :
    Calls Tryd.prog 36 #[.int .i64 b] w fun e w' => e = .panicked [{ v := failV 2, recovered := false }] ∧ Below w.heap.size w w' := by
  rcases h with h | h
  · have d1 : decide (1 ≤ b) = false := by simp; omega
    go_enter Tryd.func36, Tryd.ntmps36
    go_wp2_with (go_at_call 31; refine require_no.mono ?_; rintro e w1 ⟨rfl, rfl⟩)
    exact ⟨rfl, rfl, (Below.refl _ w).alloc (Nat.le_refl _) _⟩
  · have d1 : decide (1 ≤ b) = true := by simp; omega
    have d2 : decide (b ≤ 79560) = false := by simp; omega
    go_enter Tryd.func36, Tryd.ntmps36
    go_wp2_with (go_at_call 31; refine require_no.mono ?_; rintro e w1 ⟨rfl, rfl⟩)
    exact ⟨rfl, rfl, (Below.refl _ w).alloc (Nat.le_refl _) _⟩
set_option maxRecDepth 100000 in
set_option maxHeartbeats 4000000 in
theorem plan_one {b : Nat} {w : World} (hK : Kinds w) (h1 : 1 ≤ b) (h2 : b ≤ 6144) :
    Calls Tryd.prog 36 #[.int .i64 (b : Int)] w fun e w' => e = .returned (layV (planN b)) ∧ Below w.heap.size w w' := by
  have d1 : decide (1 ≤ (b : Int)) = true := by simp; omega
  have d2 : decide ((b : Int) ≤ 79560) = true := by simp; omega
  have d3 : decide ((6144 : Int) < b) = false := by simp; omega
  rw [planN_one h2]
  go_enter Tryd.func36, Tryd.ntmps36
  go_wp2_with (go_at_call 31; refine require_ok.mono ?_; rintro e w1 ⟨rfl, rfl⟩)
  have hb0 := below_two (w := w) (.cells #[.int .i64 0, .int .i64 0, .int .i64 0, .int .i64 0, .int .i64 0, .int .i64 0, .int .i64 0] 70) (.cells #[.int .i64 b, .int .i64 1, .int .i64 0, .int .i64 0, .int .i64 0, .int .i64 0, .int .i64 0] 70)
  have hL : LayAt ((w.alloc (.cells #[.int .i64 0, .int .i64 0, .int .i64 0, .int .i64 0, .int .i64 0, .int .i64 0, .int .i64 0] 70)).alloc (.cells #[.int .i64 b, .int .i64 1, .int .i64 0, .int .i64 0, .int .i64 0, .int .i64 0, .int .i64 0] 70)) (w.heap.size + 1) 70 ⟨b, 1, 0, 0, 0, 0, 0⟩ := by
    have := LayAt.new (w.alloc (.cells #[.int .i64 0, .int .i64 0, .int .i64 0, .int .i64 0, .int .i64 0, .int .i64 0, .int .i64 0] 70)) 70 ⟨b, 1, 0, 0, 0, 0, 0⟩
    rw [World.size_alloc] at this
    exact this
  have hR : LayAt ((w.alloc (.cells #[.int .i64 0, .int .i64 0, .int .i64 0, .int .i64 0, .int .i64 0, .int .i64 0, .int .i64 0] 70)).alloc (.cells #[.int .i64 b, .int .i64 1, .int .i64 0, .int .i64 0, .int .i64 0, .int .i64 0, .int .i64 0] 70)) w.heap.size 70 ⟨0, 0, 0, 0, 0, 0, 0⟩ :=
    LayAt.alloc (LayAt.new w 70 ⟨0, 0, 0, 0, 0, 0, 0⟩) _
  have hs0 := fun (u : World) (h : Below w.heap.size w u) => layChecksum_any (l := ⟨b, 1, 0, 0, 0, 0, 0⟩) (hK.step h)
  rw [show (⟨b, 1, 0, 0, 0, 0, 0⟩ : Lay).cs = 0 from rfl] at hs0
  have hs := Lib.hid hs0
  clear hs0
  generalize ((w.alloc (.cells #[.int .i64 0, .int .i64 0, .int .i64 0, .int .i64 0, .int .i64 0, .int .i64 0, .int .i64 0] 70)).alloc (.cells #[.int .i64 b, .int .i64 1, .int .i64 0, .int .i64 0, .int .i64 0, .int .i64 0, .int .i64 0] 70)) = W at *
  have hC := hL.all
  have p0 : W.cell? ⟨w.heap.size + 1, 0, none⟩ = some (.int .i64 b) := hC.c0
  have p1 : W.cell? ⟨w.heap.size + 1, 1, none⟩ = some (.int .i64 1) := hC.c1
  have p2 : W.cell? ⟨w.heap.size + 1, 2, none⟩ = some (.int .i64 0) := hC.c2
  have p3 : W.cell? ⟨w.heap.size + 1, 3, none⟩ = some (.int .i64 0) := hC.c3
  have p4 : W.cell? ⟨w.heap.size + 1, 4, none⟩ = some (.int .i64 0) := hC.c4
  have p5 : W.cell? ⟨w.heap.size + 1, 5, none⟩ = some (.int .i64 0) := hC.c5
  have p6 : W.cell? ⟨w.heap.size + 1, 6, none⟩ = some (.int .i64 0) := hC.c6
  have hlt := hL.lt
  have hltR := hR.lt
  have hbWd := hb0.drew
  clear hC
  go_region_held3 (fun w' => w'.cell? ⟨w.heap.size + 1, 0, none⟩ = some (.int .i64 b) ∧ w'.cell? ⟨w.heap.size + 1, 1, none⟩ = some (.int .i64 1) ∧ w'.cell? ⟨w.heap.size + 1, 2, none⟩ = some (.int .i64 0) ∧ w'.cell? ⟨w.heap.size + 1, 3, none⟩ = some (.int .i64 0) ∧ w'.cell? ⟨w.heap.size + 1, 4, none⟩ = some (.int .i64 0) ∧ w'.cell? ⟨w.heap.size + 1, 5, none⟩ = some (.int .i64 0) ∧ w'.cell? ⟨w.heap.size + 1, 6, none⟩ = some (.int .i64 0))
    (first
      | go_keep
      | exact ⟨(hb2.cell hlt).trans p0, (hb2.cell hlt).trans p1, (hb2.cell hlt).trans p2, (hb2.cell hlt).trans p3, (hb2.cell hlt).trans p4, (hb2.cell hlt).trans p5, (hb2.cell hlt).trans p6⟩)
    (first
      | (go_at_call 43; refine (hs.out _ hbWd).mono ?_; rintro e w2 ⟨rfl, hb2⟩))
  rename_i hHeld
  clear hHeld p0 p1 p2 p3 p4 p5 p6
  have ht : IntKind.i64.wrap ((b : Int) + IntKind.i64.wrap 0) = (b : Int) := by
    rw [wrap_small (x := 0) (by decide) (by decide), wrap_small (by omega) (by omega)]; omega
  rw [ht]
  clear ht
  have hb3 := hbWd.trans (hb2.mono hbWd.size)
  have hce := fun (u : World) => ceil_any (a := b) (b := 1) (w := u) (Nat.le_refl _) (by omega) (by decide)
  rw [show (b + 1 - 1) / 1 = b by omega] at hce
  have hnx := Lib.hid (fun (u : World) (h : Below w.heap.size w u) => next_any (n := b) (hK.step h) h2)
  have hL2 := LayAt.step hL.drew hb2
  have hR2 := LayAt.step hR.drew hb2
  have hC2 := hL2.all
  have p1 : w2.cell? ⟨w.heap.size + 1, 1, none⟩ = some (.int .i64 1) := hC2.c1
  clear hs
  go_wp2_with fail
  refine (hce _).mono ?_
  rintro e w3 ⟨rfl, rfl⟩
  clear hC2 p1
  go_wp2_with fail
  refine (hnx.out _ hb3).mono ?_
  rintro e w4 ⟨rfl, hb4⟩
  replace hL2 := LayAt.step hL2 hb4
  replace hR2 := LayAt.step hR2 hb4
  replace hb4 := hb3.trans (hb4.mono hb3.size)
  have hg := nextN_ge h2
  obtain ⟨k, hk⟩ : ∃ k, nextN b = k := ⟨_, rfl⟩
  rw [hk] at hg
  have hN := Lib.hid hk
  rw [hk]
  clear hk hnx
  have hC := hL2.all
  have hCR := hR2.all
  have p0 : w4.cell? ⟨w.heap.size + 1, 0, none⟩ = some (.int .i64 b) := hC.c0
  have p1 : w4.cell? ⟨w.heap.size + 1, 1, none⟩ = some (.int .i64 1) := hC.c1
  have p2 : w4.cell? ⟨w.heap.size + 1, 2, none⟩ = some (.int .i64 0) := hC.c2
  have p3 : w4.cell? ⟨w.heap.size + 1, 3, none⟩ = some (.int .i64 0) := hC.c3
  have p4 : w4.cell? ⟨w.heap.size + 1, 4, none⟩ = some (.int .i64 0) := hC.c4
  have p5 : w4.cell? ⟨w.heap.size + 1, 5, none⟩ = some (.int .i64 0) := hC.c5
  have p6 : w4.cell? ⟨w.heap.size + 1, 6, none⟩ = some (.int .i64 0) := hC.c6
  have q0 : w4.cell? ⟨w.heap.size, 0, none⟩ = some (.int .i64 0) := hCR.c0
  have q1 : w4.cell? ⟨w.heap.size, 1, none⟩ = some (.int .i64 0) := hCR.c1
  have q2 : w4.cell? ⟨w.heap.size, 2, none⟩ = some (.int .i64 0) := hCR.c2
  have q3 : w4.cell? ⟨w.heap.size, 3, none⟩ = some (.int .i64 0) := hCR.c3
  have q4 : w4.cell? ⟨w.heap.size, 4, none⟩ = some (.int .i64 0) := hCR.c4
  have q5 : w4.cell? ⟨w.heap.size, 5, none⟩ = some (.int .i64 0) := hCR.c5
  have q6 : w4.cell? ⟨w.heap.size, 6, none⟩ = some (.int .i64 0) := hCR.c6
  have f2 := hL2.frozen 2
  have f4 := hL2.frozen 4
  have f6 := hL2.frozen 6
  have g0 := hR2.frozen 0
  have g1 := hR2.frozen 1
  have g2 := hR2.frozen 2
  have g3 := hR2.frozen 3
  have g4 := hR2.frozen 4
  have g5 := hR2.frozen 5
  have g6 := hR2.frozen 6
  clear hC hCR hL hR hL2 hb0 hb2 hb3
  go_wp2_with fail
  have hkb : ((k - b : Nat) : Int) = (k : Int) - (b : Int) := by omega
  have hR3 := ((LayAt.other (LayAt.other (LayAt.other hR2 (p := ⟨w.heap.size + 1, 2, none⟩) (by simp) (.int .i64 k)) (p := ⟨w.heap.size + 1, 4, none⟩) (by simp) (.int .i64 1)) (p := ⟨w.heap.size + 1, 6, none⟩) (by simp) (.int .i64 (k - b))).put (l := ⟨b, 1, k, 0, 1, 0, k - b⟩)
    (v0 := .int .i64 b) (v1 := .int .i64 1) (v2 := .int .i64 k) (v3 := .int .i64 0) (v4 := .int .i64 1) (v5 := .int .i64 0) (v6 := .int .i64 (k - b)) (by unfold layA; rw [hkb]; rfl))
  have hB5 : Below w.heap.size w _ := ((((((((((hb4.setCell (p := ⟨w.heap.size + 1, 2, none⟩) (by simp) (.int .i64 k)).setCell (p := ⟨w.heap.size + 1, 4, none⟩) (by simp) (.int .i64 1)).setCell (p := ⟨w.heap.size + 1, 6, none⟩) (by simp) (.int .i64 (k - b))).setCell (p := ⟨w.heap.size, 0, none⟩) (Nat.le_refl _) (.int .i64 b)).setCell (p := ⟨w.heap.size, 1, none⟩) (Nat.le_refl _) (.int .i64 1)).setCell (p := ⟨w.heap.size, 2, none⟩) (Nat.le_refl _) (.int .i64 k)).setCell (p := ⟨w.heap.size, 3, none⟩) (Nat.le_refl _) (.int .i64 0)).setCell (p := ⟨w.heap.size, 4, none⟩) (Nat.le_refl _) (.int .i64 1)).setCell (p := ⟨w.heap.size, 5, none⟩) (Nat.le_refl _) (.int .i64 0)).setCell (p := ⟨w.heap.size, 6, none⟩) (Nat.le_refl _) (.int .i64 (k - b)))
  generalize ((((((((((w4.setCell ⟨w.heap.size + 1, 2, none⟩ (.int .i64 k)).setCell ⟨w.heap.size + 1, 4, none⟩ (.int .i64 1)).setCell ⟨w.heap.size + 1, 6, none⟩ (.int .i64 (k - b))).setCell ⟨w.heap.size, 0, none⟩ (.int .i64 b)).setCell ⟨w.heap.size, 1, none⟩ (.int .i64 1)).setCell ⟨w.heap.size, 2, none⟩ (.int .i64 k)).setCell ⟨w.heap.size, 3, none⟩ (.int .i64 0)).setCell ⟨w.heap.size, 4, none⟩ (.int .i64 1)).setCell ⟨w.heap.size, 5, none⟩ (.int .i64 0)).setCell ⟨w.heap.size, 6, none⟩ (.int .i64 (k - b))) = W5 at hR3 hB5 ⊢
  refine bodyPost_ret (plan_results (l := ⟨b, 1, k, 0, 1, 0, k - b⟩) ?_ hR3) rfl ⟨by rw [hN.out], hB5⟩
  rfl
/-- What region 9 to 11 reckon. -/
theorem plan_nums {b c : Nat} (h1 : 6144 < b) (h2 : b ≤ 79560) (hc : c = (b + 6119) / 6120) :
    ∃ j k P s lg F : Nat, 1 ≤ j ∧ j < 64 ∧ k = 2112 + 64 * j ∧ nextN ((b + 24 * c + c - 1) / c) = k ∧ 2 ≤ c ∧ c ≤ 13 ∧ (b + 24 * c + c - 1) / c ≤ 6144 ∧ k ≤ 6144 ∧
      (c : Int) * (k : Int) = (P : Int) ∧ b + 24 * c ≤ P ∧ P ≤ 100000 ∧ s = (P - (b + 24 * c)) / 64 ∧ s < c ∧ lg = c - s ∧ (lg : Int) * (k : Int) + (s : Int) * (((k - 64 : Nat) : Int)) = ((F + (b + 24 * c) : Nat) : Int) ∧ F < 64 ∧ s * (k - 64) ≤ 100000 ∧ lg * k ≤ 100000 ∧
      planN b = ⟨b, c, k, k - 64, lg, s, F⟩ := by
  obtain ⟨c2, c13, q1, q2, lo, hi, hm⟩ := plan_more h1 h2 hc
  have hpl := planN_more h1
  rw [← hc] at hpl
  simp only at hpl
  have hkL := nextN_ge q2
  have hkg := nextN_great q1
  obtain ⟨j, hj⟩ : ∃ j, j = ((b + 24 * c + c - 1) / c - 2112 + 63) / 64 := ⟨_, rfl⟩
  rw [← hj] at hkg
  generalize hq : (b + 24 * c + c - 1) / c = q at *
  generalize hk : nextN q = k at *
  have hs : (c * k - (b + 24 * c)) / 64 < c := by omega
  obtain ⟨e1, e2⟩ := mix_total (k := k) (Nat.le_of_lt hs) (by omega)
  have hsk : (c * k - (b + 24 * c)) / 64 * (k - 64) ≤ 13 * 6144 := Nat.mul_le_mul (by omega) (by omega)
  have hlk : (c - (c * k - (b + 24 * c)) / 64) * k ≤ 13 * 6144 := Nat.mul_le_mul (by omega) (by omega)
  have hP : c * k ≤ 13 * 6144 := Nat.mul_le_mul (by omega) (by omega)
  refine ⟨j, k, c * k, (c * k - (b + 24 * c)) / 64, c - (c * k - (b + 24 * c)) / 64, _, by omega, by omega, by omega, rfl, c2, c13, q2, hkL.2, by simp, lo, by omega, rfl, hs, rfl, ?_, ?_, by omega, by omega, hpl⟩
  · rw [← Int.natCast_mul, ← Int.natCast_mul, ← Int.natCast_add, e1]
    congr 1
    omega
  · rw [e1]; omega
end Go.Proofs.YtkdodmjhpkfhnaaDoor
