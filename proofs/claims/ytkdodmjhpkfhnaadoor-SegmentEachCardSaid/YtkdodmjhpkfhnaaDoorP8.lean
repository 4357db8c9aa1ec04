/-
  plan, for several blocks. (Made by genP8.py.)
-/
import Derived.Test.YtkdodmjhpkfhnaaDoorP7
namespace Go.Proofs.YtkdodmjhpkfhnaaDoor
open Go.RowKit

set_option maxRecDepth 100000 in
set_option maxHeartbeats 4000000 in
theorem plan_many {b : Nat} {w : World} (hK : Kinds w) (h1 : 6144 < b) (h2 : b ≤ 79560) :
    Calls Tryd.prog 36 #[.int .i64 (b : Int)] w fun e w' => e = .returned (layV (planN b)) ∧ Below w.heap.size w w' := by
  have d1 : decide (1 ≤ (b : Int)) = true := by simp; omega
  have d2 : decide ((b : Int) ≤ 79560) = true := by simp; omega
  have d3 : decide ((6144 : Int) < b) = true := by simp; omega
  obtain ⟨c, hc⟩ : ∃ c, c = (b + 6119) / 6120 := ⟨_, rfl⟩
  obtain ⟨j, k, P, s, lg, F, hj1, hj2, hkj, hk, c2, c13, hq, hk2, hP, hP1, hP2, hs, hs1, hlg, hF, hF1, hsk, hlk, hpl⟩ := plan_nums h1 h2 hc
  rw [hpl]
  have hln := Lib.hid (fun (u : World) (h : Below w.heap.size w u) => len_any (k := 2) (hK.step h))
  have hce := fun (u : World) => ceil_any (a := b) (b := 6120) (w := u) (by decide) (by omega) (by decide)
  rw [show (b + 6120 - 1) / 6120 = c by omega] at hce
  simp only [Int.cast_ofNat_Int] at hce
  have hce2 := Lib.hid (fun (u : World) => ceil_any (a := b + 24 * c) (b := c) (w := u) (by omega) (by omega) (by omega))
  have hnx0 := fun (u : World) (h : Below w.heap.size w u) => next_any (n := (b + 24 * c + c - 1) / c) (hK.step h) hq
  rw [hk] at hnx0
  have hbf0 := fun (u : World) (h : Below w.heap.size w u) => before_any (j := j) (hK.step h) hj1 hj2
  rw [show 2112 + 64 * (j - 1) = k - 64 by omega, ← hkj] at hbf0
  have hbf := Lib.hid hbf0
  have hb0 := below_two (w := w) (.cells #[.int .i64 0, .int .i64 0, .int .i64 0, .int .i64 0, .int .i64 0, .int .i64 0, .int .i64 0] 70) (.cells #[.int .i64 b, .int .i64 1, .int .i64 0, .int .i64 0, .int .i64 0, .int .i64 0, .int .i64 0] 70)
  have hL : LayAt ((w.alloc (.cells #[.int .i64 0, .int .i64 0, .int .i64 0, .int .i64 0, .int .i64 0, .int .i64 0, .int .i64 0] 70)).alloc (.cells #[.int .i64 b, .int .i64 1, .int .i64 0, .int .i64 0, .int .i64 0, .int .i64 0, .int .i64 0] 70)) (w.heap.size + 1) 70 ⟨b, 1, 0, 0, 0, 0, 0⟩ := by
    have := LayAt.new (w.alloc (.cells #[.int .i64 0, .int .i64 0, .int .i64 0, .int .i64 0, .int .i64 0, .int .i64 0, .int .i64 0] 70)) 70 ⟨b, 1, 0, 0, 0, 0, 0⟩
    rw [World.size_alloc] at this
    exact this
  have hR : LayAt ((w.alloc (.cells #[.int .i64 0, .int .i64 0, .int .i64 0, .int .i64 0, .int .i64 0, .int .i64 0, .int .i64 0] 70)).alloc (.cells #[.int .i64 b, .int .i64 1, .int .i64 0, .int .i64 0, .int .i64 0, .int .i64 0, .int .i64 0] 70)) w.heap.size 70 ⟨0, 0, 0, 0, 0, 0, 0⟩ := LayAt.alloc (LayAt.new w 70 ⟨0, 0, 0, 0, 0, 0, 0⟩) _
  have hs0 := fun (u : World) (h : Below w.heap.size w u) => layChecksum_any (l := ⟨b, c, 0, 0, 0, 0, 0⟩) (hK.step h)
  rw [show (⟨b, c, 0, 0, 0, 0, 0⟩ : Lay).cs = 24 by unfold Lay.cs; rw [if_neg (by simp only; omega)]] at hs0
  have hsum := Lib.hid hs0
  have HP := Lib.hid hP
  have HS := Lib.hid hs
  have HLG := Lib.hid hlg
  have HF := Lib.hid hF
  have hkj' : 2176 ≤ k := by omega
  clear hbf0 hs0 hpl hc hkj hk hP hs hlg hF hj1 hj2 hq
  go_enter Tryd.func36, Tryd.ntmps36
  go_wp2_with (go_at_call 31; refine require_ok.mono ?_; rintro e w1 ⟨rfl, rfl⟩)
  generalize ((w.alloc (.cells #[.int .i64 0, .int .i64 0, .int .i64 0, .int .i64 0, .int .i64 0, .int .i64 0, .int .i64 0] 70)).alloc (.cells #[.int .i64 b, .int .i64 1, .int .i64 0, .int .i64 0, .int .i64 0, .int .i64 0, .int .i64 0] 70)) = W at *
  refine (hln.out _ hb0).mono ?_
  rintro e w1 ⟨rfl, hb1⟩
  replace hL := LayAt.step hL hb1
  replace hR := LayAt.step hR hb1
  replace hb1 := hb0.trans (hb1.mono hb0.size)
  clear hb0
  rw [show (((genN 2).2 : Nat) : Int) = 24 from rfl]
  go_wp2_with fail
  refine (hce _).mono ?_
  rintro e w2 ⟨rfl, rfl⟩
  have hCp := hL.all
  have p0 : w2.cell? ⟨w.heap.size + 1, 0, none⟩ = some (.int .i64 b) := hCp.c0
  have p1 : w2.cell? ⟨w.heap.size + 1, 1, none⟩ = some (.int .i64 1) := hCp.c1
  have p2 : w2.cell? ⟨w.heap.size + 1, 2, none⟩ = some (.int .i64 0) := hCp.c2
  have p3 : w2.cell? ⟨w.heap.size + 1, 3, none⟩ = some (.int .i64 0) := hCp.c3
  have p4 : w2.cell? ⟨w.heap.size + 1, 4, none⟩ = some (.int .i64 0) := hCp.c4
  have p5 : w2.cell? ⟨w.heap.size + 1, 5, none⟩ = some (.int .i64 0) := hCp.c5
  have p6 : w2.cell? ⟨w.heap.size + 1, 6, none⟩ = some (.int .i64 0) := hCp.c6
  have f1 := hL.frozen 1
  clear hCp
  go_wp2_with fail
  replace hL : LayAt (w2.setCell ⟨w.heap.size + 1, 1, none⟩ (.int .i64 c)) (w.heap.size + 1) 70 ⟨b, c, 0, 0, 0, 0, 0⟩ := LayAt.set hL rfl
  replace hR := LayAt.other hR (p := ⟨w.heap.size + 1, 1, none⟩) (by simp) (.int .i64 c)
  replace hb1 := hb1.setCell (p := ⟨w.heap.size + 1, 1, none⟩) (by simp) (.int .i64 c)
  clear p0 p1 p2 p3 p4 p5 p6 f1
  generalize (w2.setCell ⟨w.heap.size + 1, 1, none⟩ (.int .i64 c)) = W2 at *
  have hCp := hL.all
  have p0 : W2.cell? ⟨w.heap.size + 1, 0, none⟩ = some (.int .i64 b) := hCp.c0
  have p1 : W2.cell? ⟨w.heap.size + 1, 1, none⟩ = some (.int .i64 c) := hCp.c1
  have p2 : W2.cell? ⟨w.heap.size + 1, 2, none⟩ = some (.int .i64 0) := hCp.c2
  have p3 : W2.cell? ⟨w.heap.size + 1, 3, none⟩ = some (.int .i64 0) := hCp.c3
  have p4 : W2.cell? ⟨w.heap.size + 1, 4, none⟩ = some (.int .i64 0) := hCp.c4
  have p5 : W2.cell? ⟨w.heap.size + 1, 5, none⟩ = some (.int .i64 0) := hCp.c5
  have p6 : W2.cell? ⟨w.heap.size + 1, 6, none⟩ = some (.int .i64 0) := hCp.c6
  have hlt := hL.lt
  have hbWd := hb1.drew
  clear hCp
  go_region_held3 (fun w' => w'.cell? ⟨w.heap.size + 1, 0, none⟩ = some (.int .i64 b) ∧ w'.cell? ⟨w.heap.size + 1, 1, none⟩ = some (.int .i64 c) ∧ w'.cell? ⟨w.heap.size + 1, 2, none⟩ = some (.int .i64 0) ∧ w'.cell? ⟨w.heap.size + 1, 3, none⟩ = some (.int .i64 0) ∧ w'.cell? ⟨w.heap.size + 1, 4, none⟩ = some (.int .i64 0) ∧ w'.cell? ⟨w.heap.size + 1, 5, none⟩ = some (.int .i64 0) ∧ w'.cell? ⟨w.heap.size + 1, 6, none⟩ = some (.int .i64 0))
    (first
      | go_keep
      | exact ⟨(hb2.cell hlt).trans p0, (hb2.cell hlt).trans p1, (hb2.cell hlt).trans p2, (hb2.cell hlt).trans p3, (hb2.cell hlt).trans p4, (hb2.cell hlt).trans p5, (hb2.cell hlt).trans p6⟩)
    (first
      | (go_at_call 43; refine (hsum.out _ hbWd).mono ?_; rintro e w3 ⟨rfl, hb2⟩))
  rename_i hHeld
  clear hHeld p0 p1 p2 p3 p4 p5 p6 hsum hce hln
  have ht' : IntKind.i64.wrap ((b : Int) + IntKind.i64.wrap ((c : Int) * 24)) = ((b + 24 * c : Nat) : Int) := by
    rw [wrap_small (x := (c : Int) * 24) (by omega) (by omega), wrap_small (by omega) (by omega)]; omega
  rw [ht']
  clear ht'
  obtain ⟨t, ht⟩ : ∃ t, b + 24 * c = t := ⟨_, rfl⟩
  rw [ht] at hce2 hnx0 hP1 HS HF ⊢
  have ht2 : t ≤ 100000 := by omega
  have ht3 : 1 ≤ t := by omega
  clear ht
  replace hL := LayAt.step hL.drew hb2
  replace hR := LayAt.step hR.drew hb2
  replace hb1 := hbWd.trans (hb2.mono hbWd.size)
  clear hb2 hbWd hlt
  have hCp := hL.all
  have p0 : w3.cell? ⟨w.heap.size + 1, 0, none⟩ = some (.int .i64 b) := hCp.c0
  have p1 : w3.cell? ⟨w.heap.size + 1, 1, none⟩ = some (.int .i64 c) := hCp.c1
  have p2 : w3.cell? ⟨w.heap.size + 1, 2, none⟩ = some (.int .i64 0) := hCp.c2
  have p3 : w3.cell? ⟨w.heap.size + 1, 3, none⟩ = some (.int .i64 0) := hCp.c3
  have p4 : w3.cell? ⟨w.heap.size + 1, 4, none⟩ = some (.int .i64 0) := hCp.c4
  have p5 : w3.cell? ⟨w.heap.size + 1, 5, none⟩ = some (.int .i64 0) := hCp.c5
  have p6 : w3.cell? ⟨w.heap.size + 1, 6, none⟩ = some (.int .i64 0) := hCp.c6
  clear hCp
  go_wp2_with fail
  refine (hce2.out _).mono ?_
  rintro e w4 ⟨rfl, rfl⟩
  clear p0 p1 p2 p3 p4 p5 p6
  generalize (t + c - 1) / c = q at *
  have hnx := Lib.hid hnx0
  clear hnx0 hce2
  go_wp2_with fail
  refine (hnx.out _ hb1).mono ?_
  rintro e w5 ⟨rfl, hb5⟩
  replace hL := LayAt.step hL hb5
  replace hR := LayAt.step hR hb5
  replace hb1 := hb1.trans (hb5.mono hb1.size)
  clear hb5 hnx
  have hCp := hL.all
  have p0 : w5.cell? ⟨w.heap.size + 1, 0, none⟩ = some (.int .i64 b) := hCp.c0
  have p1 : w5.cell? ⟨w.heap.size + 1, 1, none⟩ = some (.int .i64 c) := hCp.c1
  have p2 : w5.cell? ⟨w.heap.size + 1, 2, none⟩ = some (.int .i64 0) := hCp.c2
  have p3 : w5.cell? ⟨w.heap.size + 1, 3, none⟩ = some (.int .i64 0) := hCp.c3
  have p4 : w5.cell? ⟨w.heap.size + 1, 4, none⟩ = some (.int .i64 0) := hCp.c4
  have p5 : w5.cell? ⟨w.heap.size + 1, 5, none⟩ = some (.int .i64 0) := hCp.c5
  have p6 : w5.cell? ⟨w.heap.size + 1, 6, none⟩ = some (.int .i64 0) := hCp.c6
  have f2 := hL.frozen 2
  clear hCp
  go_wp2_with fail
  replace hL : LayAt (w5.setCell ⟨w.heap.size + 1, 2, none⟩ (.int .i64 k)) (w.heap.size + 1) 70 ⟨b, c, k, 0, 0, 0, 0⟩ := LayAt.set hL rfl
  replace hR := LayAt.other hR (p := ⟨w.heap.size + 1, 2, none⟩) (by simp) (.int .i64 k)
  replace hb1 := hb1.setCell (p := ⟨w.heap.size + 1, 2, none⟩) (by simp) (.int .i64 k)
  clear p0 p1 p2 p3 p4 p5 p6 f2
  generalize (w5.setCell ⟨w.heap.size + 1, 2, none⟩ (.int .i64 k)) = W6 at *
  refine (hbf.out _ hb1).mono ?_
  rintro e w7 ⟨rfl, hb7⟩
  replace hL := LayAt.step hL hb7
  replace hR := LayAt.step hR hb7
  replace hb1 := hb1.trans (hb7.mono hb1.size)
  clear hb7 hbf
  obtain ⟨sh, hsh⟩ : ∃ sh, k - 64 = sh := ⟨_, rfl⟩
  rw [hsh] at HF hsk ⊢
  have hd : (k : Int) - (sh : Int) = 64 := by omega
  have hP := HP.out
  have hq1 : ((P : Int) - (t : Int)) / 64 = (s : Int) := by have := HS.out; omega
  have hq2 : ((P : Int) - (t : Int)).tdiv 64 = (s : Int) := by rw [Int.tdiv_eq_ediv_of_nonneg (by omega)]; exact hq1
  have hCp := hL.all
  have hCq := hR.all
  have p0 : w7.cell? ⟨w.heap.size + 1, 0, none⟩ = some (.int .i64 b) := hCp.c0
  have p1 : w7.cell? ⟨w.heap.size + 1, 1, none⟩ = some (.int .i64 c) := hCp.c1
  have p2 : w7.cell? ⟨w.heap.size + 1, 2, none⟩ = some (.int .i64 k) := hCp.c2
  have p3 : w7.cell? ⟨w.heap.size + 1, 3, none⟩ = some (.int .i64 0) := hCp.c3
  have p4 : w7.cell? ⟨w.heap.size + 1, 4, none⟩ = some (.int .i64 0) := hCp.c4
  have p5 : w7.cell? ⟨w.heap.size + 1, 5, none⟩ = some (.int .i64 0) := hCp.c5
  have p6 : w7.cell? ⟨w.heap.size + 1, 6, none⟩ = some (.int .i64 0) := hCp.c6
  have q0 : w7.cell? ⟨w.heap.size, 0, none⟩ = some (.int .i64 0) := hCq.c0
  have q1 : w7.cell? ⟨w.heap.size, 1, none⟩ = some (.int .i64 0) := hCq.c1
  have q2 : w7.cell? ⟨w.heap.size, 2, none⟩ = some (.int .i64 0) := hCq.c2
  have q3 : w7.cell? ⟨w.heap.size, 3, none⟩ = some (.int .i64 0) := hCq.c3
  have q4 : w7.cell? ⟨w.heap.size, 4, none⟩ = some (.int .i64 0) := hCq.c4
  have q5 : w7.cell? ⟨w.heap.size, 5, none⟩ = some (.int .i64 0) := hCq.c5
  have q6 : w7.cell? ⟨w.heap.size, 6, none⟩ = some (.int .i64 0) := hCq.c6
  have f3 := hL.frozen 3
  have f4 := hL.frozen 4
  have f5 := hL.frozen 5
  have f6 := hL.frozen 6
  have g0 := hR.frozen 0
  have g1 := hR.frozen 1
  have g2 := hR.frozen 2
  have g3 := hR.frozen 3
  have g4 := hR.frozen 4
  have g5 := hR.frozen 5
  have g6 := hR.frozen 6
  clear hCp hCq
  go_wp2_with fail
  have e1 : (c : Int) - (s : Int) = (lg : Int) := by have := HLG.out; omega
  have e2 : wrap64 (wrap64 (wrap64 ((lg : Int) * (k : Int)) + (s : Int) * (sh : Int)) - (t : Int)) = (F : Int) := by
    have h3 := HF.out
    have h4 : (lg : Int) * (k : Int) = ((lg * k : Nat) : Int) := by simp
    have h5 : (s : Int) * (sh : Int) = ((s * sh : Nat) : Int) := by simp
    rw [h4, h5] at h3 ⊢
    generalize lg * k = A at *
    generalize s * sh = B at *
    rw [wrap64_i64, wrap64_i64, wrap64_i64, wrap_small (x := (A : Int)) (by omega) (by omega), wrap_small (x := (A : Int) + (B : Int)) (by omega) (by omega), wrap_small (by omega) (by omega)]
    omega
  rw [e1, e2]
  have hR3 := (LayAt.other (LayAt.other (LayAt.other (LayAt.other hR (p := ⟨w.heap.size + 1, 3, none⟩) (by simp) (.int .i64 sh)) (p := ⟨w.heap.size + 1, 5, none⟩) (by simp) (.int .i64 s)) (p := ⟨w.heap.size + 1, 4, none⟩) (by simp) (.int .i64 lg)) (p := ⟨w.heap.size + 1, 6, none⟩) (by simp) (.int .i64 F)).put (l := ⟨b, c, k, sh, lg, s, F⟩)
    (v0 := .int .i64 b) (v1 := .int .i64 c) (v2 := .int .i64 k) (v3 := .int .i64 sh) (v4 := .int .i64 lg) (v5 := .int .i64 s) (v6 := .int .i64 F) rfl
  have hB5 : Below w.heap.size w _ := ((((((((((hb1.setCell (p := ⟨w.heap.size + 1, 3, none⟩) (by simp) (.int .i64 sh)).setCell (p := ⟨w.heap.size + 1, 5, none⟩) (by simp) (.int .i64 s)).setCell (p := ⟨w.heap.size + 1, 4, none⟩) (by simp) (.int .i64 lg)).setCell (p := ⟨w.heap.size + 1, 6, none⟩) (by simp) (.int .i64 F)).setCell (p := ⟨w.heap.size, 0, none⟩) (Nat.le_refl _) (.int .i64 b)).setCell (p := ⟨w.heap.size, 1, none⟩) (Nat.le_refl _) (.int .i64 c)).setCell (p := ⟨w.heap.size, 2, none⟩) (Nat.le_refl _) (.int .i64 k)).setCell (p := ⟨w.heap.size, 3, none⟩) (Nat.le_refl _) (.int .i64 sh)).setCell (p := ⟨w.heap.size, 4, none⟩) (Nat.le_refl _) (.int .i64 lg)).setCell (p := ⟨w.heap.size, 5, none⟩) (Nat.le_refl _) (.int .i64 s)).setCell (p := ⟨w.heap.size, 6, none⟩) (Nat.le_refl _) (.int .i64 F)
  generalize (((((((((((w7.setCell ⟨w.heap.size + 1, 3, none⟩ (.int .i64 sh)).setCell ⟨w.heap.size + 1, 5, none⟩ (.int .i64 s)).setCell ⟨w.heap.size + 1, 4, none⟩ (.int .i64 lg)).setCell ⟨w.heap.size + 1, 6, none⟩ (.int .i64 F)).setCell ⟨w.heap.size, 0, none⟩ (.int .i64 b)).setCell ⟨w.heap.size, 1, none⟩ (.int .i64 c)).setCell ⟨w.heap.size, 2, none⟩ (.int .i64 k)).setCell ⟨w.heap.size, 3, none⟩ (.int .i64 sh)).setCell ⟨w.heap.size, 4, none⟩ (.int .i64 lg)).setCell ⟨w.heap.size, 5, none⟩ (.int .i64 s)).setCell ⟨w.heap.size, 6, none⟩ (.int .i64 F)) = W9 at hR3 hB5 ⊢
  refine bodyPost_ret (plan_results (l := ⟨b, c, k, sh, lg, s, F⟩) ?_ hR3) rfl ⟨by rw [hsh], hB5⟩
  rfl
theorem plan_any {b : Nat} {w : World} (hK : Kinds w) (h1 : 1 ≤ b) (h2 : b ≤ 79560) :
    Calls Tryd.prog 36 #[.int .i64 (b : Int)] w fun e w' => e = .returned (layV (planN b)) ∧ Below w.heap.size w w' := by
  rcases Nat.lt_or_ge 6144 b with h | h
  · exact plan_many hK h h2
  · exact plan_one hK h1 h
end Go.Proofs.YtkdodmjhpkfhnaaDoor
