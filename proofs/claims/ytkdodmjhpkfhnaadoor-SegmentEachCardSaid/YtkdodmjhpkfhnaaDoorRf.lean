/-
  The reference of Plan.
-/
import Derived.Test.YtkdodmjhpkfhnaaDoorRd
namespace Go.Proofs.YtkdodmjhpkfhnaaDoor
open Go.RowKit

theorem refPlan_results {W : World} {tmps : Array Value} {B : Nat} {l : Lay} {k : Int} (h2 : tmps.getD 2 undef = .pointer (some ⟨B, 0, none⟩)) (h3 : tmps.getD 3 undef = .int .i64 k) (hL : LayAt W B 34 l) :
    (results Tryd.f20 tmps).run Tryd.prog W = .ok (.tuple #[layV l, .int .i64 k]) W := by
  obtain ⟨c0, c1, c2, c3, c4, c5, c6⟩ := hL.all
  simp only [Array.getD_eq_getD_getElem?] at h2 h3
  simp [results, Tryd.results20, go_sem, h2, h3, c0, c1, c2, c3, c4, c5, c6, layV, layA]
theorem lay_below (w : World) (l : Lay) : Below w.heap.size w (w.alloc (.cells (layA l) 34)) := (Below.refl w.heap.size w).alloc (Nat.le_refl _) _
set_option maxRecDepth 100000 in
set_option maxHeartbeats 4000000 in
theorem refPlan_no {b : Int} {w : World} (h : b < 1 ∨ 79560 < b) :
    Calls Tryd.prog 20 #[.int .i64 b] w fun e w' => e = .returned (.tuple #[layV zeroLay, .int .i64 2]) ∧ Below w.heap.size w w' := by
  rcases h with h | h
  · go_enter Tryd.func20, Tryd.ntmps20
    go_wp2_with fail
    all_goals first | (exfalso; omega) | skip
    exact bodyPost_ret (refPlan_results (l := zeroLay) rfl rfl (LayAt.new w 34 zeroLay)) rfl ⟨rfl, lay_below w zeroLay⟩
  · go_enter Tryd.func20, Tryd.ntmps20
    go_wp2_with fail
    all_goals first | (exfalso; omega) | skip
    exact bodyPost_ret (refPlan_results (l := zeroLay) rfl rfl (LayAt.new w 34 zeroLay)) rfl ⟨rfl, lay_below w zeroLay⟩
set_option maxRecDepth 100000 in
set_option maxHeartbeats 4000000 in
theorem refPlan_one {b : Nat} {w : World} (h1 : 1 ≤ b) (h2 : b ≤ 6144) :
    Calls Tryd.prog 20 #[.int .i64 (b : Int)] w fun e w' => e = .returned (.tuple #[layV (planN b), .int .i64 0]) ∧ Below w.heap.size w w' := by
  have hnx := Lib.hid (fun (u : World) => refNext_any (n := (b : Int)) (w := u))
  rw [show nextS (b : Int) = (((nextN b : Nat) : Int), 0) by unfold nextS; rw [if_neg (by omega), Int.toNat_natCast]] at hnx
  obtain ⟨g1, g2⟩ := nextN_ge h2
  rw [planN_one h2]
  generalize nextN b = k at *
  obtain ⟨f, hf⟩ : ∃ f : Nat, f = k - b := ⟨_, rfl⟩
  have hf2 : Hid ((k : Int) - (b : Int) = (f : Int)) := Lib.hid (by omega)
  rw [← hf]
  clear hf
  go_enter Tryd.func20, Tryd.ntmps20
  go_wp2_with (go_at_call 11; refine (hnx.out _).mono ?_; rintro e w1 ⟨rfl, rfl⟩)
  all_goals first | (exfalso; omega) | skip
  rw [hf2.out]
  exact bodyPost_ret (refPlan_results (l := ⟨b, 1, k, 0, 1, 0, f⟩) rfl rfl (LayAt.new w 34 ⟨b, 1, k, 0, 1, 0, f⟩)) rfl ⟨rfl, lay_below w ⟨b, 1, k, 0, 1, 0, f⟩⟩
set_option maxRecDepth 100000 in
set_option maxHeartbeats 4000000 in
theorem refPlan_many {b : Nat} {w : World} (h1 : 6144 < b) (h2 : b ≤ 79560) :
    Calls Tryd.prog 20 #[.int .i64 (b : Int)] w fun e w' => e = .returned (.tuple #[layV (planN b), .int .i64 0]) ∧ Below w.heap.size w w' := by
  obtain ⟨c, hc⟩ : ∃ c, c = (b + 6119) / 6120 := ⟨_, rfl⟩
  obtain ⟨j, k, P, s, lg, F, hj1, hj2, hkj, hk, c2, c13, hq, hk2, hP, hP1, hP2, hs, hs1, hlg, hF, hF1, hsk, hlk, hpl⟩ := plan_nums h1 h2 hc
  rw [hpl]
  have hcd : ((b : Int) + 6119) / 6120 = (c : Int) := by omega
  have hcd2 : ((b : Int) + 6119).tdiv 6120 = (c : Int) := by rw [Int.tdiv_eq_ediv_of_nonneg (by omega)]; exact hcd
  have hv := Lib.hid (fun (k : Nat) (u : World) => refValid_any (n := (k : Int)) (w := u))
  obtain ⟨t, ht⟩ : ∃ t, b + 24 * c = t := ⟨_, rfl⟩
  have ht0 : (b : Int) + 24 * (c : Int) = (t : Int) := by omega
  rw [ht] at hP1 hs hF hq hk
  have ht2 : t ≤ 100000 := by omega
  have ht3 : 1 ≤ t := by omega
  have hc0 : ¬ (c : Int) = 0 := by omega
  have hqq : ((t : Int) + (c : Int) - 1) / (c : Int) = (((t + c - 1) / c : Nat) : Int) := by
    rw [show (t : Int) + (c : Int) - 1 = ((t + c - 1 : Nat) : Int) by omega]; simp
  have hqq2 : ((t : Int) + (c : Int) - 1).tdiv (c : Int) = (((t + c - 1) / c : Nat) : Int) := by rw [Int.tdiv_eq_ediv_of_nonneg (by omega)]; exact hqq
  generalize (t + c - 1) / c = q at *
  have hnx := Lib.hid (fun (u : World) => refNext_any (n := (q : Int)) (w := u))
  rw [show nextS (q : Int) = (((k : Nat) : Int), 0) by unfold nextS; rw [if_neg (by omega), Int.toNat_natCast, hk]] at hnx
  have HS := Lib.hid hs
  have HLG := Lib.hid hlg
  have HF := Lib.hid hF
  have HT := Lib.hid ht
  have HKJ := Lib.hid hkj
  have HK := Lib.hid hk
  clear hpl hc hkj hk hs hlg hF ht
  go_enter Tryd.func20, Tryd.ntmps20
  go_wp2_with fail
  all_goals first | (exfalso; omega) | skip
  refine (hnx.out _).mono ?_
  rintro e w1 ⟨rfl, rfl⟩
  have hkj := HKJ.out
  have hk1 : 2176 ≤ k := by omega
  clear hkj hcd hcd2 ht0 hqq hqq2 hnx
  go_wp2_with fail
  go_loop [10] (fun i => ∃ m : Nat, k - 64 ≤ m ∧ m < k ∧ i = .int .i64 (m : Int)) (fun i => (intOf i).toNat)
  case atStart => exact ⟨k - 1, by omega, by omega, congrArg (Value.int .i64) (by omega)⟩
  case round =>
    obtain ⟨m, hm1, hm2, rfl⟩ := hrel
    by_cases hme : m = k - 64
    · have hB : Hid (isB (m : Int) = true) := Lib.hid (by rw [isB_nat]; exact decide_eq_true (by have := HKJ.out; unfold IsSize; omega))
      obtain ⟨A, hA⟩ : ∃ A : Nat, lg * k = A := ⟨_, rfl⟩
      obtain ⟨B, hB2⟩ : ∃ B : Nat, s * m = B := ⟨_, rfl⟩
      have hA1 : (lg : Int) * (k : Int) = (A : Int) := by rw [← hA]; simp
      have hB1 : (s : Int) * (m : Int) = (B : Int) := by rw [← hB2]; simp
      have hAB : A + B = F + t := by
        have := HF.out
        rw [← hme, hA1, hB1] at this
        omega
      rw [hA] at hlk
      rw [← hme, hB2] at hsk
      have hd : (k : Int) - (m : Int) = 64 := by omega
      have hq1 : ((P : Int) - (t : Int)) / 64 = (s : Int) := by have := HS.out; omega
      have hq2 : ((P : Int) - (t : Int)).tdiv 64 = (s : Int) := by rw [Int.tdiv_eq_ediv_of_nonneg (by omega)]; exact hq1
      have hlg : (c : Int) - (s : Int) = (lg : Int) := by have := HLG.out; omega
      have hF2 : (A : Int) + (B : Int) - (t : Int) = (F : Int) := by omega
      rw [← hme]
      have HM := Lib.hid hme
      clear hme hA hB2 hAB hm1
      go_wp2_with (go_at_call 16; refine (hv.out _ _).mono ?_; rintro e w2 ⟨rfl, rfl⟩; rw [hB.out])
      rw [← HM.out]
      exact bodyPost_ret (refPlan_results (l := ⟨b, c, k, m, lg, s, F⟩) rfl rfl (LayAt.new w 34 ⟨b, c, k, m, lg, s, F⟩)) rfl ⟨rfl, lay_below w ⟨b, c, k, m, lg, s, F⟩⟩
    · have hB : Hid (isB (m : Int) = false) := Lib.hid (by rw [isB_nat]; exact decide_eq_false (by have := HKJ.out; unfold IsSize; omega))
      have hm3 : 1 ≤ m := by omega
      have HM1 : Hid (k - 64 ≤ m - 1) := Lib.hid (by omega)
      clear hme hm1
      go_wp2_with (go_at_call 16; refine (hv.out _ _).mono ?_; rintro e w2 ⟨rfl, rfl⟩; rw [hB.out])
      go_round
      case rel => exact ⟨m - 1, HM1.out, by omega, congrArg (Value.int .i64) (by omega)⟩
      case measure => simp [intOf]; omega
theorem refPlan_any {b : Int} {w : World} :
    Calls Tryd.prog 20 #[.int .i64 b] w fun e w' => e = .returned (.tuple #[layV (planS b).1, .int .i64 (planS b).2]) ∧ Below w.heap.size w w' := by
  unfold planS
  split
  · rename_i h; exact refPlan_no h
  · rename_i h
    obtain ⟨m, rfl⟩ : ∃ m : Nat, b = m := ⟨b.toNat, by omega⟩
    rw [Int.toNat_natCast]
    rcases Nat.lt_or_ge 6144 m with h2 | h2
    · exact refPlan_many h2 (by omega)
    · exact refPlan_one (by omega) h2
end Go.Proofs.YtkdodmjhpkfhnaaDoor
