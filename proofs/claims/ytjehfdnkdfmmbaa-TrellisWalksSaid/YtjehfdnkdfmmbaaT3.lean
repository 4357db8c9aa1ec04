/-
  Step.
-/
import Derived.Test.YtjehfdnkdfmmbaaT2
namespace Go.Proofs.Ytjehfdnkdfmmbaa
open Go.RowKit

/-- Step's results. -/
def stepS (st u : Int) : Int × Int × Int := if (decide (0 ≤ st) && decide (st < 8)) && (decide (0 ≤ u) && decide (u < 2)) then (((nextS st.toNat u.toNat : Nat) : Int), ((parS7 st.toNat u.toNat : Nat) : Int), 0) else (0, 0, 2)
theorem stepS_ok {s u : Nat} (hs : s < 8) (hu : u < 2) : stepS (s : Int) (u : Int) = (((nextS s u : Nat) : Int), ((parS7 s u : Nat) : Int), 0) := by
  unfold stepS
  rw [if_pos (by simp; omega)]
  rfl
set_option maxHeartbeats 1000000 in
theorem Step_ok {s u : Nat} {w : World} (hs : s < 8) (hu : u < 2) :
    Calls Try.prog 10 #[.int .i64 (s : Int), .int .i64 (u : Int)] w fun e w' => e = .returned (.tuple #[.int .i64 (nextS s u : Nat), .int .i64 (parS7 s u : Nat), .int .i64 0]) ∧ Below w.heap.size w w' := by
  have hb1 := Lib.hid (fun (v : World) => below_any (v := (s : Int)) (e := 8) (w := v))
  rw [show (decide (0 ≤ (s : Int)) && decide ((s : Int) < 8)) = true by simp; omega] at hb1
  have hb2 := Lib.hid (fun (v : World) => below_any (v := (u : Int)) (e := 2) (w := v))
  rw [show (decide (0 ≤ (u : Int)) && decide ((u : Int) < 2)) = true by simp; omega] at hb2
  have hst := Lib.hid (fun (v : World) => start_any (w := v) hs)
  have hstep := Lib.hid (fun (v : World) (h : Enc v w.heap.size s) => step_any h hs hu)
  have hstate := Lib.hid (fun (v : World) => state_any (w := v) (step_lt s hs u hu).1)
  have hT := Three.new w 66 (.int .i64 0) (.int .i64 0) (.int .i64 0)
  have hB0 := (Below.refl w.heap.size w).alloc (Nat.le_refl _) (.cells #[.int .i64 0, .int .i64 0, .int .i64 0] 66)
  unfold encV encA at hst hstate
  have hEn : Hid (∀ (v : World) t, Three v w.heap.size t (.int .i64 ((s / 4 : Nat) : Int)) (.int .i64 ((s / 2 % 2 : Nat) : Int)) (.int .i64 ((s % 2 : Nat) : Int)) → Enc v w.heap.size s) := Lib.hid (fun v t h => ⟨t, h⟩)
  have hEx : Hid (∀ (v : World), Enc v w.heap.size (nextS s u) → ∃ t, Three v w.heap.size t (.int .i64 ((nextS s u / 4 : Nat) : Int)) (.int .i64 ((nextS s u / 2 % 2 : Nat) : Int)) (.int .i64 ((nextS s u % 2 : Nat) : Int))) := Lib.hid (fun v h => h)
  generalize parS7 s u = p at *
  generalize nextS s u = nx at *
  generalize s / 4 = a at *
  generalize s / 2 % 2 = b at *
  generalize s % 2 = c at *
  generalize nx / 4 = a' at *
  generalize nx / 2 % 2 = b' at *
  generalize nx % 2 = c' at *
  clear hs hu
  go_enter Try.func10, Try.ntmps10
  go_wp2
  refine wp_scope_forward 0 rfl ?_
  go_wp2_with fail
  generalize w.alloc (.cells #[.int .i64 0, .int .i64 0, .int .i64 0] 66) = W0 at *
  refine (hb1.out _).mono ?_
  rintro e W0 ⟨rfl, rfl⟩
  go_wp2_with fail
  refine (hb2.out _).mono ?_
  rintro e W0 ⟨rfl, rfl⟩
  go_wp2_with fail
  refine (hst.out _).mono ?_
  rintro e w1 ⟨rfl, hg⟩
  have hT1 := hT.grown hg (fun e => by cases e)
  have hB1 := Lib.hid (((hB0.grown hg hB0.size (fun g e => by cases e)).setCell (p := ⟨w.heap.size, 0, none⟩) (Nat.le_refl _) (.int .i64 (a : Int))).setCell (p := ⟨w.heap.size, 1, none⟩) (Nat.le_refl _) (.int .i64 (b : Int)) |>.setCell (p := ⟨w.heap.size, 2, none⟩) (Nat.le_refl _) (.int .i64 (c : Int)))
  have hE1 := Lib.hid (hEn.out _ _ (hT1.put (.int .i64 (a : Int)) (.int .i64 (b : Int)) (.int .i64 (c : Int))))
  have c0 := hT1.cell0
  have c1 := hT1.cell1
  have c2 := hT1.cell2
  have f0 := hT1.frozen 0
  have f1 := hT1.frozen 1
  have f2 := hT1.frozen 2
  clear hT hT1 hg hB0 hb1 hb2 hst hEn
  go_wp2_with fail
  refine (hstep.out _ hE1.out).mono ?_
  rintro e w2 ⟨rfl, hE2, hg2⟩
  obtain ⟨t2, hT2⟩ := hEx.out _ hE2
  have hB2 := Lib.hid (hB1.out.grown hg2 hB1.out.size (fun g e => by cases e; exact Nat.le_refl _))
  have d0 := hT2.cell0
  have d1 := hT2.cell1
  have d2 := hT2.cell2
  clear c0 c1 c2 f0 f1 f2 hE1 hB1 hE2 hT2 hg2 hstep hEx
  go_wp2_with fail
  refine (hstate.out _).mono ?_
  rintro e w3 ⟨rfl, hg3⟩
  have hB3 := Lib.hid (hB2.out.grown hg3 hB2.out.size (fun g e => by cases e))
  clear d0 d1 d2 hB2 hg3 hstate
  go_wp2_with fail
  refine jump_ret ?_
  go_ret3
  exact ⟨rfl, hB3.out⟩
theorem andB_cases {v e : Int} (h : (decide (0 ≤ v) && decide (v < e)) = false) : v < 0 ∨ e ≤ v := by
  simp at h; omega
set_option maxHeartbeats 1000000 in
theorem Step_no {st u : Int} {w : World} (h : ((decide (0 ≤ st) && decide (st < 8)) && (decide (0 ≤ u) && decide (u < 2))) = false) :
    Calls Try.prog 10 #[.int .i64 st, .int .i64 u] w fun e w' => e = .returned (.tuple #[.int .i64 0, .int .i64 0, .int .i64 2]) ∧ Below w.heap.size w w' := by
  have hb1 := Lib.hid (fun (v : World) => below_any (v := st) (e := 8) (w := v))
  have hb2 := Lib.hid (fun (v : World) => below_any (v := u) (e := 2) (w := v))
  have hB0 := (Below.refl w.heap.size w).alloc (Nat.le_refl _) (.cells #[.int .i64 0, .int .i64 0, .int .i64 0] 66)
  by_cases h1 : (decide (0 ≤ st) && decide (st < 8)) = true
  · rw [h1, Bool.true_and] at h
    rw [h1] at hb1
    rw [h] at hb2
    clear h h1
    go_enter Try.func10, Try.ntmps10
    go_wp2
    refine wp_scope_forward 0 rfl ?_
    go_wp2_with fail
    generalize w.alloc (.cells #[.int .i64 0, .int .i64 0, .int .i64 0] 66) = W0 at *
    refine (hb1.out _).mono ?_
    rintro e W0 ⟨rfl, rfl⟩
    go_wp2_with fail
    refine (hb2.out _).mono ?_
    rintro e W0 ⟨rfl, rfl⟩
    go_wp2_with fail
    go_step3
    refine ⟨rfl, ?_⟩
    go_wp2_with fail
    rw [Exit.noGoto_ret]
    go_ret3
    exact ⟨rfl, hB0⟩
  · have h1 := Bool.eq_false_iff.2 h1
    rw [h1] at hb1
    clear h h1 hb2
    go_enter Try.func10, Try.ntmps10
    go_wp2
    refine wp_scope_forward 0 rfl ?_
    go_wp2_with fail
    generalize w.alloc (.cells #[.int .i64 0, .int .i64 0, .int .i64 0] 66) = W0 at *
    refine (hb1.out _).mono ?_
    rintro e W0 ⟨rfl, rfl⟩
    go_wp2_with fail
    go_step3
    refine ⟨rfl, ?_⟩
    go_wp2_with fail
    rw [Exit.noGoto_ret]
    go_ret3
    exact ⟨rfl, hB0⟩
theorem Step_any {st u : Int} {w : World} : Calls Try.prog 10 #[.int .i64 st, .int .i64 u] w fun e w' => e = .returned (.tuple #[.int .i64 (stepS st u).1, .int .i64 (stepS st u).2.1, .int .i64 (stepS st u).2.2]) ∧ Below w.heap.size w w' := by
  by_cases h : ((decide (0 ≤ st) && decide (st < 8)) && (decide (0 ≤ u) && decide (u < 2))) = true
  · have h' := h
    simp at h'
    obtain ⟨s, rfl⟩ := Int.eq_ofNat_of_zero_le h'.1.1
    obtain ⟨v, rfl⟩ := Int.eq_ofNat_of_zero_le h'.2.1
    have e := stepS_ok (s := s) (u := v) (by omega) (by omega)
    rw [e]
    exact Step_ok (by omega) (by omega)
  · have h := Bool.eq_false_iff.2 h
    have e : stepS st u = (0, 0, 2) := by unfold stepS; rw [if_neg (by rw [h]; decide)]
    rw [e]
    exact Step_no h
end Go.Proofs.Ytjehfdnkdfmmbaa
