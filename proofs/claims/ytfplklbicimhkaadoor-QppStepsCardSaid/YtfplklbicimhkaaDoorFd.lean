/-
  Params, At; steps and its iterator; a range over it.
-/
import Derived.Shelf.Abstract
import Derived.Shelf.RegionOpen
import Derived.WalkKit
import Derived.OwnWalkIn
import Derived.TacticsInMore
import Derived.LoopNIn
import Derived.LoopIn
import Derived.Sort.QuietIn
import Derived.Test.YtfplklbicimhkaaDoorFc
import Derived.Test.YtfplklbicimhkaaDoorRuns
namespace Go.Proofs.YtfplklbicimhkaaDoor
open Go.RowKit

/-- The permutation of an integer, and the number of the error: what 'of' hands back. -/
def ofV (k : Int) : Value := if isB k then parV k.toNat (f1N k.toNat) (f2N k.toNat) else parV 0 0 0
def ofE (k : Int) : Int := if isB k then 0 else 2
theorem ofV_size {k : Nat} (h : IsSize k) : ofV (k : Int) = parV k (f1N k) (f2N k) := by
  unfold ofV
  rw [isB_nat, decide_eq_true h, if_pos rfl, Int.toNat_natCast]
theorem ofE_size {k : Nat} (h : IsSize k) : ofE (k : Int) = 0 := by unfold ofE; rw [isB_nat, decide_eq_true h, if_pos rfl]
theorem ofV_no {k : Int} (h : isB k = false) : ofV k = parV 0 0 0 := by unfold ofV; rw [h]; rfl
theorem ofE_no {k : Int} (h : isB k = false) : ofE k = 2 := by unfold ofE; rw [h]; rfl
theorem of_plain {k : Int} {w : World} (hK : Kinds w) :
    Calls Tryd.prog 30 #[.int .i64 k, .slice none 0 0] w fun e w' => e = .returned (.tuple #[ofV k, .int .i64 (ofE k)]) ∧ Below w.heap.size w w' := by
  by_cases h : isB k = true
  · obtain ⟨m, rfl, hs⟩ := isB_ex h
    rw [ofV_size hs, ofE_size hs]
    exact of_size hK hs (fun u _ => containsB_nil)
  · have h := Bool.eq_false_iff.2 h
    rw [ofV_no h, ofE_no h]
    exact of_no hK (.inl h) (fun u _ => containsB_nil)
theorem of_ex (k : Int) : ∃ a b c : Nat, ofV k = parV a b c ∧ parS k = ((b : Int), (c : Int), ofE k) := by
  by_cases h : isB k = true
  · obtain ⟨m, rfl, hs⟩ := isB_ex h
    rw [ofV_size hs, ofE_size hs, parS_size hs]
    exact ⟨_, _, _, rfl, rfl⟩
  · have h := Bool.eq_false_iff.2 h
    rw [ofV_no h, ofE_no h, parS_no h]
    exact ⟨0, 0, 0, rfl, rfl⟩
set_option maxHeartbeats 2000000 in
theorem Params_any {k : Int} {w : World} (hK : Kinds w) :
    Calls Tryd.prog 10 #[.int .i64 k] w fun e w' => e = .returned (.tuple #[.int .i64 (parS k).1, .int .i64 (parS k).2.1, .int .i64 (parS k).2.2]) ∧ Below w.heap.size w w' := by
  have hO := Lib.hid (of_plain (k := k) hK)
  obtain ⟨a, b, c, h1, h2⟩ := of_ex k
  rw [h1] at hO
  rw [h2]
  simp only
  generalize ofE k = x at *
  clear h1 h2
  unfold parV parA at hO
  go_enter Tryd.func10, Tryd.ntmps10
  go_wp2_with fail
  refine hO.out.mono ?_
  rintro e w1 ⟨rfl, hb1⟩
  have hb2 := hb1.alloc hb1.size (.cells #[.int .i64 (a : Int), .int .i64 (b : Int), .int .i64 (c : Int)] 58)
  have hT := Three.new w1 58 (.int .i64 (a : Int)) (.int .i64 (b : Int)) (.int .i64 (c : Int))
  have c1 := hT.cell1
  have c2 := hT.cell2
  clear hT hb1 hO
  go_wp2_with fail
  generalize w1.alloc (.cells #[.int .i64 (a : Int), .int .i64 (b : Int), .int .i64 (c : Int)] 58) = W at *
  go_quiet (fail)
  go_wp2_with fail
  go_ret3
  exact ⟨rfl, below_drewN hb2 _⟩
set_option maxHeartbeats 2000000 in
theorem At_size {k i : Nat} {w : World} (hK : Kinds w) (hs : IsSize k) (hi : i < k) :
    Calls Tryd.prog 12 #[.int .i64 (k : Int), .int .i64 (i : Int)] w fun e w' => e = .returned (.tuple #[.int .i64 (piK k i : Nat), .int .i64 0]) ∧ Below w.heap.size w w' := by
  have hO := Lib.hid (of_plain (k := (k : Int)) hK)
  rw [ofV_size hs, ofE_size hs] at hO
  have hA := Lib.hid (fun (u : World) => at_any (w := u) hs hi)
  unfold parV parA at hO hA
  generalize f1N k = f1 at *
  generalize f2N k = f2 at *
  have d1 : decide ((k : Int) ≤ (i : Int)) = false := by simp; omega
  have d2 : decide ((i : Int) < 0) = false := by simp
  clear hs
  go_enter Tryd.func12, Tryd.ntmps12
  go_wp2
  refine wp_scope_forward 0 rfl ?_
  go_wp2_with fail
  refine hO.out.mono ?_
  rintro e w1 ⟨rfl, hb1⟩
  have hb2 := hb1.alloc hb1.size (.cells #[.int .i64 (k : Int), .int .i64 (f1 : Int), .int .i64 (f2 : Int)] 58)
  have hT := Three.new w1 58 (.int .i64 (k : Int)) (.int .i64 (f1 : Int)) (.int .i64 (f2 : Int))
  have c0 := hT.cell0
  have c1 := hT.cell1
  have c2 := hT.cell2
  clear hT hb1 hO
  go_wp2_with fail
  refine (hA.out _).mono ?_
  rintro e w2 ⟨rfl, hg⟩
  have hb3 := hb2.grown hg hb2.size (fun g hg => by cases hg)
  clear c0 c1 c2 hb2 hg
  go_wp2_with fail
  refine jump_ret ?_
  go_ret2
  exact ⟨rfl, hb3⟩
set_option maxHeartbeats 2000000 in
theorem At_range {k : Nat} {i : Int} {w : World} (hK : Kinds w) (hs : IsSize k) (hi : i < 0 ∨ (k : Int) ≤ i) :
    Calls Tryd.prog 12 #[.int .i64 (k : Int), .int .i64 i] w fun e w' => e = .returned (.tuple #[.int .i64 0, .int .i64 6]) ∧ Below w.heap.size w w' := by
  have hO := Lib.hid (of_plain (k := (k : Int)) hK)
  rw [ofV_size hs, ofE_size hs] at hO
  unfold parV parA at hO
  generalize f1N k = f1 at *
  generalize f2N k = f2 at *
  clear hs
  rcases hi with hi | hi
  · have d2 : decide (i < 0) = true := by simp; omega
    go_enter Tryd.func12, Tryd.ntmps12
    go_wp2
    refine wp_scope_forward 0 rfl ?_
    go_wp2_with fail
    refine hO.out.mono ?_
    rintro e w1 ⟨rfl, hb1⟩
    have hb2 := hb1.alloc hb1.size (.cells #[.int .i64 (k : Int), .int .i64 (f1 : Int), .int .i64 (f2 : Int)] 58)
    clear hb1 hO
    go_wp2_with fail
    go_step3
    refine ⟨rfl, ?_⟩
    go_wp2_with fail
    rw [Exit.noGoto_ret]
    go_ret2
    exact ⟨rfl, hb2⟩
  · have d1 : decide ((k : Int) ≤ i) = true := by simp; omega
    have d2 : decide (i < 0) = false := by simp; omega
    go_enter Tryd.func12, Tryd.ntmps12
    go_wp2
    refine wp_scope_forward 0 rfl ?_
    go_wp2_with fail
    refine hO.out.mono ?_
    rintro e w1 ⟨rfl, hb1⟩
    have hb2 := hb1.alloc hb1.size (.cells #[.int .i64 (k : Int), .int .i64 (f1 : Int), .int .i64 (f2 : Int)] 58)
    clear hb1 hO
    go_wp2_with fail
    go_step3
    refine ⟨rfl, ?_⟩
    go_wp2_with fail
    rw [Exit.noGoto_ret]
    go_ret2
    exact ⟨rfl, hb2⟩
set_option maxHeartbeats 2000000 in
theorem At_no {k i : Int} {w : World} (hK : Kinds w) (hs : isB k = false) :
    Calls Tryd.prog 12 #[.int .i64 k, .int .i64 i] w fun e w' => e = .returned (.tuple #[.int .i64 0, .int .i64 2]) ∧ Below w.heap.size w w' := by
  have hO := Lib.hid (of_plain (k := k) hK)
  rw [ofV_no hs, ofE_no hs] at hO
  unfold parV parA at hO
  clear hs
  go_enter Tryd.func12, Tryd.ntmps12
  go_wp2
  refine wp_scope_forward 0 rfl ?_
  go_wp2_with fail
  refine hO.out.mono ?_
  rintro e w1 ⟨rfl, hb1⟩
  have hb2 := hb1.alloc hb1.size (.cells #[.int .i64 ((0 : Nat) : Int), .int .i64 ((0 : Nat) : Int), .int .i64 ((0 : Nat) : Int)] 58)
  clear hb1 hO
  go_wp2_with fail
  go_step3
  refine ⟨rfl, ?_⟩
  go_wp2_with fail
  rw [Exit.noGoto_ret]
  go_ret2
  exact ⟨rfl, hb2⟩
theorem steps_any {a b c : Nat} {w : World} :
    Calls Tryd.prog 42 #[parV a b c] w fun e w' => e = .returned (.func (.func 47) #[] #[.pointer (some ⟨w.heap.size, 0, none⟩)]) ∧ w' = w.alloc (.cells (parA a b c) 58) := by
  have hmf := makeFunc_run
  unfold parV parA
  go_enter Tryd.func42, Tryd.ntmps42
  go_wp2_with fail
  go_ret
  exact ⟨rfl, rfl⟩
end Go.Proofs.YtfplklbicimhkaaDoor
