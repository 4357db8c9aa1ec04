/-
  Signs.
-/
import Derived.Test.YtoegamlpgenfcaaDoorCn
namespace Go.Proofs.YtoegamlpgenfcaaDoor
open Go.RowKit Go.Shelf BigFrame

theorem slice_cut {A : Option Addr} {n c : Nat} (u : World) : (Instr.slice 94 (.slice A n c) none (some (.int .i64 0)) (some (.int .i64 0))).run Tryd.prog u = .ok (.slice A 0 0) u := by
  rcases A with _ | a
  · simp [Instr.slice, Instr.sliceBounds, Instr.sliceBound, run_underlying Tryd.underlying94, asIntOf, go_sem]
  · simp [Instr.slice, Instr.sliceBounds, Instr.sliceBound, run_underlying Tryd.underlying94, asIntOf, go_sem]
theorem append_cut {A A' : Option Addr} {n c : Nat} {xs : List Int} {w : World} (hn : n ≤ 1000000) (hp : 0 < n) (h : Rd .i64 w w.heap.size A' n xs) :
    ∃ A6 c6 w6, (Builtin.append_ #[94, 94] 94 #[.slice A 0 0, .slice A' n c]).run Tryd.prog w = .ok (.slice A6 n c6) w6 ∧
      w6.ownsRow w.heap.size 3 1 (.slice A6 n c6) n (xs.map (Value.int .i64)) ∧ Below w.heap.size w w6 := by
  obtain ⟨i0, hi, hz0, hz1, hz2⟩ := info_q Tryd.info_int
  obtain ⟨V2, w2, h1, h2, h3, _⟩ := run_append_q (P := Tryd.prog) (q := .i64) (t := 94) (ty := 94) (base := w.heap.size) (c' := c) (xs := []) Tryd.underlying94 hi hz0 hz1 hz2 (by decide) (by simpa using World.ownsRow_nil w w.heap.size 3 1) h (by omega) (Nat.le_refl _)
  obtain ⟨A2, c2, rfl⟩ := ownsRow_shape h2
  rw [Nat.zero_add] at h1 h2
  refine ⟨A2, c2, w2, ?_, by simpa using h2, (Below.refl _ w).grown h3 (Nat.le_refl _) (fun g hg => by cases hg)⟩
  rw [← h1]
  have hne : ¬ n ≤ 0 := by omega
  rcases A with _ | a
  · rfl
  · have hcap : ¬ (281474976710656 < n * 8) := by omega
    have hn0 : ¬ n = 0 := by omega
    have hl0 : ∀ u, (loadCells a 0).run Tryd.prog u = .ok #[] u := fun u => by simpa using run_loadCells (P := Tryd.prog) (w := u) a 0 (fun _ => undef) (fun j hj => absurd hj (Nat.not_lt_zero j))
    simp [Builtin.append_, run_underlying Tryd.underlying94, sizeOf, typeInfo, hi, Builtin.lenOf, hn0, Builtin.firstCells, hz2, hz1, nextslicecap_zero hp, hcap, hl0]
theorem append_cut_any {A A' : Option Addr} {n c : Nat} {xs : List Int} {w : World} (hn : n ≤ 1000000) (h : Rd .i64 w w.heap.size A' n xs) :
    ∃ A6 c6 w6, (Builtin.append_ #[94, 94] 94 #[.slice A 0 0, .slice A' n c]).run Tryd.prog w = .ok (.slice A6 n c6) w6 ∧
      (0 < n → w6.ownsRow w.heap.size 3 1 (.slice A6 n c6) n (xs.map (Value.int .i64))) ∧ Below w.heap.size w w6 := by
  rcases Nat.eq_zero_or_pos n with h0 | hp
  · subst h0
    obtain ⟨i0, hi, hz0, hz1, hz2⟩ := info_q Tryd.info_int
    have hl0 : ∀ (a : Addr) u, (loadCells a 0).run Tryd.prog u = .ok #[] u := fun a u => by simpa using run_loadCells (P := Tryd.prog) (w := u) a 0 (fun _ => undef) (fun j hj => absurd hj (Nat.not_lt_zero j))
    refine ⟨A, 0, w, ?_, fun h => absurd h (Nat.lt_irrefl 0), Below.refl _ _⟩
    rcases A with _ | a <;> rcases A' with _ | a' <;> simp [Builtin.append_, run_underlying Tryd.underlying94, sizeOf, typeInfo, hi, Builtin.lenOf, Builtin.firstCells, hl0, storeCells]
  · obtain ⟨A6, c6, w6, h1, h2, h3⟩ := append_cut (A := A) (c := c) hn hp h
    exact ⟨A6, c6, w6, h1, fun _ => h2, h3⟩
end Go.Proofs.YtoegamlpgenfcaaDoor
