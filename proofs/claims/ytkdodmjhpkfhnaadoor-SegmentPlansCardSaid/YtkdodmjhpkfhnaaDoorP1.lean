/-
  require, raised, ceil, next; the deferred closures.
-/
import Derived.Test.YtkdodmjhpkfhnaaDoorK8
import Derived.Test.YtkdodmjhpkfhnaaDoorSegM
import Derived.Defers
import Derived.Recover
import Derived.WalkLawsBesides
namespace Go.Proofs.YtkdodmjhpkfhnaaDoor
open Go.RowKit

/-- What require raises. -/
def failV (e : Int) : Value := .iface 85 (.agg #[.int .i64 e])
theorem require_ok {e : Int} {w : World} :
    Calls Tryd.prog 31 #[.bool true, .int .i64 e] w fun r w' => r = .returned (.tuple #[]) ∧ w' = w := by
  go_enter Tryd.func31, Tryd.ntmps31
  go_wp2
  go_end0
  exact ⟨rfl, rfl⟩
theorem require_no {e : Int} {w : World} :
    Calls Tryd.prog 31 #[.bool false, .int .i64 e] w fun r w' => r = .panicked [{ v := failV e, recovered := false }] ∧ w' = w := by
  go_enter Tryd.func31, Tryd.ntmps31
  go_wp2
  exact ⟨rfl, rfl, rfl⟩
theorem raised_nil {w : World} :
    Calls Tryd.prog 30 #[.nilIface] w fun r w' => r = .returned (.int .i64 0) ∧ w' = w := by
  go_enter Tryd.func30, Tryd.ntmps30
  go_wp2
  go_ret
  exact ⟨rfl, rfl⟩
theorem ceil_any {a b : Nat} {w : World} (hb : 1 ≤ b) (ha : a ≤ 1000000000) (hb2 : b ≤ 1000000000) :
    Calls Tryd.prog 52 #[.int .i64 a, .int .i64 b] w fun r w' => r = .returned (.int .i64 ((a + b - 1) / b : Nat)) ∧ w' = w := by
  have hc : ((a : Int) + b - 1) / b = ((a + b - 1) / b : Nat) := by
    rw [show (a : Int) + b - 1 = ((a + b - 1 : Nat) : Int) by omega]; rfl
  go_enter Tryd.func52, Tryd.ntmps52
  go_wp2
  go_ret
  exact ⟨by show Ending.returned (.int .i64 (((a : Int) + b - 1) / b)) = _; rw [hc], rfl⟩
set_option maxRecDepth 100000 in
theorem raised_some {e : Int} {w : World} :
    Calls Tryd.prog 30 #[failV e] w fun r w' => r = .returned (.int .i64 e) ∧ w' = w := by
  unfold failV
  have hta : ∀ (w : World), (Instr.typeAssert (.iface 85 (.agg #[.int .i64 e])) 20 85 false).run Tryd.prog w = .ok (.agg #[.int .i64 e]) w := fun _ => by kernel_rfl
  have hfi : ∀ (w : World), (Instr.field 85 (.agg #[.int .i64 e]) 0).run Tryd.prog w = .ok (.int .i64 e) w := fun _ => by
    simp [Instr.field, run_underlying Tryd.underlying85, asAgg, go_sem]
  go_enter Tryd.func30, Tryd.ntmps30
  go_wp2
  go_ret
  exact ⟨rfl, rfl⟩

/-! ### The deferred closures -/
theorem next_caught (e : Int) (p : Addr) (w : World) {v : Value} (hc : w.cell? p = some v) (hf : w.frozen? p = false) :
    CallsD Tryd.prog 29 #[.pointer (some p)] (.panicking [{ v := failV e, recovered := false }]) w fun r u' w' => r = .returned (.tuple #[]) ∧ u' = .panicking [{ v := failV e, recovered := true }] ∧ w' = w.setCell p (.int .i64 e) := by
  refine callsD_of_wpS Tryd.func29 rfl fun c₀ cs hu => ?_
  apply wpS_region
  simp [wpOpsS, go_sem, recoverD, hu, Tryd.ntmps29]
  refine raised_some.mono ?_
  rintro r w2 ⟨rfl, rfl⟩
  simp [go_sem, hc, hf, bodyPostS, results, Tryd.results29]
theorem next_calm (p : Addr) (w : World) {v : Value} (hc : w.cell? p = some v) (hf : w.frozen? p = false) :
    CallsD Tryd.prog 29 #[.pointer (some p)] .returning w fun r u' w' => r = .returned (.tuple #[]) ∧ u' = .returning ∧ w' = w.setCell p (.int .i64 0) := by
  refine callsD_of_wpS Tryd.func29 rfl fun c₀ cs hu => ?_
  apply wpS_region
  simp [wpOpsS, go_sem, recoverD, hu, Tryd.ntmps29]
  refine raised_nil.mono ?_
  rintro r w2 ⟨rfl, rfl⟩
  cases c₀
  simp_all [go_sem, bodyPostS, results, Tryd.results29]
theorem plan_caught (e : Int) (p : Addr) (w : World) {v : Value} (hc : w.cell? p = some v) (hf : w.frozen? p = false) :
    CallsD Tryd.prog 35 #[.pointer (some p)] (.panicking [{ v := failV e, recovered := false }]) w fun r u' w' => r = .returned (.tuple #[]) ∧ u' = .panicking [{ v := failV e, recovered := true }] ∧ w' = w.setCell p (.int .i64 e) := by
  refine callsD_of_wpS Tryd.func35 rfl fun c₀ cs hu => ?_
  apply wpS_region
  simp [wpOpsS, go_sem, recoverD, hu, Tryd.ntmps35]
  refine raised_some.mono ?_
  rintro r w2 ⟨rfl, rfl⟩
  simp [go_sem, hc, hf, bodyPostS, results, Tryd.results35]
theorem plan_calm (p : Addr) (w : World) {v : Value} (hc : w.cell? p = some v) (hf : w.frozen? p = false) :
    CallsD Tryd.prog 35 #[.pointer (some p)] .returning w fun r u' w' => r = .returned (.tuple #[]) ∧ u' = .returning ∧ w' = w.setCell p (.int .i64 0) := by
  refine callsD_of_wpS Tryd.func35 rfl fun c₀ cs hu => ?_
  apply wpS_region
  simp [wpOpsS, go_sem, recoverD, hu, Tryd.ntmps35]
  refine raised_nil.mono ?_
  rintro r w2 ⟨rfl, rfl⟩
  cases c₀
  simp_all [go_sem, bodyPostS, results, Tryd.results35]
theorem split_caught (e : Int) (p : Addr) (w : World) {v : Value} (hc : w.cell? p = some v) (hf : w.frozen? p = false) :
    CallsD Tryd.prog 38 #[.pointer (some p)] (.panicking [{ v := failV e, recovered := false }]) w fun r u' w' => r = .returned (.tuple #[]) ∧ u' = .panicking [{ v := failV e, recovered := true }] ∧ w' = w.setCell p (.int .i64 e) := by
  refine callsD_of_wpS Tryd.func38 rfl fun c₀ cs hu => ?_
  apply wpS_region
  simp [wpOpsS, go_sem, recoverD, hu, Tryd.ntmps38]
  refine raised_some.mono ?_
  rintro r w2 ⟨rfl, rfl⟩
  simp [go_sem, hc, hf, bodyPostS, results, Tryd.results38]
theorem split_calm (p : Addr) (w : World) {v : Value} (hc : w.cell? p = some v) (hf : w.frozen? p = false) :
    CallsD Tryd.prog 38 #[.pointer (some p)] .returning w fun r u' w' => r = .returned (.tuple #[]) ∧ u' = .returning ∧ w' = w.setCell p (.int .i64 0) := by
  refine callsD_of_wpS Tryd.func38 rfl fun c₀ cs hu => ?_
  apply wpS_region
  simp [wpOpsS, go_sem, recoverD, hu, Tryd.ntmps38]
  refine raised_nil.mono ?_
  rintro r w2 ⟨rfl, rfl⟩
  cases c₀
  simp_all [go_sem, bodyPostS, results, Tryd.results38]
theorem join_caught (e : Int) (p : Addr) (w : World) {v : Value} (hc : w.cell? p = some v) (hf : w.frozen? p = false) :
    CallsD Tryd.prog 47 #[.pointer (some p)] (.panicking [{ v := failV e, recovered := false }]) w fun r u' w' => r = .returned (.tuple #[]) ∧ u' = .panicking [{ v := failV e, recovered := true }] ∧ w' = w.setCell p (.int .i64 e) := by
  refine callsD_of_wpS Tryd.func47 rfl fun c₀ cs hu => ?_
  apply wpS_region
  simp [wpOpsS, go_sem, recoverD, hu, Tryd.ntmps47]
  refine raised_some.mono ?_
  rintro r w2 ⟨rfl, rfl⟩
  simp [go_sem, hc, hf, bodyPostS, results, Tryd.results47]
theorem join_calm (p : Addr) (w : World) {v : Value} (hc : w.cell? p = some v) (hf : w.frozen? p = false) :
    CallsD Tryd.prog 47 #[.pointer (some p)] .returning w fun r u' w' => r = .returned (.tuple #[]) ∧ u' = .returning ∧ w' = w.setCell p (.int .i64 0) := by
  refine callsD_of_wpS Tryd.func47 rfl fun c₀ cs hu => ?_
  apply wpS_region
  simp [wpOpsS, go_sem, recoverD, hu, Tryd.ntmps47]
  refine raised_nil.mono ?_
  rintro r w2 ⟨rfl, rfl⟩
  cases c₀
  simp_all [go_sem, bodyPostS, results, Tryd.results47]
end Go.Proofs.YtkdodmjhpkfhnaaDoor
