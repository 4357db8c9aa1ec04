/-
  Next, Valid.
-/
import Derived.Test.YtkdodmjhpkfhnaaDoorP2
namespace Go.Proofs.YtkdodmjhpkfhnaaDoor
open Go.RowKit

def nextS (n : Int) : Int × Int := if n < 0 ∨ 6144 < n then (0, 2) else ((nextN n.toNat : Nat), 0)
theorem makeFunc_run (fn : Fn) (first cap : Array Value) (w : World) : (Instr.makeFunc fn first cap).run Tryd.prog w = .ok (.func fn first cap) w := rfl
/-- The way out of Next without a panic. -/
theorem next_door {tmps : Array Value} {W : World} {B : Nat} {v res : Value} {R : Ending → World → Prop} (h2 : tmps.getD 2 undef = res) (h3 : tmps.getD 3 undef = .pointer (some ⟨B, 0, none⟩)) (hb : Boxed W B 22 v)
    (hR : R (.returned (.tuple #[res, .int .i64 0])) (W.setCell ⟨B, 0, none⟩ (.int .i64 0))) :
    Leaves Tryd.prog Tryd.f10 tmps R [{ target := .fn (.func 29) #[.pointer (some ⟨B, 0, none⟩)], args := #[] }] .returning W := by
  refine leaves_cons (f := 29) (args := #[.pointer (some ⟨B, 0, none⟩)]) (by simp) (by simp [go_sem]) ?_
  refine (next_calm ⟨B, 0, none⟩ W hb.cell hb.frozen).mono ?_
  rintro e u' w' ⟨rfl, rfl, rfl⟩
  have hc := (hb.set (.int .i64 0)).cell
  simp only [Array.getD_eq_getD_getElem?] at h2 h3
  simpa [Leaves, settle, results, Tryd.results10, go_sem, h2, h3, hc] using hR
/-- The way out of Next behind require's panic. -/
theorem next_door_no {tmps : Array Value} {W : World} {B : Nat} {v res : Value} {k : Int} {R : Ending → World → Prop} (h2 : tmps.getD 2 undef = res) (h3 : tmps.getD 3 undef = .pointer (some ⟨B, 0, none⟩)) (hb : Boxed W B 22 v)
    (hR : R (.returned (.tuple #[res, .int .i64 k])) (W.setCell ⟨B, 0, none⟩ (.int .i64 k))) :
    Leaves Tryd.prog Tryd.f10 tmps R [{ target := .fn (.func 29) #[.pointer (some ⟨B, 0, none⟩)], args := #[] }] (.panicking [{ v := failV k, recovered := false }]) W := by
  refine leaves_cons (f := 29) (args := #[.pointer (some ⟨B, 0, none⟩)]) (by simp) (by simp [go_sem]) ?_
  refine (next_caught k ⟨B, 0, none⟩ W hb.cell hb.frozen).mono ?_
  rintro e u' w' ⟨rfl, rfl, rfl⟩
  have hc := (hb.set (.int .i64 k)).cell
  simp only [Array.getD_eq_getD_getElem?] at h2 h3
  simpa [Leaves, settle, results, Tryd.results10, go_sem, h2, h3, hc] using hR
theorem Boxed.below {w w' : World} {B N : Nat} {t : TypeId} {v : Value} (h : Boxed w B t v) (hb : Below N w w') (hB : B < N) : Boxed w' B t v := (hb.block B hB).trans h
set_option maxRecDepth 100000 in
set_option maxHeartbeats 1000000 in
theorem Next_ok {n : Nat} {w : World} (hK : Kinds w) (h : n ≤ 6144) :
    Calls Tryd.prog 10 #[.int .i64 n] w fun e w' => e = .returned (.tuple #[.int .i64 (nextN n : Nat), .int .i64 0]) ∧ Below w.heap.size w w' := by
  have hmf := makeFunc_run
  have hn := Lib.hid (fun (u : World) (hb : Below w.heap.size w u) => next_any (n := n) (hK.step hb) h)
  have hb0 := (Below.refl w.heap.size w).alloc (Nat.le_refl _) (.cells #[.int .i64 0] 22)
  have bE := Boxed.new w 22 (.int .i64 0)
  have d1 : decide ((0 : Int) ≤ (n : Int)) = true := by simp
  have d2 : decide ((n : Int) ≤ 6144) = true := by simp; omega
  go_enter_defers Tryd.func10, Tryd.ntmps10
  go_wp2_with (go_at_call 31; refine require_ok.mono ?_; rintro e w1 ⟨rfl, rfl⟩)
  refine (hn.out _ hb0).mono ?_
  rintro e w1 ⟨rfl, hb1⟩
  rw [World.size_alloc] at hb1
  replace bE := Boxed.below bE hb1 (Nat.lt_succ_self _)
  have c0 := bE.cell
  have f0 := bE.frozen
  have hb2 := hb0.trans (hb1.mono (Nat.le_succ _))
  go_wp2_with fail
  exact next_door rfl rfl (bE.set _) ⟨rfl, (hb2.setCell (Nat.le_refl _) _).setCell (Nat.le_refl _) _⟩
set_option maxRecDepth 100000 in
set_option maxHeartbeats 1000000 in
theorem Next_no {n : Int} {w : World} (h : n < 0 ∨ 6144 < n) :
    Calls Tryd.prog 10 #[.int .i64 n] w fun e w' => e = .returned (.tuple #[.int .i64 0, .int .i64 2]) ∧ Below w.heap.size w w' := by
  have hmf := makeFunc_run
  have hb0 := (Below.refl w.heap.size w).alloc (Nat.le_refl _) (.cells #[.int .i64 0] 22)
  have bE := Boxed.new w 22 (.int .i64 0)
  rcases h with h | h
  · have d1 : decide ((0 : Int) ≤ n) = false := by simp; omega
    go_enter_defers Tryd.func10, Tryd.ntmps10
    go_wp2_with (go_at_call 31; refine require_no.mono ?_; rintro e w1 ⟨rfl, rfl⟩)
    exact next_door_no rfl rfl bE ⟨rfl, hb0.setCell (Nat.le_refl _) _⟩
  · have d1 : decide ((0 : Int) ≤ n) = true := by simp; omega
    have d2 : decide (n ≤ 6144) = false := by simp; omega
    go_enter_defers Tryd.func10, Tryd.ntmps10
    go_wp2_with (go_at_call 31; refine require_no.mono ?_; rintro e w1 ⟨rfl, rfl⟩)
    exact next_door_no rfl rfl bE ⟨rfl, hb0.setCell (Nat.le_refl _) _⟩
theorem Next_any {n : Int} {w : World} (hK : Kinds w) :
    Calls Tryd.prog 10 #[.int .i64 n] w fun e w' => e = .returned (.tuple #[.int .i64 (nextS n).1, .int .i64 (nextS n).2]) ∧ Below w.heap.size w w' := by
  unfold nextS
  split
  · rename_i h; exact Next_no h
  · rename_i h
    obtain ⟨m, rfl⟩ : ∃ m : Nat, n = m := ⟨n.toNat, by omega⟩
    exact Next_ok hK (by omega)
def validS (n : Int) : Bool := decide ((nextS n).2 = 0) && decide ((nextS n).1 = n)
theorem Valid_any {n : Int} {w : World} (hK : Kinds w) :
    Calls Tryd.prog 15 #[.int .i64 n] w fun e w' => e = .returned (.bool (validS n)) ∧ Below w.heap.size w w' := by
  have hN := Lib.hid (Next_any (n := n) hK)
  unfold validS
  obtain ⟨⟨a, b⟩, hab⟩ : ∃ p, nextS n = p := ⟨_, rfl⟩
  rw [hab] at hN ⊢
  simp only at hN ⊢
  clear hab hK
  by_cases hb : b = 0
  · have d1 : (b == 0) = true := by simp [hb]
    by_cases ha : a = n
    · have d2 : (a == n) = true := by simp [ha]
      rw [decide_eq_true hb, decide_eq_true ha]
      clear hb ha
      go_enter Tryd.func15, Tryd.ntmps15
      go_wp2_with (go_at_call 10; refine hN.out.mono ?_; rintro e w1 ⟨rfl, hb1⟩)
      go_ret
      exact ⟨rfl, hb1⟩
    · have d2 : (a == n) = false := by simp [ha]
      rw [decide_eq_true hb, decide_eq_false ha]
      clear hb ha
      go_enter Tryd.func15, Tryd.ntmps15
      go_wp2_with (go_at_call 10; refine hN.out.mono ?_; rintro e w1 ⟨rfl, hb1⟩)
      go_ret
      exact ⟨rfl, hb1⟩
  · have d1 : (b == 0) = false := by simp [hb]
    rw [decide_eq_false hb]
    clear hb
    go_enter Tryd.func15, Tryd.ntmps15
    go_wp2_with (go_at_call 10; refine hN.out.mono ?_; rintro e w1 ⟨rfl, hb1⟩)
    go_ret
    exact ⟨rfl, hb1⟩
end Go.Proofs.YtkdodmjhpkfhnaaDoor
