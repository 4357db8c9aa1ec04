/-
  Blocks of three cells; below, start, state, feedback, shift, step of the code.
-/
import Derived.Test.YtjehfdnkdfmmbaaTrM
import Derived.Test.YtjehfdnkdfmmbaaApp
import Derived.Test.YtjehfdnkdfmmbaaQ
import Derived.ScopeJumps
namespace Go.Proofs.Ytjehfdnkdfmmbaa
open Go.RowKit

theorem makeFunc_run (fn : Fn) (first cap : Array Value) (w : World) : (Instr.makeFunc fn first cap).run Try.prog w = .ok (.func fn first cap) w := rfl
theorem arr_set {w : World} {B j : Nat} {t : TypeId} {arr : Array Value} {v : Value} (h : w.heap[B]? = some (.cells arr t)) : (w.setCell ⟨B, j, none⟩ v).heap[B]? = some (.cells (arr.setIfInBounds j v) t) := by
  obtain ⟨hlt, hk⟩ := Array.getElem?_eq_some_iff.1 h
  show (w.heap.modify B _)[B]? = _
  rw [Array.getElem?_eq_getElem (by rw [Array.size_modify]; exact hlt), Array.getElem_modify_self, hk]
  rfl
/-- Block B holds the three cells x, y, z. -/
def Three (w : World) (B : Nat) (t : TypeId) (x y z : Value) : Prop := w.heap[B]? = some (.cells #[x, y, z] t)
section
variable {w w' : World} {B N : Nat} {t : TypeId} {x y z : Value}
theorem Three.new (w : World) (t : TypeId) (x y z : Value) : Three (w.alloc (.cells #[x, y, z] t)) w.heap.size t x y z := World.alloc_heap_new w _
theorem Three.cell (h : Three w B t x y z) (j : Nat) : w.cell? ⟨B, j, none⟩ = #[x, y, z][j]? := by
  simp [World.cell?, show w.heap[B]? = _ from h]
theorem Three.cell0 (h : Three w B t x y z) : w.cell? ⟨B, 0, none⟩ = some x := h.cell 0
theorem Three.cell1 (h : Three w B t x y z) : w.cell? ⟨B, 1, none⟩ = some y := h.cell 1
theorem Three.cell2 (h : Three w B t x y z) : w.cell? ⟨B, 2, none⟩ = some z := h.cell 2
theorem Three.lt (h : Three w B t x y z) : B < w.heap.size := (Array.getElem?_eq_some_iff.1 h).1
theorem Three.frozen (h : Three w B t x y z) (j : Nat) : w.frozen? ⟨B, j, none⟩ = false := by simp [World.frozen?, show w.heap[B]? = _ from h]
theorem Three.set0 (h : Three w B t x y z) (u : Value) : Three (w.setCell ⟨B, 0, none⟩ u) B t u y z := arr_set h
theorem Three.set1 (h : Three w B t x y z) (u : Value) : Three (w.setCell ⟨B, 1, none⟩ u) B t x u z := arr_set h
theorem Three.set2 (h : Three w B t x y z) (u : Value) : Three (w.setCell ⟨B, 2, none⟩ u) B t x y u := arr_set h
theorem Three.put (h : Three w B t x y z) (a b c : Value) : Three (((w.setCell ⟨B, 0, none⟩ a).setCell ⟨B, 1, none⟩ b).setCell ⟨B, 2, none⟩ c) B t a b c := ((h.set0 a).set1 b).set2 c
theorem Three.block (h : Three w B t x y z) (hb : w'.heap[B]? = w.heap[B]?) : Three w' B t x y z := hb.trans h
theorem Three.drew (h : Three w B t x y z) : Three w.drew B t x y z := h
theorem Three.below (h : Three w B t x y z) (hb : Below N w w') (hB : B < N) : Three w' B t x y z := h.block (hb.block B hB)
theorem Three.other (h : Three w B t x y z) {p : Addr} (hp : p.block ≠ B) (u : Value) : Three (w.setCell p u) B t x y z := h.block (Below.heap_setCell _ _ _ _ (Ne.symm hp))
theorem Three.alloc (h : Three w B t x y z) (o : Obj) : Three (w.alloc o) B t x y z := h.block (Below.heap_alloc _ _ _ h.lt)
theorem Three.grown {row : Option Nat} (h : Three w B t x y z) (hg : w.grownBy w' row) (hr : some B ≠ row) : Three w' B t x y z := h.block (hg.block B h.lt hr)
theorem put_grown (w : World) (B : Nat) (a b c : Value) : w.grownBy (((w.setCell ⟨B, 0, none⟩ a).setCell ⟨B, 1, none⟩ b).setCell ⟨B, 2, none⟩ c) (some B) :=
  ⟨rfl, rfl, rfl, by simp [World.setCell], fun k hk hne => by
    have hn : k ≠ B := fun e => hne (by rw [e])
    rw [Below.heap_setCell _ _ _ _ hn, Below.heap_setCell _ _ _ _ hn, Below.heap_setCell _ _ _ _ hn]⟩
theorem grown_two {w2 : World} {row : Option Nat} (h : w.grownBy w' none) (k : w'.grownBy w2 row) : w.grownBy w2 row :=
  ⟨k.os.trans h.os, k.tape.trans h.tape, k.output.trans h.output, Nat.le_trans h.size k.size, fun i hi hne => (k.block i (Nat.lt_of_lt_of_le hi h.size) hne).trans (h.block i hi (fun e => by cases e))⟩
theorem grown_two' {w2 : World} {row : Option Nat} (h : w.grownBy w' row) (k : w'.grownBy w2 none) : w.grownBy w2 row :=
  ⟨k.os.trans h.os, k.tape.trans h.tape, k.output.trans h.output, Nat.le_trans h.size k.size, fun i hi hne => (k.block i (Nat.lt_of_lt_of_le hi h.size) (fun e => by cases e)).trans (h.block i hi hne)⟩
theorem grown_same {w2 : World} {row : Option Nat} (h : w.grownBy w' row) (k : w'.grownBy w2 row) : w.grownBy w2 row :=
  ⟨k.os.trans h.os, k.tape.trans h.tape, k.output.trans h.output, Nat.le_trans h.size k.size, fun i hi hne => (k.block i (Nat.lt_of_lt_of_le hi h.size) hne).trans (h.block i hi hne)⟩
theorem grown_drewN {row : Option Nat} (h : w.grownBy w' row) (k : Nat) : w.grownBy (w'.drewN k) row := ⟨h.os, h.tape, h.output, h.size, h.block⟩
theorem grown_below {B : Nat} (h : w.grownBy w' none) (hB : B ≤ w.heap.size) : Below B w w' := (Below.refl B w).grown h hB (fun k e => by cases e)
end

/-- An encoder's three cells, and the register as a value. -/
def encA (s : Nat) : Array Value := #[.int .i64 ((s / 4 : Nat) : Int), .int .i64 ((s / 2 % 2 : Nat) : Int), .int .i64 ((s % 2 : Nat) : Int)]
def encV (s : Nat) : Value := .agg (encA s)
def Enc (w : World) (B s : Nat) : Prop := ∃ t, Three w B t (.int .i64 ((s / 4 : Nat) : Int)) (.int .i64 ((s / 2 % 2 : Nat) : Int)) (.int .i64 ((s % 2 : Nat) : Int))

theorem below_any {v e : Int} {w : World} : Calls Try.prog 29 #[.int .i64 v, .int .i64 e] w fun r w' => r = .returned (.bool (decide (0 ≤ v) && decide (v < e))) ∧ w' = w := by
  by_cases h : 0 ≤ v
  · have h0 : decide (0 ≤ v) = true := decide_eq_true h
    rw [h0, Bool.true_and]
    go_enter Try.func29, Try.ntmps29
    go_wp2_with fail
    go_ret
    exact ⟨rfl, rfl⟩
  · have h0 : decide (0 ≤ v) = false := decide_eq_false h
    rw [h0, Bool.false_and]
    go_enter Try.func29, Try.ntmps29
    go_wp2_with fail
    go_ret
    exact ⟨rfl, rfl⟩
theorem start_results {W : World} {tmps : Array Value} {B : Nat} {a b c : Value} {t : TypeId} (h2 : tmps.getD 2 undef = .pointer (some ⟨B, 0, none⟩)) (hL : Three W B t a b c) :
    (results Try.f30 tmps).run Try.prog W = .ok (.agg #[a, b, c]) W := by
  have c0 := hL.cell0
  have c1 := hL.cell1
  have c2 := hL.cell2
  simp only [Array.getD_eq_getD_getElem?] at h2
  simp [results, Try.results30, go_sem, h2, c0, c1, c2]
theorem start_any {s : Nat} {w : World} (hs : s < 8) : Calls Try.prog 30 #[.int .i64 (s : Int)] w fun e w' => e = .returned (encV s) ∧ w.grownBy w' none := by
  unfold encV encA
  have hG := fun o => World.grownBy_alloc w o none
  have e0 : bits .and .i64 0 1 = 0 := by decide
  have e1 : bits .and .i64 1 1 = 1 := by decide
  have e2 : bits .and .i64 2 1 = 0 := by decide
  have e3 : bits .and .i64 3 1 = 1 := by decide
  have e4 : bits .and .i64 4 1 = 0 := by decide
  have e5 : bits .and .i64 5 1 = 1 := by decide
  have e6 : bits .and .i64 6 1 = 0 := by decide
  have e7 : bits .and .i64 7 1 = 1 := by decide
  obtain rfl | rfl | rfl | rfl | rfl | rfl | rfl | rfl : s = 0 ∨ s = 1 ∨ s = 2 ∨ s = 3 ∨ s = 4 ∨ s = 5 ∨ s = 6 ∨ s = 7 := by omega
  all_goals
    go_enter Try.func30, Try.ntmps30
    go_wp2_with fail
    refine bodyPost_ret (start_results rfl (Three.new _ _ _ _ _)) rfl ⟨?_, hG _⟩
    rfl
theorem state_any {s : Nat} {w : World} (hs : s < 8) : Calls Try.prog 32 #[encV s] w fun e w' => e = .returned (.int .i64 (s : Int)) ∧ w.grownBy w' none := by
  unfold encV encA
  have hG := fun o => World.grownBy_alloc w o none
  have he : (4 * ((s / 4 : Nat) : Int) + 2 * ((s / 2 % 2 : Nat) : Int)) + ((s % 2 : Nat) : Int) = (s : Int) := by omega
  have l1 : s / 4 ≤ 1 := by omega
  have l2 : s / 2 % 2 ≤ 1 := by omega
  have l3 : s % 2 ≤ 1 := by omega
  generalize s / 4 = a at *
  generalize s / 2 % 2 = b at *
  generalize s % 2 = c at *
  have H := Lib.hid he
  clear he hs
  have hT := Three.new w 64 (.int .i64 (a : Int)) (.int .i64 (b : Int)) (.int .i64 (c : Int))
  have c0 := hT.cell0
  have c1 := hT.cell1
  have c2 := hT.cell2
  clear hT
  go_enter Try.func32, Try.ntmps32
  go_wp2_with fail
  go_ret
  exact ⟨ret_int H.out, hG _⟩
theorem fb_bits : ∀ s : Nat, s < 8 → bits .xor .i64 ((s / 2 % 2 : Nat) : Int) ((s % 2 : Nat) : Int) = (tailIn s : Nat) := by decide +kernel
theorem step_bits : ∀ s : Nat, s < 8 → ∀ u : Nat, u < 2 → bits .xor .i64 (u : Int) ((tailIn s : Nat) : Int) = (fbN s u : Nat) ∧ bits .xor .i64 ((fbN s u : Nat) : Int) ((s / 4 : Nat) : Int) = ((fbN s u + s / 4) % 2 : Nat) ∧
    bits .xor .i64 ((((fbN s u + s / 4) % 2 : Nat)) : Int) ((s % 2 : Nat) : Int) = (parS7 s u : Nat) ∧ nextS s u / 4 = fbN s u ∧ nextS s u / 2 % 2 = s / 4 ∧ nextS s u % 2 = s / 2 % 2 := by decide +kernel
theorem feedback_any {s : Nat} {w : World} (hs : s < 8) : Calls Try.prog 33 #[encV s] w fun e w' => e = .returned (.int .i64 (tailIn s : Nat)) ∧ w.grownBy w' none := by
  unfold encV encA
  have hG := fun o => World.grownBy_alloc w o none
  have he := fb_bits s hs
  generalize s / 4 = a at *
  generalize s / 2 % 2 = b at *
  generalize s % 2 = c at *
  generalize tailIn s = f at *
  have H := Lib.hid he
  clear he hs
  have hT := Three.new w 64 (.int .i64 (a : Int)) (.int .i64 (b : Int)) (.int .i64 (c : Int))
  have c1 := hT.cell1
  have c2 := hT.cell2
  clear hT
  go_enter Try.func33, Try.ntmps33
  go_wp2_with fail
  go_ret
  exact ⟨ret_int H.out, hG _⟩
end Go.Proofs.Ytjehfdnkdfmmbaa
