/-
  Blocks of three cells; below, start, state, feedback, shift, step of the code. shift, step. Step.
-/
import Derived.Test.YtbpkoilecdejiaaDoorTbM
import Derived.Test.YtbpkoilecdejiaaDoorApp
import Derived.Test.YtbpkoilecdejiaaDoorQ
import Derived.ScopeJumps
import Derived.RegionTactic
import Derived.BigRegion
import Derived.Deep.RegionLaw
namespace Go.Proofs.YtbpkoilecdejiaaDoor
/-! ### Blocks of three cells; below, start, state, feedback, shift, step of the code. -/
section
open Go.RowKit

theorem makeFunc_run (fn : Fn) (first cap : Array Value) (w : World) : (Instr.makeFunc fn first cap).run Tryd.prog w = .ok (.func fn first cap) w := rfl
theorem arr_set {w : World} {B j : Nat} {t : TypeId} {arr : Array Value} {v : Value} (h : w.heap[B]? = some (.cells arr t)) : (w.setCell ⟨B, j, none⟩ v).heap[B]? = some (.cells (arr.setIfInBounds j v) t) := by
  obtain ⟨hlt, hk⟩ := Array.getElem?_eq_some_iff.1 h
  show (w.heap.modify B _)[B]? = _
  rw [Array.getElem?_eq_getElem (by rw [Array.size_modify]; exact hlt), Array.getElem_modify_self, hk]
  rfl
/-- Block B holds the three cells x, y, z. -/
def Three (w : World) (B : Nat) (t : TypeId) (x y z : Value) : Prop := w.heap[B]? = some (.cells #[x, y, z] t)
section
variable {w w' : World} {B N : Nat} {t : TypeId} {x y z : Value}
theorem Three.new (w : World) (t : TypeId) (x y z : Value) : Three (w.alloc (.cells #[x, y, z] t)) w.heap.size t x y z := World.alloc_heap_new w _
theorem Three.cell (h : Three w B t x y z) (j : Nat) : w.cell? ⟨B, j, none⟩ = #[x, y, z][j]? := by
  simp [World.cell?, show w.heap[B]? = _ from h]
theorem Three.cell0 (h : Three w B t x y z) : w.cell? ⟨B, 0, none⟩ = some x := h.cell 0
theorem Three.cell1 (h : Three w B t x y z) : w.cell? ⟨B, 1, none⟩ = some y := h.cell 1
theorem Three.cell2 (h : Three w B t x y z) : w.cell? ⟨B, 2, none⟩ = some z := h.cell 2
theorem Three.lt (h : Three w B t x y z) : B < w.heap.size := (Array.getElem?_eq_some_iff.1 h).1
theorem Three.frozen (h : Three w B t x y z) (j : Nat) : w.frozen? ⟨B, j, none⟩ = false := by simp [World.frozen?, show w.heap[B]? = _ from h]
theorem Three.set0 (h : Three w B t x y z) (u : Value) : Three (w.setCell ⟨B, 0, none⟩ u) B t u y z := arr_set h
theorem Three.set1 (h : Three w B t x y z) (u : Value) : Three (w.setCell ⟨B, 1, none⟩ u) B t x u z := arr_set h
theorem Three.set2 (h : Three w B t x y z) (u : Value) : Three (w.setCell ⟨B, 2, none⟩ u) B t x y u := arr_set h
theorem Three.put (h : Three w B t x y z) (a b c : Value) : Three (((w.setCell ⟨B, 0, none⟩ a).setCell ⟨B, 1, none⟩ b).setCell ⟨B, 2, none⟩ c) B t a b c := ((h.set0 a).set1 b).set2 c
theorem Three.block (h : Three w B t x y z) (hb : w'.heap[B]? = w.heap[B]?) : Three w' B t x y z := hb.trans h
theorem Three.drew (h : Three w B t x y z) : Three w.drew B t x y z := h
theorem Three.below (h : Three w B t x y z) (hb : Below N w w') (hB : B < N) : Three w' B t x y z := h.block (hb.block B hB)
theorem Three.other (h : Three w B t x y z) {p : Addr} (hp : p.block ≠ B) (u : Value) : Three (w.setCell p u) B t x y z := h.block (Below.heap_setCell _ _ _ _ (Ne.symm hp))
theorem Three.alloc (h : Three w B t x y z) (o : Obj) : Three (w.alloc o) B t x y z := h.block (Below.heap_alloc _ _ _ h.lt)
theorem Three.grown {row : Option Nat} (h : Three w B t x y z) (hg : w.grownBy w' row) (hr : some B ≠ row) : Three w' B t x y z := h.block (hg.block B h.lt hr)
theorem put_grown (w : World) (B : Nat) (a b c : Value) : w.grownBy (((w.setCell ⟨B, 0, none⟩ a).setCell ⟨B, 1, none⟩ b).setCell ⟨B, 2, none⟩ c) (some B) :=
  ⟨rfl, rfl, rfl, by simp [World.setCell], fun k hk hne => by
    have hn : k ≠ B := fun e => hne (by rw [e])
    rw [Below.heap_setCell _ _ _ _ hn, Below.heap_setCell _ _ _ _ hn, Below.heap_setCell _ _ _ _ hn]⟩
theorem grown_two {w2 : World} {row : Option Nat} (h : w.grownBy w' none) (k : w'.grownBy w2 row) : w.grownBy w2 row :=
  ⟨k.os.trans h.os, k.tape.trans h.tape, k.output.trans h.output, Nat.le_trans h.size k.size, fun i hi hne => (k.block i (Nat.lt_of_lt_of_le hi h.size) hne).trans (h.block i hi (fun e => by cases e))⟩
theorem grown_two' {w2 : World} {row : Option Nat} (h : w.grownBy w' row) (k : w'.grownBy w2 none) : w.grownBy w2 row :=
  ⟨k.os.trans h.os, k.tape.trans h.tape, k.output.trans h.output, Nat.le_trans h.size k.size, fun i hi hne => (k.block i (Nat.lt_of_lt_of_le hi h.size) (fun e => by cases e)).trans (h.block i hi hne)⟩
theorem grown_same {w2 : World} {row : Option Nat} (h : w.grownBy w' row) (k : w'.grownBy w2 row) : w.grownBy w2 row :=
  ⟨k.os.trans h.os, k.tape.trans h.tape, k.output.trans h.output, Nat.le_trans h.size k.size, fun i hi hne => (k.block i (Nat.lt_of_lt_of_le hi h.size) hne).trans (h.block i hi hne)⟩
theorem grown_drewN {row : Option Nat} (h : w.grownBy w' row) (k : Nat) : w.grownBy (w'.drewN k) row := ⟨h.os, h.tape, h.output, h.size, h.block⟩
theorem grown_below {B : Nat} (h : w.grownBy w' none) (hB : B ≤ w.heap.size) : Below B w w' := (Below.refl B w).grown h hB (fun k e => by cases e)
end

/-- An encoder's three cells, and the register as a value. -/
def encA (s : Nat) : Array Value := #[.int .i64 ((s / 4 : Nat) : Int), .int .i64 ((s / 2 % 2 : Nat) : Int), .int .i64 ((s % 2 : Nat) : Int)]
def encV (s : Nat) : Value := .agg (encA s)
def Enc (w : World) (B s : Nat) : Prop := ∃ t, Three w B t (.int .i64 ((s / 4 : Nat) : Int)) (.int .i64 ((s / 2 % 2 : Nat) : Int)) (.int .i64 ((s % 2 : Nat) : Int))

theorem below_any {v e : Int} {w : World} : Calls Tryd.prog 66 #[.int .i64 v, .int .i64 e] w fun r w' => r = .returned (.bool (decide (0 ≤ v) && decide (v < e))) ∧ w' = w := by
  by_cases h : 0 ≤ v
  · have h0 : decide (0 ≤ v) = true := decide_eq_true h
    rw [h0, Bool.true_and]
    go_enter Tryd.func66, Tryd.ntmps66
    go_wp2_with fail
    go_ret
    exact ⟨rfl, rfl⟩
  · have h0 : decide (0 ≤ v) = false := decide_eq_false h
    rw [h0, Bool.false_and]
    go_enter Tryd.func66, Tryd.ntmps66
    go_wp2_with fail
    go_ret
    exact ⟨rfl, rfl⟩
theorem start_results {W : World} {tmps : Array Value} {B : Nat} {a b c : Value} {t : TypeId} (h2 : tmps.getD 2 undef = .pointer (some ⟨B, 0, none⟩)) (hL : Three W B t a b c) :
    (results Tryd.f67 tmps).run Tryd.prog W = .ok (.agg #[a, b, c]) W := by
  have c0 := hL.cell0
  have c1 := hL.cell1
  have c2 := hL.cell2
  simp only [Array.getD_eq_getD_getElem?] at h2
  simp [results, Tryd.results67, go_sem, h2, c0, c1, c2]
theorem start_any {s : Nat} {w : World} (hs : s < 8) : Calls Tryd.prog 67 #[.int .i64 (s : Int)] w fun e w' => e = .returned (encV s) ∧ w.grownBy w' none := by
  unfold encV encA
  have hG := fun o => World.grownBy_alloc w o none
  have e0 : bits .and .i64 0 1 = 0 := by decide
  have e1 : bits .and .i64 1 1 = 1 := by decide
  have e2 : bits .and .i64 2 1 = 0 := by decide
  have e3 : bits .and .i64 3 1 = 1 := by decide
  have e4 : bits .and .i64 4 1 = 0 := by decide
  have e5 : bits .and .i64 5 1 = 1 := by decide
  have e6 : bits .and .i64 6 1 = 0 := by decide
  have e7 : bits .and .i64 7 1 = 1 := by decide
  obtain rfl | rfl | rfl | rfl | rfl | rfl | rfl | rfl : s = 0 ∨ s = 1 ∨ s = 2 ∨ s = 3 ∨ s = 4 ∨ s = 5 ∨ s = 6 ∨ s = 7 := by omega
  all_goals
    go_enter Tryd.func67, Tryd.ntmps67
    go_wp2_with fail
    refine bodyPost_ret (start_results rfl (Three.new _ _ _ _ _)) rfl ⟨?_, hG _⟩
    rfl
theorem state_any {s : Nat} {w : World} (hs : s < 8) : Calls Tryd.prog 70 #[encV s] w fun e w' => e = .returned (.int .i64 (s : Int)) ∧ w.grownBy w' none := by
  unfold encV encA
  have hG := fun o => World.grownBy_alloc w o none
  have he : (4 * ((s / 4 : Nat) : Int) + 2 * ((s / 2 % 2 : Nat) : Int)) + ((s % 2 : Nat) : Int) = (s : Int) := by omega
  have l1 : s / 4 ≤ 1 := by omega
  have l2 : s / 2 % 2 ≤ 1 := by omega
  have l3 : s % 2 ≤ 1 := by omega
  generalize s / 4 = a at *
  generalize s / 2 % 2 = b at *
  generalize s % 2 = c at *
  have H := Lib.hid he
  clear he hs
  have hT := Three.new w 105 (.int .i64 (a : Int)) (.int .i64 (b : Int)) (.int .i64 (c : Int))
  have c0 := hT.cell0
  have c1 := hT.cell1
  have c2 := hT.cell2
  clear hT
  go_enter Tryd.func70, Tryd.ntmps70
  go_wp2_with fail
  go_ret
  exact ⟨ret_int H.out, hG _⟩
theorem fb_bits : ∀ s : Nat, s < 8 → bits .xor .i64 ((s / 2 % 2 : Nat) : Int) ((s % 2 : Nat) : Int) = (tailIn s : Nat) := by decide +kernel
theorem step_bits : ∀ s : Nat, s < 8 → ∀ u : Nat, u < 2 → bits .xor .i64 (u : Int) ((tailIn s : Nat) : Int) = (fbN s u : Nat) ∧ bits .xor .i64 ((fbN s u : Nat) : Int) ((s / 4 : Nat) : Int) = ((fbN s u + s / 4) % 2 : Nat) ∧
    bits .xor .i64 ((((fbN s u + s / 4) % 2 : Nat)) : Int) ((s % 2 : Nat) : Int) = (parS7 s u : Nat) ∧ nextS s u / 4 = fbN s u ∧ nextS s u / 2 % 2 = s / 4 ∧ nextS s u % 2 = s / 2 % 2 := by decide +kernel
theorem feedback_any {s : Nat} {w : World} (hs : s < 8) : Calls Tryd.prog 68 #[encV s] w fun e w' => e = .returned (.int .i64 (tailIn s : Nat)) ∧ w.grownBy w' none := by
  unfold encV encA
  have hG := fun o => World.grownBy_alloc w o none
  have he := fb_bits s hs
  generalize s / 4 = a at *
  generalize s / 2 % 2 = b at *
  generalize s % 2 = c at *
  generalize tailIn s = f at *
  have H := Lib.hid he
  clear he hs
  have hT := Three.new w 105 (.int .i64 (a : Int)) (.int .i64 (b : Int)) (.int .i64 (c : Int))
  have c1 := hT.cell1
  have c2 := hT.cell2
  clear hT
  go_enter Tryd.func68, Tryd.ntmps68
  go_wp2_with fail
  go_ret
  exact ⟨ret_int H.out, hG _⟩
end

/-! ### shift, step. -/
section
open Go.RowKit

set_option maxRecDepth 100000 in
theorem shift_any {B : Nat} {t : TypeId} {x a b c : Int} {w : World} (hT : Three w B t (.int .i64 a) (.int .i64 b) (.int .i64 c)) :
    Calls Tryd.prog 74 #[.pointer (some ⟨B, 0, none⟩), .int .i64 x] w fun e w' => e = .returned (.tuple #[]) ∧ w'.heap[B]? = some (.cells #[.int .i64 x, .int .i64 a, .int .i64 b] t) ∧ w.grownBy w' (some B) := by
  have c0 := hT.cell0
  have c1 := hT.cell1
  have c2 := hT.cell2
  have f0 := hT.frozen 0
  have f1 := hT.frozen 1
  have f2 := hT.frozen 2
  have H := Lib.hid (hT.put (.int .i64 x) (.int .i64 a) (.int .i64 b))
  have G := Lib.hid (put_grown w B (.int .i64 x) (.int .i64 a) (.int .i64 b))
  clear hT
  go_enter Tryd.func74, Tryd.ntmps74
  go_wp2_with fail
  go_still_tail 12, (by kernel_rfl)
  change wpList _ _ _ _ _ w.drew
  go_wp2
  go_end0
  exact ⟨rfl, H.out, grown_drewN G.out 1⟩
theorem Enc.three {w : World} {B s : Nat} (h : Enc w B s) : ∃ t, Three w B t (.int .i64 ((s / 4 : Nat) : Int)) (.int .i64 ((s / 2 % 2 : Nat) : Int)) (.int .i64 ((s % 2 : Nat) : Int)) := h
theorem Enc.lt {w : World} {B s : Nat} (h : Enc w B s) : B < w.heap.size := by obtain ⟨t, h⟩ := h; exact h.lt
theorem Enc.block {w w' : World} {B s : Nat} (h : Enc w B s) (hb : w'.heap[B]? = w.heap[B]?) : Enc w' B s := by obtain ⟨t, h⟩ := h; exact ⟨t, h.block hb⟩
theorem Enc.grown {w w' : World} {B s : Nat} {row : Option Nat} (h : Enc w B s) (hg : w.grownBy w' row) (hr : some B ≠ row) : Enc w' B s := by obtain ⟨t, h⟩ := h; exact ⟨t, h.grown hg hr⟩
set_option maxHeartbeats 1000000 in
theorem step_any {B s u : Nat} {w : World} (hE : Enc w B s) (hs : s < 8) (hu : u < 2) :
    Calls Tryd.prog 69 #[.pointer (some ⟨B, 0, none⟩), .int .i64 (u : Int)] w fun e w' => e = .returned (.int .i64 (parS7 s u : Nat)) ∧ Enc w' B (nextS s u) ∧ w.grownBy w' (some B) := by
  obtain ⟨t, hT⟩ := hE
  obtain ⟨x1, x2, x3, n1, n2, n3⟩ := step_bits s hs u hu
  have hF := Lib.hid (fun (v : World) => feedback_any (w := v) hs)
  unfold encV encA at hF
  have hN : Hid (∀ (w' : World) t', Three w' B t' (.int .i64 ((fbN s u : Nat) : Int)) (.int .i64 ((s / 4 : Nat) : Int)) (.int .i64 ((s / 2 % 2 : Nat) : Int)) → Enc w' B (nextS s u)) := Lib.hid (fun w' t' h => ⟨t', by rw [n1, n2, n3]; exact h⟩)
  have hlt := hT.lt
  clear n1 n2 n3
  generalize parS7 s u = p at *
  generalize fbN s u = f at *
  generalize tailIn s = tn at *
  generalize nextS s u = nx at *
  generalize (f + s / 4) % 2 = y at *
  generalize s / 4 = a at *
  generalize s / 2 % 2 = b at *
  generalize s % 2 = c at *
  have hSh := Lib.hid (fun (v : World) (h : Three v B t (.int .i64 (a : Int)) (.int .i64 (b : Int)) (.int .i64 (c : Int))) => shift_any (x := (f : Int)) h)
  have c0 := hT.cell0
  have c1 := hT.cell1
  have c2 := hT.cell2
  clear hs hu
  go_enter Tryd.func69, Tryd.ntmps69
  go_wp2_with fail
  refine (hF.out _).mono ?_
  rintro e w1 ⟨rfl, hg⟩
  have hT1 := hT.grown hg (fun e => by cases e)
  have c0 := hT1.cell0
  have c1 := hT1.cell1
  have c2 := hT1.cell2
  have H1 := Lib.hid hT1
  have HG := Lib.hid hg
  clear hT hT1 hg hF
  go_wp2_with fail
  go_quiet (fail)
  go_wp2_with fail
  refine (hSh.out (w1.drewN nq) H1.out).mono ?_
  rintro e w2 ⟨rfl, hb, hg⟩
  have HE := Lib.hid (hN.out w2 t hb)
  have HG2 := Lib.hid (grown_two HG.out (grown_two (grown_drewN (World.grownBy.refl w1 none) nq) hg))
  clear c0 c1 c2 H1 HG hN hSh hb hg
  go_wp2_with fail
  go_ret
  exact ⟨rfl, HE.out, HG2.out⟩
end

/-! ### Step. -/
section
open Go.RowKit

/-- Step's results. -/
def stepS (st u : Int) : Int × Int × Int := if (decide (0 ≤ st) && decide (st < 8)) && (decide (0 ≤ u) && decide (u < 2)) then (((nextS st.toNat u.toNat : Nat) : Int), ((parS7 st.toNat u.toNat : Nat) : Int), 0) else (0, 0, 2)
theorem stepS_ok {s u : Nat} (hs : s < 8) (hu : u < 2) : stepS (s : Int) (u : Int) = (((nextS s u : Nat) : Int), ((parS7 s u : Nat) : Int), 0) := by
  unfold stepS
  rw [if_pos (by simp; omega)]
  rfl
set_option maxHeartbeats 1000000 in
theorem Step_ok {s u : Nat} {w : World} (hs : s < 8) (hu : u < 2) :
    Calls Tryd.prog 56 #[.int .i64 (s : Int), .int .i64 (u : Int)] w fun e w' => e = .returned (.tuple #[.int .i64 (nextS s u : Nat), .int .i64 (parS7 s u : Nat), .int .i64 0]) ∧ Below w.heap.size w w' := by
  have hb1 := Lib.hid (fun (v : World) => below_any (v := (s : Int)) (e := 8) (w := v))
  rw [show (decide (0 ≤ (s : Int)) && decide ((s : Int) < 8)) = true by simp; omega] at hb1
  have hb2 := Lib.hid (fun (v : World) => below_any (v := (u : Int)) (e := 2) (w := v))
  rw [show (decide (0 ≤ (u : Int)) && decide ((u : Int) < 2)) = true by simp; omega] at hb2
  have hst := Lib.hid (fun (v : World) => start_any (w := v) hs)
  have hstep := Lib.hid (fun (v : World) (h : Enc v w.heap.size s) => step_any h hs hu)
  have hstate := Lib.hid (fun (v : World) => state_any (w := v) (step_lt s hs u hu).1)
  have hT := Three.new w 107 (.int .i64 0) (.int .i64 0) (.int .i64 0)
  have hB0 := (Below.refl w.heap.size w).alloc (Nat.le_refl _) (.cells #[.int .i64 0, .int .i64 0, .int .i64 0] 107)
  unfold encV encA at hst hstate
  have hEn : Hid (∀ (v : World) t, Three v w.heap.size t (.int .i64 ((s / 4 : Nat) : Int)) (.int .i64 ((s / 2 % 2 : Nat) : Int)) (.int .i64 ((s % 2 : Nat) : Int)) → Enc v w.heap.size s) := Lib.hid (fun v t h => ⟨t, h⟩)
  have hEx : Hid (∀ (v : World), Enc v w.heap.size (nextS s u) → ∃ t, Three v w.heap.size t (.int .i64 ((nextS s u / 4 : Nat) : Int)) (.int .i64 ((nextS s u / 2 % 2 : Nat) : Int)) (.int .i64 ((nextS s u % 2 : Nat) : Int))) := Lib.hid (fun v h => h)
  generalize parS7 s u = p at *
  generalize nextS s u = nx at *
  generalize s / 4 = a at *
  generalize s / 2 % 2 = b at *
  generalize s % 2 = c at *
  generalize nx / 4 = a' at *
  generalize nx / 2 % 2 = b' at *
  generalize nx % 2 = c' at *
  clear hs hu
  go_enter Tryd.func56, Tryd.ntmps56
  go_wp2
  refine wp_scope_forward 0 rfl ?_
  go_wp2_with fail
  generalize w.alloc (.cells #[.int .i64 0, .int .i64 0, .int .i64 0] 107) = W0 at *
  refine (hb1.out _).mono ?_
  rintro e W0 ⟨rfl, rfl⟩
  go_wp2_with fail
  refine (hb2.out _).mono ?_
  rintro e W0 ⟨rfl, rfl⟩
  go_wp2_with fail
  refine (hst.out _).mono ?_
  rintro e w1 ⟨rfl, hg⟩
  have hT1 := hT.grown hg (fun e => by cases e)
  have hB1 := Lib.hid (((hB0.grown hg hB0.size (fun g e => by cases e)).setCell (p := ⟨w.heap.size, 0, none⟩) (Nat.le_refl _) (.int .i64 (a : Int))).setCell (p := ⟨w.heap.size, 1, none⟩) (Nat.le_refl _) (.int .i64 (b : Int)) |>.setCell (p := ⟨w.heap.size, 2, none⟩) (Nat.le_refl _) (.int .i64 (c : Int)))
  have hE1 := Lib.hid (hEn.out _ _ (hT1.put (.int .i64 (a : Int)) (.int .i64 (b : Int)) (.int .i64 (c : Int))))
  have c0 := hT1.cell0
  have c1 := hT1.cell1
  have c2 := hT1.cell2
  have f0 := hT1.frozen 0
  have f1 := hT1.frozen 1
  have f2 := hT1.frozen 2
  clear hT hT1 hg hB0 hb1 hb2 hst hEn
  go_wp2_with fail
  refine (hstep.out _ hE1.out).mono ?_
  rintro e w2 ⟨rfl, hE2, hg2⟩
  obtain ⟨t2, hT2⟩ := hEx.out _ hE2
  have hB2 := Lib.hid (hB1.out.grown hg2 hB1.out.size (fun g e => by cases e; exact Nat.le_refl _))
  have d0 := hT2.cell0
  have d1 := hT2.cell1
  have d2 := hT2.cell2
  clear c0 c1 c2 f0 f1 f2 hE1 hB1 hE2 hT2 hg2 hstep hEx
  go_wp2_with fail
  refine (hstate.out _).mono ?_
  rintro e w3 ⟨rfl, hg3⟩
  have hB3 := Lib.hid (hB2.out.grown hg3 hB2.out.size (fun g e => by cases e))
  clear d0 d1 d2 hB2 hg3 hstate
  go_wp2_with fail
  refine jump_ret ?_
  go_ret3
  exact ⟨rfl, hB3.out⟩
theorem andB_cases {v e : Int} (h : (decide (0 ≤ v) && decide (v < e)) = false) : v < 0 ∨ e ≤ v := by
  simp at h; omega
set_option maxHeartbeats 1000000 in
theorem Step_no {st u : Int} {w : World} (h : ((decide (0 ≤ st) && decide (st < 8)) && (decide (0 ≤ u) && decide (u < 2))) = false) :
    Calls Tryd.prog 56 #[.int .i64 st, .int .i64 u] w fun e w' => e = .returned (.tuple #[.int .i64 0, .int .i64 0, .int .i64 2]) ∧ Below w.heap.size w w' := by
  have hb1 := Lib.hid (fun (v : World) => below_any (v := st) (e := 8) (w := v))
  have hb2 := Lib.hid (fun (v : World) => below_any (v := u) (e := 2) (w := v))
  have hB0 := (Below.refl w.heap.size w).alloc (Nat.le_refl _) (.cells #[.int .i64 0, .int .i64 0, .int .i64 0] 107)
  by_cases h1 : (decide (0 ≤ st) && decide (st < 8)) = true
  · rw [h1, Bool.true_and] at h
    rw [h1] at hb1
    rw [h] at hb2
    clear h h1
    go_enter Tryd.func56, Tryd.ntmps56
    go_wp2
    refine wp_scope_forward 0 rfl ?_
    go_wp2_with fail
    generalize w.alloc (.cells #[.int .i64 0, .int .i64 0, .int .i64 0] 107) = W0 at *
    refine (hb1.out _).mono ?_
    rintro e W0 ⟨rfl, rfl⟩
    go_wp2_with fail
    refine (hb2.out _).mono ?_
    rintro e W0 ⟨rfl, rfl⟩
    go_wp2_with fail
    go_step3
    refine ⟨rfl, ?_⟩
    go_wp2_with fail
    rw [Exit.noGoto_ret]
    go_ret3
    exact ⟨rfl, hB0⟩
  · have h1 := Bool.eq_false_iff.2 h1
    rw [h1] at hb1
    clear h h1 hb2
    go_enter Tryd.func56, Tryd.ntmps56
    go_wp2
    refine wp_scope_forward 0 rfl ?_
    go_wp2_with fail
    generalize w.alloc (.cells #[.int .i64 0, .int .i64 0, .int .i64 0] 107) = W0 at *
    refine (hb1.out _).mono ?_
    rintro e W0 ⟨rfl, rfl⟩
    go_wp2_with fail
    go_step3
    refine ⟨rfl, ?_⟩
    go_wp2_with fail
    rw [Exit.noGoto_ret]
    go_ret3
    exact ⟨rfl, hB0⟩
theorem Step_any {st u : Int} {w : World} : Calls Tryd.prog 56 #[.int .i64 st, .int .i64 u] w fun e w' => e = .returned (.tuple #[.int .i64 (stepS st u).1, .int .i64 (stepS st u).2.1, .int .i64 (stepS st u).2.2]) ∧ Below w.heap.size w w' := by
  by_cases h : ((decide (0 ≤ st) && decide (st < 8)) && (decide (0 ≤ u) && decide (u < 2))) = true
  · have h' := h
    simp at h'
    obtain ⟨s, rfl⟩ := Int.eq_ofNat_of_zero_le h'.1.1
    obtain ⟨v, rfl⟩ := Int.eq_ofNat_of_zero_le h'.2.1
    have e := stepS_ok (s := s) (u := v) (by omega) (by omega)
    rw [e]
    exact Step_ok (by omega) (by omega)
  · have h := Bool.eq_false_iff.2 h
    have e : stepS st u = (0, 0, 2) := by unfold stepS; rw [if_neg (by rw [h]; decide)]
    rw [e]
    exact Step_no h
end
end Go.Proofs.YtbpkoilecdejiaaDoor
