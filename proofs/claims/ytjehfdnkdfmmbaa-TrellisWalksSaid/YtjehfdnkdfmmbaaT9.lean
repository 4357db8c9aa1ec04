/-
  The branches.
-/
import Derived.Test.YtjehfdnkdfmmbaaT3
import Derived.Deep.WholeRow
import Derived.Deep.Cut
namespace Go.Proofs.Ytjehfdnkdfmmbaa
open Go.RowKit

/-- A load, a store of a whole array, by its run's equation. -/
theorem wpList_load_run {P : Program} {w : World} {ops : Array Oper} {rest : List Oper} {o : Oper} {a : Act} {Q : Exit → Act → World → Prop} (hg : o.guard = none) (t : TypeId) (p : Operand) (hop : o.op = .load t p) {v r : Value} (hv : a.eval p = v)
    (hrun : (Instr.loadAt t v).run P w = .ok r w) (h : wpList P ops Q rest (a.put o.dst r) w) : wpList P ops Q (o :: rest) a w := by
  refine wpList_plain hg fun K hK => ?_
  unfold Oper.wp
  simp only [execOp, hop, hv]
  simp [hrun, Result.andThen]
  exact hK _ _ h
theorem wpList_store_run {P : Program} {w w' : World} {ops : Array Oper} {rest : List Oper} {o : Oper} {a : Act} {Q : Exit → Act → World → Prop} (hg : o.guard = none) (t : TypeId) (p x : Operand) (hop : o.op = .store t p x) {v r : Value} (hv : a.eval p = v) (hx : a.eval x = r)
    (hrun : (Instr.storeAt t v r).run P w = .ok () w') (h : wpList P ops Q rest (a.put o.dst undef) w') : wpList P ops Q (o :: rest) a w := by
  refine wpList_plain hg fun K hK => ?_
  unfold Oper.wp
  simp only [execOp, hop, hv, hx]
  simp [hrun, Result.andThen]
  exact hK _ _ h
theorem loadAt_row {P : Program} {w : World} {g n : Nat} {t e : TypeId} {cs : Array Value} {fr : Nat × Nat} (hg : w.heap[g]? = some (.cells cs t fr)) (hu : P.underlying t = some (.array n e)) (hi : (P.info? t).map (·.size) = some cs.size) :
    (Instr.loadAt t (.pointer (some ⟨g, 0, none⟩))).run P w = .ok (.agg cs) w := by
  simp only [Instr.loadAt, Instr.sureAddr, Sem.run_bind, Sem.run_pure, Result.andThen]
  exact run_loadVar_row w g t t cs fr _ hg hu rfl hi
theorem storeAt_row {P : Program} {w : World} {g : Nat} {t : TypeId} {old cs : Array Value} (hg : w.heap[g]? = some (.cells old t (0, 0))) (hi : (P.info? t).map (·.size) = some cs.size) (ho : old.size = cs.size) (h1 : cs.all (·.oneCell') = true) :
    (Instr.storeAt t (.pointer (some ⟨g, 0, none⟩)) (.agg cs)).run P w = .ok () (w.setRow g cs) := by
  simp only [Instr.storeAt, Instr.sureAddr, Sem.run_bind, Sem.run_pure, Result.andThen]
  exact run_storeVar_row w g t t old cs hg hi ho h1
/-- Cell j of the sixteen branches. -/
def brN (j : Nat) : Nat := if j % 4 = 0 then j / 4 / 2 else if j % 4 = 1 then j / 4 % 2 else if j % 4 = 2 then parS7 (j / 4 / 2) (j / 4 % 2) else nextS (j / 4 / 2) (j / 4 % 2)
/-- The first k branches; zeros behind them. -/
def brUp (k : Nat) : Array Value := ((List.range 64).map fun j => Value.int .i64 ((if j < 4 * k then brN j else 0 : Nat) : Int)).toArray
def brA : Array Value := brUp 16
theorem brUp_size (k : Nat) : (brUp k).size = 64 := by simp [brUp]
theorem brUp_get (k j : Nat) (hj : j < 64) : (brUp k)[j]? = some (.int .i64 ((if j < 4 * k then brN j else 0 : Nat) : Int)) := by simp [brUp, hj]
/-- Block B is an array of branches, the first k of which are known. -/
def BrAt (w : World) (B k : Nat) : Prop := w.heap[B]? = some (.cells (brUp k) 71)
section
variable {w w' : World} {B k : Nat}
theorem BrAt.cell (h : BrAt w B k) {j : Nat} (hj : j < 64) : w.cell? ⟨B, j, none⟩ = some (.int .i64 ((if j < 4 * k then brN j else 0 : Nat) : Int)) := by
  have h' : w.heap[B]? = some (.cells (brUp k) 71) := h
  rw [cell_of_row _ _ j _ _ _ h', brUp_get k j hj]
theorem BrAt.frozen (h : BrAt w B k) (j : Nat) : w.frozen? ⟨B, j, none⟩ = false := by simp [World.frozen?, show w.heap[B]? = _ from h]
theorem BrAt.lt (h : BrAt w B k) : B < w.heap.size := (Array.getElem?_eq_some_iff.1 h).1
theorem BrAt.block (h : BrAt w B k) (hb : w'.heap[B]? = w.heap[B]?) : BrAt w' B k := hb.trans h
theorem BrAt.put4 (h : BrAt w B k) : BrAt ((((w.setCell ⟨B, 4 * k, none⟩ (.int .i64 ((k / 2 : Nat) : Int))).setCell ⟨B, 4 * k + 1, none⟩ (.int .i64 ((k % 2 : Nat) : Int))).setCell ⟨B, 4 * k + 2, none⟩ (.int .i64 ((parS7 (k / 2) (k % 2) : Nat) : Int))).setCell ⟨B, 4 * k + 3, none⟩ (.int .i64 ((nextS (k / 2) (k % 2) : Nat) : Int))) B (k + 1) := by
  refine (arr_set (arr_set (arr_set (arr_set h)))).trans ?_
  congr 2
  apply Array.ext_getElem?
  intro j
  rcases Nat.lt_or_ge j 64 with hj | hj
  · rw [brUp_get _ _ hj]
    simp only [Array.getElem?_setIfInBounds, Array.size_setIfInBounds, brUp_size]
    rw [brUp_get _ _ hj]
    by_cases e3 : 4 * k + 3 = j
    · subst e3
      rw [if_pos rfl, if_pos (by omega), if_pos (by omega), brN, if_neg (by omega), if_neg (by omega), if_neg (by omega), show (4 * k + 3) / 4 = k by omega]
    · rw [if_neg e3]
      by_cases e2 : 4 * k + 2 = j
      · subst e2
        rw [if_pos rfl, if_pos (by omega), if_pos (by omega), brN, if_neg (by omega), if_neg (by omega), if_pos (by omega), show (4 * k + 2) / 4 = k by omega]
      · rw [if_neg e2]
        by_cases e1 : 4 * k + 1 = j
        · subst e1
          rw [if_pos rfl, if_pos (by omega), if_pos (by omega), brN, if_neg (by omega), if_pos (by omega), show (4 * k + 1) / 4 = k by omega]
        · rw [if_neg e1]
          by_cases e0 : 4 * k = j
          · subst e0
            rw [if_pos rfl, if_pos (by omega), if_pos (by omega), brN, if_pos (by omega), show (4 * k) / 4 = k by omega]
          · rw [if_neg e0]
            by_cases hl : j < 4 * k
            · rw [if_pos hl, if_pos (by omega)]
            · rw [if_neg hl, if_neg (by omega)]
  · rw [Array.getElem?_eq_none (by simp [brUp_size]; omega), Array.getElem?_eq_none (by simp [brUp_size]; omega)]
theorem BrAt.put (h : BrAt w B k) : BrAt ((((w.setCell ⟨B, k * 4, none⟩ (.int .i64 ((k / 2 : Nat) : Int))).setCell ⟨B, k * 4 + 1, none⟩ (.int .i64 ((k % 2 : Nat) : Int))).setCell ⟨B, k * 4 + 2, none⟩ (.int .i64 ((parS7 (k / 2) (k % 2) : Nat) : Int))).setCell ⟨B, k * 4 + 3, none⟩ (.int .i64 ((nextS (k / 2) (k % 2) : Nat) : Int))) B (k + 1) := by
  rw [Nat.mul_comm k 4]; exact h.put4
theorem BrAt.other (h : BrAt w B k) {p : Addr} (hp : p.block ≠ B) (u : Value) : BrAt (w.setCell p u) B k := h.block (Below.heap_setCell _ _ _ _ (Ne.symm hp))
theorem BrAt.new (w : World) : BrAt (w.alloc (.cells (brUp 0) 71)) w.heap.size 0 := World.alloc_heap_new w _
end
/-- Block B holds the four cells. -/
def Four (w : World) (B : Nat) (t : TypeId) (a b c d : Value) : Prop := w.heap[B]? = some (.cells #[a, b, c, d] t)
section
variable {w w' : World} {B : Nat} {t : TypeId} {a b c d : Value}
theorem Four.new (w : World) (t : TypeId) (a b c d : Value) : Four (w.alloc (.cells #[a, b, c, d] t)) w.heap.size t a b c d := World.alloc_heap_new w _
theorem Four.cell (h : Four w B t a b c d) (j : Nat) : w.cell? ⟨B, j, none⟩ = #[a, b, c, d][j]? := by simp [World.cell?, show w.heap[B]? = _ from h]
theorem Four.frozen (h : Four w B t a b c d) (j : Nat) : w.frozen? ⟨B, j, none⟩ = false := by simp [World.frozen?, show w.heap[B]? = _ from h]
theorem Four.lt (h : Four w B t a b c d) : B < w.heap.size := (Array.getElem?_eq_some_iff.1 h).1
theorem Four.block (h : Four w B t a b c d) (hb : w'.heap[B]? = w.heap[B]?) : Four w' B t a b c d := hb.trans h
theorem Four.set2 (h : Four w B t a b c d) (u : Value) : Four (w.setCell ⟨B, 2, none⟩ u) B t a b u d := arr_set h
theorem Four.set3 (h : Four w B t a b c d) (u : Value) : Four (w.setCell ⟨B, 3, none⟩ u) B t a b c u := arr_set h
end
theorem br_info : (Try.prog.info? 71).map (·.size) = some brA.size := by
  rw [brA, brUp_size]
  kernel_rfl
theorem brA_one : brA.all (·.oneCell') = true := by
  rw [brA, brUp, List.all_toArray, List.all_map, List.all_eq_true]
  intro j _
  rfl
theorem branches_results {W : World} {tmps : Array Value} {B : Nat} (h0 : tmps.getD 0 undef = .pointer (some ⟨B, 0, none⟩)) (hB : W.heap[B]? = some (.cells brA 71)) :
    (results Try.f36 tmps).run Try.prog W = .ok (.agg brA) W := by
  have hl := run_loadVar_row (P := Try.prog) W B 71 71 brA (0, 0) _ hB Try.underlying71 rfl br_info
  simp only [Array.getD_eq_getD_getElem?] at h0
  simp [results, Try.results36, h0, asAddr, hl]
set_option maxRecDepth 100000 in
set_option maxHeartbeats 4000000 in
theorem branches_any {w : World} : Calls Try.prog 36 #[] w fun e w' => e = .returned (.agg brA) ∧ Below w.heap.size w w' := by
  go_enter Try.func36, Try.ntmps36
  go_wp2_with fail
  go_loopw [4] (fun i W => ∃ k : Nat, k ≤ 16 ∧ i = .int .i64 (k : Int) ∧ Hid (BrAt W w.heap.size 0 ∧ BrAt W (w.heap.size + 1) k ∧ Below w.heap.size w W)) (fun i _ => 16 - (intOf i).toNat)
  case atStart =>
    refine ⟨0, by decide, rfl, Lib.hid ⟨?_, ?_, below_two _ _⟩⟩
    · exact (BrAt.new w).block (Below.heap_alloc _ _ _ (by simp))
    · have := BrAt.new (w.alloc (.cells (brUp 0) 71))
      rw [World.size_alloc] at this
      exact this
  case round =>
    obtain ⟨k, hk, rfl, hH⟩ := hrel
    by_cases hlt : k < 16
    · have hS := Lib.hid (fun (v : World) => Step_ok (s := k / 2) (u := k % 2) (w := v) (by omega) (by omega))
      have hP := Lib.hid (fun (v : World) (h : BrAt v (w.heap.size + 1) k) => h.put)
      have hq1 : (k : Int) / 2 = ((k / 2 : Nat) : Int) := rfl
      have hq2 : (k : Int) % 2 = ((k % 2 : Nat) : Int) := rfl
      have hk3 : (k : Int) < 16 := by omega
      have hlw := hH.out.2.1.lt
      generalize parS7 (k / 2) (k % 2) = p at *
      generalize nextS (k / 2) (k % 2) = nx at *
      generalize k / 2 = a at *
      generalize k % 2 = b at *
      have f0 := Four.new wr 50 (.int .i64 (a : Int)) (.int .i64 (b : Int)) (.int .i64 0) (.int .i64 0)
      have c0 := f0.cell 0
      have c1 := f0.cell 1
      have hb0 := hH.out.2.2.alloc hH.out.2.2.size (.cells #[.int .i64 (a : Int), .int .i64 (b : Int), .int .i64 0, .int .i64 0] 50)
      have a0 := hH.out.1.block (Below.heap_alloc wr (.cells #[.int .i64 (a : Int), .int .i64 (b : Int), .int .i64 0, .int .i64 0] 50) _ hH.out.1.lt)
      have a1 := hH.out.2.1.block (Below.heap_alloc wr (.cells #[.int .i64 (a : Int), .int .i64 (b : Int), .int .i64 0, .int .i64 0] 50) _ hH.out.2.1.lt)
      have hs0 : (wr.alloc (.cells #[.int .i64 (a : Int), .int .i64 (b : Int), .int .i64 0, .int .i64 0] 50)).heap.size = wr.heap.size + 1 := by simp
      clear hH
      go_wp2_with fail
      generalize wr.alloc (.cells #[.int .i64 (a : Int), .int .i64 (b : Int), .int .i64 0, .int .i64 0] 50) = W1 at *
      refine (hS.out _).mono ?_
      rintro e w2 ⟨rfl, hb2⟩
      rw [hs0] at hb2
      have f2 := f0.block (hb2.block _ (Nat.lt_succ_self _))
      have a2 := a0.block (hb2.block _ (by have := a0.lt; omega))
      have a3 := a1.block (hb2.block _ (by have := a1.lt; omega))
      have hb3 := hb0.trans (hb2.mono (by have := hb0.size; omega))
      have g0 := f2.cell 0
      have g1 := f2.cell 1
      have g2 := f2.cell 2
      have g3 := f2.cell 3
      have hz := f2.frozen
      have z2 := hz 2
      have z3 := hz 3
      have m0 := a3.cell (j := k * 4) (by omega)
      have m1 := a3.cell (j := k * 4 + 1) (by omega)
      have m2 := a3.cell (j := k * 4 + 2) (by omega)
      have m3 := a3.cell (j := k * 4 + 3) (by omega)
      rw [if_neg (by omega)] at m0 m1 m2 m3
      have hy := a3.frozen
      have y0 := hy (k * 4)
      have y1 := hy (k * 4 + 1)
      have y2 := hy (k * 4 + 2)
      have y3 := hy (k * 4 + 3)
      have hne : ¬ wr.heap.size = w.heap.size + 1 := by omega
      have hne2 : ¬ w.heap.size + 1 = wr.heap.size := by omega
      have HF : Hid (BrAt ((w2.setCell ⟨wr.heap.size, 3, none⟩ (.int .i64 (nx : Int))).setCell ⟨wr.heap.size, 2, none⟩ (.int .i64 (p : Int))) w.heap.size 0 ∧ BrAt ((w2.setCell ⟨wr.heap.size, 3, none⟩ (.int .i64 (nx : Int))).setCell ⟨wr.heap.size, 2, none⟩ (.int .i64 (p : Int))) (w.heap.size + 1) k ∧ Below w.heap.size w ((w2.setCell ⟨wr.heap.size, 3, none⟩ (.int .i64 (nx : Int))).setCell ⟨wr.heap.size, 2, none⟩ (.int .i64 (p : Int)))) :=
        Lib.hid ⟨(a2.other (by dsimp only; omega) _).other (by dsimp only; omega) _, (a3.other (by dsimp only; omega) _).other (by dsimp only; omega) _, (hb3.setCell (by dsimp only; omega) _).setCell (by dsimp only; omega) _⟩
      clear hS f0 c0 c1 hb0 a0 a1 hb2 hs0 hz a2 a3 hb3 f2 hy
      go_wp2_with fail
      generalize (w2.setCell ⟨wr.heap.size, 3, none⟩ (.int .i64 (nx : Int))).setCell ⟨wr.heap.size, 2, none⟩ (.int .i64 (p : Int)) = W2 at *
      have HF2 := Lib.hid (And.intro (((((HF.out.1.other (p := ⟨w.heap.size + 1, k * 4, none⟩) (by dsimp only; omega) (.int .i64 (a : Int))).other (p := ⟨w.heap.size + 1, k * 4 + 1, none⟩) (by dsimp only; omega) (.int .i64 (b : Int))).other (p := ⟨w.heap.size + 1, k * 4 + 2, none⟩) (by dsimp only; omega) (.int .i64 (p : Int))).other (p := ⟨w.heap.size + 1, k * 4 + 3, none⟩) (by dsimp only; omega) (.int .i64 (nx : Int))))
        (And.intro (hP.out _ HF.out.2.1) ((((HF.out.2.2.setCell (p := ⟨w.heap.size + 1, k * 4, none⟩) (by dsimp only; omega) (.int .i64 (a : Int))).setCell (p := ⟨w.heap.size + 1, k * 4 + 1, none⟩) (by dsimp only; omega) (.int .i64 (b : Int))).setCell (p := ⟨w.heap.size + 1, k * 4 + 2, none⟩) (by dsimp only; omega) (.int .i64 (p : Int))).setCell (p := ⟨w.heap.size + 1, k * 4 + 3, none⟩) (by dsimp only; omega) (.int .i64 (nx : Int)))))
      go_roundw
      case rel => exact ⟨k + 1, by omega, by go_num, HF2⟩
      case measure => simp [intOf]; omega
    · obtain rfl : k = 16 := by omega
      have A0 := hH.out.1
      have A1 := hH.out.2.1
      have hb := hH.out.2.2
      go_upto_region 9 with fail
      refine wp_region_lit ?_
      refine wpList_load_run rfl 71 (.tmp 1) rfl rfl (loadAt_row (cs := brA) A1 Try.underlying71 br_info) ?_
      refine wpList_store_run rfl 71 (.tmp 0) (.tmp 27) rfl rfl rfl (storeAt_row (cs := brA) A0 br_info (by rw [brUp_size, brA, brUp_size]) brA_one) ?_
      refine wpList_nil ?_
      have hr : (wr.setRow w.heap.size brA).heap[w.heap.size]? = some (.cells brA 71) := setRow_heap wr w.heap.size _ brA 71 _ A0
      have hbr : Below w.heap.size w (wr.setRow w.heap.size brA) := hb.trans ⟨rfl, rfl, rfl, by simp [World.setRow], fun k hk => setRow_other wr w.heap.size k brA (by omega)⟩
      clear A0 A1 hb hH
      generalize wr.setRow w.heap.size brA = W2 at *
      go_wp2_with fail
      refine bodyPost_ret (branches_results rfl hr) rfl ⟨rfl, hbr⟩
end Go.Proofs.Ytjehfdnkdfmmbaa
