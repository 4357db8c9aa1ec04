/-
  Steps; free, Free.
-/
import Derived.Test.YtfplklbicimhkaaDoorFg
import Derived.Test.YtfplklbicimhkaaDoorQr
namespace Go.Proofs.YtfplklbicimhkaaDoor
open Go.RowKit Go.Shelf BigFrame

attribute [local go_sem] Oper.semAt_some

theorem stepsOf_ex (k : Int) : ∃ (a b c : Nat) (p : Nat → Nat), ofV k = parV a b c ∧ StepsOf a b c p ∧ (orderS k).1 = (List.range a).map (fun i => ((p i : Nat) : Int)) := by
  by_cases h : isB k = true
  · obtain ⟨m, rfl, hs⟩ := isB_ex h
    rw [ofV_size hs, orderS_size hs]
    exact ⟨m, _, _, piK m, rfl, StepsOf.size hs, rfl⟩
  · have h := Bool.eq_false_iff.2 h
    rw [ofV_no h, orderS_no h]
    exact ⟨0, 0, 0, fun i => i, rfl, StepsOf.none_, rfl⟩
set_option maxHeartbeats 1000000 in
theorem Steps_any {k : Int} {a b c : Nat} {w : World} (hK : Kinds w) (h : ofV k = parV a b c) :
    Calls Tryd.prog 26 #[.int .i64 k] w fun e w' => ∃ B, e = .returned (.func (.func 47) #[] #[.pointer (some ⟨B, 0, none⟩)]) ∧ w.heap.size ≤ B ∧
      Three w' B 58 (.int .i64 (a : Int)) (.int .i64 (b : Int)) (.int .i64 (c : Int)) ∧ Below w.heap.size w w' := by
  have hO := Lib.hid (of_plain (k := k) hK)
  have hst := Lib.hid (fun (u : World) => steps_any (a := a) (b := b) (c := c) (w := u))
  rw [h] at hO
  unfold parV parA at hO hst
  clear h
  go_enter Tryd.func26, Tryd.ntmps26
  go_wp2_with fail
  refine hO.out.mono ?_
  rintro e w1 ⟨rfl, hb1⟩
  have hT := Three.new w1 58 (.int .i64 (a : Int)) (.int .i64 (b : Int)) (.int .i64 (c : Int))
  have c0 := hT.cell0
  have c1 := hT.cell1
  have c2 := hT.cell2
  have hb2 := hb1.alloc hb1.size (.cells #[.int .i64 (a : Int), .int .i64 (b : Int), .int .i64 (c : Int)] 58)
  clear hb1 hO hT
  go_wp2_with fail
  generalize w1.alloc (.cells #[.int .i64 (a : Int), .int .i64 (b : Int), .int .i64 (c : Int)] 58) = W at *
  refine (hst.out _).mono ?_
  rintro e w2 ⟨rfl, rfl⟩
  clear c0 c1 c2
  have hb3 := Lib.hid (hb2.alloc hb2.size (.cells #[.int .i64 (a : Int), .int .i64 (b : Int), .int .i64 (c : Int)] 58))
  have hs := hb2.size
  go_wp2_with fail
  go_ret
  exact ⟨_, rfl, hs, Three.new W _ _ _ _, hb3.out⟩
theorem Tryd.info_bool : (Tryd.prog.info? 4).map (fun i => (i.zero, i.size, i.bytes)) = some (some (.bool false), 1, 1) := by kernel_rfl
theorem make_bools (n : Nat) (hn : n ≤ 1000000) (u : World) : (Instr.makeSlice 68 (.int .i64 n) (.int .i64 n)).run Tryd.prog u =
    .ok (.slice (some ⟨u.heap.size, 0, none⟩) n n) (u.alloc (.cells (madeCells #[.bool false] n) 4)) := by
  obtain ⟨i0, hi, hz0, hz1, hz2⟩ := info_q Tryd.info_bool
  have h := run_make (P := Tryd.prog) u 68 4 i0 (.bool false) Tryd.underlying68 hi hz0 .i64 .i64 (n : Int) (n : Int) (by omega) (by omega) (by rw [hz2]; omega) (by omega)
  simpa [hz1, Value.cells] using h
/-- n times false, in which for each i below j the element f i has become true. -/
def putB (f : Nat → Nat) (n : Nat) : Nat → List Value
  | 0 => List.replicate n (.bool false)
  | j + 1 => (putB f n j).set (f j) (.bool true)
theorem putB_length {f : Nat → Nat} {n : Nat} : ∀ j, (putB f n j).length = n
  | 0 => by simp [putB]
  | j + 1 => by rw [putB, List.length_set, putB_length j]
theorem putB_no {f : Nat → Nat} {n x : Nat} (hx : x < n) : ∀ j, (∀ i, i < j → f i ≠ x) → (putB f n j)[x]? = some (.bool false)
  | 0, _ => by
    unfold putB
    rw [List.getElem?_replicate, if_pos hx]
  | j + 1, h => by
    rw [putB, List.getElem?_set_ne (h j (Nat.lt_succ_self j))]
    exact putB_no hx j (fun i hi => h i (by omega))
theorem own_falses {w : World} {B n : Nat} (hB : B ≤ w.heap.size) (hn : n ≤ 1000000) : (w.alloc (.cells (madeCells #[.bool false] n) 4)).ownsRow B 4 1 (.slice (some ⟨w.heap.size, 0, none⟩) n n) n (List.replicate n (.bool false)) := by
  refine ⟨by simp, .inr ⟨w.heap.size, n, madeCells #[.bool false] n, rfl, hB, heap_alloc_new w _, Nat.le_refl _, by unfold maxLen; omega, by simp [madeCells], ?_⟩⟩
  rw [toList_madeCells_one, Nat.mul_one, List.take_replicate, Nat.min_self]
/-- Where free's loop is. -/
structure FrI (w : World) (S : Nat) (k v n f1 f2 : Nat) (f : Nat → Nat) (j : Nat) (W : World) : Prop where
  le : j ≤ k
  win : Boxed W (S + 1) 3 (.int .i64 (v : Int))
  len : Boxed W (S + 2) 3 (.int .i64 (n : Int))
  box : Boxed W (S + 4) 68 (.slice (some ⟨S + 3, 0, none⟩) k k)
  ok : Boxed W (S + 5) 4 (.bool true)
  perm : Three W (S + 6) 58 (.int .i64 (k : Int)) (.int .i64 (f1 : Int)) (.int .i64 (f2 : Int))
  row : W.ownsRow S 4 1 (.slice (some ⟨S + 3, 0, none⟩) k k) k (putB f k j)
  low : Below w.heap.size w W
section
variable {w : World} {S : Nat} {k v n f1 f2 : Nat} {f : Nat → Nat}
theorem FrI.own {N : Nat} (hN : w.heap.size ≤ N) : OwnFrom N (FrI w S k v n f1 f2 f) := by
  intro j W W' row h hg hr
  have hr' : ∀ r, row = some r → ∃ o : Obj, W.heap[r]? = some o ∧ o.isCells = false := fun r e => (hr r e).2
  obtain ⟨a, fr, ha⟩ := ownsRow_cells h.row
  refine ⟨h.le, (cells_kept h.win hg hr').trans h.win, (cells_kept h.len hg hr').trans h.len, (cells_kept h.box hg hr').trans h.box, (cells_kept h.ok hg hr').trans h.ok, h.perm.block (cells_kept h.perm hg hr'), ownsRow_block h.row (fun b hb => ?_), h.low.grown hg h.low.size (fun r e => Nat.le_trans hN (hr r e).1)⟩
  simp only [Value.ownBlock, Option.some.injEq] at hb
  subst hb
  exact cells_kept ha hg hr'
theorem FrI.drewN {j : Nat} {W : World} (h : FrI w S k v n f1 f2 f j W) (m : Nat) : FrI w S k v n f1 f2 f j (W.drewN m) :=
  ⟨h.le, h.win, h.len, h.box, h.ok, h.perm, h.row, ⟨h.low.os, h.low.tape, h.low.output, h.low.size, h.low.block⟩⟩
theorem FrI.step {j : Nat} {W : World} (h : FrI w S k v n f1 f2 f j W) (hj : j < k) (hS : w.heap.size ≤ S) :
    FrI w S k v n f1 f2 f (j + 1) (W.setCell ⟨S + 3, f j, none⟩ (.bool true)) := by
  have hx : ∀ i, i ≠ 3 → (W.setCell ⟨S + 3, f j, none⟩ (.bool true)).heap[S + i]? = W.heap[S + i]? := fun i hi => Below.heap_setCell _ _ _ _ (show S + i ≠ S + 3 by omega)
  refine ⟨hj, (hx 1 (by decide)).trans h.win, (hx 2 (by decide)).trans h.len, (hx 4 (by decide)).trans h.box, (hx 5 (by decide)).trans h.ok, h.perm.block (hx 6 (by decide)), ?_, h.low.setCell (p := ⟨S + 3, f j, none⟩) (show w.heap.size ≤ S + 3 by omega) _⟩
  rw [putB]
  exact (World.ownsRow.stored h.row (f j) (.bool true)).1
end
theorem heap_old {w : World} {o x : Obj} {j : Nat} (h : w.heap[j]? = some x) : (w.alloc o).heap[j]? = some x := (Below.heap_alloc _ _ _ (Array.getElem?_eq_some_iff.1 h).1).trans h
theorem heap_new_at (w : World) (o : Obj) (s : Nat) (hs : w.heap.size = s) : (w.alloc o).heap[s]? = some o := by
  subst hs
  exact World.alloc_heap_new w o
set_option maxRecDepth 100000 in
set_option maxHeartbeats 8000000 in
theorem free_in {d : Nat} (hd : 6 ≤ d) {k v n : Nat} {w : World} (hs : IsSize k) (hv : 1 ≤ v) (hn : k = v * n) :
    CallsIn Fence.wide d Tryd.prog 43 #[parV k (f1N k) (f2N k), .int .i64 (v : Int)] w fun e w' => e = .returned (.bool true) ∧ Below w.heap.size w w' := by
  have hst := Lib.hid (fun (u : World) => steps_any (a := k) (b := f1N k) (c := f2N k) (w := u))
  have hSt := StepsOf.size hs
  have hk := size_le hs
  have hmk := make_bools k (by omega)
  have hn0 : 1 ≤ n := by
    rcases Nat.eq_zero_or_pos n with h | h
    · subst h; simp at hn; omega
    · exact h
  have hnk : n ≤ k := by rw [hn]; exact Nat.le_mul_of_pos_left n hv
  have hvk : v ≤ k := by rw [hn]; exact Nat.le_mul_of_pos_right v hn0
  have hdiv : (k : Int) / (v : Int) = (n : Int) := by
    rw [hn]
    show (((v * n) / v : Nat) : Int) = _
    rw [Nat.mul_div_cancel_left n hv]
  have hv0 : (v : Int) ≠ 0 := by omega
  have hn1 : (n : Int) ≠ 0 := by omega
  have HWL : Hid (∀ i, i < k → i % n * v + piK k i / n < k) := Lib.hid (fun i hi => window_lt hn hi (piK_lt hs i))
  have HWI : Hid (∀ i j, i < k → j < k → i % n * v + piK k i / n = j % n * v + piK k j / n → i = j) := Lib.hid (fun i j hi hj e => window_inj (qpOk_size hs) hn hi hj e)
  have HPL := Lib.hid (piK_lt hs)
  unfold parV at hst
  unfold parA at hst
  unfold parV parA
  generalize f1N k = f1 at *
  generalize f2N k = f2 at *
  clear hs hn
  refine callsIn_of_wp_marks Tryd.func43 rfl trivial ?_ rfl
  simp only [Tryd.ntmps43, List.size_toArray, List.length_cons, List.length_nil, Nat.reduceAdd, Nat.reduceSub, Array.replicate_succ, Array.replicate_zero, List.push_toArray, List.append_toArray, List.nil_append, List.cons_append]
  gi_wp2
  refine wpIn_wide_scope ?_
  have hT0 := (Three.new w 58 (.int .i64 (k : Int)) (.int .i64 (f1 : Int)) (.int .i64 (f2 : Int))).alloc (.cells #[.int .i64 (v : Int)] 3)
  have c0 := hT0.cell0
  gi_wp2
  refine wpIn_label ?_
  have g0 : ((((((w.alloc (.cells #[.int .i64 (k : Int), .int .i64 (f1 : Int), .int .i64 (f2 : Int)] 58)).alloc (.cells #[.int .i64 (v : Int)] 3)).alloc (.cells #[.int .i64 (n : Int)] 3)).alloc (.cells (madeCells #[.bool false] k) 4)).alloc (.cells #[.slice (some ⟨w.heap.size + 1 + 1 + 1, 0, none⟩) k k] 68)).alloc (.cells #[.bool true] 4)).heap[w.heap.size]? = some (.cells #[.int .i64 (k : Int), .int .i64 (f1 : Int), .int .i64 (f2 : Int)] 58) := heap_old (heap_old (heap_old (heap_old (heap_old (World.alloc_heap_new w _)))))
  have g1 : ((((((w.alloc (.cells #[.int .i64 (k : Int), .int .i64 (f1 : Int), .int .i64 (f2 : Int)] 58)).alloc (.cells #[.int .i64 (v : Int)] 3)).alloc (.cells #[.int .i64 (n : Int)] 3)).alloc (.cells (madeCells #[.bool false] k) 4)).alloc (.cells #[.slice (some ⟨w.heap.size + 1 + 1 + 1, 0, none⟩) k k] 68)).alloc (.cells #[.bool true] 4)).heap[w.heap.size + 1]? = some (.cells #[.int .i64 (v : Int)] 3) := heap_old (heap_old (heap_old (heap_old (heap_new_at _ _ _ (by simp)))))
  have g2 : ((((((w.alloc (.cells #[.int .i64 (k : Int), .int .i64 (f1 : Int), .int .i64 (f2 : Int)] 58)).alloc (.cells #[.int .i64 (v : Int)] 3)).alloc (.cells #[.int .i64 (n : Int)] 3)).alloc (.cells (madeCells #[.bool false] k) 4)).alloc (.cells #[.slice (some ⟨w.heap.size + 1 + 1 + 1, 0, none⟩) k k] 68)).alloc (.cells #[.bool true] 4)).heap[w.heap.size + 2]? = some (.cells #[.int .i64 (n : Int)] 3) := heap_old (heap_old (heap_old (heap_new_at _ _ _ (by simp))))
  have g4 : ((((((w.alloc (.cells #[.int .i64 (k : Int), .int .i64 (f1 : Int), .int .i64 (f2 : Int)] 58)).alloc (.cells #[.int .i64 (v : Int)] 3)).alloc (.cells #[.int .i64 (n : Int)] 3)).alloc (.cells (madeCells #[.bool false] k) 4)).alloc (.cells #[.slice (some ⟨w.heap.size + 1 + 1 + 1, 0, none⟩) k k] 68)).alloc (.cells #[.bool true] 4)).heap[w.heap.size + 4]? = some (.cells #[.slice (some ⟨w.heap.size + 1 + 1 + 1, 0, none⟩) k k] 68) := heap_old (heap_new_at _ _ _ (by simp))
  have g5 : ((((((w.alloc (.cells #[.int .i64 (k : Int), .int .i64 (f1 : Int), .int .i64 (f2 : Int)] 58)).alloc (.cells #[.int .i64 (v : Int)] 3)).alloc (.cells #[.int .i64 (n : Int)] 3)).alloc (.cells (madeCells #[.bool false] k) 4)).alloc (.cells #[.slice (some ⟨w.heap.size + 1 + 1 + 1, 0, none⟩) k k] 68)).alloc (.cells #[.bool true] 4)).heap[w.heap.size + 5]? = some (.cells #[.bool true] 4) := heap_new_at _ _ _ (by simp)
  have hO0 := own_falses (w := ((w.alloc (.cells #[.int .i64 (k : Int), .int .i64 (f1 : Int), .int .i64 (f2 : Int)] 58)).alloc (.cells #[.int .i64 (v : Int)] 3)).alloc (.cells #[.int .i64 (n : Int)] 3)) (B := w.heap.size) (n := k) (by simp; omega) (by omega)
  have hO := (hO0.alloc (.cells #[.slice (some ⟨w.heap.size + 1 + 1 + 1, 0, none⟩) k k] 68)).alloc (.cells #[.bool true] 4)
  have hb0 : Below w.heap.size w ((((((w.alloc (.cells #[.int .i64 (k : Int), .int .i64 (f1 : Int), .int .i64 (f2 : Int)] 58)).alloc (.cells #[.int .i64 (v : Int)] 3)).alloc (.cells #[.int .i64 (n : Int)] 3)).alloc (.cells (madeCells #[.bool false] k) 4)).alloc (.cells #[.slice (some ⟨w.heap.size + 1 + 1 + 1, 0, none⟩) k k] 68)).alloc (.cells #[.bool true] 4)) := (((((((Below.refl w.heap.size w).alloc (Nat.le_refl _) _).alloc (by simp) _).alloc (by simp; omega) _).alloc (by simp; omega) _).alloc (by simp; omega) _).alloc (by simp; omega) _)
  have hs0 : ((((((w.alloc (.cells #[.int .i64 (k : Int), .int .i64 (f1 : Int), .int .i64 (f2 : Int)] 58)).alloc (.cells #[.int .i64 (v : Int)] 3)).alloc (.cells #[.int .i64 (n : Int)] 3)).alloc (.cells (madeCells #[.bool false] k) 4)).alloc (.cells #[.slice (some ⟨w.heap.size + 1 + 1 + 1, 0, none⟩) k k] 68)).alloc (.cells #[.bool true] 4)).heap.size = w.heap.size + 6 := by simp
  clear hT0 c0 hO0 hmk
  rw [World.size_alloc, World.size_alloc, World.size_alloc] at hO
  generalize (((((w.alloc (.cells #[.int .i64 (k : Int), .int .i64 (f1 : Int), .int .i64 (f2 : Int)] 58)).alloc (.cells #[.int .i64 (v : Int)] 3)).alloc (.cells #[.int .i64 (n : Int)] 3)).alloc (.cells (madeCells #[.bool false] k) 4)).alloc (.cells #[.slice (some ⟨w.heap.size + 1 + 1 + 1, 0, none⟩) k k] 68)).alloc (.cells #[.bool true] 4) = W6 at *
  simp only [Nat.add_assoc, Nat.reduceAdd] at g4 hO ⊢
  have hT0 : Three W6 w.heap.size 58 (.int .i64 (k : Int)) (.int .i64 (f1 : Int)) (.int .i64 (f2 : Int)) := g0
  have c0 := hT0.cell0
  have c1 := hT0.cell1
  have c2 := hT0.cell2
  gi_wp2
  refine ⟨trivial, fun _ => by omega, ?_⟩
  refine (callsIn_wide.2 (hst.out _)).mono ?_
  rintro e w7 ⟨rfl, rfl⟩
  have hT7 := Three.new W6 58 (.int .i64 (k : Int)) (.int .i64 (f1 : Int)) (.int .i64 (f2 : Int))
  have b1 : Boxed W6 (w.heap.size + 1) 3 (.int .i64 (v : Int)) := g1
  have b2 : Boxed W6 (w.heap.size + 2) 3 (.int .i64 (n : Int)) := g2
  have b4 : Boxed W6 (w.heap.size + 4) 68 (.slice (some ⟨w.heap.size + 3, 0, none⟩) k k) := g4
  have b5 : Boxed W6 (w.heap.size + 5) 4 (.bool true) := g5
  rw [hs0] at hT7 ⊢
  have hI0 : FrI w w.heap.size k v n f1 f2 (fun i => i % n * v + piK k i / n) 0 (W6.alloc (.cells #[.int .i64 (k : Int), .int .i64 (f1 : Int), .int .i64 (f2 : Int)] 58)) :=
    ⟨Nat.zero_le _, b1.alloc _, b2.alloc _, b4.alloc _, b5.alloc _, hT7, hO.alloc _, hb0.alloc hb0.size _⟩
  have hs7 : (W6.alloc (.cells #[.int .i64 (k : Int), .int .i64 (f1 : Int), .int .i64 (f2 : Int)] 58)).heap.size = w.heap.size + 7 := by simp [hs0]
  generalize W6.alloc (.cells #[.int .i64 (k : Int), .int .i64 (f1 : Int), .int .i64 (f2 : Int)] 58) = W7 at *
  clear hT7 b1 b2 b4 b5 g0 g1 g2 g4 g5 hO hb0 hs0 c0 c1 c2 hT0 hst
  gi_wp2
  refine wpIn_steps (n := d) (K := k) (f1 := f1) (f2 := f2) (p := piK k) (B := w.heap.size + 6) (by omega) hSt rfl rfl
    (FrI w w.heap.size k v n f1 f2 (fun i => i % n * v + piK k i / n)) (fun _ _ => False)
    (FrI.own (by omega)) (fun _ _ _ _ _ h => h.elim) (fun _ _ h => h.perm) hI0
    (fun j => { tmps := #[.agg #[.int .i64 (k : Int), .int .i64 (f1 : Int), .int .i64 (f2 : Int)], .int .i64 (v : Int), .pointer (some ⟨w.heap.size, 0, none⟩), .pointer (some ⟨w.heap.size + 1, 0, none⟩), .bool false, .pointer (some ⟨w.heap.size + 2, 0, none⟩), .pointer (some ⟨w.heap.size + 4, 0, none⟩), .pointer (some ⟨w.heap.size + 5, 0, none⟩), .int .i64 (j : Int), .int .i64 (piK k j : Nat), undef, .pointer (some ⟨w.heap.size, 0, none⟩), .pointer (some ⟨w.heap.size, 0, none⟩), .int .i64 (k : Int), .int .i64 (v : Int), .int .i64 (n : Int), .pointer (some ⟨w.heap.size, 0, none⟩), .pointer (some ⟨w.heap.size, 0, none⟩), .int .i64 (k : Int), .slice (some ⟨w.heap.size + 3, 0, none⟩) k k, .agg #[.int .i64 (k : Int), .int .i64 (f1 : Int), .int .i64 (f2 : Int)], .func (.func 47) #[] #[.pointer (some ⟨w.heap.size + 6, 0, none⟩)], .int .i64 (j : Int), .int .i64 (piK k j : Nat), undef, undef, undef, undef, undef, undef, undef, undef, undef, undef, undef, undef, undef, undef, undef, undef, undef, undef], defers := [] }) ?assign ?body ?done ?stop
  case assign =>
    intro lp j W K hK
    gi_wp2
    exact hK
  case body =>
    intro lp j W hj hI hbig
    have hpl := HPL.out j
    have hwl := HWL.out j hj
    have cW := hI.win.cell
    have cN := hI.len.cell
    have cB := hI.box.cell
    have m1 : (j : Int) % (n : Int) = ((j % n : Nat) : Int) := rfl
    have m2 : ((j % n : Nat) : Int) * (v : Int) = ((j % n * v : Nat) : Int) := rfl
    have m3 : ((piK k j : Nat) : Int) / (n : Int) = ((piK k j / n : Nat) : Int) := rfl
    have l1 : j % n ≤ 6144 := by have := Nat.mod_lt j hn0; omega
    have l2 : j % n * v ≤ 6144 := Nat.le_trans (Nat.le_add_right _ _) (Nat.le_trans (Nat.le_of_lt hwl) hk.2)
    have l3 : piK k j / n ≤ 6144 := Nat.le_trans (Nat.le_add_left _ _) (Nat.le_trans (Nat.le_of_lt hwl) hk.2)
    have cx : ∀ m, (W.drewN m).cell? ⟨w.heap.size + 3, j % n * v + piK k j / n, none⟩ = some (.bool false) := fun m => by
      rw [World.ownsRow.cellAt (hI.drewN m).row _ (by omega), putB_no hwl j (fun i hi e => by
        have := HWI.out i j (by omega) hj e
        omega)]
    have fx : ∀ m, (W.drewN m).frozen? ⟨w.heap.size + 3, j % n * v + piK k j / n, none⟩ = false := fun m => World.ownsRow.frozenAt (hI.drewN m).row _
    have HST := Lib.hid (fun m => (hI.drewN m).step hj (Nat.le_refl _))
    have CX := Lib.hid cx
    have FX := Lib.hid fx
    have CB := Lib.hid cB
    have HKF := Lib.hid (fun m => (KeepsOthers.setCell (W.drewN m) ⟨w.heap.size + 3, j % n * v + piK k j / n, none⟩ (.bool true)).from W7.heap.size)
    have m4 : ((j % n * v : Nat) : Int) + ((piK k j / n : Nat) : Int) = ((j % n * v + piK k j / n : Nat) : Int) := rfl
    have h40 : (0 : Int) ≤ ((j % n * v + piK k j / n : Nat) : Int) := Int.natCast_nonneg _
    have h41 : ((j % n * v + piK k j / n : Nat) : Int) < (k : Int) := Int.ofNat_lt.2 hwl
    generalize j % n * v + piK k j / n = wi at *
    generalize j % n * v = jv at *
    generalize j % n = jn at *
    generalize piK k j / n = pn at *
    generalize piK k j = pj at *
    clear hI hI0 cx fx cB hSt HWL HWI HPL
    gi_wp2
    refine wpIn_region_quiet_r ?_ (by kernel_rfl) (by kernel_rfl) ?_
    · simp
    repeat (gi_big_quiet_step (fail))
    refine wpQuietIn_nil ?_
    intro _ hw'
    obtain ⟨nq, hw''⟩ := hw'
    subst hw''
    have cB' : (W.drewN nq).cell? ⟨w.heap.size + 4, 0, none⟩ = some (.slice (some ⟨w.heap.size + 3, 0, none⟩) k k) := CB.out
    have cx' := CX.out nq
    have fx' := FX.out nq
    have hKF := HKF.out nq
    clear cW cN
    gi_wp2
    exact ⟨⟨hKF.size, hKF.same⟩, HST.out nq⟩
  case stop => intro D c W _ h; exact h.elim
  case done =>
    intro D W hD hI hKD
    have cL := hI.ok.cell
    gi_wp2
    refine leaves_marks (B := w.heap.size + 7) [D] W ⟨by simp, fun E hE => by obtain rfl := List.mem_singleton.1 hE; exact hKD⟩ (fun E hE => by obtain rfl := List.mem_singleton.1 hE; omega) (fun w2 h2 => ⟨_, results_tmp rfl _ _ _, rfl, hI.low.trans (h2.mono (by omega))⟩)
end Go.Proofs.YtfplklbicimhkaaDoor
