/-
  Slices that are made and filled; what a function hands back. Order.
-/
import Derived.Test.YtoegamlpgenfcaaDoorGn
import Derived.Test.YtoegamlpgenfcaaDoorGm
import Derived.Test.YtoegamlpgenfcaaDoorSm
import Derived.Test.YtoegamlpgenfcaaDoorItR
namespace Go.Proofs.YtoegamlpgenfcaaDoor
/-! ### Slices that are made and filled; what a function hands back. -/
section
open Go.RowKit Go.Shelf BigFrame

/-- A new row into which elements are put. -/
theorem putL_set {q : IntKind} {T : TypeId} {w : World} {B P n j : Nat} {f : Nat → Nat} {g : Nat → Int} (h : w.ownsRow B T 1 (.slice (some ⟨P, 0, none⟩) n n) n ((putL f g n j).map (Value.int q))) :
    (w.setCell ⟨P, f j, none⟩ (.int q (g j))).ownsRow B T 1 (.slice (some ⟨P, 0, none⟩) n n) n ((putL f g n (j + 1)).map (Value.int q)) := by
  rw [putL, List.map_set]
  exact (World.ownsRow.stored h (f j) (.int q (g j))).1
theorem putL_cell {q : IntKind} {T : TypeId} {w : World} {B P n j x : Nat} {f : Nat → Nat} {g : Nat → Int} (h : w.ownsRow B T 1 (.slice (some ⟨P, 0, none⟩) n n) n ((putL f g n j).map (Value.int q))) (hx : x < n) :
    ∃ v, w.cell? ⟨P, x, none⟩ = some (.int q v) := by
  rw [World.ownsRow.cellAt h x (by omega), List.getElem?_map, List.getElem?_eq_getElem (by rw [putL_length]; exact hx)]
  exact ⟨_, rfl⟩
/-- Where a loop that puts elements into a new slice is: blocks that stay as they are, the slice. -/
structure PutI (w : World) (D : Nat) (q : IntKind) (EL : TypeId) (n : Nat) (f : Nat → Nat) (g : Nat → Int) (Fx : List (Nat × Array Value × TypeId)) (j : Nat) (W : World) : Prop where
  le : j ≤ n
  fix : ∀ p ∈ Fx, W.heap[p.1]? = some (.cells p.2.1 p.2.2)
  row : W.ownsRow w.heap.size EL 1 (.slice (some ⟨D, 0, none⟩) n n) n ((putL f g n j).map (Value.int q))
  low : Below w.heap.size w W
section
variable {w : World} {D n : Nat} {q : IntKind} {EL : TypeId} {f : Nat → Nat} {g : Nat → Int} {Fx : List (Nat × Array Value × TypeId)}
theorem PutI.own {N : Nat} (hN : w.heap.size ≤ N) : OwnFrom N (PutI w D q EL n f g Fx) := by
  intro j W W' row h hg hr
  have hr' : ∀ r, row = some r → ∃ o : Obj, W.heap[r]? = some o ∧ o.isCells = false := fun r e => (hr r e).2
  obtain ⟨a, fr, ha⟩ := ownsRow_cells h.row
  refine ⟨h.le, fun p hp => (cells_kept (h.fix p hp) hg hr').trans (h.fix p hp), ownsRow_block h.row (fun b hb => ?_), h.low.grown hg h.low.size (fun r e => Nat.le_trans hN (hr r e).1)⟩
  simp only [Value.ownBlock, Option.some.injEq] at hb
  subst hb
  exact cells_kept ha hg hr'
theorem PutI.drewN {j : Nat} {W : World} (h : PutI w D q EL n f g Fx j W) (m : Nat) : PutI w D q EL n f g Fx j (W.drewN m) :=
  ⟨h.le, h.fix, h.row, ⟨h.low.os, h.low.tape, h.low.output, h.low.size, h.low.block⟩⟩
theorem PutI.step {j : Nat} {W : World} (h : PutI w D q EL n f g Fx j W) (hj : j < n) (hF : ∀ p ∈ Fx, p.1 ≠ D) (hD : w.heap.size ≤ D) :
    PutI w D q EL n f g Fx (j + 1) (W.setCell ⟨D, f j, none⟩ (.int q (g j))) :=
  ⟨hj, fun p hp => (Below.heap_setCell _ _ _ _ (hF p hp)).trans (h.fix p hp), putL_set h.row, h.low.setCell (p := ⟨D, f j, none⟩) hD _⟩
theorem PutI.three {j B : Nat} {W : World} {t : TypeId} {x y z : Value} (h : PutI w D q EL n f g Fx j W) (hm : (B, #[x, y, z], t) ∈ Fx) : Three W B t x y z := h.fix _ hm
theorem PutI.boxed {j B : Nat} {W : World} {t : TypeId} {x : Value} (h : PutI w D q EL n f g Fx j W) (hm : (B, #[x], t) ∈ Fx) : Boxed W B t x := h.fix _ hm
end
theorem max_ord {m N : Nat} : max ((m : Int) - (N : Int)) (-1) = ordE N m := ordE_max N m
end

/-! ### Order. -/
section
open Go.RowKit Go.Shelf BigFrame

attribute [local go_sem] Oper.semAt_some

theorem shiftV_ex (s : Bool) (X : Nat) : ∃ G lb, shiftV s X = .func (.func G) #[] lb := by cases s <;> exact ⟨_, _, rfl⟩
theorem orderS_ok {d : Nat} {st : Int} (h1 : 1 ≤ d) (h2 : d ≤ 6148) (hs : okS st = true) : orderS (d : Int) st = (orderI d (shB st), 0) := by
  unfold orderS
  rw [if_pos (by rw [hs]; simp [okD]; omega), Int.toNat_natCast]
theorem orderS_no {d st : Int} (h : (okD d && okS st) = false) : orderS d st = ([], 2) := by unfold orderS; rw [h]; rfl
theorem putL_order (d : Nat) (s : Bool) : putL (fun i => i) (fun k => ordE (32 * rowsN d - d) (idxN (rowsN d) s k)) (32 * rowsN d) (32 * rowsN d) = orderI d s := putL_id
set_option maxRecDepth 100000 in
set_option maxHeartbeats 8000000 in
theorem Order_in {n : Nat} (hn : 6 ≤ n) {d : Nat} {st : Int} {w : World} (hK : KCol w) (h1 : 1 ≤ d) (h2 : d ≤ 6148) (hs : okS st = true) :
    CallsIn Fence.wide n Tryd.prog 80 #[.int .i64 (d : Int), .int .i64 st] w (RetQ .i64 3 w (orderI d (shB st), 0)) := by
  have hO := Lib.hid (callsIn_wide (n := n - 1) |>.2 (of_ok (w := w) h1 h2 hs))
  have hr := rows_le h1 h2
  have hR : 1 ≤ rowsN d ∧ rowsN d ≤ 193 := ⟨hr.1, hr.2.1⟩
  have hP := putL_order d (shB st)
  have hlen := orderI_length d (shB st)
  have hok := shB st
  generalize orderI d (shB st) = res at *
  generalize shB st = s at *
  generalize hRR : rowsN d = R at *
  obtain ⟨N, hN⟩ : ∃ N, 32 * R - d = N := ⟨_, rfl⟩
  rw [hN] at hO hP
  have HP := Lib.hid hP
  have HL := Lib.hid hlen
  have hNle : N ≤ 32 := by omega
  obtain ⟨S, hS⟩ : ∃ S, 32 * R = S := ⟨_, rfl⟩
  have hSc : (32 : Int) * (R : Int) = (S : Int) := by omega
  rw [hS] at HP HL
  have hSle : S ≤ 6176 := by omega
  have hsz := Lib.hid (fun (X : Nat) (u : World) => callsIn_wide (n := n - 1) |>.2 (size_any (R := (R : Int)) (N := (N : Int)) (F := shiftV s X) (w := u) (by omega)))
  have hix := Lib.hid (fun (X : Nat) (u : World) => callsIn_wide (n := n - 1) |>.2 (indices_any (R := (R : Int)) (N := (N : Int)) (F := shiftV s X) (w := u)))
  rw [hSc] at hsz
  unfold matV at hO
  have hmk : ∀ u : World, (Instr.makeSlice 28 (.int .i64 S) (.int .i64 S)).run Tryd.prog u = .ok (.slice (some ⟨u.heap.size, 0, none⟩) S S) (u.alloc (.cells (madeCells #[.int .i64 0] S) 3)) := make_ints S (by omega)
  clear hP hlen hr hs hRR h1 h2 hok
  refine callsIn_of_wp_marks Tryd.func80 rfl trivial ?_ rfl
  simp only [Tryd.ntmps80, List.size_toArray, List.length_cons, List.length_nil, Nat.reduceAdd, Nat.reduceSub, Array.replicate_succ, Array.replicate_zero, List.push_toArray, List.append_toArray, List.nil_append, List.cons_append]
  gi_wp2
  refine ⟨trivial, fun _ => by omega, ?_⟩
  refine hO.out.mono ?_
  rintro e w1 ⟨⟨X, hXw, rfl, hX⟩, hb1⟩
  obtain ⟨G, lb, hV⟩ := shiftV_ex s X
  have hsz1 := Lib.hid (hsz.out X)
  have hix1 := Lib.hid (hix.out X)
  rw [hV] at hsz1 hix1 ⊢
  have HV := Lib.hid hV
  clear hV hsz hix hO
  have hT1 := Three.new w1 115 (.int .i64 (R : Int)) (.int .i64 (N : Int)) (.func (.func G) #[] lb)
  have hb2 := hb1.alloc hb1.size (.cells #[.int .i64 (R : Int), .int .i64 (N : Int), .func (.func G) #[] lb] 115)
  have hs2 : (w1.alloc (.cells #[.int .i64 (R : Int), .int .i64 (N : Int), .func (.func G) #[] lb] 115)).heap.size = w1.heap.size + 1 := by simp
  have c0 := hT1.cell0
  have c1 := hT1.cell1
  have c2 := hT1.cell2
  have hle1 := hb1.size
  have hX2 := hX.block (Below.heap_alloc _ (.cells #[.int .i64 (R : Int), .int .i64 (N : Int), .func (.func G) #[] lb] 115) _ hX.lt)
  clear hX hb1
  gi_wp2
  generalize w1.alloc (.cells #[.int .i64 (R : Int), .int .i64 (N : Int), .func (.func G) #[] lb] 115) = W2 at *
  obtain ⟨M, hM⟩ : ∃ M, w1.heap.size = M := ⟨_, rfl⟩
  rw [hM] at hT1 hs2 hle1 ⊢
  refine ⟨trivial, fun _ => by omega, ?_⟩
  refine (hsz1.out _).mono ?_
  rintro e w3 ⟨rfl, hg3⟩
  have hT3 := hT1.grown hg3 (fun e => by cases e)
  have hX3 : RowsAt w3 X R := hX2.block (hg3.block X hX2.lt (fun e => by cases e))
  have hb3 := hb2.grown hg3 hb2.size (fun r e => by cases e)
  have hs3 := hg3.size
  have hXlt := hX2.lt
  clear hT1 hX2 hb2 hg3 c0 c1 c2 hsz1 hM
  have hb4 := hb3.alloc hb3.size (.cells (madeCells #[.int .i64 0] S) 3)
  have hT4 := hT3.alloc (.cells (madeCells #[.int .i64 0] S) 3)
  have hX4 := hX3.block (Below.heap_alloc _ (.cells (madeCells #[.int .i64 0] S) 3) _ hX3.lt)
  have hZ4 := own_zeros_q (q := .i64) (T := 3) (w := w3) (B := w.heap.size) (n := S) hb3.size (by omega)
  have hs4 : (w3.alloc (.cells (madeCells #[.int .i64 0] S) 3)).heap.size = w3.heap.size + 1 := by simp
  have hle3 := hb3.size
  have hlt3 := hT3.lt
  have hXlt3 := hX3.lt
  clear hb3 hX3
  have hT5 := hT4.alloc (.cells #[.slice (some ⟨w3.heap.size, 0, none⟩) S S] 28)
  have hZ5 := hZ4.alloc (.cells #[.slice (some ⟨w3.heap.size, 0, none⟩) S S] 28)
  have hX5 := hX4.block (Below.heap_alloc _ (.cells #[.slice (some ⟨w3.heap.size, 0, none⟩) S S] 28) _ hX4.lt)
  have hb5 := hb4.alloc hb4.size (.cells #[.slice (some ⟨w3.heap.size, 0, none⟩) S S] 28)
  have bL := Boxed.new (w3.alloc (.cells (madeCells #[.int .i64 0] S) 3)) 28 (.slice (some ⟨w3.heap.size, 0, none⟩) S S)
  have hs5 : ((w3.alloc (.cells (madeCells #[.int .i64 0] S) 3)).alloc (.cells #[.slice (some ⟨w3.heap.size, 0, none⟩) S S] 28)).heap.size = w3.heap.size + 2 := by simp
  rw [hs4] at bL
  have c0 := hT3.cell0
  have c1 := hT3.cell1
  have c2 := hT3.cell2
  clear hb4 hT4 hX4 hZ4 hT3
  gi_wp2
  generalize hW5 : (w3.alloc (.cells (madeCells #[.int .i64 0] S) 3)).alloc (.cells #[.slice (some ⟨w3.heap.size, 0, none⟩) S S] 28) = W5 at *
  obtain ⟨D, hD⟩ : ∃ D, w3.heap.size = D := ⟨_, rfl⟩
  rw [hD] at hs5 hZ5 bL hs3 hle3 hlt3 hXlt3 ⊢
  refine ⟨trivial, fun _ => by omega, ?_⟩
  refine (hix1.out _).mono ?_
  rintro e w6 ⟨rfl, rfl⟩
  rw [hs5]
  have hT7 := Three.new W5 115 (.int .i64 (R : Int)) (.int .i64 (N : Int)) (.func (.func G) #[] lb)
  rw [hs5] at hT7
  have hT6 := hT5.alloc (.cells #[.int .i64 (R : Int), .int .i64 (N : Int), .func (.func G) #[] lb] 115)
  have hZ6 := hZ5.alloc (.cells #[.int .i64 (R : Int), .int .i64 (N : Int), .func (.func G) #[] lb] 115)
  have hX6 := hX5.block (Below.heap_alloc _ (.cells #[.int .i64 (R : Int), .int .i64 (N : Int), .func (.func G) #[] lb] 115) _ hX5.lt)
  have bL6 := bL.alloc (.cells #[.int .i64 (R : Int), .int .i64 (N : Int), .func (.func G) #[] lb] 115)
  have hb6 := hb5.alloc hb5.size (.cells #[.int .i64 (R : Int), .int .i64 (N : Int), .func (.func G) #[] lb] 115)
  have hs6 : (W5.alloc (.cells #[.int .i64 (R : Int), .int .i64 (N : Int), .func (.func G) #[] lb] 115)).heap.size = D + 3 := by simp [hs5]
  generalize W5.alloc (.cells #[.int .i64 (R : Int), .int .i64 (N : Int), .func (.func G) #[] lb] 115) = W6 at *
  obtain ⟨Fx, hFx⟩ : ∃ Fx : List (Nat × Array Value × TypeId), Fx = [(M, #[.int .i64 (R : Int), .int .i64 (N : Int), .func (.func G) #[] lb], 115), (D + 2, #[.int .i64 (R : Int), .int .i64 (N : Int), .func (.func G) #[] lb], 115), (D + 1, #[.slice (some ⟨D, 0, none⟩) S S], 28), (X, #[.int .i64 (R : Int)], 3)] := ⟨_, rfl⟩
  have hI0 : PutI w D .i64 3 S (fun i => i) (fun k => ordE N (idxN R s k)) Fx 0 W6 := by
    refine ⟨Nat.zero_le _, fun p hp => ?_, hZ6, hb6⟩
    rw [hFx] at hp
    simp only [List.mem_cons, List.not_mem_nil, or_false] at hp
    rcases hp with rfl | rfl | rfl | rfl
    · exact hT6
    · exact hT7
    · exact bL6
    · exact hX6
  have m1 : (M, #[.int .i64 (R : Int), .int .i64 (N : Int), .func (.func G) #[] lb], 115) ∈ Fx := by rw [hFx]; simp
  have m2 : (D + 2, #[.int .i64 (R : Int), .int .i64 (N : Int), .func (.func G) #[] lb], 115) ∈ Fx := by rw [hFx]; simp
  have m3 : (D + 1, #[.slice (some ⟨D, 0, none⟩) S S], 28) ∈ Fx := by rw [hFx]; simp
  have m4 : (X, #[.int .i64 (R : Int)], 3) ∈ Fx := by rw [hFx]; simp
  have hne : ∀ p ∈ Fx, p.1 ≠ D := by
    rw [hFx]
    intro p hp
    simp only [List.mem_cons, List.not_mem_nil, or_false] at hp
    rcases hp with rfl | rfl | rfl | rfl <;> simp <;> omega
  have hKl : ∀ j W, PutI w D .i64 3 S (fun i => i) (fun k => ordE N (idxN R s k)) Fx j W → MatAt W (D + 2) R N s X := fun j W h =>
    ⟨by rw [HV.out]; exact h.three m2, hK.step h.low, h.boxed m4⟩
  have hKL := Lib.hid hKl
  have HNE := Lib.hid hne
  clear hT5 hZ5 hX5 bL hb5 hT6 hT7 hZ6 hX6 bL6 hb6 hs5 hW5 c0 c1 c2 hix1 hFx hKl hne hs2
  gi_wp2
  refine wpIn_indices (n := n) (B := D + 2) (R := R) (N := N) (X := X) (s := s) (by omega) hR rfl rfl
    (PutI w D .i64 3 S (fun i => i) (fun k => ordE N (idxN R s k)) Fx) (fun _ _ => False)
    (PutI.own (by omega)) (fun _ _ _ _ _ h => h.elim) hKL.out hI0 ?a1 ?assign ?body ?done ?stop
  case assign =>
    intro lp j W K hK
    gi_wp2
    exact hK
  case body =>
    intro lp j W hj hI hbig
    rw [hS] at hj
    have cM := (hI.three m1).cell1
    have cL := (hI.boxed m3).cell
    obtain ⟨v0, cD⟩ := putL_cell hI.row hj
    have fD := hI.row.frozenAt j
    have HST := Lib.hid (hI.step hj HNE.out (by omega))
    have hmx := max_ord (m := idxN R s j) (N := N)
    have hixl : idxN R s j < 32 * R := idx_lt (by omega)
    have hj0 : (0 : Int) ≤ (j : Int) := by omega
    have hj1 : (j : Int) < (S : Int) := by omega
    clear hI hI0
    generalize ordE N (idxN R s j) = v at *
    generalize idxN R s j = m at *
    have hKF := (KeepsOthers.setCell W ⟨D, j, none⟩ (.int .i64 v)).from (D + 3)
    gi_wp2
    · obtain rfl : v = -1 := by omega
      exact ⟨⟨hKF.size, hKF.same⟩, HST.out⟩
    · obtain rfl : v = (m : Int) - (N : Int) := by omega
      exact ⟨⟨hKF.size, hKF.same⟩, HST.out⟩
  case stop => intro D c W _ h; exact h.elim
  case done =>
    intro D' W hD' hI hKD
    rw [hS] at hI
    have cL := (hI.boxed m3).cell
    gi_wp2
    refine leaves_marks (B := D + 3) [D'] W ⟨by simp, fun E hE => by obtain rfl := List.mem_singleton.1 hE; exact hKD⟩ (fun E hE => by obtain rfl := List.mem_singleton.1 hE; omega) (fun w2 h2 => ⟨_, results_tmp2 rfl _ _ _, ?_⟩)
    have hrow := hI.row
    rw [HP.out] at hrow
    exact RetQ.mk_ HL.out (ownsRow_block hrow (fun b hb => by
      simp only [Value.ownBlock, Option.some.injEq] at hb
      subst hb
      exact h2.block _ (by omega))) (Nat.le_refl _) (hI.low.trans (h2.mono (by omega))) rfl
set_option maxRecDepth 100000 in
set_option maxHeartbeats 1000000 in
theorem Order_any {d st : Int} {w : World} (hK : KCol w) : Calls Tryd.prog 80 #[.int .i64 d, .int .i64 st] w (RetQ .i64 3 w (orderS d st)) := by
  by_cases h : (okD d && okS st) = true
  · rw [Bool.and_eq_true] at h
    obtain ⟨k, rfl, h1, h2⟩ := okD_nat h.1
    rw [orderS_ok h1 h2 h.2]
    exact callsIn_wide.1 (Order_in (n := 6) (by decide) hK h1 h2 h.2)
  · have h := Bool.eq_false_iff.2 h
    rw [orderS_no h]
    have hO := Lib.hid (of_no (w := w) h)
    clear h
    go_enter Tryd.func80, Tryd.ntmps80
    go_wp2_with (go_at_call 86; refine hO.out.mono ?_; rintro e w1 ⟨rfl, hb1⟩)
    have hb2 := hb1.alloc hb1.size (.cells #[.int .i64 0, .int .i64 0, .nilFunc] 115)
    clear hb1 hO
    go_wp2_with fail
    go_ret2
    exact RetQ.nil_ hb2
end
end Go.Proofs.YtoegamlpgenfcaaDoor
