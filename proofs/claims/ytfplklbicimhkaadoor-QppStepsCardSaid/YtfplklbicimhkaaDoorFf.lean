/-
  permuted, at both of its types.
-/
import Derived.Test.YtfplklbicimhkaaDoorFe
namespace Go.Proofs.YtfplklbicimhkaaDoor
open Go.RowKit Go.Shelf BigFrame

attribute [local go_sem] Oper.semAt_some

theorem ownsRow_block {w w' : World} {base : Nat} {e : TypeId} {v : Value} {n : Nat} {xs : List Value} (h : w.ownsRow base e 1 v n xs) (hk : ∀ g, v.ownBlock = some g → w'.heap[g]? = w.heap[g]?) : w'.ownsRow base e 1 v n xs := by
  refine ⟨h.1, ?_⟩
  rcases h.2 with h2 | ⟨g, cap, cur, rfl, hb, hg, rest⟩
  · exact .inl h2
  · exact .inr ⟨g, cap, cur, rfl, hb, (hk g rfl).trans hg, rest⟩
theorem cells_kept {W W' : World} {b : Nat} {a : Array Value} {t : TypeId} {fr : Nat × Nat} {row : Option Nat} (hb : W.heap[b]? = some (.cells a t fr)) (hg : W.grownBy W' row) (hr : ∀ r, row = some r → ∃ o : Obj, W.heap[r]? = some o ∧ o.isCells = false) : W'.heap[b]? = W.heap[b]? :=
  hg.block b (Array.getElem?_eq_some_iff.1 hb).1 (fun e => by
    obtain ⟨o, ho, hc⟩ := hr b e.symm
    rw [hb] at ho
    injection ho with ho
    subst ho
    cases hc)
/-- Where permuted's loop is: its boxes, its new slice. -/
structure PmI (w : World) (S T B C D : Nat) (q : IntKind) (EL SL FT PT : TypeId) (pl : Value) (k f1 f2 : Nat) (f : Nat → Nat) (g : Nat → Int) (j : Nat) (W : World) : Prop where
  le : j ≤ k
  place : Boxed W S FT pl
  perm : Three W T PT (.int .i64 (k : Int)) (.int .i64 (f1 : Int)) (.int .i64 (f2 : Int))
  box : Boxed W C SL (.slice (some ⟨D, 0, none⟩) k k)
  row : W.ownsRow B EL 1 (.slice (some ⟨D, 0, none⟩) k k) k ((putL f g k j).map (Value.int q))
  low : Below w.heap.size w W
section
variable {w : World} {S T B C D : Nat} {q : IntKind} {EL SL FT PT : TypeId} {pl : Value} {k f1 f2 : Nat} {f : Nat → Nat} {g : Nat → Int}
theorem ownsRow_cells {W : World} {base D n : Nat} {e : TypeId} {xs : List Value} (h : W.ownsRow base e 1 (.slice (some ⟨D, 0, none⟩) n n) n xs) : ∃ a fr, W.heap[D]? = some (.cells a e fr) := by
  rcases h.2 with ⟨h1, _⟩ | ⟨g, cap, cur, hv, _, hg, _⟩
  · cases h1
  · injection hv with hv
    injection hv with hv
    injection hv with hv
    subst hv
    exact ⟨_, _, hg⟩
theorem PmI.own {N : Nat} (hN : w.heap.size ≤ N) : OwnFrom N (PmI w S T B C D q EL SL FT PT pl k f1 f2 f g) := by
  intro j W W' row h hg hr
  have hr' : ∀ r, row = some r → ∃ o : Obj, W.heap[r]? = some o ∧ o.isCells = false := fun r e => (hr r e).2
  obtain ⟨a, fr, ha⟩ := ownsRow_cells h.row
  refine ⟨h.le, (cells_kept h.place hg hr').trans h.place, h.perm.block (cells_kept h.perm hg hr'), (cells_kept h.box hg hr').trans h.box, ownsRow_block h.row (fun b hb => ?_), h.low.grown hg h.low.size (fun r e => Nat.le_trans hN (hr r e).1)⟩
  simp only [Value.ownBlock, Option.some.injEq] at hb
  subst hb
  exact cells_kept ha hg hr'
theorem PmI.drewN {j : Nat} {W : World} (h : PmI w S T B C D q EL SL FT PT pl k f1 f2 f g j W) (m : Nat) : PmI w S T B C D q EL SL FT PT pl k f1 f2 f g j (W.drewN m) :=
  ⟨h.le, h.place, h.perm, h.box, h.row, ⟨h.low.os, h.low.tape, h.low.output, h.low.size, h.low.block⟩⟩
theorem PmI.step {j : Nat} {W : World} (h : PmI w S T B C D q EL SL FT PT pl k f1 f2 f g j W) (hj : j < k) (hSD : S ≠ D) (hTD : T ≠ D) (hCD : C ≠ D) (hD : w.heap.size ≤ D) :
    PmI w S T B C D q EL SL FT PT pl k f1 f2 f g (j + 1) (W.setCell ⟨D, f j, none⟩ (.int q (g j))) :=
  ⟨hj, (Below.heap_setCell _ _ _ _ hSD).trans h.place, h.perm.other (p := ⟨D, f j, none⟩) (Ne.symm hTD) _, (Below.heap_setCell _ _ _ _ hCD).trans h.box, putL_set h.row, h.low.setCell (p := ⟨D, f j, none⟩) hD _⟩
end
set_option maxRecDepth 100000 in
set_option maxHeartbeats 8000000 in
theorem permutedInt_in {n : Nat} (hn : 6 ≤ n) {k G : Nat} {caps : Array Value} {f : Nat → Nat} {g : Nat → Int} {w : World} (hK : Kinds w) (hs : IsSize k) (eG : ∀ args w, (callFunc G args).run Tryd.prog w = .ok (.enter G args) w)
    (hf : ∀ i, i < k → f i < k)
    (hone : ∀ i W, i < k → Below w.heap.size w W → Calls Tryd.prog G (#[.int .i64 (i : Int), .int .i64 (piK k i : Nat)] ++ caps) W fun e W' => e = .returned (.tuple #[.int .i64 (f i : Nat), .int .i64 (g i)]) ∧ ∃ m, W' = W.drewN m) :
    CallsIn Fence.wide n Tryd.prog 35 #[.int .i64 (k : Int), .func (.func G) #[] caps] w (RetQ .i64 3 w (putL f g k k, 0)) := by
  have hO := Lib.hid (fun (u : World) (h : Below w.heap.size w u) => of_plain (k := (k : Int)) (hK.step h))
  rw [ofV_size hs, ofE_size hs] at hO
  have hst := Lib.hid (fun (u : World) => steps_any (a := k) (b := f1N k) (c := f2N k) (w := u))
  have hSt := StepsOf.size hs
  have hk := size_le hs
  have hmk : ∀ u : World, (Instr.makeSlice 33 (.int .i64 k) (.int .i64 k)).run Tryd.prog u = .ok (.slice (some ⟨u.heap.size, 0, none⟩) k k) (u.alloc (.cells (madeCells #[.int .i64 0] k) 3)) := make_ints k (by omega)
  have H1 := Lib.hid hone
  have HF := Lib.hid hf
  have hPL : Hid ((putL f g k k).length = k) := Lib.hid (putL_length _)
  unfold parV at hst hO
  unfold parA at hst hO
  generalize f1N k = f1 at *
  generalize f2N k = f2 at *
  clear hs hone hf
  have hn1 : 1 ≤ n := by omega
  refine callsIn_of_wp_marks Tryd.func35 rfl trivial ?_ rfl
  simp only [Tryd.ntmps35, List.size_toArray, List.length_cons, List.length_nil, Nat.reduceAdd, Nat.reduceSub, Array.replicate_succ, Array.replicate_zero, List.push_toArray, List.append_toArray, List.nil_append, List.cons_append]
  have bP := Boxed.new w 64 (.func (.func G) #[] caps)
  have hb0 := (Below.refl w.heap.size w).alloc (Nat.le_refl _) (.cells #[.func (.func G) #[] caps] 64)
  have hs0 : (w.alloc (.cells #[.func (.func G) #[] caps] 64)).heap.size = w.heap.size + 1 := by simp
  gi_wp2
  generalize w.alloc (.cells #[.func (.func G) #[] caps] 64) = W0 at *
  refine ⟨trivial, ?_⟩
  refine (callsIn_wide.2 (hO.out _ hb0)).mono ?_
  rintro e w1 ⟨rfl, hb1⟩
  rw [hs0] at hb1
  have bP1 := Boxed.below bP hb1 (by omega)
  have hb2 := hb0.trans (hb1.mono (by omega))
  clear hO bP hb0 hb1 hs0
  have hT := Three.new w1 58 (.int .i64 (k : Int)) (.int .i64 (f1 : Int)) (.int .i64 (f2 : Int))
  have c0 := hT.cell0
  have c1 := hT.cell1
  have c2 := hT.cell2
  have hZ := own_zeros_q (q := .i64) (T := 3) (w := w1.alloc (.cells #[.int .i64 (k : Int), .int .i64 (f1 : Int), .int .i64 (f2 : Int)] 58)) (B := w.heap.size) (n := k) (by have := hb2.size; simp; omega) (by omega)
  rw [World.size_alloc] at hZ
  have hT2 := (hT.alloc (.cells (madeCells #[.int .i64 0] k) 3)).alloc (.cells #[.slice (some ⟨w1.heap.size + 1, 0, none⟩) k k] 33)
  have hZ2 := hZ.alloc (.cells #[.slice (some ⟨w1.heap.size + 1, 0, none⟩) k k] 33)
  have bL := Boxed.new ((w1.alloc (.cells #[.int .i64 (k : Int), .int .i64 (f1 : Int), .int .i64 (f2 : Int)] 58)).alloc (.cells (madeCells #[.int .i64 0] k) 3)) 33 (.slice (some ⟨w1.heap.size + 1, 0, none⟩) k k)
  rw [World.size_alloc, World.size_alloc] at bL
  have bP2 := ((bP1.alloc (.cells #[.int .i64 (k : Int), .int .i64 (f1 : Int), .int .i64 (f2 : Int)] 58)).alloc (.cells (madeCells #[.int .i64 0] k) 3)).alloc (.cells #[.slice (some ⟨w1.heap.size + 1, 0, none⟩) k k] 33)
  have hb3 : Below w.heap.size w (((w1.alloc (.cells #[.int .i64 (k : Int), .int .i64 (f1 : Int), .int .i64 (f2 : Int)] 58)).alloc (.cells (madeCells #[.int .i64 0] k) 3)).alloc (.cells #[.slice (some ⟨w1.heap.size + 1, 0, none⟩) k k] 33)) := by
    have := hb2.size
    exact ((hb2.alloc (by omega) _).alloc (by simp; omega) _).alloc (by simp; omega) _
  have hs3 : (((w1.alloc (.cells #[.int .i64 (k : Int), .int .i64 (f1 : Int), .int .i64 (f2 : Int)] 58)).alloc (.cells (madeCells #[.int .i64 0] k) 3)).alloc (.cells #[.slice (some ⟨w1.heap.size + 1, 0, none⟩) k k] 33)).heap.size = w1.heap.size + 3 := by simp
  have hlt1 := hb2.size
  clear hT hZ bP1 hb2
  gi_wp2
  have hT3 := Three.new (((w1.alloc (.cells #[.int .i64 (k : Int), .int .i64 (f1 : Int), .int .i64 (f2 : Int)] 58)).alloc (.cells (madeCells #[.int .i64 0] k) 3)).alloc (.cells #[.slice (some ⟨w1.heap.size + 1, 0, none⟩) k k] 33)) 58 (.int .i64 (k : Int)) (.int .i64 (f1 : Int)) (.int .i64 (f2 : Int))
  rw [hs3] at hT3
  generalize (((w1.alloc (.cells #[.int .i64 (k : Int), .int .i64 (f1 : Int), .int .i64 (f2 : Int)] 58)).alloc (.cells (madeCells #[.int .i64 0] k) 3)).alloc (.cells #[.slice (some ⟨w1.heap.size + 1, 0, none⟩) k k] 33)) = W3 at *
  refine ⟨trivial, ?_⟩
  refine (callsIn_wide.2 (hst.out _)).mono ?_
  rintro e w4 ⟨rfl, rfl⟩
  rw [hs3]
  have hZ4 := hZ2.alloc (.cells #[.int .i64 (k : Int), .int .i64 (f1 : Int), .int .i64 (f2 : Int)] 58)
  have bL4 := bL.alloc (.cells #[.int .i64 (k : Int), .int .i64 (f1 : Int), .int .i64 (f2 : Int)] 58)
  have bP4 := bP2.alloc (.cells #[.int .i64 (k : Int), .int .i64 (f1 : Int), .int .i64 (f2 : Int)] 58)
  have hb4 := hb3.alloc hb3.size (.cells #[.int .i64 (k : Int), .int .i64 (f1 : Int), .int .i64 (f2 : Int)] 58)
  have hs4 : (W3.alloc (.cells #[.int .i64 (k : Int), .int .i64 (f1 : Int), .int .i64 (f2 : Int)] 58)).heap.size = w1.heap.size + 4 := by simp [hs3]
  generalize W3.alloc (.cells #[.int .i64 (k : Int), .int .i64 (f1 : Int), .int .i64 (f2 : Int)] 58) = W4 at *
  have hI0 : PmI w w.heap.size (w1.heap.size + 3) w.heap.size (w1.heap.size + 1 + 1) (w1.heap.size + 1) .i64 3 33 64 58 (.func (.func G) #[] caps) k f1 f2 f g 0 W4 := ⟨Nat.zero_le _, bP4, hT3, bL4, hZ4, hb4⟩
  clear hT2 hZ2 bL bP2 hb3 hs3 hT3 hZ4 bL4 bP4 hb4 c0 c1 c2 hst
  gi_wp2
  refine wpIn_steps (n := n) (K := k) (f1 := f1) (f2 := f2) (p := piK k) (B := w1.heap.size + 3) (by omega) hSt rfl rfl
    (PmI w w.heap.size (w1.heap.size + 3) w.heap.size (w1.heap.size + 1 + 1) (w1.heap.size + 1) .i64 3 33 64 58 (.func (.func G) #[] caps) k f1 f2 f g) (fun _ _ => False)
    (PmI.own (by omega)) (fun _ _ _ _ _ h => h.elim) (fun _ _ h => h.perm) hI0
    (fun j => { tmps := #[.int .i64 (k : Int), .func (.func G) #[] caps, undef, .pointer (some ⟨w.heap.size, 0, none⟩), .slice none 0 0, .int .i64 0, .pointer (some ⟨w1.heap.size, 0, none⟩), .int .i64 0, .pointer (some ⟨w1.heap.size + 1 + 1, 0, none⟩), .int .i64 (j : Int), .int .i64 (piK k j : Nat), undef, undef, .tuple #[.agg #[.int .i64 (k : Int), .int .i64 (f1 : Int), .int .i64 (f2 : Int)], .int .i64 0], .int .i64 (k : Int), .tuple #[.agg #[.int .i64 (k : Int), .int .i64 (f1 : Int), .int .i64 (f2 : Int)], .int .i64 0], .agg #[.int .i64 (k : Int), .int .i64 (f1 : Int), .int .i64 (f2 : Int)], .int .i64 0, .int .i64 0, .bool false, undef, .int .i64 (k : Int), .slice (some ⟨w1.heap.size + 1, 0, none⟩) k k, .agg #[.int .i64 (k : Int), .int .i64 (f1 : Int), .int .i64 (f2 : Int)], .func (.func 47) #[] #[.pointer (some ⟨w1.heap.size + 3, 0, none⟩)], .int .i64 (j : Int), .int .i64 (piK k j : Nat), undef, undef, undef, undef, undef, undef, undef, undef, undef, undef, undef, undef], defers := [] }) ?assign ?body ?done ?stop
  case assign =>
    intro lp j W K hK
    gi_wp2
    exact hK
  case body =>
    intro lp j W hj hI hbig
    have hfj := HF.out j hj
    have HC := Lib.hid (H1.out j W hj hI.low)
    have cP := hI.place.cell
    obtain ⟨v0, cD⟩ := putL_cell hI.row hfj
    have fD := hI.row.frozenAt (f j)
    have cL := hI.box.cell
    have HST := Lib.hid (fun m => (hI.drewN m).step hj (by omega) (by omega) (by omega) (by omega))
    have hf0 : (0 : Int) ≤ ((f j : Nat) : Int) := by omega
    have hf1 : ((f j : Nat) : Int) < (k : Int) := by omega
    clear hI hI0
    generalize f j = fj at *
    generalize g j = gj at *
    gi_wp2
    refine ⟨trivial, fun _ => by omega, ?_⟩
    refine (CallsIn.inRound lp (callsIn_wide.2 HC.out)).mono ?_
    rintro e W2 ⟨rfl, m, rfl⟩
    have cD' : (W.drewN m).cell? ⟨w1.heap.size + 1, fj, none⟩ = some (.int .i64 v0) := cD
    have fD' : (W.drewN m).frozen? ⟨w1.heap.size + 1, fj, none⟩ = false := fD
    have cL' : (W.drewN m).cell? ⟨w1.heap.size + 1 + 1, 0, none⟩ = some (.slice (some ⟨w1.heap.size + 1, 0, none⟩) k k) := cL
    have hKF := (KeepsOthers.setCell (W.drewN m) ⟨w1.heap.size + 1, fj, none⟩ (.int .i64 gj)).from W4.heap.size
    clear cD fD cL cP HC
    gi_wp2
    exact ⟨⟨hKF.size, hKF.same⟩, HST.out m⟩
  case stop => intro D c W _ h; exact h.elim
  case done =>
    intro D W hD hI hKD
    have cL := hI.box.cell
    gi_wp2
    refine leaves_marks (B := w1.heap.size + 4) [D] W ⟨by simp, fun E hE => by obtain rfl := List.mem_singleton.1 hE; exact hKD⟩ (fun E hE => by obtain rfl := List.mem_singleton.1 hE; omega) (fun w2 h2 => ⟨_, results_tmp2 rfl _ _ _, ?_⟩)
    exact RetQ.mk_ hPL.out (ownsRow_block hI.row (fun b hb => by
      simp only [Value.ownBlock, Option.some.injEq] at hb
      subst hb
      exact h2.block _ (by omega))) (Nat.le_refl _) (hI.low.trans (h2.mono (by omega))) rfl
theorem permutedInt_no {k : Int} {G : Nat} {caps : Array Value} {w : World} (hK : Kinds w) (h : isB k = false) :
    Calls Tryd.prog 35 #[.int .i64 k, .func (.func G) #[] caps] w (RetQ .i64 3 w ([], 2)) := by
  have hO := Lib.hid (fun (u : World) (h : Below w.heap.size w u) => of_plain (k := k) (hK.step h))
  rw [ofV_no h, ofE_no h] at hO
  unfold parV parA at hO
  have hb0 := (Below.refl w.heap.size w).alloc (Nat.le_refl _) (.cells #[.func (.func G) #[] caps] 64)
  clear h
  go_enter Tryd.func35, Tryd.ntmps35
  go_wp2_with fail
  refine (hO.out _ hb0).mono ?_
  rintro e w1 ⟨rfl, hb1⟩
  have hb2 := hb0.trans (hb1.mono (by simp))
  have hb3 := hb2.alloc hb2.size (.cells #[.int .i64 ((0 : Nat) : Int), .int .i64 ((0 : Nat) : Int), .int .i64 ((0 : Nat) : Int)] 58)
  clear hb0 hb1 hO
  go_wp2_with fail
  go_ret2
  exact RetQ.nil_ hb3
set_option maxRecDepth 100000 in
set_option maxHeartbeats 8000000 in
theorem permutedByte_in {n : Nat} (hn : 6 ≤ n) {k G : Nat} {caps : Array Value} {f : Nat → Nat} {g : Nat → Int} {w : World} (hK : Kinds w) (hs : IsSize k) (eG : ∀ args w, (callFunc G args).run Tryd.prog w = .ok (.enter G args) w)
    (hf : ∀ i, i < k → f i < k)
    (hone : ∀ i W, i < k → Below w.heap.size w W → Calls Tryd.prog G (#[.int .i64 (i : Int), .int .i64 (piK k i : Nat)] ++ caps) W fun e W' => e = .returned (.tuple #[.int .i64 (f i : Nat), .int .u8 (g i)]) ∧ ∃ m, W' = W.drewN m) :
    CallsIn Fence.wide n Tryd.prog 40 #[.int .i64 (k : Int), .func (.func G) #[] caps] w (RetQ .u8 5 w (putL f g k k, 0)) := by
  have hO := Lib.hid (fun (u : World) (h : Below w.heap.size w u) => of_plain (k := (k : Int)) (hK.step h))
  rw [ofV_size hs, ofE_size hs] at hO
  have hst := Lib.hid (fun (u : World) => steps_any (a := k) (b := f1N k) (c := f2N k) (w := u))
  have hSt := StepsOf.size hs
  have hk := size_le hs
  have hmk : ∀ u : World, (Instr.makeSlice 43 (.int .i64 k) (.int .i64 k)).run Tryd.prog u = .ok (.slice (some ⟨u.heap.size, 0, none⟩) k k) (u.alloc (.cells (madeCells #[.int .u8 0] k) 5)) := make_bytes k k (Nat.le_refl _) (by omega)
  have H1 := Lib.hid hone
  have HF := Lib.hid hf
  have hPL : Hid ((putL f g k k).length = k) := Lib.hid (putL_length _)
  unfold parV at hst hO
  unfold parA at hst hO
  generalize f1N k = f1 at *
  generalize f2N k = f2 at *
  clear hs hone hf
  have hn1 : 1 ≤ n := by omega
  refine callsIn_of_wp_marks Tryd.func40 rfl trivial ?_ rfl
  simp only [Tryd.ntmps40, List.size_toArray, List.length_cons, List.length_nil, Nat.reduceAdd, Nat.reduceSub, Array.replicate_succ, Array.replicate_zero, List.push_toArray, List.append_toArray, List.nil_append, List.cons_append]
  have bP := Boxed.new w 66 (.func (.func G) #[] caps)
  have hb0 := (Below.refl w.heap.size w).alloc (Nat.le_refl _) (.cells #[.func (.func G) #[] caps] 66)
  have hs0 : (w.alloc (.cells #[.func (.func G) #[] caps] 66)).heap.size = w.heap.size + 1 := by simp
  gi_wp2
  generalize w.alloc (.cells #[.func (.func G) #[] caps] 66) = W0 at *
  refine ⟨trivial, ?_⟩
  refine (callsIn_wide.2 (hO.out _ hb0)).mono ?_
  rintro e w1 ⟨rfl, hb1⟩
  rw [hs0] at hb1
  have bP1 := Boxed.below bP hb1 (by omega)
  have hb2 := hb0.trans (hb1.mono (by omega))
  clear hO bP hb0 hb1 hs0
  have hT := Three.new w1 58 (.int .i64 (k : Int)) (.int .i64 (f1 : Int)) (.int .i64 (f2 : Int))
  have c0 := hT.cell0
  have c1 := hT.cell1
  have c2 := hT.cell2
  have hZ := own_zeros_q (q := .u8) (T := 5) (w := w1.alloc (.cells #[.int .i64 (k : Int), .int .i64 (f1 : Int), .int .i64 (f2 : Int)] 58)) (B := w.heap.size) (n := k) (by have := hb2.size; simp; omega) (by omega)
  rw [World.size_alloc] at hZ
  have hT2 := (hT.alloc (.cells (madeCells #[.int .u8 0] k) 5)).alloc (.cells #[.slice (some ⟨w1.heap.size + 1, 0, none⟩) k k] 43)
  have hZ2 := hZ.alloc (.cells #[.slice (some ⟨w1.heap.size + 1, 0, none⟩) k k] 43)
  have bL := Boxed.new ((w1.alloc (.cells #[.int .i64 (k : Int), .int .i64 (f1 : Int), .int .i64 (f2 : Int)] 58)).alloc (.cells (madeCells #[.int .u8 0] k) 5)) 43 (.slice (some ⟨w1.heap.size + 1, 0, none⟩) k k)
  rw [World.size_alloc, World.size_alloc] at bL
  have bP2 := ((bP1.alloc (.cells #[.int .i64 (k : Int), .int .i64 (f1 : Int), .int .i64 (f2 : Int)] 58)).alloc (.cells (madeCells #[.int .u8 0] k) 5)).alloc (.cells #[.slice (some ⟨w1.heap.size + 1, 0, none⟩) k k] 43)
  have hb3 : Below w.heap.size w (((w1.alloc (.cells #[.int .i64 (k : Int), .int .i64 (f1 : Int), .int .i64 (f2 : Int)] 58)).alloc (.cells (madeCells #[.int .u8 0] k) 5)).alloc (.cells #[.slice (some ⟨w1.heap.size + 1, 0, none⟩) k k] 43)) := by
    have := hb2.size
    exact ((hb2.alloc (by omega) _).alloc (by simp; omega) _).alloc (by simp; omega) _
  have hs3 : (((w1.alloc (.cells #[.int .i64 (k : Int), .int .i64 (f1 : Int), .int .i64 (f2 : Int)] 58)).alloc (.cells (madeCells #[.int .u8 0] k) 5)).alloc (.cells #[.slice (some ⟨w1.heap.size + 1, 0, none⟩) k k] 43)).heap.size = w1.heap.size + 3 := by simp
  have hlt1 := hb2.size
  clear hT hZ bP1 hb2
  gi_wp2
  have hT3 := Three.new (((w1.alloc (.cells #[.int .i64 (k : Int), .int .i64 (f1 : Int), .int .i64 (f2 : Int)] 58)).alloc (.cells (madeCells #[.int .u8 0] k) 5)).alloc (.cells #[.slice (some ⟨w1.heap.size + 1, 0, none⟩) k k] 43)) 58 (.int .i64 (k : Int)) (.int .i64 (f1 : Int)) (.int .i64 (f2 : Int))
  rw [hs3] at hT3
  generalize (((w1.alloc (.cells #[.int .i64 (k : Int), .int .i64 (f1 : Int), .int .i64 (f2 : Int)] 58)).alloc (.cells (madeCells #[.int .u8 0] k) 5)).alloc (.cells #[.slice (some ⟨w1.heap.size + 1, 0, none⟩) k k] 43)) = W3 at *
  refine ⟨trivial, ?_⟩
  refine (callsIn_wide.2 (hst.out _)).mono ?_
  rintro e w4 ⟨rfl, rfl⟩
  rw [hs3]
  have hZ4 := hZ2.alloc (.cells #[.int .i64 (k : Int), .int .i64 (f1 : Int), .int .i64 (f2 : Int)] 58)
  have bL4 := bL.alloc (.cells #[.int .i64 (k : Int), .int .i64 (f1 : Int), .int .i64 (f2 : Int)] 58)
  have bP4 := bP2.alloc (.cells #[.int .i64 (k : Int), .int .i64 (f1 : Int), .int .i64 (f2 : Int)] 58)
  have hb4 := hb3.alloc hb3.size (.cells #[.int .i64 (k : Int), .int .i64 (f1 : Int), .int .i64 (f2 : Int)] 58)
  have hs4 : (W3.alloc (.cells #[.int .i64 (k : Int), .int .i64 (f1 : Int), .int .i64 (f2 : Int)] 58)).heap.size = w1.heap.size + 4 := by simp [hs3]
  generalize W3.alloc (.cells #[.int .i64 (k : Int), .int .i64 (f1 : Int), .int .i64 (f2 : Int)] 58) = W4 at *
  have hI0 : PmI w w.heap.size (w1.heap.size + 3) w.heap.size (w1.heap.size + 1 + 1) (w1.heap.size + 1) .u8 5 43 66 58 (.func (.func G) #[] caps) k f1 f2 f g 0 W4 := ⟨Nat.zero_le _, bP4, hT3, bL4, hZ4, hb4⟩
  clear hT2 hZ2 bL bP2 hb3 hs3 hT3 hZ4 bL4 bP4 hb4 c0 c1 c2 hst
  gi_wp2
  refine wpIn_steps (n := n) (K := k) (f1 := f1) (f2 := f2) (p := piK k) (B := w1.heap.size + 3) (by omega) hSt rfl rfl
    (PmI w w.heap.size (w1.heap.size + 3) w.heap.size (w1.heap.size + 1 + 1) (w1.heap.size + 1) .u8 5 43 66 58 (.func (.func G) #[] caps) k f1 f2 f g) (fun _ _ => False)
    (PmI.own (by omega)) (fun _ _ _ _ _ h => h.elim) (fun _ _ h => h.perm) hI0
    (fun j => { tmps := #[.int .i64 (k : Int), .func (.func G) #[] caps, undef, .pointer (some ⟨w.heap.size, 0, none⟩), .slice none 0 0, .int .i64 0, .pointer (some ⟨w1.heap.size, 0, none⟩), .int .i64 0, .pointer (some ⟨w1.heap.size + 1 + 1, 0, none⟩), .int .i64 (j : Int), .int .i64 (piK k j : Nat), undef, undef, .tuple #[.agg #[.int .i64 (k : Int), .int .i64 (f1 : Int), .int .i64 (f2 : Int)], .int .i64 0], .int .i64 (k : Int), .tuple #[.agg #[.int .i64 (k : Int), .int .i64 (f1 : Int), .int .i64 (f2 : Int)], .int .i64 0], .agg #[.int .i64 (k : Int), .int .i64 (f1 : Int), .int .i64 (f2 : Int)], .int .i64 0, .int .i64 0, .bool false, undef, .int .i64 (k : Int), .slice (some ⟨w1.heap.size + 1, 0, none⟩) k k, .agg #[.int .i64 (k : Int), .int .i64 (f1 : Int), .int .i64 (f2 : Int)], .func (.func 47) #[] #[.pointer (some ⟨w1.heap.size + 3, 0, none⟩)], .int .i64 (j : Int), .int .i64 (piK k j : Nat), undef, undef, undef, undef, undef, undef, undef, undef, undef, undef, undef, undef], defers := [] }) ?assign ?body ?done ?stop
  case assign =>
    intro lp j W K hK
    gi_wp2
    exact hK
  case body =>
    intro lp j W hj hI hbig
    have hfj := HF.out j hj
    have HC := Lib.hid (H1.out j W hj hI.low)
    have cP := hI.place.cell
    obtain ⟨v0, cD⟩ := putL_cell hI.row hfj
    have fD := hI.row.frozenAt (f j)
    have cL := hI.box.cell
    have HST := Lib.hid (fun m => (hI.drewN m).step hj (by omega) (by omega) (by omega) (by omega))
    have hf0 : (0 : Int) ≤ ((f j : Nat) : Int) := by omega
    have hf1 : ((f j : Nat) : Int) < (k : Int) := by omega
    clear hI hI0
    generalize f j = fj at *
    generalize g j = gj at *
    gi_wp2
    refine ⟨trivial, fun _ => by omega, ?_⟩
    refine (CallsIn.inRound lp (callsIn_wide.2 HC.out)).mono ?_
    rintro e W2 ⟨rfl, m, rfl⟩
    have cD' : (W.drewN m).cell? ⟨w1.heap.size + 1, fj, none⟩ = some (.int .u8 v0) := cD
    have fD' : (W.drewN m).frozen? ⟨w1.heap.size + 1, fj, none⟩ = false := fD
    have cL' : (W.drewN m).cell? ⟨w1.heap.size + 1 + 1, 0, none⟩ = some (.slice (some ⟨w1.heap.size + 1, 0, none⟩) k k) := cL
    have hKF := (KeepsOthers.setCell (W.drewN m) ⟨w1.heap.size + 1, fj, none⟩ (.int .u8 gj)).from W4.heap.size
    clear cD fD cL cP HC
    gi_wp2
    exact ⟨⟨hKF.size, hKF.same⟩, HST.out m⟩
  case stop => intro D c W _ h; exact h.elim
  case done =>
    intro D W hD hI hKD
    have cL := hI.box.cell
    gi_wp2
    refine leaves_marks (B := w1.heap.size + 4) [D] W ⟨by simp, fun E hE => by obtain rfl := List.mem_singleton.1 hE; exact hKD⟩ (fun E hE => by obtain rfl := List.mem_singleton.1 hE; omega) (fun w2 h2 => ⟨_, results_tmp2 rfl _ _ _, ?_⟩)
    exact RetQ.mk_ hPL.out (ownsRow_block hI.row (fun b hb => by
      simp only [Value.ownBlock, Option.some.injEq] at hb
      subst hb
      exact h2.block _ (by omega))) (Nat.le_refl _) (hI.low.trans (h2.mono (by omega))) rfl
theorem permutedByte_no {k : Int} {G : Nat} {caps : Array Value} {w : World} (hK : Kinds w) (h : isB k = false) :
    Calls Tryd.prog 40 #[.int .i64 k, .func (.func G) #[] caps] w (RetQ .u8 5 w ([], 2)) := by
  have hO := Lib.hid (fun (u : World) (h : Below w.heap.size w u) => of_plain (k := k) (hK.step h))
  rw [ofV_no h, ofE_no h] at hO
  unfold parV parA at hO
  have hb0 := (Below.refl w.heap.size w).alloc (Nat.le_refl _) (.cells #[.func (.func G) #[] caps] 66)
  clear h
  go_enter Tryd.func40, Tryd.ntmps40
  go_wp2_with fail
  refine (hO.out _ hb0).mono ?_
  rintro e w1 ⟨rfl, hb1⟩
  have hb2 := hb0.trans (hb1.mono (by simp))
  have hb3 := hb2.alloc hb2.size (.cells #[.int .i64 ((0 : Nat) : Int), .int .i64 ((0 : Nat) : Int), .int .i64 ((0 : Nat) : Int)] 58)
  clear hb0 hb1 hO
  go_wp2_with fail
  go_ret2
  exact RetQ.nil_ hb3
end Go.Proofs.YtfplklbicimhkaaDoor
