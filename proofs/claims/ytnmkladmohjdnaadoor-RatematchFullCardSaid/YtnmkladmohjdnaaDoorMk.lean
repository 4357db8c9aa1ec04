/-
  Slices that are made and filled; what a function hands back.
-/
import Derived.Test.YtnmkladmohjdnaaDoorIt
namespace Go.Proofs.YtnmkladmohjdnaaDoor
open Go.RowKit Go.Shelf BigFrame

/-- append of one integer. -/
theorem ints_app {w wr : World} {n : Nat} {A : Option Addr} {c : Nat} {xs : List Int} (hO : wr.ownsRow w.heap.size 3 1 (.slice A n c) n (xs.map (Value.int .i64))) (hb : Below w.heap.size w wr) (hn : n < 100000) (x : Int) :
    ∃ A2 c2 w2, (Builtin.append_ #[22, 22] 22 #[.slice A n c, .slice (some ⟨wr.heap.size, 0, none⟩) 1 1]).run Tryd.prog (wr.alloc (.cells #[.int .i64 x] 3)) = .ok (.slice A2 (n + 1) c2) w2 ∧
      w2.ownsRow w.heap.size 3 1 (.slice A2 (n + 1) c2) (n + 1) ((xs ++ [x]).map (Value.int .i64)) ∧ Below w.heap.size w w2 := by
  obtain ⟨i0, hi, hz0, hz1, hz2⟩ := info_q Tryd.info_int
  obtain ⟨A2, c2, w2, h1, h2, h3⟩ := append_one_q (P := Tryd.prog) (q := .i64) (x := x) Tryd.underlying22 hi hz0 hz1 hz2 (by decide) hO (by omega) hb.size
  exact ⟨A2, c2, w2, h1, h2, (hb.alloc hb.size _).grown h3 (by simp; have := hb.size; omega) (fun k hk => (hO.lt k hk).1)⟩
/-- A function hands back a slice of integers of its own and a number. (q, T: the kind, the number of the element type.) -/
def RetQ (q : IntKind) (T : TypeId) (w : World) (r : List Int × Int) (e : Ending) (w' : World) : Prop :=
  ∃ A c, e = .returned (.tuple #[.slice A r.1.length c, .int .i64 r.2]) ∧ w'.ownsRow w.heap.size T 1 (.slice A r.1.length c) r.1.length (r.1.map (Value.int q)) ∧ Below w.heap.size w w'
theorem RetQ.nil_ {q : IntKind} {T : TypeId} {w w' : World} {k : Int} (hb : Below w.heap.size w w') : RetQ q T w ([], k) (.returned (.tuple #[.slice none 0 0, .int .i64 k])) w' := ⟨none, 0, rfl, by simpa using World.ownsRow_nil w' w.heap.size T 1, hb⟩
theorem RetQ.mk_ {q : IntKind} {T : TypeId} {w w' : World} {r : List Int} {A : Option Addr} {n c B : Nat} {k : Int} {e : Ending} (hlen : r.length = n) (hown : w'.ownsRow B T 1 (.slice A n c) n (r.map (Value.int q))) (hB : w.heap.size ≤ B) (hb : Below w.heap.size w w')
    (he : e = .returned (.tuple #[.slice A n c, .int .i64 k])) : RetQ q T w (r, k) e w' := by
  subst hlen
  exact ⟨A, c, he, hown.mono hB, hb⟩
theorem make_ints (n : Nat) (hn : n ≤ 1000000) (u : World) : (Instr.makeSlice 22 (.int .i64 n) (.int .i64 n)).run Tryd.prog u =
    .ok (.slice (some ⟨u.heap.size, 0, none⟩) n n) (u.alloc (.cells (madeCells #[.int .i64 0] n) 3)) := by
  obtain ⟨i0, hi, hz0, hz1, hz2⟩ := info_q Tryd.info_int
  have h := run_make (P := Tryd.prog) u 22 3 i0 (.int .i64 0) Tryd.underlying22 hi hz0 .i64 .i64 (n : Int) (n : Int) (by omega) (by omega) (by rw [hz2]; omega) (by omega)
  simpa [hz1, Value.cells] using h
theorem own_zeros_q {q : IntKind} {T : TypeId} {w : World} {B n : Nat} (hB : B ≤ w.heap.size) (hn : n ≤ 1000000) : (w.alloc (.cells (madeCells #[.int q 0] n) T)).ownsRow B T 1 (.slice (some ⟨w.heap.size, 0, none⟩) n n) n ((List.replicate n (0 : Int)).map (Value.int q)) := by
  refine ⟨by simp, .inr ⟨w.heap.size, n, madeCells #[.int q 0] n, rfl, hB, heap_alloc_new w _, Nat.le_refl _, by unfold maxLen; omega, by simp [madeCells], ?_⟩⟩
  rw [toList_madeCells_one, Nat.mul_one, List.take_replicate, List.map_replicate, Nat.min_self]
/-- A new row into which elements are put. -/
theorem putL_set {q : IntKind} {T : TypeId} {w : World} {B P n j : Nat} {f : Nat → Nat} {g : Nat → Int} (h : w.ownsRow B T 1 (.slice (some ⟨P, 0, none⟩) n n) n ((putL f g n j).map (Value.int q))) :
    (w.setCell ⟨P, f j, none⟩ (.int q (g j))).ownsRow B T 1 (.slice (some ⟨P, 0, none⟩) n n) n ((putL f g n (j + 1)).map (Value.int q)) := by
  rw [putL, List.map_set]
  exact (World.ownsRow.stored h (f j) (.int q (g j))).1
theorem putL_cell {q : IntKind} {T : TypeId} {w : World} {B P n j x : Nat} {f : Nat → Nat} {g : Nat → Int} (h : w.ownsRow B T 1 (.slice (some ⟨P, 0, none⟩) n n) n ((putL f g n j).map (Value.int q))) (hx : x < n) :
    ∃ v, w.cell? ⟨P, x, none⟩ = some (.int q v) := by
  rw [World.ownsRow.cellAt h x (by omega), List.getElem?_map, List.getElem?_eq_getElem (by rw [putL_length]; exact hx)]
  exact ⟨_, rfl⟩
theorem ownsRow_block {w w' : World} {base : Nat} {e : TypeId} {v : Value} {n : Nat} {xs : List Value} (h : w.ownsRow base e 1 v n xs) (hk : ∀ g, v.ownBlock = some g → w'.heap[g]? = w.heap[g]?) : w'.ownsRow base e 1 v n xs := by
  refine ⟨h.1, ?_⟩
  rcases h.2 with h2 | ⟨g, cap, cur, rfl, hb, hg, rest⟩
  · exact .inl h2
  · exact .inr ⟨g, cap, cur, rfl, hb, (hk g rfl).trans hg, rest⟩
theorem cells_kept {W W' : World} {b : Nat} {a : Array Value} {t : TypeId} {fr : Nat × Nat} {row : Option Nat} (hb : W.heap[b]? = some (.cells a t fr)) (hg : W.grownBy W' row) (hr : ∀ r, row = some r → ∃ o : Obj, W.heap[r]? = some o ∧ o.isCells = false) : W'.heap[b]? = W.heap[b]? :=
  hg.block b (Array.getElem?_eq_some_iff.1 hb).1 (fun e => by
    obtain ⟨o, ho, hc⟩ := hr b e.symm
    rw [hb] at ho
    injection ho with ho
    subst ho
    cases hc)
theorem Boxed.below {w w' : World} {B N : Nat} {t : TypeId} {v : Value} (h : Boxed w B t v) (hb : Below N w w') (hB : B < N) : Boxed w' B t v := (hb.block B hB).trans h
theorem ownsRow_cells {W : World} {base D n : Nat} {e : TypeId} {xs : List Value} (h : W.ownsRow base e 1 (.slice (some ⟨D, 0, none⟩) n n) n xs) : ∃ a fr, W.heap[D]? = some (.cells a e fr) := by
  rcases h.2 with ⟨h1, _⟩ | ⟨g, cap, cur, hv, _, hg, _⟩
  · cases h1
  · injection hv with hv
    injection hv with hv
    injection hv with hv
    subst hv
    exact ⟨_, _, hg⟩

/-- Where a loop that puts elements into a new slice is: blocks that stay as they are, the slice. -/
structure PutI (w : World) (D : Nat) (q : IntKind) (EL : TypeId) (n : Nat) (f : Nat → Nat) (g : Nat → Int) (Fx : List (Nat × Array Value × TypeId)) (j : Nat) (W : World) : Prop where
  le : j ≤ n
  fix : ∀ p ∈ Fx, W.heap[p.1]? = some (.cells p.2.1 p.2.2)
  row : W.ownsRow w.heap.size EL 1 (.slice (some ⟨D, 0, none⟩) n n) n ((putL f g n j).map (Value.int q))
  low : Below w.heap.size w W
section
variable {w : World} {D n : Nat} {q : IntKind} {EL : TypeId} {f : Nat → Nat} {g : Nat → Int} {Fx : List (Nat × Array Value × TypeId)}
theorem PutI.own {N : Nat} (hN : w.heap.size ≤ N) : OwnFrom N (PutI w D q EL n f g Fx) := by
  intro j W W' row h hg hr
  have hr' : ∀ r, row = some r → ∃ o : Obj, W.heap[r]? = some o ∧ o.isCells = false := fun r e => (hr r e).2
  obtain ⟨a, fr, ha⟩ := ownsRow_cells h.row
  refine ⟨h.le, fun p hp => (cells_kept (h.fix p hp) hg hr').trans (h.fix p hp), ownsRow_block h.row (fun b hb => ?_), h.low.grown hg h.low.size (fun r e => Nat.le_trans hN (hr r e).1)⟩
  simp only [Value.ownBlock, Option.some.injEq] at hb
  subst hb
  exact cells_kept ha hg hr'
theorem PutI.drewN {j : Nat} {W : World} (h : PutI w D q EL n f g Fx j W) (m : Nat) : PutI w D q EL n f g Fx j (W.drewN m) :=
  ⟨h.le, h.fix, h.row, ⟨h.low.os, h.low.tape, h.low.output, h.low.size, h.low.block⟩⟩
theorem PutI.step {j : Nat} {W : World} (h : PutI w D q EL n f g Fx j W) (hj : j < n) (hF : ∀ p ∈ Fx, p.1 ≠ D) (hD : w.heap.size ≤ D) :
    PutI w D q EL n f g Fx (j + 1) (W.setCell ⟨D, f j, none⟩ (.int q (g j))) :=
  ⟨hj, fun p hp => (Below.heap_setCell _ _ _ _ (hF p hp)).trans (h.fix p hp), putL_set h.row, h.low.setCell (p := ⟨D, f j, none⟩) hD _⟩
theorem PutI.three {j B : Nat} {W : World} {t : TypeId} {x y z : Value} (h : PutI w D q EL n f g Fx j W) (hm : (B, #[x, y, z], t) ∈ Fx) : Three W B t x y z := h.fix _ hm
theorem PutI.boxed {j B : Nat} {W : World} {t : TypeId} {x : Value} (h : PutI w D q EL n f g Fx j W) (hm : (B, #[x], t) ∈ Fx) : Boxed W B t x := h.fix _ hm
end
theorem max_ord {m N : Nat} : max ((m : Int) - (N : Int)) (-1) = ordE N m := ordE_max N m
end Go.Proofs.YtnmkladmohjdnaaDoor
