/-
  Words that any stage needs: slices of integers that are made, appended to, cut; what a function hands back; single operations. (Gathered out of tpl10's texts; names no function of the program.)
-/
import Derived.Test.YtoegamlpgenfcaaDoorApp
import Derived.Test.YtoegamlpgenfcaaDoorQ
import Derived.Test.YtoegamlpgenfcaaDoorT3
import Derived.Test.YtoegamlpgenfcaaDoorGi
import Derived.Shelf.Abstract
import Derived.Deep.RegionHeld3
import Derived.Deep.AppendLies
import Derived.Laws.EntriesVeiled
import Derived.OwnWalkIn
namespace Go.Proofs.YtoegamlpgenfcaaDoor
open Go.RowKit Go.Shelf

theorem drewN_two (w : World) (i j : Nat) : (w.drewN i).drewN j = w.drewN (i + j) := by simp [World.drewN, Nat.add_assoc]
/-- append of one integer. -/
theorem ints_app {w wr : World} {n : Nat} {A : Option Addr} {c : Nat} {xs : List Int} (hO : wr.ownsRow w.heap.size 3 1 (.slice A n c) n (xs.map (Value.int .i64))) (hb : Below w.heap.size w wr) (hn : n < 100000) (x : Int) :
    ∃ A2 c2 w2, (Builtin.append_ #[28, 28] 28 #[.slice A n c, .slice (some ⟨wr.heap.size, 0, none⟩) 1 1]).run Tryd.prog (wr.alloc (.cells #[.int .i64 x] 3)) = .ok (.slice A2 (n + 1) c2) w2 ∧
      w2.ownsRow w.heap.size 3 1 (.slice A2 (n + 1) c2) (n + 1) ((xs ++ [x]).map (Value.int .i64)) ∧ Below w.heap.size w w2 := by
  obtain ⟨i0, hi, hz0, hz1, hz2⟩ := info_q Tryd.info_int
  obtain ⟨A2, c2, w2, h1, h2, h3⟩ := append_one_q (P := Tryd.prog) (q := .i64) (x := x) Tryd.underlying28 hi hz0 hz1 hz2 (by decide) hO (by omega) hb.size
  exact ⟨A2, c2, w2, h1, h2, (hb.alloc hb.size _).grown h3 (by simp; have := hb.size; omega) (fun k hk => (hO.lt k hk).1)⟩
/-- A function hands back a slice of integers of its own and a number. (q, T: the kind, the number of the element type.) -/
def RetQ (q : IntKind) (T : TypeId) (w : World) (r : List Int × Int) (e : Ending) (w' : World) : Prop :=
  ∃ A c, e = .returned (.tuple #[.slice A r.1.length c, .int .i64 r.2]) ∧ w'.ownsRow w.heap.size T 1 (.slice A r.1.length c) r.1.length (r.1.map (Value.int q)) ∧ Below w.heap.size w w'
theorem RetQ.nil_ {q : IntKind} {T : TypeId} {w w' : World} {k : Int} (hb : Below w.heap.size w w') : RetQ q T w ([], k) (.returned (.tuple #[.slice none 0 0, .int .i64 k])) w' := ⟨none, 0, rfl, by simpa using World.ownsRow_nil w' w.heap.size T 1, hb⟩
theorem RetQ.mk_ {q : IntKind} {T : TypeId} {w w' : World} {r : List Int} {A : Option Addr} {n c B : Nat} {k : Int} {e : Ending} (hlen : r.length = n) (hown : w'.ownsRow B T 1 (.slice A n c) n (r.map (Value.int q))) (hB : w.heap.size ≤ B) (hb : Below w.heap.size w w')
    (he : e = .returned (.tuple #[.slice A n c, .int .i64 k])) : RetQ q T w (r, k) e w' := by
  subst hlen
  exact ⟨A, c, he, hown.mono hB, hb⟩
theorem make_ints (n : Nat) (hn : n ≤ 2000000) (u : World) : (Instr.makeSlice 28 (.int .i64 n) (.int .i64 n)).run Tryd.prog u =
    .ok (.slice (some ⟨u.heap.size, 0, none⟩) n n) (u.alloc (.cells (madeCells #[.int .i64 0] n) 3)) := by
  obtain ⟨i0, hi, hz0, hz1, hz2⟩ := info_q Tryd.info_int
  have h := run_make (P := Tryd.prog) u 28 3 i0 (.int .i64 0) Tryd.underlying28 hi hz0 .i64 .i64 (n : Int) (n : Int) (by omega) (by omega) (by rw [hz2]; omega) (by omega)
  simpa [hz1, Value.cells] using h
theorem own_zeros_q {q : IntKind} {T : TypeId} {w : World} {B n : Nat} (hB : B ≤ w.heap.size) (hn : n ≤ 2000000) : (w.alloc (.cells (madeCells #[.int q 0] n) T)).ownsRow B T 1 (.slice (some ⟨w.heap.size, 0, none⟩) n n) n ((List.replicate n (0 : Int)).map (Value.int q)) := by
  refine ⟨by simp, .inr ⟨w.heap.size, n, madeCells #[.int q 0] n, rfl, hB, heap_alloc_new w _, Nat.le_refl _, by unfold maxLen; omega, by simp [madeCells], ?_⟩⟩
  rw [toList_madeCells_one, Nat.mul_one, List.take_replicate, List.map_replicate, Nat.min_self]
theorem ownsRow_block {w w' : World} {base : Nat} {e : TypeId} {v : Value} {n : Nat} {xs : List Value} (h : w.ownsRow base e 1 v n xs) (hk : ∀ g, v.ownBlock = some g → w'.heap[g]? = w.heap[g]?) : w'.ownsRow base e 1 v n xs := by
  refine ⟨h.1, ?_⟩
  rcases h.2 with h2 | ⟨g, cap, cur, rfl, hb, hg, rest⟩
  · exact .inl h2
  · exact .inr ⟨g, cap, cur, rfl, hb, (hk g rfl).trans hg, rest⟩
theorem cells_kept {W W' : World} {b : Nat} {a : Array Value} {t : TypeId} {fr : Nat × Nat} {row : Option Nat} (hb : W.heap[b]? = some (.cells a t fr)) (hg : W.grownBy W' row) (hr : ∀ r, row = some r → ∃ o : Obj, W.heap[r]? = some o ∧ o.isCells = false) : W'.heap[b]? = W.heap[b]? :=
  hg.block b (Array.getElem?_eq_some_iff.1 hb).1 (fun e => by
    obtain ⟨o, ho, hc⟩ := hr b e.symm
    rw [hb] at ho
    injection ho with ho
    subst ho
    cases hc)
theorem Boxed.below {w w' : World} {B N : Nat} {t : TypeId} {v : Value} (h : Boxed w B t v) (hb : Below N w w') (hB : B < N) : Boxed w' B t v := (hb.block B hB).trans h
theorem ownsRow_cells {W : World} {base D n : Nat} {e : TypeId} {xs : List Value} (h : W.ownsRow base e 1 (.slice (some ⟨D, 0, none⟩) n n) n xs) : ∃ a fr, W.heap[D]? = some (.cells a e fr) := by
  rcases h.2 with ⟨h1, _⟩ | ⟨g, cap, cur, hv, _, hg, _⟩
  · cases h1
  · injection hv with hv
    injection hv with hv
    injection hv with hv
    subst hv
    exact ⟨_, _, hg⟩

/-- The list, of which the first j elements have been replaced. -/
def mixL (g : Int → Int) (l : List Int) (j : Nat) : List Int := (l.take j).map g ++ l.drop j
theorem mixL_zero (g : Int → Int) (l : List Int) : mixL g l 0 = l := by simp [mixL]
theorem mixL_all (g : Int → Int) (l : List Int) : mixL g l l.length = l.map g := by simp [mixL]
theorem mixL_length (g : Int → Int) (l : List Int) (j : Nat) : (mixL g l j).length = l.length := by simp [mixL]; omega
theorem mixL_at {g : Int → Int} {l : List Int} {j : Nat} (h : j < l.length) : (mixL g l j)[j]? = l[j]? := by
  unfold mixL
  rw [List.getElem?_append_right (by simp; omega), List.length_map, List.length_take, Nat.min_eq_left (by omega), List.getElem?_drop, Nat.sub_self, Nat.add_zero]
theorem mixL_set {g : Int → Int} {l : List Int} {j : Nat} (h : j < l.length) : (mixL g l j).set j (g (l[j]?.getD 0)) = mixL g l (j + 1) := by
  unfold mixL
  rw [List.set_append_right _ _ (by simp; omega), List.length_map, List.length_take, Nat.min_eq_left (by omega), Nat.sub_self, List.drop_eq_getElem_cons h, List.set_cons_zero, List.take_succ_eq_append_getElem h, List.map_append, List.append_assoc]
  simp [h]
theorem RetQ.got {q : IntKind} {E : TypeId} {w w' : World} {r : List Int} {k : Int} {e : Ending} {n : Nat} (h : RetQ q E w (r, k) e w') (hn : r.length = n) :
    ∃ A c, e = .returned (.tuple #[.slice A n c, .int .i64 k]) ∧ w'.ownsRow w.heap.size E 1 (.slice A n c) n (r.map (Value.int q)) ∧ Below w.heap.size w w' := by
  obtain ⟨A, c, h1, h2, h3⟩ := h
  subst hn
  exact ⟨A, c, h1, h2, h3⟩
/-- A function hands back a slice of integers of its own. -/
def RetI (w : World) (r : List Int) (e : Ending) (w' : World) : Prop :=
  ∃ A c, e = .returned (.slice A r.length c) ∧ w'.ownsRow w.heap.size 3 1 (.slice A r.length c) r.length (r.map (Value.int .i64)) ∧ Below w.heap.size w w'
theorem RetI.mk_ {w w' : World} {r : List Int} {A : Option Addr} {n c B : Nat} {e : Ending} (hlen : r.length = n) (hown : w'.ownsRow B 3 1 (.slice A n c) n (r.map (Value.int .i64))) (hB : w.heap.size ≤ B) (hb : Below w.heap.size w w')
    (he : e = .returned (.slice A n c)) : RetI w r e w' := by
  subst hlen
  exact ⟨A, c, he, hown.mono hB, hb⟩
theorem RetI.got {w w' : World} {r : List Int} {e : Ending} {n : Nat} (h : RetI w r e w') (hn : r.length = n) :
    ∃ A c, e = .returned (.slice A n c) ∧ w'.ownsRow w.heap.size 3 1 (.slice A n c) n (r.map (Value.int .i64)) ∧ Below w.heap.size w w' := by
  obtain ⟨A, c, h1, h2, h3⟩ := h
  subst hn
  exact ⟨A, c, h1, h2, h3⟩
/-- append of two integers. -/
theorem ints_app2 {w wr : World} {n : Nat} {A : Option Addr} {c : Nat} {xs : List Int} (hO : wr.ownsRow w.heap.size 3 1 (.slice A n c) n (xs.map (Value.int .i64))) (hb : Below w.heap.size w wr) (hn : n < 100000) (x y : Int) :
    ∃ A2 c2 w2, (Builtin.append_ #[28, 28] 28 #[.slice A n c, .slice (some ⟨wr.heap.size, 0, none⟩) 2 2]).run Tryd.prog (wr.alloc (.cells #[.int .i64 x, .int .i64 y] 3)) = .ok (.slice A2 (n + 2) c2) w2 ∧
      w2.ownsRow w.heap.size 3 1 (.slice A2 (n + 2) c2) (n + 2) ((xs ++ [x, y]).map (Value.int .i64)) ∧ Below w.heap.size w w2 ∧
      (∀ G, G < wr.heap.size → (Value.slice A n c).ownBlock ≠ some G → w2.heap[G]? = wr.heap[G]? ∧ (Value.slice A2 (n + 2) c2).ownBlock ≠ some G ∧ G < w2.heap.size) := by
  obtain ⟨i0, hi, hz0, hz1, hz2⟩ := info_q Tryd.info_int
  have hO' : (wr.alloc (.cells #[.int .i64 x, .int .i64 y] 3)).ownsRow w.heap.size 3 1 (.slice A n c) n (xs.map (Value.int .i64)) := hO.alloc _
  have hR : Rd .i64 (wr.alloc (.cells #[.int .i64 x, .int .i64 y] 3)) (wr.heap.size + 1) (some ⟨wr.heap.size, 0, none⟩) 2 [x, y] := by
    refine ⟨rfl, fun k hk => ⟨wr.heap.size, 0, rfl, by omega, ?_⟩⟩
    have h1 : (wr.alloc (.cells #[.int .i64 x, .int .i64 y] 3)).heap[wr.heap.size]? = some (.cells #[.int .i64 x, .int .i64 y] 3) := World.alloc_heap_new wr _
    simp only [World.cell?, h1, Nat.zero_add]
    obtain rfl | rfl : k = 0 ∨ k = 1 := by omega
    all_goals rfl
  obtain ⟨V2, w2, h1, h2, h3, h4⟩ := run_append_q (P := Tryd.prog) (q := .i64) (ty := 28) (c' := 2) Tryd.underlying28 hi hz0 hz1 hz2 (by decide) hO' hR (by omega) (by simp; have := hb.size; omega)
  obtain ⟨A2, c2, rfl⟩ := ownsRow_shape h2
  refine ⟨A2, c2, w2, h1, h2, (hb.alloc hb.size _).grown h3 (by simp; have := hb.size; omega) (fun k hk => (hO.lt k hk).1), fun G hG hne => ⟨?_, ?_, ?_⟩⟩
  · exact (h3.block G (by simp; omega) (fun e => hne e.symm)).trans (Below.heap_alloc _ _ _ hG)
  · rcases h4 with h4 | h4
    · rw [h4]; exact hne
    · rw [h4]; simp; omega
  · have := h3.size
    simp at this
    omega
theorem ints_app' {w wr : World} {n : Nat} {A : Option Addr} {c : Nat} {xs : List Int} (hO : wr.ownsRow w.heap.size 3 1 (.slice A n c) n (xs.map (Value.int .i64))) (hb : Below w.heap.size w wr) (hn : n < 1000000) (x : Int) :
    ∃ A2 c2 w2, (Builtin.append_ #[28, 28] 28 #[.slice A n c, .slice (some ⟨wr.heap.size, 0, none⟩) 1 1]).run Tryd.prog (wr.alloc (.cells #[.int .i64 x] 3)) = .ok (.slice A2 (n + 1) c2) w2 ∧
      w2.ownsRow w.heap.size 3 1 (.slice A2 (n + 1) c2) (n + 1) ((xs ++ [x]).map (Value.int .i64)) ∧ Below w.heap.size w w2 := by
  obtain ⟨i0, hi, hz0, hz1, hz2⟩ := info_q Tryd.info_int
  obtain ⟨A2, c2, w2, h1, h2, h3⟩ := append_one_q (P := Tryd.prog) (q := .i64) (x := x) Tryd.underlying28 hi hz0 hz1 hz2 (by decide) hO hn hb.size
  exact ⟨A2, c2, w2, h1, h2, (hb.alloc hb.size _).grown h3 (by simp; have := hb.size; omega) (fun k hk => (hO.lt k hk).1)⟩
theorem mapP_succ {g : Int → Int} {l : List Int} {j : Nat} {S : Nat} (hl : l.length = S) (h : j < S) : (l.take j).map g ++ [g (l[j]?.getD 0)] = (l.take (j + 1)).map g := by
  have hj : j < l.length := by omega
  rw [List.take_succ_eq_append_getElem hj, List.map_append, List.getElem?_eq_getElem hj]
  rfl
/-- A region by the walk inside a fence; what follows stays shut. -/
theorem wp_region_shut {id d : Nat} {P : Program} {ops : Array Oper} {b : Bool} {Q : Exit → Act → World → Prop} {a : Act} {w : World} (h : ∀ K : Exit → Act → World → Prop, (∀ a w, Q .normal a w → K .normal a w) → (Code.region id ops b).wpIn Fence.wide d P K a w) : (Code.region id ops b).wp P Q a w :=
  wpIn_wide.1 (h Q fun _ _ h => h)
theorem wpListIn_append_run {F : Fence} {n : Nat} {P : Program} {w w2 : World} {ops : Array Oper} {rest : List Oper} {o : Oper} {a : Act} {Q : Exit → Act → World → Prop}
    (hg : o.guard = none) (s x : Operand) (t : TypeId) (hop : o.op = Op.call { callee := Callee.builtin Builtin.append, args := #[s, x], argTypes := #[t, t] })
    (v1 v2 v' : Value) (hs : a.eval s = v1) (hx : a.eval x = v2) (hrun : (Builtin.append_ #[t, t] o.type #[v1, v2]).run P w = .ok v' w2)
    (hK : wpListIn F n P ops Q rest (a.put o.dst v') w2) : wpListIn F n P ops Q (o :: rest) a w := by
  refine wpListIn_plain hg fun K hK' => ?_
  unfold Oper.wpIn
  refine ⟨?_, ?_⟩
  · simp [Oper.about, hop, resolve, Target.leads, Sem.run_pure]
  · rw [Oper.semAt_plain F _ _ (by rw [hop]; intro c hc'; cases hc')]
    simp [execOp, hop, resolve, invoke, builtin, hs, hx, hrun, Result.andThen]
    exact hK' _ _ hK
theorem step_append_run {P : Program} {ops : Array Oper} {o : Oper} {a : Act} {w w2 : World} {v vs vx : Value} {K : Act → World → Prop} {Q : Exit → Act → World → Prop} {E : Prop}
    (hg : o.guard = none) (s x : Operand) (t : TypeId) (hop : o.op = Op.call { callee := Callee.builtin Builtin.append, args := #[s, x], argTypes := #[t, t] }) (hs : a.eval s = vs) (hx : a.eval x = vx)
    (hrun : (Builtin.append_ #[t, t] o.type #[vs, vx]).run P w = .ok v w2) (hK : K (a.put o.dst v) w2) :
    if Region.wanted o (yielded ops a.tmps) = true then Oper.wp P o a w K Q else E := by
  have hw : Region.wanted o (yielded ops a.tmps) = true := by simp [Region.wanted, hg]
  rw [if_pos hw]
  unfold Oper.wp
  simp [execOp, hop, resolve, invoke, builtin, hs, hx, hrun, Result.andThen]
  exact hK
theorem Rd.front {q : IntKind} {w : World} {B n m : Nat} {A : Option Addr} {xs : List Int} (h : Rd q w B A n xs) (hm : m ≤ n) : Rd q w B A m (xs.take m) := by
  refine ⟨by rw [List.length_take, h.len]; omega, fun k hk => ?_⟩
  obtain ⟨b, off, e, hb, hc⟩ := h.cells k (by omega)
  exact ⟨b, off, e, hb, by rw [hc, List.getElem?_take, if_pos hk]⟩
theorem lit4 {w : World} (a b c d : Int) (t : TypeId) : Rd .i64 (w.alloc (.cells #[.int .i64 a, .int .i64 b, .int .i64 c, .int .i64 d] t)) (w.alloc (.cells #[.int .i64 a, .int .i64 b, .int .i64 c, .int .i64 d] t)).heap.size (some ⟨w.heap.size, 0, none⟩) 4 [a, b, c, d] := by
  refine ⟨rfl, fun k hk => ⟨w.heap.size, 0, rfl, by simp, ?_⟩⟩
  have h1 : (w.alloc (.cells #[.int .i64 a, .int .i64 b, .int .i64 c, .int .i64 d] t)).heap[w.heap.size]? = some (.cells #[.int .i64 a, .int .i64 b, .int .i64 c, .int .i64 d] t) := World.alloc_heap_new w _
  simp only [World.cell?, h1, Nat.zero_add]
  obtain rfl | rfl | rfl | rfl : k = 0 ∨ k = 1 ∨ k = 2 ∨ k = 3 := by omega
  all_goals rfl
theorem slice_ints {A : Option Addr} {n c m : Nat} (hm : m ≤ c) (u : World) : (Instr.slice 28 (.slice A n c) none (some (.int .i64 (m : Int))) none).run Tryd.prog u = .ok (.slice A m c) u := by
  rcases A with _ | a
  · simp [Instr.slice, Instr.sliceBounds, Instr.sliceBound, run_underlying Tryd.underlying28, asIntOf, go_sem, hm]
  · simp [Instr.slice, Instr.sliceBounds, Instr.sliceBound, run_underlying Tryd.underlying28, asIntOf, go_sem, hm]
theorem own_made {v : Value} {T : TypeId} {w : World} {B n : Nat} (hB : B ≤ w.heap.size) (hn : n ≤ 2000000) : (w.alloc (.cells (madeCells #[v] n) T)).ownsRow B T 1 (.slice (some ⟨w.heap.size, 0, none⟩) n n) n (List.replicate n v) := by
  refine ⟨by simp, .inr ⟨w.heap.size, n, madeCells #[v] n, rfl, hB, heap_alloc_new w _, Nat.le_refl _, by unfold maxLen; omega, by simp [madeCells], ?_⟩⟩
  rw [toList_madeCells_one, Nat.mul_one, List.take_replicate, Nat.min_self]
section
variable {ρ : Operand → Value} {w : World} {dst : Option Tmp} {ty : TypeId} {pos : String} {after : Array Edge} {guard : Option (Nat × Bool)} {x ix : Operand}
theorem ex_move {P : Program} {v : Value} (h : ρ x = v) : (execOp ρ { dst := dst, op := .move x, type := ty, pos := pos, after := after, guard := guard }).run P w = .ok (.value v) w := by
  subst h; rfl
theorem ex_load_int {b off : Nat} {v : Int} (hx : ρ x = .pointer (some ⟨b, off, none⟩)) (hc : w.cell? ⟨b, off, none⟩ = some (.int .i64 v)) :
    (execOp ρ { dst := dst, op := .load 3 x, type := ty, pos := pos, after := after, guard := guard }).run Tryd.prog w = .ok (.value (.int .i64 v)) w := by
  simp [execOp, hx, hc, go_sem]
theorem ex_load_ints {b off n c : Nat} {A : Option Addr} (hx : ρ x = .pointer (some ⟨b, off, none⟩)) (hc : w.cell? ⟨b, off, none⟩ = some (.slice A n c)) :
    (execOp ρ { dst := dst, op := .load 28 x, type := ty, pos := pos, after := after, guard := guard }).run Tryd.prog w = .ok (.value (.slice A n c)) w := by
  simp [execOp, hx, hc, go_sem]
theorem ex_index_ints {b n c j : Nat} {z : Int} (hz : z = (j : Int)) (hx : ρ x = .slice (some ⟨b, 0, none⟩) n c) (hi : ρ ix = .int .i64 z) (hj : j < n) :
    (execOp ρ { dst := dst, op := .indexAddr 28 x ix, type := ty, pos := pos, after := after, guard := guard }).run Tryd.prog w = .ok (.value (.pointer (some ⟨b, j, none⟩))) w := by
  subst hz
  have h2 : (j : Int) < (n : Int) := by omega
  simp [execOp, hx, hi, h2, go_sem, Addr.add_lit]
theorem ex_len {A : Option Addr} {n c : Nat} (hx : ρ x = .slice A n c) :
    (execOp ρ { dst := dst, op := .call { callee := .builtin .len, args := #[x], argTypes := #[28] }, type := ty, pos := pos, after := after, guard := guard }).run Tryd.prog w = .ok (.value (.int .i64 (n : Int))) w := by
  simp [hx, go_sem]
theorem ex_sub {a b : Int} (hx : ρ x = .int .i64 a) (hi : ρ ix = .int .i64 b) (hw : IntKind.i64.wrap (a - b) = a - b) :
    (execOp ρ { dst := dst, op := .binOp .sub 3 x ix 3, type := ty, pos := pos, after := after, guard := guard }).run Tryd.prog w = .ok (.value (.int .i64 (a - b))) w := by
  simp [execOp, hx, hi, go_sem, hw]
theorem ex_one {u : Int} (hx : ρ x = .int .i64 u) :
    (execOp ρ { dst := dst, op := .buildSlice 28 1 #[(0, x)], type := ty, pos := pos, after := after, guard := guard }).run Tryd.prog w = .ok (.value (.slice (some ⟨w.heap.size, 0, none⟩) 1 1)) (w.alloc (.cells #[.int .i64 u] 3)) := by
  simp [execOp, hx, go_sem]
theorem ex_append_run {P : Program} {t : TypeId} {v1 v2 v' : Value} {w2 : World} (hs : ρ x = v1) (hx : ρ ix = v2) (hrun : (Builtin.append_ #[t, t] ty #[v1, v2]).run P w = .ok v' w2) :
    (execOp ρ { dst := dst, op := .call { callee := .builtin .append, args := #[x, ix], argTypes := #[t, t] }, type := ty, pos := pos, after := after, guard := guard }).run P w = .ok (.value v') w2 := by
  simp [execOp, resolve, invoke, builtin, hs, hx, hrun, Result.andThen]
theorem ex_store_ints {B : Nat} {A A' : Option Addr} {n c n' c' : Nat} (hb : Boxed w B 28 (.slice A n c)) (hx : ρ x = .pointer (some ⟨B, 0, none⟩)) (hi : ρ ix = .slice A' n' c') :
    (execOp ρ { dst := none, op := .store 28 x ix, type := ty, pos := pos, after := after, guard := guard }).run Tryd.prog w = .ok .skip (w.setCell ⟨B, 0, none⟩ (.slice A' n' c')) := by
  have h1 := hb.cell
  have h2 := hb.frozen
  simp [execOp, hx, hi, go_sem, h1, h2]
end
/-- A region's operations. -/
noncomputable def opsOf (id : Nat) : Code → Option (Array Oper)
  | .region i ops _ => if i = id then some ops else none
  | .seq a b => (opsOf id a).orElse fun _ => opsOf id b
  | .block _ a => opsOf id a
  | .loop a => opsOf id a
  | .scope a => opsOf id a
  | .cond _ a b => (opsOf id a).orElse fun _ => opsOf id b
  | _ => none
end Go.Proofs.YtoegamlpgenfcaaDoor
