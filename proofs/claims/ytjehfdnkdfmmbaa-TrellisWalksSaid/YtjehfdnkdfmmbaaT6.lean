/-
  Encode.
-/
import Derived.Test.YtjehfdnkdfmmbaaT5
namespace Go.Proofs.Ytjehfdnkdfmmbaa
open Go.RowKit Go.Shelf BigFrame

attribute [local go_sem] Oper.semAt_some

theorem wpIn_wide_scope_forward {P : Program} {n : Nat} {a : Act} {w : World} {Q : Exit → Act → World → Prop} {c rest : Code} (l : Nat) (hf : findLabel c l = some rest)
    (first : c.wpIn Fence.wide n P (Exit.jump l (fun a w => rest.wpIn Fence.wide n P (Exit.noGoto Q) a w) Q) a w) : (Code.scope c).wpIn Fence.wide n P Q a w :=
  wpIn_wide.2 (wp_scope_forward l hf (Code.wp_mono (fun e a w h => by
    cases e with
    | goto l' => exact ⟨h.1, wpIn_wide.1 h.2⟩
    | _ => exact h) (wpIn_wide.1 first)))
theorem wpListIn_append_run {F : Fence} {n : Nat} {P : Program} {w w2 : World} {ops : Array Oper} {rest : List Oper} {o : Oper} {a : Act} {Q : Exit → Act → World → Prop}
    (hg : o.guard = none) (s x : Operand) (t : TypeId) (hop : o.op = Op.call { callee := Callee.builtin Builtin.append, args := #[s, x], argTypes := #[t, t] })
    (v1 v2 v' : Value) (hs : a.eval s = v1) (hx : a.eval x = v2) (hrun : (Builtin.append_ #[t, t] o.type #[v1, v2]).run P w = .ok v' w2)
    (hK : wpListIn F n P ops Q rest (a.put o.dst v') w2) : wpListIn F n P ops Q (o :: rest) a w := by
  refine wpListIn_plain hg fun K hK' => ?_
  unfold Oper.wpIn
  refine ⟨?_, ?_⟩
  · simp [Oper.about, hop, resolve, Target.leads, Sem.run_pure]
  · rw [Oper.semAt_plain F _ _ (by rw [hop]; intro c hc'; cases hc')]
    simp [execOp, hop, resolve, invoke, builtin, hs, hx, hrun, Result.andThen]
    exact hK' _ _ hK
/-- A function with one mark returns. -/
theorem leaves_one {P : Program} {F : Fence} {n : Nat} {fn : Func} {tmps : Array Value} {R : Ending → World → Prop} {D : Nat} {w : World} (hD : w.heap[D]? = some (.deferred (some [])))
    (h : ∃ v, (results fn tmps).run P (w.putObj D (.deferred none)) = .ok v (w.putObj D (.deferred none)) ∧ R (.returned v) (w.putObj D (.deferred none))) : LeavesInM F n P fn tmps R [mkD D] .returning w :=
  ⟨by simp, .inl ⟨D, _, rfl, run_takeDeferred hD, h⟩⟩
theorem below_put {B : Nat} {v w : World} (h : Below B v w) {D : Nat} (o : Obj) (hD : B ≤ D) (hv : B ≤ v.heap.size) : Below B v (w.putObj D o) := h.grown (grownBy_putObj' w D o) (Nat.le_trans hv h.size) (fun k e => by cases e; exact hD)
theorem Boxed.putOther {w : World} {B D : Nat} {t : TypeId} {v : Value} (h : Boxed w B t v) (o : Obj) (hne : B ≠ D) : Boxed (w.putObj D o) B t v := h.kept (grownBy_putObj' w D o) (fun e => hne (by injection e))
/-- append of one byte: where the new row lies. -/
theorem append_byte {w : World} {base : Nat} {A : Option Addr} {n c : Nat} {xs : List Int} {x : Int} (hO : w.ownsRow base 5 1 (.slice A n c) n (xs.map (Value.int .u8))) (hn : n < 2199023255552) (hb : base ≤ w.heap.size) :
    ∃ A2 c2 w2, (Builtin.append_ #[36, 36] 36 #[.slice A n c, .slice (some ⟨w.heap.size, 0, none⟩) 1 1]).run Try.prog (w.alloc (.cells #[.int .u8 x] 5)) = .ok (.slice A2 (n + 1) c2) w2 ∧
      w2.ownsRow base 5 1 (.slice A2 (n + 1) c2) (n + 1) ((xs ++ [x]).map (Value.int .u8)) ∧ (w.alloc (.cells #[.int .u8 x] 5)).grownBy w2 (Value.slice A n c).ownBlock ∧ ((Value.slice A2 (n + 1) c2).ownBlock = (Value.slice A n c).ownBlock ∨ (Value.slice A2 (n + 1) c2).ownBlock = some (w.heap.size + 1)) := by
  obtain ⟨i0, hi, hz0, hz1, hz2⟩ := info_parts Try.info_u8
  have hO' : (w.alloc (.cells #[.int .u8 x] 5)).ownsRow base 5 1 (.slice A n c) n (xs.map (Value.int .u8)) := hO.alloc _
  have hR : Rd .u8 (w.alloc (.cells #[.int .u8 x] 5)) (w.heap.size + 1) (some ⟨w.heap.size, 0, none⟩) 1 [x] := by
    refine ⟨rfl, fun k hk => ⟨w.heap.size, 0, rfl, by omega, ?_⟩⟩
    obtain rfl : k = 0 := by omega
    simp
  obtain ⟨V2, w2, h1, h2, h3, h4⟩ := run_append_rd_at (P := Try.prog) (t := 36) (ty := 36) (c' := 1) Try.underlying36 hi hz0 hz1 hz2 hO' hR (by omega) (by simp; omega)
  obtain ⟨A2, c2, rfl⟩ := ownsRow_shape h2
  rw [World.size_alloc] at h4
  exact ⟨A2, c2, w2, h1, h2, h3, h4⟩
/-- The parity bits of the first k elements. -/
def paL (xs : List Int) (k : Nat) : List Int := (List.range k).map (paK xs)
theorem paL_length (xs : List Int) (k : Nat) : (paL xs k).length = k := by simp [paL]
theorem paL_snoc (xs : List Int) (k : Nat) : paL xs (k + 1) = paL xs k ++ [paK xs k] := by simp [paL, List.range_succ]
/-- Where Encode's loop is. -/
structure EncI (w : World) (E C : Nat) (A : Option Addr) (L c : Nat) (xs : List Int) (k : Nat) (W : World) : Prop where
  le : k ≤ L
  bits : ∀ j, j < k → xs[j]?.getD 0 ≤ 1
  pbox : ∃ V, Boxed W w.heap.size 36 V ∧ W.ownsRow (w.heap.size + 2) 5 1 V k ((paL xs k).map (Value.int .u8)) ∧ V.ownBlock ≠ some E
  sbox : Boxed W (w.heap.size + 1) 3 (.int .i64 (stK xs k : Nat))
  cbox : Boxed W C 36 (.slice A L c)
  inp : Rd .u8 W w.heap.size A L xs
  low : Below w.heap.size w W
theorem ownsRow_block {w w' : World} {base : Nat} {e : TypeId} {v : Value} {n : Nat} {xs : List Value} (h : w.ownsRow base e 1 v n xs) (hk : ∀ g, v.ownBlock = some g → w'.heap[g]? = w.heap[g]?) : w'.ownsRow base e 1 v n xs := by
  refine ⟨h.1, ?_⟩
  rcases h.2 with h2 | ⟨g, cap, cur, rfl, hb, hg, rest⟩
  · exact .inl h2
  · exact .inr ⟨g, cap, cur, rfl, hb, (hk g rfl).trans hg, rest⟩
theorem cells_kept {W W' : World} {b : Nat} {a : Array Value} {t : TypeId} {fr : Nat × Nat} {row : Option Nat} (hb : W.heap[b]? = some (.cells a t fr)) (hg : W.grownBy W' row) (hr : ∀ r, row = some r → ∃ o : Obj, W.heap[r]? = some o ∧ o.isCells = false) : W'.heap[b]? = W.heap[b]? :=
  hg.block b (Array.getElem?_eq_some_iff.1 hb).1 (fun e => by
    obtain ⟨o, ho, hc⟩ := hr b e.symm
    rw [hb] at ho
    injection ho with ho
    subst ho
    cases hc)
theorem ownsRow_block_of {W : World} {base n g : Nat} {e : TypeId} {v : Value} {xs : List Value} (h : W.ownsRow base e 1 v n xs) (hg : v.ownBlock = some g) : ∃ a fr, W.heap[g]? = some (.cells a e fr) := by
  rcases h.2 with ⟨h1, _⟩ | ⟨g', cap, cur, hv, _, hg', _⟩
  · subst h1; cases hg
  · subst hv
    simp only [Value.ownBlock, Option.some.injEq] at hg
    subst hg
    exact ⟨_, _, hg'⟩
section
variable {w : World} {E C : Nat} {A : Option Addr} {L c : Nat} {xs : List Int} {k : Nat} {W W' : World}
theorem EncI.keep (h : EncI w E C A L c xs k W) (hb : Below w.heap.size w W') (hlow : ∀ b, b < w.heap.size → W'.heap[b]? = W.heap[b]?) (hk : ∀ b a t fr, W.heap[b]? = some (.cells a t fr) → b ≠ E → W'.heap[b]? = W.heap[b]?) (h1 : w.heap.size + 1 < E) (h2 : C < E) : EncI w E C A L c xs k W' := by
  obtain ⟨V, hV, hO, hE⟩ := h.pbox
  refine ⟨h.le, h.bits, ⟨V, (hk _ _ _ _ hV (by omega)).trans hV, ownsRow_block hO (fun g hg => ?_), hE⟩, (hk _ _ _ _ h.sbox (by omega)).trans h.sbox, (hk _ _ _ _ h.cbox (by omega)).trans h.cbox, h.inp.keep (fun p hp => World.cell?_of_block (hlow _ hp)), hb⟩
  obtain ⟨a, fr, ha⟩ := ownsRow_block_of hO hg
  exact hk _ _ _ _ ha (fun e => hE (by rw [hg, e]))
theorem EncI.own {N : Nat} (hN : w.heap.size ≤ N) (h1 : w.heap.size + 1 < E) (h2 : C < E) : OwnFrom N (EncI w E C A L c xs) := by
  intro k W W' row h hg hr
  have hr' : ∀ r, row = some r → ∃ o : Obj, W.heap[r]? = some o ∧ o.isCells = false := fun r e => (hr r e).2
  refine h.keep (h.low.grown hg h.low.size (fun r e => Nat.le_trans hN (hr r e).1)) (fun b hb => hg.block b (Nat.lt_of_lt_of_le hb h.low.size) (fun e => by have := (hr b e.symm).1; omega)) (fun b a t fr hb _ => cells_kept hb hg hr') h1 h2
theorem EncI.span (h1 : w.heap.size + 1 < E) (h2 : C < E) : SpanFrom E 1 (EncI w E C A L c xs) := by
  intro k W W' r h hg hr1 hr2
  obtain rfl : r = E := by omega
  exact h.keep (h.low.grown hg h.low.size (fun q e => by cases e; omega)) (fun b hb => hg.block b (Nat.lt_of_lt_of_le hb h.low.size) (fun e => by injection e with e; omega)) (fun b a t fr hb hne => hg.block b (Array.getElem?_eq_some_iff.1 hb).1 (fun e => hne (by injection e))) h1 h2
end
/-- The blocks behind one append. -/
theorem EncI.step {w : World} {E C : Nat} {A : Option Addr} {L c : Nat} {xs : List Int} {k : Nat} {W w2 : World} {A1 A2 : Option Addr} {c1 c2 : Nat} {x : Int} (h : EncI w E C A L c xs k W) (hk : k < L) (h1 : w.heap.size + 1 < E) (hC : w.heap.size + 1 < C) (hE : E < W.heap.size) (hx : paK xs k = x) (hx1 : xs[k]?.getD 0 ≤ 1)
    (hV : Boxed W w.heap.size 36 (.slice A1 k c1)) (hO : W.ownsRow (w.heap.size + 2) 5 1 (.slice A1 k c1) k ((paL xs k).map (Value.int .u8))) (hne : (Value.slice A1 k c1).ownBlock ≠ some E)
    (hO2 : w2.ownsRow (w.heap.size + 2) 5 1 (.slice A2 (k + 1) c2) (k + 1) ((paL xs k ++ [x]).map (Value.int .u8))) (hg : (W.alloc (.cells #[.int .u8 x] 5)).grownBy w2 (Value.slice A1 k c1).ownBlock) (hp : (Value.slice A2 (k + 1) c2).ownBlock = (Value.slice A1 k c1).ownBlock ∨ (Value.slice A2 (k + 1) c2).ownBlock = some (W.heap.size + 1)) :
    Boxed w2 w.heap.size 36 (.slice A1 k c1) ∧ Boxed w2 (w.heap.size + 1) 3 (.int .i64 (stK xs k : Nat)) ∧
    (EncI w E C A L c xs (k + 1) ((w2.setCell ⟨w.heap.size, 0, none⟩ (.slice A2 (k + 1) c2)).setCell ⟨w.heap.size + 1, 0, none⟩ (.int .i64 (stK xs (k + 1) : Nat)))) ∧ KeepsOthers W ((w2.setCell ⟨w.heap.size, 0, none⟩ (.slice A2 (k + 1) c2)).setCell ⟨w.heap.size + 1, 0, none⟩ (.int .i64 (stK xs (k + 1) : Nat))) ∧
    ((w2.setCell ⟨w.heap.size, 0, none⟩ (.slice A2 (k + 1) c2)).setCell ⟨w.heap.size + 1, 0, none⟩ (.int .i64 (stK xs (k + 1) : Nat))).heap[E]? = W.heap[E]? := by
  have tne : (36 : TypeId) ≠ 5 := by decide
  have tne2 : (3 : TypeId) ≠ 5 := by decide
  have hlw := h.low.size
  have hv2 : Boxed w2 w.heap.size 36 (.slice A1 k c1) := (hV.alloc _).kept hg (hV.not_row tne hO)
  have hs2 : Boxed w2 (w.heap.size + 1) 3 (.int .i64 (stK xs k : Nat)) := (h.sbox.alloc _).kept hg (h.sbox.not_row tne2 hO)
  have hc2 : Boxed w2 C 36 (.slice A L c) := (h.cbox.alloc _).kept hg (h.cbox.not_row tne hO)
  have hEk : w2.heap[E]? = W.heap[E]? := (hg.block E (by simp; omega) (fun e => hne e.symm)).trans (Below.heap_alloc _ _ _ hE)
  have hbw : Below w.heap.size w w2 := ((h.low.alloc hlw _).grown hg (by simp; omega) (fun j ej => by have := (hO.lt j ej).1; omega))
  have hko : KeepsOthers W w2 := (KeepsOthers.alloc W _).trans (KeepsOthers.of_grownBy hg fun j o ej hj => by
    obtain ⟨a, fr, ha⟩ := ownsRow_block_of (hO.alloc _) ej
    rw [ha] at hj; cases hj; rfl)
  have b1 : (w2.setCell ⟨w.heap.size, 0, none⟩ (.slice A2 (k + 1) c2)).heap.size = w2.heap.size := by simp [World.setCell]
  refine ⟨hv2, hs2, ⟨hk, fun j hj => ?_, ⟨.slice A2 (k + 1) c2, (hv2.set _).other (by omega) _, ?_, ?_⟩, (hs2.other (by omega) _).set _, (hc2.other (by omega) _).other (by omega) _, ?_, ?_⟩, (hko.trans (KeepsOthers.setCell _ _ _)).trans (KeepsOthers.setCell _ _ _), ?_⟩
  · rcases Nat.lt_or_ge j k with h' | h'
    · exact h.bits j h'
    · obtain rfl : j = k := by omega
      exact hx1
  · rw [paL_snoc, hx]
    refine ownsRow_block hO2 (fun g hg' => ?_)
    have := (hO2.lt g hg').1
    rw [Below.heap_setCell _ _ _ _ (by dsimp only; omega), Below.heap_setCell _ _ _ _ (by dsimp only; omega)]
  · rcases hp with hp | hp
    · rw [hp]; exact hne
    · rw [hp]; intro e; injection e with e; omega
  · exact h.inp.keep (fun p hp => World.cell?_of_block (by
      rw [Below.heap_setCell _ _ _ _ (by dsimp only; omega), Below.heap_setCell _ _ _ _ (by dsimp only; omega)]
      exact (hbw.block p.block hp).trans (h.low.block p.block hp).symm))
  · exact (hbw.setCell (p := ⟨w.heap.size, 0, none⟩) (Nat.le_refl _) _).setCell (p := ⟨w.heap.size + 1, 0, none⟩) (by dsimp only; omega) _
  · rw [Below.heap_setCell _ _ _ _ (by dsimp only; omega), Below.heap_setCell _ _ _ _ (by dsimp only; omega)]
    exact hEk
theorem EncI.valid {w : World} {E C : Nat} {A : Option Addr} {L c : Nat} {xs : List Int} {W : World} (h : EncI w E C A L c xs L W) : validB xs = true := by
  simp only [validB, List.all_eq_true, decide_eq_true_eq]
  intro x hx
  obtain ⟨j, hj, rfl⟩ := List.getElem_of_mem hx
  have := h.bits j (by rw [← h.inp.len]; exact hj)
  simpa [hj] using this
/-- What Encode hands back. -/
def RetE (w : World) (r : List Int) (s : Nat) (no : Int) (e : Ending) (w' : World) : Prop :=
  ∃ A' c', e = .returned (.tuple #[.slice A' r.length c', .int .i64 (s : Int), .int .i64 no]) ∧ w'.ownsRow w.heap.size 5 1 (.slice A' r.length c') r.length (r.map (Value.int .u8)) ∧ Below w.heap.size w w'
def encR (xs : List Int) : List Int := if validB xs then paL xs xs.length else []
def encN (xs : List Int) : Nat := if validB xs then stK xs xs.length else 0
def encE (xs : List Int) : Int := if validB xs then 0 else 3
theorem Encode_results {W : World} {tmps : Array Value} {B B' : Nat} {V : Value} {x k : Int} (h2 : tmps.getD 2 undef = .pointer (some ⟨B, 0, none⟩)) (h3 : tmps.getD 3 undef = .pointer (some ⟨B', 0, none⟩)) (h4 : tmps.getD 4 undef = .int .i64 k) (hL : Boxed W B 36 V) (hL' : Boxed W B' 3 (.int .i64 x)) (hV : ∃ A n c, V = .slice A n c) :
    (results Try.f17 tmps).run Try.prog W = .ok (.tuple #[V, .int .i64 x, .int .i64 k]) W := by
  have c0 := hL.cell
  have d0 := hL'.cell
  obtain ⟨A, n, c, rfl⟩ := hV
  simp only [Array.getD_eq_getD_getElem?] at h2 h3 h4
  simp [results, Try.results17, go_sem, h2, h3, h4, c0, d0]
theorem RetE.mk_ {w w' : World} {A : Option Addr} {k c s B : Nat} {r : List Int} {no : Int} (hk : r.length = k) (ho : w'.ownsRow B 5 1 (.slice A k c) k (r.map (Value.int .u8))) (hB : w.heap.size ≤ B) (hb : Below w.heap.size w w') : RetE w r s no (.returned (.tuple #[.slice A k c, .int .i64 (s : Int), .int .i64 no])) w' := by
  subst hk
  exact ⟨A, c, rfl, ho.mono hB, hb⟩
set_option maxRecDepth 100000 in
set_option maxHeartbeats 8000000 in
theorem Encode_in {n : Nat} (hn : 6 ≤ n) {A : Option Addr} {L c : Nat} {xs : List Int} {w : World} (hI : Rd .u8 w w.heap.size A L xs) (hb : Byte xs) (hL : L ≤ 2199023255552) :
    CallsIn Fence.wide n Try.prog 17 #[.slice A L c] w (RetE w (encR xs) (encN xs) (encE xs)) := by
  have hmk : ∀ u : World, (Instr.makeSlice 36 (.int .i64 0) (.int .i64 L)).run Try.prog u = .ok (.slice (some ⟨u.heap.size, 0, none⟩) 0 L) (u.alloc (.cells (madeCells #[.int .u8 0] L) 5)) := make_bytes L 0 (Nat.zero_le _) (by omega)
  have hst := Lib.hid (fun (u : World) => steps_any (A := A) (n := L) (c := c) (w := u))
  refine callsIn_of_wp_marks Try.func17 rfl trivial ?_ rfl
  simp only [Try.ntmps17, List.size_toArray, List.length_cons, List.length_nil, Nat.reduceAdd, Nat.reduceSub, Array.replicate_succ, Array.replicate_zero, List.push_toArray, List.append_toArray, List.nil_append, List.cons_append]
  gi_wp2
  refine wpIn_wide_scope_forward 0 rfl ?_
  gi_wp2
  have hW3 : (((w.alloc (.cells #[.slice (some ⟨w.heap.size + 1 + 1, 0, none⟩) 0 L] 36)).alloc (.cells #[.int .i64 0] 3)).alloc (.cells (madeCells #[.int .u8 0] L) 5)).heap.size = w.heap.size + 3 := by simp
  have p0 := (Boxed.new w 36 (.slice (some ⟨w.heap.size + 1 + 1, 0, none⟩) 0 L))
  have p1 := p0.alloc (.cells #[.int .i64 0] 3)
  have p2 := p1.alloc (.cells (madeCells #[.int .u8 0] L) 5)
  have q1 := Boxed.new (w.alloc (.cells #[.slice (some ⟨w.heap.size + 1 + 1, 0, none⟩) 0 L] 36)) 3 (.int .i64 0)
  rw [World.size_alloc] at q1
  have q2 := q1.alloc (.cells (madeCells #[.int .u8 0] L) 5)
  have r2 := own_zeros (w := (w.alloc (.cells #[.slice (some ⟨w.heap.size + 1 + 1, 0, none⟩) 0 L] 36)).alloc (.cells #[.int .i64 0] 3)) (B := w.heap.size + 2) (n := L) (m := 0) (by simp) (by omega) (Nat.zero_le _)
  rw [World.size_alloc, World.size_alloc] at r2
  have hb3 : Below w.heap.size w (((w.alloc (.cells #[.slice (some ⟨w.heap.size + 1 + 1, 0, none⟩) 0 L] 36)).alloc (.cells #[.int .i64 0] 3)).alloc (.cells (madeCells #[.int .u8 0] L) 5)) := (below_two _ _).alloc (by simp; omega) _
  generalize ((w.alloc (.cells #[.slice (some ⟨w.heap.size + 1 + 1, 0, none⟩) 0 L] 36)).alloc (.cells #[.int .i64 0] 3)).alloc (.cells (madeCells #[.int .u8 0] L) 5) = W3 at *
  clear p0 p1 q1
  refine ⟨trivial, fun _ => by omega, ?_⟩
  refine (callsIn_wide.2 (hst.out _)).mono ?_
  rintro e w4 ⟨rfl, rfl⟩
  rw [hW3]
  have p3 := p2.alloc (.cells #[.slice A L c] 36)
  have q3 := q2.alloc (.cells #[.slice A L c] 36)
  have r3 := r2.alloc (.cells #[.slice A L c] 36)
  have cb := Boxed.new W3 36 (.slice A L c)
  rw [hW3] at cb
  have hb4 := hb3.alloc hb3.size (.cells #[.slice A L c] 36)
  have hs4 : (W3.alloc (.cells #[.slice A L c] 36)).heap.size = w.heap.size + 4 := by simp [hW3]
  generalize W3.alloc (.cells #[.slice A L c] 36) = W4 at *
  have hI0 : EncI w (w.heap.size + 6) (w.heap.size + 3) A L c xs 0 W4 := ⟨Nat.zero_le _, fun j hj => absurd hj (Nat.not_lt_zero j), ⟨_, p3, by simpa [paL] using r3, by simp [Value.ownBlock]⟩, q3, cb, hI.below hb4, hb4⟩
  have HI := Lib.hid hI
  have HB := Lib.hid hb
  clear p2 q2 r2 hb3 p3 q3 r3 cb hb4 hst hmk hI hW3
  gi_wp2
  refine wpIn_steps (n := n) (xs := xs) (A := A) (L := L) (c := c) (C := w.heap.size + 3) (Bx := w.heap.size) (by omega) hb (by omega) rfl rfl
    (EncI w (w.heap.size + 6) (w.heap.size + 3) A L c xs) (fun cd W => cd = .goto 0 ∧ validB xs = false ∧ Below w.heap.size w W ∧ (∃ V, Boxed W w.heap.size 36 V) ∧ ∃ v, Boxed W (w.heap.size + 1) 3 v)
    (EncI.own (by omega) (by omega) (by omega)) ?own (by rw [hs4]; exact EncI.span (by omega) (by omega)) (fun _ h => h.cbox.cell) (fun _ _ h => h.inp) hI0
    (fun k => { tmps := #[.slice A L c, undef, .pointer (some ⟨w.heap.size, 0, none⟩), .pointer (some ⟨w.heap.size + 1, 0, none⟩), .int .i64 0, .int .i64 (stK xs (k + 1) : Nat), .int .i64 (paK xs k), .slice A L c, .int .i64 (L : Int), .slice (some ⟨w.heap.size + 1 + 1, 0, none⟩) 0 L, .slice A L c, .func (.func 42) #[] #[.pointer (some ⟨w.heap.size + 3, 0, none⟩)], .int .i64 (stK xs (k + 1) : Nat), .int .i64 (paK xs k), undef, undef, undef, undef, undef, undef, undef, undef, undef, undef], defers := [] })
    ?assign ?body ?done ?stop
  case own =>
    rintro cd u W W' row ⟨h1, h2, h3, ⟨V, h4⟩, v, h5⟩ hg hr
    have hr' : ∀ r, row = some r → ∃ o : Obj, W.heap[r]? = some o ∧ o.isCells = false := fun r e => (hr r e).2
    exact ⟨h1, h2, h3.grown hg h3.size (fun r e => by have := (hr r e).1; omega), ⟨V, (cells_kept h4 hg hr').trans h4⟩, v, (cells_kept h5 hg hr').trans h5⟩
  case assign =>
    intro lp j W K hK
    gi_wp2
    exact hK
  case body =>
    intro lp k W hk hI hbig
    rw [hs4] at hbig
    have hxk := HB.out k
    have s8 := stK_lt hb k
    have hpa : paK xs k = goP (stK xs k) (xs[k]?.getD 0) := rfl
    by_cases hx1 : xs[k]?.getD 0 ≤ 1
    · have e2 : paK xs k = ((parS7 (stK xs k) (xs[k]?.getD 0).toNat : Nat) : Int) := by rw [hpa]; unfold goP; rw [if_pos hx1]
      have p2 := (step_lt _ s8 (xs[k]?.getD 0).toNat (by omega)).2
      have hsn := paL_snoc xs k
      have hbits : Hid (∀ j, j < k + 1 → xs[j]?.getD 0 ≤ 1) := Lib.hid (fun j hj => by
        rcases Nat.lt_or_ge j k with h | h
        · exact hI.bits j h
        · obtain rfl : j = k := by omega
          exact hx1)
      rw [e2] at hsn ⊢
      obtain ⟨V, hV, hO, hE⟩ := hI.pbox
      obtain ⟨A1, c1, rfl⟩ := ownsRow_shape hO
      obtain ⟨A2, c2, w2, hrun, hO2, hg2, hp2⟩ := append_byte (x := ((parS7 (stK xs k) (xs[k]?.getD 0).toNat : Nat) : Int)) hO (by omega) (by have := hI.low.size; omega)
      obtain ⟨v2, s2, hI2, hK2, hE2⟩ := hI.step hk (by omega) (by omega) (by omega) e2 hx1 hV hO hE hO2 hg2 hp2
      rw [show w.heap.size + 6 = W4.heap.size + 2 by omega] at hE2
      have R := Lib.hid hrun
      have F := Lib.hid (And.intro (hK2.from W4.heap.size) (And.intro hE2 hI2))
      have cV := hV.cell
      have cv := v2.cell
      have fv := v2.frozen
      have cs := s2.cell
      have fs := s2.frozen
      clear hrun hI2 hK2 hE2 hO2 hg2 hp2 hO hE hI hsn hI0 hV v2 s2 e2 hpa hxk hb
      generalize parS7 (stK xs k) (xs[k]?.getD 0).toNat = p at *
      have wp : IntKind.u8.wrap (p : Int) = (p : Int) := by rw [IntWalk.u8_in _ (by omega)]
      have hp1 : (p : Int) ≠ -1 := by omega
      gi_wp2_with (gi_at_builtin; refine wpListIn_append_run rfl _ _ _ rfl _ _ _ rfl rfl R.out ?_)
      exact F.out
    · have e2 : paK xs k = -1 := by rw [hpa]; unfold goP; rw [if_neg hx1]
      have hv : validB xs = false := by
        have hkl : k < xs.length := by rw [hI.inp.len]; exact hk
        simp only [validB, List.all_eq_false, decide_eq_true_eq]
        refine ⟨xs[k], List.getElem_mem hkl, ?_⟩
        simpa [hkl] using hx1
      obtain ⟨V, hV, hO, hE⟩ := hI.pbox
      have F := Lib.hid (And.intro (KeepsFrom.refl W4.heap.size W) (And.intro hv (And.intro hI.low (And.intro (Exists.intro V hV : ∃ V, Boxed W w.heap.size 36 V) (Exists.intro _ hI.sbox : ∃ v, Boxed W (w.heap.size + 1) 3 v)))))
      rw [e2]
      clear hV hO hE hI hI0 e2 hpa hv hb
      gi_wp2
      refine wpIn_goto ?_
      gi_wp2
      exact ⟨F.out.1, rfl, F.out.2⟩
  case done =>
    intro D W hD hI hKD
    obtain ⟨V, hV, hO, hE⟩ := hI.pbox
    obtain ⟨A1, c1, rfl⟩ := ownsRow_shape hO
    have hvl := hI.valid
    have hlen := hI.inp.len
    have cV := hV.cell
    have fV := hV.frozen
    have cS := hI.sbox.cell
    have fS := hI.sbox.frozen
    have hlow := hI.low
    have v2 := (hV.set (.slice A1 L c1)).other (B' := w.heap.size + 1) (by omega) (.int .i64 (stK xs L : Nat))
    have s2 := (hI.sbox.other (B' := w.heap.size) (by omega) (.slice A1 L c1)).set (.int .i64 (stK xs L : Nat))
    clear hI hI0
    gi_wp2
    refine wpIn_wide.2 ?_
    go_region
    gi_wp2
    have hD2 : ((W.setCell ⟨w.heap.size, 0, none⟩ (.slice A1 L c1)).setCell ⟨w.heap.size + 1, 0, none⟩ (.int .i64 (stK xs L : Nat))).heap[D]? = some (.deferred (some [])) := ((Below.heap_setCell _ _ _ _ (by dsimp only; omega)).trans (Below.heap_setCell _ _ _ _ (by dsimp only; omega))).trans hKD
    have hO2 : ((W.setCell ⟨w.heap.size, 0, none⟩ (.slice A1 L c1)).setCell ⟨w.heap.size + 1, 0, none⟩ (.int .i64 (stK xs L : Nat))).ownsRow (w.heap.size + 2) 5 1 (.slice A1 L c1) L ((paL xs L).map (Value.int .u8)) := ownsRow_block hO (fun g hg => by
      have := (hO.lt g hg).1
      rw [Below.heap_setCell _ _ _ _ (by dsimp only; omega), Below.heap_setCell _ _ _ _ (by dsimp only; omega)])
    have hl2 := (hlow.setCell (p := ⟨w.heap.size, 0, none⟩) (Nat.le_refl _) (.slice A1 L c1)).setCell (p := ⟨w.heap.size + 1, 0, none⟩) (by dsimp only; omega) (.int .i64 (stK xs L : Nat))
    refine leaves_one hD2 ⟨_, Encode_results rfl rfl rfl (Boxed.putOther v2 _ (by omega)) (Boxed.putOther s2 _ (by omega)) ⟨_, _, _, rfl⟩, ?_⟩
    have e1 : encR xs = paL xs L := by unfold encR; rw [if_pos hvl, hlen]
    have e2 : encN xs = stK xs L := by unfold encN; rw [if_pos hvl, hlen]
    have e3 : encE xs = 0 := by unfold encE; rw [if_pos hvl]
    rw [e1, e2, e3]
    exact RetE.mk_ (B := w.heap.size + 2) (paL_length _ _) (ownsRow_putObj hO2 _ hD2 rfl) (by omega) (below_put (D := D) hl2.drew _ (by omega) (Nat.le_refl _))
  case stop =>
    rintro D cd W hD ⟨rfl, hv, hlow, ⟨V, h4⟩, v, h5⟩ hKD
    have cV := h4.cell
    have fV := h4.frozen
    have cS := h5.cell
    have fS := h5.frozen
    have v2 := (Boxed.set (.slice none 0 0) h4).other (B' := w.heap.size + 1) (by omega) (.int .i64 0)
    have s2 := Boxed.set (.int .i64 0) (h5.other (B' := w.heap.size) (by omega) (.slice none 0 0))
    refine wpIn_goto ?_
    gi_wp2
    refine ⟨rfl, ?_⟩
    gi_wp2
    rw [Exit.noGoto_ret]
    rw [hD, hs4] at hKD
    have hD2 : ((W.setCell ⟨w.heap.size, 0, none⟩ (.slice none 0 0)).setCell ⟨w.heap.size + 1, 0, none⟩ (.int .i64 0)).heap[w.heap.size + 4]? = some (.deferred (some [])) := ((Below.heap_setCell _ _ _ _ (by dsimp only; omega)).trans (Below.heap_setCell _ _ _ _ (by dsimp only; omega))).trans hKD
    have hl2 := (hlow.setCell (p := ⟨w.heap.size, 0, none⟩) (Nat.le_refl _) (.slice none 0 0)).setCell (p := ⟨w.heap.size + 1, 0, none⟩) (by dsimp only; omega) (.int .i64 0)
    refine leaves_one hD2 ⟨_, Encode_results rfl rfl rfl (Boxed.putOther v2 _ (by omega)) (Boxed.putOther s2 _ (by omega)) ⟨_, _, _, rfl⟩, ?_⟩
    have e1 : encR xs = [] := by unfold encR; rw [hv]; rfl
    have e2 : encN xs = 0 := by unfold encN; rw [hv]; rfl
    have e3 : encE xs = 3 := by unfold encE; rw [hv]; rfl
    rw [e1, e2, e3]
    exact RetE.mk_ (k := 0) (s := 0) (B := w.heap.size) rfl (by simpa using World.ownsRow_nil _ w.heap.size 5 1) (Nat.le_refl _) (below_put (D := w.heap.size + 4) hl2 _ (by omega) (Nat.le_refl _))
theorem Encode_any {A : Option Addr} {L c : Nat} {xs : List Int} {w : World} (hI : Rd .u8 w w.heap.size A L xs) (hb : Byte xs) (hL : L ≤ 2199023255552) :
    Calls Try.prog 17 #[.slice A L c] w (RetE w (encR xs) (encN xs) (encE xs)) := callsIn_wide.1 (Encode_in (n := 6) (by decide) hI hb hL)
end Go.Proofs.Ytjehfdnkdfmmbaa
