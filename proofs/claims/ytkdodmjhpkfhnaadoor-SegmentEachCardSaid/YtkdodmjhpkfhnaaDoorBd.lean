/-
  build: one byte slice for each block.
-/
import Derived.Test.YtkdodmjhpkfhnaaDoorFam
namespace Go.Proofs.YtkdodmjhpkfhnaaDoor
open Go.RowKit Go.Shelf BigFrame

attribute [local go_sem] Oper.semAt_some

theorem make_rows (n : Nat) (hn : n ≤ 1000000) (u : World) : (Instr.makeSlice 48 (.int .i64 0) (.int .i64 n)).run Tryd.prog u =
    .ok (.slice (some ⟨u.heap.size, 0, none⟩) 0 n) (u.alloc (.cells (madeCells #[.slice none 0 0] n) 46)) := by
  obtain ⟨i0, hi, hz0, hz1, hz2⟩ := info_q Tryd.info_u8s
  have h := run_make (P := Tryd.prog) u 48 46 i0 (.slice none 0 0) Tryd.underlying48 hi hz0 .i64 .i64 (0 : Int) (n : Int) (by omega) (by omega) (by rw [hz2]; omega) (by omega)
  simpa [hz1, Value.cells] using h
theorem leaves_panic {F : Fence} {n : Nat} {P : Program} {fn : Func} {tmps : Array Value} {R : Ending → World → Prop} {B D : Nat} {ch : List PanicEntry} {w : World} (hD : w.heap[D]? = some (.deferred (some []))) (hB : B ≤ D) (h : ∀ w', Below B w w' → R (.panicked ch) w') : LeavesInM F n P fn tmps R [mkD D] (.panicking ch) w := by
  refine ⟨by simp, .inl ⟨D, _, rfl, run_takeDeferred hD, ?_⟩⟩
  have hlt := (Array.getElem?_eq_some_iff.1 hD).1
  exact h _ ((Below.refl B w).grown (grownBy_putObj' w D _) (by omega) (fun k e => by cases e; exact hB))
theorem leaves_one {F : Fence} {n : Nat} {P : Program} {fn : Func} {tmps : Array Value} {R : Ending → World → Prop} {D : Nat} {w : World} (hD : w.heap[D]? = some (.deferred (some []))) (h : ∃ v, (results fn tmps).run P (w.putObj D (.deferred none)) = .ok v (w.putObj D (.deferred none)) ∧ R (.returned v) (w.putObj D (.deferred none))) : LeavesInM F n P fn tmps R [mkD D] .returning w :=
  ⟨by simp, .inl ⟨D, _, rfl, run_takeDeferred hD, h⟩⟩
/-- Where build's loop is. -/
structure BdI (w : World) (X : Nat → Prop) (C : Nat) (Z : World → BRow → Prop) (S : Nat → World → Prop) (part : Nat → List Int) (l : Lay) (one : Value) (k : Nat) (W : World) : Prop where
  save : Save X w W
  s : S k W
  one : Boxed W (w.heap.size + 1) 79 one
  lay : LayAt W (w.heap.size + 4) 70 l
  ex : ∃ A c rows, Boxed W C 48 (.slice A k c) ∧ Fam w.heap.size X C Z W (.slice A k c) k rows ∧ rows.map (·.xs) = (List.range k).map part
/-- Behind the call of the closure. -/
structure BdC (w : World) (X : Nat → Prop) (C : Nat) (Z : World → BRow → Prop) (S : Nat → World → Prop) (part : Nat → List Int) (W : World) (k : Nat) (V : Value) (rows : List BRow) (r : BRow) (W2 : World) : Prop where
  save : Save X W W2
  s : S (k + 1) W2
  row : Row1 w.heap.size X C Z W2 r
  new : ∀ a, r.a = some a → a.block < w.heap.size ∨ W.heap.size ≤ a.block
  xs : r.xs = part k
  box : Boxed W2 C 48 V
  fam : Fam w.heap.size X C Z W2 V k rows
section
variable {w W W2 : World} {X : Nat → Prop} {C k : Nat} {Z : World → BRow → Prop} {S : Nat → World → Prop} {part : Nat → List Int} {l : Lay} {one : Value}
theorem BdI.own (hZ : Abides Z) (hS : ∀ k W W', S k W → Below w.heap.size W W' → S k W') {base : Nat} (hb : w.heap.size ≤ base) : OwnFrom base (BdI w X C Z S part l one) := by
  intro k A B row h hg hr
  have hc : ∀ (j : Nat) (o : Obj), A.heap[j]? = some o → o.isCells = true → B.heap[j]? = some o := fun j o ho hco => by
    refine (hg.block j (Array.getElem?_eq_some_iff.1 ho).1 (fun e => ?_)).trans ho
    obtain ⟨o', ho', hc'⟩ := (hr j e.symm).2
    rw [ho] at ho'
    cases ho'
    rw [hco] at hc'
    cases hc'
  obtain ⟨A1, c, rows, h1, h2, h3⟩ := h.ex
  exact ⟨h.save.grown hg (fun j e hj => by have := (hr j e).1; omega), hS _ _ _ h.s ((Below.refl _ A).grown hg h.save.size (fun j e => by have := (hr j e).1; omega)), hc _ _ h.one rfl, ⟨hc _ _ h.lay.heap rfl⟩,
    A1, c, rows, hc _ _ h1 rfl, h2.keep hZ (fun j o ho hco _ _ => hc j o ho hco) hg.size, h3⟩
theorem BdC.of (hZ : Abides Z) (hX : ∀ i, X i → i < w.heap.size) (hC : w.heap.size ≤ C) (hCW : C < W.heap.size) {V : Value} {rows : List BRow} {r : BRow} (hbox : Boxed W C 48 V) (hfam : Fam w.heap.size X C Z W V k rows) (hsv : Save X W.drew W2) (hs : S (k + 1) W2) (hx : r.xs = part k) (hz : Z W2 r)
    (hr : ∀ a, r.a = some a → (∃ o, W2.heap[a.block]? = some o ∧ o.isCells = true) ∧ (W.drew.heap.size ≤ a.block ∨ (a.block < w.heap.size ∧ ¬ X a.block))) : BdC w X C Z S part W k V rows r W2 := by
  have hsv' : Save X W W2 := ⟨hsv.os, hsv.tape, hsv.output, hsv.size, hsv.block⟩
  have hr2 : ∀ a, r.a = some a → W.heap.size ≤ a.block ∨ (a.block < w.heap.size ∧ ¬ X a.block) := fun a ha => (hr a ha).2
  refine ⟨hsv', hs, ⟨hz, fun a ha => (hr a ha).1, fun a ha => ?_, fun a ha => ?_⟩, fun a ha => ?_, hx, hsv'.heap hbox (fun h => by have := hX _ h; omega), hfam.keep hZ (fun j o ho _ hj _ => hsv'.heap ho (fun h => ?_)) hsv'.size⟩
  · rcases hr2 a ha with h | ⟨_, h⟩
    · exact .inl (by omega)
    · exact .inr h
  · rcases hr2 a ha with h | ⟨h, _⟩ <;> omega
  · rcases hr2 a ha with h | ⟨h, _⟩
    · exact .inr h
    · exact .inl h
  · rcases hj with hj | hj
    · have := hX _ h; omega
    · exact hj h
/-- Behind append and the store. -/
theorem BdC.done (hZ : Abides Z) (hX : ∀ i, X i → i < w.heap.size) (hS : ∀ k W W', S k W → Below w.heap.size W W' → S k W') (hC : w.heap.size + 1 < C) (hC2 : C < w.heap.size + 4) (hI : BdI w X C Z S part l one k W) {A : Option Addr} {c : Nat} {rows : List BRow} {r : BRow} {A2 : Option Addr} {c2 : Nat} {w3 : World}
    (h : BdC w X C Z S part W k (.slice A k c) rows r W2) (hmap : rows.map (·.xs) = (List.range k).map part) (hF : Fam w.heap.size X C Z w3 (.slice A2 (k + 1) c2) (k + 1) (rows ++ [r])) (hg : (W2.alloc (.cells #[hdr r] 46)).grownBy w3 (Value.slice A k c).ownBlock) {base : Nat} (hbase : w.heap.size ≤ base) :
    KeepsFrom base W (w3.setCell ⟨C, 0, none⟩ (.slice A2 (k + 1) c2)) ∧ BdI w X C Z S part l one (k + 1) (w3.setCell ⟨C, 0, none⟩ (.slice A2 (k + 1) c2)) := by
  have hW2 : W.heap.size ≤ W2.heap.size := h.save.size
  have hwW : w.heap.size ≤ W.heap.size := hI.save.size
  have hown : ∀ g, (Value.slice A k c).ownBlock = some g → w.heap.size ≤ g ∧ ∃ o, W2.heap[g]? = some o ∧ o.isCells = true := fun g hgg => by
    refine ⟨(h.fam.own.lt g hgg).1, ?_⟩
    rcases h.fam.own.2 with ⟨h1, _⟩ | ⟨g', cap, cur, h1, _, h2, _⟩
    · rw [h1] at hgg; simp [Value.ownBlock] at hgg
    · rw [h1] at hgg
      simp only [Value.ownBlock, Option.some.injEq] at hgg
      subst hgg
      exact ⟨_, h2, rfl⟩
  have hsame : ∀ (j : Nat) (o : Obj), W2.heap[j]? = some o → j ≠ C → some j ≠ (Value.slice A k c).ownBlock → (w3.setCell ⟨C, 0, none⟩ (.slice A2 (k + 1) c2)).heap[j]? = some o := fun j o ho hj hn => by
    have hjl := (Array.getElem?_eq_some_iff.1 ho).1
    exact (Below.heap_setCell _ _ _ _ (show j ≠ C from hj)).trans ((hg.block j (by simp; omega) hn).trans ((Below.heap_alloc _ _ _ hjl).trans ho))
  have bC3 : Boxed w3 C 48 (.slice A k c) := (h.box.alloc _).kept hg (fun e => h.fam.outerC e.symm)
  have hnr : ∀ B t v, Boxed W2 B t v → t ≠ 46 → some B ≠ (Value.slice A k c).ownBlock := fun B t v hb ht => hb.not_row ht h.fam.own
  have hs3 : W2.heap.size ≤ w3.heap.size := Nat.le_trans (by simp) hg.size
  have hbel : Below w.heap.size W2 (w3.setCell ⟨C, 0, none⟩ (.slice A2 (k + 1) c2)) :=
    (((Below.refl _ W2).alloc (by omega) _).grown hg (by simp; omega) (fun g e => (hown g e).1)).setCell (p := ⟨C, 0, none⟩) (by simp; omega) _
  have hXn : ∀ j, w.heap.size ≤ j → ¬ X j := fun j hj hx => by have := hX j hx; omega
  refine ⟨⟨by have := hbel.size; omega, fun j o hj ho hco => ?_⟩, ⟨?_, hS _ _ _ h.s hbel, ?_, ?_, A2, c2, rows ++ [r], bC3.set _, ?_, ?_⟩⟩
  · have h2 := h.save.heap ho (hXn j (by omega))
    refine hsame j o h2 (fun e => ?_) (fun e => ?_)
    · subst e
      rw [show W2.heap[j]? = _ from h.box] at h2
      cases h2
      cases hco
    · obtain ⟨_, o', ho', hc'⟩ := hown j e.symm
      rw [h2] at ho'
      cases ho'
      rw [hco] at hc'
      cases hc'
  · exact (hI.save.trans h.save).trans' (Y := fun i => w.heap.size ≤ i) ⟨hbel.os, hbel.tape, hbel.output, hbel.size, fun j _ hn => hbel.block j (by omega)⟩ (fun i hi hl => by omega)
  · exact hsame _ _ (h.save.heap hI.one (hXn _ (by omega))) (by omega) (hnr _ _ _ (h.save.heap hI.one (hXn _ (by omega))) (by decide))
  · refine ⟨hsame _ _ (h.save.heap hI.lay.heap (hXn _ (by omega))) (by omega) (fun e => ?_)⟩
    obtain ⟨_, o', ho', _⟩ := hown _ e.symm
    rcases h.fam.own.2 with ⟨h1, _⟩ | ⟨g', cap, cur, h1, _, h2, _⟩
    · rw [h1] at e; simp [Value.ownBlock] at e
    · rw [h1] at e
      simp only [Value.ownBlock, Option.some.injEq] at e
      rw [← e, h.save.heap hI.lay.heap (hXn _ (by omega))] at h2
      injection h2 with h2
      injection h2 with _ h2
      exact absurd h2 (by decide)
  · exact hF.keep hZ (fun j o ho _ _ hj => (Below.heap_setCell _ _ _ _ (show j ≠ C from hj)).trans ho) (by simp [World.setCell])
  · rw [List.map_append, hmap, List.range_succ, List.map_append]
    simp [h.xs]
end
/-- Where the region is: what is done, and what is known by it. -/
def BdR (T : Value → Value → Value → Value → Value → Value → Value → Act) (w : World) (X : Nat → Prop) (Z : World → BRow → Prop) (S : Nat → World → Prop) (part : Nat → List Int) (l : Lay) (G : Nat) (caps : Array Value) (w5 W : World) (k : Nat) (A : Option Addr) (c : Nat) (rows : List BRow) (listed : Array Bool) (a : Act) (w' : World) : Prop :=
  ∃ (b0 b1 b2 b3 b4 b5 b6 b7 : Bool) (x16 x17 x18 x19 x20 x21 x22 : Value), listed = #[b0, b1, b2, b3, b4, b5, b6, b7] ∧ a = T x16 x17 x18 x19 x20 x21 x22 ∧
        (b0 = true → x16 = .slice A k c) ∧ (b1 = true → x17 = .func (.func G) #[] caps) ∧ (b2 = true → x18 = .int .i64 (k : Int)) ∧ (b3 = true → x19 = .int .i64 (l.size k : Int)) ∧
        (b5 = true → b4 = true) ∧ (b6 = true → b5 = true ∧ b0 = true) ∧ (b7 = true → b6 = true) ∧ (b4 = true → b1 = true) ∧
        (b4 = false → w' = W.drew) ∧ (b4 = true → b5 = false → ∃ r, x20 = hdr r ∧ BdC w X (w.heap.size + 1 + 1 + 1) Z S part W k (.slice A k c) rows r w') ∧
        (b5 = true → b6 = false → ∃ r w2, BdC w X (w.heap.size + 1 + 1 + 1) Z S part W k (.slice A k c) rows r w2 ∧ w' = w2.alloc (.cells #[hdr r] 46) ∧ x21 = .slice (some ⟨w2.heap.size, 0, none⟩) 1 1) ∧
        (b6 = true → b7 = false → ∃ r w2 A2 c2, BdC w X (w.heap.size + 1 + 1 + 1) Z S part W k (.slice A k c) rows r w2 ∧ x22 = .slice A2 (k + 1) c2 ∧ Fam w.heap.size X (w.heap.size + 1 + 1 + 1) Z w' (.slice A2 (k + 1) c2) (k + 1) (rows ++ [r]) ∧ (w2.alloc (.cells #[hdr r] 46)).grownBy w' (Value.slice A k c).ownBlock) ∧
        (b7 = true → KeepsFrom w5.heap.size W w' ∧ BdI w X (w.heap.size + 1 + 1 + 1) Z S part l (.func (.func G) #[] caps) (k + 1) w')
theorem wpOpIn_k {F : Fence} {n i : Nat} {P : Program} {ops : Array Oper} {Q : Exit → Act → World → Prop} {I : Act → World → Prop} {a : Act} {w : World} (h : ∀ K : Act → World → Prop, (∀ a w, I a w → K a w) → wpOpIn F n P ops Q i K a w) : wpOpIn F n P ops Q i I a w := h _ (fun _ _ h => h)
theorem ready_of {md : Region.Mode} {ops : Array Oper} {b0 b1 b2 b3 b4 b5 b6 b7 : Bool} {i : Nat} (hi : i ∈ Region.ready md ops #[b0, b1, b2, b3, b4, b5, b6, b7]) (p : Bool → Bool → Bool → Bool → Bool → Bool → Bool → Bool → Nat → Bool)
    (h : ∀ (b0 b1 b2 b3 b4 b5 b6 b7 : Bool), (Region.ready md ops #[b0, b1, b2, b3, b4, b5, b6, b7]).all (p b0 b1 b2 b3 b4 b5 b6 b7) = true) : p b0 b1 b2 b3 b4 b5 b6 b7 i = true := List.all_eq_true.1 (h b0 b1 b2 b3 b4 b5 b6 b7) i hi
theorem wpOpIn_at {F : Fence} {n i : Nat} {P : Program} {ops : Array Oper} {Q : Exit → Act → World → Prop} {K : Act → World → Prop} {a : Act} {w : World} {o : Oper} (hi : ops[i]? = some o) (hg : o.guard = none) (h : o.wpIn F n P a w K Q) : wpOpIn F n P ops Q i K a w := by
  unfold wpOpIn
  simp only [hi]
  rw [if_pos (by simp [Region.wanted, hg])]
  exact h
theorem wpIn_append_run {F : Fence} {n : Nat} {P : Program} {w w2 : World} {o : Oper} {a : Act} {Q : Exit → Act → World → Prop} {K : Act → World → Prop}
    (s x : Operand) (t : TypeId) (hop : o.op = Op.call { callee := Callee.builtin Builtin.append, args := #[s, x], argTypes := #[t, t] })
    (v1 v2 v' : Value) (hs : a.eval s = v1) (hx : a.eval x = v2) (hrun : (Builtin.append_ #[t, t] o.type #[v1, v2]).run P w = .ok v' w2)
    (hK : K (a.put o.dst v') w2) : o.wpIn F n P a w K Q := by
  unfold Oper.wpIn
  refine ⟨?_, ?_⟩
  · simp [Oper.about, hop, resolve, Target.leads, Sem.run_pure]
  · rw [Oper.semAt_plain F _ _ (by rw [hop]; intro c hc'; cases hc')]
    simp [execOp, hop, resolve, invoke, builtin, hs, hx, hrun, Result.andThen]
    exact hK
theorem cnt_lt {b0 b1 b2 b3 b4 b5 b6 b7 : Bool} {i : Nat} (h : #[b0, b1, b2, b3, b4, b5, b6, b7][i]? = some false) :
    ((#[b0, b1, b2, b3, b4, b5, b6, b7].setIfInBounds i true).toList.filter (fun b => !b)).length < (#[b0, b1, b2, b3, b4, b5, b6, b7].toList.filter (fun b => !b)).length := by
  have hi : i < 8 := by
    have := (Array.getElem?_eq_some_iff.1 h).1
    simpa using this
  have key : ∀ (i : Fin 8) (b0 b1 b2 b3 b4 b5 b6 b7 : Bool), #[b0, b1, b2, b3, b4, b5, b6, b7][i.1]? = some false → ((#[b0, b1, b2, b3, b4, b5, b6, b7].setIfInBounds i.1 true).toList.filter (fun b => !b)).length < (#[b0, b1, b2, b3, b4, b5, b6, b7].toList.filter (fun b => !b)).length := by decide +kernel
  exact key ⟨i, hi⟩ b0 b1 b2 b3 b4 b5 b6 b7 h
set_option maxRecDepth 100000 in
set_option maxHeartbeats 4000000 in
theorem build_any {n : Nat} (hn : 6 ≤ n) {l : Lay} (hl : l.blocks ≤ 13) {G : Nat} {caps : Array Value} (eG : ∀ args w, (callFunc G args).run Tryd.prog w = .ok (.enter G args) w) {w : World} {X : Nat → Prop} {Z : World → BRow → Prop} (hZ : Abides Z) (hX : ∀ i, X i → i < w.heap.size)
    {S : Nat → World → Prop} {Sp : List PanicEntry → Prop} {part : Nat → List Int} (hS : ∀ k W W', S k W → Below w.heap.size W W' → S k W') (hS0 : S 0 w)
    (hone : ∀ k W, k < l.blocks → S k W → w.heap.size ≤ W.heap.size → Calls Tryd.prog G (#[.int .i64 (k : Int), .int .i64 (l.size k : Int)] ++ caps) W fun e W' => Save X W W' ∧
      ((∃ r : BRow, e = .returned (hdr r) ∧ r.xs = part k ∧ S (k + 1) W' ∧ Z W' r ∧ (∀ a, r.a = some a → (∃ o, W'.heap[a.block]? = some o ∧ o.isCells = true) ∧ (W.heap.size ≤ a.block ∨ (a.block < w.heap.size ∧ ¬ X a.block)))) ∨ (∃ ch, e = .panicked ch ∧ Sp ch))) :
    CallsIn Fence.wide n Tryd.prog 40 #[layV l, .func (.func G) #[] caps] w fun e w' => Save X w w' ∧
      ((∃ A c rows C, e = .returned (.slice A l.blocks c) ∧ Fam w.heap.size X C Z w' (.slice A l.blocks c) l.blocks rows ∧ rows.map (·.xs) = (List.range l.blocks).map part ∧ S l.blocks w') ∨ (∃ ch, e = .panicked ch ∧ Sp ch)) := by
  have hmk := make_rows l.blocks (by omega)
  have hea := Lib.hid (fun (u : World) => each_any (l := l) (w := u))
  refine calls_of_wpAt Tryd.func40 rfl ?_
  simp only [Tryd.ntmps40, List.size_toArray, List.length_cons, List.length_nil, Nat.reduceAdd, Nat.reduceSub, Array.replicate_succ, Array.replicate_zero, List.push_toArray, List.append_toArray, List.nil_append, List.cons_append]
  unfold layV layA
  refine wpAt_seq (wpAt_of (n := n) ?_)
  gi_wp2
  have hL1 : LayAt (w.alloc (.cells #[.int .i64 l.bits, .int .i64 l.blocks, .int .i64 l.long, .int .i64 l.short, .int .i64 l.longs, .int .i64 l.shorts, .int .i64 l.filler] 70)) w.heap.size 70 l := LayAt.new w _ l
  have hL2 := hL1.alloc (.cells #[.func (.func G) #[] caps] 79)
  obtain ⟨c0, c1, c2, c3, c4, c5, c6⟩ := hL2.all
  refine wpAt_seq (wpAt_of (n := n) ?_)
  gi_wp2
  clear c0 c1 c2 c3 c4 c5 c6
  have hL4 := (hL2.alloc (.cells (madeCells #[.slice none 0 0] l.blocks) 46)).alloc (.cells #[.slice (some ⟨w.heap.size + 1 + 1, 0, none⟩) 0 l.blocks] 48)
  have bO : Boxed ((((w.alloc (.cells #[.int .i64 l.bits, .int .i64 l.blocks, .int .i64 l.long, .int .i64 l.short, .int .i64 l.longs, .int .i64 l.shorts, .int .i64 l.filler] 70)).alloc (.cells #[.func (.func G) #[] caps] 79)).alloc (.cells (madeCells #[.slice none 0 0] l.blocks) 46)).alloc (.cells #[.slice (some ⟨w.heap.size + 1 + 1, 0, none⟩) 0 l.blocks] 48)) (w.heap.size + 1) 79 (.func (.func G) #[] caps) := by
    have := ((Boxed.new (w.alloc (.cells #[.int .i64 l.bits, .int .i64 l.blocks, .int .i64 l.long, .int .i64 l.short, .int .i64 l.longs, .int .i64 l.shorts, .int .i64 l.filler] 70)) 79 (.func (.func G) #[] caps)).alloc (.cells (madeCells #[.slice none 0 0] l.blocks) 46)).alloc (.cells #[.slice (some ⟨w.heap.size + 1 + 1, 0, none⟩) 0 l.blocks] 48)
    simpa using this
  have bA : Boxed ((((w.alloc (.cells #[.int .i64 l.bits, .int .i64 l.blocks, .int .i64 l.long, .int .i64 l.short, .int .i64 l.longs, .int .i64 l.shorts, .int .i64 l.filler] 70)).alloc (.cells #[.func (.func G) #[] caps] 79)).alloc (.cells (madeCells #[.slice none 0 0] l.blocks) 46)).alloc (.cells #[.slice (some ⟨w.heap.size + 1 + 1, 0, none⟩) 0 l.blocks] 48)) (w.heap.size + 1 + 1 + 1) 48 (.slice (some ⟨w.heap.size + 1 + 1, 0, none⟩) 0 l.blocks) := by
    have := Boxed.new (((w.alloc (.cells #[.int .i64 l.bits, .int .i64 l.blocks, .int .i64 l.long, .int .i64 l.short, .int .i64 l.longs, .int .i64 l.shorts, .int .i64 l.filler] 70)).alloc (.cells #[.func (.func G) #[] caps] 79)).alloc (.cells (madeCells #[.slice none 0 0] l.blocks) 46)) 48 (.slice (some ⟨w.heap.size + 1 + 1, 0, none⟩) 0 l.blocks)
    simpa using this
  have hM : ((((w.alloc (.cells #[.int .i64 l.bits, .int .i64 l.blocks, .int .i64 l.long, .int .i64 l.short, .int .i64 l.longs, .int .i64 l.shorts, .int .i64 l.filler] 70)).alloc (.cells #[.func (.func G) #[] caps] 79)).alloc (.cells (madeCells #[.slice none 0 0] l.blocks) 46)).alloc (.cells #[.slice (some ⟨w.heap.size + 1 + 1, 0, none⟩) 0 l.blocks] 48)).heap[w.heap.size + 1 + 1]? = some (.cells (madeCells #[.slice none 0 0] l.blocks) 46) := by
    have := World.alloc_heap_new ((w.alloc (.cells #[.int .i64 l.bits, .int .i64 l.blocks, .int .i64 l.long, .int .i64 l.short, .int .i64 l.longs, .int .i64 l.shorts, .int .i64 l.filler] 70)).alloc (.cells #[.func (.func G) #[] caps] 79)) (.cells (madeCells #[.slice none 0 0] l.blocks) 46)
    rw [World.size_alloc, World.size_alloc] at this
    exact (Below.heap_alloc _ _ _ (by simp)).trans this
  have hb4 : Below w.heap.size w ((((w.alloc (.cells #[.int .i64 l.bits, .int .i64 l.blocks, .int .i64 l.long, .int .i64 l.short, .int .i64 l.longs, .int .i64 l.shorts, .int .i64 l.filler] 70)).alloc (.cells #[.func (.func G) #[] caps] 79)).alloc (.cells (madeCells #[.slice none 0 0] l.blocks) 46)).alloc (.cells #[.slice (some ⟨w.heap.size + 1 + 1, 0, none⟩) 0 l.blocks] 48)) := (((((Below.refl w.heap.size w).alloc (Nat.le_refl _) _).alloc (by simp) _).alloc (by simp; omega) _).alloc (by simp; omega) _)
  have hs4 : ((((w.alloc (.cells #[.int .i64 l.bits, .int .i64 l.blocks, .int .i64 l.long, .int .i64 l.short, .int .i64 l.longs, .int .i64 l.shorts, .int .i64 l.filler] 70)).alloc (.cells #[.func (.func G) #[] caps] 79)).alloc (.cells (madeCells #[.slice none 0 0] l.blocks) 46)).alloc (.cells #[.slice (some ⟨w.heap.size + 1 + 1, 0, none⟩) 0 l.blocks] 48)).heap.size = w.heap.size + 4 := by simp
  clear hL1 hL2 hmk
  refine wpAt_seq (wpAt_seq (wpAt_of (n := n) ?_))
  generalize ((((w.alloc (.cells #[.int .i64 l.bits, .int .i64 l.blocks, .int .i64 l.long, .int .i64 l.short, .int .i64 l.longs, .int .i64 l.shorts, .int .i64 l.filler] 70)).alloc (.cells #[.func (.func G) #[] caps] 79)).alloc (.cells (madeCells #[.slice none 0 0] l.blocks) 46)).alloc (.cells #[.slice (some ⟨w.heap.size + 1 + 1, 0, none⟩) 0 l.blocks] 48)) = Wa at *
  obtain ⟨c0, c1, c2, c3, c4, c5, c6⟩ := hL4.all
  gi_wp2_with fail
  refine ⟨trivial, fun _ => by omega, ?_⟩
  refine (callsIn_wide.2 (hea.out _)).mono ?_
  rintro e w5 ⟨rfl, hL5, hb5⟩
  clear c0 c1 c2 c3 c4 c5 c6 hea
  rw [hs4] at hb5 hL5 ⊢
  have bO5 := Boxed.below bO hb5 (by omega)
  have bA5 := Boxed.below bA hb5 (by omega)
  have hM5 := (hb5.block (w.heap.size + 1 + 1) (by omega)).trans hM
  have hb6 := hb4.trans (hb5.mono (by omega))
  have hs5 := hL5.lt
  clear bO bA hM hL4 hb5 hb4
  gi_wp2_with fail
  have hb7 : w.heap.size ≤ w5.heap.size := hb6.size
  have hI0 : BdI w X (w.heap.size + 1 + 1 + 1) Z S part l (.func (.func G) #[] caps) 0 w5 :=
    ⟨Save.of_below hb6, hS _ _ _ hS0 hb6, bO5, hL5, _, _, [], bA5, Fam.nil w5 (w.heap.size + 1 + 1) l.blocks _ hM5 (by omega) (by unfold maxLen; omega) (by simp [madeCells]) (by omega), rfl⟩
  refine wpAt_block ?_
  refine wpAt_each (n := n) (l := l) (B := w.heap.size + 4) Tryd.func40 (by omega) (by omega) rfl rfl
    (BdI w X (w.heap.size + 1 + 1 + 1) Z S part l (.func (.func G) #[] caps)) (fun _ _ => False) (fun ch W => Sp ch ∧ Save X w W)
    (BdI.own hZ hS hb7) (fun _ _ _ _ _ h => h.elim) (fun _ _ h => h.lay) hI0
    (fun k => { tmps := #[.agg #[.int .i64 l.bits, .int .i64 l.blocks, .int .i64 l.long, .int .i64 l.short, .int .i64 l.longs, .int .i64 l.shorts, .int .i64 l.filler], .func (.func G) #[] caps, .pointer (some ⟨w.heap.size, 0, none⟩), .pointer (some ⟨w.heap.size + 1, 0, none⟩), .slice none 0 0, .pointer (some ⟨w.heap.size + 1 + 1 + 1, 0, none⟩), .int .i64 (k : Int), .int .i64 (l.size k : Int),
      .pointer (some ⟨w.heap.size, 0, none⟩), .pointer (some ⟨w.heap.size, 1, none⟩), .int .i64 l.blocks, .slice (some ⟨w.heap.size + 1 + 1, 0, none⟩) 0 l.blocks, .agg #[.int .i64 l.bits, .int .i64 l.blocks, .int .i64 l.long, .int .i64 l.short, .int .i64 l.longs, .int .i64 l.shorts, .int .i64 l.filler],
      .func (.func 55) #[] #[.pointer (some ⟨w.heap.size + 4, 0, none⟩)], .int .i64 (k : Int), .int .i64 (l.size k : Int), undef, undef, undef, undef, undef, undef, undef, undef], defers := [] }) ?assign ?body ?done ?stop ?panic
  case assign =>
    intro lp k W K hK
    gi_wp2
    exact hK
  case stop => intro D c W _ h; exact h.elim
  case panic =>
    rintro D ch W rfl ⟨hsp, hsv⟩ hD
    refine ⟨.inr ⟨_, rfl⟩, ?_⟩
    exact leaves_panic (B := w.heap.size) hD hb7 (fun w' hw => ⟨hsv.trans' (Y := fun i => w.heap.size ≤ i) ⟨hw.os, hw.tape, hw.output, hw.size, fun j _ hn => hw.block j (by omega)⟩ (fun i hi hl => by omega), .inr ⟨_, rfl, hsp⟩⟩)
  case done =>
    rintro D W rfl hI hD
    refine ⟨.inl rfl, ?_⟩
    obtain ⟨A, c, rows, h1, h2, h3⟩ := hI.ex
    have c0 := h1.cell
    refine wpAt_seq (wpAt_of (n := n) ?_)
    gi_wp2
    refine wpAt_of (n := n) ?_
    gi_wp2
    have hI2 := (BdI.own (X := X) (C := w.heap.size + 1 + 1 + 1) (Z := Z) (S := S) (part := part) (l := l) (one := .func (.func G) #[] caps) hZ hS (Nat.le_refl w.heap.size)).putObj (.deferred none) hI hb7 hD rfl
    obtain ⟨A', c', rows', h1', h2', h3'⟩ := hI2.ex
    have hne : w.heap.size + 1 + 1 + 1 ≠ w5.heap.size := by omega
    have h1'' : Boxed (W.putObj w5.heap.size (.deferred none)) (w.heap.size + 1 + 1 + 1) 48 (.slice A l.blocks c) := (World.putObj_heap_other hne).trans h1
    have hAe : (Value.slice A' l.blocks c') = .slice A l.blocks c := by
      have := h1'.cell.symm.trans h1''.cell
      simpa using this
    rw [hAe] at h2'
    exact leaves_one hD ⟨_, results_tmp rfl _ _ _, hI2.save, .inl ⟨A, c, rows', _, rfl, h2', h3', hI2.s⟩⟩
  case body =>
    intro lp k W hk hI hsz
    refine wpIn_block ?_
    refine wpIn_region_any (by kernel_rfl) ?_
    obtain ⟨A, c, rows, h1, h2, h3⟩ := hI.ex
    refine wpAnyIn_inv (BdR (fun x16 x17 x18 x19 x20 x21 x22 => { tmps := #[.agg #[.int .i64 l.bits, .int .i64 l.blocks, .int .i64 l.long, .int .i64 l.short, .int .i64 l.longs, .int .i64 l.shorts, .int .i64 l.filler], .func (.func G) #[] caps, .pointer (some ⟨w.heap.size, 0, none⟩), .pointer (some ⟨w.heap.size + 1, 0, none⟩), .slice none 0 0, .pointer (some ⟨w.heap.size + 1 + 1 + 1, 0, none⟩), .int .i64 (k : Int), .int .i64 (l.size k : Int),
          .pointer (some ⟨w.heap.size, 0, none⟩), .pointer (some ⟨w.heap.size, 1, none⟩), .int .i64 l.blocks, .slice (some ⟨w.heap.size + 1 + 1, 0, none⟩) 0 l.blocks, .agg #[.int .i64 l.bits, .int .i64 l.blocks, .int .i64 l.long, .int .i64 l.short, .int .i64 l.longs, .int .i64 l.shorts, .int .i64 l.filler],
          .func (.func 55) #[] #[.pointer (some ⟨w.heap.size + 4, 0, none⟩)], .int .i64 (k : Int), .int .i64 (l.size k : Int), x16, x17, x18, x19, x20, x21, x22, undef], defers := [] }) w X Z S part l G caps w5 W k A c rows)
      (fun listed => (listed.toList.filter (fun b => !b)).length) ?h0 ?hQ ?hstep _ _ _ _ (by decide) ?hinit
    case hinit => exact ⟨false, false, false, false, false, false, false, false, undef, undef, undef, undef, undef, undef, undef, rfl, rfl, by simp, by simp, by simp, by simp, by simp, by simp, by simp, by simp, fun _ => rfl, by simp, by simp, by simp, by simp⟩
    case h0 =>
      rintro listed a w' ⟨b0, b1, b2, b3, b4, b5, b6, b7, x16, x17, x18, x19, x20, x21, x22, rfl, -⟩ hc
      revert b0 b1 b2 b3 b4 b5 b6 b7
      decide +kernel
    case hQ =>
      rintro listed a w' ⟨b0, b1, b2, b3, b4, b5, b6, b7, x16, x17, x18, x19, x20, x21, x22, rfl, rfl, i0, i1, i2, i3, o5, o6, o7, o4, s0, s4, s5, s6, s7⟩ hr
      have h7 : b7 = true := by
        clear i0 i1 i2 i3 o5 o6 o7 o4 s0 s4 s5 s6 s7
        revert b0 b1 b2 b3 b4 b5 b6 b7
        decide +kernel
      exact s7 h7
    case hstep =>
      rintro listed a w' ⟨b0, b1, b2, b3, b4, b5, b6, b7, x16, x17, x18, x19, x20, x21, x22, rfl, rfl, i0, i1, i2, i3, o5, o6, o7, o4, s0, s4, s5, s6, s7⟩ i hi
      have hcase : (i = 0 ∧ b0 = false) ∨ (i = 1 ∧ b1 = false) ∨ (i = 2 ∧ b2 = false) ∨ (i = 3 ∧ b3 = false) ∨ (i = 4 ∧ b4 = false ∧ b1 = true ∧ b2 = true ∧ b3 = true) ∨ (i = 5 ∧ b5 = false ∧ b4 = true) ∨ (i = 6 ∧ b6 = false ∧ b0 = true ∧ b5 = true) ∨ (i = 7 ∧ b7 = false ∧ b6 = true) := by
        exact of_decide_eq_true (ready_of hi (fun b0 b1 b2 b3 b4 b5 b6 b7 i => decide ((i = 0 ∧ b0 = false) ∨ (i = 1 ∧ b1 = false) ∨ (i = 2 ∧ b2 = false) ∨ (i = 3 ∧ b3 = false) ∨ (i = 4 ∧ b4 = false ∧ b1 = true ∧ b2 = true ∧ b3 = true) ∨ (i = 5 ∧ b5 = false ∧ b4 = true) ∨ (i = 6 ∧ b6 = false ∧ b0 = true ∧ b5 = true) ∨ (i = 7 ∧ b7 = false ∧ b6 = true))) (by decide +kernel))
      rcases hcase with ⟨rfl, rfl⟩ | ⟨rfl, rfl⟩ | ⟨rfl, rfl⟩ | ⟨rfl, rfl⟩ | ⟨rfl, rfl, rfl, rfl, rfl⟩ | ⟨rfl, rfl, rfl⟩ | ⟨rfl, rfl, rfl, rfl⟩ | ⟨rfl, rfl, rfl⟩
      · refine ⟨cnt_lt rfl, wpOpIn_k fun K hK => ?_⟩
        have h6 : b6 = false := by
          cases b6
          · rfl
          · exact absurd (o6 rfl).2 (by simp)
        have hc : w'.cell? ⟨w.heap.size + 1 + 1 + 1, 0, none⟩ = some (.slice A k c) := by
          cases b4
          · rw [s0 rfl]; exact h1.cell
          · cases b5
            · obtain ⟨r, _, hBC⟩ := s4 rfl rfl
              exact hBC.box.cell
            · obtain ⟨r, w2, hBC, rfl, _⟩ := s5 rfl h6
              exact (hBC.box.alloc _).cell
        unfold wpOpIn
        go_simp
        exact hK _ _ ⟨true, b1, b2, b3, b4, b5, b6, b7, _, _, _, _, _, _, _, rfl, rfl, fun _ => rfl, i1, i2, i3, o5, fun h => ⟨(o6 h).1, rfl⟩, o7, o4, s0, s4, s5, s6, s7⟩
      · refine ⟨cnt_lt rfl, wpOpIn_k fun K hK => ?_⟩
        have h4 : b4 = false := by
          cases b4
          · rfl
          · exact absurd (o4 rfl) (by simp)
        have hw' := s0 h4
        have hc : w'.cell? ⟨w.heap.size + 1, 0, none⟩ = some (.func (.func G) #[] caps) := by
          rw [hw']; exact hI.one.cell
        have HS0 := Lib.hid s0
        clear hw' s0
        unfold wpOpIn
        go_simp
        exact hK _ _ ⟨b0, true, b2, b3, b4, b5, b6, b7, _, _, _, _, _, _, _, rfl, rfl, i0, fun _ => rfl, i2, i3, o5, o6, o7, fun _ => rfl, HS0.out, s4, s5, s6, s7⟩
      · refine ⟨cnt_lt rfl, wpOpIn_k fun K hK => ?_⟩
        unfold wpOpIn
        go_simp
        exact hK _ _ ⟨b0, b1, true, b3, b4, b5, b6, b7, _, _, _, _, _, _, _, rfl, rfl, i0, i1, fun _ => rfl, i3, o5, o6, o7, o4, s0, s4, s5, s6, s7⟩
      · refine ⟨cnt_lt rfl, wpOpIn_k fun K hK => ?_⟩
        unfold wpOpIn
        go_simp
        exact hK _ _ ⟨b0, b1, b2, true, b4, b5, b6, b7, _, _, _, _, _, _, _, rfl, rfl, i0, i1, i2, fun _ => rfl, o5, o6, o7, o4, s0, s4, s5, s6, s7⟩
      · refine ⟨cnt_lt rfl, wpOpIn_k fun K hK => ?_⟩
        obtain rfl := i1 rfl
        obtain rfl := i2 rfl
        obtain rfl := i3 rfl
        obtain rfl := s0 rfl
        have h5 : b5 = false := by
          cases b5
          · rfl
          · exact absurd (o5 rfl) (by simp)
        have h6 : b6 = false := by
          cases b6
          · rfl
          · exact absurd (o6 rfl).1 (by simp [h5])
        have h7 : b7 = false := by
          cases b7
          · rfl
          · exact absurd (o7 rfl) (by simp [h6])
        have hcall := Lib.hid (hone k W.drew hk (hS _ _ _ hI.s (Below.refl _ W).drew) hI.save.size)
        clear s0 s4 s5 s6 s7 i1 i2 i3
        unfold wpOpIn
        go_simp
        refine ⟨trivial, fun _ => by omega, ?_⟩
        refine (CallsIn.inRound lp (callsIn_wide.2 hcall.out)).mono ?_
        rintro e W2 ⟨hsv, (⟨r, rfl, hx, hs2, hz, hr⟩ | ⟨ch, rfl, hsp⟩)⟩
        · have hBC := BdC.of (C := w.heap.size + 1 + 1 + 1) hZ hX (by omega) (by have := hI.save.size; omega) h1 h2 hsv hs2 hx hz hr
          exact hK _ _ ⟨b0, true, true, true, true, b5, b6, b7, _, _, _, _, _, _, _, rfl, rfl, i0, fun _ => rfl, fun _ => rfl, fun _ => rfl, fun _ => rfl, o6, o7, fun _ => rfl, fun h => absurd h (by simp), fun _ _ => ⟨r, rfl, hBC⟩, fun h => absurd h (by simp [h5]), fun h => absurd h (by simp [h6]), fun h => absurd h (by simp [h7])⟩
        · have hsv' : Save X W W2 := ⟨hsv.os, hsv.tape, hsv.output, hsv.size, hsv.block⟩
          exact ⟨rfl, ⟨hsv'.size, fun j o hj ho _ => hsv'.heap ho (fun h => by have := hX _ h; omega)⟩, hsp, hI.save.trans hsv'⟩
      · refine ⟨cnt_lt rfl, wpOpIn_k fun K hK => ?_⟩
        have h6 : b6 = false := by
          cases b6
          · rfl
          · exact absurd (o6 rfl).1 (by simp)
        have h7 : b7 = false := by
          cases b7
          · rfl
          · exact absurd (o7 rfl) (by simp [h6])
        obtain ⟨r, rfl, hBC⟩ := s4 rfl rfl
        have I0 := Lib.hid i0
        have I1 := Lib.hid i1
        have I2 := Lib.hid i2
        have I3 := Lib.hid i3
        unfold hdr
        clear s0 s4 s5 s6 s7 i0 i1 i2 i3
        unfold wpOpIn
        go_simp
        exact hK _ _ ⟨b0, b1, b2, b3, true, true, b6, b7, _, _, _, _, _, _, _, rfl, rfl, I0.out, I1.out, I2.out, I3.out, fun _ => rfl, fun h => absurd h (by simp [h6]), o7, o4, fun h => absurd h (by simp), fun _ h => absurd h (by simp), fun _ _ => ⟨r, w', hBC, rfl, rfl⟩, fun h => absurd h (by simp [h6]), fun h => absurd h (by simp [h7])⟩
      · refine ⟨cnt_lt rfl, wpOpIn_k fun K hK => ?_⟩
        have h7 : b7 = false := by
          cases b7
          · rfl
          · exact absurd (o7 rfl) (by simp)
        obtain ⟨r, w2, hBC, rfl, rfl⟩ := s5 rfl rfl
        obtain rfl := i0 rfl
        obtain ⟨A2, c2, w3, hrun, hF, hg⟩ := hBC.fam.append hZ hBC.row (fun a ha => by
          rcases hBC.new a ha with h | h
          · exact .inl h
          · refine .inr fun s hs b hb => ?_
            obtain ⟨o, ho, _⟩ := (h2.row s hs).cells b hb
            have := (Array.getElem?_eq_some_iff.1 ho).1
            omega) (fun a ha e => by
          rcases hBC.new a ha with h | h
          · have := (h2.own.lt _ e).1; omega
          · have := (h2.own.lt _ e).2; omega) (by have := hI.save.size; have := hBC.save.size; omega) hBC.box.lt (by omega)
        refine wpOpIn_at rfl rfl (wpIn_append_run _ _ _ rfl _ _ _ rfl rfl hrun ?_)
        exact hK _ _ ⟨true, b1, b2, b3, b4, true, true, b7, _, _, _, _, _, _, _, rfl, rfl, fun _ => rfl, i1, i2, i3, fun h => o5 h, fun _ => ⟨rfl, rfl⟩, fun h => absurd h (by simp [h7]), o4, fun h => absurd (o5 rfl) (by simp [h]), fun _ h => absurd h (by simp), fun _ h => absurd h (by simp), fun _ _ => ⟨r, w2, A2, c2, hBC, rfl, hF, hg⟩, fun h => absurd h (by simp [h7])⟩
      · refine ⟨cnt_lt rfl, wpOpIn_k fun K hK => ?_⟩
        obtain ⟨r, w2, A2, c2, hBC, rfl, hF, hg⟩ := s6 rfl rfl
        have hC3 : Boxed w' (w.heap.size + 1 + 1 + 1) 48 (.slice A k c) := (hBC.box.alloc _).kept hg (fun e => hBC.fam.outerC e.symm)
        have hc := hC3.cell
        have hf := hC3.frozen
        have hdn := Lib.hid (hBC.done hZ hX hS (by omega) (by omega) hI h3 hF hg hb7)
        have o5' := (o6 rfl).1
        have I0 := Lib.hid i0
        have I1 := Lib.hid i1
        have I2 := Lib.hid i2
        have I3 := Lib.hid i3
        clear s0 s4 s5 s6 s7 i0 i1 i2 i3
        unfold wpOpIn
        go_simp
        exact hK _ _ ⟨b0, b1, b2, b3, b4, b5, true, true, _, _, _, _, _, _, _, rfl, rfl, I0.out, I1.out, I2.out, I3.out, o5, o6, fun _ => rfl, o4, fun h => absurd (o5 o5') (by simp [h]), fun _ h => absurd h (by simp [o5']), fun _ h => absurd h (by simp), fun _ h => absurd h (by simp), fun _ => hdn.out⟩
end Go.Proofs.YtkdodmjhpkfhnaaDoor
