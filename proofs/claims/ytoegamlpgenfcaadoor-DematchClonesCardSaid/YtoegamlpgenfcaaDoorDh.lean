/-
  The iterator over the rest of the values; a range over it (made by tools/genDg.py). unknown, Known.
-/
import Derived.Test.YtoegamlpgenfcaaDoorDf
import Derived.Test.YtoegamlpgenfcaaDoorLa
import Derived.Sort.QuietIn
namespace Go.Proofs.YtoegamlpgenfcaaDoor
/-! ### The iterator over the rest of the values; a range over it (made by tools/genDg.py). -/
section
open Go.RowKit Go.Shelf BigFrame

attribute [local go_sem] Oper.semAt_some

theorem rest_any {B from_ : Nat} {w : World} : Calls Tryd.prog 62 #[.pointer (some ⟨B, 0, none⟩), .int .i64 (from_ : Int)] w fun e w' => e = .returned (.func (.func 77) #[] #[.pointer (some ⟨w.heap.size, 0, none⟩), .pointer (some ⟨w.heap.size + 1, 0, none⟩)]) ∧
    w' = (w.alloc (.cells #[.pointer (some ⟨B, 0, none⟩)] 24)).alloc (.cells #[.int .i64 (from_ : Int)] 3) := by
  have hmf := makeFunc_run
  go_enter Tryd.func62, Tryd.ntmps62
  go_wp2_with fail
  go_ret
  exact ⟨rfl, rfl⟩
/-- What the iterator reads: the buffer, and where it begins. -/
structure RestAt (W : World) (BP BF B : Nat) (s : St) (A : Option Addr) (N c f : Nat) : Prop where
  bp : Boxed W BP 24 (.pointer (some ⟨B, 0, none⟩))
  bf : Boxed W BF 3 (.int .i64 (f : Int))
  buf : BufAt W B s A N c
theorem slice_rest {g N c f : Nat} (hf : f ≤ N) (hc : N ≤ c) : ∃ A', (∀ u : World, (Instr.slice 28 (.slice (some ⟨g, 0, none⟩) N c) (some (.int .i64 (f : Int))) none none).run Tryd.prog u = .ok (.slice A' (N - f) (c - f)) u) ∧ (f < N → A' = some ⟨g, f, none⟩) := by
  have h1 : f ≤ c := by omega
  by_cases e : c = f
  · refine ⟨some ⟨g, 0, none⟩, fun u => ?_, fun h => by omega⟩
    subst e
    simp [Instr.slice, Instr.sliceBounds, Instr.sliceBound, run_underlying Tryd.underlying28, asIntOf, go_sem, hf]
  · refine ⟨some ⟨g, f, none⟩, fun u => ?_, fun _ => rfl⟩
    by_cases e0 : f = 0
    · subst e0
      simp [Instr.slice, Instr.sliceBounds, Instr.sliceBound, run_underlying Tryd.underlying28, asIntOf, go_sem, Addr.add]
    · simp [Instr.slice, Instr.sliceBounds, Instr.sliceBound, run_underlying Tryd.underlying28, asIntOf, go_sem, hf, e, Addr.add, e0]
set_option maxRecDepth 100000 in
set_option maxHeartbeats 4000000 in
theorem rest_runs {n lp : Nat} (hn : 1 ≤ n) {BP BF B N c f : Nat} {s : St} {A : Option Addr} {J : Nat → World → Prop} {Jx : World → Prop} {W : World} (hf : f ≤ N)
    (hB : ∀ k W1, J k W1 → RestAt W1 BP BF B s A N c f)
    (hJ : ∀ k W1 W2, J k W1 → W1.grownBy W2 none → J k W2)
    (hY : ∀ k W1, f ≤ k → k < N → J k W1 → YieldAt Fence.wide (n - 1) Tryd.prog lp #[.int .i64 (k : Int), .int .i64 (s.V[k]?.getD 0)] W1 fun e W' =>
      (e = .returned (.bool true) ∧ J (k + 1) W') ∨ (e = .returned (.bool false) ∧ Jx W'))
    (h0 : J f W) :
    CallsIn Fence.wide n Tryd.prog 77 #[.func (.yield lp) #[] #[], .pointer (some ⟨BP, 0, none⟩), .pointer (some ⟨BF, 0, none⟩)] W fun e W' =>
      (∃ v, e = .returned v) ∧ (J N W' ∨ Jx W') := by
  have hM0 := hB f W h0
  obtain ⟨g, rfl, _, _, hNc⟩ := hM0.buf.addr
  have hpos := hM0.buf.pos
  have p0 := hM0.bp.cell
  have p1 := hM0.bf.cell
  have p2 := bufC.c3 hM0.buf.blk
  obtain ⟨A', hsl, hA'⟩ := slice_rest (g := g) hf hNc
  have hN' : (N : Int) ≤ 18444 := by omega
  have hf' : (f : Int) ≤ (N : Int) := by omega
  have hNf : ((N - f : Nat) : Int) = (N : Int) - (f : Int) := by omega
  have hJ0 := Lib.hid (fun j => hJ f W (W.drewN j) h0 ⟨rfl, rfl, rfl, Nat.le_refl _, fun _ _ _ => rfl⟩)
  clear hM0 hpos hNc h0
  refine callsIn_of_wp Tryd.func77 rfl trivial ?_ rfl
  simp only [Tryd.ntmps77, List.size_toArray, List.length_cons, List.length_nil, Nat.reduceAdd, Nat.reduceSub, Array.replicate_succ, Array.replicate_zero, List.push_toArray, List.append_toArray, List.nil_append, List.cons_append]
  gi_wp2
  refine wpIn_region_quiet_lit rfl (by kernel_rfl) (by kernel_rfl) ?_
  repeat (gi_big_quiet_step (fail))
  refine wpQuietIn_nil ?_
  rintro w' ⟨nq, rfl⟩
  have HJ := Lib.hid (hJ0.out nq)
  clear p0 p1 p2 hJ0 hsl
  gi_wp2
  gi_loopw [13] (fun x wr => ∃ k : Nat, k ≤ N - f ∧ x = .int .i64 (k : Int) ∧ J (f + k) wr) (fun x _ => (N - f) - (intOf x).toNat)
  case atStart => exact ⟨0, Nat.zero_le _, rfl, HJ.out⟩
  case round =>
    obtain ⟨k, hk, rfl, hJk⟩ := hrel
    by_cases hlt : k < N - f
    · have hM := hB _ wr hJk
      obtain rfl := hA' (by omega)
      have c1 := hM.bf.cell
      have hc := World.ownsRow.cellAt hM.buf.row (f + k) (by omega)
      have hlen : f + k < s.V.length := by rw [hM.buf.ok.len, ← hM.buf.len]; omega
      rw [List.getElem?_map, List.getElem?_eq_getElem hlen, Option.map_some] at hc
      have hY1 := Lib.hid (hY (f + k) wr (by omega) (by omega) hJk)
      rw [List.getElem?_eq_getElem hlen, Option.getD_some] at hY1
      have hz : (k : Int) < (N : Int) - (f : Int) := by omega
      generalize s.V[f + k] = x at *
      obtain ⟨q, hq⟩ : ∃ q, f + k = q := ⟨_, rfl⟩
      have e1 : (f : Int) + (k : Int) = (q : Int) := by omega
      have hz2 : (q : Int) ≤ 18444 := by omega
      have HQ := Lib.hid hq
      rw [hq] at hY1
      obtain ⟨fn, tmps, assign, body, hy, hRd⟩ := hY1.out
      clear hM hY hlen hJ hB hJk hq hY1
      gi_wp2
      refine hRd.mono ?_
      rintro e W3 (⟨rfl, hJ3⟩ | ⟨rfl, hJx3⟩)
      · gi_wp2
        go_roundw
        case rel => exact ⟨k + 1, by omega, by go_num, by rw [← Nat.add_assoc, HQ.out]; exact hJ3⟩
        case measure => simp [intOf]; omega
      · gi_wp2
        refine bodyPost_ret (results_none rfl _ _ _) rfl ?_
        exact ⟨⟨_, rfl⟩, .inr hJx3⟩
    · obtain rfl : k = N - f := by omega
      have hJN : J N wr := by have h := hJk; rw [show f + (N - f) = N by omega] at h; exact h
      clear hJk hJ hB hY
      gi_wp2
      go_end0
      exact ⟨⟨_, rfl⟩, .inl hJN⟩
/-- A range over it. -/
theorem wpIn_rest {n : Nat} (h1 : 2 ≤ n) {g : Operand} {ps : Array Tmp} {assign body : Code} {Q : Exit → Act → World → Prop} {a : Act} {w : World} {BP BF B N c f : Nat} {s : St} {A : Option Addr} (hf : f ≤ N)
    (hg : a.eval g = .func (.func 77) #[] #[.pointer (some ⟨BP, 0, none⟩), .pointer (some ⟨BF, 0, none⟩)]) (hps : ps.size = 2)
    (I : Nat → World → Prop) (Ix : Code → World → Prop) (hI : OwnFrom w.heap.size I) (hIx : ∀ c, OwnFrom w.heap.size (fun (_ : Unit) => Ix c)) (hL : ∀ k W, I k W → RestAt W BP BF B s A N c f) (h0 : I f w) (a₁ : Nat → Act)
    (hassign : ∀ (lp k : Nat) (W : World) (K : Act → World → Prop), K (a₁ k) W →
      assign.wpIn (Fence.wide.inRound lp) (n - 1 - 1) Tryd.prog (Exit.then K (fun _ _ _ => False)) { tmps := (ps.zip #[.int .i64 (k : Int), .int .i64 (s.V[k]?.getD 0)]).foldl (fun t (p, v) => t.setIfInBounds p v) a.tmps, defers := [] } W)
    (hbody : ∀ (lp k : Nat) (W : World), f ≤ k → k < N → I k W → w.heap.size + 2 ≤ W.heap.size → body.wpIn (Fence.wide.inRound lp) (n - 1 - 1) Tryd.prog (stepPost w.heap.size I Ix (k + 1) W) (a₁ k) W)
    (hdone : ∀ (D : Nat) (W : World), D = w.heap.size → I N W → W.heap[D]? = some (.deferred (some [])) → Q .normal { a with defers := mkD D :: a.defers } W)
    (hstop : ∀ (D : Nat) (c : Code) (W : World), D = w.heap.size → Ix c W → W.heap[D]? = some (.deferred (some [])) → c.wpIn Fence.wide n Tryd.prog Q { a with defers := mkD D :: a.defers } W) :
    (Code.rangeFunc g ps assign body).wpIn Fence.wide n Tryd.prog Q a w := by
  refine wpIn_rangeFunc fun f0 hf0 => ?_
  obtain ⟨rc, hrc⟩ : ∃ rc : LoopState → Option Code → Obj, rc = fun st pe => .loop { state := st, pending := pe, fn := f0, tmps := a.tmps, params := ps, assign, body, defers := w.heap.size } := ⟨_, rfl⟩
  obtain ⟨L, hLp⟩ : ∃ L, w.heap.size + 1 = L := ⟨_, rfl⟩
  obtain ⟨W1, hW1⟩ : ∃ W1, (w.alloc (.deferred (some []))).alloc (rc .ready none) = W1 := ⟨_, rfl⟩
  have hsz : W1.heap.size = w.heap.size + 2 := by rw [← hW1]; simp
  have hrec1 : W1.heap[L]? = some (rc .ready none) := by
    have := World.alloc_heap_new (w.alloc (.deferred (some []))) (rc .ready none)
    rw [World.size_alloc, hLp] at this
    rw [← hW1]; exact this
  have hdef1 : W1.heap[w.heap.size]? = some (.deferred (some [])) := by
    rw [← hW1]; exact (Below.heap_alloc _ _ _ (by simp)).trans (World.alloc_heap_new w _)
  have hcell : ∀ st pe, (rc st pe).isCells = false := fun st pe => by rw [hrc]; rfl
  refine ⟨L, [mkD w.heap.size], W1, { target := .fn (.func 77) #[.pointer (some ⟨BP, 0, none⟩), .pointer (some ⟨BF, 0, none⟩)], args := #[.func (.yield L) #[] #[]] }, W1, 77, #[.func (.yield L) #[] #[]] ++ #[.pointer (some ⟨BP, 0, none⟩), .pointer (some ⟨BF, 0, none⟩)], W1, ?_, ?_, ?_, ?_, fun _ => by omega, ?_⟩
  · rw [← hW1, hrc, ← hLp]; exact run_enterLoop_outer _ _ _ _ _
  · simp only [resolve, hg]
    simp [go_sem]
  · intro f' _; trivial
  · simp [invoke, go_sem]
  refine (rest_runs (n := n - 1) (lp := L) (BP := BP) (BF := BF) (B := B) (s := s) (A := A) (c := c) (by omega) hf (J := fun k W => I k W ∧ W.heap[L]? = some (rc .ready none) ∧ W.heap[w.heap.size]? = some (.deferred (some [])))
    (Jx := fun W => ∃ c, Ix c W ∧ W.heap[L]? = some (rc .done (some c)) ∧ W.heap[w.heap.size]? = some (.deferred (some [])))
    (fun k W h => hL k W h.1)
    (fun k W W' h hg => ⟨hI k W W' none h.1 hg (fun r e => by cases e), (hg.block L (Array.getElem?_eq_some_iff.1 h.2.1).1 (fun e => by cases e)).trans h.2.1, (hg.block w.heap.size (Array.getElem?_eq_some_iff.1 h.2.2).1 (fun e => by cases e)).trans h.2.2⟩)
    ?_ ⟨by rw [← hW1]; exact hI.alloc _ (hI.alloc _ h0), hrec1, hdef1⟩).mono ?_
  · rintro k W hfk hkb ⟨hi, hl, hk⟩
    have hlt : L < W.heap.size := (Array.getElem?_eq_some_iff.1 hl).1
    have hl' := hl
    rw [hrc] at hl'
    refine ⟨f0, _, assign, body, run_yield hl' (by show 2 = ps.size; rw [hps]), roundIn_of_wpIn hf0 (hassign _ k W _ ⟨_, run_beginRound hl' rfl, ?_⟩)⟩
    obtain ⟨W2, hW2⟩ : ∃ W2, W.putObj L (rc .busy none) = W2 := ⟨_, rfl⟩
    have hl2 : W2.heap[L]? = some (rc .busy none) := by rw [← hW2]; exact World.putObj_heap_same hlt
    have hk2 : W2.heap[w.heap.size]? = some (.deferred (some [])) := by rw [← hW2]; exact (World.putObj_heap_other (by omega)).trans hk
    have hi2 : I k W2 := by rw [← hW2]; exact hI.putObj _ hi (by omega) hl (hcell _ _)
    have hs2 : W2.heap.size = W.heap.size := by rw [← hW2]; simp
    have hw2 : (W.putObj L (.loop { ({ state := .ready, pending := none, fn := f0, tmps := a.tmps, params := ps, assign, body, defers := w.heap.size } : Loop) with state := .busy })) = W2 := by rw [← hW2, hrc]
    rw [hw2]
    refine wpIn_mono (hbody _ k _ hfk hkb hi2 (by omega)) ?_
    have fin : ∀ (jump : Option Code) (W3 : World), KeepsFrom w.heap.size W2 W3 → ∃ W4, (Instr.endRound L jump).run Tryd.prog W3 = .ok (.bool jump.isNone) W4 ∧ W4 = W3.putObj L (rc (if jump.isNone then .ready else .done) jump) ∧ W3.heap[L]? = some (rc .busy none) ∧
        W4.heap[L]? = some (rc (if jump.isNone then .ready else .done) jump) ∧ W4.heap[w.heap.size]? = some (.deferred (some [])) := fun jump W3 hk3 => by
      have hl3 := hk3.same _ _ (by omega) hl2 (hcell _ _)
      have hl3' := hl3
      rw [hrc] at hl3'
      have h5 := run_endRound (P := Tryd.prog) jump hl3'
      refine ⟨_, h5, by rw [hrc], hl3, ?_, ?_⟩
      · rw [hrc]; exact World.putObj_heap_same (Array.getElem?_eq_some_iff.1 hl3).1
      · exact (World.putObj_heap_other (by omega)).trans (hk3.same _ _ (Nat.le_refl _) hk2 rfl)
    rintro e a3 W3 hp
    cases e with
    | normal =>
      obtain ⟨hk3, hi3⟩ := hp
      obtain ⟨W4, hr, h4, hl3, hl4, hk4⟩ := fin none W3 hk3
      exact ⟨_, _, hr, .inl ⟨rfl, by rw [h4]; exact hI.putObj _ hi3 (by omega) hl3 (hcell _ _), hl4, hk4⟩⟩
    | ret =>
      obtain ⟨hk3, hi3⟩ := hp
      obtain ⟨W4, hr, h4, hl3, hl4, hk4⟩ := fin (some .ret) W3 hk3
      exact ⟨_, _, hr, .inr ⟨rfl, .ret, by rw [h4]; exact (hIx _).putObj (s := ()) _ hi3 (by omega) hl3 (hcell _ _), hl4, hk4⟩⟩
    | exit id =>
      obtain ⟨hk3, hi3⟩ := hp
      obtain ⟨W4, hr, h4, hl3, hl4, hk4⟩ := fin (some (.exit id)) W3 hk3
      exact ⟨_, _, hr, .inr ⟨rfl, .exit id, by rw [h4]; exact (hIx _).putObj (s := ()) _ hi3 (by omega) hl3 (hcell _ _), hl4, hk4⟩⟩
    | goto t =>
      obtain ⟨hk3, hi3⟩ := hp
      obtain ⟨W4, hr, h4, hl3, hl4, hk4⟩ := fin (some (.goto t)) W3 hk3
      exact ⟨_, _, hr, .inr ⟨rfl, .goto t, by rw [h4]; exact (hIx _).putObj (s := ()) _ hi3 (by omega) hl3 (hcell _ _), hl4, hk4⟩⟩
    | panic ch => exact hp.elim
    | outgrown => exact hp.elim
  · rintro e W2 ⟨⟨v, rfl⟩, (⟨hi, hl, hk⟩ | ⟨c, hi, hl, hk⟩)⟩
    · have hl' := hl
      rw [hrc] at hl'
      exact ⟨none, _, run_endLoop hl' (by simp), hdone _ _ rfl (hI.putObj _ hi (by omega) hl (hcell _ _)) ((World.putObj_heap_other (by omega)).trans hk)⟩
    · have hl' := hl
      rw [hrc] at hl'
      exact ⟨some c, _, run_endLoop hl' (by simp), hstop _ c _ rfl ((hIx c).putObj (s := ()) _ hi (by omega) hl (hcell _ _)) ((World.putObj_heap_other (by omega)).trans hk)⟩
end

/-! ### unknown, Known. -/
section
open Go.RowKit Go.Shelf BigFrame

attribute [local go_sem] Oper.semAt_some

/-- The first unknown position from f on. -/
structure NextZ (V : List Int) (N f p : Nat) : Prop where
  lo : f ≤ p
  hi : p ≤ N
  no : ∀ q, f ≤ q → q < p → V[q]?.getD 0 ≠ 0
  at' : p < N → V[p]?.getD 0 = 0
/-- Where the range is. -/
structure UnkI (w : World) (N f : Nat) (V : List Int) (B k : Nat) (W : World) : Prop where
  no : ∀ q, f ≤ q → q < k → V[q]?.getD 0 ≠ 0
  bo : Boxed W w.heap.size 3 (.int .i64 (N : Int))
  bp : Boxed W (w.heap.size + 1) 24 (.pointer (some ⟨B, 0, none⟩))
  bf : Boxed W (w.heap.size + 2) 3 (.int .i64 (f : Int))
  low : Below w.heap.size w W
theorem UnkI.own {w : World} {N f B M : Nat} {V : List Int} (hM : w.heap.size ≤ M) : OwnFrom M (UnkI w N f V B) := by
  intro j W W' row h hg hr
  have hr' : ∀ r, row = some r → ∃ o : Obj, W.heap[r]? = some o ∧ o.isCells = false := fun r e => (hr r e).2
  exact ⟨h.no, boxed_keep h.bo hg hr', boxed_keep h.bp hg hr', boxed_keep h.bf hg hr', h.low.grown hg h.low.size (fun r e => Nat.le_trans hM (hr r e).1)⟩
/-- Behind it. -/
structure UnkX (w : World) (p : Nat) (W : World) : Prop where
  bo : Boxed W w.heap.size 3 (.int .i64 (p : Int))
  low : Below w.heap.size w W
theorem UnkX.own {w : World} {V : List Int} {N f M : Nat} (hM : w.heap.size ≤ M) : OwnFrom M (fun (_ : Unit) (W : World) => ∃ p, NextZ V N f p ∧ UnkX w p W) := by
  rintro j W W' row ⟨p, hz, h⟩ hg hr
  have hr' : ∀ r, row = some r → ∃ o : Obj, W.heap[r]? = some o ∧ o.isCells = false := fun r e => (hr r e).2
  exact ⟨p, hz, boxed_keep h.bo hg hr', h.low.grown hg h.low.size (fun r e => Nat.le_trans hM (hr r e).1)⟩
set_option maxRecDepth 100000 in
set_option maxHeartbeats 8000000 in
theorem unknown_in {n : Nat} (hn : 6 ≤ n) {w : World} {B N c f : Nat} {s : St} {A : Option Addr} (h : BufAt w B s A N c) (hf : f ≤ N) :
    CallsIn Fence.wide n Tryd.prog 45 #[.pointer (some ⟨B, 0, none⟩), .int .i64 (f : Int)] w fun e w' => ∃ p : Nat, e = .returned (.int .i64 (p : Int)) ∧ NextZ s.V N f p ∧ Below w.heap.size w w' := by
  have hrs := Lib.hid (fun (u : World) => callsIn_wide (n := n - 1) |>.2 (rest_any (B := B) (from_ := f) (w := u)))
  have c3 := bufC.c3 h.blk
  have HA := Lib.hid h
  clear h
  refine callsIn_of_wp_marks Tryd.func45 rfl trivial ?_ rfl
  simp only [Tryd.ntmps45, List.size_toArray, List.length_cons, List.length_nil, Nat.reduceAdd, Nat.reduceSub, Array.replicate_succ, Array.replicate_zero, List.push_toArray, List.append_toArray, List.nil_append, List.cons_append]
  gi_wp2
  refine wpIn_wide_scope ?_
  gi_wp2
  refine wpIn_label ?_
  gi_wp2
  refine ⟨trivial, fun _ => by omega, ?_⟩
  refine (hrs.out _).mono ?_
  rintro e w' ⟨rfl, rfl⟩
  have q0 := ((Boxed.new w 3 (.int .i64 (N : Int))).alloc (.cells #[.pointer (some ⟨B, 0, none⟩)] 24)).alloc (.cells #[.int .i64 (f : Int)] 3)
  have q1 := (Boxed.new (w.alloc (.cells #[.int .i64 (N : Int)] 3)) 24 (.pointer (some ⟨B, 0, none⟩))).alloc (.cells #[.int .i64 (f : Int)] 3)
  have q2 := Boxed.new ((w.alloc (.cells #[.int .i64 (N : Int)] 3)).alloc (.cells #[.pointer (some ⟨B, 0, none⟩)] 24)) 3 (.int .i64 (f : Int))
  simp only [World.size_alloc] at q0 q1 q2
  have hb4 : Below w.heap.size w (((w.alloc (.cells #[.int .i64 (N : Int)] 3)).alloc (.cells #[.pointer (some ⟨B, 0, none⟩)] 24)).alloc (.cells #[.int .i64 (f : Int)] 3)) :=
    (((Below.refl _ w).alloc (Nat.le_refl _) _).alloc (by simp) _).alloc (by simp; omega) _
  have hz4 : (((w.alloc (.cells #[.int .i64 (N : Int)] 3)).alloc (.cells #[.pointer (some ⟨B, 0, none⟩)] 24)).alloc (.cells #[.int .i64 (f : Int)] 3)).heap.size = w.heap.size + 3 := by simp
  simp only [World.size_alloc]
  generalize ((w.alloc (.cells #[.int .i64 (N : Int)] 3)).alloc (.cells #[.pointer (some ⟨B, 0, none⟩)] 24)).alloc (.cells #[.int .i64 (f : Int)] 3) = W4 at *
  have hI0 : UnkI w N f s.V B f W4 := ⟨fun q h1 h2 => by omega, q0, q1, q2, hb4⟩
  have HZ := Lib.hid hz4
  clear q0 q1 q2 hb4 hz4 hrs c3
  gi_wp2
  refine wpIn_rest (n := n) (by omega) (BP := w.heap.size + 1) (BF := w.heap.size + 2) (B := B) (N := N) (c := c) (f := f) (s := s) (A := A) hf rfl rfl
    (UnkI w N f s.V B) (fun c W => c = .exit 0 ∧ ∃ p, NextZ s.V N f p ∧ UnkX w p W)
    (UnkI.own (by rw [HZ.out]; omega)) (fun c s' A B row hs hg hr => ⟨hs.1, UnkX.own (by rw [HZ.out]; omega) () A B row hs.2 hg hr⟩)
    (fun t W h => ⟨h.bp, h.bf, HA.out.below h.low⟩) hI0
    (fun k => { tmps := #[.pointer (some ⟨B, 0, none⟩), .int .i64 (f : Int), undef, undef, .int .i64 0, .pointer (some ⟨w.heap.size, 0, none⟩), .int .i64 (k : Int), .int .i64 (s.V[k]?.getD 0), .pointer (some ⟨B, 0, none⟩), .pointer (some ⟨B, 0, none⟩), .pointer (some ⟨B, 3, none⟩), .slice A N c, .int .i64 (N : Int), .pointer (some ⟨B, 0, none⟩), .int .i64 (f : Int), .func (.func 77) #[] #[.pointer (some ⟨w.heap.size + 1, 0, none⟩), .pointer (some ⟨w.heap.size + 2, 0, none⟩)], .int .i64 (k : Int), .int .i64 (s.V[k]?.getD 0), undef, undef, undef, undef], defers := [] }) ?assign ?body ?done ?stop
  case assign =>
    intro lp k W K hK
    gi_wp2
    exact hK
  case body =>
    intro lp k W hfk hkN hI hbig
    have d0 := hI.bo.cell
    have d1 := hI.bo.frozen
    by_cases hx : s.V[k]?.getD 0 = 0
    · have hX : NextZ s.V N f k ∧ UnkX w k (W.setCell ⟨w.heap.size, 0, none⟩ (.int .i64 (k : Int))) := ⟨⟨hfk, by omega, hI.no, fun _ => hx⟩, hI.bo.set _, hI.low.setCell (p := ⟨w.heap.size, 0, none⟩) (Nat.le_refl _) _⟩
      have hKF : KeepsFrom W4.heap.size W (W.setCell ⟨w.heap.size, 0, none⟩ (.int .i64 (k : Int))) := KeepsFrom.of_grownBy (grownBy_setCell_at W ⟨w.heap.size, 0, none⟩ _) (fun j e => by cases e; have := HZ.out; show w.heap.size < W4.heap.size; omega)
      have HX := Lib.hid hX
      have HKF := Lib.hid hKF
      rw [hx]
      clear hI hX hKF
      gi_wp2
      exact ⟨HKF.out, rfl, k, HX.out.1, HX.out.2⟩
    · have hx0 : (s.V[k]?.getD 0 == 0) = false := by simpa using hx
      have hnx : UnkI w N f s.V B (k + 1) W := ⟨fun q h1 h2 => by
        rcases Nat.lt_or_ge q k with h | h
        · exact hI.no q h1 h
        · obtain rfl : q = k := by omega
          exact hx, hI.bo, hI.bp, hI.bf, hI.low⟩
      have HN := Lib.hid hnx
      generalize s.V[k]?.getD 0 = x at *
      clear hI hnx hx
      gi_wp2
      exact ⟨KeepsFrom.refl _ _, HN.out⟩
  case' done =>
    intro D W hD hI hKD
    have hX : ∃ p, NextZ s.V N f p ∧ UnkX w p W := ⟨N, ⟨hf, Nat.le_refl _, hI.no, fun h => absurd h (Nat.lt_irrefl _)⟩, hI.bo, hI.low⟩
    clear hI
  case' stop =>
    rintro D cc W hD ⟨rfl, hX⟩ hKD
  all_goals
    subst hD
    obtain ⟨p, hz, hX⟩ := hX
    have d0 := hX.bo.cell
    have hlow := hX.low.trans (belowK_b (w := w) (Nat.le_refl _) W W4.heap.size _ (.deferred none) (by have := HZ.out; omega) hKD rfl rfl)
    have HL := Lib.hid hlow
    have HK := Lib.hid hKD
    clear hX hKD hlow
    gi_wp2
    refine ⟨by simp, .inl ⟨_, _, rfl, run_takeDeferred HK.out, ?_⟩⟩
    exact ⟨_, results_tmp (t := 4) rfl _ _ _, p, rfl, hz, HL.out⟩
theorem unknown_any {w : World} {B N c f : Nat} {s : St} {A : Option Addr} (h : BufAt w B s A N c) (hf : f ≤ N) :
    Calls Tryd.prog 45 #[.pointer (some ⟨B, 0, none⟩), .int .i64 (f : Int)] w fun e w' => ∃ p : Nat, e = .returned (.int .i64 (p : Int)) ∧ NextZ s.V N f p ∧ Below w.heap.size w w' := callsIn_wide.1 (unknown_in (n := 6) (by decide) h hf)
theorem unkN_skip {V : List Int} {a : Nat} : ∀ {p : Nat}, a ≤ p → (∀ q, a ≤ q → q < p → V[q]?.getD 0 ≠ 0) → unkN V p = unkN V a := by
  intro p
  induction p with
  | zero => intro h _; rw [Nat.le_zero.1 h]
  | succ p ih =>
    intro h hno
    rcases Nat.lt_or_ge p a with h1 | h1
    · rw [show a = p + 1 by omega]
    · rw [unkN_succ, if_neg (hno p h1 (Nat.lt_succ_self p)), Nat.add_zero]
      exact ih h1 (fun q h2 h3 => hno q h2 (by omega))
set_option maxRecDepth 100000 in
set_option maxHeartbeats 4000000 in
theorem Known_buf {w : World} {B N c : Nat} {s : St} {A : Option Addr} (h : BufAt w B s A N c) :
    Calls Tryd.prog 22 #[.pointer (some ⟨B, 0, none⟩)] w fun e w' => e = .returned (.int .i64 ((knoN s.V N : Nat) : Int)) ∧ Below w.heap.size w w' := by
  have hI := Lib.hid (isNone_buf h)
  have hU := Lib.hid (fun (u : World) (f : Nat) (hb : Below w.heap.size w u) (hf : f ≤ N) => unknown_any (h.below hb) hf)
  have c3 := bufC.c3 h.blk
  have hN := h.pos
  have HA := Lib.hid h
  have hN1 : (N : Int) ≤ 18444 := by omega
  have hN0 : (132 : Int) ≤ (N : Int) := by omega
  have hfin := Lib.hid (knoN_unk s.V N)
  clear h hN
  go_enter Tryd.func22, Tryd.ntmps22
  go_wp2_with (first | (go_at_call 36; refine hI.out.mono ?_; rintro e w' ⟨rfl, he⟩; obtain rfl := he.symm) | fail)
  refine (hU.out _ 0 (Below.refl _ _) (Nat.zero_le _)).mono ?_
  rintro e w1 ⟨p0, rfl, hz0, b1⟩
  clear hI c3
  go_wp2_with fail
  go_loopw [3, 4] (fun kn po wr => ∃ p u : Nat, p ≤ N ∧ u ≤ p ∧ kn = .int .i64 ((N : Int) - (u : Int)) ∧ po = .int .i64 (p : Int) ∧ Hid (u = unkN s.V p) ∧ Hid (p < N → s.V[p]?.getD 0 = 0) ∧ Hid (Below w.heap.size w wr)) (fun _ po _ => N - (intOf po).toNat)
  case atStart => exact ⟨p0, 0, hz0.hi, Nat.zero_le _, by simp, rfl, Lib.hid (by rw [unkN_skip (Nat.zero_le p0) hz0.no]; rfl), Lib.hid hz0.at', Lib.hid b1⟩
  case round =>
    clear hz0 b1
    obtain ⟨p, u, hp, hu, rfl, rfl, huv, hat, hb⟩ := hrel
    have c3 := bufC.c3 (HA.out.below hb.out).blk
    by_cases hlt : p < N
    · have hz : (p : Int) < (N : Int) := by omega
      have hc := Lib.hid (hU.out wr (p + 1) hb.out (by omega))
      have hs := unkN_succ s.V p
      rw [if_pos (hat.out hlt), ← huv.out] at hs
      have HS := Lib.hid hs
      have e1 : ((p + 1 : Nat) : Int) = (p : Int) + 1 := by push_cast; rfl
      rw [e1] at hc
      clear hs
      go_wp2_with fail
      refine hc.out.mono ?_
      rintro e w2 ⟨p2, rfl, hz2, b2⟩
      clear hc
      go_wp2_with fail
      go_roundw
      case rel => exact ⟨p2, u + 1, hz2.hi, by have := hz2.lo; omega, by go_num, rfl, Lib.hid (by rw [unkN_skip hz2.lo hz2.no, HS.out]), Lib.hid hz2.at', Lib.hid (hb.out.trans (b2.mono hb.out.size))⟩
      case measure => have := hz2.lo; simp [intOf]; omega
    · obtain rfl : p = N := by omega
      clear hlt
      go_wp2_with fail
      go_ret
      exact ⟨ret_int (by have := hfin.out; have := huv.out; omega), hb.out⟩
end
end Go.Proofs.YtoegamlpgenfcaaDoor
