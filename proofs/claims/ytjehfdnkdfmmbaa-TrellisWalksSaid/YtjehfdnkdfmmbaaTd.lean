/-
  A range over Walk's iterator.
-/
import Derived.Test.YtjehfdnkdfmmbaaTc
namespace Go.Proofs.Ytjehfdnkdfmmbaa
open Go.RowKit Go.Shelf BigFrame

attribute [local go_sem] Oper.semAt_some

/-- How the body of a round may be left. -/
def walkPost (B : Nat) (I : Nat → World → Prop) (Ix : Code → World → Prop) (k : Nat) (W : World) : Exit → Act → World → Prop
  | .normal, _, W' => KeepsFrom B W W' ∧ KeepsSpan (B + 2) 5 W W' ∧ I k W'
  | .ret, _, W' => KeepsFrom B W W' ∧ Ix .ret W'
  | .exit id, _, W' => KeepsFrom B W W' ∧ Ix (.exit id) W'
  | .goto t, _, W' => KeepsFrom B W W' ∧ Ix (.goto t) W'
  | .panic _, _, _ => False
  | .outgrown, _, _ => False
/-- A range over Walk's iterator. -/
theorem wpIn_walk {n : Nat} (h1 : 8 ≤ n) {g : Operand} {ps : Array Tmp} {assign body : Code} {Q : Exit → Act → World → Prop} {a : Act} {w : World} {xs : List Int} {A : Option Addr} {L c C Bx : Nat} (hb : Byte xs) (hLL : L ≤ 140737488355328)
    (hg : a.eval g = .func (.func 40) #[] #[.pointer (some ⟨C, 0, none⟩)]) (hps : ps.size = 2)
    (I : Nat → World → Prop) (Ix : Code → World → Prop) (hI : OwnFrom w.heap.size I) (hIx : ∀ c, OwnFrom w.heap.size (fun (_ : Unit) => Ix c)) (hS : SpanFrom (w.heap.size + 2) 5 I)
    (hC : ∀ W, I 0 W → W.cell? ⟨C, 0, none⟩ = some (.slice A L c)) (hR : ∀ k W, I k W → Rd .u8 W Bx A L xs) (h0 : I 0 w) (a₁ : Nat → Act)
    (hassign : ∀ (lp k : Nat) (W : World) (K : Act → World → Prop), K (a₁ k) W →
      assign.wpIn (Fence.wide.inRound lp) (n - 1 - 1) Try.prog (Exit.then K (fun _ _ _ => False)) { tmps := (ps.zip #[.int .i64 (stK xs (k + 1) : Nat), .int .i64 (paK xs k)]).foldl (fun t (p, v) => t.setIfInBounds p v) a.tmps, defers := [] } W)
    (hbody : ∀ (lp k : Nat) (W : World), k < vlen xs → I k W → w.heap.size + 7 ≤ W.heap.size → body.wpIn (Fence.wide.inRound lp) (n - 1 - 1) Try.prog (walkPost w.heap.size I Ix (k + 1) W) (a₁ k) W)
    (hdone : ∀ (D : Nat) (W : World), D = w.heap.size → I (vlen xs) W → W.heap[D]? = some (.deferred (some [])) → Q .normal { a with defers := mkD D :: a.defers } W)
    (hstop : ∀ (D : Nat) (c : Code) (W : World), D = w.heap.size → Ix c W → W.heap[D]? = some (.deferred (some [])) → c.wpIn Fence.wide n Try.prog Q { a with defers := mkD D :: a.defers } W) :
    (Code.rangeFunc g ps assign body).wpIn Fence.wide n Try.prog Q a w := by
  refine wpIn_rangeFunc fun f0 hf0 => ?_
  obtain ⟨rc, hrc⟩ : ∃ rc : LoopState → Option Code → Obj, rc = fun st pe => .loop { state := st, pending := pe, fn := f0, tmps := a.tmps, params := ps, assign, body, defers := w.heap.size } := ⟨_, rfl⟩
  obtain ⟨Lb, hLp⟩ : ∃ Lb, w.heap.size + 1 = Lb := ⟨_, rfl⟩
  obtain ⟨W1, hW1⟩ : ∃ W1, (w.alloc (.deferred (some []))).alloc (rc .ready none) = W1 := ⟨_, rfl⟩
  have hsz : W1.heap.size = w.heap.size + 2 := by rw [← hW1]; simp
  have hrec1 : W1.heap[Lb]? = some (rc .ready none) := by
    have := World.alloc_heap_new (w.alloc (.deferred (some []))) (rc .ready none)
    rw [World.size_alloc, hLp] at this
    rw [← hW1]; exact this
  have hdef1 : W1.heap[w.heap.size]? = some (.deferred (some [])) := by
    rw [← hW1]; exact (Below.heap_alloc _ _ _ (by simp)).trans (World.alloc_heap_new w _)
  have hcell : ∀ st pe, (rc st pe).isCells = false := fun st pe => by rw [hrc]; rfl
  refine ⟨Lb, [mkD w.heap.size], W1, { target := .fn (.func 40) #[.pointer (some ⟨C, 0, none⟩)], args := #[.func (.yield Lb) #[] #[]] }, W1, 40, #[.func (.yield Lb) #[] #[]] ++ #[.pointer (some ⟨C, 0, none⟩)], W1, ?_, ?_, ?_, ?_, fun _ => by omega, ?_⟩
  · rw [← hW1, hrc, ← hLp]; exact run_enterLoop_outer _ _ _ _ _
  · simp only [resolve, hg]
    simp [go_sem]
  · intro f' _; trivial
  · simp [invoke, go_sem]
  have kept : ∀ {A B : World} {row : Option Nat} {j : Nat} {o : Obj}, A.grownBy B row → (∀ r, row = some r → W1.heap.size ≤ r) → j < W1.heap.size → A.heap[j]? = some o → B.heap[j]? = some o :=
    fun hg' hr hj ho => (hg'.block _ (Array.getElem?_eq_some_iff.1 ho).1 (fun e => by have := hr _ e.symm; omega)).trans ho
  have low : ∀ {A : World} {row : Option Nat}, (∀ r, row = some r → W1.heap.size ≤ r ∧ ∃ o : Obj, A.heap[r]? = some o ∧ o.isCells = false) → (∀ r, row = some r → w.heap.size ≤ r ∧ ∃ o : Obj, A.heap[r]? = some o ∧ o.isCells = false) :=
    fun hr r e => ⟨by have := (hr r e).1; omega, (hr r e).2⟩
  refine (walk_runs (n := n - 1) (lp := Lb) (Bx := Bx) (c := c) (by omega) (J := fun k W => I k W ∧ W.heap[Lb]? = some (rc .ready none) ∧ W.heap[w.heap.size]? = some (.deferred (some [])))
    (Jx := fun W => ∃ c, Ix c W ∧ W.heap[Lb]? = some (rc .done (some c)) ∧ W.heap[w.heap.size]? = some (.deferred (some []))) hb hLL
    (fun W h => hC W h.1) (fun k W h => hR k W h.1)
    (fun k W W' row h hg hr => ⟨hI k W W' row h.1 hg (low (A := W) hr), kept hg (fun r e => (hr r e).1) (by omega) h.2.1, kept hg (fun r e => (hr r e).1) (by omega) h.2.2⟩)
    (fun _ W W' row h hg hr => by
      obtain ⟨c, hc, h2, h3⟩ := h
      exact ⟨c, hIx c () W W' row hc hg (low (A := W) hr), kept hg (fun r e => (hr r e).1) (by omega) h2, kept hg (fun r e => (hr r e).1) (by omega) h3⟩)
    (fun k W W' r h hg h1 h2 => ⟨hS k W W' r h.1 hg (by omega) (by omega), kept hg (fun q e => by injection e with e; omega) (by omega) h.2.1, kept hg (fun q e => by injection e with e; omega) (by omega) h.2.2⟩)
    ?_ ⟨by rw [← hW1]; exact hI.alloc _ (hI.alloc _ h0), hrec1, hdef1⟩).mono ?_
  · rintro k W hkb ⟨hi, hl, hk⟩ hbig
    have hlt : Lb < W.heap.size := (Array.getElem?_eq_some_iff.1 hl).1
    have hl' := hl
    rw [hrc] at hl'
    refine ⟨f0, _, assign, body, run_yield hl' (by show 2 = ps.size; rw [hps]), roundIn_of_wpIn hf0 (hassign _ k W _ ⟨_, run_beginRound hl' rfl, ?_⟩)⟩
    obtain ⟨W2, hW2⟩ : ∃ W2, W.putObj Lb (rc .busy none) = W2 := ⟨_, rfl⟩
    have hl2 : W2.heap[Lb]? = some (rc .busy none) := by rw [← hW2]; exact World.putObj_heap_same hlt
    have hk2 : W2.heap[w.heap.size]? = some (.deferred (some [])) := by rw [← hW2]; exact (World.putObj_heap_other (by omega)).trans hk
    have hi2 : I k W2 := by rw [← hW2]; exact hI.putObj _ hi (by omega) hl (hcell _ _)
    have hkf2 : KeepsFrom W1.heap.size W W2 := by rw [← hW2]; exact keepsFrom_putLow _ _ _ (by omega)
    have hks2 : KeepsSpan W1.heap.size 5 W W2 := by rw [← hW2]; exact KeepsSpan.putObj _ _ _ (by omega)
    have hs2 : W2.heap.size = W.heap.size := by rw [← hW2]; simp
    have hw2 : (W.putObj Lb (.loop { ({ state := .ready, pending := none, fn := f0, tmps := a.tmps, params := ps, assign, body, defers := w.heap.size } : Loop) with state := .busy })) = W2 := by rw [← hW2, hrc]
    rw [hw2]
    refine wpIn_mono (hbody _ k _ hkb hi2 (by omega)) ?_
    have fin : ∀ (jump : Option Code) (W3 : World), KeepsFrom w.heap.size W2 W3 → ∃ W4, (Instr.endRound Lb jump).run Try.prog W3 = .ok (.bool jump.isNone) W4 ∧ W4 = W3.putObj Lb (rc (if jump.isNone then .ready else .done) jump) ∧ W3.heap[Lb]? = some (rc .busy none) ∧
        W4.heap[Lb]? = some (rc (if jump.isNone then .ready else .done) jump) ∧ W4.heap[w.heap.size]? = some (.deferred (some [])) ∧ KeepsFrom W1.heap.size W W4 ∧ (∀ X : KeepsSpan W1.heap.size 5 W2 W3, KeepsSpan W1.heap.size 5 W W4) := fun jump W3 hk3 => by
      have hl3 := hk3.same _ _ (by omega) hl2 (hcell _ _)
      have hl3' := hl3
      rw [hrc] at hl3'
      have h5 := run_endRound (P := Try.prog) jump hl3'
      refine ⟨_, h5, by rw [hrc], hl3, ?_, ?_, ?_, ?_⟩
      · rw [hrc]; exact World.putObj_heap_same (Array.getElem?_eq_some_iff.1 hl3).1
      · exact (World.putObj_heap_other (by omega)).trans (hk3.same _ _ (Nat.le_refl _) hk2 rfl)
      · exact (hkf2.trans (keepsFrom_more hk3 (by omega))).trans (keepsFrom_putLow _ _ _ (by omega))
      · exact fun X => (hks2.trans X).trans (KeepsSpan.putObj _ _ _ (by omega))
    rintro e a3 W3 hp
    cases e with
    | normal =>
      obtain ⟨hk3, he3, hi3⟩ := hp
      obtain ⟨W4, hr, h4, hl3, hl4, hk4, hf4, hs4⟩ := fin none W3 hk3
      exact ⟨_, _, hr, .inl ⟨rfl, ⟨by rw [h4]; exact hI.putObj _ hi3 (by omega) hl3 (hcell _ _), hl4, hk4⟩, hf4, hs4 (by rw [hsz]; exact he3)⟩⟩
    | ret =>
      obtain ⟨hk3, hi3⟩ := hp
      obtain ⟨W4, hr, h4, hl3, hl4, hk4, hf4, _⟩ := fin (some .ret) W3 hk3
      exact ⟨_, _, hr, .inr ⟨rfl, ⟨.ret, by rw [h4]; exact (hIx _).putObj (s := ()) _ hi3 (by omega) hl3 (hcell _ _), hl4, hk4⟩, hf4⟩⟩
    | exit id =>
      obtain ⟨hk3, hi3⟩ := hp
      obtain ⟨W4, hr, h4, hl3, hl4, hk4, hf4, _⟩ := fin (some (.exit id)) W3 hk3
      exact ⟨_, _, hr, .inr ⟨rfl, ⟨.exit id, by rw [h4]; exact (hIx _).putObj (s := ()) _ hi3 (by omega) hl3 (hcell _ _), hl4, hk4⟩, hf4⟩⟩
    | goto t =>
      obtain ⟨hk3, hi3⟩ := hp
      obtain ⟨W4, hr, h4, hl3, hl4, hk4, hf4, _⟩ := fin (some (.goto t)) W3 hk3
      exact ⟨_, _, hr, .inr ⟨rfl, ⟨.goto t, by rw [h4]; exact (hIx _).putObj (s := ()) _ hi3 (by omega) hl3 (hcell _ _), hl4, hk4⟩, hf4⟩⟩
    | panic ch => exact hp.elim
    | outgrown => exact hp.elim
  · rintro e W2 ⟨⟨v, rfl⟩, (⟨hi, hl, hk⟩ | ⟨c, hi, hl, hk⟩)⟩
    · have hl' := hl
      rw [hrc] at hl'
      exact ⟨none, _, run_endLoop hl' (by simp), hdone _ _ rfl (hI.putObj _ hi (by omega) hl (hcell _ _)) ((World.putObj_heap_other (by omega)).trans hk)⟩
    · have hl' := hl
      rw [hrc] at hl'
      exact ⟨some c, _, run_endLoop hl' (by simp), hstop _ c _ rfl ((hIx c).putObj (s := ()) _ hi (by omega) hl (hcell _ _)) ((World.putObj_heap_other (by omega)).trans hk)⟩
end Go.Proofs.Ytjehfdnkdfmmbaa
