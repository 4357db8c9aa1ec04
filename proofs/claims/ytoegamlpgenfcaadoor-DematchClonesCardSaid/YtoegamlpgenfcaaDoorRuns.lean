/-
  A range over an iterator that yields one given stream and need not end: the loop's body leaves it.
-/
import Derived.RangeFuncNested
import Derived.RangeFuncLeaves
import Derived.RangeFuncBound
import Derived.RangeFuncCalls
namespace Go.Proofs.YtoegamlpgenfcaaDoor
open Go.RowKit

theorem yield_any {P : Program} {m m' l l2 : Nat} {args : Array Value} {W : World} {R : Ending → World → Prop} (h : YieldAt Fence.wide m P l args W R) : YieldAt (Fence.wide.inRound l2) m' P l args W R := by
  obtain ⟨fn, tmps, assign, body, hy, hR⟩ := h
  exact ⟨fn, tmps, assign, body, hy, hR.1, fun c cs _ => hR.2 c cs (room_wide _)⟩
theorem yield_wide {P : Program} {m m' l : Nat} {args : Array Value} {W : World} {R : Ending → World → Prop} (h : YieldAt Fence.wide m P l args W R) : YieldAt Fence.wide m' P l args W R := by
  obtain ⟨fn, tmps, assign, body, hy, hR⟩ := h
  exact ⟨fn, tmps, assign, body, hy, hR.1, fun c cs _ => hR.2 c cs (room_wide _)⟩

/-- What a round that goes on keeps of the iterator's own first M blocks. -/
def KeepsSpan (B M : Nat) (W W' : World) : Prop := ∀ j, B ≤ j → j < B + M → W'.heap[j]? = W.heap[j]?
theorem KeepsSpan.refl (B M : Nat) (W : World) : KeepsSpan B M W W := fun _ _ _ => rfl
theorem KeepsSpan.trans {B M : Nat} {X Y Z : World} (h : KeepsSpan B M X Y) (k : KeepsSpan B M Y Z) : KeepsSpan B M X Z := fun j h1 h2 => (k j h1 h2).trans (h j h1 h2)
theorem KeepsSpan.putObj {B M : Nat} (W : World) (l : Nat) (o : Obj) (h : l < B) : KeepsSpan B M W (W.putObj l o) := fun _ h1 _ => World.putObj_heap_other (by omega)
theorem keepsFrom_putLow {B : Nat} (W : World) (l : Nat) (o : Obj) (h : l < B) : KeepsFrom B W (W.putObj l o) := KeepsFrom.of_grownBy (grownBy_putObj' W l o) (fun j e => by cases e; exact h)
theorem keepsFrom_more {B B' : Nat} {W W' : World} (h : KeepsFrom B W W') (hB : B ≤ B') : KeepsFrom B' W W' := ⟨h.size, fun k o hk => h.same k o (Nat.le_trans hB hk)⟩
theorem ownFrom_more {β : Type} {B B' : Nat} {I : β → World → Prop} (h : OwnFrom B I) (hB : B ≤ B') : OwnFrom B' I := fun s W W' row hs hg hr => h s W W' row hs hg (fun r e => ⟨Nat.le_trans hB (hr r e).1, (hr r e).2⟩)

/-- A change of one of the M blocks from B on does not matter. -/
def SpanFrom {β : Type} (B M : Nat) (J : β → World → Prop) : Prop := ∀ s W W' r, J s W → W.grownBy W' (some r) → B ≤ r → r < B + M → J s W'
theorem SpanFrom.and {β : Type} {B M : Nat} {I I' : β → World → Prop} (h : SpanFrom B M I) (h' : SpanFrom B M I') : SpanFrom B M (fun s W => I s W ∧ I' s W) := fun s W W' r hs hg h1 h2 => ⟨h s W W' r hs.1 hg h1 h2, h' s W W' r hs.2 hg h1 h2⟩

/-- The iterator yields s 0, s 1, .. until the body says no (or, if E, nothing at all); it may lay M blocks that it wants kept; the body goes on fewer than N times. -/
def Runs (n : Nat) (P : Program) (g : Nat) (lb : Array Value) (s : Nat → Value) (E : Prop) (M N : Nat) (w : World) : Prop :=
  ∀ (l : Nat) (J : Nat → World → Prop) (Jx : World → Prop) (W : World), Below w.heap.size w W → OwnFrom W.heap.size J → OwnFrom W.heap.size (fun (_ : Unit) => Jx) → SpanFrom W.heap.size M J →
    (∀ k W1, J k W1 → k < N) →
    (¬ E → ∀ k W1, J k W1 → W.heap.size + M ≤ W1.heap.size → YieldAt Fence.wide (n - 1) P l #[s k] W1 fun e W' =>
      (e = .returned (.bool true) ∧ J (k + 1) W' ∧ KeepsFrom W.heap.size W1 W' ∧ KeepsSpan W.heap.size M W1 W') ∨ (e = .returned (.bool false) ∧ Jx W' ∧ KeepsFrom W.heap.size W1 W')) →
    J 0 W →
    CallsIn Fence.wide n P g (#[.func (.yield l) #[] #[]] ++ lb) W fun e W' => (∃ v, e = .returned v) ∧ ((E ∧ J 0 W') ∨ Jx W')

/-- How the body of a round may be left. -/
def runsPost (B M : Nat) (I : Nat → World → Prop) (Ix : Code → World → Prop) (k : Nat) (W : World) : Exit → Act → World → Prop
  | .normal, _, W' => KeepsFrom B W W' ∧ KeepsSpan (B + 2) M W W' ∧ I k W'
  | .ret, _, W' => KeepsFrom B W W' ∧ Ix .ret W'
  | .exit id, _, W' => KeepsFrom B W W' ∧ Ix (.exit id) W'
  | .goto t, _, W' => KeepsFrom B W W' ∧ Ix (.goto t) W'
  | .panic _, _, _ => False
  | .outgrown, _, _ => False

theorem wpIn_runs {P : Program} {n : Nat} {g : Operand} {ps : Array Tmp} {assign body : Code} {Q : Exit → Act → World → Prop} {a : Act} {w : World}
    (h1 : 1 ≤ n) {gf : Nat} {lb : Array Value} (hg : a.eval g = .func (.func gf) #[] lb) (eg : ∀ args w, (callFunc gf args).run P w = .ok (.enter gf args) w)
    {s : Nat → Value} {E : Prop} {M N : Nat} (hseq : Runs (n - 1) P gf lb s E M N w) (hps : ps.size = 1)
    (I : Nat → World → Prop) (Ix : Code → World → Prop) (hI : OwnFrom w.heap.size I) (hIx : ∀ c, OwnFrom w.heap.size (fun (_ : Unit) => Ix c)) (hS : SpanFrom (w.heap.size + 2) M I) (hN : ∀ k W, I k W → k < N) (h0 : I 0 w) (a₁ : Nat → Act)
    (hassign : ∀ (l k : Nat) (W : World) (K : Act → World → Prop), K (a₁ k) W →
      assign.wpIn (Fence.wide.inRound l) (n - 1 - 1) P (Exit.then K (fun _ _ _ => False)) { tmps := (ps.zip #[s k]).foldl (fun t (p, v) => t.setIfInBounds p v) a.tmps, defers := [] } W)
    (hbody : ¬ E → ∀ (l k : Nat) (W : World), I k W → w.heap.size + 2 + M ≤ W.heap.size → body.wpIn (Fence.wide.inRound l) (n - 1 - 1) P (runsPost w.heap.size M I Ix (k + 1) W) (a₁ k) W)
    (hdone : ∀ (D : Nat) (W : World), w.heap.size ≤ D → E → I 0 W → W.heap[D]? = some (.deferred (some [])) → Q .normal { a with defers := { target := .collected D, args := #[] } :: a.defers } W)
    (hstop : ∀ (D : Nat) (c : Code) (W : World), w.heap.size ≤ D → Ix c W → W.heap[D]? = some (.deferred (some [])) → c.wpIn Fence.wide n P Q { a with defers := { target := .collected D, args := #[] } :: a.defers } W) :
    (Code.rangeFunc g ps assign body).wpIn Fence.wide n P Q a w := by
  refine wpIn_rangeFunc fun fn hfn => ?_
  obtain ⟨rc, hrc⟩ : ∃ rc : LoopState → Option Code → Obj, rc = fun st pe => .loop { state := st, pending := pe, fn, tmps := a.tmps, params := ps, assign, body, defers := w.heap.size } := ⟨_, rfl⟩
  obtain ⟨L, hL⟩ : ∃ L, w.heap.size + 1 = L := ⟨_, rfl⟩
  obtain ⟨W1, hW1⟩ : ∃ W1, (w.alloc (.deferred (some []))).alloc (rc .ready none) = W1 := ⟨_, rfl⟩
  have hsz : W1.heap.size = w.heap.size + 2 := by rw [← hW1]; simp
  have hrec1 : W1.heap[L]? = some (rc .ready none) := by
    have := World.alloc_heap_new (w.alloc (.deferred (some []))) (rc .ready none)
    rw [World.size_alloc, hL] at this
    rw [← hW1]; exact this
  have hdef1 : W1.heap[w.heap.size]? = some (.deferred (some [])) := by
    rw [← hW1]; exact (Below.heap_alloc _ _ _ (by simp)).trans (World.alloc_heap_new w _)
  have hb1 : Below w.heap.size w W1 := by rw [← hW1]; exact ((Below.refl _ w).alloc (Nat.le_refl _) _).alloc (by simp) _
  have hcell : ∀ st pe, (rc st pe).isCells = false := fun st pe => by rw [hrc]; rfl
  have kept : ∀ {A B : World} {row : Option Nat} {j : Nat} {o : Obj}, A.grownBy B row → (∀ r, row = some r → W1.heap.size ≤ r ∧ ∃ o : Obj, A.heap[r]? = some o ∧ o.isCells = false) → j < W1.heap.size → A.heap[j]? = some o → B.heap[j]? = some o :=
    fun hg' hr hj ho => (hg'.block _ (Array.getElem?_eq_some_iff.1 ho).1 (fun e => by have := (hr _ e.symm).1; omega)).trans ho
  have low : ∀ {A : World} {row : Option Nat}, (∀ r, row = some r → W1.heap.size ≤ r ∧ ∃ o : Obj, A.heap[r]? = some o ∧ o.isCells = false) → (∀ r, row = some r → w.heap.size ≤ r ∧ ∃ o : Obj, A.heap[r]? = some o ∧ o.isCells = false) :=
    fun hr r e => ⟨by have := (hr r e).1; omega, (hr r e).2⟩
  refine ⟨L, [{ target := .collected w.heap.size, args := #[] }], W1, { target := .fn (.func gf) lb, args := #[.func (.yield L) #[] #[]] }, W1, gf, #[.func (.yield L) #[] #[]] ++ lb, W1, ?_, ?_, ?_, ?_, fun _ => h1, ?_⟩
  · rw [← hW1, hrc, ← hL]; exact run_enterLoop_outer _ _ _ _ _
  · simp only [resolve, hg]
    simp [go_sem]
  · intro f' _; trivial
  · simp [invoke, go_sem, eg]
  refine (hseq L (fun k W => I k W ∧ W.heap[L]? = some (rc .ready none) ∧ W.heap[w.heap.size]? = some (.deferred (some [])))
    (fun W => ∃ c, Ix c W ∧ W.heap[L]? = some (rc .done (some c)) ∧ W.heap[w.heap.size]? = some (.deferred (some []))) W1 hb1
    (fun s A B row hs hg' hr => ⟨hI s A B row hs.1 hg' (low (A := A) hr), kept hg' hr (by omega) hs.2.1, kept hg' hr (by omega) hs.2.2⟩)
    (fun _ A B row hs hg' hr => by
      obtain ⟨c, hc, h2, h3⟩ := hs
      exact ⟨c, hIx c () A B row hc hg' (low (A := A) hr), kept hg' hr (by omega) h2, kept hg' hr (by omega) h3⟩)
    (fun s A B r hs hg' h1 h2 => ⟨hS s A B r hs.1 hg' (by omega) (by omega), (hg'.block _ (Array.getElem?_eq_some_iff.1 hs.2.1).1 (fun e => by injection e with e; omega)).trans hs.2.1, (hg'.block _ (Array.getElem?_eq_some_iff.1 hs.2.2).1 (fun e => by injection e with e; omega)).trans hs.2.2⟩)
    (fun k W h => hN k W h.1) ?_ ⟨by rw [← hW1]; exact hI.alloc _ (hI.alloc _ h0), hrec1, hdef1⟩).mono ?_
  · rintro hnE k W ⟨hi, hl, hk⟩ hbig
    have hlt : L < W.heap.size := (Array.getElem?_eq_some_iff.1 hl).1
    have hl' := hl
    rw [hrc] at hl'
    refine ⟨fn, _, assign, body, run_yield hl' (by show #[s k].size = ps.size; rw [hps]; rfl), roundIn_of_wpIn hfn (hassign _ k W _ ⟨_, run_beginRound hl' rfl, ?_⟩)⟩
    obtain ⟨W2, hW2⟩ : ∃ W2, W.putObj L (rc .busy none) = W2 := ⟨_, rfl⟩
    have hl2 : W2.heap[L]? = some (rc .busy none) := by rw [← hW2]; exact World.putObj_heap_same hlt
    have hk2 : W2.heap[w.heap.size]? = some (.deferred (some [])) := by rw [← hW2]; exact (World.putObj_heap_other (by omega)).trans hk
    have hi2 : I k W2 := by rw [← hW2]; exact hI.putObj _ hi (by omega) hl (hcell _ _)
    have hs2 : W2.heap.size = W.heap.size := by rw [← hW2]; simp
    have hkf2 : KeepsFrom W1.heap.size W W2 := by rw [← hW2]; exact keepsFrom_putLow _ _ _ (by omega)
    have hks2 : KeepsSpan W1.heap.size M W W2 := by rw [← hW2]; exact KeepsSpan.putObj _ _ _ (by omega)
    have hw2 : (W.putObj L (.loop { ({ state := .ready, pending := none, fn, tmps := a.tmps, params := ps, assign, body, defers := w.heap.size } : Loop) with state := .busy })) = W2 := by rw [← hW2, hrc]
    rw [hw2]
    refine wpIn_mono (hbody hnE _ k _ hi2 (by omega)) ?_
    have fin : ∀ (jump : Option Code) (W3 : World), KeepsFrom w.heap.size W2 W3 → ∃ W4, (Instr.endRound L jump).run P W3 = .ok (.bool jump.isNone) W4 ∧ W4 = W3.putObj L (rc (if jump.isNone then .ready else .done) jump) ∧ W3.heap[L]? = some (rc .busy none) ∧
        W4.heap[L]? = some (rc (if jump.isNone then .ready else .done) jump) ∧ W4.heap[w.heap.size]? = some (.deferred (some [])) ∧ KeepsFrom W1.heap.size W W4 ∧ (∀ X : KeepsSpan W1.heap.size M W2 W3, KeepsSpan W1.heap.size M W W4) := fun jump W3 hk3 => by
      have hl3 := hk3.same _ _ (by omega) hl2 (hcell _ _)
      have hl3' := hl3
      rw [hrc] at hl3'
      have h5 := run_endRound (P := P) jump hl3'
      refine ⟨_, h5, by rw [hrc], hl3, ?_, ?_, ?_, ?_⟩
      · rw [hrc]; exact World.putObj_heap_same (Array.getElem?_eq_some_iff.1 hl3).1
      · exact (World.putObj_heap_other (by omega)).trans (hk3.same _ _ (Nat.le_refl _) hk2 rfl)
      · exact (hkf2.trans (keepsFrom_more hk3 (by omega))).trans (keepsFrom_putLow _ _ _ (by omega))
      · exact fun X => (hks2.trans X).trans (KeepsSpan.putObj _ _ _ (by omega))
    rintro e a3 W3 hp
    cases e with
    | normal =>
      obtain ⟨hk3, hkp3, hi3⟩ := hp
      obtain ⟨W4, hr, h4, hl3, hl4, hk4, hf4, hs4⟩ := fin none W3 hk3
      exact ⟨_, _, hr, .inl ⟨rfl, ⟨by rw [h4]; exact hI.putObj _ hi3 (by omega) hl3 (hcell _ _), hl4, hk4⟩, hf4, hs4 (by rw [hsz]; exact hkp3)⟩⟩
    | ret =>
      obtain ⟨hk3, hi3⟩ := hp
      obtain ⟨W4, hr, h4, hl3, hl4, hk4, hf4, _⟩ := fin (some .ret) W3 hk3
      exact ⟨_, _, hr, .inr ⟨rfl, ⟨.ret, by rw [h4]; exact (hIx _).putObj (s := ()) _ hi3 (by omega) hl3 (hcell _ _), hl4, hk4⟩, hf4⟩⟩
    | exit id =>
      obtain ⟨hk3, hi3⟩ := hp
      obtain ⟨W4, hr, h4, hl3, hl4, hk4, hf4, _⟩ := fin (some (.exit id)) W3 hk3
      exact ⟨_, _, hr, .inr ⟨rfl, ⟨.exit id, by rw [h4]; exact (hIx _).putObj (s := ()) _ hi3 (by omega) hl3 (hcell _ _), hl4, hk4⟩, hf4⟩⟩
    | goto t =>
      obtain ⟨hk3, hi3⟩ := hp
      obtain ⟨W4, hr, h4, hl3, hl4, hk4, hf4, _⟩ := fin (some (.goto t)) W3 hk3
      exact ⟨_, _, hr, .inr ⟨rfl, ⟨.goto t, by rw [h4]; exact (hIx _).putObj (s := ()) _ hi3 (by omega) hl3 (hcell _ _), hl4, hk4⟩, hf4⟩⟩
    | panic ch => exact hp.elim
    | outgrown => exact hp.elim
  · rintro e W2 ⟨⟨v, rfl⟩, (⟨hE, hi, hl, hk⟩ | ⟨c, hi, hl, hk⟩)⟩
    · have hl' := hl
      rw [hrc] at hl'
      exact ⟨none, _, run_endLoop hl' (by simp), hdone _ _ (Nat.le_refl _) hE (hI.putObj _ hi (by omega) hl (hcell _ _)) ((World.putObj_heap_other (by omega)).trans hk)⟩
    · have hl' := hl
      rw [hrc] at hl'
      exact ⟨some c, _, run_endLoop hl' (by simp), hstop _ c _ (Nat.le_refl _) ((hIx c).putObj (s := ()) _ hi (by omega) hl (hcell _ _)) ((World.putObj_heap_other (by omega)).trans hk)⟩
end Go.Proofs.YtoegamlpgenfcaaDoor
