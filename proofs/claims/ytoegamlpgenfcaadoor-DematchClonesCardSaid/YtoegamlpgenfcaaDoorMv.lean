/-
  A function whose loop holds, in each of its rounds, a range over a function: each leaves a mark among the deferred calls. What the marks are; how such a function returns; a scope without a goto, inside a fence. No program is named here. Words for memory in which a few named blocks turn ('Save X'), for a block of two cells ('Two'); a range over an iterator that itself writes memory. No program is named here.
-/
import Derived.RangeFuncBox
import Derived.RangeFuncNested
import Derived.RangeFuncLeaves
import Derived.RangeFuncBound
import Derived.RangeFuncCalls
import Derived.Scope
import Derived.WalkMore
import Derived.ScopeJumps
import Derived.Deep.Onto
import Derived.Test.YtoegamlpgenfcaaDoorBase
namespace Go.Proofs.YtoegamlpgenfcaaDoor
/-! ### A function whose loop holds, in each of its rounds, a range over a function: each leaves a mark among the deferred calls. What the marks are; how such a function returns; a scope without a goto, inside a fence. No program is named here. -/
section
open Go.RowKit

theorem cell_new {W : World} {a : Addr} {v : Value} (o : Obj) (h : W.cell? a = some v) : (W.alloc o).cell? a = some v := cell_kept h (World.grownBy_alloc W o none) (fun r e => by cases e)
theorem frozen_new {W : World} {a : Addr} {v : Value} (o : Obj) (h : W.cell? a = some v) (hf : W.frozen? a = false) : (W.alloc o).frozen? a = false :=
  (frozen_kept h (World.grownBy_alloc W o none) (fun r e => by cases e)).trans hf

def mkD (D : Nat) : Deferred := { target := .collected D, args := #[] }
/-- The marks Ds: each names a block of its own that holds no call. -/
def Marks (w : World) (Ds : List Nat) : Prop := Ds.Nodup ∧ ∀ D ∈ Ds, w.heap[D]? = some (.deferred (some []))

theorem Marks.lt {w : World} {Ds : List Nat} (h : Marks w Ds) : ∀ D ∈ Ds, D < w.heap.size := fun D hD => (Array.getElem?_eq_some_iff.1 (h.2 D hD)).1
theorem Marks.nil (w : World) : Marks w [] := ⟨List.nodup_nil, by simp⟩
theorem Marks.grown {w w' : World} {Ds : List Nat} {row : Option Nat} (h : Marks w Ds) (hg : w.grownBy w' row) (hr : ∀ D ∈ Ds, some D ≠ row) : Marks w' Ds :=
  ⟨h.1, fun D hD => (hg.block D (h.lt D hD) (hr D hD)).trans (h.2 D hD)⟩
theorem Marks.keepsFrom {B : Nat} {w w' : World} {Ds : List Nat} (h : Marks w Ds) (hk : KeepsFrom B w w') (hB : ∀ D ∈ Ds, B ≤ D) : Marks w' Ds :=
  ⟨h.1, fun D hD => hk.same D _ (hB D hD) (h.2 D hD) rfl⟩
theorem Marks.alloc {w : World} {Ds : List Nat} (h : Marks w Ds) (o : Obj) : Marks (w.alloc o) Ds := h.grown (World.grownBy_alloc w o none) (fun D _ e => by cases e)
theorem Marks.setCell {w : World} {Ds : List Nat} (h : Marks w Ds) {p : Addr} (u : Value) (hp : p.block ∉ Ds) : Marks (w.setCell p u) Ds :=
  ⟨h.1, fun D hD => (Below.heap_setCell _ _ _ _ (fun e => hp (by rw [← e]; exact hD))).trans (h.2 D hD)⟩
theorem Marks.cons {w : World} {Ds : List Nat} {D : Nat} (h : Marks w Ds) (hD : w.heap[D]? = some (.deferred (some []))) (hn : D ∉ Ds) : Marks w (D :: Ds) :=
  ⟨List.nodup_cons.2 ⟨hn, h.1⟩, fun E hE => by
    rcases List.mem_cons.1 hE with rfl | hE
    · exact hD
    · exact h.2 E hE⟩
section
variable {P : Program} {F : Fence} {n : Nat}
theorem leaves_marks {fn : Func} {tmps : Array Value} {R : Ending → World → Prop} {B : Nat} (Ds : List Nat) : ∀ (w : World), Marks w Ds → (∀ D ∈ Ds, B ≤ D) →
    (∀ w', Below B w w' → ∃ v, (results fn tmps).run P w' = .ok v w' ∧ R (.returned v) w') → LeavesInM F n P fn tmps R (Ds.map mkD) .returning w := by
  induction Ds with
  | nil => intro w _ _ h; exact h w (Below.refl _ _)
  | cons D Ds ih =>
    intro w hM hB h
    have hD := hM.2 D (by simp)
    refine ⟨by simp, .inl ⟨D, _, rfl, run_takeDeferred hD, ?_⟩⟩
    have hb : Below B w (w.putObj D (.deferred none)) := (Below.refl B w).grown (grownBy_putObj' w D _) (by have := hM.lt D (by simp); have := hB D (by simp); omega) (fun k e => by cases e; exact hB D (by simp))
    refine ih _ ⟨(List.nodup_cons.1 hM.1).2, fun E hE => ?_⟩ (fun E hE => hB E (by simp [hE])) (fun w' hw => h w' (hb.trans hw))
    have hne : E ≠ D := fun e => (List.nodup_cons.1 hM.1).1 (e ▸ hE)
    exact ((grownBy_putObj' w D (.deferred none)).block E (hM.lt E (by simp [hE])) (fun e => hne (by injection e))).trans (hM.2 E (by simp [hE]))

theorem wpIn_wide_scope {c : Code} {Q : Exit → Act → World → Prop} {a : Act} {w : World} (h : c.wpIn Fence.wide n P (Exit.noGoto Q) a w) : (Code.scope c).wpIn Fence.wide n P Q a w :=
  wpIn_wide.2 (wp_scope_straight (wpIn_wide.1 h))
end
/-- A scope whose gotos lead forward to one label: behind the goto stands what stands behind the label. -/
theorem wp_scope_forward {P : Program} {a : Act} {w : World} {Q : Exit → Act → World → Prop} {c rest : Code} (l : Nat) (hf : findLabel c l = some rest)
    (first : c.wp P (Exit.jump l (fun a w => rest.wp P (Exit.noGoto Q) a w) Q) a w) : (Code.scope c).wp P Q a w := by
  refine wp_scope_jumps l _ (fun _ _ => 0) hf first (fun a w h => wp_mono h ?_)
  intro e a' w' hq
  cases e with
  | goto l' => exact hq.elim
  | normal => exact hq
  | exit id => exact hq
  | ret => exact hq
  | panic ch => exact hq
  | outgrown => exact hq
theorem jump_ret {l : Nat} {J : Act → World → Prop} {Q : Exit → Act → World → Prop} {a : Act} {w : World} (h : Q .ret a w) : Exit.jump l J Q .ret a w := h
theorem RetBytes.mk_ {T : TypeId} {w w' : World} {r : List Int} {A : Option Addr} {n c B : Nat} {k : Int} {e : Ending} (hlen : r.length = n) (hown : w'.ownsRow B T 1 (.slice A n c) n (r.map (Value.int .u8))) (hB : w.heap.size ≤ B) (hb : Below w.heap.size w w')
    (he : e = .returned (.tuple #[.slice A n c, .int .i64 k])) : RetBytes T w (r, k) e w' := by
  subst hlen
  exact ⟨A, c, he, hown.mono hB, hb⟩
theorem below_two {w : World} (o o' : Obj) : Below w.heap.size w ((w.alloc o).alloc o') := ((Below.refl _ w).alloc (Nat.le_refl _) _).alloc (by simp) _
end

/-! ### Words for memory in which a few named blocks turn ('Save X'), for a block of two cells ('Two'); a range over an iterator that itself writes memory. No program is named here. -/
section
open Go.RowKit

/-- Of what was there, only the blocks X have turned; the streams are as they were. -/
structure Save (X : Nat → Prop) (w w' : World) : Prop where
  os : w'.os = w.os
  tape : w'.tape = w.tape
  output : w'.output = w.output
  size : w.heap.size ≤ w'.heap.size
  block : ∀ k, k < w.heap.size → ¬ X k → w'.heap[k]? = w.heap[k]?

section
variable {X Y : Nat → Prop} {w w' w2 : World}
theorem Save.refl (X : Nat → Prop) (w : World) : Save X w w := ⟨rfl, rfl, rfl, Nat.le_refl _, fun _ _ _ => rfl⟩
theorem Save.trans (h : Save X w w') (k : Save X w' w2) : Save X w w2 :=
  ⟨k.os.trans h.os, k.tape.trans h.tape, k.output.trans h.output, Nat.le_trans h.size k.size, fun i hi hx => (k.block i (Nat.lt_of_lt_of_le hi h.size) hx).trans (h.block i hi hx)⟩
/-- Two steps, the second of which may turn new blocks besides. -/
theorem Save.trans' (h : Save X w w') (k : Save Y w' w2) (hY : ∀ i, Y i → i < w.heap.size → X i) : Save X w w2 :=
  ⟨k.os.trans h.os, k.tape.trans h.tape, k.output.trans h.output, Nat.le_trans h.size k.size, fun i hi hx => (k.block i (Nat.lt_of_lt_of_le hi h.size) (fun hy => hx (hY i hy hi))).trans (h.block i hi hx)⟩
theorem Save.mono (h : Save X w w') (hX : ∀ i, i < w.heap.size → X i → Y i) : Save Y w w' := ⟨h.os, h.tape, h.output, h.size, fun i hi hy => h.block i hi (fun hx => hy (hX i hi hx))⟩
theorem Save.alloc (h : Save X w w') (o : Obj) : Save X w (w'.alloc o) :=
  h.trans ⟨rfl, rfl, rfl, by simp, fun k hk _ => Below.heap_alloc _ _ _ hk⟩
theorem Save.drewN (h : Save X w w') (n : Nat) : Save X w (w'.drewN n) := ⟨h.os, h.tape, h.output, h.size, h.block⟩
theorem Save.drew (h : Save X w w') : Save X w w'.drew := ⟨h.os, h.tape, h.output, h.size, h.block⟩
theorem Save.setCell (h : Save X w w') {p : Addr} (hp : p.block < w.heap.size → X p.block) (u : Value) : Save X w (w'.setCell p u) :=
  h.trans' (Y := fun k => k = p.block) ⟨rfl, rfl, rfl, by simp [World.setCell], fun k _ hk => Below.heap_setCell _ _ _ _ hk⟩ (fun i hi hl => by subst hi; exact hp hl)
theorem Save.grown (h : Save X w w') {row : Option Nat} (hg : w'.grownBy w2 row) (hr : ∀ k, row = some k → k < w.heap.size → X k) : Save X w w2 :=
  h.trans' (Y := fun k => some k = row) ⟨hg.os, hg.tape, hg.output, hg.size, fun k hk hx => hg.block k hk hx⟩ (fun i hi hl => hr i hi.symm hl)
theorem Save.of_below (h : Below w.heap.size w w') : Save X w w' := ⟨h.os, h.tape, h.output, h.size, fun k hk _ => h.block k hk⟩
theorem Save.below {B : Nat} (h : Save X w w') (hX : ∀ k, X k → B ≤ k) (hB : B ≤ w.heap.size) : Below B w w' :=
  ⟨h.os, h.tape, h.output, h.size, fun k hk => h.block k (by omega) (fun hx => by have := hX k hx; omega)⟩
theorem Below.save {B : Nat} (h : Below B w w') (k : Save X w' w2) (hX : ∀ i, X i → B ≤ i) (hB : B ≤ w.heap.size) : Below B w w2 :=
  h.trans (k.below hX (Nat.le_trans hB h.size))
theorem Save.heap (h : Save X w w') {k : Nat} {o : Obj} (hk : w.heap[k]? = some o) (hx : ¬ X k) : w'.heap[k]? = some o :=
  (h.block k (Array.getElem?_eq_some_iff.1 hk).1 hx).trans hk
theorem Save.cell (h : Save X w w') {p : Addr} (hp : p.block < w.heap.size) (hx : ¬ X p.block) : w'.cell? p = w.cell? p := World.cell?_of_block (h.block _ hp hx)
theorem Save.frozen (h : Save X w w') {p : Addr} (hp : p.block < w.heap.size) (hx : ¬ X p.block) : w'.frozen? p = w.frozen? p := World.frozen?_of_block (h.block _ hp hx)
theorem Save.others (h : Save X w w') (hX : ∀ k o, X k → w.heap[k]? = some o → o.isCells = true) : KeepsOthers w w' :=
  ⟨h.size, fun k o hk ho => h.heap hk (fun hx => by rw [hX k o hx hk] at ho; cases ho)⟩
/-- A row that is read lies in no block that turns. -/
theorem Rd.save {q : IntKind} {B n : Nat} {A : Option Addr} {xs : List Int} (h : Rd q w B A n xs) (hs : Save X w w') (hB : B ≤ w.heap.size) (hX : ∀ a, A = some a → ¬ X a.block) : Rd q w' B A n xs :=
  ⟨h.len, fun k hn => by
    obtain ⟨b, off, e, hb, hc⟩ := h.cells k hn
    exact ⟨b, off, e, hb, (hs.cell (p := ⟨b, off + k, none⟩) (Nat.lt_of_lt_of_le hb hB) (show ¬ X b from hX _ e)).trans hc⟩⟩
theorem Rd.block {q : IntKind} {w w' : World} {B n : Nat} {A : Option Addr} {xs : List Int} (h : Rd q w B A n xs) (hk : ∀ a, A = some a → w'.heap[a.block]? = w.heap[a.block]?) : Rd q w' B A n xs :=
  ⟨h.len, fun k hn => by
    obtain ⟨b, off, e, hb, hc⟩ := h.cells k hn
    exact ⟨b, off, e, hb, (World.cell?_of_block (show w'.heap[b]? = w.heap[b]? from hk _ e)).trans hc⟩⟩
theorem ownsRow_save {base : Nat} {e : TypeId} {v : Value} {n : Nat} {xs : List Value} (h : w.ownsRow base e 1 v n xs) (hs : Save X w w') (hX : ∀ g, v.ownBlock = some g → ¬ X g) : w'.ownsRow base e 1 v n xs := by
  refine ⟨h.1, ?_⟩
  rcases h.2 with h2 | ⟨g, cap, cur, rfl, hb, hg, rest⟩
  · exact .inl h2
  · exact .inr ⟨g, cap, cur, rfl, hb, hs.heap hg (hX g rfl), rest⟩
end

theorem grownBy_setCell_at (W : World) (p : Addr) (v : Value) : W.grownBy (W.setCell p v) (some p.block) :=
  ⟨rfl, rfl, rfl, (KeepsWalks.setCell W _ v).size, fun k _ hk => Below.heap_setCell _ _ _ k (fun e => hk (by rw [e]))⟩
/-- Block B holds two cells. -/
def Two (w : World) (B : Nat) (t : TypeId) (x y : Value) : Prop := w.heap[B]? = some (.cells #[x, y] t)
section
variable {w w' : World} {B : Nat} {t : TypeId} {x y : Value}
theorem Two.lt (h : Two w B t x y) : B < w.heap.size := (Array.getElem?_eq_some_iff.1 h).1
theorem Two.new (w : World) (t : TypeId) (x y : Value) : Two (w.alloc (.cells #[x, y] t)) w.heap.size t x y := World.alloc_heap_new w _
theorem Two.cell0 (h : Two w B t x y) : w.cell? ⟨B, 0, none⟩ = some x := by simp [World.cell?, show w.heap[B]? = _ from h]
theorem Two.cell1 (h : Two w B t x y) : w.cell? ⟨B, 1, none⟩ = some y := by simp [World.cell?, show w.heap[B]? = _ from h]
theorem Two.frozen (h : Two w B t x y) (j : Nat) : w.frozen? ⟨B, j, none⟩ = false := by simp [World.frozen?, show w.heap[B]? = _ from h]
theorem Two.save {X : Nat → Prop} (h : Two w B t x y) (hs : Save X w w') (hx : ¬ X B) : Two w' B t x y := hs.heap h hx
theorem Two.alloc (h : Two w B t x y) (o : Obj) : Two (w.alloc o) B t x y := h.save (X := fun _ => False) ((Save.refl _ _).alloc o) (fun h => h)
theorem Two.other (h : Two w B t x y) {p : Addr} (hp : p.block ≠ B) (u : Value) : Two (w.setCell p u) B t x y := (Below.heap_setCell _ _ _ _ (Ne.symm hp)).trans h
theorem Two.set0 (h : Two w B t x y) (u : Value) : Two (w.setCell ⟨B, 0, none⟩ u) B t u y := by
  have hl := h.lt
  have h' : w.heap[B]? = some (.cells #[x, y] t) := h
  unfold Two
  simp only [World.setCell, Array.getElem?_modify, h']
  simp
theorem Two.set1 (h : Two w B t x y) (u : Value) : Two (w.setCell ⟨B, 1, none⟩ u) B t x u := by
  have h' : w.heap[B]? = some (.cells #[x, y] t) := h
  unfold Two
  simp only [World.setCell, Array.getElem?_modify, h']
  simp
end

/-- The body's word towards an iterator: the blocks X lie as they lay. -/
def KeepB (X : Nat → Prop) (A B : World) : Prop := A.heap.size ≤ B.heap.size ∧ ∀ k, X k → B.heap[k]? = A.heap[k]?
theorem KeepB.refl (X : Nat → Prop) (A : World) : KeepB X A A := ⟨Nat.le_refl _, fun _ _ => rfl⟩
theorem KeepB.trans {X : Nat → Prop} {A B C : World} (h : KeepB X A B) (k : KeepB X B C) : KeepB X A C := ⟨Nat.le_trans h.1 k.1, fun i hi => (k.2 i hi).trans (h.2 i hi)⟩
theorem KeepB.putObj {X : Nat → Prop} {B : Nat} (hX : ∀ k, X k → k < B) (W : World) (l : Nat) (o o' : Obj) (hl : B ≤ l) (_ : W.heap[l]? = some o) (_ : o.isCells = false) (_ : o.isWalk = false) : KeepB X W (W.putObj l o') :=
  ⟨by simp, fun k hk => World.putObj_heap_other (by have := hX k hk; omega)⟩
theorem KeepB.of_save {X Y : Nat → Prop} {A B : World} (h : Save Y A B) (hXY : ∀ k, X k → k < A.heap.size ∧ ¬ Y k) : KeepB X A B := ⟨h.size, fun k hk => h.block k (hXY k hk).1 (hXY k hk).2⟩
theorem KeepB.setCell {X : Nat → Prop} {A B : World} (h : KeepB X A B) {p : Addr} (hp : ¬ X p.block) (u : Value) : KeepB X A (B.setCell p u) :=
  ⟨by simpa [World.setCell] using h.1, fun k hk => (Below.heap_setCell _ _ _ _ (fun e => hp (e ▸ hk))).trans (h.2 k hk)⟩

/-- AN ITERATOR THAT WRITES: 'Mv': what it does to memory between two rounds; 'S xs', 'Sp pre': what can be said of the world behind it. -/
def SeqMv {α : Type} (F : Fence) (n : Nat) (P : Program) (g : Nat) (lb : Array Value) (encs : α → Array Value) (Kp Mv : World → World → Prop) (S Sp : List α → World → Prop) (N : Nat) (w : World) : Prop :=
  ∀ (l : Nat) (J Jx : List α → World → Prop) (W : World), Below w.heap.size w W → (∀ s A B, J s A → Mv A B → J s B) →
    (∀ pre x W1, J pre W1 → pre.length < N → YieldAt F (n - 1) P l (encs x) W1 fun e W' =>
      (e = .returned (.bool true) ∧ J (pre ++ [x]) W' ∧ Kp W1 W') ∨ (e = .returned (.bool false) ∧ Jx (pre ++ [x]) W' ∧ Kp W1 W')) →
    J [] W →
    CallsIn F n P g (#[.func (.yield l) #[] #[]] ++ lb) W fun e W' => (∃ v, e = .returned v) ∧ ((∃ xs, S xs W' ∧ J xs W') ∨ (∃ pre, Sp pre W' ∧ Jx pre W'))

/-- How the body of a round may be left. -/
def mvPost {α : Type} (Kp : World → World → Prop) (I : List α → World → Prop) (Ix : Code → List α → World → Prop) (xs : List α) (W : World) : Exit → Act → World → Prop
  | .normal, _, W' => KeepsOthers W W' ∧ Kp W W' ∧ I xs W'
  | .ret, _, W' => KeepsOthers W W' ∧ Kp W W' ∧ Ix .ret xs W'
  | .exit id, _, W' => KeepsOthers W W' ∧ Kp W W' ∧ Ix (.exit id) xs W'
  | .goto t, _, W' => KeepsOthers W W' ∧ Kp W W' ∧ Ix (.goto t) xs W'
  | .panic _, _, _ => False
  | .outgrown, _, _ => False

section
variable {F : Fence} {n : Nat} {P : Program}
theorem wpIn_rangeFunc_mv {α : Type} {g : Operand} {ps : Array Tmp} {assign body : Code} {Q : Exit → Act → World → Prop} {a : Act} {w : World}
    (hro : F.round = none) (h1 : 1 ≤ n) {gf : Nat} {lb : Array Value} (hg : a.eval g = .func (.func gf) #[] lb) (hFg : F.fn gf) (eg : ∀ args w, (callFunc gf args).run P w = .ok (.enter gf args) w)
    {encs : α → Array Value} {Kp Mv : World → World → Prop} {S Sp : List α → World → Prop} {N : Nat} {w0 : World} (hseq : SeqMv F (n - 1) P gf lb encs Kp Mv S Sp N w0)
    (hKt : ∀ {A B C : World}, Kp A B → Kp B C → Kp A C) (hKb : ∀ (W : World) (l : Nat) (o o' : Obj), w.heap.size ≤ l → W.heap[l]? = some o → o.isCells = false → o.isWalk = false → Kp W (W.putObj l o')) (hb0 : Below w0.heap.size w0 w) (hps : ∀ x, (encs x).size = ps.size)
    (hMv : ∀ A B, Mv A B → KeepsOthers A B) (hS : OwnFrom w.heap.size S) (hSp : OwnFrom w.heap.size Sp)
    (I : List α → World → Prop) (Ix : Code → List α → World → Prop) (hI : OwnFrom w.heap.size I) (hIx : ∀ c, OwnFrom w.heap.size (Ix c)) (hIM : ∀ s A B, I s A → Mv A B → I s B) (h0 : I [] w) (a₁ : α → Act)
    (hassign : ∀ (l : Nat) (x : α) (W : World) (K : Act → World → Prop), K (a₁ x) W →
      assign.wpIn (F.inRound l) (n - 1 - 1) P (Exit.then K (fun _ _ _ => False)) { tmps := (ps.zip (encs x)).foldl (fun t (p, v) => t.setIfInBounds p v) a.tmps, defers := [] } W)
    (hbody : ∀ (l : Nat) (pre : List α) (x : α) (W : World), I pre W → pre.length < N → body.wpIn (F.inRound l) (n - 1 - 1) P (mvPost Kp I Ix (pre ++ [x]) W) (a₁ x) W)
    (hdone : ∀ (D : Nat) (xs : List α) (W : World), w.heap.size ≤ D → S xs W → I xs W → W.heap[D]? = some (.deferred (some [])) → Q .normal { a with defers := { target := .collected D, args := #[] } :: a.defers } W)
    (hstop : ∀ (D : Nat) (c : Code) (pre : List α) (W : World), w.heap.size ≤ D → Sp pre W → Ix c pre W → W.heap[D]? = some (.deferred (some [])) → c.wpIn F n P Q { a with defers := { target := .collected D, args := #[] } :: a.defers } W) :
    (Code.rangeFunc g ps assign body).wpIn F n P Q a w := by
  refine wpIn_rangeFunc ?_
  intro fn hfn
  rw [hro]
  obtain ⟨rec, hrec⟩ : ∃ rec : LoopState → Option Code → Loop, rec = fun st pe => { state := st, pending := pe, fn, tmps := a.tmps, params := ps, assign, body, defers := w.heap.size } := ⟨_, rfl⟩
  obtain ⟨W1, hW1⟩ : ∃ W1, (w.alloc (.deferred (some []))).alloc (.loop (rec .ready none)) = W1 := ⟨_, rfl⟩
  have hL1 : W1.heap[w.heap.size + 1]? = some (.loop (rec .ready none)) := by
    rw [← hW1]; have := World.alloc_heap_new (w.alloc (.deferred (some []))) (.loop (rec .ready none)); rwa [World.size_alloc] at this
  have hK1 : W1.heap[w.heap.size]? = some (.deferred (some [])) := by
    rw [← hW1]; exact (Below.heap_alloc _ _ _ (by simp)).trans (World.alloc_heap_new w _)
  have hI1 : I [] W1 := by rw [← hW1]; exact hI.alloc _ (hI.alloc _ h0)
  have hb1 : Below w0.heap.size w0 W1 := by
    rw [← hW1]; exact hb0.trans ((((Below.refl _ w).alloc (Nat.le_refl _) _).alloc (by simp) _).mono hb0.size)
  refine ⟨w.heap.size + 1, [{ target := .collected w.heap.size, args := #[] }], W1, { target := .fn (.func gf) lb, args := #[.func (.yield (w.heap.size + 1)) #[] #[]] }, W1, gf,
    #[.func (.yield (w.heap.size + 1)) #[] #[]] ++ lb, W1, ?_, ?_, ?_, ?_, fun _ => h1, ?_⟩
  · rw [← hW1, hrec]; exact run_enterLoop_outer _ _ _ _ _
  · simp only [resolve, hg]
    simp [go_sem]
  · intro f' hf'; simp [Target.leads] at hf'; subst hf'; exact hFg
  · simp [invoke, go_sem, eg]
  · refine (hseq (w.heap.size + 1)
      (fun pre W => I pre W ∧ W.heap[w.heap.size + 1]? = some (.loop (rec .ready none)) ∧ W.heap[w.heap.size]? = some (.deferred (some [])))
      (fun pre W => ∃ c, Ix c pre W ∧ W.heap[w.heap.size + 1]? = some (.loop (rec .done (some c))) ∧ W.heap[w.heap.size]? = some (.deferred (some [])))
      W1 hb1
      (fun s A B hs hm => ⟨hIM s A B hs.1 hm, (hMv A B hm).same _ _ hs.2.1 rfl, (hMv A B hm).same _ _ hs.2.2 rfl⟩)
      ?_ ⟨hI1, hL1, hK1⟩).mono ?_
    · -- ONE ROUND
      rintro pre x W ⟨hi, hl, hk⟩ hlen
      have hlt : w.heap.size + 1 < W.heap.size := (Array.getElem?_eq_some_iff.1 hl).1
      have hy := run_yield (P := P) (args := encs x) hl (by rw [hrec]; exact hps x)
      rw [hrec] at hy
      refine ⟨fn, _, assign, body, hy, roundIn_of_wpIn hfn (hassign _ x W _ ⟨_, run_beginRound hl (by rw [hrec]), ?_⟩)⟩
      have hl2 : (W.putObj (w.heap.size + 1) (.loop { rec .ready none with state := .busy })).heap[w.heap.size + 1]? = some (.loop { rec .ready none with state := .busy }) := World.putObj_heap_same hlt
      have hk2 : (W.putObj (w.heap.size + 1) (.loop { rec .ready none with state := .busy })).heap[w.heap.size]? = some (.deferred (some [])) := (World.putObj_heap_other (by omega)).trans hk
      have hw2 : Kp W (W.putObj (w.heap.size + 1) (.loop { rec .ready none with state := .busy })) := hKb _ _ _ _ (by omega) hl rfl rfl
      refine wpIn_mono (hbody _ pre x _ (hI.putObj _ hi (by omega) hl rfl) hlen) ?_
      have fin : ∀ (jump : Option Code) (W3 : World), KeepsOthers (W.putObj (w.heap.size + 1) (.loop { rec .ready none with state := .busy })) W3 →
          (Instr.endRound (w.heap.size + 1) jump).run P W3 = .ok (.bool jump.isNone) (W3.putObj (w.heap.size + 1) (.loop (rec (if jump.isNone then .ready else .done) jump))) ∧
          W3.heap[w.heap.size + 1]? = some (.loop { rec .ready none with state := .busy }) ∧
          (W3.putObj (w.heap.size + 1) (.loop (rec (if jump.isNone then .ready else .done) jump))).heap[w.heap.size + 1]? = some (.loop (rec (if jump.isNone then .ready else .done) jump)) ∧
          (W3.putObj (w.heap.size + 1) (.loop (rec (if jump.isNone then .ready else .done) jump))).heap[w.heap.size]? = some (.deferred (some [])) := fun jump W3 hk3 => by
        have hl3 := hk3.same _ _ hl2 rfl
        have := run_endRound (P := P) jump hl3
        rw [hrec] at this ⊢
        exact ⟨this, by rw [hrec] at hl3; exact hl3, World.putObj_heap_same (Array.getElem?_eq_some_iff.1 hl3).1, (World.putObj_heap_other (by omega)).trans (hk3.same _ _ hk2 rfl)⟩
      rintro e a3 W3 hp
      cases e with
      | normal =>
        obtain ⟨hk3, hkp3, hi3⟩ := hp
        obtain ⟨hr, hl3, hl4, hk4⟩ := fin none W3 hk3
        exact ⟨_, _, hr, .inl ⟨rfl, ⟨hI.putObj _ hi3 (by omega) hl3 rfl, hl4, hk4⟩, hKt (hKt hw2 hkp3) (hKb _ _ _ _ (by omega) hl3 rfl rfl)⟩⟩
      | ret =>
        obtain ⟨hk3, hkp3, hi3⟩ := hp
        obtain ⟨hr, hl3, hl4, hk4⟩ := fin (some .ret) W3 hk3
        exact ⟨_, _, hr, .inr ⟨rfl, ⟨.ret, (hIx _).putObj _ hi3 (by omega) hl3 rfl, hl4, hk4⟩, hKt (hKt hw2 hkp3) (hKb _ _ _ _ (by omega) hl3 rfl rfl)⟩⟩
      | exit id =>
        obtain ⟨hk3, hkp3, hi3⟩ := hp
        obtain ⟨hr, hl3, hl4, hk4⟩ := fin (some (.exit id)) W3 hk3
        exact ⟨_, _, hr, .inr ⟨rfl, ⟨.exit id, (hIx _).putObj _ hi3 (by omega) hl3 rfl, hl4, hk4⟩, hKt (hKt hw2 hkp3) (hKb _ _ _ _ (by omega) hl3 rfl rfl)⟩⟩
      | goto t =>
        obtain ⟨hk3, hkp3, hi3⟩ := hp
        obtain ⟨hr, hl3, hl4, hk4⟩ := fin (some (.goto t)) W3 hk3
        exact ⟨_, _, hr, .inr ⟨rfl, ⟨.goto t, (hIx _).putObj _ hi3 (by omega) hl3 rfl, hl4, hk4⟩, hKt (hKt hw2 hkp3) (hKb _ _ _ _ (by omega) hl3 rfl rfl)⟩⟩
      | panic ch => exact hp.elim
      | outgrown => exact hp.elim
    · -- BEHIND THE ITERATOR
      rintro e W2 ⟨⟨v, rfl⟩, (⟨xs, hSx, hi, hl, hk⟩ | ⟨pre, hSx, c, hi, hl, hk⟩)⟩
      · exact ⟨none, _, by have := run_endLoop (P := P) hl (by rw [hrec]; simp); rw [hrec] at this; exact this, hdone _ xs _ (Nat.le_refl _) (hS.putObj _ hSx (by omega) hl rfl) (hI.putObj _ hi (by omega) hl rfl) ((World.putObj_heap_other (by omega)).trans hk)⟩
      · exact ⟨some c, _, by have := run_endLoop (P := P) hl (by rw [hrec]; simp); rw [hrec] at this; exact this, hstop _ c pre _ (Nat.le_refl _) (hSp.putObj _ hSx (by omega) hl rfl) ((hIx c).putObj _ hi (by omega) hl rfl) ((World.putObj_heap_other (by omega)).trans hk)⟩
end
end
end Go.Proofs.YtoegamlpgenfcaaDoor
