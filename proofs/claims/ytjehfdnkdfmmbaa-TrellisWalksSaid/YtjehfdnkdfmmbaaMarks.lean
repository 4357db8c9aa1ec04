/-
  A function whose loop holds, in each of its rounds, a range over a function: each leaves a mark among the deferred calls. What the marks are; how such a function returns; a scope without a goto, inside a fence. No program is named here.
-/
import Derived.RangeFuncBox
import Derived.RangeFuncNested
import Derived.RangeFuncLeaves
import Derived.RangeFuncBound
import Derived.RangeFuncCalls
import Derived.Scope
import Derived.WalkMore
import Derived.ScopeJumps
import Derived.Deep.Onto
import Derived.Test.YtjehfdnkdfmmbaaBase
namespace Go.Proofs.Ytjehfdnkdfmmbaa
open Go.RowKit

theorem cell_new {W : World} {a : Addr} {v : Value} (o : Obj) (h : W.cell? a = some v) : (W.alloc o).cell? a = some v := cell_kept h (World.grownBy_alloc W o none) (fun r e => by cases e)
theorem frozen_new {W : World} {a : Addr} {v : Value} (o : Obj) (h : W.cell? a = some v) (hf : W.frozen? a = false) : (W.alloc o).frozen? a = false :=
  (frozen_kept h (World.grownBy_alloc W o none) (fun r e => by cases e)).trans hf

def mkD (D : Nat) : Deferred := { target := .collected D, args := #[] }
/-- The marks Ds: each names a block of its own that holds no call. -/
def Marks (w : World) (Ds : List Nat) : Prop := Ds.Nodup ∧ ∀ D ∈ Ds, w.heap[D]? = some (.deferred (some []))

theorem Marks.lt {w : World} {Ds : List Nat} (h : Marks w Ds) : ∀ D ∈ Ds, D < w.heap.size := fun D hD => (Array.getElem?_eq_some_iff.1 (h.2 D hD)).1
theorem Marks.nil (w : World) : Marks w [] := ⟨List.nodup_nil, by simp⟩
theorem Marks.grown {w w' : World} {Ds : List Nat} {row : Option Nat} (h : Marks w Ds) (hg : w.grownBy w' row) (hr : ∀ D ∈ Ds, some D ≠ row) : Marks w' Ds :=
  ⟨h.1, fun D hD => (hg.block D (h.lt D hD) (hr D hD)).trans (h.2 D hD)⟩
theorem Marks.keepsFrom {B : Nat} {w w' : World} {Ds : List Nat} (h : Marks w Ds) (hk : KeepsFrom B w w') (hB : ∀ D ∈ Ds, B ≤ D) : Marks w' Ds :=
  ⟨h.1, fun D hD => hk.same D _ (hB D hD) (h.2 D hD) rfl⟩
theorem Marks.alloc {w : World} {Ds : List Nat} (h : Marks w Ds) (o : Obj) : Marks (w.alloc o) Ds := h.grown (World.grownBy_alloc w o none) (fun D _ e => by cases e)
theorem Marks.setCell {w : World} {Ds : List Nat} (h : Marks w Ds) {p : Addr} (u : Value) (hp : p.block ∉ Ds) : Marks (w.setCell p u) Ds :=
  ⟨h.1, fun D hD => (Below.heap_setCell _ _ _ _ (fun e => hp (by rw [← e]; exact hD))).trans (h.2 D hD)⟩
theorem Marks.cons {w : World} {Ds : List Nat} {D : Nat} (h : Marks w Ds) (hD : w.heap[D]? = some (.deferred (some []))) (hn : D ∉ Ds) : Marks w (D :: Ds) :=
  ⟨List.nodup_cons.2 ⟨hn, h.1⟩, fun E hE => by
    rcases List.mem_cons.1 hE with rfl | hE
    · exact hD
    · exact h.2 E hE⟩
/-- What is kept where no block from B on turns: for the laws of a range over a function. -/
theorem Marks.ownFrom {β : Type} {B : Nat} {Ds : List Nat} (hB : ∀ D ∈ Ds, D < B) : OwnFrom B (fun (_ : β) W => Marks W Ds) := fun s A C row hs hg hr =>
  hs.grown hg (fun D hD e => by have := hr D e.symm; have := hB D hD; omega)

section
variable {P : Program} {F : Fence} {n : Nat}
theorem leaves_marks {fn : Func} {tmps : Array Value} {R : Ending → World → Prop} {B : Nat} (Ds : List Nat) : ∀ (w : World), Marks w Ds → (∀ D ∈ Ds, B ≤ D) →
    (∀ w', Below B w w' → ∃ v, (results fn tmps).run P w' = .ok v w' ∧ R (.returned v) w') → LeavesInM F n P fn tmps R (Ds.map mkD) .returning w := by
  induction Ds with
  | nil => intro w _ _ h; exact h w (Below.refl _ _)
  | cons D Ds ih =>
    intro w hM hB h
    have hD := hM.2 D (by simp)
    refine ⟨by simp, .inl ⟨D, _, rfl, run_takeDeferred hD, ?_⟩⟩
    have hb : Below B w (w.putObj D (.deferred none)) := (Below.refl B w).grown (grownBy_putObj' w D _) (by have := hM.lt D (by simp); have := hB D (by simp); omega) (fun k e => by cases e; exact hB D (by simp))
    refine ih _ ⟨(List.nodup_cons.1 hM.1).2, fun E hE => ?_⟩ (fun E hE => hB E (by simp [hE])) (fun w' hw => h w' (hb.trans hw))
    have hne : E ≠ D := fun e => (List.nodup_cons.1 hM.1).1 (e ▸ hE)
    exact ((grownBy_putObj' w D (.deferred none)).block E (hM.lt E (by simp [hE])) (fun e => hne (by injection e))).trans (hM.2 E (by simp [hE]))

theorem wpIn_wide_scope {c : Code} {Q : Exit → Act → World → Prop} {a : Act} {w : World} (h : c.wpIn Fence.wide n P (Exit.noGoto Q) a w) : (Code.scope c).wpIn Fence.wide n P Q a w :=
  wpIn_wide.2 (wp_scope_straight (wpIn_wide.1 h))
end
/-- A scope whose gotos lead forward to one label: behind the goto stands what stands behind the label. -/
theorem wp_scope_forward {P : Program} {a : Act} {w : World} {Q : Exit → Act → World → Prop} {c rest : Code} (l : Nat) (hf : findLabel c l = some rest)
    (first : c.wp P (Exit.jump l (fun a w => rest.wp P (Exit.noGoto Q) a w) Q) a w) : (Code.scope c).wp P Q a w := by
  refine wp_scope_jumps l _ (fun _ _ => 0) hf first (fun a w h => wp_mono h ?_)
  intro e a' w' hq
  cases e with
  | goto l' => exact hq.elim
  | normal => exact hq
  | exit id => exact hq
  | ret => exact hq
  | panic ch => exact hq
  | outgrown => exact hq
theorem jump_ret {l : Nat} {J : Act → World → Prop} {Q : Exit → Act → World → Prop} {a : Act} {w : World} (h : Q .ret a w) : Exit.jump l J Q .ret a w := h
theorem RetBytes.mk_ {T : TypeId} {w w' : World} {r : List Int} {A : Option Addr} {n c B : Nat} {k : Int} {e : Ending} (hlen : r.length = n) (hown : w'.ownsRow B T 1 (.slice A n c) n (r.map (Value.int .u8))) (hB : w.heap.size ≤ B) (hb : Below w.heap.size w w')
    (he : e = .returned (.tuple #[.slice A n c, .int .i64 k])) : RetBytes T w (r, k) e w' := by
  subst hlen
  exact ⟨A, c, he, hown.mono hB, hb⟩
theorem below_two {w : World} (o o' : Obj) : Below w.heap.size w ((w.alloc o).alloc o') := ((Below.refl _ w).alloc (Nat.le_refl _) _).alloc (by simp) _
end Go.Proofs.Ytjehfdnkdfmmbaa
