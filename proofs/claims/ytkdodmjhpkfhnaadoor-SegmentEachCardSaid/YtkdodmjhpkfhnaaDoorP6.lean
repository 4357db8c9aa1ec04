/-
  Layouts as values; checksum, filler.
-/
import Derived.Test.YtkdodmjhpkfhnaaDoorP5
namespace Go.Proofs.YtkdodmjhpkfhnaaDoor
open Go.RowKit

def layA (l : Lay) : Array Value := #[.int .i64 l.bits, .int .i64 l.blocks, .int .i64 l.long, .int .i64 l.short, .int .i64 l.longs, .int .i64 l.shorts, .int .i64 l.filler]
def layV (l : Lay) : Value := .agg (layA l)
/-- A block that holds a layout. -/
structure LayAt (w : World) (B : Nat) (t : TypeId) (l : Lay) : Prop where
  heap : w.heap[B]? = some (.cells (layA l) t)
section
variable {w w' : World} {B : Nat} {t : TypeId} {l : Lay}
theorem LayAt.new (w : World) (t : TypeId) (l : Lay) : LayAt (w.alloc (.cells (layA l) t)) w.heap.size t l := ⟨World.alloc_heap_new w _⟩
theorem LayAt.lt (h : LayAt w B t l) : B < w.heap.size := (Array.getElem?_eq_some_iff.1 h.heap).1
theorem LayAt.cell (h : LayAt w B t l) (j : Nat) : w.cell? ⟨B, j, none⟩ = (layA l)[j]? := by simp [World.cell?, h.heap]
theorem LayAt.frozen (h : LayAt w B t l) (j : Nat) : w.frozen? ⟨B, j, none⟩ = false := by simp [World.frozen?, h.heap]
theorem LayAt.block (h : LayAt w B t l) (hb : w'.heap[B]? = w.heap[B]?) : LayAt w' B t l := ⟨hb.trans h.heap⟩
theorem LayAt.below {N : Nat} (h : LayAt w B t l) (hb : Below N w w') (hB : B < N) : LayAt w' B t l := h.block (hb.block B hB)
theorem LayAt.step (h : LayAt w B t l) (hb : Below w.heap.size w w') : LayAt w' B t l := h.below hb h.lt
end
structure LayC (w : World) (B : Nat) (l : Lay) : Prop where
  c0 : w.cell? ⟨B, 0, none⟩ = some (.int .i64 l.bits)
  c1 : w.cell? ⟨B, 1, none⟩ = some (.int .i64 l.blocks)
  c2 : w.cell? ⟨B, 2, none⟩ = some (.int .i64 l.long)
  c3 : w.cell? ⟨B, 3, none⟩ = some (.int .i64 l.short)
  c4 : w.cell? ⟨B, 4, none⟩ = some (.int .i64 l.longs)
  c5 : w.cell? ⟨B, 5, none⟩ = some (.int .i64 l.shorts)
  c6 : w.cell? ⟨B, 6, none⟩ = some (.int .i64 l.filler)
theorem LayAt.all {w : World} {B : Nat} {t : TypeId} {l : Lay} (h : LayAt w B t l) : LayC w B l := ⟨h.cell 0, h.cell 1, h.cell 2, h.cell 3, h.cell 4, h.cell 5, h.cell 6⟩

theorem LayAt.set {w : World} {B j : Nat} {t : TypeId} {l l' : Lay} {v : Value} (h : LayAt w B t l) (e : (layA l).setIfInBounds j v = layA l') : LayAt (w.setCell ⟨B, j, none⟩ v) B t l' := by
  refine ⟨?_⟩
  obtain ⟨hlt, hk⟩ := Array.getElem?_eq_some_iff.1 h.heap
  show (w.heap.modify B _)[B]? = _
  rw [Array.getElem?_eq_getElem (by rw [Array.size_modify]; exact hlt), Array.getElem_modify_self, hk, ← e]
  rfl
theorem LayAt.other {w : World} {B : Nat} {t : TypeId} {l : Lay} (h : LayAt w B t l) {p : Addr} (hp : p.block ≠ B) (u : Value) : LayAt (w.setCell p u) B t l := h.block (Below.heap_setCell _ _ _ _ (Ne.symm hp))
theorem LayAt.alloc {w : World} {B : Nat} {t : TypeId} {l : Lay} (h : LayAt w B t l) (o : Obj) : LayAt (w.alloc o) B t l := h.block (Below.heap_alloc _ _ _ h.lt)
theorem LayAt.drew {w : World} {B : Nat} {t : TypeId} {l : Lay} (h : LayAt w B t l) : LayAt w.drew B t l := h.block rfl
theorem arr_set {w : World} {B j : Nat} {t : TypeId} {arr : Array Value} {v : Value} (h : w.heap[B]? = some (.cells arr t)) : (w.setCell ⟨B, j, none⟩ v).heap[B]? = some (.cells (arr.setIfInBounds j v) t) := by
  obtain ⟨hlt, hk⟩ := Array.getElem?_eq_some_iff.1 h
  show (w.heap.modify B _)[B]? = _
  rw [Array.getElem?_eq_getElem (by rw [Array.size_modify]; exact hlt), Array.getElem_modify_self, hk]
  rfl
/-- A layout that is stored whole. -/
theorem LayAt.put {w : World} {B : Nat} {t : TypeId} {l0 l : Lay} {v0 v1 v2 v3 v4 v5 v6 : Value} (h : LayAt w B t l0) (e : layA l = #[v0, v1, v2, v3, v4, v5, v6]) :
    LayAt (((((((w.setCell ⟨B, 0, none⟩ v0).setCell ⟨B, 1, none⟩ v1).setCell ⟨B, 2, none⟩ v2).setCell ⟨B, 3, none⟩ v3).setCell ⟨B, 4, none⟩ v4).setCell ⟨B, 5, none⟩ v5).setCell ⟨B, 6, none⟩ v6) B t l := by
  refine ⟨(arr_set (arr_set (arr_set (arr_set (arr_set (arr_set (arr_set h.heap))))))).trans ?_⟩
  rw [e]
  rfl
theorem put_heap {w : World} {B k : Nat} {v0 v1 v2 v3 v4 v5 v6 : Value} (hk : k ≠ B) : ((((((((w.setCell ⟨B, 0, none⟩ v0).setCell ⟨B, 1, none⟩ v1).setCell ⟨B, 2, none⟩ v2).setCell ⟨B, 3, none⟩ v3).setCell ⟨B, 4, none⟩ v4).setCell ⟨B, 5, none⟩ v5).setCell ⟨B, 6, none⟩ v6)).heap[k]? = w.heap[k]? :=
  (Below.heap_setCell _ _ _ _ hk).trans ((Below.heap_setCell _ _ _ _ hk).trans ((Below.heap_setCell _ _ _ _ hk).trans ((Below.heap_setCell _ _ _ _ hk).trans ((Below.heap_setCell _ _ _ _ hk).trans ((Below.heap_setCell _ _ _ _ hk).trans (Below.heap_setCell _ _ _ _ hk))))))
theorem put_below {w0 w : World} {B N : Nat} {v0 v1 v2 v3 v4 v5 v6 : Value} (h : Below N w0 w) (hB : N ≤ B) : Below N w0 (((((((w.setCell ⟨B, 0, none⟩ v0).setCell ⟨B, 1, none⟩ v1).setCell ⟨B, 2, none⟩ v2).setCell ⟨B, 3, none⟩ v3).setCell ⟨B, 4, none⟩ v4).setCell ⟨B, 5, none⟩ v5).setCell ⟨B, 6, none⟩ v6) :=
  ((((((h.setCell (p := ⟨B, 0, none⟩) hB v0).setCell (p := ⟨B, 1, none⟩) hB v1).setCell (p := ⟨B, 2, none⟩) hB v2).setCell (p := ⟨B, 3, none⟩) hB v3).setCell (p := ⟨B, 4, none⟩) hB v4).setCell (p := ⟨B, 5, none⟩) hB v5).setCell (p := ⟨B, 6, none⟩) hB v6
theorem layV_eq {l : Lay} {v : Array Value} (e : layA l = v) : layV l = .agg v := by rw [layV, e]
theorem plan_results {W : World} {tmps : Array Value} {B : Nat} {l : Lay} {t : TypeId} (h2 : tmps.getD 2 undef = .pointer (some ⟨B, 0, none⟩)) (hL : LayAt W B t l) :
    (results Tryd.f36 tmps).run Tryd.prog W = .ok (layV l) W := by
  obtain ⟨c0, c1, c2, c3, c4, c5, c6⟩ := hL.all
  simp only [Array.getD_eq_getD_getElem?] at h2
  simp [results, Tryd.results36, go_sem, h2, c0, c1, c2, c3, c4, c5, c6, layV, layA]
theorem layChecksum_any {l : Lay} {w : World} (hK : Kinds w) :
    Calls Tryd.prog 43 #[layV l] w fun e w' => e = .returned (.int .i64 (l.cs : Nat)) ∧ Below w.heap.size w w' := by
  have hL := Lib.hid (fun (u : World) (h : Below w.heap.size w u) => len_any (k := 2) (hK.step h))
  have hB := Lib.hid ((Below.refl w.heap.size w).alloc (Nat.le_refl _) (.cells (layA l) 70))
  obtain ⟨c0, c1, c2, c3, c4, c5, c6⟩ := (LayAt.new w 70 l).all
  unfold layV layA at *
  by_cases h1 : l.blocks = 1
  · have hcs : Hid (l.cs = 0) := Lib.hid (by unfold Lay.cs; rw [if_pos h1])
    have hd : ((l.blocks : Int) == 1) = true := by simp; omega
    clear h1
    go_enter Tryd.func43, Tryd.ntmps43
    go_wp2_with fail
    go_ret
    exact ⟨ret_int (by rw [hcs.out]; rfl), hB.out⟩
  · have hcs : Hid (l.cs = 24) := Lib.hid (by unfold Lay.cs; rw [if_neg h1])
    have hd : ((l.blocks : Int) == 1) = false := by simp; omega
    clear h1
    go_enter Tryd.func43, Tryd.ntmps43
    go_wp2_with (go_at_call 53; refine (hL.out _ hB.out).mono ?_; rintro e w1 ⟨rfl, hb1⟩)
    go_ret
    exact ⟨ret_int (by rw [hcs.out]; rfl), hB.out.trans (hb1.mono (by simp))⟩
theorem layFiller_any {l : Lay} {i : Nat} {w : World} :
    Calls Tryd.prog 42 #[layV l, .int .i64 (i : Int)] w fun e w' => e = .returned (.int .i64 (l.fill i : Nat)) ∧ Below w.heap.size w w' := by
  have hB := Lib.hid ((Below.refl w.heap.size w).alloc (Nat.le_refl _) (.cells (layA l) 70))
  obtain ⟨c0, c1, c2, c3, c4, c5, c6⟩ := (LayAt.new w 70 l).all
  unfold layV layA at *
  by_cases h1 : i = 0
  · have hf : Hid (l.fill i = l.filler) := Lib.hid (by unfold Lay.fill; rw [if_pos h1])
    subst h1
    go_enter Tryd.func42, Tryd.ntmps42
    go_wp2_with fail
    go_ret
    exact ⟨ret_int (by rw [hf.out]), hB.out⟩
  · have hf : Hid (l.fill i = 0) := Lib.hid (by unfold Lay.fill; rw [if_neg h1])
    have h2 : (0 : Int) < (i : Int) := by omega
    clear h1
    go_enter Tryd.func42, Tryd.ntmps42
    go_wp2_with fail
    go_ret
    exact ⟨ret_int (by rw [hf.out]; rfl), hB.out⟩
end Go.Proofs.YtkdodmjhpkfhnaaDoor
