/-
  The law FieldNone's walk: it returns true for every call of a writer and of a reader; what was there stays.
-/
import Derived.Test.YtgcgmnopggabaaaL1
namespace Go.Proofs.Ytgcgmnopggabaaa
open Go.RowKit

theorem blk_cell {w : World} {B j : Nat} {cs : Array Value} {t : TypeId} {v : Value} (h : w.heap[B]? = some (.cells cs t)) (hj : cs[j]? = some v) : w.cell? ⟨B, j, none⟩ = some v := by
  rw [cell_of_row w B j cs t _ h]
  exact hj
theorem blk_below {w w' : World} {B : Nat} {o : Obj} (h : w.heap[B]? = some o) (hb : Below w.heap.size w w') : w'.heap[B]? = some o := (hb.block B (Array.getElem?_eq_some_iff.1 h).1).trans h
theorem zero_reader (w : World) : RdrAt (w.alloc (.cells #[.slice none 0 0, .int .i64 0] 57)) w.heap.size none 0 0 [] 0 :=
  ⟨Two.new _ _ _ _, Rd.nil _ _ _ _, fun a ha => (by cases ha), fun a ha => (by cases ha), fun k => (by simp), by decide, Nat.le_refl _⟩

set_option maxRecDepth 100000 in
set_option maxHeartbeats 8000000 in
theorem none_short {w : World} {what v num what2 num2 : Int} {Ba La Ya : Option Addr} {bn bc ln lc yn yc : Nat} (h1 : bn ≤ 40) (h2 : ln ≤ 20) (h3 : yn ≤ 20) :
    Calls Try.prog 5 #[.agg #[.int .i64 what, .int .u64 v, .int .i64 num, .slice Ba bn bc, .slice La ln lc], .agg #[.int .i64 what2, .int .i64 num2, .slice Ya yn yc]] w fun e w' => e = .returned (.bool true) ∧ Below w.heap.size w w' := by
  have g1 : decide (40 < (bn : Int)) = false := by simp; omega
  have g2 : decide (20 < (ln : Int)) = false := by simp; omega
  have g3 : decide (20 < (yn : Int)) = false := by simp; omega
  obtain ⟨wa, hwa⟩ : ∃ W, W = w.alloc (.cells #[.int .i64 what, .int .u64 v, .int .i64 num, .slice Ba bn bc, .slice La ln lc] 36) := ⟨_, rfl⟩
  obtain ⟨wb, hwb⟩ : ∃ W, W = wa.alloc (.cells #[.int .i64 what2, .int .i64 num2, .slice Ya yn yc] 49) := ⟨_, rfl⟩
  have hX : wb.heap[w.heap.size]? = some (.cells #[.int .i64 what, .int .u64 v, .int .i64 num, .slice Ba bn bc, .slice La ln lc] 36) := by
    rw [hwb, Below.heap_alloc _ _ _ (by rw [hwa]; simp), hwa]; exact World.alloc_heap_new _ _
  have hY : wb.heap[w.heap.size + 1]? = some (.cells #[.int .i64 what2, .int .i64 num2, .slice Ya yn yc] 49) := by
    have := World.alloc_heap_new wa (.cells #[.int .i64 what2, .int .i64 num2, .slice Ya yn yc] 49)
    rw [← hwb] at this
    rw [show wa.heap.size = w.heap.size + 1 by rw [hwa]; simp] at this
    exact this
  have hsz : wb.heap.size = w.heap.size + 1 + 1 := by rw [hwb, hwa]; simp
  have hb0 : Below w.heap.size w wb := by rw [hwb, hwa]; exact ((Below.refl _ w).alloc (Nat.le_refl _) _).alloc (by simp) _
  obtain ⟨w0, hw0⟩ : ∃ W, W = wb.alloc (.cells #[.slice none 0 0, .int .i64 0] 57) := ⟨_, rfl⟩
  have hZ : RdrAt w0 wb.heap.size none 0 0 [] 0 := by rw [hw0]; exact zero_reader wb
  have hX0 := (show w0.heap[w.heap.size]? = wb.heap[w.heap.size]? by rw [hw0, Below.heap_alloc _ _ _ (by omega)]).trans hX
  have hY0 := (show w0.heap[w.heap.size + 1]? = wb.heap[w.heap.size + 1]? by rw [hw0, Below.heap_alloc _ _ _ (by omega)]).trans hY
  have hb : Below w.heap.size w w0 := by rw [hw0]; exact hb0.alloc hb0.size _
  have HX := Lib.hid hX
  have HY := Lib.hid hY
  have HW := Lib.hid (And.intro hwa (And.intro hwb hw0))
  rw [hsz] at hZ
  have hZX : ¬ w.heap.size = w.heap.size + 1 + 1 := by omega
  have hZY : ¬ w.heap.size + 1 = w.heap.size + 1 + 1 := by omega
  have x3 := blk_cell hX (j := 3) rfl
  have x4 := blk_cell hX (j := 4) rfl
  have y2 := blk_cell hY (j := 2) rfl
  have y1 := blk_cell hY0 (j := 1) rfl
  subst hw0 hwb hwa
  clear hX hY hb0 hsz
  go_enter Try.func5, Try.ntmps5
  go_wp2_with fail
  clear x3 x4 y2 y1
  generalize hG : ((w.alloc (.cells #[.int .i64 what, .int .u64 v, .int .i64 num, .slice Ba bn bc, .slice La ln lc] 36)).alloc (.cells #[.int .i64 what2, .int .i64 num2, .slice Ya yn yc] 49)).alloc (.cells #[.slice none 0 0, .int .i64 0] 57) = w0 at hb hX0 hY0 hZ ⊢
  have hX := hX0
  have hY := hY0
  clear hG HX HY HW hX0 hY0
  refine (get_nil).mono ?_
  rintro e w1 ⟨rfl, hq⟩
  replace hX := blk_below hX hq
  replace hY := blk_below hY hq
  replace hZ := hZ.save (X := fun k => w0.heap.size ≤ k) (Save.of_below hq) (by have := hZ.blk.lt; omega) (fun a ha => by cases ha)
  replace hb := hb.trans (hq.mono hb.size)
  clear hq
  have x1 := blk_cell hX (j := 1) rfl
  have x2 := blk_cell hX (j := 2) rfl
  have x3 := blk_cell hX (j := 3) rfl
  have x4 := blk_cell hX (j := 4) rfl
  have y1 := blk_cell hY (j := 1) rfl
  have y2 := blk_cell hY (j := 2) rfl
  go_wp2_with fail
  clear x1 x2 x3 x4 y1 y2
  refine (getBytes_nil).mono ?_
  rintro e w' ⟨rfl, rfl⟩
  have x1 := blk_cell hX (j := 1) rfl
  have x2 := blk_cell hX (j := 2) rfl
  have x3 := blk_cell hX (j := 3) rfl
  have x4 := blk_cell hX (j := 4) rfl
  have y1 := blk_cell hY (j := 1) rfl
  have y2 := blk_cell hY (j := 2) rfl
  go_wp2_with fail
  clear x1 x2 x3 x4 y1 y2
  refine (getAll_nil).mono ?_
  rintro e w2 ⟨rfl, hq⟩
  replace hX := blk_below hX hq
  replace hY := blk_below hY hq
  replace hZ := hZ.save (X := fun k => w1.heap.size ≤ k) (Save.of_below hq) (by have := hZ.blk.lt; omega) (fun a ha => by cases ha)
  replace hb := hb.trans (hq.mono hb.size)
  clear hq
  have x1 := blk_cell hX (j := 1) rfl
  have x2 := blk_cell hX (j := 2) rfl
  have x3 := blk_cell hX (j := 3) rfl
  have x4 := blk_cell hX (j := 4) rfl
  have y1 := blk_cell hY (j := 1) rfl
  have y2 := blk_cell hY (j := 2) rfl
  go_wp2_with fail
  clear x1 x2 x3 x4 y1 y2
  refine (get_any (wd := 1) hZ).mono ?_
  rintro e w3 ⟨rfl, hZn, hV⟩
  rw [show getV [] 0 0 1 = 0 from by decide, show getE 0 0 1 = 5 from by decide]
  rw [show getP 0 0 1 = 0 from by decide] at hZn
  replace hX := hV.heap hX (fun e => hZX e)
  replace hY := hV.heap hY (fun e => hZY e)
  replace hb := Below.save hb hV (fun i hi => by omega) (Nat.le_refl _)
  clear hZ; have hZ := hZn; clear hZn hV
  have x1 := blk_cell hX (j := 1) rfl
  have x2 := blk_cell hX (j := 2) rfl
  have x3 := blk_cell hX (j := 3) rfl
  have x4 := blk_cell hX (j := 4) rfl
  have y1 := blk_cell hY (j := 1) rfl
  have y2 := blk_cell hY (j := 2) rfl
  go_wp2_with fail
  clear x1 x2 x3 x4 y1 y2
  refine (put_nil).mono ?_
  rintro e w4 ⟨rfl, hq⟩
  replace hX := blk_below hX hq
  replace hY := blk_below hY hq
  replace hZ := hZ.save (X := fun k => w3.heap.size ≤ k) (Save.of_below hq) (by have := hZ.blk.lt; omega) (fun a ha => by cases ha)
  replace hb := hb.trans (hq.mono hb.size)
  clear hq
  have x1 := blk_cell hX (j := 1) rfl
  have x2 := blk_cell hX (j := 2) rfl
  have x3 := blk_cell hX (j := 3) rfl
  have x4 := blk_cell hX (j := 4) rfl
  have y1 := blk_cell hY (j := 1) rfl
  have y2 := blk_cell hY (j := 2) rfl
  go_wp2_with fail
  clear x1 x2 x3 x4 y1 y2
  refine (num_any _ _).mono ?_
  rintro e w' ⟨rfl, rfl⟩
  have x1 := blk_cell hX (j := 1) rfl
  have x2 := blk_cell hX (j := 2) rfl
  have x3 := blk_cell hX (j := 3) rfl
  have x4 := blk_cell hX (j := 4) rfl
  have y1 := blk_cell hY (j := 1) rfl
  have y2 := blk_cell hY (j := 2) rfl
  go_wp2_with fail
  clear x1 x2 x3 x4 y1 y2
  refine (putBytes_nil).mono ?_
  rintro e w' ⟨rfl, rfl⟩
  have x1 := blk_cell hX (j := 1) rfl
  have x2 := blk_cell hX (j := 2) rfl
  have x3 := blk_cell hX (j := 3) rfl
  have x4 := blk_cell hX (j := 4) rfl
  have y1 := blk_cell hY (j := 1) rfl
  have y2 := blk_cell hY (j := 2) rfl
  go_wp2_with fail
  clear x1 x2 x3 x4 y1 y2
  refine (num_any _ _).mono ?_
  rintro e w' ⟨rfl, rfl⟩
  have x1 := blk_cell hX (j := 1) rfl
  have x2 := blk_cell hX (j := 2) rfl
  have x3 := blk_cell hX (j := 3) rfl
  have x4 := blk_cell hX (j := 4) rfl
  have y1 := blk_cell hY (j := 1) rfl
  have y2 := blk_cell hY (j := 2) rfl
  go_wp2_with fail
  clear x1 x2 x3 x4 y1 y2
  refine (putAll_nil).mono ?_
  rintro e w5 ⟨rfl, hq⟩
  replace hX := blk_below hX hq
  replace hY := blk_below hY hq
  replace hZ := hZ.save (X := fun k => w4.heap.size ≤ k) (Save.of_below hq) (by have := hZ.blk.lt; omega) (fun a ha => by cases ha)
  replace hb := hb.trans (hq.mono hb.size)
  clear hq
  have x1 := blk_cell hX (j := 1) rfl
  have x2 := blk_cell hX (j := 2) rfl
  have x3 := blk_cell hX (j := 3) rfl
  have x4 := blk_cell hX (j := 4) rfl
  have y1 := blk_cell hY (j := 1) rfl
  have y2 := blk_cell hY (j := 2) rfl
  go_wp2_with fail
  clear x1 x2 x3 x4 y1 y2
  refine (num_any _ _).mono ?_
  rintro e w' ⟨rfl, rfl⟩
  have x1 := blk_cell hX (j := 1) rfl
  have x2 := blk_cell hX (j := 2) rfl
  have x3 := blk_cell hX (j := 3) rfl
  have x4 := blk_cell hX (j := 4) rfl
  have y1 := blk_cell hY (j := 1) rfl
  have y2 := blk_cell hY (j := 2) rfl
  go_wp2_with fail
  clear x1 x2 x3 x4 y1 y2
  refine (walign_nil).mono ?_
  rintro e w' ⟨rfl, rfl⟩
  have x1 := blk_cell hX (j := 1) rfl
  have x2 := blk_cell hX (j := 2) rfl
  have x3 := blk_cell hX (j := 3) rfl
  have x4 := blk_cell hX (j := 4) rfl
  have y1 := blk_cell hY (j := 1) rfl
  have y2 := blk_cell hY (j := 2) rfl
  go_wp2_with fail
  clear x1 x2 x3 x4 y1 y2
  refine (num_any _ _).mono ?_
  rintro e w' ⟨rfl, rfl⟩
  have x1 := blk_cell hX (j := 1) rfl
  have x2 := blk_cell hX (j := 2) rfl
  have x3 := blk_cell hX (j := 3) rfl
  have x4 := blk_cell hX (j := 4) rfl
  have y1 := blk_cell hY (j := 1) rfl
  have y2 := blk_cell hY (j := 2) rfl
  go_wp2_with fail
  clear x1 x2 x3 x4 y1 y2
  refine (wlen_nil).mono ?_
  rintro e w' ⟨rfl, rfl⟩
  have x1 := blk_cell hX (j := 1) rfl
  have x2 := blk_cell hX (j := 2) rfl
  have x3 := blk_cell hX (j := 3) rfl
  have x4 := blk_cell hX (j := 4) rfl
  have y1 := blk_cell hY (j := 1) rfl
  have y2 := blk_cell hY (j := 2) rfl
  go_wp2_with fail
  clear x1 x2 x3 x4 y1 y2
  refine (wbytes_nil).mono ?_
  rintro e w' ⟨rfl, rfl⟩
  have x1 := blk_cell hX (j := 1) rfl
  have x2 := blk_cell hX (j := 2) rfl
  have x3 := blk_cell hX (j := 3) rfl
  have x4 := blk_cell hX (j := 4) rfl
  have y1 := blk_cell hY (j := 1) rfl
  have y2 := blk_cell hY (j := 2) rfl
  go_wp2_with fail
  clear x1 x2 x3 x4 y1 y2
  refine (num_any _ _).mono ?_
  rintro e w' ⟨rfl, rfl⟩
  have x1 := blk_cell hX (j := 1) rfl
  have x2 := blk_cell hX (j := 2) rfl
  have x3 := blk_cell hX (j := 3) rfl
  have x4 := blk_cell hX (j := 4) rfl
  have y1 := blk_cell hY (j := 1) rfl
  have y2 := blk_cell hY (j := 2) rfl
  go_wp2_with fail
  clear x1 x2 x3 x4 y1 y2
  refine (num_any _ _).mono ?_
  rintro e w' ⟨rfl, rfl⟩
  have x1 := blk_cell hX (j := 1) rfl
  have x2 := blk_cell hX (j := 2) rfl
  have x3 := blk_cell hX (j := 3) rfl
  have x4 := blk_cell hX (j := 4) rfl
  have y1 := blk_cell hY (j := 1) rfl
  have y2 := blk_cell hY (j := 2) rfl
  go_wp2_with fail
  clear x1 x2 x3 x4 y1 y2
  refine (num_any _ _).mono ?_
  rintro e w' ⟨rfl, rfl⟩
  have x1 := blk_cell hX (j := 1) rfl
  have x2 := blk_cell hX (j := 2) rfl
  have x3 := blk_cell hX (j := 3) rfl
  have x4 := blk_cell hX (j := 4) rfl
  have y1 := blk_cell hY (j := 1) rfl
  have y2 := blk_cell hY (j := 2) rfl
  go_wp2_with fail
  clear x1 x2 x3 x4 y1 y2
  refine (align_nil).mono ?_
  rintro e w6 ⟨rfl, hq⟩
  replace hX := blk_below hX hq
  replace hY := blk_below hY hq
  replace hZ := hZ.save (X := fun k => w5.heap.size ≤ k) (Save.of_below hq) (by have := hZ.blk.lt; omega) (fun a ha => by cases ha)
  replace hb := hb.trans (hq.mono hb.size)
  clear hq
  have x1 := blk_cell hX (j := 1) rfl
  have x2 := blk_cell hX (j := 2) rfl
  have x3 := blk_cell hX (j := 3) rfl
  have x4 := blk_cell hX (j := 4) rfl
  have y1 := blk_cell hY (j := 1) rfl
  have y2 := blk_cell hY (j := 2) rfl
  go_wp2_with fail
  clear x1 x2 x3 x4 y1 y2
  refine (num_any _ _).mono ?_
  rintro e w' ⟨rfl, rfl⟩
  have x1 := blk_cell hX (j := 1) rfl
  have x2 := blk_cell hX (j := 2) rfl
  have x3 := blk_cell hX (j := 3) rfl
  have x4 := blk_cell hX (j := 4) rfl
  have y1 := blk_cell hY (j := 1) rfl
  have y2 := blk_cell hY (j := 2) rfl
  go_wp2_with fail
  clear x1 x2 x3 x4 y1 y2
  refine (at_nil).mono ?_
  rintro e w' ⟨rfl, rfl⟩
  have x1 := blk_cell hX (j := 1) rfl
  have x2 := blk_cell hX (j := 2) rfl
  have x3 := blk_cell hX (j := 3) rfl
  have x4 := blk_cell hX (j := 4) rfl
  have y1 := blk_cell hY (j := 1) rfl
  have y2 := blk_cell hY (j := 2) rfl
  go_wp2_with fail
  clear x1 x2 x3 x4 y1 y2
  refine (left_nil).mono ?_
  rintro e w' ⟨rfl, rfl⟩
  have x1 := blk_cell hX (j := 1) rfl
  have x2 := blk_cell hX (j := 2) rfl
  have x3 := blk_cell hX (j := 3) rfl
  have x4 := blk_cell hX (j := 4) rfl
  have y1 := blk_cell hY (j := 1) rfl
  have y2 := blk_cell hY (j := 2) rfl
  go_wp2_with fail
  clear x1 x2 x3 x4 y1 y2
  refine (end_nil).mono ?_
  rintro e w' ⟨rfl, rfl⟩
  have x1 := blk_cell hX (j := 1) rfl
  have x2 := blk_cell hX (j := 2) rfl
  have x3 := blk_cell hX (j := 3) rfl
  have x4 := blk_cell hX (j := 4) rfl
  have y1 := blk_cell hY (j := 1) rfl
  have y2 := blk_cell hY (j := 2) rfl
  go_wp2_with fail
  clear x1 x2 x3 x4 y1 y2
  refine (num_any _ _).mono ?_
  rintro e w' ⟨rfl, rfl⟩
  have x1 := blk_cell hX (j := 1) rfl
  have x2 := blk_cell hX (j := 2) rfl
  have x3 := blk_cell hX (j := 3) rfl
  have x4 := blk_cell hX (j := 4) rfl
  have y1 := blk_cell hY (j := 1) rfl
  have y2 := blk_cell hY (j := 2) rfl
  go_wp2_with fail
  clear x1 x2 x3 x4 y1 y2
  refine (left_any hZ.blk hZ.size hZ.pos).mono ?_
  rintro e w7 ⟨rfl, kd, hkd⟩
  have hq : Below w6.heap.size w6 w7 := by rw [hkd]; exact below_drewN (Below.refl _ _) _
  clear hkd
  replace hX := blk_below hX hq
  replace hY := blk_below hY hq
  replace hZ := hZ.save (X := fun k => w6.heap.size ≤ k) (Save.of_below hq) (by have := hZ.blk.lt; omega) (fun a ha => by cases ha)
  replace hb := hb.trans (hq.mono hb.size)
  clear hq
  rw [show 8 * 0 - 0 = 0 from rfl]
  have x1 := blk_cell hX (j := 1) rfl
  have x2 := blk_cell hX (j := 2) rfl
  have x3 := blk_cell hX (j := 3) rfl
  have x4 := blk_cell hX (j := 4) rfl
  have y1 := blk_cell hY (j := 1) rfl
  have y2 := blk_cell hY (j := 2) rfl
  go_wp2_with fail
  clear x1 x2 x3 x4 y1 y2
  refine (end_any hZ).mono ?_
  rintro e w8 ⟨rfl, hq⟩
  replace hX := blk_below hX hq
  replace hY := blk_below hY hq
  replace hZ := hZ.save (X := fun k => w7.heap.size ≤ k) (Save.of_below hq) (by have := hZ.blk.lt; omega) (fun a ha => by cases ha)
  replace hb := hb.trans (hq.mono hb.size)
  clear hq
  rw [show endE [] 0 0 = 0 from by decide]
  have x1 := blk_cell hX (j := 1) rfl
  have x2 := blk_cell hX (j := 2) rfl
  have x3 := blk_cell hX (j := 3) rfl
  have x4 := blk_cell hX (j := 4) rfl
  have y1 := blk_cell hY (j := 1) rfl
  have y2 := blk_cell hY (j := 2) rfl
  go_wp2_with fail
  clear x1 x2 x3 x4 y1 y2
  refine (works_any _).mono ?_
  rintro e w9 ⟨rfl, hq⟩
  replace hX := blk_below hX hq
  replace hY := blk_below hY hq
  replace hZ := hZ.save (X := fun k => w8.heap.size ≤ k) (Save.of_below hq) (by have := hZ.blk.lt; omega) (fun a ha => by cases ha)
  replace hb := hb.trans (hq.mono hb.size)
  clear hq
  have x1 := blk_cell hX (j := 1) rfl
  have x2 := blk_cell hX (j := 2) rfl
  have x3 := blk_cell hX (j := 3) rfl
  have x4 := blk_cell hX (j := 4) rfl
  have y1 := blk_cell hY (j := 1) rfl
  have y2 := blk_cell hY (j := 2) rfl
  go_wp2_with fail
  clear x1 x2 x3 x4 y1 y2
  go_ret
  exact ⟨rfl, hb⟩
end Go.Proofs.Ytgcgmnopggabaaa
