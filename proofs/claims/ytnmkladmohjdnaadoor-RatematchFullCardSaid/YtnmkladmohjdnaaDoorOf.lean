/-
  of; the iterator of the matrix indices; a range over it.
-/
import Derived.Test.YtnmkladmohjdnaaDoorCq
import Derived.Test.YtnmkladmohjdnaaDoorQtail
import Derived.Test.YtnmkladmohjdnaaDoorGi
import Derived.Deep.RegionLaw
import Derived.Laws.EntriesVeiled
namespace Go.Proofs.YtnmkladmohjdnaaDoor
open Go.RowKit Go.Shelf BigFrame

attribute [local go_sem] Oper.semAt_some

/-- The function value of the shift; its own memory. -/
def shiftV (s : Bool) (X : Nat) : Value := if s then .func (.func 41) #[] #[.pointer (some ⟨X, 0, none⟩)] else .func (.func 40) #[] #[]
/-- The block X holds the number of rows. -/
def RowsAt (w : World) (X R : Nat) : Prop := w.heap[X]? = some (.cells #[.int .i64 (R : Int)] 3)
theorem RowsAt.lt {w : World} {X R : Nat} (h : RowsAt w X R) : X < w.heap.size := (Array.getElem?_eq_some_iff.1 h).1
theorem RowsAt.cell {w : World} {X R : Nat} (h : RowsAt w X R) : w.cell? ⟨X, 0, none⟩ = some (.int .i64 (R : Int)) := by simp [World.cell?, show w.heap[X]? = _ from h]
theorem RowsAt.block {w w' : World} {X R : Nat} (h : RowsAt w X R) (hb : w'.heap[X]? = w.heap[X]?) : RowsAt w' X R := hb.trans h
/-- The matrix as a value. -/
def matV (R N : Nat) (s : Bool) (X : Nat) : Value := .agg #[.int .i64 (R : Int), .int .i64 (N : Int), shiftV s X]
set_option maxRecDepth 100000 in
set_option maxHeartbeats 4000000 in
theorem of_ok {d : Nat} {st : Int} {w : World} (h1 : 1 ≤ d) (h2 : d ≤ 6148) (hs : okS st = true) :
    Calls Tryd.prog 36 #[.int .i64 (d : Int), .int .i64 st] w fun e w' => (∃ X, w.heap.size ≤ X ∧ e = .returned (.tuple #[matV (rowsN d) (32 * rowsN d - d) (shB st) X, .int .i64 0]) ∧ RowsAt w' X (rowsN d)) ∧ Below w.heap.size w w' := by
  have hr := rows_le h1 h2
  have hR : rowsI (d : Int) = ((rowsN d : Nat) : Int) := by
    unfold rowsI
    rw [if_pos (by simp [okD]; omega), Int.toNat_natCast]
  have hRows := Lib.hid (fun (u : World) => Rows_any (d := (d : Int)) (w := u))
  rw [hR] at hRows
  generalize rowsN d = R at *
  obtain ⟨N, hN⟩ : ∃ N, 32 * R - d = N := ⟨_, rfl⟩
  rw [hN]
  have hne : ((R : Int) == 0) = false := by simp; omega
  have hmul : Hid (32 * (R : Int) - (d : Int) = (N : Int)) := Lib.hid (by omega)
  have s0 : ¬ (st < 0) := by simp [okS] at hs; omega
  have s1 : ¬ (3 ≤ st) := by simp [okS] at hs; omega
  have hr1 : (0 : Int) ≤ (R : Int) ∧ (R : Int) ≤ 193 := by omega
  obtain ⟨hr1, hr2⟩ := hr1
  have hd1 : (0 : Int) ≤ (d : Int) ∧ (d : Int) ≤ 6148 := by omega
  obtain ⟨hd1, hd2⟩ := hd1
  have hT := Three.new w 54 (.int .i64 0) (.int .i64 0) .nilFunc
  have hb0 := (Below.refl w.heap.size w).alloc (Nat.le_refl _) (.cells #[.int .i64 0, .int .i64 0, .nilFunc] 54)
  have hs1 : (w.alloc (.cells #[.int .i64 0, .int .i64 0, .nilFunc] 54)).heap.size = w.heap.size + 1 := by simp
  have hmf := makeFunc_run
  clear hr hR hs h1 h2 hN
  go_enter Tryd.func36, Tryd.ntmps36
  go_upto_region 1 with fail
  generalize w.alloc (.cells #[.int .i64 0, .int .i64 0, .nilFunc] 54) = W at *
  obtain ⟨B, hB⟩ : ∃ B, w.heap.size = B := ⟨_, rfl⟩
  rw [hB] at hT hb0 hs1 ⊢
  have HB := Lib.hid hB
  have hle : Hid (B ≤ W.heap.size) := Lib.hid (by omega)
  have hb1 := Lib.hid (hb0.alloc hle.out (.cells #[.int .i64 (R : Int)] 3))
  have hX : RowsAt (W.alloc (.cells #[.int .i64 (R : Int)] 3)) W.heap.size R := World.alloc_heap_new W _
  have hT1 := hT.alloc (.cells #[.int .i64 (R : Int)] 3)
  have hX0 := hX.cell
  have b0 := hT1.cell0
  have b1 := hT1.cell1
  have b2 := hT1.cell2
  have g0 := hT1.frozen 0
  have g1 := hT1.frozen 1
  have g2 := hT1.frozen 2
  have hne2 : Hid (W.heap.size ≠ B) := Lib.hid (by omega)
  have hX' := Lib.hid hX
  clear hX hT hb0 hs1 hB
  by_cases h2 : st = 2
  · subst h2
    have hT3 := Lib.hid (hT1.put (.int .i64 (R : Int)) (.int .i64 (32 * (R : Int) - (d : Int))) (shiftV true W.heap.size))
    clear hT1
    unfold shiftV at hT3
    simp only [if_true] at hT3
    go_wp2_with (go_at_call 27; refine (hRows.out _).mono ?_; rintro e W ⟨rfl, rfl⟩)
    refine bodyPost_ret (of_results (e := 0) ?_ ?_ hT3.out) rfl ⟨⟨W.heap.size, (by rw [HB.out]; exact hle.out), (by unfold matV; rw [← hmul.out]; rfl), ?_⟩, ?_⟩
    · rfl
    · rfl
    · exact hX'.out.block ((Below.heap_setCell _ _ _ _ hne2.out).trans ((Below.heap_setCell _ _ _ _ hne2.out).trans (Below.heap_setCell _ _ _ _ hne2.out)))
    · rw [HB.out]; exact ((hb1.out.setCell (p := ⟨B, 0, none⟩) (Nat.le_refl _) _).setCell (p := ⟨B, 1, none⟩) (Nat.le_refl _) _).setCell (p := ⟨B, 2, none⟩) (Nat.le_refl _) _
  · have hne3 : (st == 2) = false := by simp [h2]
    have hT3 := Lib.hid (hT1.put (.int .i64 (R : Int)) (.int .i64 (32 * (R : Int) - (d : Int))) (shiftV false W.heap.size))
    have e2 : Hid (shB st = false) := Lib.hid (by simp [shB, h2])
    clear hT1 h2
    unfold shiftV at hT3
    simp only [Bool.false_eq_true, if_false] at hT3
    go_wp2_with (go_at_call 27; refine (hRows.out _).mono ?_; rintro e W ⟨rfl, rfl⟩)
    refine bodyPost_ret (of_results (e := 0) ?_ ?_ hT3.out) rfl ⟨⟨W.heap.size, (by rw [HB.out]; exact hle.out), (by rw [e2.out]; unfold matV; rw [← hmul.out]; rfl), ?_⟩, ?_⟩
    · rfl
    · rfl
    · exact hX'.out.block ((Below.heap_setCell _ _ _ _ hne2.out).trans ((Below.heap_setCell _ _ _ _ hne2.out).trans (Below.heap_setCell _ _ _ _ hne2.out)))
    · rw [HB.out]; exact ((hb1.out.setCell (p := ⟨B, 0, none⟩) (Nat.le_refl _) _).setCell (p := ⟨B, 1, none⟩) (Nat.le_refl _) _).setCell (p := ⟨B, 2, none⟩) (Nat.le_refl _) _
set_option maxRecDepth 100000 in
set_option maxHeartbeats 4000000 in
theorem of_no {d st : Int} {w : World} (h : (okD d && okS st) = false) :
    Calls Tryd.prog 36 #[.int .i64 d, .int .i64 st] w fun e w' => e = .returned (.tuple #[.agg #[.int .i64 0, .int .i64 0, .nilFunc], .int .i64 2]) ∧ Below w.heap.size w w' := by
  have hRows := Lib.hid (fun (u : World) => Rows_any (d := d) (w := u))
  have hT := Three.new w 54 (.int .i64 0) (.int .i64 0) .nilFunc
  have hb0 := (Below.refl w.heap.size w).alloc (Nat.le_refl _) (.cells #[.int .i64 0, .int .i64 0, .nilFunc] 54)
  have hs1 : (w.alloc (.cells #[.int .i64 0, .int .i64 0, .nilFunc] 54)).heap.size = w.heap.size + 1 := by simp
  go_enter Tryd.func36, Tryd.ntmps36
  go_upto_region 1 with fail
  generalize w.alloc (.cells #[.int .i64 0, .int .i64 0, .nilFunc] 54) = W at *
  obtain ⟨B, hB⟩ : ∃ B, w.heap.size = B := ⟨_, rfl⟩
  rw [hB] at hT hb0 hs1 ⊢
  have HB := Lib.hid hB
  have hle : Hid (B ≤ W.heap.size) := Lib.hid (by omega)
  obtain ⟨r, hr⟩ : ∃ r, rowsI d = r := ⟨_, rfl⟩
  rw [hr] at hRows
  have hb1 := Lib.hid (hb0.alloc hle.out (.cells #[.int .i64 r] 3))
  have hX0 := World.cell?_alloc_lt
  have hX : (W.alloc (.cells #[.int .i64 r] 3)).cell? ⟨W.heap.size, 0, none⟩ = some (.int .i64 r) := by
    have : (W.alloc (.cells #[.int .i64 r] 3)).heap[W.heap.size]? = some (.cells #[.int .i64 r] 3) := World.alloc_heap_new W _
    simp only [World.cell?, this]
    rfl
  have hT1 := hT.alloc (.cells #[.int .i64 r] 3)
  have b0 := hT1.cell0
  have b1 := hT1.cell1
  have b2 := hT1.cell2
  have g0 := hT1.frozen 0
  have g1 := hT1.frozen 1
  have g2 := hT1.frozen 2
  have hT3 := Lib.hid (hT1.put (.int .i64 0) (.int .i64 0) .nilFunc)
  clear hX0 hT hb0 hs1 hB hT1
  by_cases h1 : okD d = true
  · have hz : (r == 0) = false := by
      rw [← hr]
      obtain ⟨k, rfl, k1, k2⟩ := okD_nat h1
      unfold rowsI
      rw [if_pos h1]
      have := rows_le k1 k2
      simp
      omega
    rw [h1, Bool.true_and] at h
    clear h1 hr
    by_cases s0 : st < 0
    · clear h
      go_wp2_with (go_at_call 27; refine (hRows.out _).mono ?_; rintro e W ⟨rfl, rfl⟩)
      refine bodyPost_ret (of_results (e := 2) ?_ ?_ hT3.out) rfl ⟨rfl, ?_⟩
      · rfl
      · rfl
      · rw [HB.out]; exact ((hb1.out.setCell (p := ⟨B, 0, none⟩) (Nat.le_refl _) _).setCell (p := ⟨B, 1, none⟩) (Nat.le_refl _) _).setCell (p := ⟨B, 2, none⟩) (Nat.le_refl _) _
    · have s1 : 3 ≤ st := by simp [okS] at h; omega
      clear h
      go_wp2_with (go_at_call 27; refine (hRows.out _).mono ?_; rintro e W ⟨rfl, rfl⟩)
      refine bodyPost_ret (of_results (e := 2) ?_ ?_ hT3.out) rfl ⟨rfl, ?_⟩
      · rfl
      · rfl
      · rw [HB.out]; exact ((hb1.out.setCell (p := ⟨B, 0, none⟩) (Nat.le_refl _) _).setCell (p := ⟨B, 1, none⟩) (Nat.le_refl _) _).setCell (p := ⟨B, 2, none⟩) (Nat.le_refl _) _
  · have hz : r = 0 := by rw [← hr]; unfold rowsI; rw [if_neg h1]
    subst hz
    clear h h1 hr
    go_wp2_with (go_at_call 27; refine (hRows.out _).mono ?_; rintro e W ⟨rfl, rfl⟩)
    refine bodyPost_ret (of_results (e := 2) ?_ ?_ hT3.out) rfl ⟨rfl, ?_⟩
    · rfl
    · rfl
    · rw [HB.out]; exact ((hb1.out.setCell (p := ⟨B, 0, none⟩) (Nat.le_refl _) _).setCell (p := ⟨B, 1, none⟩) (Nat.le_refl _) _).setCell (p := ⟨B, 2, none⟩) (Nat.le_refl _) _
end Go.Proofs.YtnmkladmohjdnaaDoor
