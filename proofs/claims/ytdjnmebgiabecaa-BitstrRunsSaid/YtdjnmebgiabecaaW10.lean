/-
  The law's 'works': the examples of the chapter, one after another: true.
-/
import Derived.Test.YtdjnmebgiabecaaW9
namespace Go.Proofs.Ytdjnmebgiabecaa
open Go.RowKit

theorem RetBytes.lit {T : TypeId} {w w' : World} {s : List Int × Int} {e : Ending} (h : RetBytes T w s e w') {r : List Int} {k : Int} {n : Nat} (hs : s = (r, k)) (hn : r.length = n) :
    ∃ A c, e = .returned (.tuple #[.slice A n c, .int .i64 k]) ∧ Rd .u8 w' w'.heap.size A n r ∧ Below w.heap.size w w' := by
  subst hs hn
  obtain ⟨A, c, he, ho, hb⟩ := h
  exact ⟨A, c, he, Rd.of_own ho, hb⟩
section
variable {q : IntKind} {w w' : World} {A : Option Addr} {n : Nat} {xs : List Int}
theorem Rd.next0 (h : Rd q w w.heap.size A n xs) (hb : Below w.heap.size w w') : Rd q w' w'.heap.size A n xs := (h.below hb).more hb.size
theorem Rd.next1 {o : Obj} (h : Rd q w w.heap.size A n xs) (hb : Below (w.alloc o).heap.size (w.alloc o) w') : Rd q w' w'.heap.size A n xs :=
  (((h.alloc (Nat.le_refl _) o).more (by simp)).below hb).more hb.size
theorem Rd.next2 {o o' : Obj} (h : Rd q w w.heap.size A n xs) (hb : Below ((w.alloc o).alloc o').heap.size ((w.alloc o).alloc o') w') : Rd q w' w'.heap.size A n xs :=
  ((((h.alloc (Nat.le_refl _) o).alloc (by simp) o').more (by simp; omega)).below hb).more hb.size
theorem below_next0 {w0 : World} (h : Below w0.heap.size w0 w) (hb : Below w.heap.size w w') : Below w0.heap.size w0 w' := h.trans (hb.mono h.size)
theorem below_next1 {w0 : World} {o : Obj} (h : Below w0.heap.size w0 w) (hb : Below (w.alloc o).heap.size (w.alloc o) w') : Below w0.heap.size w0 w' :=
  (h.alloc h.size o).trans (hb.mono (by have := h.size; simp; omega))
theorem below_next2 {w0 : World} {o o' : Obj} (h : Below w0.heap.size w0 w) (hb : Below ((w.alloc o).alloc o').heap.size ((w.alloc o).alloc o') w') : Below w0.heap.size w0 w' :=
  ((h.alloc h.size o).alloc (by have := h.size; simp; omega) o').trans (hb.mono (by have := h.size; simp; omega))
end
theorem Rd.alloc1 {q : IntKind} {w : World} {A : Option Addr} {n : Nat} {xs : List Int} (h : Rd q w w.heap.size A n xs) (o : Obj) : Rd q (w.alloc o) (w.alloc o).heap.size A n xs := (h.alloc (Nat.le_refl _) o).more (by simp)
theorem same_true {A A' : Option Addr} {n c n' c' B B' : Nat} {xs : List Int} {w : World} (h : Rd .u8 w B A n xs) (h' : Rd .u8 w B' A' n' xs) (hx : Byte xs) :
    Calls Try.prog 17 #[.slice A n c, .slice A' n' c'] w fun e w' => e = .returned (.bool true) ∧ w = w' :=
  (same_any h h' hx hx).mono fun e w' h => ⟨by rw [h.1]; simp, h.2⟩
theorem rd_lit (w : World) (xs : List Int) (t : TypeId) : Rd .u8 (w.alloc (.cells (xs.map (Value.int .u8)).toArray t)) (w.heap.size + 1) (some ⟨w.heap.size, 0, none⟩) xs.length xs :=
  ⟨rfl, fun k hk => ⟨w.heap.size, 0, rfl, by omega, by
    rw [cell_of_row _ _ _ _ t (0, 0) (heap_alloc_new w _)]
    simp [hk]⟩⟩
theorem rd_new {w : World} {o : Obj} {A : Option Addr} {n : Nat} {xs : List Int} (h : Rd .u8 (w.alloc o) (w.heap.size + 1) A n xs) : Rd .u8 (w.alloc o) (w.alloc o).heap.size A n xs := by rw [World.size_alloc]; exact h

set_option maxRecDepth 100000 in
set_option maxHeartbeats 400000 in
theorem works_any (w : World) : Calls Try.prog 10 #[] w fun e w' => e = .returned (.bool true) ∧ Below w.heap.size w w' := by
  have hnine := rd_lit w [1, 0, 1, 0, 0, 0, 0, 0, 1] 5
  have hR0 : Rd .u8 (w.alloc (.cells #[.int .u8 1, .int .u8 0, .int .u8 1, .int .u8 0, .int .u8 0, .int .u8 0, .int .u8 0, .int .u8 0, .int .u8 1] 5)) (w.alloc (.cells #[.int .u8 1, .int .u8 0, .int .u8 1, .int .u8 0, .int .u8 0, .int .u8 0, .int .u8 0, .int .u8 0, .int .u8 1] 5)).heap.size (some ⟨w.heap.size, 0, none⟩) 9 [1, 0, 1, 0, 0, 0, 0, 0, 1] := by
    rw [World.size_alloc]; exact hnine
  clear hnine
  have hB0 : Below w.heap.size w (w.alloc (.cells #[.int .u8 1, .int .u8 0, .int .u8 1, .int .u8 0, .int .u8 0, .int .u8 0, .int .u8 0, .int .u8 0, .int .u8 1] 5)) := (Below.refl _ w).alloc (Nat.le_refl _) _
  go_enter Try.func10, Try.ntmps10
  go_wp2_with fail
  refine (pack_any hR0 (Nat.le_refl _) (Byte.of_mem (by decide)) (by omega) (by omega)).mono ?_
  intro e w1 h1
  obtain ⟨A1, c1, rfl, hR1, hb1⟩ := h1.lit (r := [160, 128]) (k := 0) (n := 2) (by decide) rfl
  clear h1
  have hN1 := hR0.next0 hb1
  have hB1 := below_next0 hB0 hb1
  clear hR0 hB0 hb1
  go_wp2_with fail
  refine (unpack_any (rd_lit w1 [160, 128] 5) (by simp) (Byte.of_mem (by decide)) (by simp) (by omega)).mono ?_
  intro e w2 h1
  obtain ⟨A2, c2, rfl, hR2, hb1⟩ := h1.lit (r := [1, 0, 1, 0, 0, 0, 0, 0, 1]) (k := 0) (n := 9) (by decide) rfl
  clear h1
  replace hR1 := hR1.next1 hb1
  replace hN1 := hN1.next1 hb1
  replace hB1 := below_next1 hB1 hb1
  clear hb1
  go_wp2_with fail
  refine (unpack_any (rd_lit w2 [160] 5) (by simp) (Byte.of_mem (by decide)) (by simp) (by omega)).mono ?_
  intro e w3 h1
  obtain ⟨A3, c3, rfl, _hz, hb1⟩ := h1.lit (r := []) (k := 5) (n := 0) (by decide) rfl
  clear h1
  replace hR1 := hR1.next1 hb1
  replace hN1 := hN1.next1 hb1
  replace hR2 := hR2.next1 hb1
  replace hB1 := below_next1 hB1 hb1
  clear hb1
  clear _hz
  go_wp2_with fail
  refine (fromUint_any (by omega)).mono ?_
  intro e w4 h1
  obtain ⟨A4, c4, rfl, hR4, hb1⟩ := h1.lit (r := [0, 1, 0, 1]) (k := 0) (n := 4) (by decide) rfl
  clear h1
  replace hR1 := hR1.next0 hb1
  replace hN1 := hN1.next0 hb1
  replace hR2 := hR2.next0 hb1
  replace hB1 := below_next0 hB1 hb1
  clear hb1
  go_wp2_with fail
  refine (fromUint_any (by omega)).mono ?_
  intro e w5 h1
  obtain ⟨A5, c5, rfl, _hz, hb1⟩ := h1.lit (r := []) (k := 4) (n := 0) (by decide) rfl
  clear h1
  replace hR1 := hR1.next0 hb1
  replace hN1 := hN1.next0 hb1
  replace hR2 := hR2.next0 hb1
  replace hR4 := hR4.next0 hb1
  replace hB1 := below_next0 hB1 hb1
  clear hb1
  clear _hz
  go_wp2_with fail
  refine (uint_any (rd_lit w5 [0, 1, 0, 1] 5) (by simp) (Byte.of_mem (by decide)) (by simp)).mono ?_
  rintro e w6 ⟨he, hb1⟩
  rw [show uintS [0, 1, 0, 1] = (5, 0) from by decide] at he
  subst he
  replace hR1 := hR1.next1 hb1
  replace hN1 := hN1.next1 hb1
  replace hR2 := hR2.next1 hb1
  replace hR4 := hR4.next1 hb1
  replace hB1 := below_next1 hB1 hb1
  clear hb1
  go_wp2_with fail
  refine (uint_any (rd_lit w6 [2] 5) (by simp) (Byte.of_mem (by decide)) (by simp)).mono ?_
  rintro e w7 ⟨he, hb1⟩
  rw [show uintS [2] = (0, 3) from by decide] at he
  subst he
  replace hR1 := hR1.next1 hb1
  replace hN1 := hN1.next1 hb1
  replace hR2 := hR2.next1 hb1
  replace hR4 := hR4.next1 hb1
  replace hB1 := below_next1 hB1 hb1
  clear hb1
  have hx2 := ((rd_lit w7 [1, 1, 0] 5).alloc (Nat.le_of_eq (World.size_alloc _ _).symm) (.cells #[.int .u8 0, .int .u8 1, .int .u8 1] 5)).more (B' := w7.heap.size + 2) (by omega)
  have hy2 := rd_lit (w7.alloc (.cells #[.int .u8 1, .int .u8 1, .int .u8 0] 5)) [0, 1, 1] 5
  rw [World.size_alloc] at hy2
  go_wp2_with fail
  refine (xor_any hx2 hy2 (by simp) (Byte.of_mem (by decide)) (Byte.of_mem (by decide)) (by simp)).mono ?_
  intro e w8 h1
  obtain ⟨A8, c8, rfl, hR8, hb1⟩ := h1.lit (r := [1, 0, 1]) (k := 0) (n := 3) (by decide) rfl
  clear h1
  replace hR1 := hR1.next2 hb1
  replace hN1 := hN1.next2 hb1
  replace hR2 := hR2.next2 hb1
  replace hR4 := hR4.next2 hb1
  replace hB1 := below_next2 hB1 hb1
  clear hb1
  clear hx2 hy2
  have hx2 := ((rd_lit w8 [1, 1, 0] 5).alloc (Nat.le_of_eq (World.size_alloc _ _).symm) (.cells #[.int .u8 0, .int .u8 1, .int .u8 1] 5)).more (B' := w8.heap.size + 2) (by omega)
  have hy2 := rd_lit (w8.alloc (.cells #[.int .u8 1, .int .u8 1, .int .u8 0] 5)) [0, 1, 1] 5
  rw [World.size_alloc] at hy2
  go_wp2_with fail
  refine (dist_any hx2 hy2 (by simp) (Byte.of_mem (by decide)) (Byte.of_mem (by decide)) (by simp)).mono ?_
  rintro e w9 ⟨he, hb1⟩
  rw [show distS [1, 1, 0] [0, 1, 1] = (2, 0) from by decide] at he
  subst he
  replace hR1 := hR1.next2 hb1
  replace hN1 := hN1.next2 hb1
  replace hR2 := hR2.next2 hb1
  replace hR4 := hR4.next2 hb1
  replace hR8 := hR8.next2 hb1
  replace hB1 := below_next2 hB1 hb1
  clear hb1
  clear hx2 hy2
  have hx2 := ((rd_lit w9 [1] 5).alloc (Nat.le_of_eq (World.size_alloc _ _).symm) (.cells #[.int .u8 1, .int .u8 1] 5)).more (B' := w9.heap.size + 2) (by omega)
  have hy2 := rd_lit (w9.alloc (.cells #[.int .u8 1] 5)) [1, 1] 5
  rw [World.size_alloc] at hy2
  go_wp2_with fail
  refine (dist_any hx2 hy2 (by simp) (Byte.of_mem (by decide)) (Byte.of_mem (by decide)) (by simp)).mono ?_
  rintro e w10 ⟨he, hb1⟩
  rw [show distS [1] [1, 1] = (0, 2) from by decide] at he
  subst he
  replace hR1 := hR1.next2 hb1
  replace hN1 := hN1.next2 hb1
  replace hR2 := hR2.next2 hb1
  replace hR4 := hR4.next2 hb1
  replace hR8 := hR8.next2 hb1
  replace hB1 := below_next2 hB1 hb1
  clear hb1
  clear hx2 hy2
  go_wp2_with fail
  refine (num_any _ _).mono ?_
  rintro e w' ⟨rfl, rfl⟩
  go_wp2_with fail
  refine (num_any _ _).mono ?_
  rintro e w' ⟨rfl, rfl⟩
  go_wp2_with fail
  refine (num_any _ _).mono ?_
  rintro e w' ⟨rfl, rfl⟩
  go_wp2_with fail
  refine (num_any _ _).mono ?_
  rintro e w' ⟨rfl, rfl⟩
  go_wp2_with fail
  refine (num_any _ _).mono ?_
  rintro e w' ⟨rfl, rfl⟩
  go_wp2_with fail
  refine (num_any _ _).mono ?_
  rintro e w' ⟨rfl, rfl⟩
  go_wp2_with fail
  have hl : Rd .u8 (World.alloc w10 (.cells #[.int .u8 160, .int .u8 128] 5)) (World.alloc w10 (.cells #[.int .u8 160, .int .u8 128] 5)).heap.size (some ⟨w10.heap.size, 0, none⟩) 2 [160, 128] := rd_new (rd_lit w10 [160, 128] 5)
  simp only [World.size_alloc] at hl
  have hs := same_true (c := c1) (c' := 2) (hR1.alloc1 (.cells #[.int .u8 160, .int .u8 128] 5)) hl (Byte.of_mem (by decide))
  refine hs.mono ?_
  rintro e w' ⟨rfl, rfl⟩
  clear hs
  replace hR1 := hR1.alloc1 (.cells #[.int .u8 160, .int .u8 128] 5)
  replace hN1 := hN1.alloc1 (.cells #[.int .u8 160, .int .u8 128] 5)
  replace hR2 := hR2.alloc1 (.cells #[.int .u8 160, .int .u8 128] 5)
  replace hR4 := hR4.alloc1 (.cells #[.int .u8 160, .int .u8 128] 5)
  replace hR8 := hR8.alloc1 (.cells #[.int .u8 160, .int .u8 128] 5)
  replace hB1 := hB1.alloc hB1.size (.cells #[.int .u8 160, .int .u8 128] 5)
  clear hl
  go_wp2_with fail
  have hs := same_true (c := c2) (c' := 9) hR2 hN1 (Byte.of_mem (by decide))
  refine hs.mono ?_
  rintro e w' ⟨rfl, rfl⟩
  clear hs
  go_wp2_with fail
  have hl : Rd .u8 (World.alloc (World.alloc w10 (.cells #[.int .u8 160, .int .u8 128] 5)) (.cells #[.int .u8 0, .int .u8 1, .int .u8 0, .int .u8 1] 5)) (World.alloc (World.alloc w10 (.cells #[.int .u8 160, .int .u8 128] 5)) (.cells #[.int .u8 0, .int .u8 1, .int .u8 0, .int .u8 1] 5)).heap.size (some ⟨(World.alloc w10 (.cells #[.int .u8 160, .int .u8 128] 5)).heap.size, 0, none⟩) 4 [0, 1, 0, 1] := rd_new (rd_lit (World.alloc w10 (.cells #[.int .u8 160, .int .u8 128] 5)) [0, 1, 0, 1] 5)
  simp only [World.size_alloc] at hl
  have hs := same_true (c := c4) (c' := 4) (hR4.alloc1 (.cells #[.int .u8 0, .int .u8 1, .int .u8 0, .int .u8 1] 5)) hl (Byte.of_mem (by decide))
  refine hs.mono ?_
  rintro e w' ⟨rfl, rfl⟩
  clear hs
  replace hR1 := hR1.alloc1 (.cells #[.int .u8 0, .int .u8 1, .int .u8 0, .int .u8 1] 5)
  replace hN1 := hN1.alloc1 (.cells #[.int .u8 0, .int .u8 1, .int .u8 0, .int .u8 1] 5)
  replace hR2 := hR2.alloc1 (.cells #[.int .u8 0, .int .u8 1, .int .u8 0, .int .u8 1] 5)
  replace hR4 := hR4.alloc1 (.cells #[.int .u8 0, .int .u8 1, .int .u8 0, .int .u8 1] 5)
  replace hR8 := hR8.alloc1 (.cells #[.int .u8 0, .int .u8 1, .int .u8 0, .int .u8 1] 5)
  replace hB1 := hB1.alloc hB1.size (.cells #[.int .u8 0, .int .u8 1, .int .u8 0, .int .u8 1] 5)
  clear hl
  go_wp2_with fail
  have hl : Rd .u8 (World.alloc (World.alloc (World.alloc w10 (.cells #[.int .u8 160, .int .u8 128] 5)) (.cells #[.int .u8 0, .int .u8 1, .int .u8 0, .int .u8 1] 5)) (.cells #[.int .u8 1, .int .u8 0, .int .u8 1] 5)) (World.alloc (World.alloc (World.alloc w10 (.cells #[.int .u8 160, .int .u8 128] 5)) (.cells #[.int .u8 0, .int .u8 1, .int .u8 0, .int .u8 1] 5)) (.cells #[.int .u8 1, .int .u8 0, .int .u8 1] 5)).heap.size (some ⟨(World.alloc (World.alloc w10 (.cells #[.int .u8 160, .int .u8 128] 5)) (.cells #[.int .u8 0, .int .u8 1, .int .u8 0, .int .u8 1] 5)).heap.size, 0, none⟩) 3 [1, 0, 1] := rd_new (rd_lit (World.alloc (World.alloc w10 (.cells #[.int .u8 160, .int .u8 128] 5)) (.cells #[.int .u8 0, .int .u8 1, .int .u8 0, .int .u8 1] 5)) [1, 0, 1] 5)
  simp only [World.size_alloc] at hl
  have hs := same_true (c := c8) (c' := 3) (hR8.alloc1 (.cells #[.int .u8 1, .int .u8 0, .int .u8 1] 5)) hl (Byte.of_mem (by decide))
  refine hs.mono ?_
  rintro e w' ⟨rfl, rfl⟩
  clear hs
  replace hR1 := hR1.alloc1 (.cells #[.int .u8 1, .int .u8 0, .int .u8 1] 5)
  replace hN1 := hN1.alloc1 (.cells #[.int .u8 1, .int .u8 0, .int .u8 1] 5)
  replace hR2 := hR2.alloc1 (.cells #[.int .u8 1, .int .u8 0, .int .u8 1] 5)
  replace hR4 := hR4.alloc1 (.cells #[.int .u8 1, .int .u8 0, .int .u8 1] 5)
  replace hR8 := hR8.alloc1 (.cells #[.int .u8 1, .int .u8 0, .int .u8 1] 5)
  replace hB1 := hB1.alloc hB1.size (.cells #[.int .u8 1, .int .u8 0, .int .u8 1] 5)
  clear hl
  go_wp2_with fail
  have hl : Rd .u8 (World.alloc (World.alloc (World.alloc (World.alloc w10 (.cells #[.int .u8 160, .int .u8 128] 5)) (.cells #[.int .u8 0, .int .u8 1, .int .u8 0, .int .u8 1] 5)) (.cells #[.int .u8 1, .int .u8 0, .int .u8 1] 5)) (.cells #[.int .u8 1, .int .u8 1, .int .u8 0] 5)) (World.alloc (World.alloc (World.alloc (World.alloc w10 (.cells #[.int .u8 160, .int .u8 128] 5)) (.cells #[.int .u8 0, .int .u8 1, .int .u8 0, .int .u8 1] 5)) (.cells #[.int .u8 1, .int .u8 0, .int .u8 1] 5)) (.cells #[.int .u8 1, .int .u8 1, .int .u8 0] 5)).heap.size (some ⟨(World.alloc (World.alloc (World.alloc w10 (.cells #[.int .u8 160, .int .u8 128] 5)) (.cells #[.int .u8 0, .int .u8 1, .int .u8 0, .int .u8 1] 5)) (.cells #[.int .u8 1, .int .u8 0, .int .u8 1] 5)).heap.size, 0, none⟩) 3 [1, 1, 0] := rd_new (rd_lit (World.alloc (World.alloc (World.alloc w10 (.cells #[.int .u8 160, .int .u8 128] 5)) (.cells #[.int .u8 0, .int .u8 1, .int .u8 0, .int .u8 1] 5)) (.cells #[.int .u8 1, .int .u8 0, .int .u8 1] 5)) [1, 1, 0] 5)
  simp only [World.size_alloc] at hl
  refine (weight_any (by simp) hl (by simp)).mono ?_
  rintro e w' ⟨he, hb1⟩
  rw [show weight [1, 1, 0] = 2 from by decide] at he
  subst he
  replace hB1 := below_next1 hB1 hb1
  go_wp2
  go_ret
  exact ⟨rfl, hB1⟩
end Go.Proofs.Ytdjnmebgiabecaa
