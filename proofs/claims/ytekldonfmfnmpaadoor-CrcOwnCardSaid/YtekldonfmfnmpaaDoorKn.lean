/-
  The examples of the chapter: known returns true.
-/
import Derived.Test.YtekldonfmfnmpaaDoorK9
import Derived.Test.YtekldonfmfnmpaaDoorR3
namespace Go.Proofs.YtekldonfmfnmpaaDoor
open Go.RowKit

theorem RetBytes.got {w w' : World} {r : List Int} {k : Int} {e : Ending} {n : Nat} (h : RetBytes 5 w (r, k) e w') (hn : r.length = n) :
    ∃ A c, e = .returned (.tuple #[.slice A n c, .int .i64 k]) ∧ w'.ownsRow w.heap.size 5 1 (.slice A n c) n (r.map (Value.int .u8)) ∧ Below w.heap.size w w' := by
  obtain ⟨A, c, h1, h2, h3⟩ := h
  subst hn
  exact ⟨A, c, h1, h2, h3⟩
/-- A literal of bytes. -/
theorem lit_rd {w : World} (xs : List Int) (t : TypeId) : Rd .u8 (w.alloc (.cells (xs.map (Value.int .u8)).toArray t)) (w.alloc (.cells (xs.map (Value.int .u8)).toArray t)).heap.size (some ⟨w.heap.size, 0, none⟩) xs.length xs :=
  (rd_lit w xs t).more (by simp)
theorem known_compute {w : World} {k : Int} {xs r : List Int} {n m : Nat} (hK : Kinds w) (hn : xs.length = n) (hx : Byte xs) (h20 : n ≤ 20) (hr : computeS k xs = (r, 0)) (hm : r.length = m) :
    Calls Tryd.prog 12 #[.int .i64 k, .slice (some ⟨w.heap.size, 0, none⟩) n n] (w.alloc (.cells (xs.map (Value.int .u8)).toArray 5)) fun e w' => ∃ A c, e = .returned (.tuple #[.slice A m c, .int .i64 0]) ∧ Rd .u8 w' w'.heap.size A m r ∧ Below w.heap.size w w' := by
  subst hn
  refine (compute_any (hK.alloc _) (lit_rd xs 5) (by omega) hx).mono ?_
  intro e w' h
  rw [hr] at h
  obtain ⟨A, c, h1, h2, h3⟩ := h.got hm
  rw [World.size_alloc] at h3
  exact ⟨A, c, h1, Rd.of_own h2, ((Below.refl _ w).alloc (Nat.le_refl _) _).trans (h3.mono (Nat.le_succ _))⟩
theorem known_check {w : World} {k z : Int} {xs r : List Int} {n m : Nat} (hK : Kinds w) (hn : xs.length = n) (hx : Byte xs) (h20 : n ≤ 20) (hr : checkS k xs = (r, z)) (hm : r.length = m) :
    Calls Tryd.prog 17 #[.int .i64 k, .slice (some ⟨w.heap.size, 0, none⟩) n n] (w.alloc (.cells (xs.map (Value.int .u8)).toArray 5)) fun e w' => ∃ A c, e = .returned (.tuple #[.slice A m c, .int .i64 z]) ∧ Rd .u8 w' w'.heap.size A m r ∧ Below w.heap.size w w' := by
  subst hn
  refine (check_any (hK.alloc _) (lit_rd xs 5) (by omega) (Nat.le_refl _) hx).mono ?_
  intro e w' h
  rw [hr] at h
  obtain ⟨A, c, h1, h2, h3⟩ := h.got hm
  rw [World.size_alloc] at h3
  exact ⟨A, c, h1, Rd.of_own h2, ((Below.refl _ w).alloc (Nat.le_refl _) _).trans (h3.mono (Nat.le_succ _))⟩
theorem same_true {w : World} {A A' : Option Addr} {n n' c c' B B' : Nat} {xs : List Int} (h : Rd .u8 w B A n xs) (h' : Rd .u8 w B' A' n' xs) (hn : n ≤ 1000000) :
    Calls Tryd.prog 14 #[.slice A n c, .slice A' n' c'] w fun e w' => e = .returned (.bool true) ∧ Below w.heap.size w w' := by
  have e : n = n' := by rw [← h.len, ← h'.len]
  refine (same_any h h' (by omega) (by omega)).mono ?_
  rintro e w' ⟨rfl, i, rfl⟩
  exact ⟨ret_bool (by simp), below_drewN (Below.refl _ _) i⟩
theorem known_same {w : World} {A : Option Addr} {n c : Nat} {xs : List Int} (h : Rd .u8 w w.heap.size A n xs) (hn : n ≤ 20) :
    Calls Tryd.prog 14 #[.slice A n c, .slice (some ⟨w.heap.size, 0, none⟩) n n] (w.alloc (.cells (xs.map (Value.int .u8)).toArray 5)) fun e w' => e = .returned (.bool true) ∧ Below w.heap.size w w' := by
  have hl := lit_rd (w := w) xs 5
  rw [h.len] at hl
  refine (same_any (h.alloc (Nat.le_refl _) _) hl (by omega) (by omega)).mono ?_
  rintro e w' ⟨rfl, i, rfl⟩
  exact ⟨ret_bool (by simp), below_drewN ((Below.refl _ w).alloc (Nat.le_refl _) _) i⟩
theorem v1 : computeS 4 [1] = ([1, 0, 0, 1, 1, 0, 1, 1], 0) := by decide +kernel
theorem v2 : computeS 4 [1, 0] = ([1, 0, 1, 0, 1, 1, 0, 1], 0) := by decide +kernel
theorem v3 : computeS 3 [1] = ([0, 0, 0, 1, 0, 0, 0, 0, 0, 0, 1, 0, 0, 0, 0, 1], 0) := by decide +kernel
theorem v4 : checkS 4 [1, 1, 0, 0, 1, 1, 0, 1, 1] = ([1], 0) := by decide +kernel
theorem v5 : checkS 4 [0, 1, 0, 0, 1, 1, 0, 1, 1] = ([], 11) := by decide +kernel
set_option maxRecDepth 100000 in
set_option maxHeartbeats 4000000 in
theorem known_any {w : World} (hK : Kinds w) :
    Calls Tryd.prog 11 #[] w fun e w' => e = .returned (.bool true) ∧ Below w.heap.size w w' := by
  have H1 := Lib.hid (known_compute hK (n := 1) rfl (Byte.of_mem (by decide)) (by decide) v1 (m := 8) rfl)
  have HK := Lib.hid hK
  clear hK
  go_enter Tryd.func11, Tryd.ntmps11
  go_wp2_with fail
  refine H1.out.mono ?_
  rintro e w1 ⟨A1, c1, rfl, hr1, hb1⟩
  clear H1
  have H2 := Lib.hid (known_compute (HK.out.step hb1) (n := 2) rfl (Byte.of_mem (by decide)) (by decide) v2 (m := 8) rfl)
  go_wp2_with fail
  refine H2.out.mono ?_
  rintro e w2 ⟨A2, c2, rfl, hr2, hb2⟩
  replace hr1 := hr1.step hb2
  replace hb2 := hb1.trans (hb2.mono hb1.size)
  clear H2 hb1
  have H3 := Lib.hid (known_compute (HK.out.step hb2) (n := 1) rfl (Byte.of_mem (by decide)) (by decide) v3 (m := 16) rfl)
  go_wp2_with fail
  refine H3.out.mono ?_
  rintro e w3 ⟨A3, c3, rfl, hr3, hb3⟩
  replace hr1 := hr1.step hb3
  replace hr2 := hr2.step hb3
  replace hb3 := hb2.trans (hb3.mono hb2.size)
  clear H3 hb2
  have H4 := Lib.hid (known_check (HK.out.step hb3) (n := 9) rfl (Byte.of_mem (by decide)) (by decide) v4 (m := 1) rfl)
  go_wp2_with fail
  refine H4.out.mono ?_
  rintro e w4 ⟨A4, c4, rfl, hr4, hb4⟩
  replace hr1 := hr1.step hb4
  replace hr2 := hr2.step hb4
  replace hr3 := hr3.step hb4
  replace hb4 := hb3.trans (hb4.mono hb3.size)
  clear H4 hb3
  have H5 := Lib.hid (known_check (HK.out.step hb4) (n := 9) rfl (Byte.of_mem (by decide)) (by decide) v5 (m := 0) rfl)
  go_wp2_with fail
  refine H5.out.mono ?_
  rintro e w5 ⟨A5, c5, rfl, _, hb5⟩
  replace hr1 := hr1.step hb5
  replace hr2 := hr2.step hb5
  replace hr3 := hr3.step hb5
  replace hr4 := hr4.step hb5
  replace hb5 := hb4.trans (hb5.mono hb4.size)
  clear H5 hb4
  have S1 := Lib.hid (known_same (c := c1) hr1 (by decide))
  go_wp2_with fail
  refine S1.out.mono ?_
  rintro e w6 ⟨rfl, hb6⟩
  replace hr2 := hr2.step hb6
  replace hr3 := hr3.step hb6
  replace hr4 := hr4.step hb6
  replace hb6 := hb5.trans (hb6.mono hb5.size)
  clear S1 hb5 hr1
  have S2 := Lib.hid (known_same (c := c2) hr2 (by decide))
  go_wp2_with fail
  refine S2.out.mono ?_
  rintro e w7 ⟨rfl, hb7⟩
  replace hr3 := hr3.step hb7
  replace hr4 := hr4.step hb7
  replace hb7 := hb6.trans (hb7.mono hb6.size)
  clear S2 hb6 hr2
  have S3 := Lib.hid (known_same (c := c3) hr3 (by decide))
  go_wp2_with fail
  refine S3.out.mono ?_
  rintro e w8 ⟨rfl, hb8⟩
  replace hr4 := hr4.step hb8
  replace hb8 := hb7.trans (hb8.mono hb7.size)
  clear S3 hb7 hr3
  have S4 := Lib.hid (known_same (c := c4) hr4 (by decide))
  go_wp2_with fail
  refine S4.out.mono ?_
  rintro e w9 ⟨rfl, hb9⟩
  replace hb9 := hb8.trans (hb9.mono hb8.size)
  clear S4 hb8 hr4
  go_wp2_with fail
  go_ret
  exact ⟨rfl, hb9⟩
end Go.Proofs.YtekldonfmfnmpaaDoor
