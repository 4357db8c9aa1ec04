/-
  Xor, Uint, Distance: what each returns; what was there stays.
-/
import Derived.Test.YtdjnmebgiabecaaW5
import Derived.Test.YtdjnmebgiabecaaW1
namespace Go.Proofs.Ytdjnmebgiabecaa
open Go.RowKit

theorem rds_two {w : World} {B B' : Nat} {A A' : Option Addr} {n c n' c' t : Nat} {xs ys : List Int} (hI : Rd .u8 w B A n xs) (hI' : Rd .u8 w B A' n' ys) (hB : B ≤ w.heap.size) (hB' : w.heap.size < B') :
    Rds (w.alloc (.cells #[.slice A n c, .slice A' n' c'] t)) B' (some ⟨w.heap.size, 0, none⟩) 2 [⟨A, n, c, xs⟩, ⟨A', n', c', ys⟩] :=
  ⟨rfl, fun k hk => by
    have hb := heap_alloc_new w (.cells #[.slice A n c, .slice A' n' c'] t)
    rcases (show k = 0 ∨ k = 1 by omega) with rfl | rfl
    · exact ⟨w.heap.size, 0, _, rfl, hB', rfl, cell_of_row _ _ 0 _ t (0, 0) hb, (hI.alloc hB _).more (by omega)⟩
    · exact ⟨w.heap.size, 0, _, rfl, hB', rfl, cell_of_row _ _ 1 _ t (0, 0) hb, (hI'.alloc hB _).more (by omega)⟩⟩

theorem valid_two {A A' : Option Addr} {n c n' c' B : Nat} {xs ys : List Int} {w : World} (hm : n ≤ 140737488351232) (hm' : n' ≤ 140737488351232) (hI : Rd .u8 w B A n xs) (hI' : Rd .u8 w B A' n' ys) (hB : B ≤ w.heap.size) :
    Calls Try.prog 32 #[.slice (some ⟨w.heap.size, 0, none⟩) 2 2] (w.alloc (.cells #[.slice A n c, .slice A' n' c'] 22)) fun e W' => e = .returned (.bool (validB xs && validB ys)) ∧ Below w.heap.size w W' := by
  refine Calls.mono (callsIn_wide.1 (valid_in 6 (by omega) (some ⟨w.heap.size, 0, none⟩) 2 2 _ (by omega) _ (rds_two hI hI' hB (by simp)) (by simp; exact ⟨hm, hm'⟩))) ?_
  rintro e W' ⟨rfl, hb⟩
  refine ⟨ret_bool (by simp), ?_⟩
  have h0 : Below w.heap.size w (w.alloc (.cells #[.slice A n c, .slice A' n' c'] 22)) := (Below.refl _ w).alloc (Nat.le_refl _) _
  exact h0.trans (hb.mono (by simp))

theorem xor_calls {A A' : Option Addr} {n c c' B : Nat} {xs ys : List Int} {w W0 : World} (hI : Rd .u8 w B A n xs) (hI' : Rd .u8 w B A' n ys) (hB : B ≤ w.heap.size)
    (hW0 : Below (w.heap.size + 2) ((w.alloc (.cells #[.slice A n c] 22)).alloc (.cells #[.slice A' n c'] 22)) W0) :
    Hid (∀ i W, i < n → Below W0.heap.size W0 W → Calls Try.prog 38 (#[.int .i64 (i : Nat)] ++ #[.pointer (some ⟨w.heap.size, 0, none⟩), .pointer (some ⟨w.heap.size + 1, 0, none⟩)]) W fun e W' => e = .returned (.int .u8 (bits .xor .u8 (xs[i]?.getD 0) (ys[i]?.getD 0))) ∧ ∃ m, W' = W.drewN m) := by
  refine Lib.hid (fun i W hi hW => ?_)
  have bV := Boxed.new w 22 (.slice A n c)
  have bN := Boxed.new (w.alloc (.cells #[.slice A n c] 22)) 22 (.slice A' n c')
  rw [World.size_alloc] at bN
  have hsz := hW0.size
  simp only [World.size_alloc] at hsz
  have hb2 := hW0.trans (hW.mono (by omega))
  have h := xor1_any (((hI.alloc hB _).alloc (by simp; omega) _).below' hb2 (by omega)) (((hI'.alloc hB _).alloc (by simp; omega) _).below' hb2 (by omega))
    ((hb2.cell (p := ⟨w.heap.size, 0, none⟩) (by simp; try omega)).trans (bV.alloc _).cell) ((hb2.cell (p := ⟨w.heap.size + 1, 0, none⟩) (by simp)).trans bN.cell) hi
  rw [List.append_toArray]
  exact h

set_option maxHeartbeats 400000 in
theorem xor_ok {A A' : Option Addr} {n c c' B : Nat} {xs ys : List Int} {w : World} (hI : Rd .u8 w B A n xs) (hI' : Rd .u8 w B A' n ys) (hB : B ≤ w.heap.size) (hx : Bits xs) (hy : Bits ys) (hv : (validB xs && validB ys) = true) (hn : n ≤ 140737488351232) :
    Calls Try.prog 23 #[.slice A n c, .slice A' n c'] w (RetBytes 5 w (xorL xs ys, 0)) := by
  have eg := Lib.hid (enters_of Try.func38 (by kernel_rfl) rfl : ∀ args w, (callFunc 38 args).run Try.prog w = .ok (.enter 38 args) w)
  have hxb := Lib.hid hx; clear hx
  have hyb := Lib.hid hy; clear hy
  have hV := Lib.hid hv; clear hv
  have hne : ((n : Int) != (n : Int)) = false := by simp
  go_enter Try.func23, Try.ntmps23
  go_wp2
  refine wp_scope_forward 0 rfl ?_
  have hv2 := valid_two (c := c) (c' := c') hn hn ((hI.alloc hB (.cells #[.slice A n c] 22)).alloc (by simp; omega) (.cells #[.slice A' n c'] 22)) ((hI'.alloc hB (.cells #[.slice A n c] 22)).alloc (by simp; omega) (.cells #[.slice A' n c'] 22)) (by simp; omega)
  simp only [World.size_alloc] at hv2
  have hV2 := Lib.hid hv2; clear hv2
  go_wp2_with fail
  refine hV2.out.mono ?_
  rintro e w1 ⟨rfl, hb1⟩
  rw [hV.out]
  have hC := xor_calls hI hI' hB hb1
  have hca : w1.cell? ⟨w.heap.size, 0, none⟩ = some (.slice A n c) := (hb1.cell (p := ⟨w.heap.size, 0, none⟩) (by simp; omega)).trans ((Boxed.new w 22 (.slice A n c)).alloc _).cell
  go_wp2_with fail
  refine (lowBits8_any (by omega) _ (fun i _ => xor_range hxb.out hyb.out i) eg hC).mono ?_
  rintro e w2 ⟨rfl, hown, hb⟩
  rw [xorL_eq hI.len hxb.out hyb.out] at hown
  have HO := Lib.hid hown; clear hown
  have hs1 := hb1.size
  simp only [World.size_alloc] at hs1
  have hb2 := (below_two _ _).trans ((hb1.trans (hb.mono (by omega))).mono (by omega : w.heap.size ≤ w.heap.size + 1 + 1))
  go_wp2
  refine jump_ret ?_
  go_ret2
  exact RetBytes.mk_ (by rw [xorL_length, hI.len]) HO.out (by omega) hb2 rfl
theorem xor_arg {A A' : Option Addr} {n c n' c' : Nat} {w : World} (hne : ¬ n = n') :
    Calls Try.prog 23 #[.slice A n c, .slice A' n' c'] w (RetBytes 5 w ([], 2)) := by
  have hne' : ((n : Int) != (n' : Int)) = true := by simp; omega
  go_enter Try.func23, Try.ntmps23
  go_wp2
  refine wp_scope_forward 0 rfl ?_
  go_wp2_with fail
  go_step3
  refine ⟨rfl, ?_⟩
  go_wp2
  rw [Exit.noGoto_ret]
  go_ret2
  exact RetBytes.nil_ (below_two _ _)
theorem xor_bad {A A' : Option Addr} {n c c' B : Nat} {xs ys : List Int} {w : World} (hI : Rd .u8 w B A n xs) (hI' : Rd .u8 w B A' n ys) (hB : B ≤ w.heap.size) (hv : (validB xs && validB ys) = false) (hn : n ≤ 140737488351232) :
    Calls Try.prog 23 #[.slice A n c, .slice A' n c'] w (RetBytes 5 w ([], 3)) := by
  have hV := Lib.hid hv; clear hv
  have hne : ((n : Int) != (n : Int)) = false := by simp
  go_enter Try.func23, Try.ntmps23
  go_wp2
  refine wp_scope_forward 0 rfl ?_
  have hv2 := valid_two (c := c) (c' := c') hn hn ((hI.alloc hB (.cells #[.slice A n c] 22)).alloc (by simp; omega) (.cells #[.slice A' n c'] 22)) ((hI'.alloc hB (.cells #[.slice A n c] 22)).alloc (by simp; omega) (.cells #[.slice A' n c'] 22)) (by simp; omega)
  simp only [World.size_alloc] at hv2
  have hV2 := Lib.hid hv2; clear hv2
  go_wp2_with fail
  refine hV2.out.mono ?_
  rintro e w1 ⟨rfl, hb1⟩
  rw [hV.out]
  go_wp2
  go_step3
  refine ⟨rfl, ?_⟩
  go_wp2
  rw [Exit.noGoto_ret]
  go_ret2
  exact RetBytes.nil_ ((below_two _ _).trans (hb1.mono (by omega)))
theorem xor_any {A A' : Option Addr} {n c n' c' B : Nat} {xs ys : List Int} {w : World} (hI : Rd .u8 w B A n xs) (hI' : Rd .u8 w B A' n' ys) (hB : B ≤ w.heap.size) (hx : Byte xs) (hy : Byte ys) (hn : n ≤ 140737488351232) :
    Calls Try.prog 23 #[.slice A n c, .slice A' n' c'] w (RetBytes 5 w (xorS xs ys)) := by
  have hl := hI.len
  have hl' := hI'.len
  unfold xorS
  split
  · exact xor_arg (by omega)
  · obtain rfl : n = n' := by omega
    split
    · rename_i h; exact xor_bad hI hI' hB h hn
    · rename_i h
      have hv : (validB xs && validB ys) = true := by simpa using h
      have hv' := hv
      rw [Bool.and_eq_true] at hv'
      exact xor_ok hI hI' hB (validB_bits hx hv'.1) (validB_bits hy hv'.2) hv hn

/-! ### Uint -/
set_option maxHeartbeats 400000 in
theorem uint_any {A : Option Addr} {n c B : Nat} {xs : List Int} {w : World} (hI : Rd .u8 w B A n xs) (hB : B ≤ w.heap.size) (hx : Byte xs) (hn : n ≤ 140737488351232) :
    Calls Try.prog 21 #[.slice A n c] w fun e w' => e = .returned (.tuple #[.int .u64 (uintS xs).1, .int .i64 (uintS xs).2]) ∧ Below w.heap.size w w' := by
  have hv1 := valid_one (c := c) hn hI hB
  have hV1 := Lib.hid hv1; clear hv1
  have hl := hI.len
  by_cases hv : validB xs = true
  · have hV := Lib.hid hv
    have hbits := validB_bits hx hv
    clear hv
    by_cases h64 : n ≤ 64
    · have hU : Hid (uintS xs = (valueOf xs, 0)) := by unfold uintS; rw [if_neg (by rw [hV.out]; decide), if_neg (by omega)]; exact Lib.hid rfl
      have hL := Lib.hid hl; clear hl
      go_enter Try.func21, Try.ntmps21
      go_wp2
      refine wp_scope_forward 0 rfl ?_
      go_wp2_with fail
      refine hV1.out.mono ?_
      rintro e w1 ⟨rfl, hb1⟩
      rw [hV.out]
      have hI1 := hI.below' hb1 hB
      go_wp2_with fail
      refine (number_any hI1 h64 hbits).mono ?_
      rintro e w2 ⟨rfl, rfl⟩
      go_wp2
      refine jump_ret ?_
      go_ret2
      exact ⟨by rw [hU.out]; rfl, hb1⟩
    · have hU : Hid (uintS xs = (0, 4)) := by unfold uintS; rw [if_neg (by rw [hV.out]; decide), if_pos (by omega)]; exact Lib.hid rfl
      have hL := Lib.hid hl; clear hl
      go_enter Try.func21, Try.ntmps21
      go_wp2
      refine wp_scope_forward 0 rfl ?_
      go_wp2_with fail
      refine hV1.out.mono ?_
      rintro e w1 ⟨rfl, hb1⟩
      rw [hV.out]
      go_wp2_with fail
      go_step3
      refine ⟨rfl, ?_⟩
      go_wp2
      rw [Exit.noGoto_ret]
      go_ret2
      exact ⟨by rw [hU.out]; rfl, hb1⟩
  · have hv' : validB xs = false := by simpa using hv
    have hU : Hid (uintS xs = (0, 3)) := by unfold uintS; rw [if_pos hv']; exact Lib.hid rfl
    have hV := Lib.hid hv'
    clear hv hv'
    have hL := Lib.hid hl; clear hl
    go_enter Try.func21, Try.ntmps21
    go_wp2
    refine wp_scope_forward 0 rfl ?_
    go_wp2_with fail
    refine hV1.out.mono ?_
    rintro e w1 ⟨rfl, hb1⟩
    rw [hV.out]
    go_wp2_with fail
    go_step3
    refine ⟨rfl, ?_⟩
    go_wp2
    rw [Exit.noGoto_ret]
    go_ret2
    exact ⟨by rw [hU.out]; rfl, hb1⟩

/-! ### Distance -/
def distS (xs ys : List Int) : Int × Int := (weight (xorS xs ys).1, (xorS xs ys).2)
theorem dist_any {A A' : Option Addr} {n c n' c' B : Nat} {xs ys : List Int} {w : World} (hI : Rd .u8 w B A n xs) (hI' : Rd .u8 w B A' n' ys) (hB : B ≤ w.heap.size) (hx : Byte xs) (hy : Byte ys) (hn : n ≤ 140737488351232) :
    Calls Try.prog 25 #[.slice A n c, .slice A' n' c'] w fun e w' => e = .returned (.tuple #[.int .i64 (distS xs ys).1, .int .i64 (distS xs ys).2]) ∧ Below w.heap.size w w' := by
  have h1 := Lib.hid (xor_any (c := c) (c' := c') hI hI' hB hx hy hn)
  have hlen := xorS_len xs ys
  have hl := hI.len
  have hle : (xorS xs ys).1.length ≤ 140737488351232 := by omega
  clear hlen hl
  unfold distS
  generalize xorS xs ys = r at *
  go_enter Try.func25, Try.ntmps25
  go_wp2_with fail
  refine h1.out.mono ?_
  rintro e w1 ⟨A1, c1, rfl, hown, hb1⟩
  have hR := Rd.of_own hown
  have hO := Lib.hid hown; clear hown
  go_wp2_with fail
  refine (weight_any hle hR (Nat.le_refl _)).mono ?_
  rintro e w2 ⟨rfl, hb2⟩
  go_wp2
  go_ret2
  exact ⟨rfl, hb1.trans (hb2.mono hb1.size)⟩
end Go.Proofs.Ytdjnmebgiabecaa
