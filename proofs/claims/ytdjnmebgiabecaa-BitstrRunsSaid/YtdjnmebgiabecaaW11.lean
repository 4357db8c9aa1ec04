/-
  The reference's Xor and Pack: what each returns; what was there stays.
-/
import Derived.Test.YtdjnmebgiabecaaW9
import Derived.Test.YtdjnmebgiabecaaBits3
import Derived.StillTailTactics
import Derived.Deep.RegionHeld3
import Derived.Deep.AppendLies
namespace Go.Proofs.Ytdjnmebgiabecaa
open Go.RowKit

/-! ### the reference's Xor -/
set_option maxHeartbeats 1000000 in
theorem refXor_ok {A A' : Option Addr} {n c c' B : Nat} {xs ys : List Int} {w : World} (hI : Rd .u8 w B A n xs) (hI' : Rd .u8 w B A' n ys) (hB : B ≤ w.heap.size) (hx : Bits xs) (hy : Bits ys) (hvx : validB xs = true) (hvy : validB ys = true) (hn : n ≤ 140737488351232) :
    Calls Try.prog 24 #[.slice A n c, .slice A' n c'] w (RetBytes 5 w (xorL xs ys, 0)) := by
  obtain ⟨i0, hi, hz0, hz1, hz2⟩ := info_parts Try.info_u8
  have hV1 := Lib.hid (refValid_any (c := c) hI hn)
  have hV2 := Lib.hid (refValid_any (c := c') hI' hn)
  have hvX := Lib.hid hvx; clear hvx
  have hvY := Lib.hid hvy; clear hvy
  have hbx := Lib.hid hx; clear hx
  have hby := Lib.hid hy; clear hy
  have hL := Lib.hid hI.len
  have hne : ((n : Int) != (n : Int)) = false := by simp
  go_enter Try.func24, Try.ntmps24
  go_wp2_with fail
  refine hV1.out.mono ?_
  rintro e w1 ⟨rfl, rfl⟩
  rw [hvX.out]
  go_wp2_with fail
  refine hV2.out.mono ?_
  rintro e w1 ⟨rfl, rfl⟩
  rw [hvY.out]
  go_wp2_with fail
  go_loopw [6, 7] (fun p i wr => ∃ (k : Nat) (A1 : Option Addr) (c1 : Nat), k ≤ n ∧ i = .int .i64 k ∧ p = .slice A1 k c1 ∧ wr.ownsRow w.heap.size 5 1 (.slice A1 k c1) k (((xorL xs ys).take k).map (Value.int .u8)) ∧ Below w.heap.size w wr)
    (fun _ i _ => n - (intOf i).toNat)
  case atStart => exact ⟨0, none, 0, Nat.zero_le _, rfl, rfl, by simpa using World.ownsRow_nil w w.heap.size 5 1, Below.refl _ _⟩
  case round =>
    obtain ⟨k, A1, c1, hk, rfl, rfl, hown, hB1⟩ := hrel
    by_cases hlt : k < n
    · have hO := Lib.hid hown; clear hown
      obtain ⟨b, off, rfl, _, hcell⟩ := (hI.below' hB1 hB).cells k hlt
      obtain ⟨b', off', rfl, _, hcell'⟩ := (hI'.below' hB1 hB).cells k hlt
      have hx0 := bits_range hbx.out k
      have hy0 := bits_range hby.out k
      have hval := Lib.hid (row_take (g := fun i => (xs[i]?.getD 0 + ys[i]?.getD 0) % 2) (n := n) hlt rfl)
      generalize xs[k]?.getD 0 = x at hx0 hcell hval
      generalize ys[k]?.getD 0 = y at hy0 hcell' hval
      have hs1 : IntKind.u8.wrap (x + y) = x + y := IntWalk.u8_in _ (by omega)
      have hs2 : (x + y).tmod 2 = (x + y) % 2 := IntWalk.rem_in _ _ (by omega)
      have hs3 : IntKind.u8.wrap ((x + y) % 2) = (x + y) % 2 := IntWalk.u8_in _ (by omega)
      have hbw : b < w.heap.size := by omega
      have hbw' : b' < w.heap.size := by omega
      have hsz := hB1.size
      have hbn : some b ≠ (Value.slice A1 k c1).ownBlock := fun e => by have := (hO.out.lt b e.symm).1; omega
      have hbn' : some b' ≠ (Value.slice A1 k c1).ownBlock := fun e => by have := (hO.out.lt b' e.symm).1; omega
      have hk0 : (0 : Int) ≤ (k : Int) := by omega
      have hk1 : (k : Int) < (n : Int) := by omega
      go_wp2
      go_region_held3 (fun w' => w'.cell? ⟨b, off + k, none⟩ = some (.int .u8 x) ∧ w'.cell? ⟨b', off' + k, none⟩ = some (.int .u8 y))
        (first
          | go_keep
          | (go_split_ands
             refine ⟨?_, ?_⟩
             · (rw [hgrow.cell_far _ (by simp; omega) hbn]; assumption)
             · (rw [hgrow.cell_far _ (by simp; omega) hbn']; assumption)))
        ((refine step_append_lies _ (by rfl) _ _ _ (by rfl) w.heap.size 5 i0 _ 1 1 Try.underlying22 hi hz0 hz1 hz2 rfl (by omega) (.slice A1 k c1) k _ (by rfl) ((hO.out.alloc _).drew)
              ⟨wr.heap.size, 0, none⟩ 1 1 [.int .u8 ((x + y) % 2)] (by rfl) (by rfl) (World.news_of_block (cs := #[.int .u8 ((x + y) % 2)]) (t := 5) (fr := (0, 0)) (heap_alloc_new wr _)) (by simp [Value.oneCell'])
              (by omega) (by unfold maxLen; omega) (by omega) (by simp; omega) (wr.heap.size + 1) (by simp) ?_; intro gg cap w3 hown3 hgrow hat hlt3))
      have hB3 : Below w.heap.size w w3 := (hB1.alloc hB1.size _).drew.grown hgrow (by simp; omega) (fun g hg => (hO.out.lt g hg).1)
      have hval' := hval.out
      rw [hL.out.symm] at hval'
      rw [show (List.range xs.length).map (fun i => (xs[i]?.getD 0 + ys[i]?.getD 0) % 2) = xorL xs ys from rfl] at hval'
      rw [hval'] at hown3
      have hO3 := Lib.hid hown3; clear hown3 hval'
      go_wp2
      go_roundw
      case rel => exact ⟨k + 1, some ⟨gg, 0, none⟩, cap, by omega, by go_num, rfl, hO3.out, hB3⟩
      case measure => simp [intOf]; omega
    · obtain rfl : k = n := by omega
      rw [List.take_of_length_le (by rw [xorL_length, hL.out]; exact Nat.le_refl _)] at hown
      have hO := Lib.hid hown; clear hown
      go_wp2
      go_ret2
      exact RetBytes.mk_ (by rw [xorL_length, hL.out]) hO.out (Nat.le_refl _) hB1 rfl
theorem refXor_any {A A' : Option Addr} {n c n' c' B : Nat} {xs ys : List Int} {w : World} (hI : Rd .u8 w B A n xs) (hI' : Rd .u8 w B A' n' ys) (hB : B ≤ w.heap.size) (hx : Byte xs) (hy : Byte ys) (hn : n ≤ 140737488351232) :
    Calls Try.prog 24 #[.slice A n c, .slice A' n' c'] w (RetBytes 5 w (xorS xs ys)) := by
  have hl := hI.len
  have hl' := hI'.len
  unfold xorS
  split
  · have hne : ((n : Int) != (n' : Int)) = true := by simp; omega
    clear hl hl'
    go_enter Try.func24, Try.ntmps24
    go_wp2_with fail
    go_ret2
    exact RetBytes.nil_ (Below.refl _ _)
  · obtain rfl : n = n' := by omega
    split
    · rename_i h
      have hV1 := Lib.hid (refValid_any (c := c) hI hn)
      have hV2 := Lib.hid (refValid_any (c := c') hI' hn)
      have hne : ((n : Int) != (n : Int)) = false := by simp
      clear hl hl'
      by_cases hvx : validB xs = true
      · have hvy : validB ys = false := by rw [hvx] at h; simpa using h
        have hX := Lib.hid hvx
        have hY := Lib.hid hvy
        clear h hvx hvy
        go_enter Try.func24, Try.ntmps24
        go_wp2_with fail
        refine hV1.out.mono ?_
        rintro e w1 ⟨rfl, rfl⟩
        rw [hX.out]
        go_wp2_with fail
        refine hV2.out.mono ?_
        rintro e w1 ⟨rfl, rfl⟩
        rw [hY.out]
        go_wp2_with fail
        go_ret2
        exact RetBytes.nil_ (Below.refl _ _)
      · have hX : Hid (validB xs = false) := Lib.hid (by simpa using hvx)
        clear h hvx
        go_enter Try.func24, Try.ntmps24
        go_wp2_with fail
        refine hV1.out.mono ?_
        rintro e w1 ⟨rfl, rfl⟩
        rw [hX.out]
        go_wp2_with fail
        go_ret2
        exact RetBytes.nil_ (Below.refl _ _)
    · rename_i h
      have hv : (validB xs && validB ys) = true := by simpa using h
      rw [Bool.and_eq_true] at hv
      exact refXor_ok hI hI' hB (validB_bits hx hv.1) (validB_bits hy hv.2) hv.1 hv.2 hn

/-! ### the reference's Pack -/
set_option maxHeartbeats 1000000 in
theorem refPack_ok {A : Option Addr} {n c B : Nat} {xs : List Int} {w : World} (hI : Rd .u8 w B A n xs) (hB : B ≤ w.heap.size) (hx : Byte xs) (hv : validB xs = true) (hn : n ≤ 140737488351232) :
    Calls Try.prog 12 #[.slice A n c] w (RetBytes 5 w (packL xs, 0)) := by
  have hV1 := Lib.hid (refValid_any (c := c) hI hn)
  have hbits := Lib.hid (validB_bits hx hv)
  have hV := Lib.hid hv; clear hv hx
  have hL := Lib.hid hI.len
  obtain ⟨N, hN⟩ : ∃ N, (n + 7) / 8 = N := ⟨_, rfl⟩
  have hN' := Lib.hid hN
  have hNle : N ≤ 140737488351232 := by omega
  have hmk : ∀ u : World, (Instr.makeSlice 22 (.int .i64 (((n : Int) + 7) / 8)) (.int .i64 (((n : Int) + 7) / 8))).run Try.prog u = .ok (.slice (some ⟨u.heap.size, 0, none⟩) N N) (u.alloc (.cells (madeCells #[.int .u8 0] N) 5)) := fun u => by
    have h := make_bytes N N (Nat.le_refl _) hNle u
    rw [show (N : Int) = ((n : Int) + 7) / 8 from by omega] at h
    exact h
  clear hN
  go_enter Try.func12, Try.ntmps12
  go_wp2_with fail
  refine hV1.out.mono ?_
  rintro e w1 ⟨rfl, rfl⟩
  rw [hV.out]
  go_wp2_with fail
  go_loopw [5] (fun i wr => ∃ k : Nat, k ≤ n ∧ i = .int .i64 k ∧ wr.ownsRow w.heap.size 5 1 (.slice (some ⟨w.heap.size, 0, none⟩) N N) N ((packPart xs N k).map (Value.int .u8)) ∧ Below w.heap.size w wr)
    (fun i _ => n - (intOf i).toNat)
  case atStart => exact ⟨0, Nat.zero_le _, rfl, by rw [packPart_zero]; exact own_zeros (Nat.le_refl _) hNle (Nat.le_refl _), (Below.refl _ w).alloc (Nat.le_refl _) _⟩
  case round =>
    obtain ⟨k, hk, rfl, hown, hB1⟩ := hrel
    by_cases hlt : k < n
    · obtain ⟨b, off, rfl, _, hcell⟩ := (hI.below' hB1 hB).cells k hlt
      have hS := Lib.hid (packPart_succ xs N k (by rw [hL.out]; exact hlt))
      by_cases h1 : xs[k]?.getD 0 = 1
      · have h8 : k / 8 < N := by have := hN'.out; omega
        have hc0 : wr.cell? ⟨w.heap.size, k / 8, none⟩ = some (.int .u8 (byteAt (xs.take k) (k / 8))) := by
          rw [hown.cellAt (k / 8) (by omega)]
          simp [packPart, h8]
        have hf0 := hown.frozenAt (k / 8)
        have hr0 := byteAt_range (hbits.out.take k) (k / 8)
        have hr1 := byteAt_range (hbits.out.take (k + 1)) (k / 8)
        have hbs := byteAt_succ xs k (k / 8) (by rw [hL.out]; exact hlt)
        rw [if_pos rfl, h1] at hbs
        have hST := Lib.hid (hown.stored (k / 8) (.int .u8 (byteAt (xs.take (k + 1)) (k / 8))))
        have hvv := pack_step hr1 hbs
        clear hbs
        generalize byteAt (xs.take (k + 1)) (k / 8) = p' at hr1 hST hvv hS
        generalize byteAt (xs.take k) (k / 8) = p at hc0 hr0 hvv
        have hd0 : (0 : Int) ≤ (k : Int) / 8 := by omega
        have hd1 : (k : Int) / 8 < (N : Int) := by omega
        have hd2 : (0 : Int) ≤ 7 - (k : Int) % 8 := by omega
        have hd3 : IntKind.i64.wrap ((k : Int) / 8) = (k : Int) / 8 := IntWalk.i64_in _ (by omega)
        have hd4 : (k : Int).tmod 8 = (k : Int) % 8 := IntWalk.rem_in _ _ (by omega)
        have hd5 : IntKind.i64.wrap (7 - (k : Int) % 8) = 7 - (k : Int) % 8 := IntWalk.i64_in _ (by omega)
        have hd6 : IntKind.i64.wrap ((k : Int) % 8) = (k : Int) % 8 := IntWalk.i64_in _ (by omega)
        have hd7 : ((k : Int) / 8).toNat = k / 8 := by omega
        go_wp2
        go_still_tail 14, (by kernel_rfl)
        change wpList _ _ _ _ _ wr.drew
        go_wp2
        go_roundw
        case rel =>
          have hO3 : (wr.setCell ⟨w.heap.size, k / 8, none⟩ (.int .u8 p')).drew.ownsRow w.heap.size 5 1 (.slice (some ⟨w.heap.size, 0, none⟩) N N) N ((packPart xs N (k + 1)).map (Value.int .u8)) := by
            rw [hS.out, if_neg (by omega), List.map_set]
            exact hST.out.1
          have hB3 : Below w.heap.size w (wr.setCell ⟨w.heap.size, k / 8, none⟩ (.int .u8 p')).drew := (hB1.setCell (p := ⟨w.heap.size, k / 8, none⟩) (Nat.le_refl _) _).drew
          exact ⟨k + 1, by omega, by go_num, hO3, hB3⟩
        case measure => simp [intOf]; omega
      · have h0 : xs[k]?.getD 0 = 0 := by have := bits_nonneg hbits.out k; omega
        have hO := Lib.hid hown; clear hown
        go_wp2
        go_roundw
        case rel => exact ⟨k + 1, by omega, by go_num, by rw [hS.out, if_pos h0]; exact hO.out, hB1⟩
        case measure => simp [intOf]; omega
    · obtain rfl : k = n := by omega
      have hO := Lib.hid hown; clear hown
      go_wp2_with fail
      go_ret2
      have hO2 := hO.out
      rw [packPart_full hL.out hN'.out] at hO2
      exact RetBytes.mk_ (by rw [packL_length, hL.out, hN'.out]) hO2 (Nat.le_refl _) hB1 rfl
theorem refPack_any {A : Option Addr} {n c B : Nat} {xs : List Int} {w : World} (hI : Rd .u8 w B A n xs) (hB : B ≤ w.heap.size) (hx : Byte xs) (hn : n ≤ 140737488351232) :
    Calls Try.prog 12 #[.slice A n c] w (RetBytes 5 w (packS xs)) := by
  unfold packS
  split
  · rename_i h
    have hV1 := Lib.hid (refValid_any (c := c) hI hn)
    have hX := Lib.hid h
    clear h
    go_enter Try.func12, Try.ntmps12
    go_wp2_with fail
    refine hV1.out.mono ?_
    rintro e w1 ⟨rfl, rfl⟩
    rw [hX.out]
    go_wp2_with fail
    go_ret2
    exact RetBytes.nil_ (Below.refl _ _)
  · rename_i h; exact refPack_ok hI hB hx (by simpa using h) hn
end Go.Proofs.Ytdjnmebgiabecaa
