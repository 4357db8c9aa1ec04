/-
  The reference's Unpack (the other cases), FromUint, Uint, Xor: what each returns; what was there stays.
-/
import Derived.Test.YtdjnmebgiabecaaW8
namespace Go.Proofs.Ytdjnmebgiabecaa
open Go.RowKit

theorem refUnpack_arg {A : Option Addr} {n c : Nat} {m : Int} {w : World} (hm : m < 0) :
    Calls Try.prog 14 #[.slice A n c, .int .i64 m] w (RetBytes 5 w ([], 2)) := by
  go_enter Try.func14, Try.ntmps14
  go_wp2
  go_ret2
  exact RetBytes.nil_ (Below.refl _ w)
theorem refUnpack_short {A : Option Addr} {n c m : Nat} {w : World} (hm : 8 * n < m) (hm2 : m ≤ 9223372036854775807) :
    Calls Try.prog 14 #[.slice A n c, .int .i64 m] w (RetBytes 5 w ([], 5)) := by
  by_cases hd : n < m / 8
  · have hd1 : decide ((n : Int) < (m : Int) / 8) = true := by simp; omega
    go_enter Try.func14, Try.ntmps14
    go_wp2
    go_ret2
    exact RetBytes.nil_ (Below.refl _ w)
  · have hd1 : decide ((n : Int) < (m : Int) / 8) = false := by simp; omega
    have hd2 : ((m : Int) / 8 == (n : Int)) = true := by simp; omega
    have hd3 : decide (0 < (m : Int) % 8) = true := by simp; omega
    go_enter Try.func14, Try.ntmps14
    go_wp2
    go_ret2
    exact RetBytes.nil_ (Below.refl _ w)
theorem refUnpack_any {A : Option Addr} {n c B : Nat} {m : Int} {xs : List Int} {w : World} (hI : Rd .u8 w B A n xs) (hB : B ≤ w.heap.size) (hx : Byte xs) (hn : n ≤ 17592186043904) (hm : m ≤ 9223372036854775807) :
    Calls Try.prog 14 #[.slice A n c, .int .i64 m] w (RetBytes 5 w (unpackS xs m)) := by
  have hl := hI.len
  unfold unpackS
  split
  · rename_i h; exact refUnpack_arg h
  · rename_i h
    obtain ⟨k, rfl⟩ := Int.eq_ofNat_of_zero_le (show 0 ≤ m by omega)
    rw [Int.toNat_natCast]
    split
    · rename_i h'; exact refUnpack_short (by omega) (by omega)
    · rename_i h'; exact refUnpack_ok hI hB hx (by omega) (by omega) (by omega)

/-! ### the reference's FromUint -/
theorem refFromUint_arg {v n : Int} {w : World} (hn : n < 0 ∨ 64 < n) :
    Calls Try.prog 20 #[.int .u64 v, .int .i64 n] w (RetBytes 5 w ([], 2)) := by
  rcases hn with hn | hn
  all_goals
    go_enter Try.func20, Try.ntmps20
    go_wp2
    go_ret2
    exact RetBytes.nil_ (Below.refl _ w)
set_option maxHeartbeats 1000000 in
theorem refFromUint_run {v : Int} {n : Nat} {w : World} (hv : 0 ≤ v ∧ v < 18446744073709551616) (hn : n ≤ 64) :
    Calls Try.prog 20 #[.int .u64 v, .int .i64 n] w (RetBytes 5 w (fromUintR v n)) := by
  have hmk := make_bytes n n (Nat.le_refl _) (by omega)
  have hvb := Lib.hid hv
  clear hv
  go_enter Try.func20, Try.ntmps20
  go_wp2
  all_goals
    go_loopw [0, 7] (fun u i wr => ∃ k : Nat, k ≤ n ∧ i = .int .i64 ((k : Int) - 1) ∧ u = .int .u64 (v / 2 ^ (n - k)) ∧ wr.ownsRow w.heap.size 5 1 (.slice (some ⟨w.heap.size, 0, none⟩) n n) n ((fillR (fun i => v / 2 ^ (n - 1 - i) % 2) n k).map (Value.int .u8)) ∧ Below w.heap.size w wr)
      (fun _ i _ => (intOf i + 1).toNat)
    case atStart => exact ⟨n, Nat.le_refl _, rfl, by simp, by rw [fillR_zero]; exact own_zeros (Nat.le_refl _) (by omega) (Nat.le_refl _), (Below.refl _ w).alloc (Nat.le_refl _) _⟩
    case round =>
      obtain ⟨k, hk, rfl, rfl, hown, hB1⟩ := hrel
      have hq := Lib.hid (shr_range hvb.out (n - k))
      have hq0 := hq.out.1
      have hq1 : v / 2 ^ (n - k) ≤ 18446744073709551615 := by have := hq.out.2; omega
      rcases k with _ | k
      · have hO := Lib.hid hown; clear hown
        simp only [Nat.sub_zero] at hq hq0 hq1 ⊢
        by_cases hz : v / 2 ^ n = 0
        · have hz' : decide (0 < v / 2 ^ n) = false := by simp; omega
          have HZ := Lib.hid hz; clear hz
          go_wp2
          go_ret2
          unfold fromUintR
          rw [if_neg (by simp [HZ.out])]
          have hO2 := hO.out
          rw [fillR_full] at hO2
          exact RetBytes.mk_ (by simp [fromUintL]) hO2 (Nat.le_refl _) hB1 rfl
        · have hz' : decide (0 < v / 2 ^ n) = true := by simp; omega
          have HZ := Lib.hid hz; clear hz
          go_wp2
          go_ret2
          unfold fromUintR
          rw [if_pos HZ.out]
          exact RetBytes.nil_ hB1
      · have hc0 : wr.cell? ⟨w.heap.size, k, none⟩ = some (.int .u8 ((fillR (fun i => v / 2 ^ (n - 1 - i) % 2) n (k + 1))[k]?.getD 0)) := by
          rw [hown.cellAt k (by omega)]
          have : k < n := by omega
          simp [fillR_length, this]
        have hf0 := hown.frozenAt k
        have hST := Lib.hid (hown.stored k (.int .u8 (v / 2 ^ (n - 1 - k) % 2)))
        have hH := Lib.hid (halves v (n - (k + 1)))
        rw [show n - (k + 1) + 1 = n - k from by omega, show n - (k + 1) = n - 1 - k from by omega] at hH
        have hE : n - (k + 1) = n - 1 - k := by omega
        rw [hE] at hq0 hq1
        go_wp2
        go_roundw
        case rel =>
          refine ⟨k, by omega, by go_num, by rw [hH.out], ?_, hB1.setCell (p := ⟨w.heap.size, k, none⟩) (Nat.le_refl _) _⟩
          rw [← fillR_pred, List.map_set]
          exact hST.out.1
        case measure => simp [intOf]
theorem refFromUint_any {v n : Int} {w : World} (hv : 0 ≤ v ∧ v < 18446744073709551616) :
    Calls Try.prog 20 #[.int .u64 v, .int .i64 n] w (RetBytes 5 w (fromUintS v n)) := by
  unfold fromUintS
  split
  · rename_i h; exact refFromUint_arg h
  · rename_i h
    obtain ⟨m, rfl⟩ := Int.eq_ofNat_of_zero_le (show 0 ≤ n by omega)
    rw [Int.toNat_natCast]
    exact refFromUint_run hv (by omega)

/-! ### the reference's Uint -/
set_option maxHeartbeats 400000 in
theorem refUint_any {A : Option Addr} {n c B : Nat} {xs : List Int} {w : World} (hI : Rd .u8 w B A n xs) (hx : Byte xs) (hn : n ≤ 140737488351232) :
    Calls Try.prog 22 #[.slice A n c] w fun e w' => e = .returned (.tuple #[.int .u64 (uintS xs).1, .int .i64 (uintS xs).2]) ∧ w = w' := by
  have hV1 := Lib.hid (refValid_any (c := c) hI hn)
  have hl := hI.len
  by_cases hv : validB xs = true
  · have hV := Lib.hid hv
    have hbits := Lib.hid (validB_bits hx hv)
    clear hv hx
    by_cases h64 : n ≤ 64
    · have hU : Hid (uintS xs = (valueOf xs, 0)) := by unfold uintS; rw [if_neg (by rw [hV.out]; decide), if_neg (by omega)]; exact Lib.hid rfl
      have hL := Lib.hid hl; clear hl
      have hd : decide ((64 : Int) < (n : Int)) = false := by simp; omega
      go_enter Try.func22, Try.ntmps22
      go_wp2_with fail
      refine hV1.out.mono ?_
      rintro e w1 ⟨rfl, rfl⟩
      rw [hV.out]
      go_wp2_with fail
      go_loop [4, 5] (fun s i => ∃ k : Nat, k ≤ n ∧ i = .int .i64 k ∧ s = .int .u64 (valueOf (xs.take k))) (fun _ i => n - (intOf i).toNat)
      case atStart => exact ⟨0, Nat.zero_le _, rfl, rfl⟩
      case round =>
        obtain ⟨k, hk, rfl, rfl⟩ := hrel
        by_cases hlt : k < n
        · obtain ⟨b, off, rfl, _, hc⟩ := hI.cells k hlt
          have hS := Lib.hid (number_step2 hbits.out hL.out h64 hlt)
          have hb1 := bits_range hbits.out k
          have hv0 := hS.out.2.1
          have hv1 := hS.out.2.2
          go_wp2
          go_round
          case rel => exact ⟨k + 1, by omega, by go_num, by rw [hS.out.1]⟩
          case measure => simp [intOf]; omega
        · obtain rfl : k = n := by omega
          rw [← hL.out, List.take_length]
          go_wp2
          go_ret2
          exact ⟨by rw [hU.out]; rfl, rfl⟩
    · have hU : Hid (uintS xs = (0, 4)) := by unfold uintS; rw [if_neg (by rw [hV.out]; decide), if_pos (by omega)]; exact Lib.hid rfl
      have hL := Lib.hid hl; clear hl
      go_enter Try.func22, Try.ntmps22
      go_wp2_with fail
      refine hV1.out.mono ?_
      rintro e w1 ⟨rfl, rfl⟩
      rw [hV.out]
      go_wp2_with fail
      go_ret2
      exact ⟨by rw [hU.out]; rfl, rfl⟩
  · have hv' : validB xs = false := by simpa using hv
    have hU : Hid (uintS xs = (0, 3)) := by unfold uintS; rw [if_pos hv']; exact Lib.hid rfl
    have hV := Lib.hid hv'
    clear hv hv'
    have hL := Lib.hid hl; clear hl
    go_enter Try.func22, Try.ntmps22
    go_wp2_with fail
    refine hV1.out.mono ?_
    rintro e w1 ⟨rfl, rfl⟩
    rw [hV.out]
    go_wp2_with fail
    go_ret2
    exact ⟨by rw [hU.out]; rfl, rfl⟩

end Go.Proofs.Ytdjnmebgiabecaa
