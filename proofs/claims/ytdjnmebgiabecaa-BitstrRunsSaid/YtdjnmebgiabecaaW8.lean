/-
  The reference's Unpack, FromUint, Uint, Xor, Pack, the law's low: what each returns; what was there stays.
-/
import Derived.Test.YtdjnmebgiabecaaW7
namespace Go.Proofs.Ytdjnmebgiabecaa
open Go.RowKit

set_option maxHeartbeats 400000 in
theorem low_any {A : Option Addr} {n c m B : Nat} {xs : List Int} {w : World} (hI : Rd .u8 w B A n xs) (hB : B ≤ w.heap.size) (hx : Byte xs) (hm : m ≤ n) (hn : m ≤ 140737488351232) :
    Calls Try.prog 31 #[.slice A n c, .int .i64 m] w fun e w' => e = .returned (.slice (some ⟨w.heap.size, 0, none⟩) m m) ∧
      w'.ownsRow w.heap.size 5 1 (.slice (some ⟨w.heap.size, 0, none⟩) m m) m ((lowL xs m).map (Value.int .u8)) ∧ Below w.heap.size w w' := by
  have hmk := make_bytes m m (Nat.le_refl _) (by omega)
  go_enter Try.func31, Try.ntmps31
  go_wp2
  go_loopw [6] (fun i wr => ∃ k : Nat, k ≤ m ∧ i = .int .i64 k ∧ wr.ownsRow w.heap.size 5 1 (.slice (some ⟨w.heap.size, 0, none⟩) m m) m ((fillL (fun i => xs[i]?.getD 0 % 2) m k).map (Value.int .u8)) ∧ Below w.heap.size w wr)
    (fun i _ => m - (intOf i).toNat)
  case atStart => exact ⟨0, Nat.zero_le _, rfl, by rw [fillL_zero]; exact own_zeros (Nat.le_refl _) (by omega) (Nat.le_refl _), (Below.refl _ w).alloc (Nat.le_refl _) _⟩
  case round =>
    obtain ⟨k, hk, rfl, hown, hB1⟩ := hrel
    by_cases hlt : k < m
    · have hc0 : wr.cell? ⟨w.heap.size, k, none⟩ = some (.int .u8 ((fillL (fun i => xs[i]?.getD 0 % 2) m k)[k]?.getD 0)) := by
        rw [hown.cellAt k (by omega)]
        simp [fillL_length, hlt]
      have hf0 := hown.frozenAt k
      have hST := Lib.hid (hown.stored k (.int .u8 (xs[k]?.getD 0 % 2)))
      obtain ⟨b, off, rfl, _, hcell⟩ := (hI.below' hB1 hB).cells k (by omega)
      have hbk := hx k
      go_wp2
      go_roundw
      case rel => exact ⟨k + 1, by omega, by go_num, by rw [← fillL_succ, List.map_set]; exact hST.out.1, hB1.setCell (p := ⟨w.heap.size, k, none⟩) (Nat.le_refl _) _⟩
      case measure => simp [intOf]; omega
    · obtain rfl : k = m := by omega
      go_wp2
      go_ret
      exact ⟨rfl, by unfold lowL; rw [← fillL_full]; exact hown, hB1⟩

/-! ### the reference's Unpack -/
set_option maxHeartbeats 1000000 in
theorem refUnpack_ok {A : Option Addr} {n c B m : Nat} {xs : List Int} {w : World} (hI : Rd .u8 w B A n xs) (hB : B ≤ w.heap.size) (hx : Byte xs) (hn : n ≤ 140737488351232) (hm : m ≤ 8 * n) (hm2 : m ≤ 140737488351232) :
    Calls Try.prog 14 #[.slice A n c, .int .i64 m] w (RetBytes 5 w (unpackL xs m, 0)) := by
  obtain ⟨i0, hi, hz0, hz1, hz2⟩ := info_parts Try.info_u8
  have hd1 : decide ((n : Int) < (m : Int) / 8) = false := by simp; omega
  have hxb := Lib.hid hx; clear hx
  by_cases he : m / 8 = n
  all_goals
    first | (have hd2 : ((m : Int) / 8 == (n : Int)) = true := by simp; omega
             have hd3 : decide (0 < (m : Int) % 8) = false := by simp; omega) | (have hd2 : ((m : Int) / 8 == (n : Int)) = false := by simp; omega)
    go_enter Try.func14, Try.ntmps14
    go_wp2
    go_loopw [6, 7] (fun p i wr => ∃ (k : Nat) (A1 : Option Addr) (c1 : Nat), k ≤ m ∧ i = .int .i64 k ∧ p = .slice A1 k c1 ∧ wr.ownsRow w.heap.size 5 1 (.slice A1 k c1) k (((unpackL xs m).take k).map (Value.int .u8)) ∧ Below w.heap.size w wr)
      (fun _ i _ => m - (intOf i).toNat)
    case atStart => exact ⟨0, none, 0, Nat.zero_le _, rfl, rfl, by simpa using World.ownsRow_nil w w.heap.size 5 1, Below.refl _ _⟩
    case round =>
      obtain ⟨k, A1, c1, hk, rfl, rfl, hown, hB1⟩ := hrel
      by_cases hlt : k < m
      · have hO := Lib.hid hown; clear hown
        obtain ⟨b, off, rfl, _, hcell⟩ := (hI.below' hB1 hB).cells (k / 8) (by omega)
        have hbk := shr_byte hxb.out (k / 8) (7 - k % 8)
        go_wp2_with (at_builtin; refine wpList_append_own _ rfl _ _ 22 rfl w.heap.size 5 i0 (.int .u8 0) 1 1 Try.underlying22 hi hz0 hz1 hz2 rfl (by decide) _ _ _ rfl (hO.out.alloc _) ⟨wr.heap.size, 0, none⟩ 1 1 [.int .u8 (xs[k / 8]?.getD 0 / 2 ^ (7 - k % 8) % 2)] rfl rfl (cell_one_new _ _ _) (by simp [Value.oneCell']) (by unfold maxLen; omega) (by omega) (by have := hB1.size; simp; omega) ?_; intro v3 w3 hown3 hgrow3 _; obtain ⟨g3, c3, rfl⟩ := ownsRow_succ hown3)
        have hB3 : Below w.heap.size w w3 := (hB1.alloc hB1.size _).grown hgrow3 (by have := hB1.size; simp; omega) (fun g hg => (hO.out.lt g hg).1)
        have hrow := row_take (g := fun i => xs[i / 8]?.getD 0 / 2 ^ (7 - i % 8) % 2) hlt rfl
        rw [show (List.range m).map (fun i => xs[i / 8]?.getD 0 / 2 ^ (7 - i % 8) % 2) = unpackL xs m from rfl] at hrow
        rw [hrow] at hown3
        have hO3 := Lib.hid hown3; clear hown3 hrow
        go_wp2
        go_roundw
        case rel => exact ⟨k + 1, some ⟨g3, 0, none⟩, c3, by omega, by go_num, rfl, hO3.out, hB3⟩
        case measure => simp [intOf]; omega
      · obtain rfl : k = m := by omega
        rw [List.take_of_length_le (by simp [unpackL])] at hown
        have hO := Lib.hid hown; clear hown
        go_wp2
        go_ret2
        exact RetBytes.mk_ (by simp [unpackL]) hO.out (Nat.le_refl _) hB1 rfl
end Go.Proofs.Ytdjnmebgiabecaa
