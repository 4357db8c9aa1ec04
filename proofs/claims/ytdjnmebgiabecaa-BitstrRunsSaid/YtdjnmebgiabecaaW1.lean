/-
  The reference's Valid, Weight and Uint, the law's num and same, bitstr's number: what each returns; the world stays as it was.
-/
import Derived.Test.YtdjnmebgiabecaaBits
import Derived.Test.YtdjnmebgiabecaaProg
import Derived.WalkKit
namespace Go.Proofs.Ytdjnmebgiabecaa
open Go.RowKit

theorem num_any (k : Int) (w : World) : Calls Try.prog 18 #[.int .i64 k] w fun e w' => e = .returned (.int .i64 k) ∧ w = w' := by
  go_enter Try.func18, Try.ntmps18
  go_wp2
  go_ret
  exact ⟨rfl, rfl⟩

theorem refValid_any {A : Option Addr} {n c B : Nat} {xs : List Int} {w : World} (h : Rd .u8 w B A n xs) (hn : n ≤ 140737488351232) :
    Calls Try.prog 16 #[.slice A n c] w fun e w' => e = .returned (.bool (validB xs)) ∧ w = w' := by
  have hl := Lib.hid h.len
  go_enter Try.func16, Try.ntmps16
  go_wp2
  go_loop [3] (fun i => ∃ k : Nat, k ≤ n ∧ i = .int .i64 k ∧ validB (xs.take k) = true) (fun i => n - (intOf i).toNat)
  case atStart => exact ⟨0, Nat.zero_le _, rfl, rfl⟩
  case round =>
    obtain ⟨k, hk, rfl, hv⟩ := hrel
    have hV := Lib.hid hv; clear hv
    by_cases hlt : k < n
    · obtain ⟨b, off, rfl, _, hc⟩ := h.cells k hlt
      have hS := Lib.hid (take_snoc xs k (by rw [hl.out]; exact hlt) 0)
      go_wp2
      · go_ret
        have hx : 1 < xs[k]?.getD 0 := by assumption
        refine ⟨ret_bool (Eq.symm ?_), rfl⟩
        have : validB (xs.take (k + 1)) = false := by rw [hS.out, validB_snoc]; simp; intro _; exact hx
        exact validB_prefix this
      · go_round
        case rel => exact ⟨k + 1, by omega, by go_num, by rw [hS.out, validB_snoc, hV.out]; simp; omega⟩
        case measure => simp [intOf]; omega
    · obtain rfl : k = n := by omega
      go_wp2
      go_ret
      rw [← hl.out, List.take_length] at hV
      exact ⟨ret_bool hV.out.symm, rfl⟩

theorem refWeight_any {A : Option Addr} {n c B : Nat} {xs : List Int} {w : World} (h : Rd .u8 w B A n xs) (hn : n ≤ 140737488351232) :
    Calls Try.prog 26 #[.slice A n c] w fun e w' => e = .returned (.int .i64 (weight xs)) ∧ w = w' := by
  have hl := Lib.hid h.len
  go_enter Try.func26, Try.ntmps26
  go_wp2
  go_loop [3, 4] (fun s i => ∃ k : Nat, k ≤ n ∧ i = .int .i64 k ∧ s = .int .i64 (weight (xs.take k))) (fun _ i => n - (intOf i).toNat)
  case atStart => exact ⟨0, Nat.zero_le _, rfl, rfl⟩
  case round =>
    obtain ⟨k, hk, rfl, rfl⟩ := hrel
    have hw := weight_le (xs.take k)
    have hwl : (xs.take k).length ≤ k := List.length_take_le _ _
    by_cases hlt : k < n
    · obtain ⟨b, off, rfl, _, hc⟩ := h.cells k hlt
      have hS := Lib.hid (take_snoc xs k (by rw [hl.out]; exact hlt) 0)
      by_cases hx : xs[k]?.getD 0 = 1
      all_goals
        go_wp2
        go_round
        case rel => exact ⟨k + 1, by omega, by go_num, by rw [hS.out, weight_snoc]; first | rw [if_pos hx] | (rw [if_neg hx]; simp)⟩
        case measure => simp [intOf]; omega
    · obtain rfl : k = n := by omega
      go_wp2
      go_ret
      exact ⟨ret_int (by rw [← hl.out, List.take_length]), rfl⟩

theorem same_any {A A' : Option Addr} {n c n' c' B B' : Nat} {xs ys : List Int} {w : World} (h : Rd .u8 w B A n xs) (h' : Rd .u8 w B' A' n' ys) (hx : Byte xs) (hy : Byte ys) :
    Calls Try.prog 17 #[.slice A n c, .slice A' n' c'] w fun e w' => e = .returned (.bool (decide (xs = ys))) ∧ w = w' := by
  have c1 := h.convert (P := Try.prog) Try.underlying22 Try.underlying5 c
  have c2 := h'.convert (P := Try.prog) Try.underlying22 Try.underlying5 c'
  have k1 := c1 9 Try.underlying9
  have k2 := c2 9 Try.underlying9
  clear c1 c2
  go_enter Try.func17, Try.ntmps17
  go_wp2
  go_ret
  refine ⟨ret_bool ?_, rfl⟩
  rw [ByteArray.toList_eq, ByteArray.toList_eq]
  by_cases e : xs = ys
  · subst e; simp
  · rw [decide_eq_false e, beq_eq_false_iff_ne]
    intro h3
    refine e (strOfNums_inj hx hy ?_)
    show ByteArray.mk _ = ByteArray.mk _
    exact congrArg ByteArray.mk (Array.toList_inj.1 h3)

theorem number_any {A : Option Addr} {n c B : Nat} {xs : List Int} {w : World} (h : Rd .u8 w B A n xs) (hn : n ≤ 64) (hb : Bits xs) :
    Calls Try.prog 33 #[.slice A n c] w fun e w' => e = .returned (.int .u64 (valueOf xs)) ∧ w = w' := by
  have hl := Lib.hid h.len
  go_enter Try.func33, Try.ntmps33
  go_wp2
  go_loop [3, 8] (fun s i => ∃ k : Nat, k ≤ n ∧ i = .int .i64 k ∧ s = .int .u64 (valueOf (xs.take k))) (fun _ i => n - (intOf i).toNat)
  case atStart => exact ⟨0, Nat.zero_le _, rfl, rfl⟩
  case round =>
    obtain ⟨k, hk, rfl, rfl⟩ := hrel
    by_cases hlt : k < n
    · obtain ⟨b, off, rfl, _, hc⟩ := h.cells k hlt
      have hS := Lib.hid (number_step' hb hl.out hn hlt)
      go_wp2
      go_round
      case rel => exact ⟨k + 1, by omega, by go_num, by rw [hS.out]⟩
      case measure => simp [intOf]; omega
    · obtain rfl : k = n := by omega
      go_wp2
      go_ret
      exact ⟨ret_int (by rw [← hl.out, List.take_length]), rfl⟩

end Go.Proofs.Ytdjnmebgiabecaa
