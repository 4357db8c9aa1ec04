/-
  lowBits at its two types; what its callers hand it.
-/
import Derived.Test.YtdjnmebgiabecaaW3
import Derived.Laws.MakeOwn
import Derived.Deep.QuietTactic
import Derived.BigQuiet
namespace Go.Proofs.Ytdjnmebgiabecaa
open Go.RowKit

theorem Try.info_u8 : (Try.prog.info? 5).map (fun i => (i.zero, i.size, i.bytes)) = some (some (.int .u8 0), 1, 1) := by kernel_rfl

theorem make_bytes (n m : Nat) (hm : m ≤ n) (hn : n ≤ 140737488351232) (u : World) : (Instr.makeSlice 22 (.int .i64 m) (.int .i64 n)).run Try.prog u =
    .ok (.slice (some ⟨u.heap.size, 0, none⟩) m n) (u.alloc (.cells (madeCells #[.int .u8 0] n) 5)) := by
  obtain ⟨i0, hi, hz0, hz1, hz2⟩ := info_parts Try.info_u8
  have h := run_make (P := Try.prog) u 22 5 i0 (.int .u8 0) Try.underlying22 hi hz0 .i64 .i64 (m : Int) (n : Int) (by omega) (by omega) (by rw [hz2]; omega) (by omega)
  simpa [hz1, Value.cells] using h

/-- A new slice of n zeros is a row of the call's own. -/
theorem own_zeros {w : World} {B n m : Nat} (hB : B ≤ w.heap.size) (hn : n ≤ 140737488351232) (hm : m ≤ n) : (w.alloc (.cells (madeCells #[.int .u8 0] n) 5)).ownsRow B 5 1 (.slice (some ⟨w.heap.size, 0, none⟩) m n) m ((List.replicate m (0 : Int)).map (Value.int .u8)) := by
  refine ⟨by simp, .inr ⟨w.heap.size, n, madeCells #[.int .u8 0] n, rfl, hB, heap_alloc_new w _, hm, by unfold maxLen; omega, by simp [madeCells], ?_⟩⟩
  rw [toList_madeCells_one, Nat.mul_one, List.take_replicate, List.map_replicate, Nat.min_eq_left hm]

set_option maxHeartbeats 1000000 in
theorem lowBits8_any {f : Nat} {caps : Array Value} {n : Nat} {w : World} (hn : n ≤ 140737488351232) (g : Nat → Int) (hg : ∀ i, i < n → 0 ≤ g i ∧ g i ≤ 255)
    (eg : Hid (∀ args w, (callFunc f args).run Try.prog w = .ok (.enter f args) w))
    (hcall : Hid (∀ i W, i < n → Below w.heap.size w W → Calls Try.prog f (#[.int .i64 (i : Nat)] ++ caps) W fun e W' => e = .returned (.int .u8 (g i)) ∧ ∃ m, W' = W.drewN m)) :
    Calls Try.prog 34 #[.int .i64 n, .func (.func f) #[] caps] w fun e w' =>
      e = .returned (.slice (some ⟨w.heap.size, 0, none⟩) n n) ∧ w'.ownsRow w.heap.size 5 1 (.slice (some ⟨w.heap.size, 0, none⟩) n n) n (((List.range n).map fun i => g i % 2).map (Value.int .u8)) ∧ Below w.heap.size w w' := by
  have hmk := make_bytes n n (Nat.le_refl _) hn
  go_enter Try.func34, Try.ntmps34
  go_wp2
  go_loopw [11] (fun i wr => ∃ k : Nat, k ≤ n ∧ i = .int .i64 k ∧ wr.ownsRow w.heap.size 5 1 (.slice (some ⟨w.heap.size, 0, none⟩) n n) n ((fillL (fun i => g i % 2) n k).map (Value.int .u8)) ∧ Below w.heap.size w wr)
    (fun i _ => n - (intOf i).toNat)
  case atStart => exact ⟨0, Nat.zero_le _, rfl, by rw [fillL_zero]; exact own_zeros (Nat.le_refl _) hn (Nat.le_refl _), (Below.refl _ w).alloc (Nat.le_refl _) _⟩
  case round =>
    obtain ⟨k, hk, rfl, hown, hB⟩ := hrel
    by_cases hlt : k < n
    · have hc0 : wr.cell? ⟨w.heap.size, k, none⟩ = some (.int .u8 ((fillL (fun i => g i % 2) n k)[k]?.getD 0)) := by
        rw [hown.cellAt k (by omega)]
        simp [fillL_length, hlt]
      have hf0 := hown.frozenAt k
      have hst := hown.stored k (.int .u8 (g k % 2))
      have hgk := hg k hlt
      have hand := Lib.hid (and_one_u8 hgk.1 hgk.2)
      have hC := Lib.hid (hcall.out k wr hlt hB)
      have eg' := eg.out
      have hST := Lib.hid hst; clear hst
      go_wp2
      refine hC.out.mono ?_
      rintro e w1 ⟨rfl, m, rfl⟩
      go_wp2
      go_roundw
      case rel =>
        rw [hand.out]
        refine ⟨k + 1, by omega, by go_num, ?_, (below_drewN hB _).setCell (p := ⟨w.heap.size, k, none⟩) (Nat.le_refl _) _⟩
        rw [← fillL_succ, List.map_set]
        exact hST.out.1
      case measure => simp [intOf]; omega
    · obtain rfl : k = n := by omega
      go_wp2
      go_ret
      exact ⟨rfl, by rw [← fillL_full]; exact hown, hB⟩
set_option maxHeartbeats 1000000 in
theorem lowBits64_any {f : Nat} {caps : Array Value} {n : Nat} {w : World} (hn : n ≤ 140737488351232) (g : Nat → Int) (hg : ∀ i, i < n → 0 ≤ g i ∧ g i < 18446744073709551616)
    (eg : Hid (∀ args w, (callFunc f args).run Try.prog w = .ok (.enter f args) w))
    (hcall : Hid (∀ i W, i < n → Below w.heap.size w W → Calls Try.prog f (#[.int .i64 (i : Nat)] ++ caps) W fun e W' => e = .returned (.int .u64 (g i)) ∧ ∃ m, W' = W.drewN m)) :
    Calls Try.prog 36 #[.int .i64 n, .func (.func f) #[] caps] w fun e w' =>
      e = .returned (.slice (some ⟨w.heap.size, 0, none⟩) n n) ∧ w'.ownsRow w.heap.size 5 1 (.slice (some ⟨w.heap.size, 0, none⟩) n n) n (((List.range n).map fun i => g i % 2).map (Value.int .u8)) ∧ Below w.heap.size w w' := by
  have hmk := make_bytes n n (Nat.le_refl _) hn
  go_enter Try.func36, Try.ntmps36
  go_wp2
  go_loopw [11] (fun i wr => ∃ k : Nat, k ≤ n ∧ i = .int .i64 k ∧ wr.ownsRow w.heap.size 5 1 (.slice (some ⟨w.heap.size, 0, none⟩) n n) n ((fillL (fun i => g i % 2) n k).map (Value.int .u8)) ∧ Below w.heap.size w wr)
    (fun i _ => n - (intOf i).toNat)
  case atStart => exact ⟨0, Nat.zero_le _, rfl, by rw [fillL_zero]; exact own_zeros (Nat.le_refl _) hn (Nat.le_refl _), (Below.refl _ w).alloc (Nat.le_refl _) _⟩
  case round =>
    obtain ⟨k, hk, rfl, hown, hB⟩ := hrel
    by_cases hlt : k < n
    · have hc0 : wr.cell? ⟨w.heap.size, k, none⟩ = some (.int .u8 ((fillL (fun i => g i % 2) n k)[k]?.getD 0)) := by
        rw [hown.cellAt k (by omega)]
        simp [fillL_length, hlt]
      have hf0 := hown.frozenAt k
      have hst := hown.stored k (.int .u8 (g k % 2))
      have hgk := hg k hlt
      have hand := Lib.hid (and_one_u64' hgk.1 hgk.2)
      clear hgk
      have hC := Lib.hid (hcall.out k wr hlt hB)
      have eg' := eg.out
      have hST := Lib.hid hst; clear hst
      go_wp2
      refine hC.out.mono ?_
      rintro e w1 ⟨rfl, m, rfl⟩
      go_wp2
      go_roundw
      case rel =>
        rw [hand.out]
        refine ⟨k + 1, by omega, by go_num, ?_, (below_drewN hB _).setCell (p := ⟨w.heap.size, k, none⟩) (Nat.le_refl _) _⟩
        rw [← fillL_succ, List.map_set]
        exact hST.out.1
      case measure => simp [intOf]; omega
    · obtain rfl : k = n := by omega
      go_wp2
      go_ret
      exact ⟨rfl, by rw [← fillL_full]; exact hown, hB⟩

/-! ### the closures -/
theorem unpack1_any {A : Option Addr} {n c B Bp i : Nat} {xs : List Int} {w : World} (hI : Rd .u8 w B A n xs) (hb : Byte xs) (hc : w.cell? ⟨Bp, 0, none⟩ = some (.slice A n c)) (hi : i / 8 < n) (hn : n ≤ 140737488351232) :
    Calls Try.prog 35 #[.int .i64 i, .pointer (some ⟨Bp, 0, none⟩)] w fun e w' => e = .returned (.int .u8 (xs[i / 8]?.getD 0 / 2 ^ (7 - i % 8))) ∧ w = w' := by
  obtain ⟨b, off, rfl, _, hcell⟩ := hI.cells (i / 8) hi
  have hb8 := hb (i / 8)
  go_enter Try.func35, Try.ntmps35
  go_wp2
  go_ret
  exact ⟨rfl, rfl⟩

theorem fromUint1_any {Bv Bn i n : Nat} {v : Int} {w : World} (hv : 0 ≤ v ∧ v < 18446744073709551616) (hc : w.cell? ⟨Bv, 0, none⟩ = some (.int .u64 v)) (hc' : w.cell? ⟨Bn, 0, none⟩ = some (.int .i64 n)) (hi : i < n) (hn : n ≤ 64) :
    Calls Try.prog 37 #[.int .i64 i, .pointer (some ⟨Bv, 0, none⟩), .pointer (some ⟨Bn, 0, none⟩)] w fun e w' => e = .returned (.int .u64 (v / 2 ^ (n - 1 - i))) ∧ w = w' := by
  have HV := Lib.hid hv; clear hv
  go_enter Try.func37, Try.ntmps37
  go_wp2
  go_ret
  exact ⟨rfl, rfl⟩

theorem xor1_any {A A' : Option Addr} {n c c' B B' Ba Bb i : Nat} {xs ys : List Int} {w : World} (hI : Rd .u8 w B A n xs) (hI' : Rd .u8 w B' A' n ys) (hc : w.cell? ⟨Ba, 0, none⟩ = some (.slice A n c)) (hc' : w.cell? ⟨Bb, 0, none⟩ = some (.slice A' n c')) (hi : i < n) :
    Calls Try.prog 38 #[.int .i64 i, .pointer (some ⟨Ba, 0, none⟩), .pointer (some ⟨Bb, 0, none⟩)] w fun e w' => e = .returned (.int .u8 (bits .xor .u8 (xs[i]?.getD 0) (ys[i]?.getD 0))) ∧ ∃ m, w' = w.drewN m := by
  obtain ⟨b, off, rfl, _, hcell⟩ := hI.cells i hi
  obtain ⟨b', off', rfl, _, hcell'⟩ := hI'.cells i hi
  go_enter Try.func38, Try.ntmps38
  go_wp2
  go_quiet (fail)
  go_wp2
  go_ret
  exact ⟨rfl, _, rfl⟩
end Go.Proofs.Ytdjnmebgiabecaa
