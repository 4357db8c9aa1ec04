/-
  FromUint, Unpack, Xor: what each returns; what was there stays.
-/
import Derived.Test.YtdjnmebgiabecaaW4
import Derived.Test.YtdjnmebgiabecaaMarks
import Derived.Deep.Onto
namespace Go.Proofs.Ytdjnmebgiabecaa
open Go.RowKit


theorem fromUint_calls {v : Int} {n : Nat} {w W0 : World} (hW0 : W0 = (w.alloc (.cells #[.int .u64 v] 35)).alloc (.cells #[.int .i64 n] 3)) (hv : 0 ≤ v ∧ v < 18446744073709551616) (h2 : n ≤ 64) :
    Hid (∀ i W, i < n → Below W0.heap.size W0 W → Calls Try.prog 37 (#[.int .i64 (i : Nat)] ++ #[.pointer (some ⟨w.heap.size, 0, none⟩), .pointer (some ⟨w.heap.size + 1, 0, none⟩)]) W fun e W' => e = .returned (.int .u64 (v / 2 ^ (n - 1 - i))) ∧ ∃ m, W' = W.drewN m) := by
  refine Lib.hid (fun i W hi hW => ?_)
  subst hW0
  have bV := Boxed.new w 35 (.int .u64 v)
  have bN := Boxed.new (w.alloc (.cells #[.int .u64 v] 35)) 3 (.int .i64 n)
  rw [World.size_alloc] at bN
  have h := fromUint1_any hv ((hW.cell (p := ⟨w.heap.size, 0, none⟩) (by simp; omega)).trans (bV.alloc _).cell) ((hW.cell (p := ⟨w.heap.size + 1, 0, none⟩) (by simp)).trans bN.cell) hi h2
  rw [List.append_toArray]
  exact h.mono (fun e w' h => ⟨h.1, 0, h.2.symm⟩)

set_option maxHeartbeats 400000 in
theorem fromUint_ok {v : Int} {n : Nat} {w : World} (hv : 0 ≤ v ∧ v < 18446744073709551616) (h2 : n ≤ 64) (h3 : v / 2 ^ n = 0) :
    Calls Try.prog 19 #[.int .u64 v, .int .i64 n] w (RetBytes 5 w (fromUintL v n, 0)) := by
  have hvb := Lib.hid hv
  have h4 : (v / 2 ^ n != 0) = false := by simp [h3]
  clear hv h3
  have eg := Lib.hid (enters_of Try.func37 (by kernel_rfl) rfl : ∀ args w, (callFunc 37 args).run Try.prog w = .ok (.enter 37 args) w)
  go_enter Try.func19, Try.ntmps19
  go_wp2
  refine wp_scope_forward 0 rfl ?_
  have hC := fromUint_calls (w := w) rfl hvb.out h2
  go_wp2_with fail
  refine (lowBits64_any (by omega) (fun i => v / 2 ^ (n - 1 - i)) (fun i _ => shr_range hvb.out _) eg hC).mono ?_
  rintro e w1 ⟨rfl, hown, hb⟩
  simp only [World.size_alloc] at hown
  have HO := Lib.hid hown; clear hown
  go_wp2
  refine jump_ret ?_
  go_ret2
  exact RetBytes.mk_ (by simp [fromUintL]) HO.out (by omega) ((below_two _ _).trans (hb.mono (by simp; omega))) rfl
theorem fromUint_arg {v n : Int} {w : World} (hn : n < 0 ∨ 64 < n) :
    Calls Try.prog 19 #[.int .u64 v, .int .i64 n] w (RetBytes 5 w ([], 2)) := by
  rcases hn with hn | hn
  all_goals
    go_enter Try.func19, Try.ntmps19
    go_wp2
    refine wp_scope_forward 0 rfl ?_
    go_wp2
    go_step3
    refine ⟨rfl, ?_⟩
    go_wp2
    rw [Exit.noGoto_ret]
    go_ret2
    exact RetBytes.nil_ (below_two _ _)
theorem fromUint_long {v : Int} {n : Nat} {w : World} (h2 : n ≤ 64) (h3 : ¬ v / 2 ^ n = 0) :
    Calls Try.prog 19 #[.int .u64 v, .int .i64 n] w (RetBytes 5 w ([], 4)) := by
  have h4 : (v / 2 ^ n != 0) = true := by simp [h3]
  clear h3
  go_enter Try.func19, Try.ntmps19
  go_wp2
  refine wp_scope_forward 0 rfl ?_
  go_wp2
  go_step3
  refine ⟨rfl, ?_⟩
  go_wp2
  rw [Exit.noGoto_ret]
  go_ret2
  exact RetBytes.nil_ (below_two _ _)
theorem fromUint_any {v n : Int} {w : World} (hv : 0 ≤ v ∧ v < 18446744073709551616) :
    Calls Try.prog 19 #[.int .u64 v, .int .i64 n] w (RetBytes 5 w (fromUintS v n)) := by
  unfold fromUintS
  split
  · rename_i h; exact fromUint_arg h
  · rename_i h
    obtain ⟨m, rfl⟩ := Int.eq_ofNat_of_zero_le (show 0 ≤ n by omega)
    rw [Int.toNat_natCast]
    split
    · rename_i h'; exact fromUint_long (by omega) h'
    · rename_i h'; exact fromUint_ok hv (by omega) (by simpa using h')

/-! ### Unpack -/
theorem unpack_calls {A : Option Addr} {n c B m : Nat} {xs : List Int} {w W0 : World} (hW0 : W0 = w.alloc (.cells #[.slice A n c] 22)) (hI : Rd .u8 w B A n xs) (hB : B ≤ w.heap.size) (hx : Byte xs) (hn : n ≤ 140737488351232) (hm : m ≤ 8 * n) :
    Hid (∀ i W, i < m → Below W0.heap.size W0 W → Calls Try.prog 35 (#[.int .i64 (i : Nat)] ++ #[.pointer (some ⟨w.heap.size, 0, none⟩)]) W fun e W' => e = .returned (.int .u8 (xs[i / 8]?.getD 0 / 2 ^ (7 - i % 8))) ∧ ∃ m, W' = W.drewN m) := by
  refine Lib.hid (fun i W hi hW => ?_)
  subst hW0
  have bV := Boxed.new w 22 (.slice A n c)
  have h := unpack1_any ((hI.alloc hB _).below' hW (by simp; omega)) hx ((hW.cell (p := ⟨w.heap.size, 0, none⟩) (by simp)).trans bV.cell) (i := i) (by omega) hn
  rw [List.append_toArray]
  exact h.mono (fun e w' h => ⟨h.1, 0, h.2.symm⟩)

set_option maxHeartbeats 400000 in
theorem unpack_ok {A : Option Addr} {n c B m : Nat} {xs : List Int} {w : World} (hI : Rd .u8 w B A n xs) (hB : B ≤ w.heap.size) (hx : Byte xs) (hn : n ≤ 140737488351232) (hm : m ≤ 8 * n) (hm2 : m ≤ 140737488351232) :
    Calls Try.prog 13 #[.slice A n c, .int .i64 m] w (RetBytes 5 w (unpackL xs m, 0)) := by
  have eg := Lib.hid (enters_of Try.func35 (by kernel_rfl) rfl : ∀ args w, (callFunc 35 args).run Try.prog w = .ok (.enter 35 args) w)
  have hC := unpack_calls (w := w) (c := c) rfl hI hB hx hn hm
  have hxb := Lib.hid hx; clear hx
  go_enter Try.func13, Try.ntmps13
  go_wp2
  refine wp_scope_forward 0 rfl ?_
  go_wp2_with fail
  refine (lowBits8_any (by omega) (fun i => xs[i / 8]?.getD 0 / 2 ^ (7 - i % 8)) (fun i _ => shr_byte hxb.out _ _) eg hC).mono ?_
  rintro e w1 ⟨rfl, hown, hb⟩
  simp only [World.size_alloc] at hown
  have HO := Lib.hid hown; clear hown
  go_wp2
  refine jump_ret ?_
  go_ret2
  exact RetBytes.mk_ (by simp [unpackL]) HO.out (by omega) (((Below.refl _ w).alloc (Nat.le_refl _) _).trans (hb.mono (by simp))) rfl
theorem unpack_arg {A : Option Addr} {n c : Nat} {m : Int} {w : World} (hm : m < 0) :
    Calls Try.prog 13 #[.slice A n c, .int .i64 m] w (RetBytes 5 w ([], 2)) := by
  go_enter Try.func13, Try.ntmps13
  go_wp2
  refine wp_scope_forward 0 rfl ?_
  go_wp2
  go_step3
  refine ⟨rfl, ?_⟩
  go_wp2
  rw [Exit.noGoto_ret]
  go_ret2
  exact RetBytes.nil_ ((Below.refl _ w).alloc (Nat.le_refl _) _)
theorem unpack_short {A : Option Addr} {n c m : Nat} {w : World} (hn : n ≤ 140737488351232) (hm : 8 * n < m) (hm2 : m ≤ 9223372036854775807) :
    Calls Try.prog 13 #[.slice A n c, .int .i64 m] w (RetBytes 5 w ([], 5)) := by
  go_enter Try.func13, Try.ntmps13
  go_wp2
  refine wp_scope_forward 0 rfl ?_
  go_wp2
  go_step3
  refine ⟨rfl, ?_⟩
  go_wp2
  rw [Exit.noGoto_ret]
  go_ret2
  exact RetBytes.nil_ ((Below.refl _ w).alloc (Nat.le_refl _) _)
theorem unpack_any {A : Option Addr} {n c B : Nat} {m : Int} {xs : List Int} {w : World} (hI : Rd .u8 w B A n xs) (hB : B ≤ w.heap.size) (hx : Byte xs) (hn : n ≤ 17592186043904) (hm : m ≤ 9223372036854775807) :
    Calls Try.prog 13 #[.slice A n c, .int .i64 m] w (RetBytes 5 w (unpackS xs m)) := by
  have hl := hI.len
  unfold unpackS
  split
  · rename_i h; exact unpack_arg h
  · rename_i h
    obtain ⟨k, rfl⟩ := Int.eq_ofNat_of_zero_le (show 0 ≤ m by omega)
    rw [Int.toNat_natCast]
    split
    · rename_i h'; exact unpack_short (by omega) (by omega) (by omega)
    · rename_i h'; exact unpack_ok hI hB hx (by omega) (by omega) (by omega)
end Go.Proofs.Ytdjnmebgiabecaa
