/-
  Pack: what it returns; what was there stays.
-/
import Derived.Test.YtdjnmebgiabecaaW6
import Derived.Test.YtdjnmebgiabecaaBits2
import Derived.Maps.AppendAt
namespace Go.Proofs.Ytdjnmebgiabecaa
open Go.RowKit

set_option maxHeartbeats 1000000 in
theorem pack_ok {A : Option Addr} {n c B : Nat} {xs : List Int} {w : World} (hI : Rd .u8 w B A n xs) (hB : B ≤ w.heap.size) (hx : Byte xs) (hv : validB xs = true) (hn : n ≤ 140737488351232) (hc : n ≤ c) :
    Calls Try.prog 11 #[.slice A n c] w (RetBytes 5 w (packL xs, 0)) := by
  have hv1 := valid_one (c := c) hn hI hB
  have hV1 := Lib.hid hv1; clear hv1
  have hbits := Lib.hid (validB_bits hx hv)
  have hV := Lib.hid hv; clear hv
  have hL := Lib.hid hI.len
  obtain ⟨i0, hi, hz0, hz1, hz2⟩ := info_parts Try.info_u8
  have hmk : ∀ u : World, (Instr.makeSlice 22 (.int .i64 0) (.int .i64 (((n : Int) + 7) / 8))).run Try.prog u = .ok (.slice (some ⟨u.heap.size, 0, none⟩) 0 ((n + 7) / 8)) (u.alloc (.cells (madeCells #[.int .u8 0] ((n + 7) / 8)) 5)) := fun u => by
    have h := make_bytes ((n + 7) / 8) 0 (by omega) (by omega) u
    rw [show (((n + 7) / 8 : Nat) : Int) = ((n : Int) + 7) / 8 from by omega] at h
    exact h
  go_enter Try.func11, Try.ntmps11
  go_wp2_with fail
  refine hV1.out.mono ?_
  rintro e w1 ⟨rfl, hb1⟩
  rw [hV.out]
  go_wp2_with fail
  go_loopw [4, 5] (fun p s wr => ∃ (k : Nat) (A1 : Option Addr) (c1 : Nat), k ≤ (n + 7) / 8 ∧ s = .int .i64 (8 * (k : Int)) ∧ p = .slice A1 k c1 ∧ wr.ownsRow w.heap.size 5 1 (.slice A1 k c1) k (((packL xs).take k).map (Value.int .u8)) ∧ Below w.heap.size w wr)
    (fun _ s _ => n + 8 - (intOf s).toNat)
  case atStart =>
    refine ⟨0, some ⟨w1.heap.size, 0, none⟩, (n + 7) / 8, Nat.zero_le _, rfl, rfl, ?_, hb1.alloc hb1.size _⟩
    have h := own_zeros (w := w1) (B := w.heap.size) (n := (n + 7) / 8) (m := 0) hb1.size (by omega) (by omega)
    simpa using h
  case round =>
    obtain ⟨k, A1, c1, hk, rfl, rfl, hown, hB1⟩ := hrel
    have hI1 := hI.below' hB1 hB
    by_cases hlt : 8 * k < n
    · have hO := Lib.hid hown; clear hown
      by_cases hf : 8 * k + 8 ≤ n
      · have hR := hI1.cut (lo := 8 * k) (hi := 8 * k + 8) (cap := c) (by omega) hf hc
        rw [if_neg (by omega), show 8 * k + 8 - 8 * k = 8 from by omega] at hR
        go_wp2_with fail
        refine (number_any hR (by omega) (bits_chunk hbits.out _ _)).mono ?_
        rintro e w2 ⟨rfl, rfl⟩
        go_wp2_with (at_builtin; refine wpList_append_own _ rfl _ _ 22 rfl w.heap.size 5 i0 (.int .u8 0) 1 1 Try.underlying22 hi hz0 hz1 hz2 rfl (by decide) _ _ _ rfl (hO.out.alloc _) ⟨wr.heap.size, 0, none⟩ 1 1 [.int .u8 (IntKind.u64.wrap (valueOf (List.take 8 (List.drop (8 * k) xs))) % 256)] rfl rfl (cell_one_new _ _ _) (by simp [Value.oneCell']) (by unfold maxLen; omega) (by omega) (by have := hB1.size; simp; omega) ?_; intro v3 w3 hown3 hgrow3 _; obtain ⟨g3, c3, rfl⟩ := ownsRow_succ hown3)
        have hB3 : Below w.heap.size w w3 := (hB1.alloc hB1.size _).grown hgrow3 (by have := hB1.size; simp; omega) (fun g hg => (hO.out.lt g hg).1)
        rw [row_packL (by rw [hL.out]; omega) (pack_val8 hbits.out (by rw [hL.out]; exact hf))] at hown3
        have hO3 := Lib.hid hown3; clear hown3
        go_wp2
        go_roundw
        case rel => exact ⟨k + 1, some ⟨g3, 0, none⟩, c3, by omega, by go_num, rfl, hO3.out, hB3⟩
        case measure => simp [intOf]; omega
      · have hR := hI1.cut (lo := 8 * k) (hi := n) (cap := c) (by omega) (Nat.le_refl _) hc
        rw [if_neg (by omega)] at hR
        go_wp2_with fail
        refine (number_any hR (by omega) (bits_chunk hbits.out _ _)).mono ?_
        rintro e w2 ⟨rfl, rfl⟩
        go_wp2_with (at_builtin; refine wpList_append_own _ rfl _ _ 22 rfl w.heap.size 5 i0 (.int .u8 0) 1 1 Try.underlying22 hi hz0 hz1 hz2 rfl (by decide) _ _ _ rfl (hO.out.alloc _) ⟨wr.heap.size, 0, none⟩ 1 1 [.int .u8 (IntKind.u64.wrap (valueOf (List.take (n - 8 * k) (List.drop (8 * k) xs)) * 2 ^ (8 - (n - 8 * k))) % 256)] rfl rfl (cell_one_new _ _ _) (by simp [Value.oneCell']) (by unfold maxLen; omega) (by omega) (by have := hB1.size; simp; omega) ?_; intro v3 w3 hown3 hgrow3 _; obtain ⟨g3, c3, rfl⟩ := ownsRow_succ hown3)
        have hB3 : Below w.heap.size w w3 := (hB1.alloc hB1.size _).grown hgrow3 (by have := hB1.size; simp; omega) (fun g hg => (hO.out.lt g hg).1)
        rw [row_packL (by rw [hL.out]; omega) (pack_val hbits.out (by omega) (by rw [hL.out]; omega) (.inr (by rw [hL.out]; omega)))] at hown3
        have hO3 := Lib.hid hown3; clear hown3
        go_wp2
        go_roundw
        case rel => exact ⟨k + 1, some ⟨g3, 0, none⟩, c3, by omega, by go_num, rfl, hO3.out, hB3⟩
        case measure => simp [intOf]; omega
    · have hk2 : k = (n + 7) / 8 := by omega
      subst hk2
      rw [List.take_of_length_le (by rw [packL_length, hL.out]; omega)] at hown
      have hO := Lib.hid hown; clear hown
      go_wp2_with fail
      go_ret2
      exact RetBytes.mk_ (by rw [packL_length, hL.out]) hO.out (Nat.le_refl _) hB1 rfl
theorem pack_bad {A : Option Addr} {n c B : Nat} {xs : List Int} {w : World} (hI : Rd .u8 w B A n xs) (hB : B ≤ w.heap.size) (hv : validB xs = false) (hn : n ≤ 140737488351232) :
    Calls Try.prog 11 #[.slice A n c] w (RetBytes 5 w ([], 3)) := by
  have hv1 := valid_one (c := c) hn hI hB
  have hV1 := Lib.hid hv1; clear hv1
  have hV := Lib.hid hv; clear hv
  go_enter Try.func11, Try.ntmps11
  go_wp2_with fail
  refine hV1.out.mono ?_
  rintro e w1 ⟨rfl, hb1⟩
  rw [hV.out]
  go_wp2_with fail
  go_ret2
  exact RetBytes.nil_ hb1
theorem pack_any {A : Option Addr} {n c B : Nat} {xs : List Int} {w : World} (hI : Rd .u8 w B A n xs) (hB : B ≤ w.heap.size) (hx : Byte xs) (hn : n ≤ 140737488351232) (hc : n ≤ c) :
    Calls Try.prog 11 #[.slice A n c] w (RetBytes 5 w (packS xs)) := by
  unfold packS
  split
  · rename_i h; exact pack_bad hI hB h hn
  · rename_i h; exact pack_ok hI hB hx (by simpa using h) hn hc
end Go.Proofs.Ytdjnmebgiabecaa
