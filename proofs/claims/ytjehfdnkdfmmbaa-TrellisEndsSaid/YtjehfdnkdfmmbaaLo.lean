/-
  The law's low.
-/
import Derived.Test.YtjehfdnkdfmmbaaR1
namespace Go.Proofs.Ytjehfdnkdfmmbaa
open Go.RowKit

set_option maxHeartbeats 2000000 in
theorem low_any {A : Option Addr} {m n c : Nat} {xs : List Int} {w : World} (hI : Rd .u8 w w.heap.size A m xs) (hb : Byte xs) (hnm : n ≤ m) (hn : n ≤ 100000) :
    Calls Try.prog 28 #[.slice A m c, .int .i64 (n : Int)] w fun e w' => ∃ g, e = .returned (.slice (some ⟨g, 0, none⟩) n n) ∧ w'.ownsRow w.heap.size 5 1 (.slice (some ⟨g, 0, none⟩) n n) n ((lowL xs n).map (Value.int .u8)) ∧ Below w.heap.size w w' := by
  have hmk := make_bytes n n (Nat.le_refl _) (by omega)
  have HZ : Hid ((w.alloc (.cells (madeCells #[.int .u8 0] n) 5)).ownsRow w.heap.size 5 1 (.slice (some ⟨w.heap.size, 0, none⟩) n n) n ((fillL (fun i => xs[i]?.getD 0 % 2) n 0).map (Value.int .u8)) ∧ Below w.heap.size w (w.alloc (.cells (madeCells #[.int .u8 0] n) 5))) := Lib.hid ⟨by
    rw [fillL_zero]; exact own_zeros (Nat.le_refl _) (by omega) (Nat.le_refl _), (Below.refl _ w).alloc (Nat.le_refl _) _⟩
  have HI := Lib.hid hI
  have HB := Lib.hid hb
  clear hI hb
  go_enter Try.func28, Try.ntmps28
  go_wp2_with fail
  generalize w.alloc (.cells (madeCells #[.int .u8 0] n) 5) = W0 at *
  go_loopw [6] (fun i W => ∃ k : Nat, k ≤ n ∧ i = .int .i64 (k : Int) ∧ Hid (W.ownsRow w.heap.size 5 1 (.slice (some ⟨w.heap.size, 0, none⟩) n n) n ((fillL (fun i => xs[i]?.getD 0 % 2) n k).map (Value.int .u8)) ∧ Below w.heap.size w W)) (fun i _ => n - (intOf i).toNat)
  case atStart => exact ⟨0, Nat.zero_le _, rfl, HZ⟩
  case round =>
    clear HZ
    obtain ⟨k, hk, rfl, hH⟩ := hrel
    by_cases hlt : k < n
    · obtain ⟨b, off, rfl, hbl, hcell⟩ := (HI.out.below hH.out.2).cells k (by omega)
      have hx := HB.out k
      have hs := fillL_succ (fun i => xs[i]?.getD 0 % 2) n k
      have hst := (hH.out.1.stored k (.int .u8 (xs[k]?.getD 0 % 2))).1
      have hfr := hH.out.1.frozenAt k
      obtain ⟨b2, off2, e2, _, hc2⟩ := (Rd.of_own hH.out.1).cells k hlt
      injection e2 with e2
      injection e2 with e2 e3
      subst e2 e3
      rw [Nat.zero_add] at hc2
      rw [← List.map_set] at hst
      rw [hs] at hst
      have hb2 := hH.out.2.setCell (p := ⟨w.heap.size, k, none⟩) (Nat.le_refl _) (.int .u8 (xs[k]?.getD 0 % 2))
      have hmod : (xs[k]?.getD 0).tmod 2 = xs[k]?.getD 0 % 2 := IntWalk.rem_in _ _ (by omega)
      have hwr : IntKind.u8.wrap (xs[k]?.getD 0 % 2) = xs[k]?.getD 0 % 2 := by rw [IntWalk.u8_in _ (by omega)]
      have H2 := Lib.hid (And.intro hst hb2)
      have hk0 : (0 : Int) ≤ (k : Int) := by omega
      have hk1 : (k : Int) < (n : Int) := by omega
      have hk2 : (k : Int) < (m : Int) := by omega
      generalize xs[k]?.getD 0 = x at *
      clear hst hb2 hs hH HI HB hmk
      go_wp2_with fail
      go_roundw
      case rel => exact ⟨k + 1, by omega, by go_num, H2⟩
      case measure => simp [intOf]; omega
    · obtain rfl : k = n := by omega
      have h1 := hH.out.1
      rw [fillL_full] at h1
      have HO := Lib.hid h1
      have HB2 := Lib.hid hH.out.2
      clear hH h1 HI HB
      go_wp2_with fail
      go_ret
      exact ⟨w.heap.size, rfl, HO.out, HB2.out⟩
end Go.Proofs.Ytjehfdnkdfmmbaa
