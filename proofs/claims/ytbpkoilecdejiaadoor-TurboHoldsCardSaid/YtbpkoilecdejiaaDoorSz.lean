/-
  The law's sized.
-/
import Derived.Test.YtbpkoilecdejiaaDoorT6
import Derived.Test.YtbpkoilecdejiaaDoorLw
namespace Go.Proofs.YtbpkoilecdejiaaDoor
set_option maxRecDepth 100000
open Go.RowKit

/-- The block size of a number; the bits. -/
def sizeK (m : Nat) : Nat := 40 + 8 * (m % 60)
def sizedF (xs : List Int) (i : Nat) : Int := xs[i % xs.length]?.getD 0 % 2
def sizedL (xs : List Int) (m : Nat) : List Int := (List.range (sizeK m)).map (sizedF xs)
theorem sizedL_length (xs : List Int) (m : Nat) : (sizedL xs m).length = sizeK m := by simp [sizedL]
theorem sizedL_bits (xs : List Int) (m : Nat) : Bits (sizedL xs m) := fun x hx => by
  obtain ⟨i, _, rfl⟩ := List.mem_map.1 hx
  unfold sizedF
  omega
set_option maxHeartbeats 2000000 in
theorem sized_any {A : Option Addr} {n c m : Nat} {xs : List Int} {w : World} (hI : Rd .u8 w w.heap.size A n xs) (hb : Byte xs) (hn : n ≤ 100000) (hm : m ≤ 255) :
    Calls Tryd.prog 25 #[.slice A n c, .int .u8 (m : Int)] w fun e w' => ∃ g, e = .returned (.slice (some ⟨g, 0, none⟩) (sizeK m) (sizeK m)) ∧
      w'.ownsRow w.heap.size 5 1 (.slice (some ⟨g, 0, none⟩) (sizeK m) (sizeK m)) (sizeK m) ((sizedL xs m).map (Value.int .u8)) ∧ Below w.heap.size w w' := by
  have hfull := fillL_full (sizedF xs) (sizeK m)
  have hmod : (m : Int).tmod 60 = ((m % 60 : Nat) : Int) := by rw [IntWalk.rem_in _ _ (by omega)]; omega
  have hkk : (40 : Int) + 8 * ((m % 60 : Nat) : Int) = ((sizeK m : Nat) : Int) := by unfold sizeK; omega
  have hk5 : sizeK m ≤ 512 := by unfold sizeK; omega
  have hr := Nat.mod_lt m (show 0 < 60 by decide)
  have hS : sizedL xs m = fillL (sizedF xs) (sizeK m) (sizeK m) := hfull.symm
  rw [hS]
  clear hfull hS
  generalize sizeK m = k at *
  generalize m % 60 = r at *
  have hmk := make_bytes k k (Nat.le_refl _) (by omega)
  have HZ : Hid ((w.alloc (.cells (madeCells #[.int .u8 0] k) 5)).ownsRow w.heap.size 5 1 (.slice (some ⟨w.heap.size, 0, none⟩) k k) k ((fillL (sizedF xs) k 0).map (Value.int .u8)) ∧ Below w.heap.size w (w.alloc (.cells (madeCells #[.int .u8 0] k) 5))) := Lib.hid ⟨by
    rw [fillL_zero]; exact own_zeros (Nat.le_refl _) (by omega) (Nat.le_refl _), (Below.refl _ w).alloc (Nat.le_refl _) _⟩
  have HI := Lib.hid hI
  have HB := Lib.hid hb
  clear hI hb
  have hm0 : (0 : Int) ≤ (m : Int) := by omega
  have hm1 : (m : Int) ≤ 255 := by omega
  have hr0 : (0 : Int) ≤ (r : Int) := by omega
  have hr1 : (r : Int) < 60 := by omega
  go_enter Tryd.func25, Tryd.ntmps25
  go_wp2_with fail
  generalize w.alloc (.cells (madeCells #[.int .u8 0] k) 5) = W0 at *
  go_loopw [7] (fun i W => ∃ j : Nat, j ≤ k ∧ i = .int .i64 (j : Int) ∧ Hid (W.ownsRow w.heap.size 5 1 (.slice (some ⟨w.heap.size, 0, none⟩) k k) k ((fillL (sizedF xs) k j).map (Value.int .u8)) ∧ Below w.heap.size w W)) (fun i _ => k - (intOf i).toNat)
  case atStart => exact ⟨0, Nat.zero_le _, rfl, HZ⟩
  case round =>
    clear HZ
    obtain ⟨j, hj, rfl, hH⟩ := hrel
    have hln := HI.out.len
    by_cases hlt : j < k
    · rcases Nat.eq_zero_or_pos n with hn0 | hn0
      · have he : fillL (sizedF xs) k j = fillL (sizedF xs) k k := by
          have : xs = [] := List.eq_nil_of_length_eq_zero (by omega)
          subst this
          unfold fillL sizedF
          simp
        have HO : Hid (wr.ownsRow w.heap.size 5 1 (.slice (some ⟨w.heap.size, 0, none⟩) k k) k ((fillL (sizedF xs) k k).map (Value.int .u8)) ∧ Below w.heap.size w wr) := Lib.hid (he ▸ hH.out)
        have hj0 : (0 : Int) ≤ (j : Int) := by omega
        have hj1 : (j : Int) < (k : Int) := by omega
        subst hn0
        clear hH HI HB hmk he
        go_wp2_with fail
        go_ret
        exact ⟨w.heap.size, rfl, HO.out.1, HO.out.2⟩
      · have hq := Nat.mod_lt j hn0
        obtain ⟨b, off, rfl, hbl, hcell⟩ := (HI.out.below hH.out.2).cells (j % n) hq
        have hx := HB.out (j % n)
        have hs := fillL_succ (sizedF xs) k j
        have hf : sizedF xs j = xs[j % n]?.getD 0 % 2 := by unfold sizedF; rw [hln]
        rw [hf] at hs
        have hst := (hH.out.1.stored j (.int .u8 (xs[j % n]?.getD 0 % 2))).1
        have hfr := hH.out.1.frozenAt j
        obtain ⟨b2, off2, e2, _, hc2⟩ := (Rd.of_own hH.out.1).cells j hlt
        injection e2 with e2
        injection e2 with e2 e3
        subst e2 e3
        rw [Nat.zero_add] at hc2
        rw [← List.map_set] at hst
        rw [hs] at hst
        have hb2 := hH.out.2.setCell (p := ⟨w.heap.size, j, none⟩) (Nat.le_refl _) (.int .u8 (xs[j % n]?.getD 0 % 2))
        have hmd : (xs[j % n]?.getD 0).tmod 2 = xs[j % n]?.getD 0 % 2 := IntWalk.rem_in _ _ (by omega)
        have hwr : IntKind.u8.wrap (xs[j % n]?.getD 0 % 2) = xs[j % n]?.getD 0 % 2 := by rw [IntWalk.u8_in _ (by omega)]
        have H2 := Lib.hid (And.intro hst hb2)
        have hj0 : (0 : Int) ≤ (j : Int) := by omega
        have hj1 : (j : Int) < (k : Int) := by omega
        have hn1 : (0 : Int) < (n : Int) := by omega
        have hjm : (j : Int).tmod (n : Int) = ((j % n : Nat) : Int) := by rw [IntWalk.rem_in _ _ (by omega)]; omega
        have hq1 : ((j % n : Nat) : Int) < (n : Int) := by omega
        have hq0 : (0 : Int) ≤ ((j % n : Nat) : Int) := by omega
        have hnz : ¬ (n : Int) = 0 := by omega
        generalize xs[j % n]?.getD 0 = x at *
        generalize j % n = q at *
        clear hst hb2 hs hf hH HI HB hmk
        go_wp2_with fail
        go_roundw
        case rel => exact ⟨j + 1, by omega, by go_num, H2⟩
        case measure => simp [intOf]; omega
    · obtain rfl : j = k := by omega
      have HO := Lib.hid hH.out
      have hj0 : ¬ (j : Int) < (j : Int) := by omega
      clear hH HI HB
      go_wp2_with fail
      go_ret
      exact ⟨w.heap.size, rfl, HO.out.1, HO.out.2⟩
end Go.Proofs.YtbpkoilecdejiaaDoor
