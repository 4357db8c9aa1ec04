/-
  binary: the lowest bits of a number; dividend's iterator.
-/
import Derived.Test.YtkdodmjhpkfhnaaDoorK2
namespace Go.Proofs.YtkdodmjhpkfhnaaDoor
open Go.RowKit

/-- The lowest n bits of v, the most significant first. -/
def binL (v : Int) (n : Nat) : List Int := (List.range n).map fun i => v / 2 ^ (n - 1 - i) % 2
theorem binL_length (v : Int) (n : Nat) : (binL v n).length = n := by simp [binL]
def binPart (v : Int) (n k : Nat) : List Int := (List.range n).map fun i => if i < k then v / 2 ^ (n - 1 - i) % 2 else 0
theorem binPart_zero (v : Int) (n : Nat) : binPart v n 0 = List.replicate n 0 := by
  apply List.ext_getElem (by simp [binPart])
  intro i h1 h2
  simp [binPart]
theorem binPart_full (v : Int) (n : Nat) : binPart v n n = binL v n := by
  apply List.ext_getElem (by simp [binPart, binL])
  intro i h1 h2
  have : i < n := by simpa [binPart] using h1
  simp [binPart, binL, this]
theorem binPart_succ (v : Int) (n k : Nat) : binPart v n (k + 1) = (binPart v n k).set k (v / 2 ^ (n - 1 - k) % 2) := by
  apply List.ext_getElem (by simp [binPart])
  intro i h1 h2
  rw [List.getElem_set]
  by_cases h : k = i
  · subst h
    simp [binPart]
  · rw [if_neg h]
    simp only [binPart, List.getElem_map, List.getElem_range]
    by_cases h3 : i < k
    · rw [if_pos (by omega), if_pos h3]
    · rw [if_neg (by omega), if_neg h3]
theorem and_one_u32' {x : Int} (h0 : 0 ≤ x) (h1 : x < 4294967296) : bits .and .u32 x 1 % 256 = x % 2 := by
  obtain ⟨a, rfl⟩ := Int.eq_ofNat_of_zero_le h0
  have := bits_and_u .u32 rfl a 1 (by simp [IntKind.bits]; omega) (by decide)
  rw [Nat.and_one_is_mod] at this
  have e : bits .and .u32 (a : Int) 1 = ((a % 2 : Nat) : Int) := this
  rw [e]; omega
theorem div_pow_range {v : Int} (h : 0 ≤ v ∧ v < 4294967296) (m : Nat) : 0 ≤ v / 2 ^ m ∧ v / 2 ^ m < 4294967296 := by
  have hp : (0 : Int) < 2 ^ m := Int.pow_pos (by decide)
  refine ⟨Int.ediv_nonneg h.1 (Int.le_of_lt hp), ?_⟩
  have := Int.ediv_le_self (2 ^ m) h.1
  omega
set_option maxHeartbeats 1000000 in
theorem binary_any {v : Int} {n : Nat} {w : World} (hv : 0 ≤ v ∧ v < 4294967296) (hn : n ≤ 32) :
    Calls Tryd.prog 72 #[.int .u32 v, .int .i64 n] w fun e w' => ∃ A2 c2, e = .returned (.slice A2 n c2) ∧
      w'.ownsRow w.heap.size 5 1 (.slice A2 n c2) n ((binL v n).map (Value.int .u8)) ∧ Below w.heap.size w w' := by
  have hmk := make_bytes n n (Nat.le_refl _) (by omega)
  go_enter Tryd.func72, Tryd.ntmps72
  go_wp2_with fail
  go_loopw [11] (fun i wr => ∃ k : Nat, k ≤ n ∧ i = .int .i64 k ∧ wr.ownsRow w.heap.size 5 1 (.slice (some ⟨w.heap.size, 0, none⟩) n n) n ((binPart v n k).map (Value.int .u8)) ∧ Below w.heap.size w wr)
    (fun i _ => n - (intOf i).toNat)
  case atStart => exact ⟨0, Nat.zero_le _, rfl, by rw [binPart_zero]; exact own_zeros (Nat.le_refl _) (by omega) (Nat.le_refl _), (Below.refl _ w).alloc (Nat.le_refl _) _⟩
  case round =>
    obtain ⟨k, hk, rfl, hown, hB1⟩ := hrel
    by_cases hlt : k < n
    · have hc0 : wr.cell? ⟨w.heap.size, k, none⟩ = some (.int .u8 ((binPart v n k)[k]?.getD 0)) := by
        rw [hown.cellAt k (by omega)]
        simp [binPart, hlt]
      have hf0 := hown.frozenAt k
      have hST := Lib.hid (hown.stored k (.int .u8 (v / 2 ^ (n - 1 - k) % 2)))
      clear hown
      have hq := div_pow_range hv (n - 1 - k)
      have hand := Lib.hid (and_one_u32' hq.1 hq.2)
      go_wp2
      go_roundw
      case rel =>
        rw [hand.out]
        refine ⟨k + 1, by omega, by go_num, ?_, hB1.setCell (p := ⟨w.heap.size, k, none⟩) (Nat.le_refl _) _⟩
        rw [binPart_succ, List.map_set]
        exact hST.out.1
      case measure => simp [intOf]; omega
    · obtain rfl : k = n := by omega
      have hO := Lib.hid hown; clear hown
      go_wp2_with fail
      go_ret
      have hO2 := hO.out
      rw [binPart_full] at hO2
      exact ⟨_, _, rfl, hO2, hB1⟩
end Go.Proofs.YtkdodmjhpkfhnaaDoor
