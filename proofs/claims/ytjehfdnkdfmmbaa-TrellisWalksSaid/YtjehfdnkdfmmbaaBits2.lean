/-
  Plain mathematics of packing: no program is named here.
-/
import Derived.Test.YtjehfdnkdfmmbaaBits
namespace Go.Proofs.Ytjehfdnkdfmmbaa
theorem packL_length (xs : List Int) : (packL xs).length = (xs.length + 7) / 8 := by simp [packL]
theorem bits_chunk {xs : List Int} (h : Bits xs) (i m : Nat) : Bits ((xs.drop i).take m) := fun x hx => h x (List.mem_of_mem_drop (List.mem_of_mem_take hx))
theorem valueOf_append (xs ys : List Int) : valueOf (xs ++ ys) = valueOf xs * ((2 ^ ys.length : Nat) : Int) + valueOf ys := by
  show (xs ++ ys).foldl _ 0 = _
  rw [List.foldl_append, foldl_value]
  rfl
theorem valueOf_zeros (n : Nat) : valueOf (List.replicate n 0) = 0 := by
  induction n with
  | zero => rfl
  | succ n ih => rw [List.replicate_succ, valueOf_cons, ih]; simp
theorem byteAt_chunk {xs : List Int} {k m : Nat} (hm : m ≤ 8) (he : 8 * k + m ≤ xs.length) (hlast : m = 8 ∨ 8 * k + m = xs.length) :
    byteAt xs k = valueOf ((xs.drop (8 * k)).take m) * ((2 ^ (8 - m) : Nat) : Int) := by
  have e : (List.range 8).map (fun t => xs[8 * k + t]?.getD 0) = (xs.drop (8 * k)).take m ++ List.replicate (8 - m) 0 := by
    apply List.ext_getElem
    · simp; omega
    · intro t h1 h2
      simp only [List.length_map, List.length_range] at h1
      rw [List.getElem_append]
      have hl : ((xs.drop (8 * k)).take m).length = m := by rw [List.length_take, List.length_drop]; omega
      by_cases ht : t < m
      · rw [dif_pos (by omega)]
        have : 8 * k + t < xs.length := by omega
        simp [this]
      · rw [dif_neg (by omega)]
        have : xs.length ≤ 8 * k + t := by omega
        simp [this]
  unfold byteAt
  rw [e, valueOf_append, valueOf_zeros, List.length_replicate]
  omega
theorem byteAt_range {xs : List Int} (h : Bits xs) (k : Nat) : 0 ≤ byteAt xs k ∧ byteAt xs k ≤ 255 := by
  have hb : Bits ((List.range 8).map fun t => xs[8 * k + t]?.getD 0) := fun x hx => by
    obtain ⟨t, _, rfl⟩ := List.mem_map.1 hx
    exact bits_nonneg h _
  have := valueOf_lt hb
  simp only [List.length_map, List.length_range] at this
  unfold byteAt
  omega
theorem packL_take_succ {xs : List Int} {k : Nat} (hk : k < (xs.length + 7) / 8) : (packL xs).take (k + 1) = (packL xs).take k ++ [byteAt xs k] := by
  rw [List.take_succ_eq_append_getElem (by rw [packL_length]; exact hk)]
  simp [packL]
theorem byte_packL {xs : List Int} (h : Bits xs) : Byte (packL xs) := Byte.of_mem fun x hx => by
  obtain ⟨k, _, rfl⟩ := List.mem_map.1 hx
  exact byteAt_range h k
theorem pack_val {xs : List Int} {k m : Nat} (h : Bits xs) (hm : m ≤ 8) (he : 8 * k + m ≤ xs.length) (hlast : m = 8 ∨ 8 * k + m = xs.length) :
    IntKind.u64.wrap (valueOf ((xs.drop (8 * k)).take m) * 2 ^ (8 - m)) % 256 = byteAt xs k := by
  have h1 := byteAt_chunk hm he hlast
  have h2 := byteAt_range h k
  have h3 : ((2 ^ (8 - m) : Nat) : Int) = (2 : Int) ^ (8 - m) := by simp
  rw [h3] at h1
  rw [← h1, IntWalk.u64_in _ (by omega)]
  omega
theorem pack_val8 {xs : List Int} {k : Nat} (h : Bits xs) (he : 8 * k + 8 ≤ xs.length) : IntKind.u64.wrap (valueOf ((xs.drop (8 * k)).take 8)) % 256 = byteAt xs k := by
  have := pack_val h (Nat.le_refl 8) he (.inl rfl)
  simpa using this
theorem row_packL {xs : List Int} {k : Nat} (hk : k < (xs.length + 7) / 8) {v : Int} (hv : v = byteAt xs k) : ((packL xs).take k).map (Value.int .u8) ++ [.int .u8 v] = ((packL xs).take (k + 1)).map (Value.int .u8) := by
  rw [packL_take_succ hk, List.map_append, hv]
  rfl
/-- The lowest bits of the first n elements. -/
def lowL (xs : List Int) (n : Nat) : List Int := (List.range n).map fun i => xs[i]?.getD 0 % 2
theorem lowL_length (xs : List Int) (n : Nat) : (lowL xs n).length = n := by simp [lowL]
theorem lowL_bits (xs : List Int) (n : Nat) : Bits (lowL xs n) := fun x hx => by
  obtain ⟨i, _, rfl⟩ := List.mem_map.1 hx
  omega
theorem Bits.byte {xs : List Int} (h : Bits xs) : Byte xs := Byte.of_mem fun x hx => by have := h x hx; omega
theorem Bits.valid {xs : List Int} (h : Bits xs) : validB xs = true := by
  simp only [validB, List.all_eq_true, decide_eq_true_eq]
  intro x hx
  have := h x hx
  omega
/-! ### a list that is filled from the right -/
def fillR (g : Nat → Int) (n k : Nat) : List Int := (List.range n).map fun j => if k ≤ j then g j else 0
theorem fillR_zero (g : Nat → Int) (n : Nat) : fillR g n n = List.replicate n 0 := by
  apply List.ext_getElem
  · simp [fillR]
  · intro j h1 h2
    simp [fillR] at h1 ⊢
    omega
theorem fillR_length (g : Nat → Int) (n k : Nat) : (fillR g n k).length = n := by simp [fillR]
theorem fillR_pred (g : Nat → Int) (n k : Nat) : (fillR g n (k + 1)).set k (g k) = fillR g n k := by
  apply List.ext_getElem
  · simp [fillR]
  · intro j h1 h2
    rw [List.getElem_set]
    simp only [fillR, List.getElem_map, List.getElem_range]
    by_cases e : k = j
    · subst e; simp
    · rw [if_neg e]
      by_cases h : k ≤ j
      · rw [if_pos h, if_pos (by omega)]
      · rw [if_neg h, if_neg (by omega)]
theorem fillR_full (g : Nat → Int) (n : Nat) : fillR g n 0 = (List.range n).map g := by
  apply List.map_congr_left
  intro j hj
  rw [if_pos (Nat.zero_le _)]
theorem take_map_succ (g : Nat → Int) {n k : Nat} (hk : k < n) : ((List.range n).map g).take (k + 1) = ((List.range n).map g).take k ++ [g k] := by
  rw [List.take_succ_eq_append_getElem (by simpa using hk)]
  simp
theorem row_take {g : Nat → Int} {n k : Nat} (hk : k < n) {v : Int} (hv : v = g k) : (((List.range n).map g).take k).map (Value.int .u8) ++ [.int .u8 v] = (((List.range n).map g).take (k + 1)).map (Value.int .u8) := by
  rw [take_map_succ g hk, List.map_append, hv]
  rfl
def fromUintR (v : Int) (n : Nat) : List Int × Int := if v / 2 ^ n ≠ 0 then ([], 4) else (fromUintL v n, 0)
theorem halves (v : Int) (k : Nat) : v / 2 ^ k / 2 = v / 2 ^ (k + 1) := by
  rw [Int.ediv_ediv_of_nonneg (Int.pow_nonneg (by decide)), Int.pow_succ]
theorem number_step2 {xs : List Int} {k n : Nat} (hb : Bits xs) (hl : xs.length = n) (hn : n ≤ 64) (hk : k < n) : 2 * valueOf (xs.take k) + xs[k]?.getD 0 = valueOf (xs.take (k + 1)) ∧ 0 ≤ valueOf (xs.take k) ∧ valueOf (xs.take k) ≤ 9223372036854775807 := by
  have h1 := valueOf_lt (hb.take k)
  have h2 : 2 ^ (xs.take k).length ≤ 2 ^ 63 := by
    rw [List.length_take]
    exact Nat.pow_le_pow_right (by decide) (by omega)
  have h3 : 2 ^ 63 = 9223372036854775808 := rfl
  have h4 := bits_nonneg hb k
  refine ⟨?_, by omega, by omega⟩
  rw [take_snoc xs k (by omega) 0, valueOf_snoc]
theorem bits_range {xs : List Int} (h : Bits xs) (k : Nat) : 0 ≤ xs[k]?.getD 0 ∧ xs[k]?.getD 0 ≤ 1 := by have := bits_nonneg h k; omega
end Go.Proofs.Ytjehfdnkdfmmbaa
