/-
  Plain mathematics of bit slices: packing and unpacking undo each other, so do value and digits; the distance is a metric. No program is named here.
-/
import Derived.Test.YtjehfdnkdfmmbaaBits2
namespace Go.Proofs.Ytjehfdnkdfmmbaa

theorem range_map_get (f : Nat → Int) (n k : Nat) (hk : k < n) : ((List.range n).map f)[k]?.getD 0 = f k := by simp [hk]

/-- The t-th digit of the value is the t-th bit. -/
theorem valueOf_digit {l : List Int} (hb : Bits l) (t : Nat) (ht : t < l.length) : valueOf l / 2 ^ (l.length - 1 - t) % 2 = l[t]?.getD 0 := by
  have e : l = l.take (t + 1) ++ l.drop (t + 1) := (List.take_append_drop _ _).symm
  have hd : (l.drop (t + 1)).length = l.length - 1 - t := by rw [List.length_drop]; omega
  have h1 : valueOf l = valueOf (l.take (t + 1)) * ((2 ^ (l.length - 1 - t) : Nat) : Int) + valueOf (l.drop (t + 1)) := by
    conv => lhs; rw [e]
    rw [valueOf_append, hd]
  have h2 := valueOf_lt (xs := l.drop (t + 1)) (fun x hx => hb x (List.mem_of_mem_drop hx))
  rw [hd] at h2
  have h3 : ((2 ^ (l.length - 1 - t) : Nat) : Int) = (2 : Int) ^ (l.length - 1 - t) := by simp
  rw [h3] at h1 h2
  have hp : (0 : Int) < 2 ^ (l.length - 1 - t) := Int.pow_pos (by decide)
  have h4 : valueOf l / 2 ^ (l.length - 1 - t) = valueOf (l.take (t + 1)) := by
    rw [h1, Int.add_comm, Int.add_mul_ediv_right _ _ (by omega), Int.ediv_eq_zero_of_lt h2.1 h2.2]
    omega
  rw [h4, take_snoc l t ht 0, valueOf_snoc]
  have := bits_nonneg hb t
  omega

theorem unpack_pack {xs : List Int} (hb : Bits xs) : unpackL (packL xs) xs.length = xs := by
  apply List.ext_getElem
  · simp [unpackL]
  · intro i h1 h2
    have hi : i < xs.length := h2
    simp only [unpackL, List.getElem_map, List.getElem_range]
    rw [show (packL xs)[i / 8]?.getD 0 = byteAt xs (i / 8) from range_map_get _ _ _ (by omega)]
    have hb8 : Bits ((List.range 8).map fun t => xs[8 * (i / 8) + t]?.getD 0) := fun x hx => by
      obtain ⟨t, _, rfl⟩ := List.mem_map.1 hx
      exact bits_nonneg hb _
    have h := valueOf_digit hb8 (i % 8) (by simp; omega)
    simp only [List.length_map, List.length_range] at h
    rw [range_map_get _ _ _ (by omega : i % 8 < 8)] at h
    unfold byteAt
    rw [show 7 - i % 8 = 8 - 1 - i % 8 from by omega, h, show 8 * (i / 8) + i % 8 = i from by omega]
    simp [hi]

theorem fromUintL_succ (v : Int) (n : Nat) : fromUintL v (n + 1) = fromUintL (v / 2) n ++ [v % 2] := by
  unfold fromUintL
  rw [List.range_succ, List.map_append]
  congr 1
  · apply List.map_congr_left
    intro i hi
    have hi' := List.mem_range.1 hi
    rw [show n + 1 - 1 - i = 1 + (n - 1 - i) from by omega, Int.pow_add, ← Int.ediv_ediv_of_nonneg (by decide)]
    rfl
  · simp
theorem valueOf_fromUintL (n : Nat) (v : Int) (h0 : 0 ≤ v) (h1 : v < ((2 ^ n : Nat) : Int)) : valueOf (fromUintL v n) = v := by
  induction n generalizing v with
  | zero => simp at h1; have : v = 0 := by omega
            subst this; rfl
  | succ n ih =>
    rw [Nat.pow_succ, Int.natCast_mul] at h1
    rw [fromUintL_succ, valueOf_snoc, ih (v / 2) (by omega) (by omega)]
    omega
theorem fromUintL_bits (v : Int) (n : Nat) : Bits (fromUintL v n) := fun x hx => by
  obtain ⟨i, _, rfl⟩ := List.mem_map.1 hx
  omega
theorem fromUintL_length (v : Int) (n : Nat) : (fromUintL v n).length = n := by simp [fromUintL]
theorem unpackL_length (p : List Int) (n : Nat) : (unpackL p n).length = n := by simp [unpackL]
theorem unpackL_bits (p : List Int) (n : Nat) : Bits (unpackL p n) := fun x hx => by
  obtain ⟨i, _, rfl⟩ := List.mem_map.1 hx
  omega

theorem pack_unpack {xs : List Int} (hx : Byte xs) : packL (unpackL xs (8 * xs.length)) = xs := by
  apply List.ext_getElem
  · rw [packL_length, unpackL_length]; omega
  · intro j h1 h2
    have hj : j < xs.length := h2
    simp only [packL, List.getElem_map, List.getElem_range]
    have e : (List.range 8).map (fun t => (unpackL xs (8 * xs.length))[8 * j + t]?.getD 0) = fromUintL (xs[j]?.getD 0) 8 := by
      unfold fromUintL unpackL
      apply List.map_congr_left
      intro t ht
      have ht' := List.mem_range.1 ht
      rw [range_map_get _ _ _ (by omega), show (8 * j + t) / 8 = j from by omega, show 7 - (8 * j + t) % 8 = 8 - 1 - t from by omega]
    unfold byteAt
    have hr := hx j
    rw [e, valueOf_fromUintL 8 _ hr.1 (by omega)]
    simp [hj]

theorem packS_bits {xs : List Int} (hb : Bits xs) : packS xs = (packL xs, 0) := by unfold packS; rw [if_neg (by rw [hb.valid]; decide)]
theorem unpackS_ok {p : List Int} {m : Nat} (h : m ≤ 8 * p.length) : unpackS p (m : Int) = (unpackL p m, 0) := by
  unfold unpackS; rw [if_neg (by omega), if_neg (by omega)]; rfl
theorem fromUintS_ok {v : Int} {n : Nat} (h0 : 0 ≤ v) (h1 : v < ((2 ^ n : Nat) : Int)) (hn : n ≤ 64) : fromUintS v (n : Int) = (fromUintL v n, 0) := by
  unfold fromUintS
  have h3 : ((2 ^ n : Nat) : Int) = (2 : Int) ^ n := by simp
  rw [h3] at h1
  rw [if_neg (by omega), Int.toNat_natCast, if_neg (by rw [Int.ediv_eq_zero_of_lt h0 h1]; simp)]
theorem uintS_bits {xs : List Int} (hb : Bits xs) (hn : xs.length ≤ 64) : uintS xs = (valueOf xs, 0) := by
  unfold uintS; rw [if_neg (by rw [hb.valid]; decide), if_neg (by omega)]

/-! ### the metric -/
theorem xorS_bits {xs ys : List Int} (hx : Bits xs) (hy : Bits ys) (hl : xs.length = ys.length) : xorS xs ys = (xorL xs ys, 0) := by
  unfold xorS; rw [if_neg (by simp [hl]), if_neg (by rw [hx.valid, hy.valid]; decide)]
theorem xorL_bits (xs ys : List Int) : Bits (xorL xs ys) := fun x hx => by
  obtain ⟨i, _, rfl⟩ := List.mem_map.1 hx
  omega
theorem weight_range (f : Nat → Int) (n : Nat) : weight ((List.range (n + 1)).map f) = weight ((List.range n).map f) + if f n = 1 then 1 else 0 := by
  rw [List.range_succ, List.map_append]
  exact weight_snoc _ _
theorem weight_congr (f g : Nat → Int) (n : Nat) (h : ∀ i, i < n → f i = g i) : weight ((List.range n).map f) = weight ((List.range n).map g) := by
  rw [List.map_congr_left (fun i hi => h i (List.mem_range.1 hi))]
theorem weight_tri (f g k : Nat → Int) (n : Nat) (h : ∀ i, i < n → f i = 1 → g i = 1 ∨ k i = 1) : weight ((List.range n).map f) ≤ weight ((List.range n).map g) + weight ((List.range n).map k) := by
  induction n with
  | zero => simp [weight]
  | succ n ih =>
    have h1 := ih (fun i hi => h i (by omega))
    have h2 := h n (by omega)
    rw [weight_range, weight_range, weight_range]
    by_cases hf : f n = 1
    · rcases h2 hf with hg | hk
      · rw [if_pos hf, if_pos hg]; split <;> omega
      · rw [if_pos hf, if_pos hk]; split <;> omega
    · rw [if_neg hf]; split <;> split <;> omega
theorem weight_zero (f : Nat → Int) (n : Nat) : weight ((List.range n).map f) = 0 ↔ ∀ i, i < n → f i ≠ 1 := by
  induction n with
  | zero => simp [weight]
  | succ n ih =>
    have h0 := (weight_le ((List.range n).map f)).1
    rw [weight_range]
    constructor
    · intro h i hi
      by_cases e : f n = 1
      · rw [if_pos e] at h; omega
      · rw [if_neg e] at h
        rcases Nat.lt_or_ge i n with h1 | h1
        · exact ih.1 (by omega) i h1
        · rw [show i = n by omega]; exact e
    · intro h
      rw [if_neg (h n (by omega)), ih.2 (fun i hi => h i (by omega))]
      rfl
section
variable {xs ys zs : List Int} {n : Nat}
theorem dist_symm (hx : xs.length = n) (hy : ys.length = n) : weight (xorL ys xs) = weight (xorL xs ys) := by
  unfold xorL
  rw [hx, hy]
  exact weight_congr _ _ _ (fun i _ => by rw [Int.add_comm])
theorem dist_tri (bx : Bits xs) (bY : Bits ys) (bz : Bits zs) (hx : xs.length = n) (hy : ys.length = n) : weight (xorL xs zs) ≤ weight (xorL xs ys) + weight (xorL ys zs) := by
  unfold xorL
  rw [hx, hy]
  refine weight_tri _ _ _ _ (fun i _ h => ?_)
  have h1 := bits_nonneg bx i
  have h2 := bits_nonneg bY i
  have h3 := bits_nonneg bz i
  omega
theorem dist_zero (bx : Bits xs) (bY : Bits ys) (hx : xs.length = n) (hy : ys.length = n) : weight (xorL xs ys) = 0 ↔ xs = ys := by
  unfold xorL
  rw [weight_zero, hx]
  constructor
  · intro h
    apply List.ext_getElem (by omega)
    intro i h1 h2
    have h3 := h i (by omega)
    have h4 := bits_nonneg bx i
    have h5 := bits_nonneg bY i
    have h6 : xs[i]?.getD 0 = ys[i]?.getD 0 := by omega
    simpa [h1, h2] using h6
  · rintro rfl i _
    have := bits_nonneg bx i
    omega
theorem dist_add (bx : Bits xs) (bY : Bits ys) (bz : Bits zs) (hx : xs.length = n) (hy : ys.length = n) : xorL (xorL xs zs) (xorL ys zs) = xorL xs ys := by
  have e1 : (xorL xs zs).length = n := by rw [xorL_length, hx]
  unfold xorL at e1 ⊢
  rw [List.length_map, List.length_range, hx, hy]
  apply List.map_congr_left
  intro i hi
  have hi' := List.mem_range.1 hi
  rw [range_map_get _ _ _ hi', range_map_get _ _ _ hi']
  have h1 := bits_nonneg bx i
  have h2 := bits_nonneg bY i
  have h3 := bits_nonneg bz i
  omega
end
theorem shl_one {k : Nat} (hk : k < 64) : ∃ P : Int, IntKind.u64.wrap (2 ^ k) = P ∧ 1 ≤ P ∧ P ≤ 9223372036854775808 ∧ ((2 ^ k : Nat) : Int) = P := by
  have h1 : 2 ^ k ≤ 2 ^ 63 := Nat.pow_le_pow_right (by decide) (by omega)
  have h2 : 2 ^ 63 = 9223372036854775808 := rfl
  have h3 : 1 ≤ 2 ^ k := Nat.one_le_two_pow
  have h4 : ((2 ^ k : Nat) : Int) = (2 : Int) ^ k := by simp
  refine ⟨((2 ^ k : Nat) : Int), ?_, by omega, by omega, rfl⟩
  rw [← h4, IntWalk.u64_in _ (by omega)]
theorem min_three (a b c : Nat) : ∃ n : Nat, (if (c : Int) < (if b < a then (b : Int) else (a : Int)) then (c : Int) else if b < a then (b : Int) else (a : Int)) = (n : Int) ∧ n ≤ a ∧ n ≤ b ∧ n ≤ c := by
  by_cases h1 : b < a
  · rw [if_pos h1]
    by_cases h2 : (c : Int) < (b : Int)
    · exact ⟨c, by rw [if_pos h2], by omega, by omega, by omega⟩
    · exact ⟨b, by rw [if_neg h2], by omega, by omega, by omega⟩
  · rw [if_neg h1]
    by_cases h2 : (c : Int) < (a : Int)
    · exact ⟨c, by rw [if_pos h2], by omega, by omega, by omega⟩
    · exact ⟨a, by rw [if_neg h2], by omega, by omega, by omega⟩
/-! ### packing bit by bit -/
def packPart (xs : List Int) (N k : Nat) : List Int := (List.range N).map (byteAt (xs.take k))
theorem valueOf8 (f : Nat → Int) : valueOf ((List.range 8).map f) = 128 * f 0 + 64 * f 1 + 32 * f 2 + 16 * f 3 + 8 * f 4 + 4 * f 5 + 2 * f 6 + f 7 := by
  simp [valueOf, List.range, List.range.loop]
  omega
theorem take_getD_succ (xs : List Int) (k i : Nat) (hk : k < xs.length) : (xs.take (k + 1))[i]?.getD 0 = (xs.take k)[i]?.getD 0 + if i = k then xs[k]?.getD 0 else 0 := by
  rw [List.getElem?_take, List.getElem?_take]
  by_cases h1 : i < k
  · rw [if_pos (by omega), if_pos h1, if_neg (by omega)]; simp
  · by_cases h2 : i = k
    · subst h2; simp
    · rw [if_neg (by omega), if_neg h1, if_neg h2]; simp
theorem byteAt_succ (xs : List Int) (k j : Nat) (hk : k < xs.length) : byteAt (xs.take (k + 1)) j = byteAt (xs.take k) j + if j = k / 8 then xs[k]?.getD 0 * ((2 ^ (7 - k % 8) : Nat) : Int) else 0 := by
  unfold byteAt
  rw [valueOf8, valueOf8]
  simp only [take_getD_succ xs k _ hk]
  generalize xs[k]?.getD 0 = x
  by_cases hj : j = k / 8
  · rw [if_pos hj]
    have h8 : k % 8 < 8 := Nat.mod_lt _ (by decide)
    have e : k = 8 * j + k % 8 := by omega
    generalize hf : (fun s => (xs.take k)[8 * j + s]?.getD 0) = f
    have hf' : ∀ s, (xs.take k)[8 * j + s]?.getD 0 = f s := fun s => by rw [← hf]
    simp only [hf']
    generalize k % 8 = t at h8 e
    have hh : ∀ s, (8 * j + s = k) ↔ (t = s) := fun s => by omega
    simp only [hh]
    rcases (show t = 0 ∨ t = 1 ∨ t = 2 ∨ t = 3 ∨ t = 4 ∨ t = 5 ∨ t = 6 ∨ t = 7 by omega) with rfl | rfl | rfl | rfl | rfl | rfl | rfl | rfl
    all_goals
      simp
      omega
  · rw [if_neg hj, if_neg (by omega), if_neg (by omega), if_neg (by omega), if_neg (by omega), if_neg (by omega), if_neg (by omega), if_neg (by omega), if_neg (by omega)]
    omega
theorem packPart_zero (xs : List Int) (N : Nat) : packPart xs N 0 = List.replicate N 0 := by
  apply List.ext_getElem
  · simp [packPart]
  · intro j h1 h2
    simp only [packPart, List.getElem_map, List.take_zero, List.getElem_replicate]
    unfold byteAt
    rw [valueOf8]
    simp
theorem packPart_succ (xs : List Int) (N k : Nat) (hk : k < xs.length) : packPart xs N (k + 1) = if xs[k]?.getD 0 = 0 then packPart xs N k else (packPart xs N k).set (k / 8) (byteAt (xs.take (k + 1)) (k / 8)) := by
  apply List.ext_getElem
  · split <;> simp [packPart]
  · intro j h1 h2
    split
    · rename_i h0
      simp only [packPart, List.getElem_map, List.getElem_range]
      rw [byteAt_succ xs k _ hk, h0]
      split <;> simp
    · rw [List.getElem_set]
      simp only [packPart, List.getElem_map, List.getElem_range]
      by_cases e : k / 8 = j
      · rw [if_pos e, e]
      · rw [if_neg e, byteAt_succ xs k _ hk, if_neg (fun h => e h.symm)]
        omega
theorem packPart_full {xs : List Int} {n N : Nat} (hl : xs.length = n) (hN : (n + 7) / 8 = N) : packPart xs N n = packL xs := by
  unfold packPart packL
  rw [hl, hN, List.take_of_length_le (by omega)]
theorem pack_step {k : Nat} {p p' : Int} (hr : 0 ≤ p' ∧ p' ≤ 255) (h : p' = p + 1 * ((2 ^ (7 - k % 8) : Nat) : Int)) : IntKind.u8.wrap (p + IntKind.u8.wrap (2 ^ (7 - (k : Int) % 8).toNat)) = p' := by
  have e : (7 - (k : Int) % 8).toNat = 7 - k % 8 := by omega
  have h4 : ((2 ^ (7 - k % 8) : Nat) : Int) = (2 : Int) ^ (7 - k % 8) := by simp
  have h1 : 2 ^ (7 - k % 8) ≤ 2 ^ 7 := Nat.pow_le_pow_right (by decide) (by omega)
  have h3 : 1 ≤ 2 ^ (7 - k % 8) := Nat.one_le_two_pow
  rw [e, ← h4, IntWalk.u8_in ((2 ^ (7 - k % 8) : Nat) : Int) (by omega), IntWalk.u8_in _ (by omega)]
  omega
end Go.Proofs.Ytjehfdnkdfmmbaa
