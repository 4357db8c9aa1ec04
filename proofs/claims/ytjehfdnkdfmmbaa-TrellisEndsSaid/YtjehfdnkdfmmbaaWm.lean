/-
  The words of integers and of naturals.
-/
import Derived.Test.YtjehfdnkdfmmbaaT8
import Derived.Test.YtjehfdnkdfmmbaaL2
namespace Go.Proofs.Ytjehfdnkdfmmbaa

def natsOf (xs : List Int) : List Nat := xs.map Int.toNat
theorem natsOf_length (xs : List Int) : (natsOf xs).length = xs.length := by simp [natsOf]
theorem natsOf_bits {xs : List Int} (h : Bits xs) : Bits7 (natsOf xs) := fun u hu => by
  obtain ⟨x, hx, rfl⟩ := List.mem_map.1 hu
  rcases h x hx with rfl | rfl <;> decide
theorem ints_nats {xs : List Int} (h : Bits xs) : intsOf (natsOf xs) = xs := by
  unfold intsOf natsOf
  rw [List.map_map]
  conv => rhs; rw [← List.map_id xs]
  apply List.map_congr_left
  intro x hx
  rcases h x hx with rfl | rfl <;> rfl
theorem natsOf_get {xs : List Int} {k : Nat} (hk : k < xs.length) : (natsOf xs)[k]'(by rw [natsOf_length]; exact hk) = (xs[k]?.getD 0).toNat := by simp [natsOf, hk]
theorem runS_snoc : ∀ (us : List Nat) (s u : Nat), runS s (us ++ [u]) = nextS (runS s us) u
  | [], _, _ => rfl
  | v :: us, s, u => runS_snoc us (nextS s v) u
theorem parL_snoc : ∀ (us : List Nat) (s u : Nat), parL s (us ++ [u]) = parL s us ++ [parS7 (runS s us) u]
  | [], _, _ => rfl
  | v :: us, s, u => by rw [List.cons_append, parL, parL, runS, parL_snoc us (nextS s v) u, List.cons_append]
theorem st_nat {xs : List Int} (h : Bits xs) : ∀ k, k ≤ xs.length → stK xs k = runS 0 ((natsOf xs).take k) ∧ paL xs k = intsOf (parL 0 ((natsOf xs).take k))
  | 0, _ => ⟨rfl, rfl⟩
  | k + 1, hk => by
    obtain ⟨h1, h2⟩ := st_nat h k (by omega)
    have hl : k < (natsOf xs).length := by rw [natsOf_length]; omega
    have hx : xs[k]?.getD 0 ≤ 1 := by have := bits_nonneg h k; omega
    rw [List.take_succ_eq_append_getElem hl, runS_snoc, parL_snoc, ← h1, natsOf_get (by omega)]
    refine ⟨?_, ?_⟩
    · show goS _ _ = _
      unfold goS
      rw [if_pos hx]
    · rw [paL_snoc, h2]
      unfold paK goP
      rw [if_pos hx]
      simp [intsOf]
theorem wordI_nat {xs : List Int} (h : Bits xs) : wordI xs = intsOf (wordN (natsOf xs)) := by
  obtain ⟨h1, h2⟩ := st_nat h xs.length (Nat.le_refl _)
  rw [List.take_of_length_le (by rw [natsOf_length]; exact Nat.le_refl _)] at h1 h2
  unfold wordI wordN
  rw [h1, h2]
  have e : ∀ a b c d : List Nat, intsOf (a ++ b ++ c ++ d) = intsOf a ++ (intsOf b ++ (intsOf c ++ intsOf d)) := fun a b c d => by simp [intsOf]
  rw [e, ints_nats h]
theorem intsOf_bits {l : List Nat} (h : Bits7 l) : Bits (intsOf l) := fun x hx => by
  obtain ⟨u, hu, rfl⟩ := List.mem_map.1 hx
  have := h u hu
  omega
theorem wordI_bits {xs : List Int} (h : Bits xs) : Bits (wordI xs) := by rw [wordI_nat h]; exact intsOf_bits (wordN_bits (natsOf_bits h))
theorem nats_xor {xs ys : List Int} (hx : Bits xs) (hy : Bits ys) (hl : xs.length = ys.length) : natsOf (Go.Proofs.Ytjehfdnkdfmmbaa.xorL xs ys) = List.zipWith xorB (natsOf xs) (natsOf ys) := by
  apply List.ext_getElem
  · simp [natsOf, xorL, hl]
  · intro i h1 h2
    have hi : i < xs.length := by simpa [natsOf, xorL] using h1
    have hi2 : i < ys.length := by omega
    have a := bits_nonneg hx i
    have b := bits_nonneg hy i
    simp only [natsOf, xorL, List.getElem_map, List.getElem_range, List.getElem_zipWith, xorB]
    rw [show xs[i] = xs[i]?.getD 0 by simp [hi], show ys[i] = ys[i]?.getD 0 by simp [hi2]]
    rcases a with a | a <;> rcases b with b | b <;> rw [a, b] <;> rfl
theorem intsOf_get (l : List Nat) (i : Nat) : (intsOf l)[i]?.getD 0 = ((l[i]?.getD 0 : Nat) : Int) := by
  unfold intsOf
  rw [List.getElem?_map]
  cases l[i]? <;> rfl
theorem lin_int {xs ys : List Int} (hx : Bits xs) (hy : Bits ys) (hl : xs.length = ys.length) (i : Nat) (hi : i < 2 * xs.length + 6) :
    bits .xor .u8 ((wordI xs)[i]?.getD 0) ((wordI ys)[i]?.getD 0) = (wordI (Go.Proofs.Ytjehfdnkdfmmbaa.xorL xs ys))[i]?.getD 0 := by
  rw [xor_bit (bits_nonneg (wordI_bits hx) i) (bits_nonneg (wordI_bits hy) i), wordI_nat hx, wordI_nat hy, wordI_nat (xorL_bits xs ys), nats_xor hx hy hl,
    lin_word (by rw [natsOf_length, natsOf_length, hl]) (natsOf_bits hx) (natsOf_bits hy), intsOf_get, intsOf_get, intsOf_get]
  have l1 : i < (wordN (natsOf xs)).length := by rw [wordN_length, natsOf_length]; exact hi
  have l2 : i < (wordN (natsOf ys)).length := by rw [wordN_length, natsOf_length, ← hl]; exact hi
  rw [List.getElem?_zipWith, List.getElem?_eq_getElem l1, List.getElem?_eq_getElem l2]
  rfl
/-- At how many of the first k places two lists differ. -/
def diffC (p q : List Int) (k : Nat) : Nat := ((List.range k).filter fun i => p[i]?.getD 0 != q[i]?.getD 0).length
theorem diffC_yes {p q : List Int} {k : Nat} (h : (p[k]?.getD 0 != q[k]?.getD 0) = true) : diffC p q (k + 1) = diffC p q k + 1 := by simp only [diffC, List.range_succ, List.filter_append, List.length_append]; simp [h]
theorem diffC_no {p q : List Int} {k : Nat} (h : (p[k]?.getD 0 != q[k]?.getD 0) = false) : diffC p q (k + 1) = diffC p q k := by simp only [diffC, List.range_succ, List.filter_append, List.length_append]; simp [h]
theorem diffC_le (p q : List Int) (k : Nat) : diffC p q k ≤ k := by
  have := List.length_filter_le (fun i => p[i]?.getD 0 != q[i]?.getD 0) (List.range k)
  simpa [diffC] using this
theorem diffC_nat {a b : List Nat} (ha : Bits7 a) (hb : Bits7 b) (hl : a.length = b.length) : ∀ k, k ≤ a.length → diffC (intsOf a) (intsOf b) k = weightN (List.zipWith xorB (a.take k) (b.take k))
  | 0, _ => rfl
  | k + 1, hk => by
    have ih := diffC_nat ha hb hl k (by omega)
    have h1 : k < a.length := by omega
    have h2 : k < b.length := by omega
    have a1 := ha _ (List.getElem_mem h1)
    have b1 := hb _ (List.getElem_mem h2)
    have e1 : (intsOf a)[k]?.getD 0 = (a[k] : Int) := by rw [intsOf_get, List.getElem?_eq_getElem h1]; rfl
    have e2 : (intsOf b)[k]?.getD 0 = (b[k] : Int) := by rw [intsOf_get, List.getElem?_eq_getElem h2]; rfl
    rw [List.take_succ_eq_append_getElem h1, List.take_succ_eq_append_getElem h2, List.zipWith_append (by simp; omega), weightN_append, ← ih]
    by_cases hne : a[k] = b[k]
    · rw [diffC_no (by rw [e1, e2, hne]; simp)]
      have : xorB a[k] b[k] = 0 := by unfold xorB; omega
      simp [weightN, this]
    · rw [diffC_yes (by rw [e1, e2]; simp; omega)]
      have : xorB a[k] b[k] = 1 := by unfold xorB; omega
      simp [weightN, this]
theorem dist_int {xs ys : List Int} (hx : Bits xs) (hy : Bits ys) (hl : xs.length = ys.length) (hne : xs ≠ ys) : 6 ≤ diffC (wordI xs) (wordI ys) (2 * xs.length + 6) := by
  have h := dist6 (us := natsOf xs) (vs := natsOf ys) (by rw [natsOf_length, natsOf_length, hl]) (natsOf_bits hx) (natsOf_bits hy) (fun e => hne (by rw [← ints_nats hx, ← ints_nats hy, e]))
  have l1 : (wordN (natsOf xs)).length = 2 * xs.length + 6 := by rw [wordN_length, natsOf_length]
  have l2 : (wordN (natsOf ys)).length = 2 * xs.length + 6 := by rw [wordN_length, natsOf_length, hl]
  rw [wordI_nat hx, wordI_nat hy, diffC_nat (wordN_bits (natsOf_bits hx)) (wordN_bits (natsOf_bits hy)) (by rw [l1, l2]) _ (by rw [l1]; exact Nat.le_refl _), List.take_of_length_le (by rw [l1]; exact Nat.le_refl _), List.take_of_length_le (by rw [l2]; exact Nat.le_refl _)]
  exact h
theorem diffC_self (p : List Int) (k : Nat) : diffC p p k = 0 := by simp [diffC]
end Go.Proofs.Ytjehfdnkdfmmbaa
