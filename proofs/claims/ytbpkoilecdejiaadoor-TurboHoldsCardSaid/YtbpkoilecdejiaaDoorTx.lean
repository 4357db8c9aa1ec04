/-
  The words of integers and of naturals. The turbo code's words as lists of integers. Changed words; counts of indices.
-/
import Derived.Test.YtbpkoilecdejiaaDoorT8
import Derived.Test.YtbpkoilecdejiaaDoorLw
import Derived.Test.YtbpkoilecdejiaaDoorTbM
import Derived.Test.YtbpkoilecdejiaaDoorRd
import Derived.Test.YtbpkoilecdejiaaDoorPm
namespace Go.Proofs.YtbpkoilecdejiaaDoor
/-! ### The words of integers and of naturals. -/
section
set_option maxRecDepth 100000

def natsOf (xs : List Int) : List Nat := xs.map Int.toNat
theorem natsOf_length (xs : List Int) : (natsOf xs).length = xs.length := by simp [natsOf]
theorem natsOf_bits {xs : List Int} (h : Bits xs) : Bits7 (natsOf xs) := fun u hu => by
  obtain ⟨x, hx, rfl⟩ := List.mem_map.1 hu
  rcases h x hx with rfl | rfl <;> decide
theorem ints_nats {xs : List Int} (h : Bits xs) : intsOf (natsOf xs) = xs := by
  unfold intsOf natsOf
  rw [List.map_map]
  conv => rhs; rw [← List.map_id xs]
  apply List.map_congr_left
  intro x hx
  rcases h x hx with rfl | rfl <;> rfl
theorem natsOf_get {xs : List Int} {k : Nat} (hk : k < xs.length) : (natsOf xs)[k]'(by rw [natsOf_length]; exact hk) = (xs[k]?.getD 0).toNat := by simp [natsOf, hk]
theorem runS_snoc : ∀ (us : List Nat) (s u : Nat), runS s (us ++ [u]) = nextS (runS s us) u
  | [], _, _ => rfl
  | v :: us, s, u => runS_snoc us (nextS s v) u
theorem parL_snoc : ∀ (us : List Nat) (s u : Nat), parL s (us ++ [u]) = parL s us ++ [parS7 (runS s us) u]
  | [], _, _ => rfl
  | v :: us, s, u => by rw [List.cons_append, parL, parL, runS, parL_snoc us (nextS s v) u, List.cons_append]
theorem st_nat {xs : List Int} (h : Bits xs) : ∀ k, k ≤ xs.length → stK xs k = runS 0 ((natsOf xs).take k) ∧ paL xs k = intsOf (parL 0 ((natsOf xs).take k))
  | 0, _ => ⟨rfl, rfl⟩
  | k + 1, hk => by
    obtain ⟨h1, h2⟩ := st_nat h k (by omega)
    have hl : k < (natsOf xs).length := by rw [natsOf_length]; omega
    have hx : xs[k]?.getD 0 ≤ 1 := by have := bits_nonneg h k; omega
    rw [List.take_succ_eq_append_getElem hl, runS_snoc, parL_snoc, ← h1, natsOf_get (by omega)]
    refine ⟨?_, ?_⟩
    · show goS _ _ = _
      unfold goS
      rw [if_pos hx]
    · rw [paL_snoc, h2]
      unfold paK goP
      rw [if_pos hx]
      simp [intsOf]
theorem wordI_nat {xs : List Int} (h : Bits xs) : wordI xs = intsOf (wordN (natsOf xs)) := by
  obtain ⟨h1, h2⟩ := st_nat h xs.length (Nat.le_refl _)
  rw [List.take_of_length_le (by rw [natsOf_length]; exact Nat.le_refl _)] at h1 h2
  unfold wordI wordN
  rw [h1, h2]
  have e : ∀ a b c d : List Nat, intsOf (a ++ b ++ c ++ d) = intsOf a ++ (intsOf b ++ (intsOf c ++ intsOf d)) := fun a b c d => by simp [intsOf]
  rw [e, ints_nats h]
theorem intsOf_bits {l : List Nat} (h : Bits7 l) : Bits (intsOf l) := fun x hx => by
  obtain ⟨u, hu, rfl⟩ := List.mem_map.1 hx
  have := h u hu
  omega
theorem wordI_bits {xs : List Int} (h : Bits xs) : Bits (wordI xs) := by rw [wordI_nat h]; exact intsOf_bits (wordN_bits (natsOf_bits h))
theorem nats_xor {xs ys : List Int} (hx : Bits xs) (hy : Bits ys) (hl : xs.length = ys.length) : natsOf (Go.Proofs.YtbpkoilecdejiaaDoor.xorL xs ys) = List.zipWith xorB (natsOf xs) (natsOf ys) := by
  apply List.ext_getElem
  · simp [natsOf, xorL, hl]
  · intro i h1 h2
    have hi : i < xs.length := by simpa [natsOf, xorL] using h1
    have hi2 : i < ys.length := by omega
    have a := bits_nonneg hx i
    have b := bits_nonneg hy i
    simp only [natsOf, xorL, List.getElem_map, List.getElem_range, List.getElem_zipWith, xorB]
    rw [show xs[i] = xs[i]?.getD 0 by simp [hi], show ys[i] = ys[i]?.getD 0 by simp [hi2]]
    rcases a with a | a <;> rcases b with b | b <;> rw [a, b] <;> rfl
theorem intsOf_get (l : List Nat) (i : Nat) : (intsOf l)[i]?.getD 0 = ((l[i]?.getD 0 : Nat) : Int) := by
  unfold intsOf
  rw [List.getElem?_map]
  cases l[i]? <;> rfl
theorem lin_int {xs ys : List Int} (hx : Bits xs) (hy : Bits ys) (hl : xs.length = ys.length) (i : Nat) (hi : i < 2 * xs.length + 6) :
    bits .xor .u8 ((wordI xs)[i]?.getD 0) ((wordI ys)[i]?.getD 0) = (wordI (Go.Proofs.YtbpkoilecdejiaaDoor.xorL xs ys))[i]?.getD 0 := by
  rw [xor_bit (bits_nonneg (wordI_bits hx) i) (bits_nonneg (wordI_bits hy) i), wordI_nat hx, wordI_nat hy, wordI_nat (xorL_bits xs ys), nats_xor hx hy hl,
    lin_word (by rw [natsOf_length, natsOf_length, hl]) (natsOf_bits hx) (natsOf_bits hy), intsOf_get, intsOf_get, intsOf_get]
  have l1 : i < (wordN (natsOf xs)).length := by rw [wordN_length, natsOf_length]; exact hi
  have l2 : i < (wordN (natsOf ys)).length := by rw [wordN_length, natsOf_length, ← hl]; exact hi
  rw [List.getElem?_zipWith, List.getElem?_eq_getElem l1, List.getElem?_eq_getElem l2]
  rfl
/-- At how many of the first k places two lists differ. -/
def diffC (p q : List Int) (k : Nat) : Nat := ((List.range k).filter fun i => p[i]?.getD 0 != q[i]?.getD 0).length
theorem diffC_yes {p q : List Int} {k : Nat} (h : (p[k]?.getD 0 != q[k]?.getD 0) = true) : diffC p q (k + 1) = diffC p q k + 1 := by simp only [diffC, List.range_succ, List.filter_append, List.length_append]; simp [h]
theorem diffC_no {p q : List Int} {k : Nat} (h : (p[k]?.getD 0 != q[k]?.getD 0) = false) : diffC p q (k + 1) = diffC p q k := by simp only [diffC, List.range_succ, List.filter_append, List.length_append]; simp [h]
theorem diffC_le (p q : List Int) (k : Nat) : diffC p q k ≤ k := by
  have := List.length_filter_le (fun i => p[i]?.getD 0 != q[i]?.getD 0) (List.range k)
  simpa [diffC] using this
theorem diffC_nat {a b : List Nat} (ha : Bits7 a) (hb : Bits7 b) (hl : a.length = b.length) : ∀ k, k ≤ a.length → diffC (intsOf a) (intsOf b) k = weightN (List.zipWith xorB (a.take k) (b.take k))
  | 0, _ => rfl
  | k + 1, hk => by
    have ih := diffC_nat ha hb hl k (by omega)
    have h1 : k < a.length := by omega
    have h2 : k < b.length := by omega
    have a1 := ha _ (List.getElem_mem h1)
    have b1 := hb _ (List.getElem_mem h2)
    have e1 : (intsOf a)[k]?.getD 0 = (a[k] : Int) := by rw [intsOf_get, List.getElem?_eq_getElem h1]; rfl
    have e2 : (intsOf b)[k]?.getD 0 = (b[k] : Int) := by rw [intsOf_get, List.getElem?_eq_getElem h2]; rfl
    rw [List.take_succ_eq_append_getElem h1, List.take_succ_eq_append_getElem h2, List.zipWith_append (by simp; omega), weightN_append, ← ih]
    by_cases hne : a[k] = b[k]
    · rw [diffC_no (by rw [e1, e2, hne]; simp)]
      have : xorB a[k] b[k] = 0 := by unfold xorB; omega
      simp [weightN, this]
    · rw [diffC_yes (by rw [e1, e2]; simp; omega)]
      have : xorB a[k] b[k] = 1 := by unfold xorB; omega
      simp [weightN, this]
theorem dist_int {xs ys : List Int} (hx : Bits xs) (hy : Bits ys) (hl : xs.length = ys.length) (hne : xs ≠ ys) : 6 ≤ diffC (wordI xs) (wordI ys) (2 * xs.length + 6) := by
  have h := dist6 (us := natsOf xs) (vs := natsOf ys) (by rw [natsOf_length, natsOf_length, hl]) (natsOf_bits hx) (natsOf_bits hy) (fun e => hne (by rw [← ints_nats hx, ← ints_nats hy, e]))
  have l1 : (wordN (natsOf xs)).length = 2 * xs.length + 6 := by rw [wordN_length, natsOf_length]
  have l2 : (wordN (natsOf ys)).length = 2 * xs.length + 6 := by rw [wordN_length, natsOf_length, hl]
  rw [wordI_nat hx, wordI_nat hy, diffC_nat (wordN_bits (natsOf_bits hx)) (wordN_bits (natsOf_bits hy)) (by rw [l1, l2]) _ (by rw [l1]; exact Nat.le_refl _), List.take_of_length_le (by rw [l1]; exact Nat.le_refl _), List.take_of_length_le (by rw [l2]; exact Nat.le_refl _)]
  exact h
theorem diffC_self (p : List Int) (k : Nat) : diffC p p k = 0 := by simp [diffC]
end

/-! ### The turbo code's words as lists of integers. -/
section
set_option maxRecDepth 100000

def tbI (xs : List Int) : List Int := intsOf (tbW (piK xs.length) (natsOf xs))
theorem tbI_length (xs : List Int) : (tbI xs).length = 3 * (xs.length + 4) := by unfold tbI; rw [intsOf_length, tbW_length, natsOf_length]
theorem tbI_bits {xs : List Int} (h : Bits xs) : Bits (tbI xs) := intsOf_bits (tbW_bits (natsOf_bits h))
theorem inter_bits {xs : List Int} (h : Bits xs) : Bits (interI xs) := fun x hx => by
  obtain ⟨i, _, rfl⟩ := List.mem_map.1 hx
  exact bits_nonneg h _
theorem inter_length (xs : List Int) : (interI xs).length = xs.length := by simp [interI]
theorem nats_get (xs : List Int) (j : Nat) : (natsOf xs)[j]?.getD 0 = (xs[j]?.getD 0).toNat := by
  unfold natsOf
  rw [List.getElem?_map]
  cases xs[j]? <;> rfl
theorem nats_inter (xs : List Int) : natsOf (interI xs) = mixN (piK xs.length) (natsOf xs) := by
  apply List.ext_getElem
  · rw [natsOf_length, inter_length, mixN_length, natsOf_length]
  · intro i h1 h2
    have hi : i < xs.length := by rw [natsOf_length, inter_length] at h1; exact h1
    have e := nats_get (interI xs) i
    rw [List.getElem?_eq_getElem h1] at e
    have e2 := mixN_get (p := piK xs.length) (us := natsOf xs) (i := i) (by rw [natsOf_length]; exact hi)
    rw [List.getElem?_eq_getElem h2, nats_get] at e2
    simp only [Option.getD_some] at e e2
    rw [e, e2]
    simp [interI, hi]
theorem intsOf_append (a b : List Nat) : intsOf (a ++ b) = intsOf a ++ intsOf b := by simp [intsOf]
/-- The word, as the encoders make it. -/
theorem tbI_form {xs : List Int} (h : Bits xs) : tbI xs = xs ++ (intsOf (end0 (stK xs xs.length) (stK (interI xs) xs.length)) ++ (paL xs xs.length ++ (intsOf (end1 (stK xs xs.length) (stK (interI xs) xs.length)) ++ (paL (interI xs) xs.length ++ intsOf (end2 (stK xs xs.length) (stK (interI xs) xs.length)))))) := by
  obtain ⟨s1, p1⟩ := st_nat h xs.length (Nat.le_refl _)
  obtain ⟨s2, p2⟩ := st_nat (inter_bits h) xs.length (by rw [inter_length]; exact Nat.le_refl _)
  rw [List.take_of_length_le (by rw [natsOf_length]; exact Nat.le_refl _)] at s1 p1
  rw [List.take_of_length_le (by rw [natsOf_length, inter_length]; exact Nat.le_refl _), nats_inter] at s2 p2
  unfold tbI tbW
  rw [s1, s2, p1, p2]
  simp only [intsOf_append, ints_nats h]
theorem tb_lin_int {xs ys : List Int} (hs : IsSize xs.length) (hx : Bits xs) (hy : Bits ys) (hl : xs.length = ys.length) (i : Nat) (hi : i < 3 * (xs.length + 4)) :
    bits .xor .u8 ((tbI xs)[i]?.getD 0) ((tbI ys)[i]?.getD 0) = (tbI (Go.Proofs.YtbpkoilecdejiaaDoor.xorL xs ys))[i]?.getD 0 := by
  have hxl : (Go.Proofs.YtbpkoilecdejiaaDoor.xorL xs ys).length = xs.length := by simp [xorL]
  rw [xor_bit (bits_nonneg (tbI_bits hx) i) (bits_nonneg (tbI_bits hy) i)]
  have l1 : i < (tbW (piK xs.length) (natsOf xs)).length := by rw [tbW_length, natsOf_length]; exact hi
  have l2 : i < (tbW (piK xs.length) (natsOf ys)).length := by rw [tbW_length, natsOf_length, ← hl]; exact hi
  unfold tbI
  rw [hxl, ← hl, nats_xor hx hy hl, tbW_lin (by rw [natsOf_length, natsOf_length, hl]) (fun j _ => by rw [natsOf_length]; exact piK_lt hs j) (natsOf_bits hx) (natsOf_bits hy), intsOf_get, intsOf_get, intsOf_get,
    List.getElem?_zipWith, List.getElem?_eq_getElem l1, List.getElem?_eq_getElem l2]
  rfl
theorem tb_dist_int {xs ys : List Int} (hs : IsSize xs.length) (hx : Bits xs) (hy : Bits ys) (hl : xs.length = ys.length) (hne : xs ≠ ys) : 6 ≤ diffC (tbI xs) (tbI ys) (3 * (xs.length + 4)) := by
  have h := tbW_dist6 (p := piK xs.length) (us := natsOf xs) (vs := natsOf ys) (by rw [natsOf_length, natsOf_length, hl]) (fun j _ => by rw [natsOf_length]; exact piK_lt hs j) (natsOf_bits hx) (natsOf_bits hy) (fun e => hne (by rw [← ints_nats hx, ← ints_nats hy, e]))
  have l1 : (tbW (piK xs.length) (natsOf xs)).length = 3 * (xs.length + 4) := by rw [tbW_length, natsOf_length]
  have l2 : (tbW (piK xs.length) (natsOf ys)).length = 3 * (xs.length + 4) := by rw [tbW_length, natsOf_length, hl]
  unfold tbI
  rw [← hl, diffC_nat (tbW_bits (natsOf_bits hx)) (tbW_bits (natsOf_bits hy)) (by rw [l1, l2]) _ (by rw [l1]; exact Nat.le_refl _), List.take_of_length_le (by rw [l1]; exact Nat.le_refl _), List.take_of_length_le (by rw [l2]; exact Nat.le_refl _)]
  exact h
/-- What Encode answers; the size. -/
def tbS (xs : List Int) : List Int × Int := if isB xs.length then (if validB xs then (tbI xs, 0) else ([], 3)) else ([], 2)
def sizeS (k : Int) : Int := if isB k then 3 * (k + 4) else 0
/-- The layout. -/
def sysL (k code n : Nat) : List Int := (List.range n).map fun i => ((sysN (piK k) k code i : Nat) : Int)
def parLay (k code n : Nat) : List Int := (List.range n).map fun i => ((parN k code i : Nat) : Int)
/-- The constituent code's input. -/
def inI (xs : List Int) (code : Nat) : List Int := if code = 1 then xs else interI xs
theorem inI_length (xs : List Int) (code : Nat) : (inI xs code).length = xs.length := by
  unfold inI
  split
  · rfl
  · exact inter_length xs
theorem inI_bits {xs : List Int} (h : Bits xs) (code : Nat) : Bits (inI xs code) := by
  unfold inI
  split
  · exact h
  · exact inter_bits h
theorem nats_in (xs : List Int) (code : Nat) : natsOf (inI xs code) = inN (piK xs.length) (natsOf xs) code := by
  unfold inI inN
  split
  · rfl
  · exact nats_inter xs
/-- By the layout of either code, the word's bits are a codeword of layer 7. -/
theorem tb_code {xs : List Int} {code : Nat} (hs : IsSize xs.length) (h : Bits xs) (hc : code = 1 ∨ code = 2) :
    (List.range (xs.length + 3)).map (fun i => (tbI xs)[sysN (piK xs.length) xs.length code i]?.getD 0) = inI xs code ++ intsOf (tailU (stK (inI xs code) xs.length)) ∧
    (List.range (xs.length + 3)).map (fun i => (tbI xs)[parN xs.length code i]?.getD 0) = paL (inI xs code) xs.length ++ intsOf (tailZ (stK (inI xs code) xs.length)) := by
  obtain ⟨a, b⟩ := tbW_code (p := piK xs.length) (us := natsOf xs) hc (fun j _ => by rw [natsOf_length]; exact piK_lt hs j)
  obtain ⟨s1, p1⟩ := st_nat (inI_bits h code) xs.length (by rw [inI_length]; exact Nat.le_refl _)
  rw [List.take_of_length_le (by rw [natsOf_length, inI_length]; exact Nat.le_refl _), nats_in] at s1 p1
  rw [natsOf_length] at a b
  have a' := congrArg intsOf a
  have b' := congrArg intsOf b
  rw [intsOf_append, ← nats_in, ints_nats (inI_bits h code), nats_in] at a'
  rw [intsOf_append] at b'
  rw [s1, p1]
  refine ⟨Eq.trans ?_ a', Eq.trans ?_ b'⟩
  · unfold intsOf tbI
    rw [List.map_map]
    exact List.map_congr_left fun i _ => intsOf_get _ _
  · unfold intsOf tbI
    rw [List.map_map]
    exact List.map_congr_left fun i _ => intsOf_get _ _
end

/-! ### Changed words; counts of indices. -/
section
set_option maxRecDepth 100000

theorem diffC_succ (p q : List Int) (k : Nat) : diffC p q (k + 1) = diffC p q k + if (p[k]?.getD 0 != q[k]?.getD 0) = true then 1 else 0 := by
  by_cases h : (p[k]?.getD 0 != q[k]?.getD 0) = true
  · rw [diffC_yes h, if_pos h]
  · rw [diffC_no (by simpa using h), if_neg h, Nat.add_zero]
/-- One element's change: one more place at most. -/
theorem diffC_set (p q : List Int) (j : Nat) (v : Int) : ∀ k, diffC (p.set j v) q k ≤ diffC p q k + if j < k then 1 else 0
  | 0 => by simp [diffC]
  | k + 1 => by
    have ih := diffC_set p q j v k
    rw [diffC_succ, diffC_succ]
    by_cases hj : j = k
    · subst hj
      rw [if_neg (Nat.lt_irrefl j)] at ih
      rw [if_pos (Nat.lt_succ_self j)]
      split <;> omega
    · have e : (p.set j v)[k]?.getD 0 = p[k]?.getD 0 := by rw [List.getElem?_set_ne hj]
      rw [e]
      by_cases h1 : j < k
      · rw [if_pos h1] at ih
        rw [if_pos (by omega : j < k + 1)]
        omega
      · rw [if_neg h1] at ih
        rw [if_neg (by omega : ¬ j < k + 1)]
        omega
theorem diffC_zero {p q : List Int} : ∀ k, diffC p q k = 0 → ∀ i, i < k → p[i]?.getD 0 = q[i]?.getD 0
  | 0, _, i, hi => absurd hi (Nat.not_lt_zero i)
  | k + 1, h, i, hi => by
    rw [diffC_succ] at h
    rcases Nat.lt_or_ge i k with h1 | h1
    · exact diffC_zero k (by omega) i h1
    · obtain rfl : i = k := by omega
      by_cases e : (p[i]?.getD 0 != q[i]?.getD 0) = true
      · rw [if_pos e] at h; omega
      · simpa using e
theorem diffC_eq {p q : List Int} {k : Nat} (hp : p.length = k) (hq : q.length = k) (h : diffC p q k = 0) : p = q :=
  list_ext0 (by rw [hp, hq]) (fun i hi => diffC_zero k h i (by omega))
theorem tbI_take (xs : List Int) (h : Bits xs) : (tbI xs).take xs.length = xs := by rw [tbI_form h, List.take_left']; rfl
/-- Two words differ nowhere, or at 6 places at least. -/
theorem tb_same {xs ys : List Int} (hs : IsSize xs.length) (hx : Bits xs) (hy : Bits ys) (hl : xs.length = ys.length) : (diffC (tbI xs) (tbI ys) (3 * (xs.length + 4)) = 0 ∧ xs = ys) ∨ (6 ≤ diffC (tbI xs) (tbI ys) (3 * (xs.length + 4)) ∧ xs ≠ ys) := by
  by_cases e : xs = ys
  · exact .inl ⟨by subst e; exact diffC_self _ _, e⟩
  · exact .inr ⟨tb_dist_int hs hx hy hl e, e⟩
/-- A word with one to five changed bits is no word. -/
theorem tb_flip {xs ws : List Int} (hs : IsSize xs.length) (hx : Bits xs) (hw : Bits ws) (hl : ws.length = 3 * (xs.length + 4)) (hd : diffC ws (tbI xs) (3 * (xs.length + 4)) ≤ 5) (hne : ws ≠ tbI xs) : tbI (ws.take xs.length) ≠ ws := by
  intro e
  have hb : Bits (ws.take xs.length) := fun x hm => hw x (List.mem_of_mem_take hm)
  have hlt : (ws.take xs.length).length = xs.length := by rw [List.length_take, hl]; omega
  rcases tb_same (xs := ws.take xs.length) (ys := xs) (by rw [hlt]; exact hs) hb hx hlt with ⟨_, h2⟩ | ⟨h1, _⟩
  · exact hne (by rw [← e, h2])
  · rw [e, hlt] at h1
    omega
/-- One more at place j. -/
theorem range_add {g : Nat → Int} {n j : Nat} (_ : j < n) : ((List.range n).map g).set j (g j + 1) = (List.range n).map fun x => g x + if j = x then 1 else 0 := by
  apply List.ext_getElem
  · simp
  · intro i h1 h2
    have hi : i < n := by simpa using h2
    rw [List.getElem_set]
    by_cases e : j = i
    · subst e; simp
    · simp [e]
/-- How often each index was met: n steps of the first code's lists, m of the second's. -/
def metN (p : Nat → Nat) (k n m x : Nat) : Nat := cntF (sysN p k 1) n x + cntF (parN k 1) n x + (cntF (sysN p k 2) m x + cntF (parN k 2) m x)
def metL (k n m : Nat) : List Int := (List.range (3 * (k + 4))).map fun x => ((metN (piK k) k n m x : Nat) : Int)
theorem metL_zero (k : Nat) : metL k 0 0 = List.replicate (3 * (k + 4)) 0 := by
  apply List.ext_getElem
  · simp [metL]
  · intro i h1 h2
    simp [metL, metN, cntF]
theorem metL_get {k n m j : Nat} (hj : j < 3 * (k + 4)) : (metL k n m)[j]?.getD 0 = ((metN (piK k) k n m j : Nat) : Int) := by simp [metL, hj]
theorem cntF_succ (f : Nat → Nat) (m x : Nat) : cntF f (m + 1) x = cntF f m x + if f m = x then 1 else 0 := rfl
/-- A step of the first code, of the second: two more. -/
theorem met_one {k n m : Nat} (h1 : sysN (piK k) k 1 n < 3 * (k + 4)) (h2 : parN k 1 n < 3 * (k + 4)) (hne : sysN (piK k) k 1 n ≠ parN k 1 n) :
    ((metL k n m).set (sysN (piK k) k 1 n) ((metN (piK k) k n m (sysN (piK k) k 1 n) : Nat) + 1)).set (parN k 1 n) ((metN (piK k) k n m (parN k 1 n) : Nat) + 1) = metL k (n + 1) m := by
  unfold metL
  rw [range_add (g := fun x => ((metN (piK k) k n m x : Nat) : Int)) h1]
  have e := range_add (g := fun x => ((metN (piK k) k n m x : Nat) : Int) + if sysN (piK k) k 1 n = x then 1 else 0) h2
  simp only [if_neg hne, Int.add_zero] at e
  rw [e]
  refine List.map_congr_left fun x _ => ?_
  unfold metN
  rw [cntF_succ, cntF_succ]
  split <;> split <;> omega
theorem met_two {k n m : Nat} (h1 : sysN (piK k) k 2 m < 3 * (k + 4)) (h2 : parN k 2 m < 3 * (k + 4)) (hne : sysN (piK k) k 2 m ≠ parN k 2 m) :
    ((metL k n m).set (sysN (piK k) k 2 m) ((metN (piK k) k n m (sysN (piK k) k 2 m) : Nat) + 1)).set (parN k 2 m) ((metN (piK k) k n m (parN k 2 m) : Nat) + 1) = metL k n (m + 1) := by
  unfold metL
  rw [range_add (g := fun x => ((metN (piK k) k n m x : Nat) : Int)) h1]
  have e := range_add (g := fun x => ((metN (piK k) k n m x : Nat) : Int) + if sysN (piK k) k 2 m = x then 1 else 0) h2
  simp only [if_neg hne, Int.add_zero] at e
  rw [e]
  refine List.map_congr_left fun x _ => ?_
  unfold metN
  rw [cntF_succ, cntF_succ]
  split <;> split <;> omega
/-- In the end: twice for the input's indices, once for all others. -/
theorem met_all {k x : Nat} (hs : IsSize k) (hx : x < 3 * (k + 4)) : metN (piK k) k (k + 3) (k + 3) x = if x < k then 2 else 1 :=
  cnt_all (fun i _ => piK_lt hs i) (piK_inj hs) (fun _ hx => surj_of_inj (fun i _ => piK_lt hs i) (piK_inj hs) hx) hx
/-- A step's two indices differ. -/
theorem sys_ne_par {k code i : Nat} (hs : IsSize k) (hc : code = 1 ∨ code = 2) (hi : i < k + 3) : sysN (piK k) k code i ≠ parN k code i := by
  intro e
  have hp := piK_lt hs i
  rcases hc with rfl | rfl
  · have h1 := (sys1_in (p := piK k) _ i hi).1 e
    have h2 := (par_in (k := k) 1 _ i (.inl rfl) hi).1 rfl
    omega
  · have h1 := (sys2_in (p := piK k) _ i hi).1 e
    have h2 := (par_in (k := k) 2 _ i (.inr rfl) hi).1 rfl
    omega
end
end Go.Proofs.YtbpkoilecdejiaaDoor
