/-
  Block sizes. Pure mathematics. The quadratic permutation polynomial interleaver: the mathematics. Lists that are filled place by place; the primes of a block size. Mathematics.
-/
import Derived.Test.YtbpkoilecdejiaaDoorBase
namespace Go.Proofs.YtbpkoilecdejiaaDoor
/-! ### Block sizes. Pure mathematics. -/
section
/-- k is a block size. -/
def IsSize (k : Nat) : Prop := (40 ≤ k ∧ k ≤ 512 ∧ k % 8 = 0) ∨ (528 ≤ k ∧ k ≤ 1024 ∧ k % 16 = 0) ∨ (1056 ≤ k ∧ k ≤ 2048 ∧ k % 32 = 0) ∨ (2112 ≤ k ∧ k ≤ 6144 ∧ k % 64 = 0)
instance (k : Nat) : Decidable (IsSize k) := by unfold IsSize; infer_instance
def nextN (n : Nat) : Nat :=
  if n ≤ 512 then 40 + (n - 40 + 7) / 8 * 8 else if n ≤ 1024 then 528 + (n - 528 + 15) / 16 * 16 else if n ≤ 2048 then 1056 + (n - 1056 + 31) / 32 * 32 else 2112 + (n - 2112 + 63) / 64 * 64
theorem nextN_size {n : Nat} (h : n ≤ 6144) : IsSize (nextN n) := by
  unfold nextN IsSize
  split
  · omega
  · split
    · omega
    · split <;> omega
theorem nextN_ge {n : Nat} (h : n ≤ 6144) : n ≤ nextN n ∧ nextN n ≤ 6144 := by
  unfold nextN
  split
  · omega
  · split
    · omega
    · split <;> omega
theorem nextN_least {n m : Nat} (h1 : n ≤ m) (h2 : m < nextN n) : ¬ IsSize m := by
  unfold nextN at h2
  unfold IsSize
  split at h2
  · omega
  · split at h2
    · omega
    · split at h2 <;> omega
theorem nextN_self {n : Nat} (h : n ≤ 6144) : nextN n = n ↔ IsSize n := by
  constructor
  · intro e; rw [← e]; exact nextN_size h
  · intro hs
    have h1 := nextN_ge h
    rcases Nat.lt_or_ge n (nextN n) with h2 | h2
    · exact absurd hs (nextN_least (Nat.le_refl _) h2)
    · omega
theorem nextN_lt {n : Nat} (h : n ≤ 6144) : nextN n ≤ max 40 (n + 63) := by
  unfold nextN
  split
  · omega
  · split
    · omega
    · split <;> omega
theorem nextN_great {n : Nat} (h : 3072 < n) : nextN n = 2112 + (n - 2112 + 63) / 64 * 64 := by
  unfold nextN
  rw [if_neg (by omega), if_neg (by omega), if_neg (by omega)]

def sizesL : List Nat := (List.range 60).map (fun i => 40 + 8 * i) ++ (List.range 32).map (fun i => 528 + 16 * i) ++ (List.range 32).map (fun i => 1056 + 32 * i) ++ (List.range 64).map (fun i => 2112 + 64 * i)
theorem sizesL_length : sizesL.length = 188 := by decide +kernel
theorem sizesL_filter : (List.range 6145).filter (fun k => decide (IsSize k)) = sizesL := by decide +kernel
end

/-! ### The quadratic permutation polynomial interleaver: the mathematics. -/
section
/-- p taken out of a number as often as it goes. -/
def strip : Nat → Nat → Nat → Nat
  | 0, _, left => left
  | fuel + 1, p, left => if left % p = 0 then strip fuel p (left / p) else left
/-- The product of the distinct primes from p on that divide what is left. -/
def radF : Nat → Nat → Nat → Nat → Nat
  | 0, _, _, acc => acc
  | fuel + 1, p, left, acc => if left ≤ 1 then acc else if left % p = 0 then radF fuel (p + 1) (strip 13 p left) (acc * p) else radF fuel (p + 1) left acc
def f2N (k : Nat) : Nat := radF 100 2 k 1
def f1N (k : Nat) : Nat := ((List.range 20).map (fun j => 3 + 2 * j)).find? (fun f => Nat.gcd f k == 1) |>.getD 0
/-- What is used of the two numbers. -/
structure QpOk (k f1 f2 : Nat) : Prop where
  pos : 0 < k
  even : k % 2 = 0
  odd : f1 % 2 = 1
  f2e : f2 % 2 = 0
  cop : Nat.gcd f1 f2 = 1
  pow : k ∣ f2 ^ 13
  le1 : f1 < 64
  le2 : f2 ≤ k
instance (k f1 f2 : Nat) : Decidable (QpOk k f1 f2) :=
  decidable_of_iff (0 < k ∧ k % 2 = 0 ∧ f1 % 2 = 1 ∧ f2 % 2 = 0 ∧ Nat.gcd f1 f2 = 1 ∧ f2 ^ 13 % k = 0 ∧ f1 < 64 ∧ f2 ≤ k)
    ⟨fun ⟨a, b, c, d, e, f, g, h⟩ => ⟨a, b, c, d, e, Nat.dvd_of_mod_eq_zero f, g, h⟩, fun ⟨a, b, c, d, e, f, g, h⟩ => ⟨a, b, c, d, e, Nat.mod_eq_zero_of_dvd f, g, h⟩⟩
theorem qpOk_all : sizesL.all (fun k => decide (QpOk k (f1N k) (f2N k))) = true := by decide +kernel
/-- The smallest odd number from 3 on that is coprime. -/
theorem f1N_all : sizesL.all (fun k => decide (Nat.gcd (f1N k) k = 1 ∧ 3 ≤ f1N k) && (List.range 20).all (fun j => decide (3 + 2 * j < f1N k → 1 < Nat.gcd (3 + 2 * j) k))) = true := by decide +kernel
theorem mem_sizesL {k : Nat} (h : IsSize k) : k ∈ sizesL := by
  rw [← sizesL_filter, List.mem_filter, List.mem_range]
  refine ⟨?_, decide_eq_true h⟩
  unfold IsSize at h
  omega
theorem qpOk_size {k : Nat} (h : IsSize k) : QpOk k (f1N k) (f2N k) := by
  have := List.all_eq_true.1 qpOk_all k (mem_sizesL h)
  simpa using this
theorem f1N_cop {k : Nat} (h : IsSize k) : Nat.gcd (f1N k) k = 1 ∧ 3 ≤ f1N k := by
  have := List.all_eq_true.1 f1N_all k (mem_sizesL h)
  rw [Bool.and_eq_true] at this
  simpa using this.1
theorem f1N_least {k f : Nat} (h : IsSize k) (h1 : 3 ≤ f) (h2 : f % 2 = 1) (h3 : f < f1N k) : 1 < Nat.gcd f k := by
  have := List.all_eq_true.1 f1N_all k (mem_sizesL h)
  rw [Bool.and_eq_true] at this
  have hl := (qpOk_size h).le1
  rcases Nat.lt_or_ge ((f - 3) / 2) 20 with h4 | h4
  · have h5 := List.all_eq_true.1 this.2 ((f - 3) / 2) (List.mem_range.2 h4)
    rw [decide_eq_true_iff, show 3 + 2 * ((f - 3) / 2) = f by omega] at h5
    exact h5 h3
  · have hf : f1N k < 43 := by
      have h6 : sizesL.all (fun k => decide (f1N k < 43)) = true := by decide +kernel
      have := List.all_eq_true.1 h6 k (mem_sizesL h)
      simpa using this
    omega
/-- The search for f1: what is found, if all below f had common divisors. -/
theorem f1N_found {k f : Nat} (h : IsSize k) (h1 : 3 ≤ f) (h2 : f % 2 = 1) (h3 : f ≤ f1N k) (hg : Nat.gcd f k = 1) : f = f1N k := by
  rcases Nat.lt_or_ge f (f1N k) with h4 | h4
  · have := f1N_least h h1 h2 h4; omega
  · omega
theorem f1N_next {k f : Nat} (h : IsSize k) (h2 : f % 2 = 1) (h3 : f ≤ f1N k) (hg : 1 < Nat.gcd f k) : f + 2 ≤ f1N k := by
  have h5 := (f1N_cop h).1
  have h6 := (qpOk_size h).odd
  rcases Nat.lt_or_ge f (f1N k) with h4 | h4
  · omega
  · obtain rfl : f = f1N k := by omega
    omega
/-! ### The loop that takes the primes -/
theorem strip_no {fuel p left : Nat} (h : left % p ≠ 0) : strip fuel p left = left := by
  cases fuel with
  | zero => rfl
  | succ n => rw [strip, if_neg h]
theorem strip_yes {fuel p left : Nat} (h : left % p = 0) : strip (fuel + 1) p left = strip fuel p (left / p) := by rw [strip, if_pos h]
/-- 13 times are enough below 8192. -/
theorem strip_full : ∀ (fuel p left : Nat), 2 ≤ p → 0 < left → left < 2 ^ fuel → strip fuel p left % p ≠ 0 ∧ strip fuel p left ∣ left ∧ 0 < strip fuel p left
  | 0, p, left, _, h0, hl => by simp at hl; omega
  | fuel + 1, p, left, hp, h0, hl => by
    by_cases h : left % p = 0
    · rw [strip_yes h]
      have hd : p ∣ left := Nat.dvd_of_mod_eq_zero h
      have h1 : 0 < left / p := Nat.div_pos (Nat.le_of_dvd h0 hd) (by omega)
      have h2 : left / p < 2 ^ fuel := by
        rw [Nat.div_lt_iff_lt_mul (by omega)]
        calc left < 2 ^ (fuel + 1) := hl
          _ = 2 ^ fuel * 2 := Nat.pow_succ ..
          _ ≤ 2 ^ fuel * p := Nat.mul_le_mul_left _ hp
      obtain ⟨a, b, c⟩ := strip_full fuel p (left / p) hp h1 h2
      exact ⟨a, Nat.dvd_trans b (Nat.div_dvd_of_dvd hd), c⟩
    · rw [strip_no h]
      exact ⟨h, Nat.dvd_refl _, h0⟩
/-- More fuel than is wanted changes nothing. -/
theorem strip_more : ∀ (fuel e p left : Nat), 2 ≤ p → 0 < left → left < 2 ^ fuel → strip (fuel + e) p left = strip fuel p left
  | 0, _, _, left, _, h0, hl => by simp at hl; omega
  | fuel + 1, e, p, left, hp, h0, hl => by
    by_cases h : left % p = 0
    · rw [show fuel + 1 + e = (fuel + e) + 1 by omega, strip_yes h, strip_yes h]
      have hd : p ∣ left := Nat.dvd_of_mod_eq_zero h
      have h1 : 0 < left / p := Nat.div_pos (Nat.le_of_dvd h0 hd) (by omega)
      have h2 : left / p < 2 ^ fuel := by
        rw [Nat.div_lt_iff_lt_mul (by omega)]
        calc left < 2 ^ (fuel + 1) := hl
          _ = 2 ^ fuel * 2 := Nat.pow_succ ..
          _ ≤ 2 ^ fuel * p := Nat.mul_le_mul_left _ hp
      exact strip_more fuel e p (left / p) hp h1 h2
    · rw [strip_no h, strip_no h]
/-- One division: what is found in the end is the same. -/
theorem strip_div {p left : Nat} (hp : 2 ≤ p) (h0 : 0 < left) (hl : left < 8192) (h : left % p = 0) : strip 13 p left = strip 13 p (left / p) := by
  have hd : p ∣ left := Nat.dvd_of_mod_eq_zero h
  have h1 : 0 < left / p := Nat.div_pos (Nat.le_of_dvd h0 hd) (by omega)
  have h2 : left / p < 2 ^ 12 := by
    rw [Nat.div_lt_iff_lt_mul (by omega)]
    have : 2 ^ 12 * 2 ≤ 2 ^ 12 * p := Nat.mul_le_mul_left _ hp
    omega
  rw [strip_yes h]
  exact (strip_more 12 1 p (left / p) hp h1 h2).symm
/-- Where the loop over p is: no number below p divides what is left. -/
structure RadAt (k p left acc : Nat) : Prop where
  p2 : 2 ≤ p
  l0 : 0 < left
  dv : left ∣ k
  no : ∀ d, 2 ≤ d → d < p → ¬ d ∣ left
  eq : 1 < left → ∃ fuel, radF fuel p left acc = f2N k ∧ p + fuel = 102
  fin : left ≤ 1 → acc = f2N k
theorem RadAt.start {k : Nat} (h : IsSize k) : RadAt k 2 k 1 := by
  have hk : 40 ≤ k := by unfold IsSize at h; omega
  exact ⟨Nat.le_refl _, by omega, Nat.dvd_refl _, fun d h1 h2 => by omega, fun _ => ⟨100, rfl, rfl⟩, fun h1 => by omega⟩
theorem RadAt.p_le {k p left acc : Nat} (h : RadAt k p left acc) (hl : 1 < left) : p ≤ left := by
  rcases Nat.lt_or_ge left p with h1 | h1
  · exact absurd (Nat.dvd_refl left) (h.no left (by omega) h1)
  · exact h1
theorem small_prime {k d : Nat} (h : IsSize k) (hd : d ∣ k) (h1 : 1 < d) : ∃ q, 2 ≤ q ∧ q < 102 ∧ q ∣ d := by
  by_cases he : d % 2 = 0
  · exact ⟨2, Nat.le_refl _, by decide, Nat.dvd_of_mod_eq_zero he⟩
  · have hj : ∃ a j, k = 2 ^ a * j ∧ 0 < j ∧ j ≤ 96 := by
      unfold IsSize at h
      rcases h with h | h | h | h
      · exact ⟨3, k / 8, by omega, by omega, by omega⟩
      · exact ⟨4, k / 16, by omega, by omega, by omega⟩
      · exact ⟨5, k / 32, by omega, by omega, by omega⟩
      · exact ⟨6, k / 64, by omega, by omega, by omega⟩
    obtain ⟨a, j, e, hj0, hj1⟩ := hj
    have hc : Nat.Coprime d 2 := by
      unfold Nat.Coprime
      rw [Nat.gcd_comm, Nat.gcd_rec]
      have : d % 2 = 1 := by omega
      rw [this]
      decide
    rw [e] at hd
    have hdj := Nat.Coprime.dvd_of_dvd_mul_left (Nat.Coprime.pow_right a hc) hd
    have := Nat.le_of_dvd hj0 hdj
    exact ⟨d, by omega, by omega, Nat.dvd_refl _⟩
theorem RadAt.p_lt {k p left acc : Nat} (h : RadAt k p left acc) (hs : IsSize k) (hl : 1 < left) : p < 102 := by
  obtain ⟨q, h1, h2, h3⟩ := small_prime hs h.dv hl
  rcases Nat.lt_or_ge q p with h4 | h4
  · exact absurd h3 (h.no q h1 h4)
  · omega
/-- One round of the loop over p. -/
theorem RadAt.step {k p left acc : Nat} (h : RadAt k p left acc) (hs : IsSize k) (hl : 1 < left) : RadAt k (p + 1) (strip 13 p left) (if left % p = 0 then acc * p else acc) := by
  have hk : k ≤ 6144 := by unfold IsSize at hs; omega
  have hk0 : 0 < k := by unfold IsSize at hs; omega
  have hle : left ≤ 6144 := Nat.le_trans (Nat.le_of_dvd hk0 h.dv) hk
  obtain ⟨a, b, c⟩ := strip_full 13 p left h.p2 h.l0 (by omega)
  have hlt := h.p_lt hs hl
  obtain ⟨fuel, e, ef⟩ := h.eq hl
  obtain ⟨f', rfl⟩ : ∃ f', fuel = f' + 1 := ⟨fuel - 1, by omega⟩
  have e2 : radF f' (p + 1) (strip 13 p left) (if left % p = 0 then acc * p else acc) = f2N k := by
    rw [← e, radF, if_neg (show ¬ left ≤ 1 by omega)]
    by_cases hm : left % p = 0
    · rw [if_pos hm, if_pos hm]
    · rw [if_neg hm, if_neg hm, strip_no hm]
  refine ⟨by have := h.p2; omega, c, Nat.dvd_trans b h.dv, fun d h1 h2 hd => ?_, fun _ => ⟨f', e2, by omega⟩, fun h1 => ?_⟩
  · rcases Nat.lt_or_ge d p with h3 | h3
    · exact h.no d h1 h3 (Nat.dvd_trans hd b)
    · obtain rfl : d = p := by omega
      exact a (Nat.mod_eq_zero_of_dvd hd)
  · rw [← e2]
    cases f' with
    | zero => rfl
    | succ n => rw [radF, if_pos h1]
/-- The permutation. -/
def piN (k f1 f2 i : Nat) : Nat := (f1 * i + f2 * i * i) % k
theorem piN_ref (k f1 f2 i : Nat) : (f1 * i + f2 * i % k * i) % k = piN k f1 f2 i := by
  unfold piN
  rw [Nat.add_mod, Nat.mul_mod (f2 * i % k) i k, Nat.mod_mod, ← Nat.mul_mod, ← Nat.add_mod]
section
variable {k f1 f2 : Nat}
theorem piN_lt (h : QpOk k f1 f2) (i : Nat) : piN k f1 f2 i < k := Nat.mod_lt _ h.pos
theorem piN_zero : piN k f1 f2 0 = 0 := by simp [piN]
theorem piN_parity (h : QpOk k f1 f2) (i : Nat) : piN k f1 f2 i % 2 = i % 2 := by
  unfold piN
  have hd : 2 ∣ k := Nat.dvd_of_mod_eq_zero h.even
  rw [Nat.mod_mod_of_dvd _ hd, Nat.add_mod, Nat.mul_mod f1 i, h.odd, Nat.mul_assoc, Nat.mul_mod f2, h.f2e]
  omega
/-- The coefficient of a difference is a unit. -/
theorem unit_cop (h : QpOk k f1 f2) (s : Nat) : Nat.Coprime (f1 + f2 * s) k := by
  have h1 : Nat.Coprime (f1 + f2 * s) f2 := by
    unfold Nat.Coprime
    rw [Nat.gcd_comm, Nat.gcd_add_mul_left_right, Nat.gcd_comm]
    exact h.cop
  exact Nat.Coprime.coprime_dvd_right h.pow (Nat.Coprime.pow_right 13 h1)
/-- Indices whose images agree modulo a divisor agree modulo it. -/
theorem pi_mod_inj (h : QpOk k f1 f2) {d i j : Nat} (hd : d ∣ k) (hij : j ≤ i) (he : piN k f1 f2 i % d = piN k f1 f2 j % d) : d ∣ i - j := by
  unfold piN at he
  rw [Nat.mod_mod_of_dvd _ hd, Nat.mod_mod_of_dvd _ hd] at he
  have h1 : d ∣ (f1 * i + f2 * i * i) - (f1 * j + f2 * j * j) := Nat.dvd_of_mod_eq_zero (Nat.sub_mod_eq_zero_of_mod_eq he)
  obtain ⟨t, rfl⟩ : ∃ t, i = j + t := ⟨i - j, by omega⟩
  rw [Nat.add_sub_cancel_left]
  have e : (f1 * (j + t) + f2 * (j + t) * (j + t)) - (f1 * j + f2 * j * j) = (f1 + f2 * (j + j + t)) * t := by
    have : f1 * (j + t) + f2 * (j + t) * (j + t) = (f1 * j + f2 * j * j) + (f1 + f2 * (j + j + t)) * t := by
      simp only [Nat.mul_add, Nat.add_mul]
      simp only [Nat.mul_assoc]
      rw [Nat.mul_comm t j]
      omega
    rw [this, Nat.add_sub_cancel_left]
  rw [e] at h1
  exact Nat.Coprime.dvd_of_dvd_mul_left (Nat.Coprime.coprime_dvd_left hd (unit_cop h _).symm) h1
theorem piN_inj (h : QpOk k f1 f2) {i j : Nat} (hi : i < k) (hj : j < k) (he : piN k f1 f2 i = piN k f1 f2 j) : i = j := by
  rcases Nat.le_total j i with h1 | h1
  · have h2 := pi_mod_inj h (Nat.dvd_refl k) h1 (by rw [he])
    have := Nat.eq_zero_of_dvd_of_lt h2 (by omega)
    omega
  · have h2 := pi_mod_inj h (Nat.dvd_refl k) h1 (by rw [he])
    have := Nat.eq_zero_of_dvd_of_lt h2 (by omega)
    omega
/-- Freedom of contention: indices a multiple of the window apart lie in windows of their own. -/
theorem piN_free (h : QpOk k f1 f2) {w n : Nat} (hw : k = w * n) {i a b : Nat} (hi : i < n) (ha : a < w) (hb : b < w) (he : piN k f1 f2 (i + a * n) / n = piN k f1 f2 (i + b * n) / n) : a = b := by
  have hn : 0 < n := by omega
  have hd : n ∣ k := ⟨w, by rw [hw, Nat.mul_comm]⟩
  have hm : ∀ c, piN k f1 f2 (i + c * n) % n = piN k f1 f2 i % n := fun c => by
    unfold piN
    rw [Nat.mod_mod_of_dvd _ hd, Nat.mod_mod_of_dvd _ hd, Nat.add_mod, Nat.mul_mod f1, Nat.add_mul_mod_self_right, ← Nat.mul_mod, Nat.mul_mod (f2 * (i + c * n)), Nat.mul_mod f2 (i + c * n), Nat.add_mul_mod_self_right, ← Nat.mul_mod f2, ← Nat.mul_mod, ← Nat.add_mod]
  have hq : piN k f1 f2 (i + a * n) = piN k f1 f2 (i + b * n) := by
    rw [← Nat.div_add_mod (piN k f1 f2 (i + a * n)) n, ← Nat.div_add_mod (piN k f1 f2 (i + b * n)) n, he, hm a, hm b]
  have hlt : ∀ c, c < w → i + c * n < k := fun c hc => by
    have : (c + 1) * n ≤ w * n := Nat.mul_le_mul_right n hc
    rw [Nat.succ_mul] at this
    omega
  have hx := piN_inj h (hlt a ha) (hlt b hb) hq
  have hy : a * n = b * n := by omega
  exact Nat.eq_of_mul_eq_mul_right hn hy
end
/-- The order, and its inverse. -/
def orderL (k : Nat) : List Nat := (List.range k).map (piN k (f1N k) (f2N k))
theorem orderL_length (k : Nat) : (orderL k).length = k := by simp [orderL]
theorem orderL_get {k i : Nat} (h : i < k) : (orderL k)[i]? = some (piN k (f1N k) (f2N k) i) := by simp [orderL, h]
theorem orderL_nodup {k : Nat} (h : IsSize k) : (orderL k).Nodup := by
  unfold orderL
  rw [List.nodup_iff_pairwise_ne, List.pairwise_map]
  refine List.Pairwise.imp_of_mem ?_ List.nodup_range
  intro a b ha hb hab he
  exact hab (piN_inj (qpOk_size h) (List.mem_range.1 ha) (List.mem_range.1 hb) he)
end

/-! ### Lists that are filled place by place; the primes of a block size. Mathematics. -/
section
/-- n zeros, in which for each i below j the element f i has become g i. -/
def putL (f : Nat → Nat) (g : Nat → Int) (n : Nat) : Nat → List Int
  | 0 => List.replicate n 0
  | j + 1 => (putL f g n j).set (f j) (g j)
section
variable {f : Nat → Nat} {g : Nat → Int} {n : Nat}
theorem putL_length : ∀ j, (putL f g n j).length = n
  | 0 => by simp [putL]
  | j + 1 => by rw [putL, List.length_set, putL_length j]
/-- A place that is not met stays 0. -/
theorem putL_no {x : Nat} : ∀ j, (∀ i, i < j → f i ≠ x) → (putL f g n j)[x]?.getD 0 = 0
  | 0, _ => by
    unfold putL
    rw [List.getElem?_replicate]
    split <;> rfl
  | j + 1, h => by
    rw [putL, List.getElem?_set_ne (h j (Nat.lt_succ_self j))]
    exact putL_no j (fun i hi => h i (by omega))
theorem putL_at {i : Nat} : ∀ j, i < j → f i < n → (∀ a b, a < j → b < j → f a = f b → a = b) → (putL f g n j)[f i]?.getD 0 = g i
  | 0, h, _, _ => absurd h (Nat.not_lt_zero _)
  | j + 1, h, hn, hinj => by
    rw [putL]
    by_cases he : i = j
    · subst he
      rw [List.getElem?_set_self (by rw [putL_length]; exact hn)]
      rfl
    · rw [List.getElem?_set_ne (fun e => he (hinj i j (by omega) (by omega) e.symm))]
      exact putL_at j (by omega) hn (fun a b ha hb => hinj a b (by omega) (by omega))
theorem list_ext0 {xs ys : List Int} (hl : xs.length = ys.length) (h : ∀ i, i < ys.length → xs[i]?.getD 0 = ys[i]?.getD 0) : xs = ys := by
  apply List.ext_getElem hl
  intro i h1 h2
  have := h i h2
  simpa [h1, h2] using this
theorem putL_id : putL (fun i => i) g n n = (List.range n).map g := by
  apply list_ext0
  · rw [putL_length]; simp
  · intro i hi
    have hi : i < n := by simpa using hi
    rw [putL_at (f := fun i => i) n hi hi (fun a b _ _ e => e)]
    simp [hi]
end
/-- No n + 1 numbers below n are distinct. -/
theorem php : ∀ (n : Nat) (f : Nat → Nat), (∀ i, i < n + 1 → f i < n) → ∃ i j, i < j ∧ j < n + 1 ∧ f i = f j
  | 0, f, h => absurd (h 0 (by omega)) (Nat.not_lt_zero _)
  | n + 1, f, h => by
    by_cases h1 : ∃ i, i < n + 1 ∧ f i = f (n + 1)
    · obtain ⟨i, hi, e⟩ := h1
      exact ⟨i, n + 1, hi, by omega, e⟩
    · have h2 : ∀ i, i < n + 1 → f i ≠ f (n + 1) := fun i hi e => h1 ⟨i, hi, e⟩
      obtain ⟨i, j, hij, hj, e⟩ := php n (fun i => if f i < f (n + 1) then f i else f i - 1) (fun i hi => by
        have a := h i (by omega)
        have b := h2 i hi
        have c := h (n + 1) (by omega)
        show (if f i < f (n + 1) then f i else f i - 1) < n
        split <;> omega)
      refine ⟨i, j, hij, by omega, ?_⟩
      have a := h2 i (by omega)
      have b := h2 j hj
      split at e <;> split at e <;> omega
theorem surj_of_inj {n : Nat} {f : Nat → Nat} (hlt : ∀ i, i < n → f i < n) (hinj : ∀ a b, a < n → b < n → f a = f b → a = b) {x : Nat} (hx : x < n) : ∃ i, i < n ∧ f i = x := by
  by_cases h : ∃ i, i < n ∧ f i = x
  · exact h
  · exfalso
    obtain ⟨i, j, hij, hj, e⟩ := php n (fun i => if i < n then f i else x) (fun i hi => by show (if i < n then f i else x) < n; split <;> first | exact hlt i (by assumption) | exact hx)
    rw [if_pos (show i < n by omega)] at e
    split at e
    · have := hinj i j (by omega) (by omega) e; omega
    · exact h ⟨i, by omega, e⟩
/-! ### The primes -/
def primF : Nat → Nat → Nat → List Nat → List Nat
  | 0, _, _, acc => acc
  | fuel + 1, p, left, acc => if left ≤ 1 then acc else if left % p = 0 then primF fuel (p + 1) (strip 13 p left) (acc ++ [p]) else primF fuel (p + 1) left acc
def primL (k : Nat) : List Nat := primF 100 2 k []
theorem primF_len : ∀ (fuel p left : Nat) (acc : List Nat), acc.length ≤ (primF fuel p left acc).length
  | 0, _, _, _ => Nat.le_refl _
  | fuel + 1, p, left, acc => by
    rw [primF]
    split
    · exact Nat.le_refl _
    · split
      · have := primF_len fuel (p + 1) (strip 13 p left) (acc ++ [p])
        rw [List.length_append] at this
        omega
      · exact primF_len fuel (p + 1) left acc
def prodL (l : List Nat) : Nat := l.foldl (· * ·) 1
def hitL (f : Nat) (l : List Nat) : Bool := l.any (fun p => f % p == 0)
theorem prim_all : sizesL.all (fun k => decide ((primL k).length ≤ 5 ∧ prodL (primL k) = f2N k) && (List.range 6).all (fun j => decide (prodL ((primL k).take j) ≤ 6144)) && (primL k).all (fun p => decide (2 ≤ p ∧ p ≤ 6144))) = true := by decide +kernel
theorem hit_all : sizesL.all (fun k => (List.range 31).all (fun j => hitL (3 + 2 * j) (primL k) == decide (1 < Nat.gcd (3 + 2 * j) k))) = true := by decide +kernel
section
variable {k : Nat} (h : IsSize k)
include h
theorem prim_len : (primL k).length ≤ 5 := by
  have := List.all_eq_true.1 prim_all k (mem_sizesL h)
  simp only [Bool.and_eq_true, decide_eq_true_eq] at this
  exact this.1.1.1
theorem prim_prod : prodL (primL k) = f2N k := by
  have := List.all_eq_true.1 prim_all k (mem_sizesL h)
  simp only [Bool.and_eq_true, decide_eq_true_eq] at this
  exact this.1.1.2
theorem prim_part {j : Nat} (hj : j ≤ 5) : prodL ((primL k).take j) ≤ 6144 := by
  have := List.all_eq_true.1 prim_all k (mem_sizesL h)
  simp only [Bool.and_eq_true, List.all_eq_true, decide_eq_true_eq] at this
  exact this.1.2 j (List.mem_range.2 (by omega))
theorem prim_mem {p : Nat} (hp : p ∈ primL k) : 2 ≤ p ∧ p ≤ 6144 := by
  have := List.all_eq_true.1 prim_all k (mem_sizesL h)
  simp only [Bool.and_eq_true, List.all_eq_true, decide_eq_true_eq] at this
  exact this.2 p hp
theorem hit_gcd {f : Nat} (h1 : 3 ≤ f) (h2 : f % 2 = 1) (h3 : f ≤ 64) : hitL f (primL k) = decide (1 < Nat.gcd f k) := by
  have := List.all_eq_true.1 hit_all k (mem_sizesL h)
  have := List.all_eq_true.1 this ((f - 3) / 2) (List.mem_range.2 (by omega))
  rw [show 3 + 2 * ((f - 3) / 2) = f by omega] at this
  exact eq_of_beq this
end
/-- Where the loop over the divisors is. -/
structure PrimAt (k p left : Nat) (acc : List Nat) : Prop where
  rad : ∃ a, RadAt k p left a
  eq : 1 < left → ∃ fuel, primF fuel p left acc = primL k ∧ p + fuel = 102
  fin : left ≤ 1 → acc = primL k
theorem PrimAt.start {k : Nat} (h : IsSize k) : PrimAt k 2 k [] := by
  have hk : 40 ≤ k := by unfold IsSize at h; omega
  exact ⟨⟨1, RadAt.start h⟩, fun _ => ⟨100, rfl, rfl⟩, fun h1 => by omega⟩
theorem PrimAt.step {k p left : Nat} {acc : List Nat} (h : PrimAt k p left acc) (hs : IsSize k) (hl : 1 < left) : PrimAt k (p + 1) (strip 13 p left) (if left % p = 0 then acc ++ [p] else acc) := by
  obtain ⟨a, hr⟩ := h.rad
  have hlt := hr.p_lt hs hl
  obtain ⟨fuel, e, ef⟩ := h.eq hl
  obtain ⟨f', rfl⟩ : ∃ f', fuel = f' + 1 := ⟨fuel - 1, by omega⟩
  have e2 : primF f' (p + 1) (strip 13 p left) (if left % p = 0 then acc ++ [p] else acc) = primL k := by
    rw [← e, primF, if_neg (show ¬ left ≤ 1 by omega)]
    by_cases hm : left % p = 0
    · rw [if_pos hm, if_pos hm]
    · rw [if_neg hm, if_neg hm, strip_no hm]
  refine ⟨⟨_, hr.step hs hl⟩, fun _ => ⟨f', e2, by omega⟩, fun h1 => ?_⟩
  rw [← e2]
  cases f' with
  | zero => rfl
  | succ n => rw [primF, if_pos h1]
theorem PrimAt.len {k p left : Nat} {acc : List Nat} (h : PrimAt k p left acc) (hs : IsSize k) : acc.length ≤ 5 := by
  have h5 := prim_len hs
  rcases Nat.lt_or_ge 1 left with h1 | h1
  · obtain ⟨fuel, e, _⟩ := h.eq h1
    have := primF_len fuel p left acc
    rw [e] at this
    omega
  · rw [h.fin h1]; exact h5
/-! ### The windows -/
theorem window_lt {k w n i p : Nat} (hw : k = w * n) (_ : i < k) (hp : p < k) : i % n * w + p / n < k := by
  have hn : 0 < n := by
    rcases Nat.eq_zero_or_pos n with h | h
    · subst h; simp at hw; omega
    · exact h
  have h1 : p / n < w := by rw [Nat.div_lt_iff_lt_mul hn]; omega
  have h2 : i % n < n := Nat.mod_lt _ hn
  have h3 : (i % n + 1) * w ≤ n * w := Nat.mul_le_mul_right w h2
  rw [Nat.succ_mul] at h3
  rw [hw, Nat.mul_comm w n]
  omega
theorem window_inj {k f1 f2 w n i j : Nat} (h : QpOk k f1 f2) (hw : k = w * n) (hi : i < k) (hj : j < k) (he : i % n * w + piN k f1 f2 i / n = j % n * w + piN k f1 f2 j / n) : i = j := by
  have hk := h.pos
  have hn : 0 < n := by
    rcases Nat.eq_zero_or_pos n with h | h
    · subst h; simp at hw; omega
    · exact h
  have hpi : ∀ i, piN k f1 f2 i / n < w := fun i => by
    rw [Nat.div_lt_iff_lt_mul hn, ← hw]
    exact piN_lt h i
  have h1 := hpi i
  have h2 := hpi j
  have hd : ∀ (a b : Nat), b < w → (a * w + b) / w = a ∧ (a * w + b) % w = b := fun a b hb => by
    have hw0 : 0 < w := by omega
    refine ⟨?_, ?_⟩
    · rw [Nat.mul_comm, Nat.mul_add_div hw0, Nat.div_eq_of_lt hb, Nat.add_zero]
    · rw [Nat.mul_comm, Nat.mul_add_mod, Nat.mod_eq_of_lt hb]
  have hr : i % n = j % n := by
    rw [← (hd (i % n) _ h1).1, ← (hd (j % n) _ h2).1, he]
  have hq : piN k f1 f2 i / n = piN k f1 f2 j / n := by
    rw [← (hd (i % n) _ h1).2, ← (hd (j % n) _ h2).2, he]
  have ei : i = i % n + i / n * n := by rw [Nat.mul_comm]; exact (Nat.mod_add_div i n).symm
  have ej : j = i % n + j / n * n := by rw [hr, Nat.mul_comm]; exact (Nat.mod_add_div j n).symm
  have hi2 : i / n < w := by rw [Nat.div_lt_iff_lt_mul hn]; omega
  have hj2 : j / n < w := by rw [Nat.div_lt_iff_lt_mul hn]; omega
  have hab := piN_free h hw (i := i % n) (a := i / n) (b := j / n) (Nat.mod_lt _ hn) hi2 hj2 (by rw [← ei, ← ej]; exact hq)
  rw [ei, hab, ← ej]
end
end Go.Proofs.YtbpkoilecdejiaaDoor
