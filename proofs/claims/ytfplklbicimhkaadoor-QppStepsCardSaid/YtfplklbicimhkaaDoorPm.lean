/-
  Lists that are filled place by place; the primes of a block size. Mathematics.
-/
import Derived.Test.YtfplklbicimhkaaDoorQpM
namespace Go.Proofs.YtfplklbicimhkaaDoor

/-- n zeros, in which for each i below j the element f i has become g i. -/
def putL (f : Nat → Nat) (g : Nat → Int) (n : Nat) : Nat → List Int
  | 0 => List.replicate n 0
  | j + 1 => (putL f g n j).set (f j) (g j)
section
variable {f : Nat → Nat} {g : Nat → Int} {n : Nat}
theorem putL_length : ∀ j, (putL f g n j).length = n
  | 0 => by simp [putL]
  | j + 1 => by rw [putL, List.length_set, putL_length j]
/-- A place that is not met stays 0. -/
theorem putL_no {x : Nat} : ∀ j, (∀ i, i < j → f i ≠ x) → (putL f g n j)[x]?.getD 0 = 0
  | 0, _ => by
    unfold putL
    rw [List.getElem?_replicate]
    split <;> rfl
  | j + 1, h => by
    rw [putL, List.getElem?_set_ne (h j (Nat.lt_succ_self j))]
    exact putL_no j (fun i hi => h i (by omega))
theorem putL_at {i : Nat} : ∀ j, i < j → f i < n → (∀ a b, a < j → b < j → f a = f b → a = b) → (putL f g n j)[f i]?.getD 0 = g i
  | 0, h, _, _ => absurd h (Nat.not_lt_zero _)
  | j + 1, h, hn, hinj => by
    rw [putL]
    by_cases he : i = j
    · subst he
      rw [List.getElem?_set_self (by rw [putL_length]; exact hn)]
      rfl
    · rw [List.getElem?_set_ne (fun e => he (hinj i j (by omega) (by omega) e.symm))]
      exact putL_at j (by omega) hn (fun a b ha hb => hinj a b (by omega) (by omega))
theorem list_ext0 {xs ys : List Int} (hl : xs.length = ys.length) (h : ∀ i, i < ys.length → xs[i]?.getD 0 = ys[i]?.getD 0) : xs = ys := by
  apply List.ext_getElem hl
  intro i h1 h2
  have := h i h2
  simpa [h1, h2] using this
theorem putL_id : putL (fun i => i) g n n = (List.range n).map g := by
  apply list_ext0
  · rw [putL_length]; simp
  · intro i hi
    have hi : i < n := by simpa using hi
    rw [putL_at (f := fun i => i) n hi hi (fun a b _ _ e => e)]
    simp [hi]
end
/-- No n + 1 numbers below n are distinct. -/
theorem php : ∀ (n : Nat) (f : Nat → Nat), (∀ i, i < n + 1 → f i < n) → ∃ i j, i < j ∧ j < n + 1 ∧ f i = f j
  | 0, f, h => absurd (h 0 (by omega)) (Nat.not_lt_zero _)
  | n + 1, f, h => by
    by_cases h1 : ∃ i, i < n + 1 ∧ f i = f (n + 1)
    · obtain ⟨i, hi, e⟩ := h1
      exact ⟨i, n + 1, hi, by omega, e⟩
    · have h2 : ∀ i, i < n + 1 → f i ≠ f (n + 1) := fun i hi e => h1 ⟨i, hi, e⟩
      obtain ⟨i, j, hij, hj, e⟩ := php n (fun i => if f i < f (n + 1) then f i else f i - 1) (fun i hi => by
        have a := h i (by omega)
        have b := h2 i hi
        have c := h (n + 1) (by omega)
        show (if f i < f (n + 1) then f i else f i - 1) < n
        split <;> omega)
      refine ⟨i, j, hij, by omega, ?_⟩
      have a := h2 i (by omega)
      have b := h2 j hj
      split at e <;> split at e <;> omega
theorem surj_of_inj {n : Nat} {f : Nat → Nat} (hlt : ∀ i, i < n → f i < n) (hinj : ∀ a b, a < n → b < n → f a = f b → a = b) {x : Nat} (hx : x < n) : ∃ i, i < n ∧ f i = x := by
  by_cases h : ∃ i, i < n ∧ f i = x
  · exact h
  · exfalso
    obtain ⟨i, j, hij, hj, e⟩ := php n (fun i => if i < n then f i else x) (fun i hi => by show (if i < n then f i else x) < n; split <;> first | exact hlt i (by assumption) | exact hx)
    rw [if_pos (show i < n by omega)] at e
    split at e
    · have := hinj i j (by omega) (by omega) e; omega
    · exact h ⟨i, by omega, e⟩
/-! ### The primes -/
def primF : Nat → Nat → Nat → List Nat → List Nat
  | 0, _, _, acc => acc
  | fuel + 1, p, left, acc => if left ≤ 1 then acc else if left % p = 0 then primF fuel (p + 1) (strip 13 p left) (acc ++ [p]) else primF fuel (p + 1) left acc
def primL (k : Nat) : List Nat := primF 100 2 k []
theorem primF_len : ∀ (fuel p left : Nat) (acc : List Nat), acc.length ≤ (primF fuel p left acc).length
  | 0, _, _, _ => Nat.le_refl _
  | fuel + 1, p, left, acc => by
    rw [primF]
    split
    · exact Nat.le_refl _
    · split
      · have := primF_len fuel (p + 1) (strip 13 p left) (acc ++ [p])
        rw [List.length_append] at this
        omega
      · exact primF_len fuel (p + 1) left acc
def prodL (l : List Nat) : Nat := l.foldl (· * ·) 1
def hitL (f : Nat) (l : List Nat) : Bool := l.any (fun p => f % p == 0)
theorem prim_all : sizesL.all (fun k => decide ((primL k).length ≤ 5 ∧ prodL (primL k) = f2N k) && (List.range 6).all (fun j => decide (prodL ((primL k).take j) ≤ 6144)) && (primL k).all (fun p => decide (2 ≤ p ∧ p ≤ 6144))) = true := by decide +kernel
theorem hit_all : sizesL.all (fun k => (List.range 31).all (fun j => hitL (3 + 2 * j) (primL k) == decide (1 < Nat.gcd (3 + 2 * j) k))) = true := by decide +kernel
section
variable {k : Nat} (h : IsSize k)
include h
theorem prim_len : (primL k).length ≤ 5 := by
  have := List.all_eq_true.1 prim_all k (mem_sizesL h)
  simp only [Bool.and_eq_true, decide_eq_true_eq] at this
  exact this.1.1.1
theorem prim_prod : prodL (primL k) = f2N k := by
  have := List.all_eq_true.1 prim_all k (mem_sizesL h)
  simp only [Bool.and_eq_true, decide_eq_true_eq] at this
  exact this.1.1.2
theorem prim_part {j : Nat} (hj : j ≤ 5) : prodL ((primL k).take j) ≤ 6144 := by
  have := List.all_eq_true.1 prim_all k (mem_sizesL h)
  simp only [Bool.and_eq_true, List.all_eq_true, decide_eq_true_eq] at this
  exact this.1.2 j (List.mem_range.2 (by omega))
theorem prim_mem {p : Nat} (hp : p ∈ primL k) : 2 ≤ p ∧ p ≤ 6144 := by
  have := List.all_eq_true.1 prim_all k (mem_sizesL h)
  simp only [Bool.and_eq_true, List.all_eq_true, decide_eq_true_eq] at this
  exact this.2 p hp
theorem hit_gcd {f : Nat} (h1 : 3 ≤ f) (h2 : f % 2 = 1) (h3 : f ≤ 64) : hitL f (primL k) = decide (1 < Nat.gcd f k) := by
  have := List.all_eq_true.1 hit_all k (mem_sizesL h)
  have := List.all_eq_true.1 this ((f - 3) / 2) (List.mem_range.2 (by omega))
  rw [show 3 + 2 * ((f - 3) / 2) = f by omega] at this
  exact eq_of_beq this
end
/-- Where the loop over the divisors is. -/
structure PrimAt (k p left : Nat) (acc : List Nat) : Prop where
  rad : ∃ a, RadAt k p left a
  eq : 1 < left → ∃ fuel, primF fuel p left acc = primL k ∧ p + fuel = 102
  fin : left ≤ 1 → acc = primL k
theorem PrimAt.start {k : Nat} (h : IsSize k) : PrimAt k 2 k [] := by
  have hk : 40 ≤ k := by unfold IsSize at h; omega
  exact ⟨⟨1, RadAt.start h⟩, fun _ => ⟨100, rfl, rfl⟩, fun h1 => by omega⟩
theorem PrimAt.step {k p left : Nat} {acc : List Nat} (h : PrimAt k p left acc) (hs : IsSize k) (hl : 1 < left) : PrimAt k (p + 1) (strip 13 p left) (if left % p = 0 then acc ++ [p] else acc) := by
  obtain ⟨a, hr⟩ := h.rad
  have hlt := hr.p_lt hs hl
  obtain ⟨fuel, e, ef⟩ := h.eq hl
  obtain ⟨f', rfl⟩ : ∃ f', fuel = f' + 1 := ⟨fuel - 1, by omega⟩
  have e2 : primF f' (p + 1) (strip 13 p left) (if left % p = 0 then acc ++ [p] else acc) = primL k := by
    rw [← e, primF, if_neg (show ¬ left ≤ 1 by omega)]
    by_cases hm : left % p = 0
    · rw [if_pos hm, if_pos hm]
    · rw [if_neg hm, if_neg hm, strip_no hm]
  refine ⟨⟨_, hr.step hs hl⟩, fun _ => ⟨f', e2, by omega⟩, fun h1 => ?_⟩
  rw [← e2]
  cases f' with
  | zero => rfl
  | succ n => rw [primF, if_pos h1]
theorem PrimAt.len {k p left : Nat} {acc : List Nat} (h : PrimAt k p left acc) (hs : IsSize k) : acc.length ≤ 5 := by
  have h5 := prim_len hs
  rcases Nat.lt_or_ge 1 left with h1 | h1
  · obtain ⟨fuel, e, _⟩ := h.eq h1
    have := primF_len fuel p left acc
    rw [e] at this
    omega
  · rw [h.fin h1]; exact h5
/-! ### The windows -/
theorem window_lt {k w n i p : Nat} (hw : k = w * n) (_ : i < k) (hp : p < k) : i % n * w + p / n < k := by
  have hn : 0 < n := by
    rcases Nat.eq_zero_or_pos n with h | h
    · subst h; simp at hw; omega
    · exact h
  have h1 : p / n < w := by rw [Nat.div_lt_iff_lt_mul hn]; omega
  have h2 : i % n < n := Nat.mod_lt _ hn
  have h3 : (i % n + 1) * w ≤ n * w := Nat.mul_le_mul_right w h2
  rw [Nat.succ_mul] at h3
  rw [hw, Nat.mul_comm w n]
  omega
theorem window_inj {k f1 f2 w n i j : Nat} (h : QpOk k f1 f2) (hw : k = w * n) (hi : i < k) (hj : j < k) (he : i % n * w + piN k f1 f2 i / n = j % n * w + piN k f1 f2 j / n) : i = j := by
  have hk := h.pos
  have hn : 0 < n := by
    rcases Nat.eq_zero_or_pos n with h | h
    · subst h; simp at hw; omega
    · exact h
  have hpi : ∀ i, piN k f1 f2 i / n < w := fun i => by
    rw [Nat.div_lt_iff_lt_mul hn, ← hw]
    exact piN_lt h i
  have h1 := hpi i
  have h2 := hpi j
  have hd : ∀ (a b : Nat), b < w → (a * w + b) / w = a ∧ (a * w + b) % w = b := fun a b hb => by
    have hw0 : 0 < w := by omega
    refine ⟨?_, ?_⟩
    · rw [Nat.mul_comm, Nat.mul_add_div hw0, Nat.div_eq_of_lt hb, Nat.add_zero]
    · rw [Nat.mul_comm, Nat.mul_add_mod, Nat.mod_eq_of_lt hb]
  have hr : i % n = j % n := by
    rw [← (hd (i % n) _ h1).1, ← (hd (j % n) _ h2).1, he]
  have hq : piN k f1 f2 i / n = piN k f1 f2 j / n := by
    rw [← (hd (i % n) _ h1).2, ← (hd (j % n) _ h2).2, he]
  have ei : i = i % n + i / n * n := by rw [Nat.mul_comm]; exact (Nat.mod_add_div i n).symm
  have ej : j = i % n + j / n * n := by rw [hr, Nat.mul_comm]; exact (Nat.mod_add_div j n).symm
  have hi2 : i / n < w := by rw [Nat.div_lt_iff_lt_mul hn]; omega
  have hj2 : j / n < w := by rw [Nat.div_lt_iff_lt_mul hn]; omega
  have hab := piN_free h hw (i := i % n) (a := i / n) (b := j / n) (Nat.mod_lt _ hn) hi2 hj2 (by rw [← ei, ← ej]; exact hq)
  rw [ei, hab, ← ej]
end Go.Proofs.YtfplklbicimhkaaDoor
