/-
  The order of a stream is a permutation of its matrix. Mathematics.
-/
import Derived.Test.YtnmkladmohjdnaaDoorSbM
namespace Go.Proofs.YtnmkladmohjdnaaDoor

/-- The matrix of the indices, with t of them filled in. -/
def mtxL (N t : Nat) : List Int := List.replicate N (-1) ++ (List.range t).map (fun i : Nat => (i : Int))
theorem mtxL_length (N t : Nat) : (mtxL N t).length = N + t := by simp [mtxL]
theorem mtxL_zero (N : Nat) : mtxL N 0 = List.replicate N (-1) := by simp [mtxL]
theorem mtxL_succ (N t : Nat) : mtxL N t ++ [(t : Int)] = mtxL N (t + 1) := by simp [mtxL, List.range_succ]
theorem mtxL_at {N t m : Nat} (h : m < N + t) : (mtxL N t)[m]?.getD 0 = ordE N m := by
  unfold mtxL ordE
  by_cases hm : m < N
  · rw [List.getElem?_append_left (by simpa using hm), if_pos hm]
    simp [hm]
  · rw [List.getElem?_append_right (by simpa using hm), if_neg hm, List.length_replicate]
    simp [show m - N < t by omega]
theorem count_map_range {f : Nat → Nat} : ∀ (j v : Nat), (∀ a b, a < j → b < j → f a = v → f b = v → a = b) → ((List.range j).map f).count v = if (∃ k, k < j ∧ f k = v) then 1 else 0 := by
  intro j v
  induction j with
  | zero =>
    intro _
    rw [if_neg (by rintro ⟨k, hk, _⟩; exact absurd hk (Nat.not_lt_zero _))]
    rfl
  | succ j ih =>
    intro hj
    rw [List.range_succ, List.map_append, List.count_append, ih (fun a b ha hb => hj a b (by omega) (by omega))]
    by_cases e : f j = v
    · rw [if_neg (by rintro ⟨k, hk, e2⟩; exact absurd (hj k j (by omega) (by omega) e2 e) (by omega)), if_pos ⟨j, by omega, e⟩]
      simp [e]
    · have h0 : List.count v (List.map f [j]) = 0 := by simp [e]
      rw [h0]
      by_cases c : ∃ k, k < j ∧ f k = v
      · obtain ⟨k, hk, e2⟩ := c
        rw [if_pos ⟨k, hk, e2⟩, if_pos ⟨k, by omega, e2⟩]
      · rw [if_neg c, if_neg]
        rintro ⟨k, hk, e2⟩
        rcases Nat.lt_or_ge k j with h | h
        · exact c ⟨k, h, e2⟩
        · obtain rfl : k = j := by omega
          exact e e2
theorem perm_range {n : Nat} {f : Nat → Nat} (hlt : ∀ k, k < n → f k < n) (hinj : ∀ a b, a < n → b < n → f a = f b → a = b) (hsur : ∀ m, m < n → ∃ k, k < n ∧ f k = m) : ((List.range n).map f).Perm (List.range n) := by
  rw [List.perm_iff_count]
  intro v
  have h2 := count_map_range (f := fun k => k) n v (fun a b _ _ e1 e2 => e1.trans e2.symm)
  rw [List.map_id'] at h2
  rw [count_map_range n v (fun a b ha hb e1 e2 => hinj a b ha hb (e1.trans e2.symm)), h2]
  by_cases h : v < n
  · rw [if_pos (hsur v h), if_pos ⟨v, h, rfl⟩]
  · rw [if_neg (by rintro ⟨k, hk, e⟩; have := hlt k hk; omega), if_neg (by rintro ⟨k, hk, e⟩; omega)]
theorem order_perm {d : Nat} {s : Bool} (h1 : 1 ≤ d) (h2 : d ≤ 6148) : (orderI d s).Perm (mtxL (32 * rowsN d - d) d) := by
  have hr := rows_le h1 h2
  have hp := perm_range (n := 32 * rowsN d) (f := idxN (rowsN d) s) (fun k _ => idx_lt (by omega)) (fun _ _ ha hb e => idx_inj ha hb e) (fun _ hm => idx_surj hm)
  have hq := hp.map (ordE (32 * rowsN d - d))
  rw [List.map_map] at hq
  have e : (List.range (32 * rowsN d)).map (ordE (32 * rowsN d - d)) = mtxL (32 * rowsN d - d) d := by
    apply list_ext0
    · rw [mtxL_length]; simp; omega
    · intro i hi
      rw [mtxL_length] at hi
      rw [mtxL_at hi, range_at (by omega)]
  rw [e] at hq
  exact hq
theorem cnt_same (a : Int) : List.count a [a] = 1 := by simp
theorem cnt_other {a b : Int} (h : b ≠ a) : List.count a [b] = 0 := by
  rw [List.count_cons, List.count_nil, if_neg (by simpa using h)]
theorem count_mtx (N d : Nat) : (mtxL N d).count (-1) = N ∧ ∀ i : Nat, i < d → (mtxL N d).count (i : Int) = 1 := by
  have base : ∀ (t : Nat), ((List.range t).map (fun i : Nat => (i : Int))).count (-1) = 0 ∧ ∀ i : Nat, ((List.range t).map (fun i : Nat => (i : Int))).count (i : Int) = if i < t then 1 else 0 := by
    intro t
    induction t with
    | zero => exact ⟨rfl, fun i => rfl⟩
    | succ t ih =>
      simp only [List.range_succ, List.map_append, List.count_append, ih.1, ih.2]
      simp only [List.map_cons, List.map_nil]
      refine ⟨by rw [cnt_other (by omega)], fun i => ?_⟩
      by_cases e : i = t
      · subst e; simp
      · have : List.count (i : Int) [(t : Int)] = 0 := cnt_other (by omega)
        rw [this]
        by_cases h : i < t
        · rw [if_pos h, if_pos (by omega)]
        · rw [if_neg h, if_neg (by omega)]
  unfold mtxL
  refine ⟨by rw [List.count_append, (base d).1]; simp, fun i hi => ?_⟩
  rw [List.count_append, (base d).2, if_pos hi]
  have : List.count (i : Int) (List.replicate N (-1)) = 0 := by
    rw [List.count_replicate]
    rw [if_neg]
    simp
  rw [this]
end Go.Proofs.YtnmkladmohjdnaaDoor
