/-
  Plain mathematics of runs: what one more element does. No program is named here.
-/
import Derived.Test.YtdjnmebgiabecaaBits3
namespace Go.Proofs.Ytdjnmebgiabecaa

theorem runsL_cons (x : Int) (xs : List Int) : runsL (x :: xs) = match runsL xs with
    | [] => [(1, x)]
    | (n, y) :: r => if x = y then (n + 1, y) :: r else (1, x) :: (n, y) :: r := rfl
theorem runsL_ne {xs : List Int} (h : xs ≠ []) : runsL xs ≠ [] := by
  cases xs with
  | nil => exact absurd rfl h
  | cons x xs =>
    rw [runsL_cons]
    split
    · simp
    · split <;> simp
theorem runsL_snoc_new (xs : List Int) (x : Int) (h : xs.getLast? ≠ some x) : runsL (xs ++ [x]) = runsL xs ++ [(1, x)] := by
  induction xs with
  | nil => rfl
  | cons y ys ih =>
    rw [List.cons_append, runsL_cons, runsL_cons]
    cases ys with
    | nil =>
      have hne : ¬ y = x := by simpa using h
      simp [runsL, hne]
    | cons z zs =>
      have h' : (z :: zs).getLast? ≠ some x := by rwa [List.getLast?_cons_cons] at h
      rw [ih h']
      have hn := runsL_ne (xs := z :: zs) (by simp)
      cases hr : runsL (z :: zs) with
      | nil => exact absurd hr hn
      | cons p r =>
        obtain ⟨m, q⟩ := p
        simp only [List.cons_append]
        split <;> rfl
theorem runsL_snoc_same (xs : List Int) (x : Int) (h : xs.getLast? = some x) : ∃ i m, runsL xs = i ++ [(m, x)] ∧ runsL (xs ++ [x]) = i ++ [(m + 1, x)] := by
  induction xs with
  | nil => simp at h
  | cons y ys ih =>
    rw [List.cons_append, runsL_cons, runsL_cons]
    cases ys with
    | nil =>
      have hy : y = x := by simpa using h
      subst hy
      exact ⟨[], 1, by simp [runsL], by simp [runsL]⟩
    | cons z zs =>
      have h' : (z :: zs).getLast? = some x := by rwa [List.getLast?_cons_cons] at h
      obtain ⟨i, m, h1, h2⟩ := ih h'
      rw [h1, h2]
      cases i with
      | nil =>
        simp only [List.nil_append]
        by_cases e : y = x
        · subst e
          rw [if_pos rfl, if_pos rfl]
          exact ⟨[], m + 1, rfl, rfl⟩
        · rw [if_neg e, if_neg e]
          exact ⟨[(1, y)], m, rfl, rfl⟩
      | cons p r =>
        obtain ⟨l, q⟩ := p
        simp only [List.cons_append]
        by_cases e : y = q
        · rw [if_pos e, if_pos e]
          exact ⟨(l + 1, q) :: r, m, rfl, rfl⟩
        · rw [if_neg e, if_neg e]
          exact ⟨(1, y) :: (l, q) :: r, m, rfl, rfl⟩
/-- In the reference's words: what the k-th element does to the runs of the first k. -/
theorem runs_new {xs : List Int} {k : Nat} (hk : k < xs.length) (h : k = 0 ∨ xs[k]?.getD 0 ≠ xs[k - 1]?.getD 0) : runsL (xs.take (k + 1)) = runsL (xs.take k) ++ [(1, xs[k]?.getD 0)] := by
  rw [take_snoc xs k hk 0]
  refine runsL_snoc_new _ _ (fun he => ?_)
  rcases Nat.eq_zero_or_pos k with h0 | h0
  · subst h0; simp at he
  · rw [List.getLast?_eq_getElem?, List.length_take, List.getElem?_take] at he
    rw [Nat.min_eq_left (by omega), if_pos (by omega)] at he
    rcases h with h | h
    · omega
    · rw [he] at h; exact h rfl
theorem runs_same {xs : List Int} {k : Nat} (hk : k < xs.length) (h0 : 0 < k) (h : xs[k]?.getD 0 = xs[k - 1]?.getD 0) :
    ∃ i m, runsL (xs.take k) = i ++ [(m, xs[k]?.getD 0)] ∧ runsL (xs.take (k + 1)) = i ++ [(m + 1, xs[k]?.getD 0)] := by
  rw [take_snoc xs k hk 0]
  refine runsL_snoc_same _ _ ?_
  rw [List.getLast?_eq_getElem?, List.length_take, List.getElem?_take, Nat.min_eq_left (by omega), if_pos (by omega), h]
  have : k - 1 < xs.length := by omega
  simp [this]
theorem runs_len (xs : List Int) : (runsL xs).length ≤ xs.length := by
  induction xs with
  | nil => simp [runsL]
  | cons x xs ih =>
    rw [runsL_cons]
    split
    · simp
    · rename_i n y r e
      rw [e] at ih
      split <;> simp at ih ⊢ <;> omega
theorem runs_lengths (xs : List Int) : ∀ p ∈ runsL xs, p.1 ≤ xs.length := by
  induction xs with
  | nil => simp [runsL]
  | cons x xs ih =>
    rw [runsL_cons]
    split
    · simp
    · rename_i n y r e
      rw [e] at ih
      split
      · intro p hp
        rcases List.mem_cons.1 hp with h | h
        · subst h; have := ih (n, y) (by simp); simp at this ⊢; omega
        · have := ih p (by simp [h]); simp; omega
      · intro p hp
        rcases List.mem_cons.1 hp with h | h
        · subst h; simp
        · have := ih p h; simp; omega
end Go.Proofs.Ytdjnmebgiabecaa
