/-
  Interleave and Deinterleave are inverse. Mathematics.
-/
import Derived.Test.YtmehfegfkjhdcaaDoorDe
namespace Go.Proofs.YtmehfegfkjhdcaaDoor

theorem back_eq {R : Nat} {s : Bool} {l F : List Int} (hF : F.length = 32 * R) (h : ∀ k, k < 32 * R → F[idxN R s k]?.getD 0 = l[k]?.getD 0) : backI R s l = F := by
  apply list_ext0
  · rw [backI_length, hF]
  · intro m hm
    rw [hF] at hm
    obtain ⟨k, hk, rfl⟩ := idx_surj (s := s) hm
    rw [backI_at hk, h k hk]
theorem fillI_length (N : Nat) (xs : List Int) : (fillI N xs).length = N + xs.length := by simp [fillI]
theorem interI_at {s : Bool} {xs : List Int} {k : Nat} (h : k < 32 * rowsN xs.length) : (interI s xs)[k]?.getD 0 = (fillI (32 * rowsN xs.length - xs.length) xs)[idxN (rowsN xs.length) s k]?.getD 0 := range_at h
theorem back_inter {s : Bool} {xs : List Int} (h1 : 1 ≤ xs.length) (h2 : xs.length ≤ 6148) : backI (rowsN xs.length) s (interI s xs) = fillI (32 * rowsN xs.length - xs.length) xs := by
  have hr := rows_le h1 h2
  refine back_eq (by rw [fillI_length]; omega) (fun k hk => (interI_at hk).symm)
theorem fill_take (N : Nat) (xs : List Int) : (fillI N xs).take N = List.replicate N 2 := by
  unfold fillI
  have : N = (List.replicate N (2 : Int)).length := by simp
  conv => lhs; arg 1; rw [this]
  exact List.take_left
theorem fill_drop (N : Nat) (xs : List Int) : (fillI N xs).drop N = xs := by
  unfold fillI
  have : N = (List.replicate N (2 : Int)).length := by simp
  conv => lhs; arg 1; rw [this]
  exact List.drop_left
theorem rep_any (N : Nat) : (List.replicate N (2 : Int)).any (fun x => x != 2) = false := by
  rw [List.any_eq_false]
  intro x hx
  obtain ⟨_, rfl⟩ := List.mem_replicate.1 hx
  decide
theorem bad_fill {N : Nat} {xs : List Int} (hv : validB xs = true) : badI N (fillI N xs) = false := by
  unfold badI
  rw [fill_take, fill_drop, rep_any, hv]
  rfl
/-- Deinterleave of Interleave. -/
theorem de_inter {xs : List Int} {st : Int} (h1 : 1 ≤ xs.length) (h2 : xs.length ≤ 6148) (hs : okS st = true) (hv : validB xs = true) : deS (interI (shB st) xs) (xs.length : Int) st = (xs, 0) := by
  rw [deS_ok h1 h2 hs (interI_length _ _), back_inter h1 h2, if_neg (by rw [bad_fill hv]; decide), fill_drop]
/-- A matrix that is a filled stream is the one of its stream. -/
theorem fill_of {N : Nat} {F : List Int} (hN : N ≤ F.length) (h : badI N F = false) : fillI N (F.drop N) = F ∧ validB (F.drop N) = true := by
  unfold badI at h
  rw [Bool.or_eq_false_iff] at h
  obtain ⟨h1, h2⟩ := h
  refine ⟨?_, by simpa using h2⟩
  have e : F.take N = List.replicate N 2 := by
    rw [List.any_eq_false] at h1
    refine List.eq_replicate_iff.2 ⟨by rw [List.length_take]; omega, fun x hx => ?_⟩
    have := h1 x hx
    simpa using this
  unfold fillI
  rw [← e, List.take_append_drop]
/-- Interleave of what Deinterleave hands back. -/
theorem inter_de {l : List Int} {d : Nat} {s : Bool} (h1 : 1 ≤ d) (h2 : d ≤ 6148) (hl : l.length = 32 * rowsN d) (h : badI (32 * rowsN d - d) (backI (rowsN d) s l) = false) :
    ((backI (rowsN d) s l).drop (32 * rowsN d - d)).length = d ∧ interI s ((backI (rowsN d) s l).drop (32 * rowsN d - d)) = l ∧ validB ((backI (rowsN d) s l).drop (32 * rowsN d - d)) = true := by
  have hr := rows_le h1 h2
  obtain ⟨hf, hv⟩ := fill_of (by rw [backI_length]; omega) h
  have hlen : ((backI (rowsN d) s l).drop (32 * rowsN d - d)).length = d := by rw [List.length_drop, backI_length]; omega
  refine ⟨hlen, ?_, hv⟩
  apply list_ext0
  · rw [interI_length, hlen, hl]
  · intro k hk
    rw [hl] at hk
    rw [interI_at (by rw [hlen]; exact hk), hlen, hf, backI_at hk]
/-- An element that cannot be where it is. -/
def oddB (x o : Int) : Bool := decide (2 < x) || ((x == 2) != decide (o < 0))
theorem bad_odd {l : List Int} {d : Nat} {s : Bool} (h1 : 1 ≤ d) (h2 : d ≤ 6148) (h : badI (32 * rowsN d - d) (backI (rowsN d) s l) = true) (hall : ∀ k, k < 32 * rowsN d → oddB (l[k]?.getD 0) ((orderI d s)[k]?.getD 0) = false) : False := by
  have hr := rows_le h1 h2
  have hF := backI_length (rowsN d) s l
  have key : ∀ m, m < 32 * rowsN d → (m < 32 * rowsN d - d → (backI (rowsN d) s l)[m]?.getD 0 = 2) ∧ (32 * rowsN d - d ≤ m → (backI (rowsN d) s l)[m]?.getD 0 ≤ 1) := by
    intro m hm
    obtain ⟨k, hk, rfl⟩ := idx_surj (s := s) hm
    have hk2 := hall k hk
    rw [orderI_at hk] at hk2
    rw [backI_at hk]
    generalize l[k]?.getD 0 = x at *
    unfold oddB at hk2
    rw [Bool.or_eq_false_iff] at hk2
    obtain ⟨a, b⟩ := hk2
    have ha : x ≤ 2 := by simpa using a
    unfold ordE at b
    refine ⟨fun hlt => ?_, fun hge => ?_⟩
    · rw [if_pos hlt] at b
      by_cases e : x = 2
      · exact e
      · exfalso
        have : (x == 2) = false := by simp [e]
        rw [this] at b
        exact absurd b (by decide)
    · rw [if_neg (by omega)] at b
      have hn : decide (((idxN (rowsN d) s k - (32 * rowsN d - d) : Nat) : Int) < 0) = false := decide_eq_false (by omega)
      rw [hn] at b
      have : (x == 2) = false := by simpa using b
      have hx : x ≠ 2 := by simpa using this
      omega
  generalize backI (rowsN d) s l = F at *
  generalize 32 * rowsN d = S at *
  have hgood : badI (S - d) F = false := by
    unfold badI
    rw [Bool.or_eq_false_iff]
    refine ⟨?_, ?_⟩
    · rw [List.any_eq_false]
      intro x hx
      obtain ⟨m, hm, rfl⟩ := List.getElem_of_mem hx
      rw [List.length_take] at hm
      have := (key m (by omega)).1 (by omega)
      rw [List.getElem_take]
      rw [List.getElem?_eq_getElem (by omega), Option.getD_some] at this
      rw [this]
      decide
    · rw [Bool.not_eq_false']
      unfold validB
      rw [List.all_eq_true]
      intro x hx
      obtain ⟨m, hm, rfl⟩ := List.getElem_of_mem hx
      rw [List.length_drop] at hm
      have := (key (S - d + m) (by omega)).2 (by omega)
      rw [List.getElem_drop]
      rw [List.getElem?_eq_getElem (by omega), Option.getD_some] at this
      exact decide_eq_true this
  rw [hgood] at h
  cases h
theorem interS_cases (xs : List Int) (st : Int) : (interS xs st = (interI (shB st) xs, 0) ∧ okD (xs.length : Int) = true ∧ okS st = true ∧ validB xs = true) ∨ (∃ k, interS xs st = ([], k) ∧ (k = 2 ∨ k = 3)) := by
  unfold interS
  by_cases h : (okD (xs.length : Int) && okS st) = true
  · rw [if_pos h]
    rw [Bool.and_eq_true] at h
    by_cases hv : validB xs = true
    · rw [if_pos hv]
      exact .inl ⟨rfl, h.1, h.2, hv⟩
    · rw [if_neg hv]
      exact .inr ⟨3, rfl, .inr rfl⟩
  · rw [if_neg h]
    exact .inr ⟨2, rfl, .inl rfl⟩
theorem interS_le (xs : List Int) (st : Int) : (interS xs st).1.length ≤ 6176 := by
  rcases interS_cases xs st with ⟨h, h1, _, _⟩ | ⟨k, h, _⟩
  · rw [h]
    obtain ⟨d, hd, h1, h2⟩ := okD_nat h1
    have hr := rows_le h1 h2
    show (interI _ xs).length ≤ 6176
    rw [interI_length, show xs.length = d by omega]
    omega
  · rw [h]; exact Nat.zero_le _
end Go.Proofs.YtmehfegfkjhdcaaDoor
