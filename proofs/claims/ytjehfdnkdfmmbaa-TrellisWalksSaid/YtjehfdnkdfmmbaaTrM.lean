/-
  The convolutional code: the mathematics. No program is named here.
-/
namespace Go.Proofs.Ytjehfdnkdfmmbaa

def fbN (s u : Nat) : Nat := (u + s / 2 % 2 + s % 2) % 2
def nextS (s u : Nat) : Nat := 4 * fbN s u + 2 * (s / 4) + s / 2 % 2
def parS7 (s u : Nat) : Nat := (fbN s u + s / 4 + s % 2) % 2
def tailIn (s : Nat) : Nat := (s / 2 + s) % 2
/-- The state behind the inputs; the parity bits. -/
def runS : Nat → List Nat → Nat
  | s, [] => s
  | s, u :: us => runS (nextS s u) us
def parL : Nat → List Nat → List Nat
  | _, [] => []
  | s, u :: us => parS7 s u :: parL (nextS s u) us
def tailU (s : Nat) : List Nat := [tailIn s, tailIn (nextS s (tailIn s)), tailIn (nextS (nextS s (tailIn s)) (tailIn (nextS s (tailIn s))))]
def tailZ (s : Nat) : List Nat := parL s (tailU s)
def wordN (us : List Nat) : List Nat := us ++ parL 0 us ++ tailU (runS 0 us) ++ tailZ (runS 0 us)
def Bit (u : Nat) : Prop := u < 2
def Bits7 (us : List Nat) : Prop := ∀ u ∈ us, u < 2
theorem step_lt : ∀ s, s < 8 → ∀ u, u < 2 → nextS s u < 8 ∧ parS7 s u < 2 := by decide
theorem tailIn_lt (s : Nat) : tailIn s < 2 := Nat.mod_lt _ (by decide)
theorem next_ne : ∀ s, s < 8 → nextS s 0 ≠ nextS s 1 := by decide
theorem tail_end : ∀ s, s < 8 → runS s (tailU s) = 0 := by decide
theorem runS_lt : ∀ (us : List Nat) (s : Nat), s < 8 → Bits7 us → runS s us < 8
  | [], _, h, _ => h
  | u :: us, s, h, hb => runS_lt us _ (step_lt s h u (hb u (by simp))).1 (fun v hv => hb v (by simp [hv]))
theorem parL_length : ∀ (us : List Nat) (s : Nat), (parL s us).length = us.length
  | [], _ => rfl
  | u :: us, s => by rw [parL, List.length_cons, parL_length us, List.length_cons]
theorem wordN_length (us : List Nat) : (wordN us).length = 2 * us.length + 6 := by
  unfold wordN tailZ
  simp only [List.length_append, parL_length]
  simp [tailU]
  omega
theorem parL_bits : ∀ (us : List Nat) (s : Nat), s < 8 → Bits7 us → Bits7 (parL s us)
  | [], _, _, _ => by intro v hv; cases hv
  | u :: us, s, h, hb => by
    intro v hv
    rw [parL, List.mem_cons] at hv
    rcases hv with rfl | hv
    · exact (step_lt s h u (hb u (by simp))).2
    · exact parL_bits us _ (step_lt s h u (hb u (by simp))).1 (fun v hv => hb v (by simp [hv])) v hv
theorem tailU_bits (s : Nat) : Bits7 (tailU s) := by
  intro v hv
  simp only [tailU, List.mem_cons, List.not_mem_nil, or_false] at hv
  rcases hv with rfl | rfl | rfl <;> exact tailIn_lt _
theorem wordN_bits {us : List Nat} (hb : Bits7 us) : Bits7 (wordN us) := by
  intro v hv
  have hs := runS_lt us 0 (by decide) hb
  simp only [wordN, List.mem_append] at hv
  rcases hv with ((hv | hv) | hv) | hv
  · exact hb v hv
  · exact parL_bits us 0 (by decide) hb v hv
  · exact tailU_bits _ v hv
  · exact parL_bits _ _ hs (tailU_bits _) v hv
/-! ### Linearity -/
def stX (s t : Nat) : Nat := s ^^^ t
def xorB (a b : Nat) : Nat := (a + b) % 2
theorem lin_step : ∀ s, s < 8 → ∀ t, t < 8 → ∀ u, u < 2 → ∀ v, v < 2 → nextS (stX s t) (xorB u v) = stX (nextS s u) (nextS t v) ∧ parS7 (stX s t) (xorB u v) = xorB (parS7 s u) (parS7 t v) ∧ tailIn (stX s t) = xorB (tailIn s) (tailIn t) := by decide +kernel
theorem lin_run : ∀ (us vs : List Nat) (s t : Nat), s < 8 → t < 8 → us.length = vs.length → Bits7 us → Bits7 vs →
    runS (stX s t) (List.zipWith xorB us vs) = stX (runS s us) (runS t vs) ∧ parL (stX s t) (List.zipWith xorB us vs) = List.zipWith xorB (parL s us) (parL t vs)
  | [], [], _, _, _, _, _, _, _ => ⟨rfl, rfl⟩
  | [], _ :: _, _, _, _, _, h, _, _ => by cases h
  | _ :: _, [], _, _, _, _, h, _, _ => by cases h
  | u :: us, v :: vs, s, t, hs, ht, hl, hu, hv => by
    have hu0 := hu u (by simp)
    have hv0 := hv v (by simp)
    obtain ⟨a, b, _⟩ := lin_step s hs t ht u hu0 v hv0
    obtain ⟨c, d⟩ := lin_run us vs (nextS s u) (nextS t v) (step_lt s hs u hu0).1 (step_lt t ht v hv0).1 (by simpa using hl) (fun w hw => hu w (by simp [hw])) (fun w hw => hv w (by simp [hw]))
    refine ⟨?_, ?_⟩
    · rw [List.zipWith_cons_cons, runS, a, c]; rfl
    · rw [List.zipWith_cons_cons, parL, a, b, d]; rfl
theorem lin_tail : ∀ s, s < 8 → ∀ t, t < 8 → tailU (stX s t) = List.zipWith xorB (tailU s) (tailU t) ∧ tailZ (stX s t) = List.zipWith xorB (tailZ s) (tailZ t) := by decide +kernel
theorem lin_word {us vs : List Nat} (hl : us.length = vs.length) (hu : Bits7 us) (hv : Bits7 vs) : wordN (List.zipWith xorB us vs) = List.zipWith xorB (wordN us) (wordN vs) := by
  obtain ⟨a, b⟩ := lin_run us vs 0 0 (by decide) (by decide) hl hu hv
  rw [show stX 0 0 = 0 from rfl] at a b
  obtain ⟨c, d⟩ := lin_tail _ (runS_lt us 0 (by decide) hu) _ (runS_lt vs 0 (by decide) hv)
  have l1 : (parL 0 us).length = (parL 0 vs).length := by rw [parL_length, parL_length, hl]
  unfold wordN
  rw [a, b, c, d, List.zipWith_append (by simp only [List.length_append, l1, hl, tailU, List.length_cons, List.length_nil]), List.zipWith_append (by simp only [List.length_append, l1, hl]), List.zipWith_append hl]
/-! ### The distance -/
def weightN (us : List Nat) : Nat := us.foldr (· + ·) 0
theorem weightN_append (a b : List Nat) : weightN (a ++ b) = weightN a + weightN b := by
  induction a with
  | nil => simp [weightN]
  | cons x a ih => simp only [weightN, List.cons_append, List.foldr_cons] at ih ⊢; omega
/-- What is at least still to come from a state on. -/
def pot : Nat → Nat
  | 0 => 0 | 1 => 2 | 2 => 3 | 3 => 3 | 4 => 4 | 5 => 4 | 6 => 3 | 7 => 3 | _ => 0
theorem pot_end : ∀ s, s < 8 → pot s ≤ weightN (tailU s) + weightN (tailZ s) := by decide
theorem pot_step : ∀ s, s < 8 → ∀ u, u < 2 → pot s ≤ u + parS7 s u + pot (nextS s u) := by decide
/-- The weight of what is behind a state: inputs, parity bits, tail. -/
def restW (s : Nat) (us : List Nat) : Nat := weightN us + weightN (parL s us) + (weightN (tailU (runS s us)) + weightN (tailZ (runS s us)))
theorem restW_cons (s u : Nat) (us : List Nat) : restW s (u :: us) = u + parS7 s u + restW (nextS s u) us := by
  unfold restW
  simp only [weightN, parL, runS, List.foldr_cons]
  omega
theorem restW_ge : ∀ (us : List Nat) (s : Nat), s < 8 → Bits7 us → pot s ≤ restW s us
  | [], s, h, _ => by have := pot_end s h; simp only [restW, weightN, parL, runS, List.foldr_nil] at this ⊢; omega
  | u :: us, s, h, hb => by
    have hu := hb u (by simp)
    have h1 := restW_ge us (nextS s u) (step_lt s h u hu).1 (fun v hv => hb v (by simp [hv]))
    have h2 := pot_step s h u hu
    rw [restW_cons]
    omega
theorem restW_zero : ∀ (us : List Nat), Bits7 us → (∃ u ∈ us, u = 1) → 6 ≤ restW 0 us
  | [], _, h => by obtain ⟨u, hu, _⟩ := h; cases hu
  | u :: us, hb, h => by
    rw [restW_cons]
    rcases (show u = 0 ∨ u = 1 by have := hb u (by simp); omega) with rfl | rfl
    · have h1 := restW_zero us (fun v hv => hb v (by simp [hv])) (by
        obtain ⟨v, hv, he⟩ := h
        rcases List.mem_cons.1 hv with hv | hv
        · omega
        · exact ⟨v, hv, he⟩)
      rw [show nextS 0 0 = 0 from rfl, show parS7 0 0 = 0 from rfl]
      omega
    · have h1 := restW_ge us (nextS 0 1) (by decide) (fun v hv => hb v (by simp [hv]))
      rw [show nextS 0 1 = 4 from rfl, show parS7 0 1 = 1 from rfl] at *
      rw [show pot 4 = 4 from rfl] at h1
      omega
theorem wordN_weight (us : List Nat) : weightN (wordN us) = restW 0 us := by
  unfold wordN restW
  rw [weightN_append, weightN_append, weightN_append]
  omega
/-- The number of places at which two words differ. -/
def diffN (a b : List Nat) : Nat := weightN (List.zipWith xorB a b)
theorem dist6 {us vs : List Nat} (hl : us.length = vs.length) (hu : Bits7 us) (hv : Bits7 vs) (hne : us ≠ vs) : 6 ≤ diffN (wordN us) (wordN vs) := by
  unfold diffN
  rw [← lin_word hl hu hv, wordN_weight]
  refine restW_zero _ (fun w hw => ?_) ?_
  · obtain ⟨i, hi, rfl⟩ := List.getElem_of_mem hw
    rw [List.getElem_zipWith]
    exact Nat.mod_lt _ (by decide)
  · rcases Classical.em (∃ i, ∃ h : i < us.length, us[i] ≠ vs[i]'(by omega)) with ⟨i, h, he⟩ | hno
    · refine ⟨1, ?_, rfl⟩
      have h2 : i < (List.zipWith xorB us vs).length := by rw [List.length_zipWith]; omega
      have e : (List.zipWith xorB us vs)[i] = 1 := by
        rw [List.getElem_zipWith]
        have a := hu us[i] (List.getElem_mem h)
        have b := hv (vs[i]'(by omega)) (List.getElem_mem _)
        unfold xorB
        omega
      rw [← e]
      exact List.getElem_mem h2
    · exact absurd (List.ext_getElem hl (fun i h1 h2 => by
        rcases Classical.em (us[i] = vs[i]) with h | h
        · exact h
        · exact absurd ⟨i, h1, h⟩ hno)) hne
end Go.Proofs.Ytjehfdnkdfmmbaa
