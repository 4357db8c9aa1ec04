/-
  The convolutional code: the mathematics. No program is named here. The turbo code: the mathematics. No program is named here.
-/
namespace Go.Proofs.YtbpkoilecdejiaaDoor
/-! ### The convolutional code: the mathematics. No program is named here. -/
section
def fbN (s u : Nat) : Nat := (u + s / 2 % 2 + s % 2) % 2
def nextS (s u : Nat) : Nat := 4 * fbN s u + 2 * (s / 4) + s / 2 % 2
def parS7 (s u : Nat) : Nat := (fbN s u + s / 4 + s % 2) % 2
def tailIn (s : Nat) : Nat := (s / 2 + s) % 2
/-- The state behind the inputs; the parity bits. -/
def runS : Nat → List Nat → Nat
  | s, [] => s
  | s, u :: us => runS (nextS s u) us
def parL : Nat → List Nat → List Nat
  | _, [] => []
  | s, u :: us => parS7 s u :: parL (nextS s u) us
def tailU (s : Nat) : List Nat := [tailIn s, tailIn (nextS s (tailIn s)), tailIn (nextS (nextS s (tailIn s)) (tailIn (nextS s (tailIn s))))]
def tailZ (s : Nat) : List Nat := parL s (tailU s)
def wordN (us : List Nat) : List Nat := us ++ parL 0 us ++ tailU (runS 0 us) ++ tailZ (runS 0 us)
def Bit (u : Nat) : Prop := u < 2
def Bits7 (us : List Nat) : Prop := ∀ u ∈ us, u < 2
theorem step_lt : ∀ s, s < 8 → ∀ u, u < 2 → nextS s u < 8 ∧ parS7 s u < 2 := by decide
theorem tailIn_lt (s : Nat) : tailIn s < 2 := Nat.mod_lt _ (by decide)
theorem next_ne : ∀ s, s < 8 → nextS s 0 ≠ nextS s 1 := by decide
theorem tail_end : ∀ s, s < 8 → runS s (tailU s) = 0 := by decide
theorem runS_lt : ∀ (us : List Nat) (s : Nat), s < 8 → Bits7 us → runS s us < 8
  | [], _, h, _ => h
  | u :: us, s, h, hb => runS_lt us _ (step_lt s h u (hb u (by simp))).1 (fun v hv => hb v (by simp [hv]))
theorem parL_length : ∀ (us : List Nat) (s : Nat), (parL s us).length = us.length
  | [], _ => rfl
  | u :: us, s => by rw [parL, List.length_cons, parL_length us, List.length_cons]
theorem wordN_length (us : List Nat) : (wordN us).length = 2 * us.length + 6 := by
  unfold wordN tailZ
  simp only [List.length_append, parL_length]
  simp [tailU]
  omega
theorem parL_bits : ∀ (us : List Nat) (s : Nat), s < 8 → Bits7 us → Bits7 (parL s us)
  | [], _, _, _ => by intro v hv; cases hv
  | u :: us, s, h, hb => by
    intro v hv
    rw [parL, List.mem_cons] at hv
    rcases hv with rfl | hv
    · exact (step_lt s h u (hb u (by simp))).2
    · exact parL_bits us _ (step_lt s h u (hb u (by simp))).1 (fun v hv => hb v (by simp [hv])) v hv
theorem tailU_bits (s : Nat) : Bits7 (tailU s) := by
  intro v hv
  simp only [tailU, List.mem_cons, List.not_mem_nil, or_false] at hv
  rcases hv with rfl | rfl | rfl <;> exact tailIn_lt _
theorem wordN_bits {us : List Nat} (hb : Bits7 us) : Bits7 (wordN us) := by
  intro v hv
  have hs := runS_lt us 0 (by decide) hb
  simp only [wordN, List.mem_append] at hv
  rcases hv with ((hv | hv) | hv) | hv
  · exact hb v hv
  · exact parL_bits us 0 (by decide) hb v hv
  · exact tailU_bits _ v hv
  · exact parL_bits _ _ hs (tailU_bits _) v hv
/-! ### Linearity -/
def stX (s t : Nat) : Nat := s ^^^ t
def xorB (a b : Nat) : Nat := (a + b) % 2
theorem lin_step : ∀ s, s < 8 → ∀ t, t < 8 → ∀ u, u < 2 → ∀ v, v < 2 → nextS (stX s t) (xorB u v) = stX (nextS s u) (nextS t v) ∧ parS7 (stX s t) (xorB u v) = xorB (parS7 s u) (parS7 t v) ∧ tailIn (stX s t) = xorB (tailIn s) (tailIn t) := by decide +kernel
theorem lin_run : ∀ (us vs : List Nat) (s t : Nat), s < 8 → t < 8 → us.length = vs.length → Bits7 us → Bits7 vs →
    runS (stX s t) (List.zipWith xorB us vs) = stX (runS s us) (runS t vs) ∧ parL (stX s t) (List.zipWith xorB us vs) = List.zipWith xorB (parL s us) (parL t vs)
  | [], [], _, _, _, _, _, _, _ => ⟨rfl, rfl⟩
  | [], _ :: _, _, _, _, _, h, _, _ => by cases h
  | _ :: _, [], _, _, _, _, h, _, _ => by cases h
  | u :: us, v :: vs, s, t, hs, ht, hl, hu, hv => by
    have hu0 := hu u (by simp)
    have hv0 := hv v (by simp)
    obtain ⟨a, b, _⟩ := lin_step s hs t ht u hu0 v hv0
    obtain ⟨c, d⟩ := lin_run us vs (nextS s u) (nextS t v) (step_lt s hs u hu0).1 (step_lt t ht v hv0).1 (by simpa using hl) (fun w hw => hu w (by simp [hw])) (fun w hw => hv w (by simp [hw]))
    refine ⟨?_, ?_⟩
    · rw [List.zipWith_cons_cons, runS, a, c]; rfl
    · rw [List.zipWith_cons_cons, parL, a, b, d]; rfl
theorem lin_tail : ∀ s, s < 8 → ∀ t, t < 8 → tailU (stX s t) = List.zipWith xorB (tailU s) (tailU t) ∧ tailZ (stX s t) = List.zipWith xorB (tailZ s) (tailZ t) := by decide +kernel
theorem lin_word {us vs : List Nat} (hl : us.length = vs.length) (hu : Bits7 us) (hv : Bits7 vs) : wordN (List.zipWith xorB us vs) = List.zipWith xorB (wordN us) (wordN vs) := by
  obtain ⟨a, b⟩ := lin_run us vs 0 0 (by decide) (by decide) hl hu hv
  rw [show stX 0 0 = 0 from rfl] at a b
  obtain ⟨c, d⟩ := lin_tail _ (runS_lt us 0 (by decide) hu) _ (runS_lt vs 0 (by decide) hv)
  have l1 : (parL 0 us).length = (parL 0 vs).length := by rw [parL_length, parL_length, hl]
  unfold wordN
  rw [a, b, c, d, List.zipWith_append (by simp only [List.length_append, l1, hl, tailU, List.length_cons, List.length_nil]), List.zipWith_append (by simp only [List.length_append, l1, hl]), List.zipWith_append hl]
/-! ### The distance -/
def weightN (us : List Nat) : Nat := us.foldr (· + ·) 0
theorem weightN_append (a b : List Nat) : weightN (a ++ b) = weightN a + weightN b := by
  induction a with
  | nil => simp [weightN]
  | cons x a ih => simp only [weightN, List.cons_append, List.foldr_cons] at ih ⊢; omega
/-- What is at least still to come from a state on. -/
def pot : Nat → Nat
  | 0 => 0 | 1 => 2 | 2 => 3 | 3 => 3 | 4 => 4 | 5 => 4 | 6 => 3 | 7 => 3 | _ => 0
theorem pot_end : ∀ s, s < 8 → pot s ≤ weightN (tailU s) + weightN (tailZ s) := by decide
theorem pot_step : ∀ s, s < 8 → ∀ u, u < 2 → pot s ≤ u + parS7 s u + pot (nextS s u) := by decide
/-- The weight of what is behind a state: inputs, parity bits, tail. -/
def restW (s : Nat) (us : List Nat) : Nat := weightN us + weightN (parL s us) + (weightN (tailU (runS s us)) + weightN (tailZ (runS s us)))
theorem restW_cons (s u : Nat) (us : List Nat) : restW s (u :: us) = u + parS7 s u + restW (nextS s u) us := by
  unfold restW
  simp only [weightN, parL, runS, List.foldr_cons]
  omega
theorem restW_ge : ∀ (us : List Nat) (s : Nat), s < 8 → Bits7 us → pot s ≤ restW s us
  | [], s, h, _ => by have := pot_end s h; simp only [restW, weightN, parL, runS, List.foldr_nil] at this ⊢; omega
  | u :: us, s, h, hb => by
    have hu := hb u (by simp)
    have h1 := restW_ge us (nextS s u) (step_lt s h u hu).1 (fun v hv => hb v (by simp [hv]))
    have h2 := pot_step s h u hu
    rw [restW_cons]
    omega
theorem restW_zero : ∀ (us : List Nat), Bits7 us → (∃ u ∈ us, u = 1) → 6 ≤ restW 0 us
  | [], _, h => by obtain ⟨u, hu, _⟩ := h; cases hu
  | u :: us, hb, h => by
    rw [restW_cons]
    rcases (show u = 0 ∨ u = 1 by have := hb u (by simp); omega) with rfl | rfl
    · have h1 := restW_zero us (fun v hv => hb v (by simp [hv])) (by
        obtain ⟨v, hv, he⟩ := h
        rcases List.mem_cons.1 hv with hv | hv
        · omega
        · exact ⟨v, hv, he⟩)
      rw [show nextS 0 0 = 0 from rfl, show parS7 0 0 = 0 from rfl]
      omega
    · have h1 := restW_ge us (nextS 0 1) (by decide) (fun v hv => hb v (by simp [hv]))
      rw [show nextS 0 1 = 4 from rfl, show parS7 0 1 = 1 from rfl] at *
      rw [show pot 4 = 4 from rfl] at h1
      omega
theorem wordN_weight (us : List Nat) : weightN (wordN us) = restW 0 us := by
  unfold wordN restW
  rw [weightN_append, weightN_append, weightN_append]
  omega
/-- The number of places at which two words differ. -/
def diffN (a b : List Nat) : Nat := weightN (List.zipWith xorB a b)
theorem dist6 {us vs : List Nat} (hl : us.length = vs.length) (hu : Bits7 us) (hv : Bits7 vs) (hne : us ≠ vs) : 6 ≤ diffN (wordN us) (wordN vs) := by
  unfold diffN
  rw [← lin_word hl hu hv, wordN_weight]
  refine restW_zero _ (fun w hw => ?_) ?_
  · obtain ⟨i, hi, rfl⟩ := List.getElem_of_mem hw
    rw [List.getElem_zipWith]
    exact Nat.mod_lt _ (by decide)
  · rcases Classical.em (∃ i, ∃ h : i < us.length, us[i] ≠ vs[i]'(by omega)) with ⟨i, h, he⟩ | hno
    · refine ⟨1, ?_, rfl⟩
      have h2 : i < (List.zipWith xorB us vs).length := by rw [List.length_zipWith]; omega
      have e : (List.zipWith xorB us vs)[i] = 1 := by
        rw [List.getElem_zipWith]
        have a := hu us[i] (List.getElem_mem h)
        have b := hv (vs[i]'(by omega)) (List.getElem_mem _)
        unfold xorB
        omega
      rw [← e]
      exact List.getElem_mem h2
    · exact absurd (List.ext_getElem hl (fun i h1 h2 => by
        rcases Classical.em (us[i] = vs[i]) with h | h
        · exact h
        · exact absurd ⟨i, h1, h⟩ hno)) hne
end

/-! ### The turbo code: the mathematics. No program is named here. -/
section
/-- The interleaved input. -/
def mixN (p : Nat → Nat) (us : List Nat) : List Nat := (List.range us.length).map (fun i => us[p i]?.getD 0)
def tu (s j : Nat) : Nat := (tailU s)[j]?.getD 0
def tz (s j : Nat) : Nat := (tailZ s)[j]?.getD 0
def end0 (s t : Nat) : List Nat := [tu s 0, tz s 1, tu t 0, tz t 1]
def end1 (s t : Nat) : List Nat := [tz s 0, tu s 2, tz t 0, tu t 2]
def end2 (s t : Nat) : List Nat := [tu s 1, tz s 2, tu t 1, tz t 2]
/-- The word. -/
def tbW (p : Nat → Nat) (us : List Nat) : List Nat :=
  us ++ (end0 (runS 0 us) (runS 0 (mixN p us)) ++ (parL 0 us ++ (end1 (runS 0 us) (runS 0 (mixN p us)) ++ (parL 0 (mixN p us) ++ end2 (runS 0 us) (runS 0 (mixN p us))))))
theorem mixN_length (p : Nat → Nat) (us : List Nat) : (mixN p us).length = us.length := by simp [mixN]
theorem mixN_get {p : Nat → Nat} {us : List Nat} {i : Nat} (h : i < us.length) : (mixN p us)[i]?.getD 0 = us[p i]?.getD 0 := by simp [mixN, h]
theorem mixN_bits {p : Nat → Nat} {us : List Nat} (h : Bits7 us) : Bits7 (mixN p us) := fun u hu => by
  obtain ⟨i, _, rfl⟩ := List.mem_map.1 hu
  rcases Nat.lt_or_ge (p i) us.length with hi | hi
  · simpa [hi] using h _ (List.getElem_mem hi)
  · simp [hi]
theorem tbW_length (p : Nat → Nat) (us : List Nat) : (tbW p us).length = 3 * (us.length + 4) := by
  simp only [tbW, end0, end1, end2, List.length_append, parL_length, mixN_length, List.length_cons, List.length_nil]
  omega
theorem tail_split : ∀ s, s < 8 → tailU s = [tu s 0, tu s 1, tu s 2] ∧ tailZ s = [tz s 0, tz s 1, tz s 2] := by decide
theorem tail_lt : ∀ s, s < 8 → (tu s 0 < 2 ∧ tu s 1 < 2 ∧ tu s 2 < 2) ∧ (tz s 0 < 2 ∧ tz s 1 < 2 ∧ tz s 2 < 2) := by decide
theorem ends_bits {s t : Nat} (hs : s < 8) (ht : t < 8) : Bits7 (end0 s t) ∧ Bits7 (end1 s t) ∧ Bits7 (end2 s t) := by
  have h1 := tail_lt s hs
  have h2 := tail_lt t ht
  refine ⟨fun u hu => ?_, fun u hu => ?_, fun u hu => ?_⟩
  · simp only [end0, List.mem_cons, List.not_mem_nil, or_false] at hu
    omega
  · simp only [end1, List.mem_cons, List.not_mem_nil, or_false] at hu
    omega
  · simp only [end2, List.mem_cons, List.not_mem_nil, or_false] at hu
    omega
theorem bits7_append {a b : List Nat} (ha : Bits7 a) (hb : Bits7 b) : Bits7 (a ++ b) := fun u hu => by
  rcases List.mem_append.1 hu with h | h
  · exact ha u h
  · exact hb u h
theorem tbW_bits {p : Nat → Nat} {us : List Nat} (h : Bits7 us) : Bits7 (tbW p us) := by
  have hs := runS_lt us 0 (by decide) h
  have ht := runS_lt (mixN p us) 0 (by decide) (mixN_bits h)
  have he := ends_bits hs ht
  exact bits7_append h (bits7_append he.1 (bits7_append (parL_bits us 0 (by decide) h) (bits7_append he.2.1 (bits7_append (parL_bits _ 0 (by decide) (mixN_bits h)) he.2.2))))
theorem end_lin : ∀ s, s < 8 → ∀ t, t < 8 → (∀ j, j < 3 → tu (stX s t) j = xorB (tu s j) (tu t j) ∧ tz (stX s t) j = xorB (tz s j) (tz t j)) := by decide +kernel
theorem mix_lin {p : Nat → Nat} {us vs : List Nat} (hl : us.length = vs.length) (hp : ∀ i, i < us.length → p i < us.length) : mixN p (List.zipWith xorB us vs) = List.zipWith xorB (mixN p us) (mixN p vs) := by
  apply List.ext_getElem
  · simp [mixN, hl]
  · intro i h1 h2
    have hi : i < us.length := by simp [mixN, hl] at h1; omega
    have := hp i hi
    simp [mixN, hl, show p i < vs.length by omega]
theorem ends_lin {s t s' t' : Nat} (hs : s < 8) (ht : t < 8) (hs' : s' < 8) (ht' : t' < 8) :
    end0 (stX s t) (stX s' t') = List.zipWith xorB (end0 s s') (end0 t t') ∧ end1 (stX s t) (stX s' t') = List.zipWith xorB (end1 s s') (end1 t t') ∧ end2 (stX s t) (stX s' t') = List.zipWith xorB (end2 s s') (end2 t t') := by
  have h1 := end_lin s hs t ht
  have h2 := end_lin s' hs' t' ht'
  simp only [end0, end1, end2, List.zipWith_cons_cons, List.zipWith_nil_right, (h1 0 (by decide)).1, (h1 1 (by decide)).1, (h1 2 (by decide)).1, (h1 0 (by decide)).2, (h1 1 (by decide)).2, (h1 2 (by decide)).2,
    (h2 0 (by decide)).1, (h2 1 (by decide)).1, (h2 2 (by decide)).1, (h2 0 (by decide)).2, (h2 1 (by decide)).2, (h2 2 (by decide)).2, and_self]
theorem xor_bits {us vs : List Nat} : Bits7 (List.zipWith xorB us vs) := fun w hw => by
  obtain ⟨i, hi, rfl⟩ := List.getElem_of_mem hw
  rw [List.getElem_zipWith]
  exact Nat.mod_lt _ (by decide)
/-- The code is linear. -/
theorem tbW_lin {p : Nat → Nat} {us vs : List Nat} (hl : us.length = vs.length) (hp : ∀ i, i < us.length → p i < us.length) (hu : Bits7 us) (hv : Bits7 vs) : tbW p (List.zipWith xorB us vs) = List.zipWith xorB (tbW p us) (tbW p vs) := by
  obtain ⟨a, b⟩ := lin_run us vs 0 0 (by decide) (by decide) hl hu hv
  obtain ⟨a', b'⟩ := lin_run (mixN p us) (mixN p vs) 0 0 (by decide) (by decide) (by rw [mixN_length, mixN_length, hl]) (mixN_bits hu) (mixN_bits hv)
  rw [show stX 0 0 = 0 from rfl] at a b a' b'
  obtain ⟨c0, c1, c2⟩ := ends_lin (runS_lt us 0 (by decide) hu) (runS_lt vs 0 (by decide) hv) (runS_lt (mixN p us) 0 (by decide) (mixN_bits hu)) (runS_lt (mixN p vs) 0 (by decide) (mixN_bits hv))
  have l1 : (parL 0 us).length = (parL 0 vs).length := by rw [parL_length, parL_length, hl]
  have l2 : (parL 0 (mixN p us)).length = (parL 0 (mixN p vs)).length := by rw [parL_length, parL_length, mixN_length, mixN_length, hl]
  unfold tbW
  rw [mix_lin hl hp, a, b, a', b', c0, c1, c2, List.zipWith_append hl, List.zipWith_append (show (end0 (runS 0 us) (runS 0 (mixN p us))).length = (end0 (runS 0 vs) (runS 0 (mixN p vs))).length from rfl), List.zipWith_append l1, List.zipWith_append (show (end1 (runS 0 us) (runS 0 (mixN p us))).length = (end1 (runS 0 vs) (runS 0 (mixN p vs))).length from rfl), List.zipWith_append l2]
theorem weight_tail {s : Nat} (hs : s < 8) : weightN (tailU s) = tu s 0 + tu s 1 + tu s 2 ∧ weightN (tailZ s) = tz s 0 + tz s 1 + tz s 2 := by
  obtain ⟨a, b⟩ := tail_split s hs
  rw [a, b]
  simp only [weightN, List.foldr_cons, List.foldr_nil]
  omega
theorem weight_ends (s t : Nat) : tu s 0 + tz s 1 ≤ weightN (end0 s t) ∧ tz s 0 + tu s 2 ≤ weightN (end1 s t) ∧ tu s 1 + tz s 2 ≤ weightN (end2 s t) := by
  simp only [weightN, end0, end1, end2, List.foldr_cons, List.foldr_nil]
  omega
/-- The word holds the first encoder's codeword. -/
theorem tbW_weight {p : Nat → Nat} {us : List Nat} (h : Bits7 us) : weightN (wordN us) ≤ weightN (tbW p us) := by
  have hs := runS_lt us 0 (by decide) h
  obtain ⟨a, b⟩ := weight_tail hs
  have e := weight_ends (runS 0 us) (runS 0 (mixN p us))
  unfold wordN tbW
  simp only [weightN_append]
  omega
theorem tbW_dist6 {p : Nat → Nat} {us vs : List Nat} (hl : us.length = vs.length) (hp : ∀ i, i < us.length → p i < us.length) (hu : Bits7 us) (hv : Bits7 vs) (hne : us ≠ vs) : 6 ≤ diffN (tbW p us) (tbW p vs) := by
  have h := dist6 hl hu hv hne
  unfold diffN at h ⊢
  rw [← tbW_lin hl hp hu hv]
  rw [← lin_word hl hu hv] at h
  exact Nat.le_trans h (tbW_weight xor_bits)
/-- A changed word is no word: two words that differ in at most 5 places are the same. -/
theorem tbW_near {p : Nat → Nat} {us vs : List Nat} (hl : us.length = vs.length) (hp : ∀ i, i < us.length → p i < us.length) (hu : Bits7 us) (hv : Bits7 vs) (h : diffN (tbW p us) (tbW p vs) ≤ 5) : us = vs := by
  rcases Classical.em (us = vs) with e | hne
  · exact e
  · have := tbW_dist6 hl hp hu hv hne
    omega
/-! ### The layout -/
def last3 (a b c j : Nat) : Nat := if j = 0 then a else if j = 1 then b else c
/-- The systematic and the parity index of step i. -/
def sysN (p : Nat → Nat) (k code i : Nat) : Nat := if i < k then (if code = 1 then i else p i) else last3 (k + 2 * (code - 1)) (2 * (k + 4) + (k + 2 * (code - 1))) ((k + 4) + (k + 2 * (code - 1)) + 1) (i - k)
def parN (k code i : Nat) : Nat := if i < k then code * (k + 4) + i else last3 ((k + 4) + (k + 2 * (code - 1))) (k + 2 * (code - 1) + 1) (2 * (k + 4) + (k + 2 * (code - 1)) + 1) (i - k)
theorem sysN_lt {p : Nat → Nat} {k code i : Nat} (hp : ∀ i, i < k → p i < k) (hc : code = 1 ∨ code = 2) : sysN p k code i < 3 * (k + 4) ∧ (i < k → sysN p k code i < k) := by
  have := hp i
  unfold sysN last3
  rcases hc with rfl | rfl <;> split <;> (try simp only [Nat.reduceEqDiff, if_true, if_false]) <;> (try split) <;> (try split) <;> omega
theorem parN_lt {k code i : Nat} (hc : code = 1 ∨ code = 2) : parN k code i < 3 * (k + 4) := by
  unfold parN last3
  rcases hc with rfl | rfl <;> split <;> (try split) <;> (try split) <;> omega
/-! ### The word at the layout's indices -/
theorem six_get {a b c d e f : List Nat} {k : Nat} (ha : a.length = k) (hb : b.length = 4) (hc : c.length = k) (hd : d.length = 4) (he : e.length = k) (_ : f.length = 4) :
    (∀ i, i < k → (a ++ (b ++ (c ++ (d ++ (e ++ f)))))[i]? = a[i]?) ∧ (∀ j, j < 4 → (a ++ (b ++ (c ++ (d ++ (e ++ f)))))[k + j]? = b[j]?) ∧
    (∀ i, i < k → (a ++ (b ++ (c ++ (d ++ (e ++ f)))))[(k + 4) + i]? = c[i]?) ∧ (∀ j, j < 4 → (a ++ (b ++ (c ++ (d ++ (e ++ f)))))[(k + 4) + (k + j)]? = d[j]?) ∧
    (∀ i, i < k → (a ++ (b ++ (c ++ (d ++ (e ++ f)))))[2 * (k + 4) + i]? = e[i]?) ∧ (∀ j, j < 4 → (a ++ (b ++ (c ++ (d ++ (e ++ f)))))[2 * (k + 4) + (k + j)]? = f[j]?) := by
  refine ⟨fun i h => ?_, fun i h => ?_, fun i h => ?_, fun i h => ?_, fun i h => ?_, fun i h => ?_⟩
  · rw [List.getElem?_append_left (by omega)]
  · rw [List.getElem?_append_right (by omega), List.getElem?_append_left (by omega)]
    congr 1; omega
  · rw [List.getElem?_append_right (by omega), List.getElem?_append_right (by omega), List.getElem?_append_left (by omega)]
    congr 1; omega
  · rw [List.getElem?_append_right (by omega), List.getElem?_append_right (by omega), List.getElem?_append_right (by omega), List.getElem?_append_left (by omega)]
    congr 1; omega
  · rw [List.getElem?_append_right (by omega), List.getElem?_append_right (by omega), List.getElem?_append_right (by omega), List.getElem?_append_right (by omega), List.getElem?_append_left (by omega)]
    congr 1; omega
  · rw [List.getElem?_append_right (by omega), List.getElem?_append_right (by omega), List.getElem?_append_right (by omega), List.getElem?_append_right (by omega), List.getElem?_append_right (by omega)]
    congr 1; omega
theorem six_at {a b c d e f L : List Nat} {k : Nat} (hL : L = a ++ (b ++ (c ++ (d ++ (e ++ f))))) (ha : a.length = k) (hb : b.length = 4) (hc : c.length = k) (hd : d.length = 4) (he : e.length = k) (hf : f.length = 4) :
    (∀ x i, i < k → x = i → L[x]?.getD 0 = a[i]?.getD 0) ∧ (∀ x j, j < 4 → x = k + j → L[x]?.getD 0 = b[j]?.getD 0) ∧
    (∀ x i, i < k → x = (k + 4) + i → L[x]?.getD 0 = c[i]?.getD 0) ∧ (∀ x j, j < 4 → x = (k + 4) + (k + j) → L[x]?.getD 0 = d[j]?.getD 0) ∧
    (∀ x i, i < k → x = 2 * (k + 4) + i → L[x]?.getD 0 = e[i]?.getD 0) ∧ (∀ x j, j < 4 → x = 2 * (k + 4) + (k + j) → L[x]?.getD 0 = f[j]?.getD 0) := by
  subst hL
  obtain ⟨g0, g1, g2, g3, g4, g5⟩ := six_get ha hb hc hd he hf
  refine ⟨fun x i h e => ?_, fun x i h e => ?_, fun x i h e => ?_, fun x i h e => ?_, fun x i h e => ?_, fun x i h e => ?_⟩ <;> subst e
  · rw [g0 _ h]
  · rw [g1 _ h]
  · rw [g2 _ h]
  · rw [g3 _ h]
  · rw [g4 _ h]
  · rw [g5 _ h]
/-- The constituent code's input. -/
def inN (p : Nat → Nat) (us : List Nat) (code : Nat) : List Nat := if code = 1 then us else mixN p us
theorem inN_one (p : Nat → Nat) (us : List Nat) : inN p us 1 = us := rfl
theorem inN_two (p : Nat → Nat) (us : List Nat) : inN p us 2 = mixN p us := rfl
theorem inN_length (p : Nat → Nat) (us : List Nat) (code : Nat) : (inN p us code).length = us.length := by
  unfold inN
  split
  · rfl
  · exact mixN_length p us
theorem inN_bits {p : Nat → Nat} {us : List Nat} (h : Bits7 us) (code : Nat) : Bits7 (inN p us code) := by
  unfold inN
  split
  · exact h
  · exact mixN_bits h
theorem l3_0 (a b c : Nat) : last3 a b c 0 = a := rfl
theorem l3_1 (a b c : Nat) : last3 a b c 1 = b := rfl
theorem l3_2 (a b c : Nat) : last3 a b c 2 = c := rfl
theorem sys_get {p : Nat → Nat} {us : List Nat} {code : Nat} (hc : code = 1 ∨ code = 2) (hp : ∀ i, i < us.length → p i < us.length) (i : Nat) (hi : i < us.length + 3) :
    (tbW p us)[sysN p us.length code i]?.getD 0 = (inN p us code ++ tailU (runS 0 (inN p us code)))[i]?.getD 0 ∧ (tbW p us)[parN us.length code i]?.getD 0 = (parL 0 (inN p us code) ++ tailZ (runS 0 (inN p us code)))[i]?.getD 0 := by
  obtain ⟨g0, g1, g2, g3, g4, g5⟩ := six_at (L := tbW p us) rfl (a := us) (b := end0 (runS 0 us) (runS 0 (mixN p us))) (c := parL 0 us) (d := end1 (runS 0 us) (runS 0 (mixN p us))) (e := parL 0 (mixN p us)) (f := end2 (runS 0 us) (runS 0 (mixN p us))) rfl rfl (parL_length us 0) rfl (by rw [parL_length, mixN_length]) rfl
  unfold sysN parN
  have hl := inN_length p us code
  rcases Nat.lt_or_ge i us.length with h | h
  · rw [if_pos h, if_pos h, List.getElem?_append_left (by omega), List.getElem?_append_left (by rw [parL_length]; omega)]
    rcases hc with rfl | rfl
    · rw [if_pos rfl, inN_one]
      exact ⟨g0 _ i h rfl, g2 _ i h (by omega)⟩
    · rw [if_neg (by decide), inN_two, mixN_get h]
      exact ⟨g0 _ _ (hp i h) rfl, g4 _ i h rfl⟩
  · rw [if_neg (by omega), if_neg (by omega), List.getElem?_append_right (by rw [hl]; exact h), List.getElem?_append_right (by rw [parL_length, hl]; exact h), parL_length, hl]
    obtain ⟨j, rfl⟩ : ∃ j, i = us.length + j := ⟨i - us.length, by omega⟩
    rw [Nat.add_sub_cancel_left]
    have hj : j = 0 ∨ j = 1 ∨ j = 2 := by omega
    rcases hc with rfl | rfl
    · rw [inN_one]
      rcases hj with rfl | rfl | rfl
      · rw [l3_0, l3_0]
        exact ⟨g1 _ 0 (by decide) (by omega), g3 _ 0 (by decide) (by omega)⟩
      · rw [l3_1, l3_1]
        exact ⟨g5 _ 0 (by decide) (by omega), g1 _ 1 (by decide) (by omega)⟩
      · rw [l3_2, l3_2]
        exact ⟨g3 _ 1 (by decide) (by omega), g5 _ 1 (by decide) (by omega)⟩
    · rw [inN_two]
      rcases hj with rfl | rfl | rfl
      · rw [l3_0, l3_0]
        exact ⟨g1 _ 2 (by decide) (by omega), g3 _ 2 (by decide) (by omega)⟩
      · rw [l3_1, l3_1]
        exact ⟨g5 _ 2 (by decide) (by omega), g1 _ 3 (by decide) (by omega)⟩
      · rw [l3_2, l3_2]
        exact ⟨g3 _ 3 (by decide) (by omega), g5 _ 3 (by decide) (by omega)⟩
/-- By the layout, the word's bits are the codeword of layer 7. -/
theorem tbW_code {p : Nat → Nat} {us : List Nat} {code : Nat} (hc : code = 1 ∨ code = 2) (hp : ∀ i, i < us.length → p i < us.length) :
    (List.range (us.length + 3)).map (fun i => (tbW p us)[sysN p us.length code i]?.getD 0) = inN p us code ++ tailU (runS 0 (inN p us code)) ∧
    (List.range (us.length + 3)).map (fun i => (tbW p us)[parN us.length code i]?.getD 0) = parL 0 (inN p us code) ++ tailZ (runS 0 (inN p us code)) := by
  have hl := inN_length p us code
  refine ⟨List.ext_getElem ?_ fun i h1 h2 => ?_, List.ext_getElem ?_ fun i h1 h2 => ?_⟩
  · simp [hl, tailU]
  · have hi : i < us.length + 3 := by simpa using h1
    have := (sys_get hc hp i hi).1
    rw [List.getElem?_eq_getElem h2] at this
    simpa using this
  · simp [hl, parL_length, tailZ, tailU]
  · have hi : i < us.length + 3 := by simpa using h1
    have := (sys_get hc hp i hi).2
    rw [List.getElem?_eq_getElem h2] at this
    simpa using this
/-! ### Each index belongs to one list -/
def cntF (f : Nat → Nat) : Nat → Nat → Nat
  | 0, _ => 0
  | m + 1, x => cntF f m x + if f m = x then 1 else 0
theorem cntF_no {f : Nat → Nat} {x : Nat} : ∀ m, (∀ i, i < m → f i ≠ x) → cntF f m x = 0
  | 0, _ => rfl
  | m + 1, h => by
    unfold cntF
    rw [cntF_no m (fun i hi => h i (by omega)), if_neg (h m (by omega))]
theorem cntF_one {f : Nat → Nat} {x : Nat} : ∀ m i, i < m → f i = x → (∀ a b, a < m → b < m → f a = f b → a = b) → cntF f m x = 1
  | 0, i, h, _, _ => absurd h (Nat.not_lt_zero i)
  | m + 1, i, h, he, hj => by
    unfold cntF
    rcases Nat.lt_or_ge i m with h1 | h1
    · rw [cntF_one m i h1 he (fun a b ha hb => hj a b (by omega) (by omega)), if_neg (fun e => by have := hj i m (by omega) (by omega) (he.trans e.symm); omega)]
    · obtain rfl : i = m := by omega
      rw [if_pos he, cntF_no i (fun a ha e => by have := hj a i (by omega) (by omega) (e.trans he.symm); omega)]
theorem cntF_by {f : Nat → Nat} {m x : Nat} {P : Prop} [Decidable P] (h1 : P → ∃ i, i < m ∧ f i = x) (h2 : ∀ i, i < m → f i = x → P) (hj : ∀ a b, a < m → b < m → f a = f b → a = b) : cntF f m x = if P then 1 else 0 := by
  split
  · rename_i h
    obtain ⟨i, hi, he⟩ := h1 h
    exact cntF_one m i hi he hj
  · rename_i h
    exact cntF_no m (fun i hi he => h (h2 i hi he))
section
variable {p : Nat → Nat} {k : Nat}
theorem sys1_in (x i : Nat) (hi : i < k + 3) : sysN p k 1 i = x ↔ (i < k ∧ x = i) ∨ (i = k ∧ x = k) ∨ (i = k + 1 ∧ x = 2 * (k + 4) + k) ∨ (i = k + 2 ∧ x = (k + 4) + k + 1) := by
  unfold sysN last3
  rw [if_pos rfl]
  split
  · omega
  · split
    · omega
    · split <;> omega
theorem sys2_in (x i : Nat) (hi : i < k + 3) : sysN p k 2 i = x ↔ (i < k ∧ x = p i) ∨ (i = k ∧ x = k + 2) ∨ (i = k + 1 ∧ x = 2 * (k + 4) + k + 2) ∨ (i = k + 2 ∧ x = (k + 4) + k + 3) := by
  unfold sysN last3
  rw [if_neg (show ¬ ((2 : Nat) = 1) by decide)]
  split
  · omega
  · split
    · omega
    · split <;> omega
theorem par_in (code x i : Nat) (hc : code = 1 ∨ code = 2) (hi : i < k + 3) : parN k code i = x ↔ (i < k ∧ x = code * (k + 4) + i) ∨ (i = k ∧ x = (k + 4) + k + 2 * (code - 1)) ∨ (i = k + 1 ∧ x = k + 2 * (code - 1) + 1) ∨ (i = k + 2 ∧ x = 2 * (k + 4) + k + 2 * (code - 1) + 1) := by
  unfold parN last3
  rcases hc with rfl | rfl
  · split
    · omega
    · split
      · omega
      · split <;> omega
  · split
    · omega
    · split
      · omega
      · split <;> omega
theorem cnt_sys1 (x : Nat) : cntF (sysN p k 1) (k + 3) x = if x < k ∨ x = k ∨ x = 2 * (k + 4) + k ∨ x = (k + 4) + k + 1 then 1 else 0 := by
  refine cntF_by (fun h => ?_) (fun i hi he => by have := (sys1_in (p := p) x i hi).1 he; omega) (fun a b ha hb he => by
    have h1 := (sys1_in (p := p) _ a ha).1 he
    have h2 := (sys1_in (p := p) _ b hb).1 rfl
    omega)
  rcases h with h | h | h | h
  · exact ⟨x, by omega, (sys1_in x x (by omega)).2 (by omega)⟩
  · exact ⟨k, by omega, (sys1_in x k (by omega)).2 (by omega)⟩
  · exact ⟨k + 1, by omega, (sys1_in x (k + 1) (by omega)).2 (by omega)⟩
  · exact ⟨k + 2, by omega, (sys1_in x (k + 2) (by omega)).2 (by omega)⟩
theorem cnt_sys2 (hlt : ∀ i, i < k → p i < k) (hj : ∀ a b, a < k → b < k → p a = p b → a = b) (hs : ∀ x, x < k → ∃ i, i < k ∧ p i = x) (x : Nat) : cntF (sysN p k 2) (k + 3) x = if x < k ∨ x = k + 2 ∨ x = 2 * (k + 4) + k + 2 ∨ x = (k + 4) + k + 3 then 1 else 0 := by
  refine cntF_by (fun h => ?_) (fun i hi he => by have := (sys2_in x i hi).1 he; have := hlt i; omega) (fun a b ha hb he => by
    have h1 := (sys2_in (p := p) _ a ha).1 he
    have h2 := (sys2_in (p := p) _ b hb).1 rfl
    have h3 := hlt a
    have h4 := hlt b
    have h5 := hj a b
    omega)
  rcases h with h | h | h | h
  · obtain ⟨i, hi, he⟩ := hs x h
    exact ⟨i, by omega, (sys2_in x i (by omega)).2 (by omega)⟩
  · exact ⟨k, by omega, (sys2_in x k (by omega)).2 (by omega)⟩
  · exact ⟨k + 1, by omega, (sys2_in x (k + 1) (by omega)).2 (by omega)⟩
  · exact ⟨k + 2, by omega, (sys2_in x (k + 2) (by omega)).2 (by omega)⟩
theorem cnt_par1 (x : Nat) : cntF (parN k 1) (k + 3) x = if (k + 4 ≤ x ∧ x < (k + 4) + k) ∨ x = (k + 4) + k ∨ x = k + 1 ∨ x = 2 * (k + 4) + k + 1 then 1 else 0 := by
  refine cntF_by (fun h => ?_) (fun i hi he => by have := (par_in 1 x i (.inl rfl) hi).1 he; omega) (fun a b ha hb he => by
    have h1 := (par_in 1 _ a (.inl rfl) ha).1 he
    have h2 := (par_in 1 _ b (.inl rfl) hb).1 rfl
    omega)
  rcases h with h | h | h | h
  · exact ⟨x - (k + 4), by omega, (par_in 1 x _ (.inl rfl) (by omega)).2 (by omega)⟩
  · exact ⟨k, by omega, (par_in 1 x k (.inl rfl) (by omega)).2 (by omega)⟩
  · exact ⟨k + 1, by omega, (par_in 1 x (k + 1) (.inl rfl) (by omega)).2 (by omega)⟩
  · exact ⟨k + 2, by omega, (par_in 1 x (k + 2) (.inl rfl) (by omega)).2 (by omega)⟩
theorem cnt_par2 (x : Nat) : cntF (parN k 2) (k + 3) x = if (2 * (k + 4) ≤ x ∧ x < 2 * (k + 4) + k) ∨ x = (k + 4) + k + 2 ∨ x = k + 3 ∨ x = 2 * (k + 4) + k + 3 then 1 else 0 := by
  refine cntF_by (fun h => ?_) (fun i hi he => by have := (par_in 2 x i (.inr rfl) hi).1 he; omega) (fun a b ha hb he => by
    have h1 := (par_in 2 _ a (.inr rfl) ha).1 he
    have h2 := (par_in 2 _ b (.inr rfl) hb).1 rfl
    omega)
  rcases h with h | h | h | h
  · exact ⟨x - 2 * (k + 4), by omega, (par_in 2 x _ (.inr rfl) (by omega)).2 (by omega)⟩
  · exact ⟨k, by omega, (par_in 2 x k (.inr rfl) (by omega)).2 (by omega)⟩
  · exact ⟨k + 1, by omega, (par_in 2 x (k + 1) (.inr rfl) (by omega)).2 (by omega)⟩
  · exact ⟨k + 2, by omega, (par_in 2 x (k + 2) (.inr rfl) (by omega)).2 (by omega)⟩
/-- Every index belongs to exactly one list, the first k ones to both systematic lists. -/
theorem cnt_all (hlt : ∀ i, i < k → p i < k) (hj : ∀ a b, a < k → b < k → p a = p b → a = b) (hs : ∀ x, x < k → ∃ i, i < k ∧ p i = x) {x : Nat} (hx : x < 3 * (k + 4)) :
    cntF (sysN p k 1) (k + 3) x + cntF (parN k 1) (k + 3) x + (cntF (sysN p k 2) (k + 3) x + cntF (parN k 2) (k + 3) x) = if x < k then 2 else 1 := by
  rw [cnt_sys1, cnt_sys2 hlt hj hs, cnt_par1, cnt_par2]
  split <;> split <;> split <;> split <;> split <;> omega
end
end
end Go.Proofs.YtbpkoilecdejiaaDoor
