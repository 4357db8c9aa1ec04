/-
  Soft values. Mathematics, ahead of stage 11.
-/
import Derived.Test.YtkkombhpiagngaaDoorBits3
namespace Go.Proofs.YtkkombhpiagngaaDoor

def clampI (v : Int) : Int := if 127 < v then 127 else if v < -127 then -127 else v
def addI (a b : Int) : Int := clampI (clampI a + clampI b)
theorem clampI_cases (v : Int) : (127 < v ∧ clampI v = 127) ∨ (v < -127 ∧ clampI v = -127) ∨ (-127 ≤ v ∧ v ≤ 127 ∧ clampI v = v) := by
  unfold clampI
  split
  · exact .inl ⟨by assumption, rfl⟩
  · split
    · exact .inr (.inl ⟨by assumption, rfl⟩)
    · exact .inr (.inr ⟨by omega, by omega, rfl⟩)
theorem clampI_range (v : Int) : -127 ≤ clampI v ∧ clampI v ≤ 127 := by have := clampI_cases v; omega
theorem clampI_id {v : Int} (h1 : -127 ≤ v) (h2 : v ≤ 127) : clampI v = v := by have := clampI_cases v; omega
theorem clampI_mono {a c : Int} (h : a ≤ c) : clampI a ≤ clampI c := by have := clampI_cases a; have := clampI_cases c; omega
theorem addI_comm (a b : Int) : addI a b = addI b a := by unfold addI; rw [Int.add_comm]
theorem addI_mono {a c : Int} (b : Int) (h : a ≤ c) : addI a b ≤ addI c b := clampI_mono (Int.add_le_add_right (clampI_mono h) _)
theorem addI_zero (a : Int) : addI (clampI a) 0 = clampI a := by
  have h := clampI_range a
  unfold addI
  rw [clampI_id h.1 h.2, show clampI 0 = 0 from rfl, Int.add_zero, clampI_id h.1 h.2]
theorem addI_range (a b : Int) : -127 ≤ addI a b ∧ addI a b ≤ 127 := clampI_range _
theorem addI_assoc {a b c : Int} (h : (0 ≤ a ∧ 0 ≤ b ∧ 0 ≤ c) ∨ (a ≤ 0 ∧ b ≤ 0 ∧ c ≤ 0)) : addI (addI a b) c = addI a (addI b c) := by
  unfold addI
  have ha := clampI_cases a
  have hb := clampI_cases b
  have hc := clampI_cases c
  generalize clampI a = x at *
  generalize clampI b = y at *
  generalize clampI c = z at *
  have h1 := clampI_cases (x + y)
  have h2 := clampI_cases (y + z)
  generalize clampI (x + y) = u at *
  generalize clampI (y + z) = t at *
  have h3 := clampI_cases u
  have h4 := clampI_cases t
  generalize clampI u = u' at *
  generalize clampI t = t' at *
  have h5 := clampI_cases (u' + z)
  have h6 := clampI_cases (x + t')
  omega
/-- Whether all are soft values. -/
def softB (l : List Int) : Bool := l.all fun x => decide (-127 ≤ x) && decide (x ≤ 127)
theorem softB_at {l : List Int} (h : softB l = true) (j : Nat) : -127 ≤ l[j]?.getD 0 ∧ l[j]?.getD 0 ≤ 127 := by
  rcases Nat.lt_or_ge j l.length with hj | hj
  · rw [List.getElem?_eq_getElem hj, Option.getD_some]
    have := List.all_eq_true.1 h _ (List.getElem_mem hj)
    simpa using this
  · rw [List.getElem?_eq_none hj]; decide
/-- The hard decisions; the ideal soft values; the sums; the scaled values. -/
def hardE (x : Int) : Int := if x < 0 then 1 else 0
def hardI (l : List Int) : List Int := l.map hardE
def idealE (m b : Int) : Int := m - 2 * m * b
def idealI (m : Int) (bits : List Int) : List Int := bits.map (idealE m)
def sumI (a b : List Int) : List Int := (List.range a.length).map fun i => addI (a[i]?.getD 0) (b[i]?.getD 0)
def scaleE (n d x : Int) : Int := clampI ((x * n).tdiv d)
def scaleI (n d : Int) (l : List Int) : List Int := l.map (scaleE n d)
theorem hard_ideal {m : Int} {bits : List Int} (hm : 1 ≤ m) (hb : ∀ b ∈ bits, b = 0 ∨ b = 1) : hardI (idealI m bits) = bits := by
  unfold hardI idealI
  rw [List.map_map]
  conv => rhs; rw [← List.map_id bits]
  refine List.map_congr_left fun b hbm => ?_
  show hardE (idealE m b) = b
  unfold hardE
  rcases hb b hbm with rfl | rfl
  · exact if_neg (by unfold idealE; omega)
  · exact if_pos (by unfold idealE; omega)
/-- Wrong and unknown elements among the first j. -/
def wr1 (x b : Int) : Bool := decide (x ≠ 0) && (decide (x < 0) != decide (b = 1))
def wrongN (l b : List Int) (j : Nat) : Nat := (List.range j).countP fun i => wr1 (l[i]?.getD 0) (b[i]?.getD 0)
def unkN (l : List Int) (j : Nat) : Nat := (List.range j).countP fun i => decide (l[i]?.getD 0 = 0)
theorem wrongN_succ (l b : List Int) (j : Nat) : wrongN l b (j + 1) = wrongN l b j + if wr1 (l[j]?.getD 0) (b[j]?.getD 0) = true then 1 else 0 := by
  unfold wrongN
  rw [List.range_succ, List.countP_append, List.countP_cons, List.countP_nil, Nat.zero_add]
theorem unkN_succ (l : List Int) (j : Nat) : unkN l (j + 1) = unkN l j + if l[j]?.getD 0 = 0 then 1 else 0 := by
  unfold unkN
  rw [List.range_succ, List.countP_append, List.countP_cons, List.countP_nil, Nat.zero_add]
  simp
theorem wrongN_le (l b : List Int) (j : Nat) : wrongN l b j ≤ j := by
  have : wrongN l b j ≤ (List.range j).length := List.countP_le_length
  simpa using this
theorem unkN_le (l : List Int) (j : Nat) : unkN l j ≤ j := by
  have : unkN l j ≤ (List.range j).length := List.countP_le_length
  simpa using this
theorem wrong_zero {l b : List Int} {j : Nat} (h : ∀ i, i < j → wr1 (l[i]?.getD 0) (b[i]?.getD 0) = false) : wrongN l b j = 0 := by
  induction j with
  | zero => rfl
  | succ j ih => rw [wrongN_succ, ih (fun i hi => h i (by omega)), h j (by omega)]; rfl
theorem unk_zero {l : List Int} {j : Nat} (h : ∀ i, i < j → l[i]?.getD 0 ≠ 0) : unkN l j = 0 := by
  induction j with
  | zero => rfl
  | succ j ih => rw [unkN_succ, ih (fun i hi => h i (by omega)), if_neg (h j (by omega))]
theorem wrong_mono {l l' b : List Int} {j : Nat} (h : ∀ i, i < j → wr1 (l'[i]?.getD 0) (b[i]?.getD 0) = true → wr1 (l[i]?.getD 0) (b[i]?.getD 0) = true) : wrongN l' b j ≤ wrongN l b j := by
  induction j with
  | zero => exact Nat.le_refl _
  | succ j ih =>
    rw [wrongN_succ, wrongN_succ]
    have h1 := ih (fun i hi => h i (by omega))
    have h2 := h j (by omega)
    by_cases h3 : wr1 (l'[j]?.getD 0) (b[j]?.getD 0) = true
    · rw [if_pos h3, if_pos (h2 h3)]; omega
    · rw [if_neg h3]; omega
theorem ideal_wr {m b : Int} (hm : 1 ≤ m) (hb : b = 0 ∨ b = 1) : wr1 (idealE m b) b = false ∧ idealE m b ≠ 0 := by
  unfold wr1 idealE
  rcases hb with rfl | rfl
  · rw [decide_eq_false (show ¬ (m - 2 * m * 0 < 0) by omega)]
    exact ⟨by simp, by omega⟩
  · rw [decide_eq_true (show m - 2 * m * 1 < 0 by omega)]
    exact ⟨by simp, by omega⟩
/-- One ideal value more makes nothing wrong. -/
theorem add_wr {m b x : Int} (hm : 1 ≤ m) (hm2 : m ≤ 127) (hb : b = 0 ∨ b = 1) (hx : -127 ≤ x ∧ x ≤ 127) (h : wr1 (addI x (idealE m b)) b = true) : wr1 x b = true := by
  have h1 : clampI x = x := clampI_id hx.1 hx.2
  have h2 : clampI (idealE m b) = idealE m b := clampI_id (by unfold idealE; rcases hb with rfl | rfl <;> omega) (by unfold idealE; rcases hb with rfl | rfl <;> omega)
  unfold addI at h
  rw [h1, h2] at h
  have h3 := clampI_cases (x + idealE m b)
  unfold wr1 at h ⊢
  rw [Bool.and_eq_true] at h ⊢
  obtain ⟨h4, h5⟩ := h
  have h4 := of_decide_eq_true h4
  rcases hb with rfl | rfl
  · rw [show decide ((0 : Int) = 1) = false from rfl] at h5 ⊢
    have h6 : clampI (x + idealE m 0) < 0 := by simpa using h5
    have h7 : x < 0 := by unfold idealE at h3 h6; omega
    exact ⟨decide_eq_true (by omega), by rw [decide_eq_true h7]; rfl⟩
  · rw [show decide ((1 : Int) = 1) = true from rfl] at h5 ⊢
    have h6 : ¬ (clampI (x + idealE m 1) < 0) := by simpa using h5
    have h7 : 0 < x := by unfold idealE at h3 h6 h4; omega
    exact ⟨decide_eq_true (by omega), by rw [decide_eq_false (show ¬ x < 0 by omega)]; rfl⟩
/-- The index of the least absolute value among the first j. -/
def absI (x : Int) : Int := max x (-x)
def leastN (l : List Int) : Nat → Nat
  | 0 => 0
  | j + 1 => if absI (l[j]?.getD 0) < absI (l[leastN l j]?.getD 0) then j else leastN l j
theorem leastN_lt (l : List Int) : ∀ j, 0 < j → leastN l j < j
  | 0, h => absurd h (Nat.lt_irrefl 0)
  | j + 1, _ => by
    unfold leastN
    split
    · omega
    · rcases Nat.eq_zero_or_pos j with rfl | hj
      · exact Nat.lt_succ_self 0
      · have := leastN_lt l j hj; omega
/-- The indices of the known elements among the first j. -/
def knownN (l : List Int) (j : Nat) : List Nat := (List.range j).filter fun i => decide (l[i]?.getD 0 ≠ 0)
theorem knownN_succ (l : List Int) (j : Nat) : knownN l (j + 1) = if l[j]?.getD 0 ≠ 0 then knownN l j ++ [j] else knownN l j := by
  unfold knownN
  rw [List.range_succ, List.filter_append, List.filter_cons, List.filter_nil]
  by_cases h : l[j]?.getD 0 = 0
  · rw [if_neg (by simpa using h), if_neg (by simpa using h), List.append_nil]
  · rw [if_pos (by simpa using h), if_pos h]
theorem knownN_le (l : List Int) (j : Nat) : (knownN l j).length ≤ j := by
  have := List.length_filter_le (fun i => decide (l[i]?.getD 0 ≠ 0)) (List.range j)
  simpa [knownN] using this
end Go.Proofs.YtkkombhpiagngaaDoor
