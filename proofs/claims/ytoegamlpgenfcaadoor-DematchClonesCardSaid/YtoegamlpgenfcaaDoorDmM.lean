/-
  Soft values. Mathematics, ahead of stage 11. The matrix of the sub-block interleaver. Mathematics. The order of a stream is a permutation of its matrix. Mathematics. The circular buffer and its selections. Mathematics, ahead of stage 10. The circular buffer: how often a position is in it, and in a selection. Mathematics, ahead of stage 10. What the functions of the circular buffer answer. Mathematics. Dematching with combining: mathematics, ahead of stage 12.
-/
import Derived.Test.YtoegamlpgenfcaaDoorBits3
namespace Go.Proofs.YtoegamlpgenfcaaDoor
/-! ### Soft values. Mathematics, ahead of stage 11. -/
section
def clampI (v : Int) : Int := if 127 < v then 127 else if v < -127 then -127 else v
def addI (a b : Int) : Int := clampI (clampI a + clampI b)
theorem clampI_cases (v : Int) : (127 < v ∧ clampI v = 127) ∨ (v < -127 ∧ clampI v = -127) ∨ (-127 ≤ v ∧ v ≤ 127 ∧ clampI v = v) := by
  unfold clampI
  split
  · exact .inl ⟨by assumption, rfl⟩
  · split
    · exact .inr (.inl ⟨by assumption, rfl⟩)
    · exact .inr (.inr ⟨by omega, by omega, rfl⟩)
theorem clampI_range (v : Int) : -127 ≤ clampI v ∧ clampI v ≤ 127 := by have := clampI_cases v; omega
theorem clampI_id {v : Int} (h1 : -127 ≤ v) (h2 : v ≤ 127) : clampI v = v := by have := clampI_cases v; omega
theorem clampI_mono {a c : Int} (h : a ≤ c) : clampI a ≤ clampI c := by have := clampI_cases a; have := clampI_cases c; omega
theorem addI_comm (a b : Int) : addI a b = addI b a := by unfold addI; rw [Int.add_comm]
theorem addI_mono {a c : Int} (b : Int) (h : a ≤ c) : addI a b ≤ addI c b := clampI_mono (Int.add_le_add_right (clampI_mono h) _)
theorem addI_zero (a : Int) : addI (clampI a) 0 = clampI a := by
  have h := clampI_range a
  unfold addI
  rw [clampI_id h.1 h.2, show clampI 0 = 0 from rfl, Int.add_zero, clampI_id h.1 h.2]
theorem addI_range (a b : Int) : -127 ≤ addI a b ∧ addI a b ≤ 127 := clampI_range _
theorem addI_assoc {a b c : Int} (h : (0 ≤ a ∧ 0 ≤ b ∧ 0 ≤ c) ∨ (a ≤ 0 ∧ b ≤ 0 ∧ c ≤ 0)) : addI (addI a b) c = addI a (addI b c) := by
  unfold addI
  have ha := clampI_cases a
  have hb := clampI_cases b
  have hc := clampI_cases c
  generalize clampI a = x at *
  generalize clampI b = y at *
  generalize clampI c = z at *
  have h1 := clampI_cases (x + y)
  have h2 := clampI_cases (y + z)
  generalize clampI (x + y) = u at *
  generalize clampI (y + z) = t at *
  have h3 := clampI_cases u
  have h4 := clampI_cases t
  generalize clampI u = u' at *
  generalize clampI t = t' at *
  have h5 := clampI_cases (u' + z)
  have h6 := clampI_cases (x + t')
  omega
/-- Whether all are soft values. -/
def softB (l : List Int) : Bool := l.all fun x => decide (-127 ≤ x) && decide (x ≤ 127)
theorem softB_at {l : List Int} (h : softB l = true) (j : Nat) : -127 ≤ l[j]?.getD 0 ∧ l[j]?.getD 0 ≤ 127 := by
  rcases Nat.lt_or_ge j l.length with hj | hj
  · rw [List.getElem?_eq_getElem hj, Option.getD_some]
    have := List.all_eq_true.1 h _ (List.getElem_mem hj)
    simpa using this
  · rw [List.getElem?_eq_none hj]; decide
/-- The hard decisions; the ideal soft values; the sums; the scaled values. -/
def hardE (x : Int) : Int := if x < 0 then 1 else 0
def hardI (l : List Int) : List Int := l.map hardE
def idealE (m b : Int) : Int := m - 2 * m * b
def idealI (m : Int) (bits : List Int) : List Int := bits.map (idealE m)
def sumI (a b : List Int) : List Int := (List.range a.length).map fun i => addI (a[i]?.getD 0) (b[i]?.getD 0)
def scaleE (n d x : Int) : Int := clampI ((x * n).tdiv d)
def scaleI (n d : Int) (l : List Int) : List Int := l.map (scaleE n d)
theorem hard_ideal {m : Int} {bits : List Int} (hm : 1 ≤ m) (hb : ∀ b ∈ bits, b = 0 ∨ b = 1) : hardI (idealI m bits) = bits := by
  unfold hardI idealI
  rw [List.map_map]
  conv => rhs; rw [← List.map_id bits]
  refine List.map_congr_left fun b hbm => ?_
  show hardE (idealE m b) = b
  unfold hardE
  rcases hb b hbm with rfl | rfl
  · exact if_neg (by unfold idealE; omega)
  · exact if_pos (by unfold idealE; omega)
/-- Wrong and unknown elements among the first j. -/
def wr1 (x b : Int) : Bool := decide (x ≠ 0) && (decide (x < 0) != decide (b = 1))
def wrongN (l b : List Int) (j : Nat) : Nat := (List.range j).countP fun i => wr1 (l[i]?.getD 0) (b[i]?.getD 0)
def unkN (l : List Int) (j : Nat) : Nat := (List.range j).countP fun i => decide (l[i]?.getD 0 = 0)
theorem wrongN_succ (l b : List Int) (j : Nat) : wrongN l b (j + 1) = wrongN l b j + if wr1 (l[j]?.getD 0) (b[j]?.getD 0) = true then 1 else 0 := by
  unfold wrongN
  rw [List.range_succ, List.countP_append, List.countP_cons, List.countP_nil, Nat.zero_add]
theorem unkN_succ (l : List Int) (j : Nat) : unkN l (j + 1) = unkN l j + if l[j]?.getD 0 = 0 then 1 else 0 := by
  unfold unkN
  rw [List.range_succ, List.countP_append, List.countP_cons, List.countP_nil, Nat.zero_add]
  simp
theorem wrongN_le (l b : List Int) (j : Nat) : wrongN l b j ≤ j := by
  have : wrongN l b j ≤ (List.range j).length := List.countP_le_length
  simpa using this
theorem unkN_le (l : List Int) (j : Nat) : unkN l j ≤ j := by
  have : unkN l j ≤ (List.range j).length := List.countP_le_length
  simpa using this
theorem wrong_zero {l b : List Int} {j : Nat} (h : ∀ i, i < j → wr1 (l[i]?.getD 0) (b[i]?.getD 0) = false) : wrongN l b j = 0 := by
  induction j with
  | zero => rfl
  | succ j ih => rw [wrongN_succ, ih (fun i hi => h i (by omega)), h j (by omega)]; rfl
theorem unk_zero {l : List Int} {j : Nat} (h : ∀ i, i < j → l[i]?.getD 0 ≠ 0) : unkN l j = 0 := by
  induction j with
  | zero => rfl
  | succ j ih => rw [unkN_succ, ih (fun i hi => h i (by omega)), if_neg (h j (by omega))]
theorem wrong_mono {l l' b : List Int} {j : Nat} (h : ∀ i, i < j → wr1 (l'[i]?.getD 0) (b[i]?.getD 0) = true → wr1 (l[i]?.getD 0) (b[i]?.getD 0) = true) : wrongN l' b j ≤ wrongN l b j := by
  induction j with
  | zero => exact Nat.le_refl _
  | succ j ih =>
    rw [wrongN_succ, wrongN_succ]
    have h1 := ih (fun i hi => h i (by omega))
    have h2 := h j (by omega)
    by_cases h3 : wr1 (l'[j]?.getD 0) (b[j]?.getD 0) = true
    · rw [if_pos h3, if_pos (h2 h3)]; omega
    · rw [if_neg h3]; omega
theorem ideal_wr {m b : Int} (hm : 1 ≤ m) (hb : b = 0 ∨ b = 1) : wr1 (idealE m b) b = false ∧ idealE m b ≠ 0 := by
  unfold wr1 idealE
  rcases hb with rfl | rfl
  · rw [decide_eq_false (show ¬ (m - 2 * m * 0 < 0) by omega)]
    exact ⟨by simp, by omega⟩
  · rw [decide_eq_true (show m - 2 * m * 1 < 0 by omega)]
    exact ⟨by simp, by omega⟩
/-- One ideal value more makes nothing wrong. -/
theorem add_wr {m b x : Int} (hm : 1 ≤ m) (hm2 : m ≤ 127) (hb : b = 0 ∨ b = 1) (hx : -127 ≤ x ∧ x ≤ 127) (h : wr1 (addI x (idealE m b)) b = true) : wr1 x b = true := by
  have h1 : clampI x = x := clampI_id hx.1 hx.2
  have h2 : clampI (idealE m b) = idealE m b := clampI_id (by unfold idealE; rcases hb with rfl | rfl <;> omega) (by unfold idealE; rcases hb with rfl | rfl <;> omega)
  unfold addI at h
  rw [h1, h2] at h
  have h3 := clampI_cases (x + idealE m b)
  unfold wr1 at h ⊢
  rw [Bool.and_eq_true] at h ⊢
  obtain ⟨h4, h5⟩ := h
  have h4 := of_decide_eq_true h4
  rcases hb with rfl | rfl
  · rw [show decide ((0 : Int) = 1) = false from rfl] at h5 ⊢
    have h6 : clampI (x + idealE m 0) < 0 := by simpa using h5
    have h7 : x < 0 := by unfold idealE at h3 h6; omega
    exact ⟨decide_eq_true (by omega), by rw [decide_eq_true h7]; rfl⟩
  · rw [show decide ((1 : Int) = 1) = true from rfl] at h5 ⊢
    have h6 : ¬ (clampI (x + idealE m 1) < 0) := by simpa using h5
    have h7 : 0 < x := by unfold idealE at h3 h6 h4; omega
    exact ⟨decide_eq_true (by omega), by rw [decide_eq_false (show ¬ x < 0 by omega)]; rfl⟩
/-- The index of the least absolute value among the first j. -/
def absI (x : Int) : Int := max x (-x)
def leastN (l : List Int) : Nat → Nat
  | 0 => 0
  | j + 1 => if absI (l[j]?.getD 0) < absI (l[leastN l j]?.getD 0) then j else leastN l j
theorem leastN_lt (l : List Int) : ∀ j, 0 < j → leastN l j < j
  | 0, h => absurd h (Nat.lt_irrefl 0)
  | j + 1, _ => by
    unfold leastN
    split
    · omega
    · rcases Nat.eq_zero_or_pos j with rfl | hj
      · exact Nat.lt_succ_self 0
      · have := leastN_lt l j hj; omega
/-- The indices of the known elements among the first j. -/
def knownN (l : List Int) (j : Nat) : List Nat := (List.range j).filter fun i => decide (l[i]?.getD 0 ≠ 0)
theorem knownN_succ (l : List Int) (j : Nat) : knownN l (j + 1) = if l[j]?.getD 0 ≠ 0 then knownN l j ++ [j] else knownN l j := by
  unfold knownN
  rw [List.range_succ, List.filter_append, List.filter_cons, List.filter_nil]
  by_cases h : l[j]?.getD 0 = 0
  · rw [if_neg (by simpa using h), if_neg (by simpa using h), List.append_nil]
  · rw [if_pos (by simpa using h), if_pos h]
theorem knownN_le (l : List Int) (j : Nat) : (knownN l j).length ≤ j := by
  have := List.length_filter_le (fun i => decide (l[i]?.getD 0 ≠ 0)) (List.range j)
  simpa [knownN] using this
end

/-! ### The matrix of the sub-block interleaver. Mathematics. -/
section
/-- n zeros, in which for each i below j the element f i has become g i. -/
def putL (f : Nat → Nat) (g : Nat → Int) (n : Nat) : Nat → List Int
  | 0 => List.replicate n 0
  | j + 1 => (putL f g n j).set (f j) (g j)
section
variable {f : Nat → Nat} {g : Nat → Int} {n : Nat}
theorem putL_length : ∀ j, (putL f g n j).length = n
  | 0 => by simp [putL]
  | j + 1 => by rw [putL, List.length_set, putL_length j]
theorem putL_at {i : Nat} : ∀ j, i < j → f i < n → (∀ a b, a < j → b < j → f a = f b → a = b) → (putL f g n j)[f i]?.getD 0 = g i
  | 0, h, _, _ => absurd h (Nat.not_lt_zero _)
  | j + 1, h, hn, hinj => by
    rw [putL]
    by_cases he : i = j
    · subst he
      rw [List.getElem?_set_self (by rw [putL_length]; exact hn)]
      rfl
    · rw [List.getElem?_set_ne (fun e => he (hinj i j (by omega) (by omega) e.symm))]
      exact putL_at j (by omega) hn (fun a b ha hb => hinj a b (by omega) (by omega))
theorem list_ext0 {xs ys : List Int} (hl : xs.length = ys.length) (h : ∀ i, i < ys.length → xs[i]?.getD 0 = ys[i]?.getD 0) : xs = ys := by
  apply List.ext_getElem hl
  intro i h1 h2
  have := h i h2
  simpa [h1, h2] using this
theorem putL_id : putL (fun i => i) g n n = (List.range n).map g := by
  apply list_ext0
  · rw [putL_length]; simp
  · intro i hi
    have hi : i < n := by simpa using hi
    rw [putL_at (f := fun i => i) n hi hi (fun a b _ _ e => e)]
    simp [hi]
theorem range_at {x : Nat} (h : x < n) : ((List.range n).map g)[x]?.getD 0 = g x := by simp [h]
end

/-- The column permutation. -/
def colL : List Nat := [0, 16, 8, 24, 4, 20, 12, 28, 2, 18, 10, 26, 6, 22, 14, 30, 1, 17, 9, 25, 5, 21, 13, 29, 3, 19, 11, 27, 7, 23, 15, 31]
def colN (k : Nat) : Nat := colL[k]?.getD 0
theorem col_lt (k : Nat) : colN k < 32 := by
  rcases Nat.lt_or_ge k 32 with h | h
  · exact (by decide : ∀ k, k < 32 → colN k < 32) k h
  · have : colL[k]? = none := List.getElem?_eq_none_iff.2 h
    unfold colN
    rw [this]
    decide
theorem col_inv : ∀ k, k < 32 → colN (colN k) = k := by decide
theorem col_inj {a b : Nat} (ha : a < 32) (hb : b < 32) (h : colN a = colN b) : a = b := by rw [← col_inv a ha, ← col_inv b hb, h]
/-- The number of rows of d elements. -/
def rowsN (d : Nat) : Nat := (d + 31) / 32
def okD (d : Int) : Bool := decide (1 ≤ d) && decide (d ≤ 6148)
def okS (st : Int) : Bool := decide (0 ≤ st) && decide (st ≤ 2)
theorem okD_nat {d : Int} (h : okD d = true) : ∃ k : Nat, d = (k : Int) ∧ 1 ≤ k ∧ k ≤ 6148 := by
  simp [okD] at h
  exact ⟨d.toNat, by omega, by omega, by omega⟩
theorem rows_le {d : Nat} (h1 : 1 ≤ d) (h2 : d ≤ 6148) : 1 ≤ rowsN d ∧ rowsN d ≤ 193 ∧ d ≤ 32 * rowsN d ∧ 32 * rowsN d < d + 32 := by unfold rowsN; omega
/-- The matrix index of the element k, of a stream that is shifted or not. -/
def mN (R k : Nat) : Nat := colN (k / R) + 32 * (k % R)
def shN (R : Nat) (s : Bool) (m : Nat) : Nat := if s then (m + 1) % (32 * R) else m
def idxN (R : Nat) (s : Bool) (k : Nat) : Nat := shN R s (mN R k)
section
variable {R k : Nat} {s : Bool}
theorem mN_lt (hR : 0 < R) : mN R k < 32 * R := by
  have h1 := col_lt (k / R)
  have h2 := Nat.mod_lt k hR
  unfold mN
  omega
theorem idx_lt (hR : 0 < R) : idxN R s k < 32 * R := by
  have := mN_lt (k := k) hR
  unfold idxN shN
  split
  · exact Nat.mod_lt _ (by omega)
  · exact this
theorem div_lt32 (hk : k < 32 * R) : k / R < 32 := by
  have : 0 < R := by omega
  rw [Nat.div_lt_iff_lt_mul this]
  omega
theorem mN_inj {a b : Nat} (ha : a < 32 * R) (hb : b < 32 * R) (h : mN R a = mN R b) : a = b := by
  have hR : 0 < R := by omega
  unfold mN at h
  have h1 := col_lt (a / R)
  have h2 := col_lt (b / R)
  have e1 : colN (a / R) = colN (b / R) := by omega
  have e2 : a % R = b % R := by omega
  have e3 := col_inj (div_lt32 ha) (div_lt32 hb) e1
  rw [← Nat.div_add_mod a R, ← Nat.div_add_mod b R, e2, e3]
theorem shN_inj {R : Nat} {s : Bool} {a b : Nat} (ha : a < 32 * R) (hb : b < 32 * R) (h : shN R s a = shN R s b) : a = b := by
  unfold shN at h
  cases s
  · simpa using h
  · simp only [if_true] at h
    have ea : (a + 1) % (32 * R) = if a + 1 = 32 * R then 0 else a + 1 := by
      split
      · rename_i e; rw [e, Nat.mod_self]
      · exact Nat.mod_eq_of_lt (by omega)
    have eb : (b + 1) % (32 * R) = if b + 1 = 32 * R then 0 else b + 1 := by
      split
      · rename_i e; rw [e, Nat.mod_self]
      · exact Nat.mod_eq_of_lt (by omega)
    rw [ea, eb] at h
    split at h <;> split at h <;> omega
theorem idx_inj {a b : Nat} (ha : a < 32 * R) (hb : b < 32 * R) (h : idxN R s a = idxN R s b) : a = b :=
  mN_inj ha hb (shN_inj (mN_lt (by omega)) (mN_lt (by omega)) h)
/-- Where the matrix index m stands in the interleaved stream. -/
theorem idx_surj {m : Nat} (hm : m < 32 * R) : ∃ k, k < 32 * R ∧ idxN R s k = m := by
  have hR : 0 < R := by omega
  have base : ∀ m, m < 32 * R → ∃ k, k < 32 * R ∧ mN R k = m := by
    intro m hm
    have h1 := col_lt (m % 32)
    have h2 : m / 32 < R := by omega
    refine ⟨R * colN (m % 32) + m / 32, ?_, ?_⟩
    · have : R * colN (m % 32) ≤ R * 31 := Nat.mul_le_mul_left R (by omega)
      omega
    · unfold mN
      rw [Nat.mul_add_div hR, Nat.div_eq_of_lt h2, Nat.mul_add_mod, Nat.mod_eq_of_lt h2, Nat.add_zero, col_inv _ (Nat.mod_lt m (by decide))]
      omega
  cases s
  · obtain ⟨k, hk, e⟩ := base m hm
    exact ⟨k, hk, by unfold idxN shN; simpa using e⟩
  · rcases Nat.eq_zero_or_pos m with h0 | h0
    · obtain ⟨k, hk, e⟩ := base (32 * R - 1) (by omega)
      refine ⟨k, hk, ?_⟩
      unfold idxN shN
      rw [e, if_pos rfl, show 32 * R - 1 + 1 = 32 * R by omega, Nat.mod_self, h0]
    · obtain ⟨k, hk, e⟩ := base (m - 1) (by omega)
      refine ⟨k, hk, ?_⟩
      unfold idxN shN
      rw [e, if_pos rfl, show m - 1 + 1 = m by omega, Nat.mod_eq_of_lt hm]
end

/-- The element of the order where the matrix index is m, with N dummies. -/
def ordE (N m : Nat) : Int := if m < N then -1 else ((m - N : Nat) : Int)
theorem ordE_max (N m : Nat) : max ((m : Int) - (N : Int)) (-1) = ordE N m := by
  unfold ordE
  split <;> omega
/-- The order of a stream of d elements. -/
def orderI (d : Nat) (s : Bool) : List Int := (List.range (32 * rowsN d)).map fun k => ordE (32 * rowsN d - d) (idxN (rowsN d) s k)
def shB (st : Int) : Bool := decide (st = 2)
def orderS (d st : Int) : List Int × Int := if (okD d && okS st) = true then (orderI d.toNat (shB st), 0) else ([], 2)
theorem orderI_length (d : Nat) (s : Bool) : (orderI d s).length = 32 * rowsN d := by simp [orderI]
theorem orderI_at {d k : Nat} {s : Bool} (h : k < 32 * rowsN d) : (orderI d s)[k]?.getD 0 = ordE (32 * rowsN d - d) (idxN (rowsN d) s k) := range_at h
/-- The stream with its dummies ahead. -/
def fillI (N : Nat) (xs : List Int) : List Int := List.replicate N 2 ++ xs
theorem fillI_low {N m : Nat} {xs : List Int} (h : m < N) : (fillI N xs)[m]?.getD 0 = 2 := by
  unfold fillI
  rw [List.getElem?_append_left (by simpa using h)]
  simp [h]
theorem fillI_high {N m : Nat} {xs : List Int} (h : N ≤ m) : (fillI N xs)[m]?.getD 0 = xs[m - N]?.getD 0 := by
  unfold fillI
  rw [List.getElem?_append_right (by simpa using h)]
  simp
/-- The interleaved stream. -/
def interI (s : Bool) (xs : List Int) : List Int := (List.range (32 * rowsN xs.length)).map fun k => (fillI (32 * rowsN xs.length - xs.length) xs)[idxN (rowsN xs.length) s k]?.getD 0
theorem interI_length (s : Bool) (xs : List Int) : (interI s xs).length = 32 * rowsN xs.length := by simp [interI]
def interS (xs : List Int) (st : Int) : List Int × Int := if (okD (xs.length : Int) && okS st) = true then (if validB xs = true then (interI (shB st) xs, 0) else ([], 3)) else ([], 2)
/-- The matrix out of an interleaved stream. -/
def backI (R : Nat) (s : Bool) (l : List Int) : List Int := putL (idxN R s) (fun k => l[k]?.getD 0) (32 * R) (32 * R)
theorem backI_length (R : Nat) (s : Bool) (l : List Int) : (backI R s l).length = 32 * R := putL_length _
theorem backI_at {R k : Nat} {s : Bool} {l : List Int} (hk : k < 32 * R) : (backI R s l)[idxN R s k]?.getD 0 = l[k]?.getD 0 :=
  putL_at _ hk (idx_lt (by omega)) (fun _ _ ha hb h => idx_inj ha hb h)
end

/-! ### The order of a stream is a permutation of its matrix. Mathematics. -/
section
/-- The matrix of the indices, with t of them filled in. -/
def mtxL (N t : Nat) : List Int := List.replicate N (-1) ++ (List.range t).map (fun i : Nat => (i : Int))
theorem mtxL_length (N t : Nat) : (mtxL N t).length = N + t := by simp [mtxL]
theorem mtxL_zero (N : Nat) : mtxL N 0 = List.replicate N (-1) := by simp [mtxL]
theorem mtxL_succ (N t : Nat) : mtxL N t ++ [(t : Int)] = mtxL N (t + 1) := by simp [mtxL, List.range_succ]
theorem mtxL_at {N t m : Nat} (h : m < N + t) : (mtxL N t)[m]?.getD 0 = ordE N m := by
  unfold mtxL ordE
  by_cases hm : m < N
  · rw [List.getElem?_append_left (by simpa using hm), if_pos hm]
    simp [hm]
  · rw [List.getElem?_append_right (by simpa using hm), if_neg hm, List.length_replicate]
    simp [show m - N < t by omega]
theorem count_map_range {f : Nat → Nat} : ∀ (j v : Nat), (∀ a b, a < j → b < j → f a = v → f b = v → a = b) → ((List.range j).map f).count v = if (∃ k, k < j ∧ f k = v) then 1 else 0 := by
  intro j v
  induction j with
  | zero =>
    intro _
    rw [if_neg (by rintro ⟨k, hk, _⟩; exact absurd hk (Nat.not_lt_zero _))]
    rfl
  | succ j ih =>
    intro hj
    rw [List.range_succ, List.map_append, List.count_append, ih (fun a b ha hb => hj a b (by omega) (by omega))]
    by_cases e : f j = v
    · rw [if_neg (by rintro ⟨k, hk, e2⟩; exact absurd (hj k j (by omega) (by omega) e2 e) (by omega)), if_pos ⟨j, by omega, e⟩]
      simp [e]
    · have h0 : List.count v (List.map f [j]) = 0 := by simp [e]
      rw [h0]
      by_cases c : ∃ k, k < j ∧ f k = v
      · obtain ⟨k, hk, e2⟩ := c
        rw [if_pos ⟨k, hk, e2⟩, if_pos ⟨k, by omega, e2⟩]
      · rw [if_neg c, if_neg]
        rintro ⟨k, hk, e2⟩
        rcases Nat.lt_or_ge k j with h | h
        · exact c ⟨k, h, e2⟩
        · obtain rfl : k = j := by omega
          exact e e2
theorem perm_range {n : Nat} {f : Nat → Nat} (hlt : ∀ k, k < n → f k < n) (hinj : ∀ a b, a < n → b < n → f a = f b → a = b) (hsur : ∀ m, m < n → ∃ k, k < n ∧ f k = m) : ((List.range n).map f).Perm (List.range n) := by
  rw [List.perm_iff_count]
  intro v
  have h2 := count_map_range (f := fun k => k) n v (fun a b _ _ e1 e2 => e1.trans e2.symm)
  rw [List.map_id'] at h2
  rw [count_map_range n v (fun a b ha hb e1 e2 => hinj a b ha hb (e1.trans e2.symm)), h2]
  by_cases h : v < n
  · rw [if_pos (hsur v h), if_pos ⟨v, h, rfl⟩]
  · rw [if_neg (by rintro ⟨k, hk, e⟩; have := hlt k hk; omega), if_neg (by rintro ⟨k, hk, e⟩; omega)]
theorem order_perm {d : Nat} {s : Bool} (h1 : 1 ≤ d) (h2 : d ≤ 6148) : (orderI d s).Perm (mtxL (32 * rowsN d - d) d) := by
  have hr := rows_le h1 h2
  have hp := perm_range (n := 32 * rowsN d) (f := idxN (rowsN d) s) (fun k _ => idx_lt (by omega)) (fun _ _ ha hb e => idx_inj ha hb e) (fun _ hm => idx_surj hm)
  have hq := hp.map (ordE (32 * rowsN d - d))
  rw [List.map_map] at hq
  have e : (List.range (32 * rowsN d)).map (ordE (32 * rowsN d - d)) = mtxL (32 * rowsN d - d) d := by
    apply list_ext0
    · rw [mtxL_length]; simp; omega
    · intro i hi
      rw [mtxL_length] at hi
      rw [mtxL_at hi, range_at (by omega)]
  rw [e] at hq
  exact hq
theorem cnt_same (a : Int) : List.count a [a] = 1 := by simp
theorem cnt_other {a b : Int} (h : b ≠ a) : List.count a [b] = 0 := by
  rw [List.count_cons, List.count_nil, if_neg (by simpa using h)]
theorem count_mtx (N d : Nat) : (mtxL N d).count (-1) = N ∧ ∀ i : Nat, i < d → (mtxL N d).count (i : Int) = 1 := by
  have base : ∀ (t : Nat), ((List.range t).map (fun i : Nat => (i : Int))).count (-1) = 0 ∧ ∀ i : Nat, ((List.range t).map (fun i : Nat => (i : Int))).count (i : Int) = if i < t then 1 else 0 := by
    intro t
    induction t with
    | zero => exact ⟨rfl, fun i => rfl⟩
    | succ t ih =>
      simp only [List.range_succ, List.map_append, List.count_append, ih.1, ih.2]
      simp only [List.map_cons, List.map_nil]
      refine ⟨by rw [cnt_other (by omega)], fun i => ?_⟩
      by_cases e : i = t
      · subst e; simp
      · have : List.count (i : Int) [(t : Int)] = 0 := cnt_other (by omega)
        rw [this]
        by_cases h : i < t
        · rw [if_pos h, if_pos (by omega)]
        · rw [if_neg h, if_neg (by omega)]
  unfold mtxL
  refine ⟨by rw [List.count_append, (base d).1]; simp, fun i hi => ?_⟩
  rw [List.count_append, (base d).2, if_pos hi]
  have : List.count (i : Int) (List.replicate N (-1)) = 0 := by
    rw [List.count_replicate]
    rw [if_neg]
    simp
  rw [this]
end

/-! ### The circular buffer and its selections. Mathematics, ahead of stage 10. -/
section
/-! ### Selections of the elements that are usable, around a circle. -/

def useB (x : Int) : Bool := decide (0 ≤ x)
/-- The number of usable elements. -/
def usable (l : List Int) : Nat := l.countP useB
/-- The circle, from s on. -/
def rotL (l : List Int) (s : Nat) : List Int := l.drop s ++ l.take s
/-- The usable elements of one turn, from s on. -/
def turnL (l : List Int) (s : Nat) : List Int := (rotL l s).filter useB
/-- A selection of e elements. -/
def selL (l : List Int) (s e : Nat) : List Int := (List.range e).map fun j => (turnL l s)[j % usable l]?.getD 0
/-- How many usable elements stand at the t places from s on. -/
def cntT (l : List Int) (s t : Nat) : Nat := t / l.length * usable l + ((rotL l s).take (t % l.length)).countP useB

section
variable {l : List Int} {s t e : Nat}
theorem rotL_length (l : List Int) (hs : s ≤ l.length) : (rotL l s).length = l.length := by unfold rotL; rw [List.length_append, List.length_drop, List.length_take]; omega
theorem rotL_at (hs : s < l.length) (ht : t < l.length) : (rotL l s)[t]? = l[(s + t) % l.length]? := by
  unfold rotL
  by_cases h : t < l.length - s
  · rw [List.getElem?_append_left (by rw [List.length_drop]; exact h), List.getElem?_drop, Nat.mod_eq_of_lt (by omega)]
  · rw [List.getElem?_append_right (by rw [List.length_drop]; omega), List.length_drop, List.getElem?_take, if_pos (by omega)]
    congr 1
    have : s + t = (t - (l.length - s)) + l.length := by omega
    rw [this, Nat.add_mod_right, Nat.mod_eq_of_lt (by omega)]
theorem countP_rot (l : List Int) (s : Nat) : (rotL l s).countP useB = usable l := by
  unfold rotL usable
  rw [List.countP_append, Nat.add_comm, ← List.countP_append, List.take_append_drop]
theorem turnL_length (l : List Int) (s : Nat) : (turnL l s).length = usable l := by
  unfold turnL
  rw [← List.countP_eq_length_filter, countP_rot]
theorem filter_at {p : Int → Bool} : ∀ (l : List Int) (i : Nat) (x : Int), l[i]? = some x → p x = true → (l.filter p)[(l.take i).countP p]? = some x
  | [], i, x, h, _ => by simp at h
  | y :: l, 0, x, h, hp => by
    simp only [List.getElem?_cons_zero, Option.some.injEq] at h
    subst h
    simp [hp]
  | y :: l, i + 1, x, h, hp => by
    rw [List.getElem?_cons_succ] at h
    have ih := filter_at l i x h hp
    rw [List.take_succ_cons]
    by_cases hy : p y = true
    · rw [List.countP_cons_of_pos hy, List.filter_cons_of_pos hy, List.getElem?_cons_succ]
      exact ih
    · rw [List.countP_cons_of_neg hy, List.filter_cons_of_neg hy]
      exact ih
theorem countP_lt {p : Int → Bool} {l : List Int} {i : Nat} {x : Int} (h : l[i]? = some x) (hp : p x = true) : (l.take i).countP p < l.countP p := by
  have h1 := filter_at l i x h hp
  have h2 := (List.getElem?_eq_some_iff.1 h1).1
  rwa [← List.countP_eq_length_filter] at h2
theorem selL_length (l : List Int) (s e : Nat) : (selL l s e).length = e := by simp [selL]
theorem selL_at {j : Nat} (h : j < e) : (selL l s e)[j]?.getD 0 = (turnL l s)[j % usable l]?.getD 0 := by simp [selL, h]
theorem selL_zero : selL l s 0 = [] := rfl
theorem selL_succ : selL l s (e + 1) = selL l s e ++ [(turnL l s)[e % usable l]?.getD 0] := by simp [selL, List.range_succ]
theorem cntT_zero : cntT l s 0 = 0 := by simp [cntT]
/-- The element at the place t behind s. -/
theorem cnt_step (hs : s < l.length) {x : Int} (hx : l[(s + t) % l.length]? = some x) : (useB x = true → cntT l s (t + 1) = cntT l s t + 1 ∧ (turnL l s)[cntT l s t % usable l]?.getD 0 = x) ∧ (useB x = false → cntT l s (t + 1) = cntT l s t) := by
  have hB : 0 < l.length := by omega
  have hr := Nat.mod_lt t hB
  have hrot : (rotL l s)[t % l.length]? = some x := by
    rw [rotL_at hs hr, ← hx]
    congr 1
    rw [Nat.add_mod s t, Nat.add_mod s (t % l.length), Nat.mod_mod]
  have htk : (rotL l s).take (t % l.length + 1) = (rotL l s).take (t % l.length) ++ [x] := by
    obtain ⟨h1, h2⟩ := List.getElem?_eq_some_iff.1 hrot
    rw [List.take_succ_eq_append_getElem h1, h2]
  have hcnt : cntT l s (t + 1) = t / l.length * usable l + ((rotL l s).take (t % l.length + 1)).countP useB := by
    unfold cntT
    by_cases hw : t % l.length + 1 = l.length
    · have h1 : (t + 1) / l.length = t / l.length + 1 := by
        have := Nat.div_add_mod t l.length
        rw [show t + 1 = l.length * (t / l.length) + l.length by omega, Nat.mul_add_div hB, Nat.div_self hB]
      have h2 : (t + 1) % l.length = 0 := by
        have := Nat.div_add_mod t l.length
        rw [show t + 1 = l.length * (t / l.length) + l.length by omega, Nat.mul_add_mod, Nat.mod_self]
      rw [h1, h2, hw, List.take_zero, List.take_of_length_le (by rw [rotL_length l (by omega)]; exact Nat.le_refl _), countP_rot, Nat.add_mul, Nat.one_mul]
      simp
    · have hlt : t % l.length + 1 < l.length := by omega
      have hd := Nat.div_add_mod t l.length
      have et : t + 1 = l.length * (t / l.length) + (t % l.length + 1) := by omega
      have h1 : (t + 1) / l.length = t / l.length :=
        (congrArg (· / l.length) et).trans ((Nat.mul_add_div hB _ _).trans (by rw [Nat.div_eq_of_lt hlt, Nat.add_zero]))
      have h2 : (t + 1) % l.length = t % l.length + 1 :=
        (congrArg (· % l.length) et).trans ((Nat.mul_add_mod _ _ _).trans (Nat.mod_eq_of_lt hlt))
      rw [h1, h2]
  refine ⟨fun hu => ⟨?_, ?_⟩, fun hu => ?_⟩
  · rw [hcnt, htk, List.countP_append]
    unfold cntT
    simp [hu]
    omega
  · have h1 := filter_at (rotL l s) (t % l.length) x hrot hu
    have h2 := countP_lt hrot hu
    rw [countP_rot] at h2
    unfold cntT
    rw [Nat.mul_comm, Nat.mul_add_mod, Nat.mod_eq_of_lt h2]
    unfold turnL
    rw [h1]
    rfl
  · rw [hcnt, htk, List.countP_append]
    unfold cntT
    simp [hu]
/-- One more usable element is one more of the selection. -/
theorem sel_step (hs : s < l.length) {x : Int} (hx : l[(s + t) % l.length]? = some x) (hu : useB x = true) : selL l s (cntT l s t) ++ [x] = selL l s (cntT l s (t + 1)) := by
  obtain ⟨h1, h2⟩ := (cnt_step hs hx).1 hu
  rw [h1, selL_succ, h2]
/-- As long as e elements are not there, no e turns have passed. -/
theorem cnt_turns (hn : 1 ≤ usable l) (h : cntT l s t < e) : t < e * l.length ∨ l.length = 0 := by
  rcases Nat.eq_zero_or_pos l.length with h0 | h0
  · exact .inr h0
  · left
    unfold cntT at h
    have h1 : t / l.length < e := by
      have : t / l.length * 1 ≤ t / l.length * usable l := Nat.mul_le_mul_left _ hn
      omega
    rw [Nat.div_lt_iff_lt_mul h0] at h1
    exact h1
/-- A shorter selection begins a longer one. -/
theorem sel_prefix {d : Nat} (h : d ≤ e) : (selL l s e).take d = selL l s d := by
  apply list_ext0
  · rw [List.length_take, selL_length, selL_length]; omega
  · intro j hj
    rw [selL_length] at hj
    rw [List.getElem?_take, if_pos hj, selL_at (by omega), selL_at hj]
/-- A selection repeats after one turn. -/
theorem sel_again {j : Nat} (h : j < e) (hn : usable l ≤ j) : (selL l s e)[j]?.getD 0 = (selL l s e)[j - usable l]?.getD 0 := by
  rw [selL_at h, selL_at (by omega)]
  congr 2
  have : j = (j - usable l) + usable l := by omega
  conv => lhs; rw [this]
  rw [Nat.add_mod_right]
end
end

/-! ### The circular buffer: how often a position is in it, and in a selection. Mathematics, ahead of stage 10. -/
section
/-- The position of element i of stream s, or -1. -/
def elemI (k f s : Nat) (i : Int) : Int := if i < 0 then -1 else if s < 2 ∧ i < (f : Int) then -1 else ((s * (k + 4) : Nat) : Int) + i
/-- The full buffer. -/
def fullI (k f : Nat) : List Int := (orderI (k + 4) false).map (elemI k f 0) ++ (List.range (32 * rowsN (k + 4))).flatMap (fun j => [elemI k f 1 ((orderI (k + 4) false)[j]?.getD 0), elemI k f 2 ((orderI (k + 4) true)[j]?.getD 0)])
/-- The circular buffer. -/
def bufI (k f n : Nat) : List Int := (fullI k f).take n
theorem countP_flat2 {P : Int → Bool} (a b : Nat → Int) (l : List Nat) : (l.flatMap (fun j => [a j, b j])).countP P = (l.map a).countP P + (l.map b).countP P := by
  induction l with
  | nil => rfl
  | cons x l ih =>
    rw [List.flatMap_cons, List.countP_append, ih, List.map_cons, List.map_cons, List.countP_cons, List.countP_cons, List.countP_cons, List.countP_cons, List.countP_nil]
    omega
theorem length_flat2 (a b : Nat → Int) (l : List Nat) : (l.flatMap (fun j => [a j, b j])).length = 2 * l.length := by
  induction l with
  | nil => rfl
  | cons x l ih => rw [List.flatMap_cons, List.length_append, ih]; simp; omega
theorem map_get (g : Int → Int) (l : List Int) {n : Nat} (hn : l.length = n) : (List.range n).map (fun j => g (l[j]?.getD 0)) = l.map g := by
  apply List.ext_getElem
  · simp [hn]
  · intro i h1 h2
    have h3 : i < l.length := by simpa using h2
    simp [h3]
theorem fullI_length (k f : Nat) : (fullI k f).length = 96 * rowsN (k + 4) := by
  unfold fullI
  rw [List.length_append, List.length_map, orderI_length, length_flat2, List.length_range]
  omega
/-- What holds of the elements of the full buffer, counted over the streams. -/
theorem countP_full {P : Int → Bool} {k f : Nat} (hk : k ≤ 6144) (hP : P (-1) = false) :
    (fullI k f).countP P = ((List.range (k + 4)).map (fun i : Nat => elemI k f 0 (i : Int))).countP P + ((List.range (k + 4)).map (fun i : Nat => elemI k f 1 (i : Int))).countP P + ((List.range (k + 4)).map (fun i : Nat => elemI k f 2 (i : Int))).countP P := by
  have one : ∀ (s : Nat) (b : Bool), ((orderI (k + 4) b).map (elemI k f s)).countP P = ((List.range (k + 4)).map (fun i : Nat => elemI k f s (i : Int))).countP P := by
    intro s b
    have hp := (order_perm (s := b) (d := k + 4) (by omega) (by omega)).map (elemI k f s)
    rw [hp.countP_eq]
    unfold mtxL
    rw [List.map_append, List.countP_append, List.map_replicate, List.map_map]
    have hn : elemI k f s (-1) = -1 := by unfold elemI; rw [if_pos (by decide)]
    rw [hn]
    have hz : (List.replicate (32 * rowsN (k + 4) - (k + 4)) (-1 : Int)).countP P = 0 := by
      rw [List.countP_replicate, hP]
      rfl
    rw [hz, Nat.zero_add]
    rfl
  unfold fullI
  rw [List.countP_append, countP_flat2, map_get (elemI k f 1) _ (orderI_length _ _), map_get (elemI k f 2) _ (orderI_length _ _), one, one, one]
  omega
theorem elem_nat (k f s i : Nat) : elemI k f s (i : Int) = if s < 2 ∧ i < f then -1 else ((s * (k + 4) + i : Nat) : Int) := by
  unfold elemI
  rw [if_neg (by omega)]
  by_cases h : s < 2 ∧ i < f
  · rw [if_pos (by omega), if_pos h]
  · rw [if_neg (by omega), if_neg h]
    push_cast
    rfl
theorem usable_elem (k f s : Nat) : ∀ t : Nat, ((List.range t).map (fun i : Nat => elemI k f s (i : Int))).countP useB = if s < 2 then t - f else t := by
  intro t
  induction t with
  | zero => simp
  | succ t ih =>
    rw [List.range_succ, List.map_append, List.countP_append, ih]
    simp only [List.map_cons, List.map_nil]
    rw [elem_nat, List.countP_cons, List.countP_nil]
    by_cases h : s < 2 ∧ t < f
    · rw [if_pos h]
      have : useB (-1) = false := rfl
      rw [this, if_pos h.1, if_pos h.1]
      simp
      omega
    · rw [if_neg h]
      have : useB (((s * (k + 4) + t : Nat)) : Int) = true := decide_eq_true (by omega)
      rw [this]
      by_cases h2 : s < 2
      · rw [if_pos h2, if_pos h2]
        simp
        omega
      · rw [if_neg h2, if_neg h2]
        simp
/-- The usable elements of the full buffer. -/
theorem usable_full {k f : Nat} (hk : k ≤ 6144) (hf : f ≤ k + 4) : usable (fullI k f) = 3 * (k + 4) - 2 * f := by
  unfold usable
  rw [countP_full hk rfl, usable_elem, usable_elem, usable_elem]
  simp
  omega
theorem count_elem (k f s p : Nat) : ∀ t : Nat, ((List.range t).map (fun i : Nat => elemI k f s (i : Int))).count (p : Int) = if s * (k + 4) ≤ p ∧ p < s * (k + 4) + t ∧ (s < 2 → s * (k + 4) + f ≤ p) then 1 else 0 := by
  intro t
  induction t with
  | zero => simp; omega
  | succ t ih =>
    rw [List.range_succ, List.map_append, List.count_append, ih]
    simp only [List.map_cons, List.map_nil]
    rw [elem_nat]
    generalize s * (k + 4) = a
    by_cases h : s < 2 ∧ t < f
    · rw [if_pos h, cnt_other (by omega), Nat.add_zero]
      by_cases h2 : a ≤ p ∧ p < a + t ∧ (s < 2 → a + f ≤ p)
      · rw [if_pos h2, if_pos (by omega)]
      · rw [if_neg h2, if_neg (by omega)]
    · rw [if_neg h]
      by_cases e : a + t = p
      · subst e
        rw [cnt_same, if_neg (by omega), if_pos (by omega)]
      · rw [cnt_other (by omega), Nat.add_zero]
        by_cases h2 : a ≤ p ∧ p < a + t ∧ (s < 2 → a + f ≤ p)
        · rw [if_pos h2, if_pos (by omega)]
        · rw [if_neg h2, if_neg (by omega)]
/-- Whether a position is usable. -/
def posOk (k f p : Nat) : Prop := (f ≤ p ∧ p < k + 4) ∨ (k + 4 + f ≤ p ∧ p < 2 * (k + 4)) ∨ (2 * (k + 4) ≤ p ∧ p < 3 * (k + 4))
theorem count_full {k f p : Nat} (hk : k ≤ 6144) : (fullI k f).count (p : Int) ≤ 1 ∧ (0 < (fullI k f).count (p : Int) → posOk k f p) := by
  have h : (fullI k f).count (p : Int) = _ := countP_full (P := fun x => x == (p : Int)) (f := f) hk (beq_eq_false_iff_ne.2 (by omega))
  have e : ∀ s, ((List.range (k + 4)).map (fun i : Nat => elemI k f s (i : Int))).countP (fun x => x == (p : Int)) = ((List.range (k + 4)).map (fun i : Nat => elemI k f s (i : Int))).count (p : Int) := fun s => rfl
  rw [e, e, e, count_elem, count_elem, count_elem] at h
  rw [h]
  unfold posOk
  simp only [Nat.zero_mul, Nat.one_mul, Nat.zero_add]
  split <;> split <;> split <;> omega
theorem count_buf {k f n p : Nat} (hk : k ≤ 6144) : (bufI k f n).count (p : Int) ≤ 1 ∧ (0 < (bufI k f n).count (p : Int) → posOk k f p) := by
  have h1 := (List.take_sublist n (fullI k f)).count_le (p : Int)
  have h2 := count_full (f := f) (p := p) hk
  unfold bufI
  exact ⟨by omega, fun h => h2.2 (by omega)⟩
/-- The elements of the buffer: -1, or a usable position. -/
theorem elem_ge (k f s : Nat) (i : Int) : elemI k f s i = -1 ∨ 0 ≤ elemI k f s i := by
  unfold elemI
  split
  · exact .inl rfl
  · split
    · exact .inl rfl
    · right; omega
theorem buf_ge {k f n : Nat} : ∀ x ∈ bufI k f n, x = -1 ∨ 0 ≤ x := by
  intro x hx
  have hx := List.mem_of_mem_take hx
  unfold fullI at hx
  rw [List.mem_append] at hx
  rcases hx with hx | hx
  · obtain ⟨i, _, rfl⟩ := List.mem_map.1 hx
    exact elem_ge _ _ _ _
  · obtain ⟨j, _, hj⟩ := List.mem_flatMap.1 hx
    rw [List.mem_cons, List.mem_cons] at hj
    rcases hj with rfl | rfl | hj
    · exact elem_ge _ _ _ _
    · exact elem_ge _ _ _ _
    · cases hj
/-- Two places with one element. -/
theorem count_two {l : List Int} {i j : Nat} {x : Int} (hi : l[i]? = some x) (hj : l[j]? = some x) (hij : i < j) : 2 ≤ l.count x := by
  have h := List.take_append_drop j l
  rw [← h, List.count_append]
  have h1 : 0 < (l.take j).count x := List.count_pos_iff.2 (List.mem_of_getElem? (i := i) (by rw [List.getElem?_take, if_pos hij]; exact hi))
  have h2 : 0 < (l.drop j).count x := List.count_pos_iff.2 (List.mem_of_getElem? (i := 0) (by rw [List.getElem?_drop, Nat.add_zero]; exact hj))
  omega
theorem count_turn {l : List Int} {s : Nat} {x : Int} (hx : useB x = true) : (turnL l s).count x = l.count x := by
  unfold turnL
  rw [List.count_filter hx]
  unfold rotL
  rw [List.count_append, Nat.add_comm, ← List.count_append, List.take_append_drop]
/-- How many of the first e numbers leave the rest i modulo n. -/
theorem countP_mod {n i : Nat} (hi : i < n) : ∀ e : Nat, e / n ≤ (List.range e).countP (fun j => decide (j % n = i)) ∧ (List.range e).countP (fun j => decide (j % n = i)) ≤ (e + n - 1) / n := by
  have small : ∀ e, e ≤ n → (List.range e).countP (fun j => decide (j % n = i)) = if i < e then 1 else 0 := by
    intro e
    induction e with
    | zero => intro _; rfl
    | succ e ih =>
      intro he
      rw [List.range_succ, List.countP_append, ih (by omega), List.countP_cons, List.countP_nil, Nat.mod_eq_of_lt (by omega)]
      by_cases h : e = i
      · subst h; simp
      · by_cases h2 : i < e
        · rw [if_pos h2, decide_eq_false h, if_neg (by decide), if_pos (by omega)]
        · rw [if_neg h2, decide_eq_false h, if_neg (by decide), if_neg (by omega)]
  have shift : ∀ e, (List.range (n + e)).countP (fun j => decide (j % n = i)) = 1 + (List.range e).countP (fun j => decide (j % n = i)) := by
    intro e
    induction e with
    | zero => rw [Nat.add_zero, small n (Nat.le_refl n), if_pos hi]; rfl
    | succ e ih =>
      rw [show n + (e + 1) = n + e + 1 from rfl, List.range_succ, List.countP_append, ih, List.range_succ, List.countP_append]
      simp only [List.countP_cons, List.countP_nil, Nat.add_mod_left]
      omega
  intro e
  induction e using Nat.strongRecOn with
  | _ e ih =>
    rcases Nat.lt_or_ge e n with h | h
    · rw [small e (by omega), Nat.div_eq_of_lt h]
      refine ⟨Nat.zero_le _, ?_⟩
      split
      · rw [Nat.le_div_iff_mul_le (by omega)]; omega
      · exact Nat.zero_le _
    · obtain ⟨d, rfl⟩ : ∃ d, e = n + d := ⟨e - n, by omega⟩
      obtain ⟨h1, h2⟩ := ih d (by omega)
      have hn : 0 < n := by omega
      rw [shift, Nat.add_div_left d hn, show n + d + n - 1 = n + (d + n - 1) by omega, Nat.add_div_left _ hn]
      omega
/-- How often a usable element is in a selection. -/
theorem sel_count {l : List Int} {s e : Nat} {x : Int} (hu : useB x = true) (h1 : l.count x = 1) : e / usable l ≤ (selL l s e).count x ∧ (selL l s e).count x ≤ (e + usable l - 1) / usable l := by
  have hm : x ∈ turnL l s := List.count_pos_iff.1 (by rw [count_turn hu, h1]; decide)
  obtain ⟨i, hi, hx⟩ := List.getElem_of_mem hm
  have hi' : i < usable l := by rw [← turnL_length l s]; exact hi
  have hcount : (selL l s e).count x = (List.range e).countP (fun j => decide (j % usable l = i)) := by
    unfold selL
    rw [List.count, List.countP_map]
    refine List.countP_congr fun j _ => ?_
    have hj : j % usable l < (turnL l s).length := by rw [turnL_length]; exact Nat.mod_lt _ (by omega)
    simp only [Function.comp, List.getElem?_eq_getElem hj, Option.getD_some, beq_iff_eq, decide_eq_true_eq]
    constructor
    · intro h
      rcases Nat.lt_trichotomy (j % usable l) i with hl | hl | hl
      · have := count_two (l := turnL l s) (x := x) (by rw [List.getElem?_eq_getElem hj, h]) (by rw [List.getElem?_eq_getElem hi, hx]) hl
        rw [count_turn hu] at this
        omega
      · exact hl
      · have := count_two (l := turnL l s) (x := x) (by rw [List.getElem?_eq_getElem hi, hx]) (by rw [List.getElem?_eq_getElem hj, h]) hl
        rw [count_turn hu] at this
        omega
    · intro h
      subst h
      exact hx
  rw [hcount]
  exact countP_mod hi' e
/-- Every element of a selection is a usable one of the list. -/
theorem sel_mem {l : List Int} {s e : Nat} {x : Int} (hn : 1 ≤ usable l) (hx : x ∈ selL l s e) : x ∈ l ∧ useB x = true := by
  unfold selL at hx
  obtain ⟨j, _, rfl⟩ := List.mem_map.1 hx
  have hj : j % usable l < (turnL l s).length := by rw [turnL_length]; exact Nat.mod_lt _ (by omega)
  rw [List.getElem?_eq_getElem hj, Option.getD_some]
  have hm := List.getElem_mem hj
  unfold turnL at hm
  obtain ⟨h1, h2⟩ := List.mem_filter.1 hm
  refine ⟨?_, h2⟩
  unfold rotL at h1
  rw [List.mem_append] at h1
  rcases h1 with h1 | h1
  · exact List.mem_of_mem_drop h1
  · exact List.mem_of_mem_take h1
/-- How often the usable elements among the first j of l are in W, all together. -/
def sumC (l W : List Int) (j : Nat) : Nat := (((l.take j).filter useB).map fun x => W.count x).sum
theorem sumC_zero (l W : List Int) : sumC l W 0 = 0 := by simp [sumC]
theorem sumC_succ {l W : List Int} {j : Nat} {x : Int} (h : l[j]? = some x) : sumC l W (j + 1) = sumC l W j + if useB x = true then W.count x else 0 := by
  obtain ⟨h1, h2⟩ := List.getElem?_eq_some_iff.1 h
  unfold sumC
  rw [List.take_succ_eq_append_getElem h1, h2, List.filter_append, List.map_append, List.sum_append]
  congr 1
  by_cases hu : useB x = true
  · rw [if_pos hu, List.filter_cons_of_pos hu]; simp
  · rw [if_neg hu, List.filter_cons_of_neg hu]; simp
theorem sum_count {V : List Int} : ∀ W : List Int, (∀ x ∈ W, V.count x = 1) → (V.map fun x => W.count x).sum = W.length
  | [], _ => by
    have : (V.map fun x => ([] : List Int).count x) = List.replicate V.length 0 := by
      rw [List.eq_replicate_iff]
      refine ⟨by simp, fun b hb => ?_⟩
      obtain ⟨x, _, rfl⟩ := List.mem_map.1 hb
      rfl
    rw [this]
    simp
  | w :: W, h => by
    have ih := sum_count W (fun x hx => h x (List.mem_cons_of_mem _ hx))
    have hw := h w (List.mem_cons_self ..)
    have key : ∀ V : List Int, (V.map fun x => (w :: W).count x).sum = (V.map fun x => W.count x).sum + V.count w := by
      intro V
      induction V with
      | nil => rfl
      | cons v V ihV =>
        rw [List.map_cons, List.sum_cons, List.map_cons, List.sum_cons, ihV, List.count_cons, List.count_cons (a := w) (b := v)]
        have : (if (w == v) = true then 1 else 0 : Nat) = if (v == w) = true then 1 else 0 := by
          by_cases e : w = v
          · subst e; rfl
          · rw [if_neg (by simpa using e), if_neg (by simpa using fun h => e h.symm)]
        omega
    rw [key, ih, hw]
    rfl
/-- All together they are the selection. -/
theorem sumC_all {l : List Int} {s e : Nat} (hn : 1 ≤ usable l) (hd : ∀ x ∈ l, useB x = true → l.count x = 1) : sumC l (selL l s e) l.length = e := by
  unfold sumC
  rw [List.take_of_length_le (Nat.le_refl _), sum_count, selL_length]
  intro x hx
  obtain ⟨h1, h2⟩ := sel_mem hn hx
  rw [List.count_filter h2]
  exact hd x h1 h2
end

/-! ### What the functions of the circular buffer answer. Mathematics. -/
section
def okB (k f l : Int) : Bool := decide (40 ≤ k) && decide (k ≤ 6144) && decide (0 ≤ f) && decide (f < k) && decide (1 ≤ l)
def okV (rv : Int) : Bool := decide (0 ≤ rv) && decide (rv < 4)
def okE (e : Int) : Bool := decide (0 ≤ e) && decide (e ≤ 131072)
theorem okB_nat {k f l : Int} (h : okB k f l = true) : ∃ K F L : Nat, k = (K : Int) ∧ f = (F : Int) ∧ l = (L : Int) ∧ 40 ≤ K ∧ K ≤ 6144 ∧ F < K ∧ 1 ≤ L := by
  simp [okB] at h
  exact ⟨k.toNat, f.toNat, l.toNat, by omega, by omega, by omega, by omega, by omega, by omega, by omega⟩
theorem okB_of {K F L : Nat} (h1 : 40 ≤ K) (h2 : K ≤ 6144) (h3 : F < K) (h4 : 1 ≤ L) : okB (K : Int) (F : Int) (L : Int) = true := by simp [okB]; omega
theorem okV_nat {rv : Int} (h : okV rv = true) : ∃ V : Nat, rv = (V : Int) ∧ V < 4 := by
  simp [okV] at h
  exact ⟨rv.toNat, by omega, by omega⟩
theorem okE_nat {e : Int} (h : okE e = true) : ∃ E : Nat, e = (E : Int) ∧ E ≤ 131072 := by
  simp [okE] at h
  exact ⟨e.toNat, by omega, by omega⟩
/-- The number of elements of the circular buffer. -/
def sizN (k l : Nat) : Nat := min l (96 * rowsN (k + 4))
theorem rows_k {k : Nat} (h1 : 40 ≤ k) (h2 : k ≤ 6144) : 2 ≤ rowsN (k + 4) ∧ rowsN (k + 4) ≤ 193 := by unfold rowsN; omega
theorem siz_le {k l : Nat} (h1 : 40 ≤ k) (h2 : k ≤ 6144) (hl : 1 ≤ l) : 1 ≤ sizN k l ∧ sizN k l ≤ 96 * rowsN (k + 4) ∧ sizN k l ≤ 18528 := by
  have := rows_k h1 h2
  unfold sizN
  omega
/-- The circular buffer of k, f and a limit. -/
def cirI (k f l : Nat) : List Int := bufI k f (sizN k l)
theorem cirI_length (k f l : Nat) : (cirI k f l).length = sizN k l := by
  unfold cirI bufI
  rw [List.length_take, fullI_length]
  unfold sizN
  omega
def bufS (k f l : Int) : List Int × Int := if okB k f l = true then (cirI k.toNat f.toNat l.toNat, 0) else ([], 2)
def useS (k f l : Int) : Int × Int := if okB k f l = true then ((usable (cirI k.toNat f.toNat l.toNat) : Nat), 0) else (0, 2)
/-- The start of a redundancy version. -/
def startN (k n rv : Nat) : Nat := rowsN (k + 4) * (2 * ((n + 8 * rowsN (k + 4) - 1) / (8 * rowsN (k + 4))) * rv + 2) % n
def startS (k l rv : Int) : Int × Int := if (okB k 0 l && okV rv) = true then ((startN k.toNat (sizN k.toNat l.toNat) rv.toNat : Nat), 0) else (0, 2)
def posS (k f l rv e : Int) : List Int × Int :=
  if (okB k f l && okV rv && okE e) = true then
    if 0 < e ∧ usable (cirI k.toNat f.toNat l.toNat) = 0 then ([], 10)
    else (selL (cirI k.toNat f.toNat l.toNat) (startN k.toNat (sizN k.toNat l.toNat) rv.toNat) e.toNat, 0)
  else ([], 2)
section
variable {k f l : Nat}
theorem bufS_ok (h : okB (k : Int) (f : Int) (l : Int) = true) : bufS k f l = (cirI k f l, 0) := by unfold bufS; rw [if_pos h]; simp
theorem bufS_no {k f l : Int} (h : okB k f l = false) : bufS k f l = ([], 2) := by unfold bufS; rw [h]; rfl
theorem useS_ok (h : okB (k : Int) (f : Int) (l : Int) = true) : useS k f l = (((usable (cirI k f l) : Nat) : Int), 0) := by unfold useS; rw [if_pos h]; simp
theorem useS_no {k f l : Int} (h : okB k f l = false) : useS k f l = (0, 2) := by unfold useS; rw [h]; rfl
theorem startS_ok {v : Nat} (h : okB (k : Int) 0 (l : Int) = true) (hv : okV (v : Int) = true) : startS k l v = (((startN k (sizN k l) v : Nat) : Int), 0) := by unfold startS; rw [h, hv]; simp
theorem startS_no {k l v : Int} (h : (okB k 0 l && okV v) = false) : startS k l v = (0, 2) := by unfold startS; rw [h]; rfl
theorem posS_no {k f l rv e : Int} (h : (okB k f l && okV rv && okE e) = false) : posS k f l rv e = ([], 2) := by unfold posS; rw [h]; rfl
theorem posS_ok {v e : Nat} (h : (okB (k : Int) (f : Int) (l : Int) && okV (v : Int) && okE (e : Int)) = true) : posS k f l v e = if 0 < e ∧ usable (cirI k f l) = 0 then ([], 10) else (selL (cirI k f l) (startN k (sizN k l) v) e, 0) := by
  unfold posS
  rw [if_pos h]
  simp only [Int.toNat_natCast]
  by_cases h2 : 0 < e ∧ usable (cirI k f l) = 0
  · rw [if_pos h2, if_pos ⟨by omega, h2.2⟩]
  · rw [if_neg h2, if_neg (fun h3 => h2 ⟨by omega, h3.2⟩)]
theorem okB_zero {k f l : Int} (h : okB k f l = true) : okB k 0 l = true := by
  simp [okB] at h ⊢
  omega
theorem start_lt {n v : Nat} (hn : 1 ≤ n) : startN k n v < n := Nat.mod_lt _ hn
theorem usable_le (xs : List Int) : usable xs ≤ xs.length := List.countP_le_length
theorem usable_pos {xs : List Int} (h : usable xs = 0) : ∀ x ∈ xs, useB x = false := by
  intro x hx
  have := List.countP_eq_zero.1 h x hx
  simpa using this
end
end

/-! ### Dematching with combining: mathematics, ahead of stage 12. -/
section
/-- Whether a position is a filler's; a new buffer's values. -/
def fillB (k f i : Nat) : Bool := decide (i < f) || (decide (k + 4 ≤ i) && decide (i < k + 4 + f))
def newV (k f : Nat) : List Int := (List.range (3 * (k + 4))).map fun i => if fillB k f i = true then 127 else 0
theorem newV_length (k f : Nat) : (newV k f).length = 3 * (k + 4) := by simp [newV]
theorem newV_at {k f i : Nat} (h : i < 3 * (k + 4)) : (newV k f)[i]?.getD 0 = if fillB k f i = true then 127 else 0 := by
  unfold newV
  rw [List.getElem?_map, List.getElem?_range h]; rfl
/-- One value is added; the first j are. -/
def stepV (V : List Int) (p : Nat) (x : Int) : List Int := V.set p (addI (V[p]?.getD 0) x)
def accV (V at' l : List Int) : Nat → List Int
  | 0 => V
  | j + 1 => stepV (accV V at' l j) (at'[j]?.getD 0).toNat (l[j]?.getD 0)
theorem stepV_length (V : List Int) (p : Nat) (x : Int) : (stepV V p x).length = V.length := by simp [stepV]
theorem accV_length (V at' l : List Int) (j : Nat) : (accV V at' l j).length = V.length := by
  induction j with
  | zero => rfl
  | succ j ih => show (stepV _ _ _).length = _; rw [stepV_length, ih]
theorem accV_succ (V at' l : List Int) (j : Nat) : accV V at' l (j + 1) = stepV (accV V at' l j) (at'[j]?.getD 0).toNat (l[j]?.getD 0) := rfl
theorem set_get (V : List Int) (p q : Nat) (x : Int) (hp : p < V.length) : (V.set p x)[q]?.getD 0 = if q = p then x else V[q]?.getD 0 := by
  by_cases h : q = p
  · subst h
    rw [if_pos rfl, List.getElem?_set_self hp]; rfl
  · rw [if_neg h, List.getElem?_set_ne (fun e => h e.symm)]
theorem stepV_get (V : List Int) (p q : Nat) (x : Int) (hp : p < V.length) : (stepV V p x)[q]?.getD 0 = if q = p then addI (V[p]?.getD 0) x else V[q]?.getD 0 := set_get V p q _ hp
/-- All values are soft values. -/
theorem softB_all {l : List Int} (h : ∀ j : Nat, -127 ≤ l[j]?.getD 0 ∧ l[j]?.getD 0 ≤ 127) : softB l = true := by
  unfold softB
  rw [List.all_eq_true]
  intro x hx
  obtain ⟨j, hj, rfl⟩ := List.getElem_of_mem hx
  have := h j
  rw [List.getElem?_eq_getElem hj, Option.getD_some] at this
  simp [this.1, this.2]
theorem stepV_soft {V : List Int} {p : Nat} {x : Int} (h : softB V = true) : softB (stepV V p x) = true := by
  refine softB_all fun j => ?_
  by_cases hp : p < V.length
  · rw [stepV_get V p j x hp]
    split
    · exact addI_range _ _
    · exact softB_at h j
  · unfold stepV
    rw [List.set_eq_of_length_le (by omega)]
    exact softB_at h j
theorem accV_soft {V at' l : List Int} (h : softB V = true) : ∀ j, softB (accV V at' l j) = true
  | 0 => h
  | j + 1 => stepV_soft (accV_soft h j)
theorem newV_soft (k f : Nat) : softB (newV k f) = true := by
  refine softB_all fun j => ?_
  rcases Nat.lt_or_ge j (3 * (k + 4)) with h | h
  · rw [newV_at h]; split <;> decide
  · rw [List.getElem?_eq_none (by rw [newV_length]; exact h)]; decide
/-- A value does not have the wrong sign for a bit. -/
def Right (v b : Int) : Prop := -127 ≤ v ∧ v ≤ 127 ∧ (b = 0 → 0 ≤ v) ∧ (b = 1 → v ≤ 0)
theorem Right.wr {v b : Int} (h : Right v b) (hb : b = 0 ∨ b = 1) : wr1 v b = false := by
  obtain ⟨_, _, h0, h1⟩ := h
  unfold wr1
  rcases hb with rfl | rfl
  · rw [decide_eq_false (show ¬ v < 0 by have := h0 rfl; omega)]; simp
  · have := h1 rfl
    by_cases hv : v = 0
    · simp [hv]
    · rw [decide_eq_true (show v < 0 by omega)]; simp
theorem Right.add {v b m : Int} (h : Right v b) (hb : b = 0 ∨ b = 1) (hm : 1 ≤ m) (hm2 : m ≤ 127) : Right (addI v (idealE m b)) b ∧ addI v (idealE m b) ≠ 0 := by
  obtain ⟨l1, l2, h0, h1⟩ := h
  have e1 : clampI v = v := clampI_id l1 l2
  have e2 : clampI (idealE m b) = idealE m b := clampI_id (by unfold idealE; rcases hb with rfl | rfl <;> omega) (by unfold idealE; rcases hb with rfl | rfl <;> omega)
  have hc := clampI_cases (v + idealE m b)
  unfold addI
  rw [e1, e2]
  unfold Right
  unfold idealE at hc ⊢
  rcases hb with rfl | rfl
  · have := h0 rfl
    refine ⟨⟨by omega, by omega, fun _ => by omega, fun h => by omega⟩, by omega⟩
  · have := h1 rfl
    refine ⟨⟨by omega, by omega, fun h => by omega, fun _ => by omega⟩, by omega⟩
/-- Ideal values of one word's bits leave every sign right, and every value that was added to is known. -/
theorem acc_right {W : Nat → Int} {V at' l : List Int} {m : Int} (hW : ∀ p, W p = 0 ∨ W p = 1) (hm : 1 ≤ m) (hm2 : m ≤ 127) (h0 : ∀ p, Right (V[p]?.getD 0) (W p)) :
    ∀ j, (∀ i, i < j → ∃ p : Nat, at'[i]?.getD 0 = (p : Int) ∧ p < V.length ∧ l[i]?.getD 0 = idealE m (W p)) →
      (∀ p, Right ((accV V at' l j)[p]?.getD 0) (W p)) ∧ (∀ p : Nat, V[p]?.getD 0 ≠ 0 → (accV V at' l j)[p]?.getD 0 ≠ 0) ∧ (∀ i p : Nat, i < j → at'[i]?.getD 0 = (p : Int) → (accV V at' l j)[p]?.getD 0 ≠ 0) := by
  intro j
  induction j with
  | zero => intro _; exact ⟨h0, fun p h => h, fun i p h => absurd h (Nat.not_lt_zero i)⟩
  | succ j ih =>
    intro hat
    obtain ⟨i1, i2, i3⟩ := ih (fun i hi => hat i (by omega))
    obtain ⟨p, hp, hpl, hx⟩ := hat j (by omega)
    have hg := fun q => stepV_get (accV V at' l j) p q (idealE m (W p)) (by rw [accV_length]; exact hpl)
    have e : accV V at' l (j + 1) = stepV (accV V at' l j) p (idealE m (W p)) := by rw [accV_succ, hp, hx, Int.toNat_natCast]
    have hr := (i1 p).add (hW p) hm hm2
    refine ⟨fun q => ?_, fun q hq => ?_, fun i q hi hq => ?_⟩
    · rw [e, hg]
      split
      · rename_i h; subst h; exact hr.1
      · exact i1 q
    · rw [e, hg]
      split
      · exact hr.2
      · exact i2 q hq
    · rw [e, hg]
      split
      · exact hr.2
      · rename_i hne
        refine i3 i q (by
          rcases Nat.lt_or_ge i j with h | h
          · exact h
          · exfalso
            obtain rfl : i = j := by omega
            rw [hp] at hq
            exact hne (by omega)) hq
/-- The number of known values among the first n. -/
def knoN (V : List Int) (n : Nat) : Nat := (List.range n).countP fun i => decide (V[i]?.getD 0 ≠ 0)
theorem knoN_unk (V : List Int) (n : Nat) : knoN V n + unkN V n = n := by
  induction n with
  | zero => rfl
  | succ n ih =>
    unfold knoN at *
    rw [List.range_succ, List.countP_append, List.countP_cons, List.countP_nil, Nat.zero_add, unkN_succ]
    by_cases h : V[n]?.getD 0 = 0
    · rw [if_neg (by simpa using h), if_pos h]; omega
    · rw [if_pos (by simpa using h), if_neg h]; omega
theorem countP_or {α : Type} {P Q R : α → Bool} {l : List α} (h : ∀ x ∈ l, P x = true → Q x = true → False) (hR : ∀ x ∈ l, P x = true ∨ Q x = true → R x = true) : l.countP P + l.countP Q ≤ l.countP R := by
  induction l with
  | nil => simp
  | cons x l ih =>
    have := ih (fun y hy => h y (List.mem_cons_of_mem _ hy)) (fun y hy => hR y (List.mem_cons_of_mem _ hy))
    have h1 := h x (List.mem_cons_self ..)
    have h2 := hR x (List.mem_cons_self ..)
    rw [List.countP_cons, List.countP_cons, List.countP_cons]
    cases hp : P x <;> cases hq : Q x <;> simp_all <;> omega
theorem range_one {n a : Nat} (h : a < n) : (List.range n).countP (fun i => decide (i = a)) = 1 := by
  induction n with
  | zero => omega
  | succ n ih =>
    rw [List.range_succ, List.countP_append, List.countP_cons, List.countP_nil, Nat.zero_add]
    by_cases e : a = n
    · subst e
      have : (List.range a).countP (fun i => decide (i = a)) = 0 := by
        rw [List.countP_eq_zero]
        intro x hx
        have := List.mem_range.1 hx
        simp; omega
      rw [this]; simp
    · rw [ih (by omega), if_neg (by simp; omega)]
/-- Distinct numbers below n. -/
theorem nodup_range {n : Nat} : ∀ {A : List Nat}, A.Nodup → (∀ a ∈ A, a < n) → A.length ≤ (List.range n).countP (fun i => decide (i ∈ A))
  | [], _, _ => Nat.zero_le _
  | a :: A, hn, hl => by
    rw [List.nodup_cons] at hn
    have h1 := nodup_range hn.2 (fun b hb => hl b (List.mem_cons_of_mem _ hb))
    have h2 := range_one (hl a (List.mem_cons_self ..))
    have h3 := countP_or (l := List.range n) (P := fun i => decide (i = a)) (Q := fun i => decide (i ∈ A)) (R := fun i => decide (i ∈ a :: A))
      (fun x _ hp hq => by simp at hp hq; subst hp; exact hn.1 hq) (fun x _ h => by simp at h ⊢; exact h)
    rw [h2] at h3
    rw [List.length_cons]
    omega
theorem fill_count {k f n : Nat} (hf : f ≤ k + 4) (hn : 2 * (k + 4) ≤ n) : (List.range n).countP (fillB k f) = 2 * f := by
  have key : ∀ t, (List.range t).countP (fillB k f) = min t f + (min t (k + 4 + f) - min t (k + 4)) := by
    intro t
    induction t with
    | zero => simp
    | succ t ih =>
      rw [List.range_succ, List.countP_append, List.countP_cons, List.countP_nil, Nat.zero_add, ih]
      unfold fillB
      by_cases h : (decide (t < f) || (decide (k + 4 ≤ t) && decide (t < k + 4 + f))) = true
      · rw [if_pos h]
        simp at h
        omega
      · rw [if_neg h]
        simp at h
        omega
  rw [key]; omega
/-- If the fillers and all usable positions are known, so many are. -/
theorem known_ge {V : List Int} {k f c n : Nat} (hk : k ≤ 6144) (hf : f ≤ k + 4) (hn : n = 3 * (k + 4))
    (h1 : ∀ i, i < n → fillB k f i = true → V[i]?.getD 0 ≠ 0) (h2 : ∀ p : Nat, (p : Int) ∈ bufI k f c → V[p]?.getD 0 ≠ 0) : 2 * f + usable (bufI k f c) ≤ knoN V n := by
  have hin : ∀ x ∈ (bufI k f c).filter useB, ∃ p : Nat, x = (p : Int) ∧ posOk k f p := by
    intro x hx
    rw [List.mem_filter] at hx
    have hx0 : 0 ≤ x := of_decide_eq_true hx.2
    refine ⟨x.toNat, by omega, (count_buf (n := c) hk).2 ?_⟩
    rw [Int.toNat_of_nonneg hx0]
    exact List.count_pos_iff.2 hx.1
  have hnd : (((bufI k f c).filter useB).map Int.toNat).Nodup := by
    rw [List.Nodup, List.pairwise_iff_getElem]
    intro i j hi hj hij e
    simp only [List.length_map] at hi hj
    rw [List.getElem_map, List.getElem_map] at e
    obtain ⟨p, hp, _⟩ := hin _ (List.getElem_mem hi)
    obtain ⟨q, hq, _⟩ := hin _ (List.getElem_mem hj)
    rw [hp, hq, Int.toNat_natCast, Int.toNat_natCast] at e
    subst e
    have h2 := count_two (l := (bufI k f c).filter useB) (List.getElem?_eq_getElem hi) (by rw [List.getElem?_eq_getElem hj, hq, hp]) hij
    rw [hp] at h2
    have h3 := (count_buf (f := f) (n := c) (p := p) hk).1
    have h4 : ((bufI k f c).filter useB).count (p : Int) ≤ (bufI k f c).count (p : Int) := List.Sublist.count_le _ (List.filter_sublist ..)
    omega
  have hlt : ∀ a ∈ ((bufI k f c).filter useB).map Int.toNat, a < n := by
    intro a ha
    obtain ⟨x, hx, rfl⟩ := List.mem_map.1 ha
    obtain ⟨p, rfl, hp⟩ := hin x hx
    rw [Int.toNat_natCast]
    unfold posOk at hp
    omega
  have hc := nodup_range hnd hlt
  rw [List.length_map] at hc
  have hu : ((bufI k f c).filter useB).length = usable (bufI k f c) := by unfold usable; rw [List.countP_eq_length_filter]
  have hfc := fill_count (k := k) (f := f) (n := n) hf (by omega)
  have := countP_or (l := List.range n) (P := fillB k f) (Q := fun i => decide (i ∈ ((bufI k f c).filter useB).map Int.toNat)) (R := fun i => decide (V[i]?.getD 0 ≠ 0))
    (fun i hi hp hq => by
      have hq := of_decide_eq_true hq
      obtain ⟨x, hx, rfl⟩ := List.mem_map.1 hq
      obtain ⟨p, rfl, hp'⟩ := hin x hx
      rw [Int.toNat_natCast] at hp
      unfold fillB at hp
      unfold posOk at hp'
      simp at hp
      omega)
    (fun i hi h => by
      refine decide_eq_true ?_
      rcases h with h | h
      · exact h1 i (List.mem_range.1 hi) h
      · have h := of_decide_eq_true h
        obtain ⟨x, hx, rfl⟩ := List.mem_map.1 h
        obtain ⟨p, rfl, _⟩ := hin x hx
        rw [Int.toNat_natCast]
        exact h2 p (List.mem_filter.1 hx).1)
  unfold knoN
  omega
end
end Go.Proofs.YtoegamlpgenfcaaDoor
