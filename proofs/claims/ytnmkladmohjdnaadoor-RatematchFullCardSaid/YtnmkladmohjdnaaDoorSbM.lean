/-
  The matrix of the sub-block interleaver. Mathematics.
-/
import Derived.Test.YtnmkladmohjdnaaDoorBits3
namespace Go.Proofs.YtnmkladmohjdnaaDoor

/-- n zeros, in which for each i below j the element f i has become g i. -/
def putL (f : Nat → Nat) (g : Nat → Int) (n : Nat) : Nat → List Int
  | 0 => List.replicate n 0
  | j + 1 => (putL f g n j).set (f j) (g j)
section
variable {f : Nat → Nat} {g : Nat → Int} {n : Nat}
theorem putL_length : ∀ j, (putL f g n j).length = n
  | 0 => by simp [putL]
  | j + 1 => by rw [putL, List.length_set, putL_length j]
theorem putL_at {i : Nat} : ∀ j, i < j → f i < n → (∀ a b, a < j → b < j → f a = f b → a = b) → (putL f g n j)[f i]?.getD 0 = g i
  | 0, h, _, _ => absurd h (Nat.not_lt_zero _)
  | j + 1, h, hn, hinj => by
    rw [putL]
    by_cases he : i = j
    · subst he
      rw [List.getElem?_set_self (by rw [putL_length]; exact hn)]
      rfl
    · rw [List.getElem?_set_ne (fun e => he (hinj i j (by omega) (by omega) e.symm))]
      exact putL_at j (by omega) hn (fun a b ha hb => hinj a b (by omega) (by omega))
theorem list_ext0 {xs ys : List Int} (hl : xs.length = ys.length) (h : ∀ i, i < ys.length → xs[i]?.getD 0 = ys[i]?.getD 0) : xs = ys := by
  apply List.ext_getElem hl
  intro i h1 h2
  have := h i h2
  simpa [h1, h2] using this
theorem putL_id : putL (fun i => i) g n n = (List.range n).map g := by
  apply list_ext0
  · rw [putL_length]; simp
  · intro i hi
    have hi : i < n := by simpa using hi
    rw [putL_at (f := fun i => i) n hi hi (fun a b _ _ e => e)]
    simp [hi]
theorem range_at {x : Nat} (h : x < n) : ((List.range n).map g)[x]?.getD 0 = g x := by simp [h]
end

/-- The column permutation. -/
def colL : List Nat := [0, 16, 8, 24, 4, 20, 12, 28, 2, 18, 10, 26, 6, 22, 14, 30, 1, 17, 9, 25, 5, 21, 13, 29, 3, 19, 11, 27, 7, 23, 15, 31]
def colN (k : Nat) : Nat := colL[k]?.getD 0
theorem col_lt (k : Nat) : colN k < 32 := by
  rcases Nat.lt_or_ge k 32 with h | h
  · exact (by decide : ∀ k, k < 32 → colN k < 32) k h
  · have : colL[k]? = none := List.getElem?_eq_none_iff.2 h
    unfold colN
    rw [this]
    decide
theorem col_inv : ∀ k, k < 32 → colN (colN k) = k := by decide
theorem col_inj {a b : Nat} (ha : a < 32) (hb : b < 32) (h : colN a = colN b) : a = b := by rw [← col_inv a ha, ← col_inv b hb, h]
/-- The number of rows of d elements. -/
def rowsN (d : Nat) : Nat := (d + 31) / 32
def okD (d : Int) : Bool := decide (1 ≤ d) && decide (d ≤ 6148)
def okS (st : Int) : Bool := decide (0 ≤ st) && decide (st ≤ 2)
theorem okD_nat {d : Int} (h : okD d = true) : ∃ k : Nat, d = (k : Int) ∧ 1 ≤ k ∧ k ≤ 6148 := by
  simp [okD] at h
  exact ⟨d.toNat, by omega, by omega, by omega⟩
theorem rows_le {d : Nat} (h1 : 1 ≤ d) (h2 : d ≤ 6148) : 1 ≤ rowsN d ∧ rowsN d ≤ 193 ∧ d ≤ 32 * rowsN d ∧ 32 * rowsN d < d + 32 := by unfold rowsN; omega
/-- The matrix index of the element k, of a stream that is shifted or not. -/
def mN (R k : Nat) : Nat := colN (k / R) + 32 * (k % R)
def shN (R : Nat) (s : Bool) (m : Nat) : Nat := if s then (m + 1) % (32 * R) else m
def idxN (R : Nat) (s : Bool) (k : Nat) : Nat := shN R s (mN R k)
section
variable {R k : Nat} {s : Bool}
theorem mN_lt (hR : 0 < R) : mN R k < 32 * R := by
  have h1 := col_lt (k / R)
  have h2 := Nat.mod_lt k hR
  unfold mN
  omega
theorem idx_lt (hR : 0 < R) : idxN R s k < 32 * R := by
  have := mN_lt (k := k) hR
  unfold idxN shN
  split
  · exact Nat.mod_lt _ (by omega)
  · exact this
theorem div_lt32 (hk : k < 32 * R) : k / R < 32 := by
  have : 0 < R := by omega
  rw [Nat.div_lt_iff_lt_mul this]
  omega
theorem mN_inj {a b : Nat} (ha : a < 32 * R) (hb : b < 32 * R) (h : mN R a = mN R b) : a = b := by
  have hR : 0 < R := by omega
  unfold mN at h
  have h1 := col_lt (a / R)
  have h2 := col_lt (b / R)
  have e1 : colN (a / R) = colN (b / R) := by omega
  have e2 : a % R = b % R := by omega
  have e3 := col_inj (div_lt32 ha) (div_lt32 hb) e1
  rw [← Nat.div_add_mod a R, ← Nat.div_add_mod b R, e2, e3]
theorem shN_inj {R : Nat} {s : Bool} {a b : Nat} (ha : a < 32 * R) (hb : b < 32 * R) (h : shN R s a = shN R s b) : a = b := by
  unfold shN at h
  cases s
  · simpa using h
  · simp only [if_true] at h
    have ea : (a + 1) % (32 * R) = if a + 1 = 32 * R then 0 else a + 1 := by
      split
      · rename_i e; rw [e, Nat.mod_self]
      · exact Nat.mod_eq_of_lt (by omega)
    have eb : (b + 1) % (32 * R) = if b + 1 = 32 * R then 0 else b + 1 := by
      split
      · rename_i e; rw [e, Nat.mod_self]
      · exact Nat.mod_eq_of_lt (by omega)
    rw [ea, eb] at h
    split at h <;> split at h <;> omega
theorem idx_inj {a b : Nat} (ha : a < 32 * R) (hb : b < 32 * R) (h : idxN R s a = idxN R s b) : a = b :=
  mN_inj ha hb (shN_inj (mN_lt (by omega)) (mN_lt (by omega)) h)
/-- Where the matrix index m stands in the interleaved stream. -/
theorem idx_surj {m : Nat} (hm : m < 32 * R) : ∃ k, k < 32 * R ∧ idxN R s k = m := by
  have hR : 0 < R := by omega
  have base : ∀ m, m < 32 * R → ∃ k, k < 32 * R ∧ mN R k = m := by
    intro m hm
    have h1 := col_lt (m % 32)
    have h2 : m / 32 < R := by omega
    refine ⟨R * colN (m % 32) + m / 32, ?_, ?_⟩
    · have : R * colN (m % 32) ≤ R * 31 := Nat.mul_le_mul_left R (by omega)
      omega
    · unfold mN
      rw [Nat.mul_add_div hR, Nat.div_eq_of_lt h2, Nat.mul_add_mod, Nat.mod_eq_of_lt h2, Nat.add_zero, col_inv _ (Nat.mod_lt m (by decide))]
      omega
  cases s
  · obtain ⟨k, hk, e⟩ := base m hm
    exact ⟨k, hk, by unfold idxN shN; simpa using e⟩
  · rcases Nat.eq_zero_or_pos m with h0 | h0
    · obtain ⟨k, hk, e⟩ := base (32 * R - 1) (by omega)
      refine ⟨k, hk, ?_⟩
      unfold idxN shN
      rw [e, if_pos rfl, show 32 * R - 1 + 1 = 32 * R by omega, Nat.mod_self, h0]
    · obtain ⟨k, hk, e⟩ := base (m - 1) (by omega)
      refine ⟨k, hk, ?_⟩
      unfold idxN shN
      rw [e, if_pos rfl, show m - 1 + 1 = m by omega, Nat.mod_eq_of_lt hm]
end

/-- The element of the order where the matrix index is m, with N dummies. -/
def ordE (N m : Nat) : Int := if m < N then -1 else ((m - N : Nat) : Int)
theorem ordE_max (N m : Nat) : max ((m : Int) - (N : Int)) (-1) = ordE N m := by
  unfold ordE
  split <;> omega
/-- The order of a stream of d elements. -/
def orderI (d : Nat) (s : Bool) : List Int := (List.range (32 * rowsN d)).map fun k => ordE (32 * rowsN d - d) (idxN (rowsN d) s k)
def shB (st : Int) : Bool := decide (st = 2)
def orderS (d st : Int) : List Int × Int := if (okD d && okS st) = true then (orderI d.toNat (shB st), 0) else ([], 2)
theorem orderI_length (d : Nat) (s : Bool) : (orderI d s).length = 32 * rowsN d := by simp [orderI]
theorem orderI_at {d k : Nat} {s : Bool} (h : k < 32 * rowsN d) : (orderI d s)[k]?.getD 0 = ordE (32 * rowsN d - d) (idxN (rowsN d) s k) := range_at h
/-- The stream with its dummies ahead. -/
def fillI (N : Nat) (xs : List Int) : List Int := List.replicate N 2 ++ xs
theorem fillI_low {N m : Nat} {xs : List Int} (h : m < N) : (fillI N xs)[m]?.getD 0 = 2 := by
  unfold fillI
  rw [List.getElem?_append_left (by simpa using h)]
  simp [h]
theorem fillI_high {N m : Nat} {xs : List Int} (h : N ≤ m) : (fillI N xs)[m]?.getD 0 = xs[m - N]?.getD 0 := by
  unfold fillI
  rw [List.getElem?_append_right (by simpa using h)]
  simp
/-- The interleaved stream. -/
def interI (s : Bool) (xs : List Int) : List Int := (List.range (32 * rowsN xs.length)).map fun k => (fillI (32 * rowsN xs.length - xs.length) xs)[idxN (rowsN xs.length) s k]?.getD 0
theorem interI_length (s : Bool) (xs : List Int) : (interI s xs).length = 32 * rowsN xs.length := by simp [interI]
def interS (xs : List Int) (st : Int) : List Int × Int := if (okD (xs.length : Int) && okS st) = true then (if validB xs = true then (interI (shB st) xs, 0) else ([], 3)) else ([], 2)
/-- The matrix out of an interleaved stream. -/
def backI (R : Nat) (s : Bool) (l : List Int) : List Int := putL (idxN R s) (fun k => l[k]?.getD 0) (32 * R) (32 * R)
theorem backI_length (R : Nat) (s : Bool) (l : List Int) : (backI R s l).length = 32 * R := putL_length _
theorem backI_at {R k : Nat} {s : Bool} {l : List Int} (hk : k < 32 * R) : (backI R s l)[idxN R s k]?.getD 0 = l[k]?.getD 0 :=
  putL_at _ hk (idx_lt (by omega)) (fun _ _ ha hb h => idx_inj ha hb h)
end Go.Proofs.YtnmkladmohjdnaaDoor
