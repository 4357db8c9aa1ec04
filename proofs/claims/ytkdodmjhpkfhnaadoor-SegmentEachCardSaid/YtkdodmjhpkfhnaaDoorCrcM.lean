/-
  Cyclic redundancy checks: the mathematics, over lists of Booleans, for any generator (g: its coefficients without the highest one).
-/
import Derived.Below
namespace Go.Proofs.YtkdodmjhpkfhnaaDoor

theorem ext_getD {a b : List Bool} (hl : a.length = b.length) (h : ∀ i, i < a.length → a.getD i false = b.getD i false) : a = b := by
  apply List.ext_getElem hl
  intro i h1 h2
  have := h i h1
  simpa [List.getD_eq_getElem?_getD, List.getElem?_eq_getElem h1, List.getElem?_eq_getElem h2] using this
theorem getD_past {a : List Bool} {i : Nat} (h : a.length ≤ i) : a.getD i false = false := by
  simp [List.getD_eq_getElem?_getD, List.getElem?_eq_none h]
def xorB (a b : List Bool) : List Bool := (List.range a.length).map fun i => xor (a.getD i false) (b.getD i false)
theorem xorB_length (a b : List Bool) : (xorB a b).length = a.length := by simp [xorB]
theorem xorB_getD {a b : List Bool} {i : Nat} (hi : i < a.length) : (xorB a b).getD i false = xor (a.getD i false) (b.getD i false) := by
  simp [xorB, List.getD_eq_getElem?_getD, hi]
def zerosB (n : Nat) : List Bool := List.replicate n false
theorem zerosB_getD (n i : Nat) : (zerosB n).getD i false = false := by
  unfold zerosB
  rw [List.getD_eq_getElem?_getD, List.getElem?_replicate]
  split <;> rfl

/-- One bit into the register r. -/
def stepB (g r : List Bool) (b : Bool) : List Bool := (List.range g.length).map fun i => xor (r.getD (i + 1) false) (xor (r.getD 0 false) b && g.getD i false)
theorem stepB_length (g r : List Bool) (b : Bool) : (stepB g r b).length = g.length := by simp [stepB]
theorem stepB_getD {g r : List Bool} {b : Bool} {i : Nat} (hi : i < g.length) : (stepB g r b).getD i false = xor (r.getD (i + 1) false) (xor (r.getD 0 false) b && g.getD i false) := by
  simp [stepB, List.getD_eq_getElem?_getD, hi]
/-- The register after bits. -/
def runB (g r bs : List Bool) : List Bool := bs.foldl (stepB g) r
theorem runB_length {g r : List Bool} (hr : r.length = g.length) (bs : List Bool) : (runB g r bs).length = g.length := by
  induction bs generalizing r with
  | nil => exact hr
  | cons b bs ih => exact ih (stepB_length g r b)
theorem runB_append (g r as bs : List Bool) : runB g r (as ++ bs) = runB g (runB g r as) bs := by simp [runB]
def crcB (g bs : List Bool) : List Bool := runB g (zerosB g.length) bs
theorem crcB_length (g bs : List Bool) : (crcB g bs).length = g.length := runB_length (by simp [zerosB]) bs
theorem crcB_snoc (g bs : List Bool) (b : Bool) : crcB g (bs ++ [b]) = stepB g (crcB g bs) b := by simp [crcB, runB]

/-- Linearity. -/
theorem stepB_xor {g r s : List Bool} (hr : r.length = g.length) (_hs : s.length = g.length) (a b : Bool) : stepB g (xorB r s) (xor a b) = xorB (stepB g r a) (stepB g s b) := by
  refine ext_getD (by rw [stepB_length, xorB_length, stepB_length]) (fun i hi => ?_)
  rw [stepB_length] at hi
  have e1 := stepB_getD (g := g) (r := xorB r s) (b := xor a b) hi
  have e2 := stepB_getD (g := g) (r := r) (b := a) hi
  have e3 := stepB_getD (g := g) (r := s) (b := b) hi
  have e4 : (xorB (stepB g r a) (stepB g s b)).getD i false = xor ((stepB g r a).getD i false) ((stepB g s b).getD i false) := xorB_getD (by rw [stepB_length]; exact hi)
  rw [e1, e4, e2, e3]
  have h0 : (xorB r s).getD 0 false = xor (r.getD 0 false) (s.getD 0 false) := xorB_getD (by omega)
  have h1 : (xorB r s).getD (i + 1) false = xor (r.getD (i + 1) false) (s.getD (i + 1) false) := by
    by_cases h : i + 1 < r.length
    · exact xorB_getD h
    · rw [getD_past (by rw [xorB_length]; omega), getD_past (by omega), getD_past (by omega)]; rfl
  rw [h0, h1]
  clear e1 e2 e3 e4 h0 h1
  generalize r.getD 0 false = x
  generalize s.getD 0 false = y
  generalize r.getD (i + 1) false = z
  generalize s.getD (i + 1) false = t
  generalize g.getD i false = u
  revert a b x y z t u
  decide
theorem runB_xor {g r s as bs : List Bool} (hr : r.length = g.length) (hs : s.length = g.length) (hl : as.length = bs.length) : runB g (xorB r s) (xorB as bs) = xorB (runB g r as) (runB g s bs) := by
  induction as generalizing r s bs with
  | nil =>
    obtain rfl : bs = [] := List.eq_nil_of_length_eq_zero hl.symm
    rfl
  | cons a as ih =>
    cases bs with
    | nil => simp at hl
    | cons b bs =>
      have e : xorB (a :: as) (b :: bs) = xor a b :: xorB as bs := by
        refine ext_getD (by simp [xorB_length]) (fun i hi => ?_)
        rw [xorB_length] at hi
        rw [xorB_getD hi]
        cases i with
        | zero => rfl
        | succ i =>
          have : i < as.length := by simpa using hi
          show _ = (xorB as bs).getD i false
          rw [xorB_getD this]; rfl
      rw [e]
      show runB g (stepB g (xorB r s) (xor a b)) (xorB as bs) = _
      rw [stepB_xor hr hs]
      exact ih (stepB_length g r a) (stepB_length g s b) (by simpa using hl)
theorem zeros_xor (n : Nat) : xorB (zerosB n) (zerosB n) = zerosB n := by
  refine ext_getD (xorB_length _ _) (fun i hi => ?_)
  rw [xorB_length] at hi
  rw [xorB_getD hi, zerosB_getD]; rfl
theorem crcB_xor (g : List Bool) {as bs : List Bool} (hl : as.length = bs.length) : crcB g (xorB as bs) = xorB (crcB g as) (crcB g bs) := by
  have := runB_xor (g := g) (r := zerosB g.length) (s := zerosB g.length) (by simp [zerosB]) (by simp [zerosB]) hl
  rw [zeros_xor] at this
  exact this
theorem xorB_self (a : List Bool) : xorB a a = zerosB a.length := by
  refine ext_getD (by simp [xorB_length, zerosB]) (fun i hi => ?_)
  rw [xorB_length] at hi
  rw [xorB_getD hi, zerosB_getD, Bool.xor_self]
theorem xorB_zeros {a : List Bool} (n : Nat) : xorB a (zerosB n) = a := by
  refine ext_getD (xorB_length _ _) (fun i hi => ?_)
  rw [xorB_length] at hi
  rw [xorB_getD hi, zerosB_getD, Bool.xor_false]

/-- Zeros leave the empty register alone. -/
theorem runB_zeros (g : List Bool) (n : Nat) : runB g (zerosB g.length) (zerosB n) = zerosB g.length := by
  induction n with
  | zero => rfl
  | succ n ih =>
    have e : stepB g (zerosB g.length) false = zerosB g.length := by
      refine ext_getD (by simp [stepB_length, zerosB]) (fun i hi => ?_)
      rw [stepB_length] at hi
      rw [stepB_getD hi, zerosB_getD, zerosB_getD, zerosB_getD]; rfl
    show runB g (stepB g (zerosB g.length) false) (zerosB n) = _
    rw [e]; exact ih
theorem crcB_zeros (g bs : List Bool) (n : Nat) : crcB g (zerosB n ++ bs) = crcB g bs := by
  unfold crcB
  rw [runB_append, runB_zeros]
/-- The register's own bits empty it. -/
theorem runB_own {g : List Bool} (r : List Bool) (hr : r.length = g.length) (j : Nat) (hj : j ≤ g.length) : runB g r (r.take j) = r.drop j ++ zerosB j := by
  induction j with
  | zero => simp [runB, zerosB]
  | succ j ih =>
    have hjr : j < r.length := by omega
    have e : r.take (j + 1) = r.take j ++ [r.getD j false] := by
      rw [List.take_add_one, List.getElem?_eq_getElem hjr, List.getD_eq_getElem?_getD, List.getElem?_eq_getElem hjr]; rfl
    rw [e, runB_append, ih (by omega)]
    show stepB g (r.drop j ++ zerosB j) (r.getD j false) = _
    have hg : ∀ i, (r.drop j ++ zerosB j).getD i false = r.getD (j + i) false := fun i => by
      rw [List.getD_eq_getElem?_getD, List.getD_eq_getElem?_getD]
      by_cases hi : i < r.length - j
      · rw [List.getElem?_append_left (by simpa using hi), List.getElem?_drop]
      · rw [List.getElem?_append_right (by simp; omega), List.getElem?_eq_none (by omega : r.length ≤ j + i)]
        unfold zerosB
        rw [List.getElem?_replicate]
        split <;> rfl
    refine ext_getD (by simp [stepB_length, zerosB]; omega) (fun i hi => ?_)
    rw [stepB_length] at hi
    rw [stepB_getD hi, hg, hg, show j + 0 = j from rfl, Bool.xor_self, Bool.false_and, Bool.xor_false]
    have h2 : (r.drop (j + 1) ++ zerosB (j + 1)).getD i false = r.getD (j + 1 + i) false := by
      rw [List.getD_eq_getElem?_getD, List.getD_eq_getElem?_getD]
      by_cases hi' : i < r.length - (j + 1)
      · rw [List.getElem?_append_left (by simpa using hi'), List.getElem?_drop]
      · rw [List.getElem?_append_right (by simp; omega), List.getElem?_eq_none (by omega : r.length ≤ j + 1 + i)]
        unfold zerosB
        rw [List.getElem?_replicate]
        split <;> rfl
    rw [h2, show j + (i + 1) = j + 1 + i by omega]
theorem runB_own_all {g : List Bool} (r : List Bool) (hr : r.length = g.length) : runB g r r = zerosB g.length := by
  have := runB_own r hr g.length (Nat.le_refl _)
  rwa [← hr, List.take_length, List.drop_length, List.nil_append, hr] at this
theorem crcB_residue (g bs : List Bool) : crcB g (bs ++ crcB g bs) = zerosB g.length := by
  have : crcB g (bs ++ crcB g bs) = runB g (crcB g bs) (crcB g bs) := runB_append _ _ _ _
  rw [this]; exact runB_own_all _ (crcB_length g bs)
/-- Zeros lose nothing where the generator's last coefficient is 1. -/
theorem stepB_inj {g r : List Bool} (hr : r.length = g.length) (hg : g.getD (g.length - 1) false = true) (h : stepB g r false = zerosB g.length) : r = zerosB g.length := by
  rcases Nat.eq_zero_or_pos g.length with h0 | hp
  · rw [h0] at hr ⊢
    exact List.eq_nil_of_length_eq_zero hr
  have hi : ∀ i, i < g.length → xor (r.getD (i + 1) false) (r.getD 0 false && g.getD i false) = false := fun i hi => by
    have := stepB_getD (g := g) (r := r) (b := false) hi
    rw [h, zerosB_getD, Bool.xor_false] at this
    exact this.symm
  have h0 : r.getD 0 false = false := by
    have := hi (g.length - 1) (by omega)
    rw [getD_past (by omega), hg, Bool.and_true, Bool.false_xor] at this
    exact this
  refine ext_getD (by simp [zerosB, hr]) (fun i hlt => ?_)
  rw [zerosB_getD]
  cases i with
  | zero => exact h0
  | succ i =>
    have := hi i (by omega)
    rwa [h0, Bool.false_and, Bool.xor_false] at this
theorem runB_inj {g : List Bool} (hg : g.getD (g.length - 1) false = true) (n : Nat) : ∀ r : List Bool, r.length = g.length → runB g r (zerosB n) = zerosB g.length → r = zerosB g.length := by
  induction n with
  | zero => intro r _ h; exact h
  | succ n ih =>
    intro r hr h
    exact stepB_inj hr hg (ih _ (stepB_length g r false) h)
/-- What leaves the register empty is the register itself. -/
theorem runB_zero_iff {g r c : List Bool} (hr : r.length = g.length) (hc : c.length = g.length) (hg : g.getD (g.length - 1) false = true) (h : runB g r c = zerosB g.length) : r = c := by
  have h1 := runB_xor (g := g) (r := r) (s := c) (as := c) (bs := c) hr hc rfl
  rw [h, runB_own_all c hc, xorB_self, zeros_xor] at h1
  have h2 := runB_inj hg _ _ (by rw [xorB_length, hr]) h1
  refine ext_getD (by omega) (fun i hi => ?_)
  have h3 := xorB_getD (a := r) (b := c) hi
  rw [h2, zerosB_getD] at h3
  revert h3
  cases r.getD i false <;> cases c.getD i false <;> simp
/-- A short word that is not 0 has a checksum that is not 0. -/
theorem crcB_short {g q : List Bool} (hq : q.length ≤ g.length) (hg : g.getD (g.length - 1) false = true) (h : crcB g q = zerosB g.length) : q = zerosB q.length := by
  have hr : (q ++ zerosB (g.length - q.length)).length = g.length := by simp [zerosB]; omega
  have h1 := runB_own (g := g) (q ++ zerosB (g.length - q.length)) hr q.length hq
  rw [List.take_left, List.drop_left] at h1
  have h2 : zerosB (g.length - q.length) ++ zerosB q.length = zerosB g.length := by unfold zerosB; rw [List.replicate_append_replicate]; congr 1; omega
  rw [h2] at h1
  have h3 := runB_xor (g := g) (r := q ++ zerosB (g.length - q.length)) (s := zerosB g.length) (as := q) (bs := q) hr (by simp [zerosB]) rfl
  have h4 : runB g (zerosB g.length) q = zerosB g.length := h
  rw [h1, h4, xorB_self, zeros_xor, xorB_zeros] at h3
  have h5 := runB_inj hg _ _ hr h3
  refine ext_getD (by simp [zerosB]) (fun i hi => ?_)
  have h6 : (q ++ zerosB (g.length - q.length)).getD i false = q.getD i false := by rw [List.getD_eq_getElem?_getD, List.getElem?_append_left hi, ← List.getD_eq_getElem?_getD]
  rw [← h6, h5, zerosB_getD, zerosB_getD]
/-- A burst of at most L changed elements leaves a remainder. -/
theorem crcB_burst {g q : List Bool} {i k : Nat} (hq : q.length ≤ g.length) (hne : q ≠ zerosB q.length) (hg : g.getD (g.length - 1) false = true) : crcB g (zerosB i ++ q ++ zerosB k) ≠ zerosB g.length := fun h => by
  rw [List.append_assoc, crcB_zeros] at h
  have h1 : runB g (crcB g q) (zerosB k) = zerosB g.length := by
    have : crcB g (q ++ zerosB k) = runB g (crcB g q) (zerosB k) := runB_append _ _ _ _
    rw [← this]; exact h
  exact hne (crcB_short hq hg (runB_inj hg _ _ (crcB_length g q) h1))

/-- The long division: element j of the word after i steps. -/
def divAt (g bs : List Bool) (i j : Nat) : Bool := if j < i then false else xor (bs.getD j false) ((crcB g (bs.take i)).getD (j - i) false)
theorem divAt_zero (g bs : List Bool) (j : Nat) : divAt g bs 0 j = bs.getD j false := by
  unfold divAt crcB
  rw [if_neg (by omega), List.take_zero]
  show xor _ ((zerosB g.length).getD _ false) = _
  rw [zerosB_getD, Bool.xor_false]
theorem divAt_end (g bs : List Bool) (t : Nat) : divAt g bs bs.length (bs.length + t) = (crcB g bs).getD t false := by
  unfold divAt
  rw [if_neg (by omega), List.take_length, getD_past (by omega), Bool.false_xor, Nat.add_sub_cancel_left]
theorem divAt_step (g bs : List Bool) (i j : Nat) (hi : i < bs.length) : divAt g bs (i + 1) j = xor (divAt g bs i j) (divAt g bs i i && (if i ≤ j ∧ j ≤ i + g.length then (true :: g).getD (j - i) false else false)) := by
  have e : bs.take (i + 1) = bs.take i ++ [bs.getD i false] := by
    rw [List.take_add_one, List.getElem?_eq_getElem hi, List.getD_eq_getElem?_getD, List.getElem?_eq_getElem hi]; rfl
  have hl := crcB_length g (bs.take i)
  unfold divAt
  rw [e, crcB_snoc]
  by_cases h1 : j < i
  · rw [if_pos (by omega), if_pos h1, if_neg (show ¬(i ≤ j ∧ j ≤ i + g.length) by omega), Bool.and_false]; rfl
  · by_cases h2 : j = i
    · subst h2
      rw [if_pos (by omega), if_neg h1, if_pos (show j ≤ j ∧ j ≤ j + g.length by omega), Nat.sub_self]
      show false = xor _ (_ && true)
      rw [Bool.and_true, Bool.xor_self]
    · rw [if_neg (by omega), if_neg h1, if_neg (by omega), Nat.sub_self]
      obtain ⟨t, ht⟩ : ∃ t, j - i = t + 1 := ⟨j - i - 1, by omega⟩
      rw [ht, show j - (i + 1) = t by omega]
      by_cases h3 : t < g.length
      · rw [stepB_getD h3, if_pos (show i ≤ j ∧ j ≤ i + g.length by omega)]
        show _ = xor _ (_ && g.getD t false)
        generalize (crcB g (bs.take i)).getD (t + 1) false = a
        generalize (crcB g (bs.take i)).getD 0 false = b
        generalize bs.getD j false = c
        generalize bs.getD i false = d
        generalize g.getD t false = f
        revert a b c d f
        decide
      · have e5 : (stepB g (crcB g (bs.take i)) (bs.getD i false)).getD t false = false := getD_past (by rw [stepB_length]; omega)
        rw [e5, getD_past (by omega : (crcB g (bs.take i)).length ≤ t + 1), if_neg (show ¬(i ≤ j ∧ j ≤ i + g.length) by omega), Bool.and_false]
        simp
end Go.Proofs.YtkdodmjhpkfhnaaDoor
