/-
  The circular buffer: how often a position is in it, and in a selection. Mathematics, ahead of stage 10.
-/
import Derived.Test.YtnmkladmohjdnaaDoorRmM
import Derived.Test.YtnmkladmohjdnaaDoorSbP
namespace Go.Proofs.YtnmkladmohjdnaaDoor

/-- The position of element i of stream s, or -1. -/
def elemI (k f s : Nat) (i : Int) : Int := if i < 0 then -1 else if s < 2 ∧ i < (f : Int) then -1 else ((s * (k + 4) : Nat) : Int) + i
/-- The full buffer. -/
def fullI (k f : Nat) : List Int := (orderI (k + 4) false).map (elemI k f 0) ++ (List.range (32 * rowsN (k + 4))).flatMap (fun j => [elemI k f 1 ((orderI (k + 4) false)[j]?.getD 0), elemI k f 2 ((orderI (k + 4) true)[j]?.getD 0)])
/-- The circular buffer. -/
def bufI (k f n : Nat) : List Int := (fullI k f).take n
theorem countP_flat2 {P : Int → Bool} (a b : Nat → Int) (l : List Nat) : (l.flatMap (fun j => [a j, b j])).countP P = (l.map a).countP P + (l.map b).countP P := by
  induction l with
  | nil => rfl
  | cons x l ih =>
    rw [List.flatMap_cons, List.countP_append, ih, List.map_cons, List.map_cons, List.countP_cons, List.countP_cons, List.countP_cons, List.countP_cons, List.countP_nil]
    omega
theorem length_flat2 (a b : Nat → Int) (l : List Nat) : (l.flatMap (fun j => [a j, b j])).length = 2 * l.length := by
  induction l with
  | nil => rfl
  | cons x l ih => rw [List.flatMap_cons, List.length_append, ih]; simp; omega
theorem map_get (g : Int → Int) (l : List Int) {n : Nat} (hn : l.length = n) : (List.range n).map (fun j => g (l[j]?.getD 0)) = l.map g := by
  apply List.ext_getElem
  · simp [hn]
  · intro i h1 h2
    have h3 : i < l.length := by simpa using h2
    simp [h3]
theorem fullI_length (k f : Nat) : (fullI k f).length = 96 * rowsN (k + 4) := by
  unfold fullI
  rw [List.length_append, List.length_map, orderI_length, length_flat2, List.length_range]
  omega
/-- What holds of the elements of the full buffer, counted over the streams. -/
theorem countP_full {P : Int → Bool} {k f : Nat} (hk : k ≤ 6144) (hP : P (-1) = false) :
    (fullI k f).countP P = ((List.range (k + 4)).map (fun i : Nat => elemI k f 0 (i : Int))).countP P + ((List.range (k + 4)).map (fun i : Nat => elemI k f 1 (i : Int))).countP P + ((List.range (k + 4)).map (fun i : Nat => elemI k f 2 (i : Int))).countP P := by
  have one : ∀ (s : Nat) (b : Bool), ((orderI (k + 4) b).map (elemI k f s)).countP P = ((List.range (k + 4)).map (fun i : Nat => elemI k f s (i : Int))).countP P := by
    intro s b
    have hp := (order_perm (s := b) (d := k + 4) (by omega) (by omega)).map (elemI k f s)
    rw [hp.countP_eq]
    unfold mtxL
    rw [List.map_append, List.countP_append, List.map_replicate, List.map_map]
    have hn : elemI k f s (-1) = -1 := by unfold elemI; rw [if_pos (by decide)]
    rw [hn]
    have hz : (List.replicate (32 * rowsN (k + 4) - (k + 4)) (-1 : Int)).countP P = 0 := by
      rw [List.countP_replicate, hP]
      rfl
    rw [hz, Nat.zero_add]
    rfl
  unfold fullI
  rw [List.countP_append, countP_flat2, map_get (elemI k f 1) _ (orderI_length _ _), map_get (elemI k f 2) _ (orderI_length _ _), one, one, one]
  omega
theorem elem_nat (k f s i : Nat) : elemI k f s (i : Int) = if s < 2 ∧ i < f then -1 else ((s * (k + 4) + i : Nat) : Int) := by
  unfold elemI
  rw [if_neg (by omega)]
  by_cases h : s < 2 ∧ i < f
  · rw [if_pos (by omega), if_pos h]
  · rw [if_neg (by omega), if_neg h]
    push_cast
    rfl
theorem usable_elem (k f s : Nat) : ∀ t : Nat, ((List.range t).map (fun i : Nat => elemI k f s (i : Int))).countP useB = if s < 2 then t - f else t := by
  intro t
  induction t with
  | zero => simp
  | succ t ih =>
    rw [List.range_succ, List.map_append, List.countP_append, ih]
    simp only [List.map_cons, List.map_nil]
    rw [elem_nat, List.countP_cons, List.countP_nil]
    by_cases h : s < 2 ∧ t < f
    · rw [if_pos h]
      have : useB (-1) = false := rfl
      rw [this, if_pos h.1, if_pos h.1]
      simp
      omega
    · rw [if_neg h]
      have : useB (((s * (k + 4) + t : Nat)) : Int) = true := decide_eq_true (by omega)
      rw [this]
      by_cases h2 : s < 2
      · rw [if_pos h2, if_pos h2]
        simp
        omega
      · rw [if_neg h2, if_neg h2]
        simp
/-- The usable elements of the full buffer. -/
theorem usable_full {k f : Nat} (hk : k ≤ 6144) (hf : f ≤ k + 4) : usable (fullI k f) = 3 * (k + 4) - 2 * f := by
  unfold usable
  rw [countP_full hk rfl, usable_elem, usable_elem, usable_elem]
  simp
  omega
theorem count_elem (k f s p : Nat) : ∀ t : Nat, ((List.range t).map (fun i : Nat => elemI k f s (i : Int))).count (p : Int) = if s * (k + 4) ≤ p ∧ p < s * (k + 4) + t ∧ (s < 2 → s * (k + 4) + f ≤ p) then 1 else 0 := by
  intro t
  induction t with
  | zero => simp; omega
  | succ t ih =>
    rw [List.range_succ, List.map_append, List.count_append, ih]
    simp only [List.map_cons, List.map_nil]
    rw [elem_nat]
    generalize s * (k + 4) = a
    by_cases h : s < 2 ∧ t < f
    · rw [if_pos h, cnt_other (by omega), Nat.add_zero]
      by_cases h2 : a ≤ p ∧ p < a + t ∧ (s < 2 → a + f ≤ p)
      · rw [if_pos h2, if_pos (by omega)]
      · rw [if_neg h2, if_neg (by omega)]
    · rw [if_neg h]
      by_cases e : a + t = p
      · subst e
        rw [cnt_same, if_neg (by omega), if_pos (by omega)]
      · rw [cnt_other (by omega), Nat.add_zero]
        by_cases h2 : a ≤ p ∧ p < a + t ∧ (s < 2 → a + f ≤ p)
        · rw [if_pos h2, if_pos (by omega)]
        · rw [if_neg h2, if_neg (by omega)]
/-- Whether a position is usable. -/
def posOk (k f p : Nat) : Prop := (f ≤ p ∧ p < k + 4) ∨ (k + 4 + f ≤ p ∧ p < 2 * (k + 4)) ∨ (2 * (k + 4) ≤ p ∧ p < 3 * (k + 4))
theorem count_full {k f p : Nat} (hk : k ≤ 6144) : (fullI k f).count (p : Int) ≤ 1 ∧ (0 < (fullI k f).count (p : Int) → posOk k f p) := by
  have h : (fullI k f).count (p : Int) = _ := countP_full (P := fun x => x == (p : Int)) (f := f) hk (beq_eq_false_iff_ne.2 (by omega))
  have e : ∀ s, ((List.range (k + 4)).map (fun i : Nat => elemI k f s (i : Int))).countP (fun x => x == (p : Int)) = ((List.range (k + 4)).map (fun i : Nat => elemI k f s (i : Int))).count (p : Int) := fun s => rfl
  rw [e, e, e, count_elem, count_elem, count_elem] at h
  rw [h]
  unfold posOk
  simp only [Nat.zero_mul, Nat.one_mul, Nat.zero_add]
  split <;> split <;> split <;> omega
theorem count_buf {k f n p : Nat} (hk : k ≤ 6144) : (bufI k f n).count (p : Int) ≤ 1 ∧ (0 < (bufI k f n).count (p : Int) → posOk k f p) := by
  have h1 := (List.take_sublist n (fullI k f)).count_le (p : Int)
  have h2 := count_full (f := f) (p := p) hk
  unfold bufI
  exact ⟨by omega, fun h => h2.2 (by omega)⟩
/-- The elements of the buffer: -1, or a usable position. -/
theorem elem_ge (k f s : Nat) (i : Int) : elemI k f s i = -1 ∨ 0 ≤ elemI k f s i := by
  unfold elemI
  split
  · exact .inl rfl
  · split
    · exact .inl rfl
    · right; omega
theorem buf_ge {k f n : Nat} : ∀ x ∈ bufI k f n, x = -1 ∨ 0 ≤ x := by
  intro x hx
  have hx := List.mem_of_mem_take hx
  unfold fullI at hx
  rw [List.mem_append] at hx
  rcases hx with hx | hx
  · obtain ⟨i, _, rfl⟩ := List.mem_map.1 hx
    exact elem_ge _ _ _ _
  · obtain ⟨j, _, hj⟩ := List.mem_flatMap.1 hx
    rw [List.mem_cons, List.mem_cons] at hj
    rcases hj with rfl | rfl | hj
    · exact elem_ge _ _ _ _
    · exact elem_ge _ _ _ _
    · cases hj
/-- Two places with one element. -/
theorem count_two {l : List Int} {i j : Nat} {x : Int} (hi : l[i]? = some x) (hj : l[j]? = some x) (hij : i < j) : 2 ≤ l.count x := by
  have h := List.take_append_drop j l
  rw [← h, List.count_append]
  have h1 : 0 < (l.take j).count x := List.count_pos_iff.2 (List.mem_of_getElem? (i := i) (by rw [List.getElem?_take, if_pos hij]; exact hi))
  have h2 : 0 < (l.drop j).count x := List.count_pos_iff.2 (List.mem_of_getElem? (i := 0) (by rw [List.getElem?_drop, Nat.add_zero]; exact hj))
  omega
theorem count_turn {l : List Int} {s : Nat} {x : Int} (hx : useB x = true) : (turnL l s).count x = l.count x := by
  unfold turnL
  rw [List.count_filter hx]
  unfold rotL
  rw [List.count_append, Nat.add_comm, ← List.count_append, List.take_append_drop]
/-- How many of the first e numbers leave the rest i modulo n. -/
theorem countP_mod {n i : Nat} (hi : i < n) : ∀ e : Nat, e / n ≤ (List.range e).countP (fun j => decide (j % n = i)) ∧ (List.range e).countP (fun j => decide (j % n = i)) ≤ (e + n - 1) / n := by
  have small : ∀ e, e ≤ n → (List.range e).countP (fun j => decide (j % n = i)) = if i < e then 1 else 0 := by
    intro e
    induction e with
    | zero => intro _; rfl
    | succ e ih =>
      intro he
      rw [List.range_succ, List.countP_append, ih (by omega), List.countP_cons, List.countP_nil, Nat.mod_eq_of_lt (by omega)]
      by_cases h : e = i
      · subst h; simp
      · by_cases h2 : i < e
        · rw [if_pos h2, decide_eq_false h, if_neg (by decide), if_pos (by omega)]
        · rw [if_neg h2, decide_eq_false h, if_neg (by decide), if_neg (by omega)]
  have shift : ∀ e, (List.range (n + e)).countP (fun j => decide (j % n = i)) = 1 + (List.range e).countP (fun j => decide (j % n = i)) := by
    intro e
    induction e with
    | zero => rw [Nat.add_zero, small n (Nat.le_refl n), if_pos hi]; rfl
    | succ e ih =>
      rw [show n + (e + 1) = n + e + 1 from rfl, List.range_succ, List.countP_append, ih, List.range_succ, List.countP_append]
      simp only [List.countP_cons, List.countP_nil, Nat.add_mod_left]
      omega
  intro e
  induction e using Nat.strongRecOn with
  | _ e ih =>
    rcases Nat.lt_or_ge e n with h | h
    · rw [small e (by omega), Nat.div_eq_of_lt h]
      refine ⟨Nat.zero_le _, ?_⟩
      split
      · rw [Nat.le_div_iff_mul_le (by omega)]; omega
      · exact Nat.zero_le _
    · obtain ⟨d, rfl⟩ : ∃ d, e = n + d := ⟨e - n, by omega⟩
      obtain ⟨h1, h2⟩ := ih d (by omega)
      have hn : 0 < n := by omega
      rw [shift, Nat.add_div_left d hn, show n + d + n - 1 = n + (d + n - 1) by omega, Nat.add_div_left _ hn]
      omega
/-- How often a usable element is in a selection. -/
theorem sel_count {l : List Int} {s e : Nat} {x : Int} (hu : useB x = true) (h1 : l.count x = 1) : e / usable l ≤ (selL l s e).count x ∧ (selL l s e).count x ≤ (e + usable l - 1) / usable l := by
  have hm : x ∈ turnL l s := List.count_pos_iff.1 (by rw [count_turn hu, h1]; decide)
  obtain ⟨i, hi, hx⟩ := List.getElem_of_mem hm
  have hi' : i < usable l := by rw [← turnL_length l s]; exact hi
  have hcount : (selL l s e).count x = (List.range e).countP (fun j => decide (j % usable l = i)) := by
    unfold selL
    rw [List.count, List.countP_map]
    refine List.countP_congr fun j _ => ?_
    have hj : j % usable l < (turnL l s).length := by rw [turnL_length]; exact Nat.mod_lt _ (by omega)
    simp only [Function.comp, List.getElem?_eq_getElem hj, Option.getD_some, beq_iff_eq, decide_eq_true_eq]
    constructor
    · intro h
      rcases Nat.lt_trichotomy (j % usable l) i with hl | hl | hl
      · have := count_two (l := turnL l s) (x := x) (by rw [List.getElem?_eq_getElem hj, h]) (by rw [List.getElem?_eq_getElem hi, hx]) hl
        rw [count_turn hu] at this
        omega
      · exact hl
      · have := count_two (l := turnL l s) (x := x) (by rw [List.getElem?_eq_getElem hi, hx]) (by rw [List.getElem?_eq_getElem hj, h]) hl
        rw [count_turn hu] at this
        omega
    · intro h
      subst h
      exact hx
  rw [hcount]
  exact countP_mod hi' e
/-- Every element of a selection is a usable one of the list. -/
theorem sel_mem {l : List Int} {s e : Nat} {x : Int} (hn : 1 ≤ usable l) (hx : x ∈ selL l s e) : x ∈ l ∧ useB x = true := by
  unfold selL at hx
  obtain ⟨j, _, rfl⟩ := List.mem_map.1 hx
  have hj : j % usable l < (turnL l s).length := by rw [turnL_length]; exact Nat.mod_lt _ (by omega)
  rw [List.getElem?_eq_getElem hj, Option.getD_some]
  have hm := List.getElem_mem hj
  unfold turnL at hm
  obtain ⟨h1, h2⟩ := List.mem_filter.1 hm
  refine ⟨?_, h2⟩
  unfold rotL at h1
  rw [List.mem_append] at h1
  rcases h1 with h1 | h1
  · exact List.mem_of_mem_drop h1
  · exact List.mem_of_mem_take h1
/-- How often the usable elements among the first j of l are in W, all together. -/
def sumC (l W : List Int) (j : Nat) : Nat := (((l.take j).filter useB).map fun x => W.count x).sum
theorem sumC_zero (l W : List Int) : sumC l W 0 = 0 := by simp [sumC]
theorem sumC_succ {l W : List Int} {j : Nat} {x : Int} (h : l[j]? = some x) : sumC l W (j + 1) = sumC l W j + if useB x = true then W.count x else 0 := by
  obtain ⟨h1, h2⟩ := List.getElem?_eq_some_iff.1 h
  unfold sumC
  rw [List.take_succ_eq_append_getElem h1, h2, List.filter_append, List.map_append, List.sum_append]
  congr 1
  by_cases hu : useB x = true
  · rw [if_pos hu, List.filter_cons_of_pos hu]; simp
  · rw [if_neg hu, List.filter_cons_of_neg hu]; simp
theorem sum_count {V : List Int} : ∀ W : List Int, (∀ x ∈ W, V.count x = 1) → (V.map fun x => W.count x).sum = W.length
  | [], _ => by
    have : (V.map fun x => ([] : List Int).count x) = List.replicate V.length 0 := by
      rw [List.eq_replicate_iff]
      refine ⟨by simp, fun b hb => ?_⟩
      obtain ⟨x, _, rfl⟩ := List.mem_map.1 hb
      rfl
    rw [this]
    simp
  | w :: W, h => by
    have ih := sum_count W (fun x hx => h x (List.mem_cons_of_mem _ hx))
    have hw := h w (List.mem_cons_self ..)
    have key : ∀ V : List Int, (V.map fun x => (w :: W).count x).sum = (V.map fun x => W.count x).sum + V.count w := by
      intro V
      induction V with
      | nil => rfl
      | cons v V ihV =>
        rw [List.map_cons, List.sum_cons, List.map_cons, List.sum_cons, ihV, List.count_cons, List.count_cons (a := w) (b := v)]
        have : (if (w == v) = true then 1 else 0 : Nat) = if (v == w) = true then 1 else 0 := by
          by_cases e : w = v
          · subst e; rfl
          · rw [if_neg (by simpa using e), if_neg (by simpa using fun h => e h.symm)]
        omega
    rw [key, ih, hw]
    rfl
/-- All together they are the selection. -/
theorem sumC_all {l : List Int} {s e : Nat} (hn : 1 ≤ usable l) (hd : ∀ x ∈ l, useB x = true → l.count x = 1) : sumC l (selL l s e) l.length = e := by
  unfold sumC
  rw [List.take_of_length_le (Nat.le_refl _), sum_count, selL_length]
  intro x hx
  obtain ⟨h1, h2⟩ := sel_mem hn hx
  rw [List.count_filter h2]
  exact hd x h1 h2
end Go.Proofs.YtnmkladmohjdnaaDoor
