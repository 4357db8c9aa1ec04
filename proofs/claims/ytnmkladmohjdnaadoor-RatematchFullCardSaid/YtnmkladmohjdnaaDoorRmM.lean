/-
  The circular buffer and its selections. Mathematics, ahead of stage 10.
-/
import Derived.Test.YtnmkladmohjdnaaDoorSbM
namespace Go.Proofs.YtnmkladmohjdnaaDoor

/-! ### Selections of the elements that are usable, around a circle. -/

def useB (x : Int) : Bool := decide (0 ≤ x)
/-- The number of usable elements. -/
def usable (l : List Int) : Nat := l.countP useB
/-- The circle, from s on. -/
def rotL (l : List Int) (s : Nat) : List Int := l.drop s ++ l.take s
/-- The usable elements of one turn, from s on. -/
def turnL (l : List Int) (s : Nat) : List Int := (rotL l s).filter useB
/-- A selection of e elements. -/
def selL (l : List Int) (s e : Nat) : List Int := (List.range e).map fun j => (turnL l s)[j % usable l]?.getD 0
/-- How many usable elements stand at the t places from s on. -/
def cntT (l : List Int) (s t : Nat) : Nat := t / l.length * usable l + ((rotL l s).take (t % l.length)).countP useB

section
variable {l : List Int} {s t e : Nat}
theorem rotL_length (l : List Int) (hs : s ≤ l.length) : (rotL l s).length = l.length := by unfold rotL; rw [List.length_append, List.length_drop, List.length_take]; omega
theorem rotL_at (hs : s < l.length) (ht : t < l.length) : (rotL l s)[t]? = l[(s + t) % l.length]? := by
  unfold rotL
  by_cases h : t < l.length - s
  · rw [List.getElem?_append_left (by rw [List.length_drop]; exact h), List.getElem?_drop, Nat.mod_eq_of_lt (by omega)]
  · rw [List.getElem?_append_right (by rw [List.length_drop]; omega), List.length_drop, List.getElem?_take, if_pos (by omega)]
    congr 1
    have : s + t = (t - (l.length - s)) + l.length := by omega
    rw [this, Nat.add_mod_right, Nat.mod_eq_of_lt (by omega)]
theorem countP_rot (l : List Int) (s : Nat) : (rotL l s).countP useB = usable l := by
  unfold rotL usable
  rw [List.countP_append, Nat.add_comm, ← List.countP_append, List.take_append_drop]
theorem turnL_length (l : List Int) (s : Nat) : (turnL l s).length = usable l := by
  unfold turnL
  rw [← List.countP_eq_length_filter, countP_rot]
theorem filter_at {p : Int → Bool} : ∀ (l : List Int) (i : Nat) (x : Int), l[i]? = some x → p x = true → (l.filter p)[(l.take i).countP p]? = some x
  | [], i, x, h, _ => by simp at h
  | y :: l, 0, x, h, hp => by
    simp only [List.getElem?_cons_zero, Option.some.injEq] at h
    subst h
    simp [hp]
  | y :: l, i + 1, x, h, hp => by
    rw [List.getElem?_cons_succ] at h
    have ih := filter_at l i x h hp
    rw [List.take_succ_cons]
    by_cases hy : p y = true
    · rw [List.countP_cons_of_pos hy, List.filter_cons_of_pos hy, List.getElem?_cons_succ]
      exact ih
    · rw [List.countP_cons_of_neg hy, List.filter_cons_of_neg hy]
      exact ih
theorem countP_lt {p : Int → Bool} {l : List Int} {i : Nat} {x : Int} (h : l[i]? = some x) (hp : p x = true) : (l.take i).countP p < l.countP p := by
  have h1 := filter_at l i x h hp
  have h2 := (List.getElem?_eq_some_iff.1 h1).1
  rwa [← List.countP_eq_length_filter] at h2
theorem selL_length (l : List Int) (s e : Nat) : (selL l s e).length = e := by simp [selL]
theorem selL_at {j : Nat} (h : j < e) : (selL l s e)[j]?.getD 0 = (turnL l s)[j % usable l]?.getD 0 := by simp [selL, h]
theorem selL_zero : selL l s 0 = [] := rfl
theorem selL_succ : selL l s (e + 1) = selL l s e ++ [(turnL l s)[e % usable l]?.getD 0] := by simp [selL, List.range_succ]
theorem cntT_zero : cntT l s 0 = 0 := by simp [cntT]
/-- The element at the place t behind s. -/
theorem cnt_step (hs : s < l.length) {x : Int} (hx : l[(s + t) % l.length]? = some x) : (useB x = true → cntT l s (t + 1) = cntT l s t + 1 ∧ (turnL l s)[cntT l s t % usable l]?.getD 0 = x) ∧ (useB x = false → cntT l s (t + 1) = cntT l s t) := by
  have hB : 0 < l.length := by omega
  have hr := Nat.mod_lt t hB
  have hrot : (rotL l s)[t % l.length]? = some x := by
    rw [rotL_at hs hr, ← hx]
    congr 1
    rw [Nat.add_mod s t, Nat.add_mod s (t % l.length), Nat.mod_mod]
  have htk : (rotL l s).take (t % l.length + 1) = (rotL l s).take (t % l.length) ++ [x] := by
    obtain ⟨h1, h2⟩ := List.getElem?_eq_some_iff.1 hrot
    rw [List.take_succ_eq_append_getElem h1, h2]
  have hcnt : cntT l s (t + 1) = t / l.length * usable l + ((rotL l s).take (t % l.length + 1)).countP useB := by
    unfold cntT
    by_cases hw : t % l.length + 1 = l.length
    · have h1 : (t + 1) / l.length = t / l.length + 1 := by
        have := Nat.div_add_mod t l.length
        rw [show t + 1 = l.length * (t / l.length) + l.length by omega, Nat.mul_add_div hB, Nat.div_self hB]
      have h2 : (t + 1) % l.length = 0 := by
        have := Nat.div_add_mod t l.length
        rw [show t + 1 = l.length * (t / l.length) + l.length by omega, Nat.mul_add_mod, Nat.mod_self]
      rw [h1, h2, hw, List.take_zero, List.take_of_length_le (by rw [rotL_length l (by omega)]; exact Nat.le_refl _), countP_rot, Nat.add_mul, Nat.one_mul]
      simp
    · have hlt : t % l.length + 1 < l.length := by omega
      have hd := Nat.div_add_mod t l.length
      have et : t + 1 = l.length * (t / l.length) + (t % l.length + 1) := by omega
      have h1 : (t + 1) / l.length = t / l.length :=
        (congrArg (· / l.length) et).trans ((Nat.mul_add_div hB _ _).trans (by rw [Nat.div_eq_of_lt hlt, Nat.add_zero]))
      have h2 : (t + 1) % l.length = t % l.length + 1 :=
        (congrArg (· % l.length) et).trans ((Nat.mul_add_mod _ _ _).trans (Nat.mod_eq_of_lt hlt))
      rw [h1, h2]
  refine ⟨fun hu => ⟨?_, ?_⟩, fun hu => ?_⟩
  · rw [hcnt, htk, List.countP_append]
    unfold cntT
    simp [hu]
    omega
  · have h1 := filter_at (rotL l s) (t % l.length) x hrot hu
    have h2 := countP_lt hrot hu
    rw [countP_rot] at h2
    unfold cntT
    rw [Nat.mul_comm, Nat.mul_add_mod, Nat.mod_eq_of_lt h2]
    unfold turnL
    rw [h1]
    rfl
  · rw [hcnt, htk, List.countP_append]
    unfold cntT
    simp [hu]
/-- One more usable element is one more of the selection. -/
theorem sel_step (hs : s < l.length) {x : Int} (hx : l[(s + t) % l.length]? = some x) (hu : useB x = true) : selL l s (cntT l s t) ++ [x] = selL l s (cntT l s (t + 1)) := by
  obtain ⟨h1, h2⟩ := (cnt_step hs hx).1 hu
  rw [h1, selL_succ, h2]
/-- As long as e elements are not there, no e turns have passed. -/
theorem cnt_turns (hn : 1 ≤ usable l) (h : cntT l s t < e) : t < e * l.length ∨ l.length = 0 := by
  rcases Nat.eq_zero_or_pos l.length with h0 | h0
  · exact .inr h0
  · left
    unfold cntT at h
    have h1 : t / l.length < e := by
      have : t / l.length * 1 ≤ t / l.length * usable l := Nat.mul_le_mul_left _ hn
      omega
    rw [Nat.div_lt_iff_lt_mul h0] at h1
    exact h1
/-- A shorter selection begins a longer one. -/
theorem sel_prefix {d : Nat} (h : d ≤ e) : (selL l s e).take d = selL l s d := by
  apply list_ext0
  · rw [List.length_take, selL_length, selL_length]; omega
  · intro j hj
    rw [selL_length] at hj
    rw [List.getElem?_take, if_pos hj, selL_at (by omega), selL_at hj]
/-- A selection repeats after one turn. -/
theorem sel_again {j : Nat} (h : j < e) (hn : usable l ≤ j) : (selL l s e)[j]?.getD 0 = (selL l s e)[j - usable l]?.getD 0 := by
  rw [selL_at h, selL_at (by omega)]
  congr 2
  have : j = (j - usable l) + usable l := by omega
  conv => lhs; rw [this]
  rw [Nat.add_mod_right]
end
end Go.Proofs.YtnmkladmohjdnaaDoor
