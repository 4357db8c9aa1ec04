/-
  What the functions of the circular buffer answer. Mathematics.
-/
import Derived.Test.YtnmkladmohjdnaaDoorRmC
namespace Go.Proofs.YtnmkladmohjdnaaDoor

def okB (k f l : Int) : Bool := decide (40 ≤ k) && decide (k ≤ 6144) && decide (0 ≤ f) && decide (f < k) && decide (1 ≤ l)
def okV (rv : Int) : Bool := decide (0 ≤ rv) && decide (rv < 4)
def okE (e : Int) : Bool := decide (0 ≤ e) && decide (e ≤ 131072)
theorem okB_nat {k f l : Int} (h : okB k f l = true) : ∃ K F L : Nat, k = (K : Int) ∧ f = (F : Int) ∧ l = (L : Int) ∧ 40 ≤ K ∧ K ≤ 6144 ∧ F < K ∧ 1 ≤ L := by
  simp [okB] at h
  exact ⟨k.toNat, f.toNat, l.toNat, by omega, by omega, by omega, by omega, by omega, by omega, by omega⟩
theorem okB_of {K F L : Nat} (h1 : 40 ≤ K) (h2 : K ≤ 6144) (h3 : F < K) (h4 : 1 ≤ L) : okB (K : Int) (F : Int) (L : Int) = true := by simp [okB]; omega
theorem okV_nat {rv : Int} (h : okV rv = true) : ∃ V : Nat, rv = (V : Int) ∧ V < 4 := by
  simp [okV] at h
  exact ⟨rv.toNat, by omega, by omega⟩
theorem okE_nat {e : Int} (h : okE e = true) : ∃ E : Nat, e = (E : Int) ∧ E ≤ 131072 := by
  simp [okE] at h
  exact ⟨e.toNat, by omega, by omega⟩
/-- The number of elements of the circular buffer. -/
def sizN (k l : Nat) : Nat := min l (96 * rowsN (k + 4))
theorem rows_k {k : Nat} (h1 : 40 ≤ k) (h2 : k ≤ 6144) : 2 ≤ rowsN (k + 4) ∧ rowsN (k + 4) ≤ 193 := by unfold rowsN; omega
theorem siz_le {k l : Nat} (h1 : 40 ≤ k) (h2 : k ≤ 6144) (hl : 1 ≤ l) : 1 ≤ sizN k l ∧ sizN k l ≤ 96 * rowsN (k + 4) ∧ sizN k l ≤ 18528 := by
  have := rows_k h1 h2
  unfold sizN
  omega
/-- The circular buffer of k, f and a limit. -/
def cirI (k f l : Nat) : List Int := bufI k f (sizN k l)
theorem cirI_length (k f l : Nat) : (cirI k f l).length = sizN k l := by
  unfold cirI bufI
  rw [List.length_take, fullI_length]
  unfold sizN
  omega
def bufS (k f l : Int) : List Int × Int := if okB k f l = true then (cirI k.toNat f.toNat l.toNat, 0) else ([], 2)
def useS (k f l : Int) : Int × Int := if okB k f l = true then ((usable (cirI k.toNat f.toNat l.toNat) : Nat), 0) else (0, 2)
/-- The start of a redundancy version. -/
def startN (k n rv : Nat) : Nat := rowsN (k + 4) * (2 * ((n + 8 * rowsN (k + 4) - 1) / (8 * rowsN (k + 4))) * rv + 2) % n
def startS (k l rv : Int) : Int × Int := if (okB k 0 l && okV rv) = true then ((startN k.toNat (sizN k.toNat l.toNat) rv.toNat : Nat), 0) else (0, 2)
def posS (k f l rv e : Int) : List Int × Int :=
  if (okB k f l && okV rv && okE e) = true then
    if 0 < e ∧ usable (cirI k.toNat f.toNat l.toNat) = 0 then ([], 10)
    else (selL (cirI k.toNat f.toNat l.toNat) (startN k.toNat (sizN k.toNat l.toNat) rv.toNat) e.toNat, 0)
  else ([], 2)
section
variable {k f l : Nat}
theorem bufS_ok (h : okB (k : Int) (f : Int) (l : Int) = true) : bufS k f l = (cirI k f l, 0) := by unfold bufS; rw [if_pos h]; simp
theorem bufS_no {k f l : Int} (h : okB k f l = false) : bufS k f l = ([], 2) := by unfold bufS; rw [h]; rfl
theorem useS_ok (h : okB (k : Int) (f : Int) (l : Int) = true) : useS k f l = (((usable (cirI k f l) : Nat) : Int), 0) := by unfold useS; rw [if_pos h]; simp
theorem useS_no {k f l : Int} (h : okB k f l = false) : useS k f l = (0, 2) := by unfold useS; rw [h]; rfl
theorem startS_ok {v : Nat} (h : okB (k : Int) 0 (l : Int) = true) (hv : okV (v : Int) = true) : startS k l v = (((startN k (sizN k l) v : Nat) : Int), 0) := by unfold startS; rw [h, hv]; simp
theorem startS_no {k l v : Int} (h : (okB k 0 l && okV v) = false) : startS k l v = (0, 2) := by unfold startS; rw [h]; rfl
theorem posS_no {k f l rv e : Int} (h : (okB k f l && okV rv && okE e) = false) : posS k f l rv e = ([], 2) := by unfold posS; rw [h]; rfl
theorem posS_ok {v e : Nat} (h : (okB (k : Int) (f : Int) (l : Int) && okV (v : Int) && okE (e : Int)) = true) : posS k f l v e = if 0 < e ∧ usable (cirI k f l) = 0 then ([], 10) else (selL (cirI k f l) (startN k (sizN k l) v) e, 0) := by
  unfold posS
  rw [if_pos h]
  simp only [Int.toNat_natCast]
  by_cases h2 : 0 < e ∧ usable (cirI k f l) = 0
  · rw [if_pos h2, if_pos ⟨by omega, h2.2⟩]
  · rw [if_neg h2, if_neg (fun h3 => h2 ⟨by omega, h3.2⟩)]
theorem okB_zero {k f l : Int} (h : okB k f l = true) : okB k 0 l = true := by
  simp [okB] at h ⊢
  omega
theorem start_lt {n v : Nat} (hn : 1 ≤ n) : startN k n v < n := Nat.mod_lt _ hn
theorem usable_le (xs : List Int) : usable xs ≤ xs.length := List.countP_le_length
theorem usable_pos {xs : List Int} (h : usable xs = 0) : ∀ x ∈ xs, useB x = false := by
  intro x hx
  have := List.countP_eq_zero.1 h x hx
  simpa using this
end
end Go.Proofs.YtnmkladmohjdnaaDoor
