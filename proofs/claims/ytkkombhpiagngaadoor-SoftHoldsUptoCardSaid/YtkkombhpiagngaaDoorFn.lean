/-
  Sum, Scale, Hard, Ideal at any arguments.
-/
import Derived.Test.YtkkombhpiagngaaDoorSc
namespace Go.Proofs.YtkkombhpiagngaaDoor
open Go.RowKit Go.Shelf

theorem map_range (f : Int → Int) (l : List Int) : (List.range l.length).map (fun j => f (l[j]?.getD 0)) = l.map f := by
  apply List.ext_getElem
  · simp
  · intro i h1 h2
    simp at h1
    simp [h1]
def sumS (a b : List Int) : List Int × Int := if (softB a && softB b && decide (a.length = b.length)) = true then (sumI a b, 0) else ([], 2)
def scaleS (l : List Int) (n d : Int) : List Int × Int := if (softB l && (decide (0 ≤ n) && decide (n ≤ 1073741824)) && (decide (1 ≤ d) && decide (d ≤ 1073741824))) = true then (scaleI n d l, 0) else ([], 2)
def hardS (l : List Int) : List Int × Int := if softB l = true then (hardI l, 0) else ([], 2)
def idealS (b : List Int) (m : Int) : List Int × Int := if (decide (0 ≤ m) && decide (m ≤ 127)) = true then (if validB b = true then (idealI m b, 0) else ([], 3)) else ([], 2)

theorem sumC_any {X j n2 c2 B : Nat} {A2 : Option Addr} {ys : List Int} {v : Int} {u : World} (hK : Kinds u) (hc : u.cell? ⟨X, 0, none⟩ = some (.slice A2 n2 c2)) (hR : Rd .i64 u B A2 n2 ys) (hj : j < n2) :
    Calls Tryd.prog 35 #[.int .i64 (j : Int), .int .i64 v, .pointer (some ⟨X, 0, none⟩)] u fun e u' => e = .returned (.int .i64 (addI v (ys[j]?.getD 0))) ∧ u' = u := by
  obtain ⟨b, off, rfl, _, hc2⟩ := hR.cells j hj
  have hA := Lib.hid (Add_any (a := v) (b := ys[j]?.getD 0) hK)
  generalize ys[j]?.getD 0 = y at *
  have h1 : (j : Int) < (n2 : Int) := by omega
  have h0 : (0 : Int) ≤ (j : Int) := by omega
  clear hK hR
  go_enter Tryd.func35, Tryd.ntmps35
  go_wp2_with (refine hA.out.mono ?_; rintro e w ⟨rfl, rfl⟩)
  go_ret
  exact ⟨rfl, rfl⟩
theorem hardC_any {j : Nat} {v : Int} {u : World} : Calls Tryd.prog 40 #[.int .i64 (j : Int), .int .i64 v] u fun e u' => e = .returned (.int .u8 (hardE v)) ∧ u' = u := by
  have hA := Lib.hid (decision_any (v := v) (w := u))
  generalize hardE v = y at *
  go_enter Tryd.func40, Tryd.ntmps40
  go_wp2_with (refine hA.out.mono ?_; rintro e w ⟨rfl, rfl⟩)
  go_ret
  exact ⟨rfl, rfl⟩
theorem idealC_any {X j : Nat} {m v : Int} {u : World} (hc : u.cell? ⟨X, 0, none⟩ = some (.int .i64 m)) (hm : 0 ≤ m ∧ m ≤ 127) (hv : v = 0 ∨ v = 1) :
    Calls Tryd.prog 44 #[.int .i64 (j : Int), .int .u8 v, .pointer (some ⟨X, 0, none⟩)] u fun e u' => e = .returned (.int .i64 (idealE m v)) ∧ u' = u := by
  unfold idealE
  obtain ⟨h0, h1⟩ := hm
  rcases hv with rfl | rfl
  · go_enter Tryd.func44, Tryd.ntmps44
    go_wp2
    go_ret
    exact ⟨ret_int (by omega), rfl⟩
  · go_enter Tryd.func44, Tryd.ntmps44
    go_wp2
    go_ret
    exact ⟨ret_int (by omega), rfl⟩
theorem scaleC_any {X Y j : Nat} {num den v : Int} {u : World} (hK : Kinds u) (hc : u.cell? ⟨X, 0, none⟩ = some (.int .i64 num)) (hd : u.cell? ⟨Y, 0, none⟩ = some (.int .i64 den)) (hn : 0 ≤ num ∧ num ≤ 1073741824) (hd1 : 1 ≤ den ∧ den ≤ 1073741824) (hv : -127 ≤ v ∧ v ≤ 127) :
    Calls Tryd.prog 38 #[.int .i64 (j : Int), .int .i64 v, .pointer (some ⟨X, 0, none⟩), .pointer (some ⟨Y, 0, none⟩)] u fun e u' => e = .returned (.int .i64 (scaleE num den v)) ∧ u' = u := by
  have hA := Lib.hid (Clamp_any (v := (v * num).tdiv den) hK)
  have hs : Hid (scaleE num den v = clampI ((v * num).tdiv den)) := Lib.hid rfl
  rw [← hs.out] at hA
  have p1 : -136365211648 ≤ v * num ∧ v * num ≤ 136365211648 := by
    have := Int.mul_le_mul_of_nonneg_right hv.2 hn.1
    have := Int.mul_le_mul_of_nonneg_right hv.1 hn.1
    constructor <;> omega
  obtain ⟨p1, p2⟩ := p1
  generalize scaleE num den v = y at *
  obtain ⟨p, hp⟩ : ∃ p, v * num = p := ⟨_, rfl⟩
  rw [hp] at p1 p2 hA hs
  have q1 : -136365211648 ≤ p.tdiv den ∧ p.tdiv den ≤ 136365211648 := by
    have h1 : (p.tdiv den).natAbs ≤ p.natAbs := Int.natAbs_tdiv_le_natAbs p den
    omega
  obtain ⟨q1, q2⟩ := q1
  obtain ⟨q, hq⟩ : ∃ q, p.tdiv den = q := ⟨_, rfl⟩
  rw [hq] at q1 q2 hA
  have hne : (den == 0) = false := by simp; omega
  have hne2 : den ≠ 0 := by omega
  obtain ⟨hd1, hd2⟩ := hd1
  clear hK hn hv hs
  go_enter Tryd.func38, Tryd.ntmps38
  go_wp2_with fail
  go_wp2_with (refine hA.out.mono ?_; rintro e w ⟨rfl, rfl⟩)
  go_ret
  exact ⟨rfl, rfl⟩
end Go.Proofs.YtkkombhpiagngaaDoor
