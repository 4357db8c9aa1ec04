/-
  The table of the limits; Clamp, Add, includes, decision, absolute; the closures.
-/
import Derived.Test.YtkkombhpiagngaaDoorSm
import Derived.ScopeJumps
namespace Go.Proofs.YtkkombhpiagngaaDoor
open Go.RowKit Go.Shelf

def limL : List Int := [-127, 127, 0, 127, 0, 1073741824, 1, 1073741824]
/-- The limits (block 0) hold what start-up lays. -/
structure Kinds (w : World) : Prop where
  lt : 0 < w.heap.size
  a0 : w.cell? ⟨0, 0, none⟩ = some (.int .i64 (-127))
  a1 : w.cell? ⟨0, 1, none⟩ = some (.int .i64 127)
  b0 : w.cell? ⟨0, 2, none⟩ = some (.int .i64 0)
  b1 : w.cell? ⟨0, 3, none⟩ = some (.int .i64 127)
  c0 : w.cell? ⟨0, 4, none⟩ = some (.int .i64 0)
  c1 : w.cell? ⟨0, 5, none⟩ = some (.int .i64 1073741824)
  d0 : w.cell? ⟨0, 6, none⟩ = some (.int .i64 1)
  d1 : w.cell? ⟨0, 7, none⟩ = some (.int .i64 1073741824)
theorem Kinds.keep {w w' : World} (h : Kinds w) (hs : w.heap.size ≤ w'.heap.size) (hr : w'.heap[0]? = w.heap[0]?) : Kinds w' := by
  have hk : ∀ j, w'.cell? ⟨0, j, none⟩ = w.cell? ⟨0, j, none⟩ := fun j => World.cell?_of_block hr
  exact ⟨Nat.lt_of_lt_of_le h.lt hs, (hk 0).trans h.a0, (hk 1).trans h.a1, (hk 2).trans h.b0, (hk 3).trans h.b1, (hk 4).trans h.c0, (hk 5).trans h.c1, (hk 6).trans h.d0, (hk 7).trans h.d1⟩
theorem Kinds.below {w w' : World} {B : Nat} (h : Kinds w) (hb : Below B w w') (hB : 0 < B) : Kinds w' := h.keep hb.size (hb.block 0 hB)
theorem Kinds.step {w w' : World} (h : Kinds w) (hb : Below w.heap.size w w') : Kinds w' := h.below hb h.lt
theorem Kinds.drew {w : World} (h : Kinds w) : Kinds w.drew := h.keep (Nat.le_refl _) rfl
theorem Kinds.drewN {w : World} (h : Kinds w) (n : Nat) : Kinds (w.drewN n) := h.keep (Nat.le_refl _) rfl
theorem Kinds.alloc {w : World} (h : Kinds w) (o : Obj) : Kinds (w.alloc o) := h.step ((Below.refl _ w).alloc (Nat.le_refl _) _)

theorem clamp_minmax (v : Int) : min (max v (-127)) 127 = clampI v := by have := clampI_cases v; omega
set_option maxHeartbeats 1000000 in
theorem Clamp_any {v : Int} {w : World} (hK : Kinds w) : Calls Tryd.prog 10 #[.int .i64 v] w fun e w' => e = .returned (.int .i64 (clampI v)) ∧ w' = w := by
  obtain ⟨hlt, a0, a1, -, -, -, -, -, -⟩ := hK
  rw [← clamp_minmax]
  go_enter Tryd.func10, Tryd.ntmps10
  go_wp2
  all_goals (go_ret; exact ⟨ret_int (by omega), rfl⟩)
set_option maxHeartbeats 1000000 in
theorem Add_any {a b : Int} {w : World} (hK : Kinds w) : Calls Tryd.prog 12 #[.int .i64 a, .int .i64 b] w fun e w' => e = .returned (.int .i64 (addI a b)) ∧ w' = w := by
  have h := Lib.hid (fun (v : Int) => Clamp_any (v := v) hK)
  have h1 := clampI_range a
  have h2 := clampI_range b
  have hs : Hid (addI a b = clampI (clampI a + clampI b)) := Lib.hid rfl
  have hx := h.out a
  have hy := h.out b
  have hz := h.out (clampI a + clampI b)
  generalize clampI a = x at *
  generalize clampI b = y at *
  rw [← hs.out] at hz
  have hX := Lib.hid hx; have hY := Lib.hid hy; have hZ := Lib.hid hz
  clear hK h hx hy hz
  go_enter Tryd.func12, Tryd.ntmps12
  go_wp2_with (first | (refine hX.out.mono ?_; rintro e w ⟨rfl, rfl⟩; clear hX) | (refine hY.out.mono ?_; rintro e w ⟨rfl, rfl⟩; clear hY) | (refine hZ.out.mono ?_; rintro e w ⟨rfl, rfl⟩) | fail)
  go_ret
  exact ⟨rfl, rfl⟩
set_option maxHeartbeats 1000000 in
/-- Whether an integer is of a kind. -/
theorem includes_any {k : Int} {lo hi v : Int} {w : World} (hk : k = 0 ∨ k = 1 ∨ k = 2 ∨ k = 3) (hK : Kinds w) (hlo : lo = limL[2 * k.toNat]?.getD 0) (hhi : hi = limL[2 * k.toNat + 1]?.getD 0) :
    Calls Tryd.prog 37 #[.int .i64 k, .int .i64 v] w fun e w' => e = .returned (.bool (decide (lo ≤ v) && decide (v ≤ hi))) ∧ w' = w := by
  obtain ⟨hlt, a0, a1, b0, b1, c0, c1, d0, d1⟩ := hK
  by_cases h1 : lo ≤ v
  · have hr : Hid ((decide (lo ≤ v) && decide (v ≤ hi)) = decide (v ≤ hi)) := Lib.hid (by simp [h1])
    rw [hr.out]
    rcases hk with rfl | rfl | rfl | rfl
    all_goals
      simp [limL] at hlo hhi
      subst hlo hhi
      go_enter Tryd.func37, Tryd.ntmps37
      go_wp2
      go_ret
      exact ⟨rfl, rfl⟩
  · have hr : Hid ((decide (lo ≤ v) && decide (v ≤ hi)) = false) := Lib.hid (by simp [h1])
    rw [hr.out]
    rcases hk with rfl | rfl | rfl | rfl
    all_goals
      simp [limL] at hlo hhi
      subst hlo hhi
      go_enter Tryd.func37, Tryd.ntmps37
      go_wp2
      go_ret
      exact ⟨rfl, rfl⟩
theorem decision_any {v : Int} {w : World} : Calls Tryd.prog 41 #[.int .i64 v] w fun e w' => e = .returned (.int .u8 (hardE v)) ∧ w' = w := by
  unfold hardE
  by_cases h : v < 0
  · rw [if_pos h]
    go_enter Tryd.func41, Tryd.ntmps41
    go_wp2
    go_ret
    exact ⟨rfl, rfl⟩
  · rw [if_neg h]
    go_enter Tryd.func41, Tryd.ntmps41
    go_wp2
    go_ret
    exact ⟨rfl, rfl⟩
theorem absolute_any {v : Int} {w : World} (h1 : -127 ≤ v) (h2 : v ≤ 127) : Calls Tryd.prog 54 #[.int .i64 v] w fun e w' => e = .returned (.int .i64 (absI v)) ∧ w' = w := by
  unfold absI
  have e : 0 - v = -v := by omega
  go_enter Tryd.func54, Tryd.ntmps54
  go_wp2
  all_goals (go_ret; exact ⟨ret_int (by omega), rfl⟩)
end Go.Proofs.YtkkombhpiagngaaDoor
