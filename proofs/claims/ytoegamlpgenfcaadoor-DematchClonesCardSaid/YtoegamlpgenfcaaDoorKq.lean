/-
  The table of the limits; Clamp, Add, includes, decision, absolute; the closures.
-/
import Derived.Test.YtoegamlpgenfcaaDoorSm
import Derived.ScopeJumps
namespace Go.Proofs.YtoegamlpgenfcaaDoor
open Go.RowKit Go.Shelf

def limL : List Int := [-127, 127, 0, 127, 0, 1073741824, 1, 1073741824]
/-- The limits (block 0) hold what start-up lays. -/
structure KLim (w : World) : Prop where
  lt : 0 < w.heap.size
  a0 : w.cell? ⟨0, 0, none⟩ = some (.int .i64 (-127))
  a1 : w.cell? ⟨0, 1, none⟩ = some (.int .i64 127)
  b0 : w.cell? ⟨0, 2, none⟩ = some (.int .i64 0)
  b1 : w.cell? ⟨0, 3, none⟩ = some (.int .i64 127)
  c0 : w.cell? ⟨0, 4, none⟩ = some (.int .i64 0)
  c1 : w.cell? ⟨0, 5, none⟩ = some (.int .i64 1073741824)
  d0 : w.cell? ⟨0, 6, none⟩ = some (.int .i64 1)
  d1 : w.cell? ⟨0, 7, none⟩ = some (.int .i64 1073741824)
theorem KLim.keep {w w' : World} (h : KLim w) (hs : w.heap.size ≤ w'.heap.size) (hr : w'.heap[0]? = w.heap[0]?) : KLim w' := by
  have hk : ∀ j, w'.cell? ⟨0, j, none⟩ = w.cell? ⟨0, j, none⟩ := fun j => World.cell?_of_block hr
  exact ⟨Nat.lt_of_lt_of_le h.lt hs, (hk 0).trans h.a0, (hk 1).trans h.a1, (hk 2).trans h.b0, (hk 3).trans h.b1, (hk 4).trans h.c0, (hk 5).trans h.c1, (hk 6).trans h.d0, (hk 7).trans h.d1⟩
theorem KLim.below {w w' : World} {B : Nat} (h : KLim w) (hb : Below B w w') (hB : 0 < B) : KLim w' := h.keep hb.size (hb.block 0 hB)
theorem KLim.step {w w' : World} (h : KLim w) (hb : Below w.heap.size w w') : KLim w' := h.below hb h.lt
theorem KLim.drew {w : World} (h : KLim w) : KLim w.drew := h.keep (Nat.le_refl _) rfl
theorem KLim.drewN {w : World} (h : KLim w) (n : Nat) : KLim (w.drewN n) := h.keep (Nat.le_refl _) rfl
theorem KLim.alloc {w : World} (h : KLim w) (o : Obj) : KLim (w.alloc o) := h.step ((Below.refl _ w).alloc (Nat.le_refl _) _)

theorem clamp_minmax (v : Int) : min (max v (-127)) 127 = clampI v := by have := clampI_cases v; omega
set_option maxHeartbeats 1000000 in
theorem Clamp_any {v : Int} {w : World} (hK : KLim w) : Calls Tryd.prog 61 #[.int .i64 v] w fun e w' => e = .returned (.int .i64 (clampI v)) ∧ w' = w := by
  obtain ⟨hlt, a0, a1, -, -, -, -, -, -⟩ := hK
  rw [← clamp_minmax]
  go_enter Tryd.func61, Tryd.ntmps61
  go_wp2
  all_goals (go_ret; exact ⟨ret_int (by omega), rfl⟩)
set_option maxHeartbeats 1000000 in
theorem Add_any {a b : Int} {w : World} (hK : KLim w) : Calls Tryd.prog 43 #[.int .i64 a, .int .i64 b] w fun e w' => e = .returned (.int .i64 (addI a b)) ∧ w' = w := by
  have h := Lib.hid (fun (v : Int) => Clamp_any (v := v) hK)
  have h1 := clampI_range a
  have h2 := clampI_range b
  have hs : Hid (addI a b = clampI (clampI a + clampI b)) := Lib.hid rfl
  have hx := h.out a
  have hy := h.out b
  have hz := h.out (clampI a + clampI b)
  generalize clampI a = x at *
  generalize clampI b = y at *
  rw [← hs.out] at hz
  have hX := Lib.hid hx; have hY := Lib.hid hy; have hZ := Lib.hid hz
  clear hK h hx hy hz
  go_enter Tryd.func43, Tryd.ntmps43
  go_wp2_with (first | (refine hX.out.mono ?_; rintro e w ⟨rfl, rfl⟩; clear hX) | (refine hY.out.mono ?_; rintro e w ⟨rfl, rfl⟩; clear hY) | (refine hZ.out.mono ?_; rintro e w ⟨rfl, rfl⟩) | fail)
  go_ret
  exact ⟨rfl, rfl⟩
set_option maxHeartbeats 1000000 in
/-- Whether an integer is of a kind. -/
theorem includes_any {k : Int} {lo hi v : Int} {w : World} (hk : k = 0 ∨ k = 1 ∨ k = 2 ∨ k = 3) (hK : KLim w) (hlo : lo = limL[2 * k.toNat]?.getD 0) (hhi : hi = limL[2 * k.toNat + 1]?.getD 0) :
    Calls Tryd.prog 51 #[.int .i64 k, .int .i64 v] w fun e w' => e = .returned (.bool (decide (lo ≤ v) && decide (v ≤ hi))) ∧ w' = w := by
  obtain ⟨hlt, a0, a1, b0, b1, c0, c1, d0, d1⟩ := hK
  by_cases h1 : lo ≤ v
  · have hr : Hid ((decide (lo ≤ v) && decide (v ≤ hi)) = decide (v ≤ hi)) := Lib.hid (by simp [h1])
    rw [hr.out]
    rcases hk with rfl | rfl | rfl | rfl
    all_goals
      simp [limL] at hlo hhi
      subst hlo hhi
      go_enter Tryd.func51, Tryd.ntmps51
      go_wp2
      go_ret
      exact ⟨rfl, rfl⟩
  · have hr : Hid ((decide (lo ≤ v) && decide (v ≤ hi)) = false) := Lib.hid (by simp [h1])
    rw [hr.out]
    rcases hk with rfl | rfl | rfl | rfl
    all_goals
      simp [limL] at hlo hhi
      subst hlo hhi
      go_enter Tryd.func51, Tryd.ntmps51
      go_wp2
      go_ret
      exact ⟨rfl, rfl⟩
end Go.Proofs.YtoegamlpgenfcaaDoor
