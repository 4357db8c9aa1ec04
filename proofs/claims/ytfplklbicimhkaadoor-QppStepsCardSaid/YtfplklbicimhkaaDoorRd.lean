/-
  The reference's Free.
-/
import Derived.Test.YtfplklbicimhkaaDoorRc
namespace Go.Proofs.YtfplklbicimhkaaDoor
open Go.RowKit

def freeS (k v : Int) : Bool := isB k && (decide (1 ≤ v) && decide (k % v = 0))
/-- The window of the index that stands j windows behind i. -/
def winK (k n i j : Nat) : Nat := piK k (i + j * n) / n
theorem winK_lt {k v n i j : Nat} (h : IsSize k) (hn : k = v * n) (hn0 : 1 ≤ n) : winK k n i j < v := by
  unfold winK
  rw [Nat.div_lt_iff_lt_mul hn0, ← hn]
  exact piK_lt h _
theorem winK_inj {k v n i a b : Nat} (h : IsSize k) (hn : k = v * n) (hi : i < n) (ha : a < v) (hb : b < v) (e : winK k n i a = winK k n i b) : a = b :=
  piN_free (qpOk_size h) hn hi ha hb e
set_option maxRecDepth 100000 in
set_option maxHeartbeats 8000000 in
theorem refFree_yes {k v n : Nat} {w : World} (hs : IsSize k) (hv : 1 ≤ v) (hn : k = v * n) :
    Calls Tryd.prog 28 #[.int .i64 (k : Int), .int .i64 (v : Int)] w fun e w' => e = .returned (.tuple #[.bool true, .int .i64 0]) ∧ Below w.heap.size w w' := by
  have hO := Lib.hid (refOrder_any (k := (k : Int)) (w := w))
  rw [orderS_size hs] at hO
  have hol := ordI_length k k
  have hk := size_le hs
  have hn0 : 1 ≤ n := by
    rcases Nat.eq_zero_or_pos n with h | h
    · subst h; simp at hn; omega
    · exact h
  have hnk : n ≤ k := by rw [hn]; exact Nat.le_mul_of_pos_left n hv
  have hvk : v ≤ k := by rw [hn]; exact Nat.le_mul_of_pos_right v hn0
  have hdiv : (k : Int) / (v : Int) = (n : Int) := by
    rw [hn]
    show (((v * n) / v : Nat) : Int) = _
    rw [Nat.mul_div_cancel_left n hv]
  have hmod : (k : Int) % (v : Int) = 0 := by
    rw [hn]
    show (((v * n) % v : Nat) : Int) = _
    rw [Nat.mul_mod_right]
    rfl
  have hmk := make_ints v (by omega)
  have hS := Lib.hid hs
  have HN := Lib.hid hn
  have hv0 : (v : Int) ≠ 0 := by omega
  have hv1 : (1 : Int) ≤ (v : Int) := by omega
  have hn1 : (n : Int) ≠ 0 := by omega
  clear hs hn
  go_enter Tryd.func28, Tryd.ntmps28
  go_wp2_with (go_at_call 18; refine hO.out.mono ?_; rintro e w1 ⟨A1, c1, rfl, hown, hb1⟩)
  simp only [hol] at hown
  have HR0 := Lib.hid (Rd.of_own hown)
  have HB1 := Lib.hid hb1
  clear hown hb1 hO
  go_loopw [9] (fun i wr => ∃ t : Nat, t ≤ n ∧ i = .int .i64 (t : Int) ∧ Hid (Below w1.heap.size w1 wr)) (fun i _ => n - (intOf i).toNat)
  case atStart => exact ⟨0, Nat.zero_le _, rfl, Lib.hid (Below.refl _ _)⟩
  case round =>
    obtain ⟨t, ht, rfl, hb⟩ := hrel
    by_cases hlt : t < n
    · obtain ⟨wo, rfl⟩ : ∃ wo : World, wo = wr := ⟨_, rfl⟩
      have hz := Lib.hid (own_zeros_q (q := .i64) (T := 3) (w := wo) (B := w1.heap.size) (n := v) hb.out.size (by omega))
      have hb2 := Lib.hid (hb.out.alloc hb.out.size (.cells (madeCells #[.int .i64 0] v) 3))
      have hsz := hb.out.size
      clear hb
      go_wp2_with fail
      go_loopw [11] (fun j wr => ∃ u : Nat, u ≤ v ∧ j = .int .i64 (u : Int) ∧ Hid (wr.ownsRow w1.heap.size 3 1 (.slice (some ⟨wo.heap.size, 0, none⟩) v v) v ((putL (winK k n t) (fun _ => 1) v u).map (Value.int .i64))) ∧ Hid (Below w1.heap.size w1 wr)) (fun j _ => v - (intOf j).toNat)
      case atStart => exact ⟨0, Nat.zero_le _, rfl, hz, hb2⟩
      case round =>
        clear hz hb2
        obtain ⟨u, hu, rfl, hO, hb⟩ := hrel
        by_cases hlu : u < v
        · have hidx : t + u * n < k := by
            have h1 : (u + 1) * n ≤ v * n := Nat.mul_le_mul_right n hlu
            rw [Nat.succ_mul] at h1
            have := HN.out
            omega
          have hun : u * n ≤ 6144 := by omega
          have hmul : (u : Int) * (n : Int) = ((u * n : Nat) : Int) := rfl
          obtain ⟨b, off, rfl, hb1, hc⟩ := (HR0.out.below hb.out).cells (t + u * n) hidx
          rw [ordI_pi hidx] at hc
          have hq : ((piK k (t + u * n) : Nat) : Int) / (n : Int) = ((winK k n t u : Nat) : Int) := rfl
          have hwl : winK k n t u < v := winK_lt hS.out HN.out hn0
          have hc0 : wr.cell? ⟨wo.heap.size, winK k n t u, none⟩ = some (.int .i64 0) := by
            rw [World.ownsRow.cellAt hO.out _ (by omega), List.getElem?_map, List.getElem?_eq_getElem (by rw [putL_length]; exact hwl)]
            have := putL_no (f := winK k n t) (g := fun _ => 1) (n := v) (x := winK k n t u) u (fun i hi e => by
              have := winK_inj hS.out HN.out hlt (by omega) hlu e
              omega)
            rw [List.getElem?_eq_getElem (by rw [putL_length]; exact hwl), Option.getD_some] at this
            rw [this]
            rfl
          have hf := hO.out.frozenAt (winK k n t u)
          have hO2 := Lib.hid (putL_set hO.out)
          have hb2 := Lib.hid (hb.out.setCell (p := ⟨wo.heap.size, winK k n t u, none⟩) hsz (.int .i64 1))
          have hp6 := piK_lt hS.out (t + u * n)
          have hi0 : (0 : Int) ≤ (t : Int) + ((u * n : Nat) : Int) := by omega
          have hi1 : (t : Int) + ((u * n : Nat) : Int) < (k : Int) := by omega
          have hi2 : ((t : Int) + ((u * n : Nat) : Int)).toNat = t + u * n := by omega
          have hw0 : (0 : Int) ≤ ((winK k n t u : Nat) : Int) := by omega
          have hw1 : ((winK k n t u : Nat) : Int) < (v : Int) := by omega
          generalize piK k (t + u * n) = p at *
          generalize winK k n t u = x at *
          generalize u * n = un at *
          clear hO hb hidx hwl
          go_wp2_with fail
          go_roundw
          case rel => exact ⟨u + 1, by omega, by go_num, hO2, hb2⟩
          case measure => simp [intOf]; omega
        · obtain rfl : u = v := by omega
          clear hlu
          go_wp2_with fail
          go_roundw
          case rel => exact ⟨t + 1, by omega, by go_num, hb⟩
          case measure => simp [intOf]; omega
    · obtain rfl : t = n := by omega
      clear hlt
      go_wp2_with fail
      go_ret2
      exact ⟨rfl, HB1.out.trans (hb.out.mono HB1.out.size)⟩
set_option maxHeartbeats 4000000 in
theorem refFree_no {k v : Int} {w : World} (h : freeS k v = false) :
    Calls Tryd.prog 28 #[.int .i64 k, .int .i64 v] w fun e w' => e = .returned (.tuple #[.bool false, .int .i64 2]) ∧ Below w.heap.size w w' := by
  have hO := Lib.hid (refOrder_any (k := k) (w := w))
  by_cases hk : isB k = true
  · have hq : (orderS k).2 = 0 := by
      obtain ⟨m, rfl, hs⟩ := isB_ex hk
      rw [orderS_size hs]
    obtain ⟨⟨xs, no⟩, hx⟩ : ∃ p, orderS k = p := ⟨_, rfl⟩
    rw [hx] at hO hq
    simp only at hq
    subst hq
    unfold freeS at h
    rw [hk, Bool.true_and] at h
    clear hx hk
    by_cases hv : v < 1
    · clear h
      go_enter Tryd.func28, Tryd.ntmps28
      go_wp2_with (go_at_call 18; refine hO.out.mono ?_; rintro e w1 ⟨A1, c1, rfl, hown, hb1⟩)
      go_ret2
      exact ⟨rfl, hb1⟩
    · have hv1 : (1 : Int) ≤ v := by omega
      rw [decide_eq_true hv1, Bool.true_and, decide_eq_false_iff_not] at h
      have hv0 : v ≠ 0 := by omega
      have hd : (k.tmod v != 0) = true := by
        rw [bne_iff_ne]
        intro e
        exact h (Int.emod_eq_zero_of_dvd (Int.dvd_of_tmod_eq_zero e))
      clear h
      go_enter Tryd.func28, Tryd.ntmps28
      go_wp2_with (go_at_call 18; refine hO.out.mono ?_; rintro e w1 ⟨A1, c1, rfl, hown, hb1⟩)
      go_ret2
      exact ⟨rfl, hb1⟩
  · have hk := Bool.eq_false_iff.2 hk
    rw [orderS_no hk] at hO
    clear h hk
    go_enter Tryd.func28, Tryd.ntmps28
    go_wp2_with (go_at_call 18; refine hO.out.mono ?_; rintro e w1 ⟨A1, c1, rfl, hown, hb1⟩)
    go_ret2
    exact ⟨rfl, hb1⟩
theorem freeS_ex {k v : Int} (h : freeS k v = true) : ∃ k' v' n : Nat, k = k' ∧ v = v' ∧ IsSize k' ∧ 1 ≤ v' ∧ k' = v' * n := by
  unfold freeS at h
  simp only [Bool.and_eq_true, decide_eq_true_eq] at h
  obtain ⟨m, rfl, hs⟩ := isB_ex h.1
  obtain ⟨u, rfl⟩ : ∃ u : Nat, v = u := ⟨v.toNat, by omega⟩
  have h2 : m % u = 0 := by
    have := h.2.2
    have e : (m : Int) % (u : Int) = ((m % u : Nat) : Int) := rfl
    omega
  refine ⟨m, u, m / u, rfl, rfl, hs, by omega, ?_⟩
  rw [Nat.mul_comm]
  exact (Nat.div_mul_cancel (Nat.dvd_of_mod_eq_zero h2)).symm
theorem refFree_any {k v : Int} {w : World} :
    Calls Tryd.prog 28 #[.int .i64 k, .int .i64 v] w fun e w' => e = .returned (.tuple #[.bool (freeS k v), .int .i64 (if freeS k v then 0 else 2)]) ∧ Below w.heap.size w w' := by
  by_cases h : freeS k v = true
  · rw [h]
    obtain ⟨k', v', n, rfl, rfl, hs, hv, hn⟩ := freeS_ex h
    exact refFree_yes hs hv hn
  · have h := Bool.eq_false_iff.2 h
    rw [h]
    exact refFree_no h
end Go.Proofs.YtfplklbicimhkaaDoor
