/-
  The reference's Least, Compare; the law's num, same, is.
-/
import Derived.Test.YtoegamlpgenfcaaDoorRg
import Derived.Test.YtoegamlpgenfcaaDoorSg
namespace Go.Proofs.YtoegamlpgenfcaaDoor
open Go.RowKit Go.Shelf

set_option maxHeartbeats 4000000 in
theorem refCompare_any {A A2 : Option Addr} {n c n2 c2 : Nat} {xs bs : List Int} {w : World} (h : Rd .i64 w w.heap.size A n xs) (h2 : Rd .u8 w w.heap.size A2 n2 bs) (hn : n ≤ 100000) (hn2 : n2 ≤ 100000000) (hB : Byte bs) :
    Calls Tryd.prog 28 #[.slice A n c, .slice A2 n2 c2] w fun e w' => e = .returned (.tuple #[.int .i64 (((compareS xs bs).1.1 : Nat) : Int), .int .i64 (((compareS xs bs).1.2 : Nat) : Int), .int .i64 (compareS xs bs).2]) ∧ Below w.heap.size w w' := by
  have hV := Lib.hid (refValid_any (c := c) h (by omega))
  have hV2 := Lib.hid (refBinary_any (c := c2) h2 (by omega))
  have hl := Lib.hid h
  have hl2 := Lib.hid h2
  have hls := h.len
  have hls2 := h2.len
  have hn' : (n : Int) ≤ 100000 := by omega
  unfold compareS
  rw [hls, hls2]
  by_cases hs : (softB xs && decide (n = n2)) = true
  · rw [if_pos hs]
    rw [Bool.and_eq_true, decide_eq_true_eq] at hs
    obtain ⟨hs, rfl⟩ := hs
    rw [hs] at hV
    by_cases hv : validB bs = true
    · rw [if_pos hv]
      have hbit := Lib.hid (valid_bit hB hv)
      rw [hv] at hV2
      clear h h2 hs hls hls2 hv hB
      go_enter Tryd.func28, Tryd.ntmps28
      go_wp2_with (first | (go_at_call 55; refine hV.out.mono ?_; rintro e w ⟨rfl, rfl⟩) | (go_at_call 56; refine hV2.out.mono ?_; rintro e w ⟨rfl, rfl⟩) | fail)
      go_loopw [7, 8, 9] (fun x y i wr => ∃ j m : Nat, j ≤ n ∧ i = .int .i64 (j : Int) ∧ x = .int .i64 ((wrongN xs bs j : Nat) : Int) ∧ y = .int .i64 ((unkN xs j : Nat) : Int) ∧ wr = w.drewN m) (fun x y i _ => n - (intOf i).toNat)
      case atStart => exact ⟨0, 0, Nat.zero_le _, rfl, rfl, rfl, rfl⟩
      case round =>
        obtain ⟨j, m, hj, rfl, rfl, rfl, rfl⟩ := hrel
        by_cases hjn : j < n
        · have hz : (j : Int) < (n : Int) := by omega
          have hz0 : (0 : Int) ≤ (j : Int) := by omega
          obtain ⟨b, off, rfl, _, hc⟩ := hl.out.cells j hjn
          obtain ⟨b2, off2, rfl, _, hc2⟩ := hl2.out.cells j hjn
          have e1 := wrongN_succ xs bs j
          have e2 := unkN_succ xs j
          have hbt := hbit.out j
          have l1 := wrongN_le xs bs j
          have l2 := unkN_le xs j
          generalize xs[j]?.getD 0 = x at *
          generalize bs[j]?.getD 0 = y at *
          have E1 := Lib.hid e1; have E2 := Lib.hid e2
          clear e1 e2
          obtain ⟨p, hp⟩ : ∃ p : Nat, wrongN xs bs j = p := ⟨_, rfl⟩
          obtain ⟨q, hq⟩ : ∃ q : Nat, unkN xs j = q := ⟨_, rfl⟩
          rw [hp] at E1 l1 ⊢
          rw [hq] at E2 l2 ⊢
          have p0 : (0 : Int) ≤ (p : Int) ∧ (p : Int) ≤ 100000 := by omega
          have q0 : (0 : Int) ≤ (q : Int) ∧ (q : Int) ≤ 100000 := by omega
          obtain ⟨p0, p1⟩ := p0
          obtain ⟨q0, q1⟩ := q0
          have d1 : World.cell? (w.drewN m) ⟨b, off + j, none⟩ = some (.int .i64 x) := hc
          have d2 : World.cell? (w.drewN m) ⟨b2, off2 + j, none⟩ = some (.int .u8 y) := hc2
          have d3 : World.cell? (w.drewN (m + 1)) ⟨b, off + j, none⟩ = some (.int .i64 x) := hc
          have d4 : World.cell? (w.drewN (m + 1)) ⟨b2, off2 + j, none⟩ = some (.int .u8 y) := hc2
          clear hp hq
          by_cases hx : x = 0
          · subst hx
            have F1 : Hid (wrongN xs bs (j + 1) = p) := Lib.hid (by rw [E1.out, wr1_zero]; rfl)
            have F2 : Hid (unkN xs (j + 1) = q + 1) := Lib.hid (by rw [E2.out, if_pos rfl])
            clear E1 E2
            go_wp2_with fail
            go_roundw
            case rel => exact ⟨j + 1, m, by omega, by go_num, by rw [F1.out], by rw [F2.out]; go_num, rfl⟩
            case measure => simp [intOf]; omega
          · have hx0 : (x == 0) = false := by simpa using hx
            have F2 : Hid (unkN xs (j + 1) = q) := Lib.hid (by rw [E2.out, if_neg hx, Nat.add_zero])
            cases hw : wr1 x y
            · have F1 : Hid (wrongN xs bs (j + 1) = p) := Lib.hid (by rw [E1.out, hw]; rfl)
              have hd0 : (decide (x < 0) != (y == 1)) = false := by
                unfold wr1 at hw
                rw [decide_eq_true hx, Bool.true_and] at hw
                rcases hbt with rfl | rfl <;> simpa using hw
              have hd : (!(decide (x < 0) == (y == 1))) = false := hd0
              clear E1 E2 hw hd0
              go_wp2_with fail
              go_quiet (fail)
              go_wp2_with fail
              go_roundw
              case rel => exact ⟨j + 1, _, by omega, by go_num, by rw [F1.out], by rw [F2.out], by first | rfl | exact drewN_two _ _ _⟩
              case measure => simp [intOf]; omega
            · have F1 : Hid (wrongN xs bs (j + 1) = p + 1) := Lib.hid (by rw [E1.out, hw]; rfl)
              have hd0 : (decide (x < 0) != (y == 1)) = true := by
                unfold wr1 at hw
                rw [decide_eq_true hx, Bool.true_and] at hw
                rcases hbt with rfl | rfl <;> simpa using hw
              have hd : (!(decide (x < 0) == (y == 1))) = true := hd0
              clear E1 E2 hw hd0
              go_wp2_with fail
              go_quiet (fail)
              go_wp2_with fail
              go_roundw
              case rel => exact ⟨j + 1, _, by omega, by go_num, by rw [F1.out]; go_num, by rw [F2.out], by first | rfl | exact drewN_two _ _ _⟩
              case measure => simp [intOf]; omega
        · obtain rfl : j = n := by omega
          go_wp2_with fail
          refine bodyPost_ret (results_tmp3 rfl _ _ _) rfl ?_
          exact ⟨rfl, below_drewN (Below.refl _ _) _⟩
    · rw [if_neg hv]
      rw [Bool.eq_false_iff.2 hv] at hV2
      clear h h2 hs hls hls2 hv hB hl hl2
      go_enter Tryd.func28, Tryd.ntmps28
      go_wp2_with (first | (go_at_call 55; refine hV.out.mono ?_; rintro e w ⟨rfl, rfl⟩) | (go_at_call 56; refine hV2.out.mono ?_; rintro e w ⟨rfl, rfl⟩) | fail)
      refine bodyPost_ret (results_tmp3 rfl _ _ _) rfl ?_
      exact ⟨rfl, Below.refl _ _⟩
  · rw [if_neg hs]
    have hc : softB xs = false ∨ (softB xs = true ∧ n ≠ n2) := by
      cases hx : softB xs
      · exact .inl rfl
      · rw [hx] at hs
        exact .inr ⟨rfl, by simpa using hs⟩
    clear h h2 hs hls hls2 hB hl hl2 hV2
    rcases hc with hx | ⟨hx, hne⟩
    · rw [hx] at hV
      clear hx
      go_enter Tryd.func28, Tryd.ntmps28
      go_wp2_with (first | (refine hV.out.mono ?_; rintro e w ⟨rfl, rfl⟩) | fail)
      refine bodyPost_ret (results_tmp3 rfl _ _ _) rfl ?_
      exact ⟨rfl, Below.refl _ _⟩
    · rw [hx] at hV
      have hne' : ((n : Int) != (n2 : Int)) = true := by simp; omega
      clear hx hne
      go_enter Tryd.func28, Tryd.ntmps28
      go_wp2_with (first | (refine hV.out.mono ?_; rintro e w ⟨rfl, rfl⟩) | fail)
      refine bodyPost_ret (results_tmp3 rfl _ _ _) rfl ?_
      exact ⟨rfl, Below.refl _ _⟩
end Go.Proofs.YtoegamlpgenfcaaDoor
