/-
  The reference: common, Params.
-/
import Derived.OwnWalk
import Derived.Test.YtfplklbicimhkaaDoorQpM
import Derived.Test.YtfplklbicimhkaaDoorQ
import Derived.Test.YtfplklbicimhkaaDoorSm
namespace Go.Proofs.YtfplklbicimhkaaDoor
open Go.RowKit

theorem gcd_step {x y : Nat} : Nat.gcd y (x % y) = Nat.gcd x y := by
  rw [Nat.gcd_comm x y, Nat.gcd_rec y x, Nat.gcd_comm]
set_option maxHeartbeats 1000000 in
theorem common_any {a b : Nat} {w : World} (ha : a ≤ 100000) (hb : b ≤ 100000) :
    Calls Tryd.prog 31 #[.int .i64 (a : Int), .int .i64 (b : Int)] w fun e w' => e = .returned (.int .i64 (Nat.gcd a b : Nat)) ∧ ∃ i, w' = w.drewN i := by
  go_enter Tryd.func31, Tryd.ntmps31
  go_wp2_with fail
  go_loopw [0, 1] (fun p q wr => ∃ x y j : Nat, x ≤ 100000 ∧ y ≤ 100000 ∧ p = .int .i64 (x : Int) ∧ q = .int .i64 (y : Int) ∧ Hid (Nat.gcd x y = Nat.gcd a b) ∧ wr = w.drewN j) (fun _ q _ => (intOf q).toNat)
  case atStart => exact ⟨a, b, 0, ha, hb, rfl, rfl, Lib.hid rfl, rfl⟩
  case round =>
    obtain ⟨x, y, j, hx, hy, rfl, rfl, hg, rfl⟩ := hrel
    by_cases h0 : y = 0
    · subst h0
      go_wp2_with fail
      go_ret
      exact ⟨ret_int (by rw [← hg.out, Nat.gcd_zero_right]), j, rfl⟩
    · have h1 : (0 : Int) < (y : Int) := by omega
      have hlt := Nat.mod_lt x (Nat.pos_of_ne_zero h0)
      have hm : (x : Int) % (y : Int) = ((x % y : Nat) : Int) := rfl
      have hG := Lib.hid ((gcd_step (x := x) (y := y)).trans hg.out)
      generalize x % y = z at *
      clear hg
      go_wp2_with fail
      go_quiet (fail)
      go_wp2_with fail
      go_roundw
      case rel => exact ⟨y, z, _, hy, by omega, rfl, by first | rfl | rw [hm], hG, by first | rfl | exact drewN_two' _ _ _⟩
      case measure => simp [intOf]; omega
theorem radF_ge : ∀ (fuel p left acc : Nat), 1 ≤ p → acc ≤ radF fuel p left acc
  | 0, _, _, _, _ => Nat.le_refl _
  | fuel + 1, p, left, acc, hp => by
    rw [radF]
    split
    · exact Nat.le_refl _
    · split
      · exact Nat.le_trans (Nat.le_mul_of_pos_right acc hp) (radF_ge fuel (p + 1) _ _ (by omega))
      · exact radF_ge fuel (p + 1) _ _ (by omega)
theorem size_le {k : Nat} (h : IsSize k) : 40 ≤ k ∧ k ≤ 6144 := by unfold IsSize at h; omega
theorem RadAt.acc_le {k p left acc : Nat} (h : RadAt k p left acc) (hs : IsSize k) : acc ≤ 6144 := by
  have h2 := (qpOk_size hs).le2
  have hk := size_le hs
  rcases Nat.lt_or_ge 1 left with h1 | h1
  · obtain ⟨fuel, e, _⟩ := h.eq h1
    have := radF_ge fuel p left acc (by have := h.p2; omega)
    omega
  · have := h.fin h1
    omega
theorem RadAt.left_le {k p left acc : Nat} (h : RadAt k p left acc) (hs : IsSize k) : left ≤ 6144 := by
  have hk := size_le hs
  have := Nat.le_of_dvd (by omega) h.dv
  omega
theorem isB_ex {k : Int} (h : isB k = true) : ∃ m : Nat, k = m ∧ IsSize m := by
  unfold isB at h
  rw [decide_eq_true_iff] at h
  exact ⟨k.toNat, by omega, h.2⟩
def parS (k : Int) : Int × Int × Int := if isB k then (((f1N k.toNat : Nat) : Int), ((f2N k.toNat : Nat) : Int), 0) else (0, 0, 2)
theorem parS_size {k : Nat} (h : IsSize k) : parS (k : Int) = (((f1N k : Nat) : Int), ((f2N k : Nat) : Int), 0) := by
  unfold parS
  rw [isB_nat, decide_eq_true h, if_pos rfl, Int.toNat_natCast]
theorem parS_no {k : Int} (h : isB k = false) : parS k = (0, 0, 2) := by unfold parS; rw [h]; rfl
set_option maxRecDepth 100000 in
set_option maxHeartbeats 4000000 in
theorem refParams_size {k : Nat} {w : World} (hs : IsSize k) :
    Calls Tryd.prog 11 #[.int .i64 (k : Int)] w fun e w' => e = .returned (.tuple #[.int .i64 (f1N k : Nat), .int .i64 (f2N k : Nat), .int .i64 0]) ∧ ∃ i, w' = w.drewN i := by
  have hv := Lib.hid (fun (u : World) => refValid_any (n := (k : Int)) (w := u))
  have hB : Hid (isB (k : Int) = true) := Lib.hid (by rw [isB_nat]; exact decide_eq_true hs)
  have hc := Lib.hid (fun (f : Nat) (h : f ≤ 100) (u : World) => common_any (a := f) (b := k) (w := u) (by omega) (by have := size_le hs; omega))
  have hk := size_le hs
  have hS := Lib.hid hs
  have hf1 : f1N k ≤ 64 := Nat.le_of_lt (qpOk_size hs).le1
  have HF1 := Lib.hid hf1
  have HF3 := Lib.hid (f1N_cop hs)
  clear hs hf1
  go_enter Tryd.func11, Tryd.ntmps11
  go_wp2_with (go_at_call 29; refine (hv.out _).mono ?_; rintro e w ⟨rfl, rfl⟩; rw [hB.out])
  go_loop [5, 6, 7] (fun a l p => ∃ p' left acc : Nat, p' ≤ 102 ∧ a = .int .i64 (acc : Int) ∧ l = .int .i64 (left : Int) ∧ p = .int .i64 (p' : Int) ∧ Hid (RadAt k p' left acc)) (fun _ _ p => 103 - (intOf p).toNat)
  case atStart => exact ⟨2, k, 1, by decide, rfl, rfl, rfl, Lib.hid (RadAt.start hS.out)⟩
  case round =>
    obtain ⟨p, left, acc, hp, rfl, rfl, rfl, hR⟩ := hrel
    have ha := hR.out.acc_le hS.out
    have hll := hR.out.left_le hS.out
    have hl0 := hR.out.l0
    have hp2 := hR.out.p2
    by_cases hl : 1 < left
    · have hst := hR.out.step hS.out hl
      have hplt := hR.out.p_lt hS.out hl
      have hmi : (left : Int) % (p : Int) = ((left % p : Nat) : Int) := rfl
      by_cases hm : left % p = 0
      · rw [if_pos hm] at hst
        rw [hm] at hmi
        have hmul : (acc : Int) * (p : Int) = ((acc * p : Nat) : Int) := rfl
        have ha2 := hst.acc_le hS.out
        generalize acc * p = acc2 at *
        have HST := Lib.hid hst
        clear hst hm hR
        go_wp2_with fail
        go_loop [6] (fun l => ∃ l2 : Nat, l = .int .i64 (l2 : Int) ∧ 0 < l2 ∧ l2 ≤ 6144 ∧ Hid (strip 13 p l2 = strip 13 p left)) (fun l => (intOf l).toNat)
        case atStart => exact ⟨left, rfl, by omega, by omega, Lib.hid rfl⟩
        case round =>
          obtain ⟨l2, rfl, h20, h2l, he⟩ := hrel
          have hmi2 : (l2 : Int) % (p : Int) = ((l2 % p : Nat) : Int) := rfl
          by_cases hm2 : l2 % p = 0
          · rw [hm2] at hmi2
            have hq : (l2 : Int) / (p : Int) = ((l2 / p : Nat) : Int) := rfl
            have e2 := Lib.hid ((strip_div hp2 h20 (by omega) hm2).symm.trans he.out)
            have l3 : 0 < l2 / p := Nat.div_pos (Nat.le_of_dvd h20 (Nat.dvd_of_mod_eq_zero hm2)) (by omega)
            have l4 : l2 / p < l2 := Nat.div_lt_self h20 (by omega)
            generalize l2 / p = l5 at *
            clear hm2 he
            go_wp2_with fail
            go_round
            case rel => exact ⟨l5, rfl, l3, by omega, e2⟩
            case measure => simp [intOf]; omega
          · have e2 := Lib.hid ((strip_no (fuel := 13) hm2).symm.trans he.out)
            have hne : ((l2 % p : Nat) : Int) ≠ 0 := by omega
            generalize l2 % p = r at *
            have HE2 := Lib.hid (e2.out ▸ HST.out : RadAt k (p + 1) l2 acc2)
            clear he e2 HST hm2
            go_wp2_with fail
            go_round
            case rel => exact ⟨p + 1, l2, acc2, by omega, rfl, rfl, by go_num, HE2⟩
            case measure => simp [intOf]; omega
      · rw [if_neg hm] at hst
        have hne : ((left % p : Nat) : Int) ≠ 0 := by omega
        rw [strip_no hm] at hst
        generalize left % p = r at *
        have HST := Lib.hid hst
        clear hst hm hR
        go_wp2_with fail
        go_loop [6] (fun l => l = .int .i64 (left : Int)) (fun l => (intOf l).toNat)
        case atStart => rfl
        case round =>
          obtain rfl := hrel
          go_wp2_with fail
          go_round
          case rel => exact ⟨p + 1, left, acc, by omega, rfl, rfl, by go_num, HST⟩
          case measure => simp [intOf]; omega
    · obtain rfl : left = 1 := by omega
      have hfin := Lib.hid (hR.out.fin (Nat.le_refl 1))
      clear hR
      go_wp2_with fail
      go_loopw [8] (fun f wr => ∃ f' j : Nat, f = .int .i64 (f' : Int) ∧ f' ≤ 64 ∧ Hid (f' % 2 = 1 ∧ 3 ≤ f' ∧ f' ≤ f1N k) ∧ wr = w.drewN j) (fun f _ => 100 - (intOf f).toNat)
      case atStart => exact ⟨3, 0, rfl, by decide, Lib.hid ⟨rfl, Nat.le_refl _, HF3.out.2⟩, rfl⟩
      case round =>
        obtain ⟨f, j, rfl, hf, hF, rfl⟩ := hrel
        have hcc := Lib.hid (hc.out f (by omega))
        by_cases hg : Nat.gcd f k = 1
        · have hfe := Lib.hid (f1N_found hS.out hF.out.2.1 hF.out.1 hF.out.2.2 hg)
          go_wp2_with (go_at_call 31; refine (hcc.out _).mono ?_; rintro e w1 ⟨rfl, i1, rfl⟩; rw [hg])
          go_ret3
          exact ⟨by rw [← hfe.out, ← hfin.out]; rfl, _, by first | rfl | exact drewN_two' _ _ _⟩
        · have hg0 : 0 < Nat.gcd f k := Nat.gcd_pos_of_pos_right _ (by omega)
          have hg1 : 1 < Nat.gcd f k := by omega
          have hnx := f1N_next hS.out hF.out.1 hF.out.2.2 hg1
          have HN : Hid ((f + 2) % 2 = 1 ∧ 3 ≤ f + 2 ∧ f + 2 ≤ f1N k) := Lib.hid ⟨by have := hF.out.1; omega, by have := hF.out.2.1; omega, hnx⟩
          have hf2 : f + 2 ≤ 64 := by have := HF1.out; omega
          have hgl : Nat.gcd f k ≤ 6144 := Nat.le_trans (Nat.le_of_dvd (by omega) (Nat.gcd_dvd_right f k)) hk.2
          generalize Nat.gcd f k = g at *
          clear hnx hg hg0 hF
          go_wp2_with (go_at_call 31; refine (hcc.out _).mono ?_; rintro e w1 ⟨rfl, i1, rfl⟩)
          go_roundw
          case rel => exact ⟨f + 2, _, by go_num, hf2, HN, by first | rfl | exact drewN_two' _ _ _⟩
          case measure => simp [intOf]; omega
theorem refParams_any {k : Int} {w : World} :
    Calls Tryd.prog 11 #[.int .i64 k] w fun e w' => e = .returned (.tuple #[.int .i64 (parS k).1, .int .i64 (parS k).2.1, .int .i64 (parS k).2.2]) ∧ ∃ i, w' = w.drewN i := by
  by_cases h : isB k = true
  · obtain ⟨m, rfl, hs⟩ := isB_ex h
    rw [parS_size hs]
    exact refParams_size hs
  · have h := Bool.eq_false_iff.2 h
    rw [parS_no h]
    go_enter Tryd.func11, Tryd.ntmps11
    go_wp2_with (go_at_call 29; refine refValid_any.mono ?_; rintro e w1 ⟨rfl, rfl⟩; rw [h])
    go_ret3
    exact ⟨rfl, 0, rfl⟩
end Go.Proofs.YtfplklbicimhkaaDoor
