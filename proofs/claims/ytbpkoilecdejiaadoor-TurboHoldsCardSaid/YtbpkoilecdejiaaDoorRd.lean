/-
  The reference: common, Params. The reference: At, Order. The reference: Inverse, Interleave, Deinterleave. The reference's Free.
-/
import Derived.OwnWalk
import Derived.Test.YtbpkoilecdejiaaDoorPm
import Derived.Test.YtbpkoilecdejiaaDoorQ
import Derived.Test.YtbpkoilecdejiaaDoorSm
namespace Go.Proofs.YtbpkoilecdejiaaDoor
/-! ### The reference: common, Params. -/
section
open Go.RowKit

theorem gcd_step {x y : Nat} : Nat.gcd y (x % y) = Nat.gcd x y := by
  rw [Nat.gcd_comm x y, Nat.gcd_rec y x, Nat.gcd_comm]
set_option maxHeartbeats 1000000 in
theorem common_any {a b : Nat} {w : World} (ha : a ≤ 100000) (hb : b ≤ 100000) :
    Calls Tryd.prog 58 #[.int .i64 (a : Int), .int .i64 (b : Int)] w fun e w' => e = .returned (.int .i64 (Nat.gcd a b : Nat)) ∧ ∃ i, w' = w.drewN i := by
  go_enter Tryd.func58, Tryd.ntmps58
  go_wp2_with fail
  go_loopw [0, 1] (fun p q wr => ∃ x y j : Nat, x ≤ 100000 ∧ y ≤ 100000 ∧ p = .int .i64 (x : Int) ∧ q = .int .i64 (y : Int) ∧ Hid (Nat.gcd x y = Nat.gcd a b) ∧ wr = w.drewN j) (fun _ q _ => (intOf q).toNat)
  case atStart => exact ⟨a, b, 0, ha, hb, rfl, rfl, Lib.hid rfl, rfl⟩
  case round =>
    obtain ⟨x, y, j, hx, hy, rfl, rfl, hg, rfl⟩ := hrel
    by_cases h0 : y = 0
    · subst h0
      go_wp2_with fail
      go_ret
      exact ⟨ret_int (by rw [← hg.out, Nat.gcd_zero_right]), j, rfl⟩
    · have h1 : (0 : Int) < (y : Int) := by omega
      have hlt := Nat.mod_lt x (Nat.pos_of_ne_zero h0)
      have hm : (x : Int) % (y : Int) = ((x % y : Nat) : Int) := rfl
      have hG := Lib.hid ((gcd_step (x := x) (y := y)).trans hg.out)
      generalize x % y = z at *
      clear hg
      go_wp2_with fail
      go_quiet (fail)
      go_wp2_with fail
      go_roundw
      case rel => exact ⟨y, z, _, hy, by omega, rfl, by first | rfl | rw [hm], hG, by first | rfl | exact drewN_two' _ _ _⟩
      case measure => simp [intOf]; omega
theorem radF_ge : ∀ (fuel p left acc : Nat), 1 ≤ p → acc ≤ radF fuel p left acc
  | 0, _, _, _, _ => Nat.le_refl _
  | fuel + 1, p, left, acc, hp => by
    rw [radF]
    split
    · exact Nat.le_refl _
    · split
      · exact Nat.le_trans (Nat.le_mul_of_pos_right acc hp) (radF_ge fuel (p + 1) _ _ (by omega))
      · exact radF_ge fuel (p + 1) _ _ (by omega)
theorem size_le {k : Nat} (h : IsSize k) : 40 ≤ k ∧ k ≤ 6144 := by unfold IsSize at h; omega
theorem RadAt.acc_le {k p left acc : Nat} (h : RadAt k p left acc) (hs : IsSize k) : acc ≤ 6144 := by
  have h2 := (qpOk_size hs).le2
  have hk := size_le hs
  rcases Nat.lt_or_ge 1 left with h1 | h1
  · obtain ⟨fuel, e, _⟩ := h.eq h1
    have := radF_ge fuel p left acc (by have := h.p2; omega)
    omega
  · have := h.fin h1
    omega
theorem RadAt.left_le {k p left acc : Nat} (h : RadAt k p left acc) (hs : IsSize k) : left ≤ 6144 := by
  have hk := size_le hs
  have := Nat.le_of_dvd (by omega) h.dv
  omega
theorem isB_ex {k : Int} (h : isB k = true) : ∃ m : Nat, k = m ∧ IsSize m := by
  unfold isB at h
  rw [decide_eq_true_iff] at h
  exact ⟨k.toNat, by omega, h.2⟩
def parS (k : Int) : Int × Int × Int := if isB k then (((f1N k.toNat : Nat) : Int), ((f2N k.toNat : Nat) : Int), 0) else (0, 0, 2)
theorem parS_size {k : Nat} (h : IsSize k) : parS (k : Int) = (((f1N k : Nat) : Int), ((f2N k : Nat) : Int), 0) := by
  unfold parS
  rw [isB_nat, decide_eq_true h, if_pos rfl, Int.toNat_natCast]
theorem parS_no {k : Int} (h : isB k = false) : parS k = (0, 0, 2) := by unfold parS; rw [h]; rfl
set_option maxRecDepth 100000 in
set_option maxHeartbeats 4000000 in
theorem refParams_size {k : Nat} {w : World} (hs : IsSize k) :
    Calls Tryd.prog 43 #[.int .i64 (k : Int)] w fun e w' => e = .returned (.tuple #[.int .i64 (f1N k : Nat), .int .i64 (f2N k : Nat), .int .i64 0]) ∧ ∃ i, w' = w.drewN i := by
  have hv := Lib.hid (fun (u : World) => refValid_any (n := (k : Int)) (w := u))
  have hB : Hid (isB (k : Int) = true) := Lib.hid (by rw [isB_nat]; exact decide_eq_true hs)
  have hc := Lib.hid (fun (f : Nat) (h : f ≤ 100) (u : World) => common_any (a := f) (b := k) (w := u) (by omega) (by have := size_le hs; omega))
  have hk := size_le hs
  have hS := Lib.hid hs
  have hf1 : f1N k ≤ 64 := Nat.le_of_lt (qpOk_size hs).le1
  have HF1 := Lib.hid hf1
  have HF3 := Lib.hid (f1N_cop hs)
  clear hs hf1
  go_enter Tryd.func43, Tryd.ntmps43
  go_wp2_with (go_at_call 57; refine (hv.out _).mono ?_; rintro e w ⟨rfl, rfl⟩; rw [hB.out])
  go_loop [5, 6, 7] (fun a l p => ∃ p' left acc : Nat, p' ≤ 102 ∧ a = .int .i64 (acc : Int) ∧ l = .int .i64 (left : Int) ∧ p = .int .i64 (p' : Int) ∧ Hid (RadAt k p' left acc)) (fun _ _ p => 103 - (intOf p).toNat)
  case atStart => exact ⟨2, k, 1, by decide, rfl, rfl, rfl, Lib.hid (RadAt.start hS.out)⟩
  case round =>
    obtain ⟨p, left, acc, hp, rfl, rfl, rfl, hR⟩ := hrel
    have ha := hR.out.acc_le hS.out
    have hll := hR.out.left_le hS.out
    have hl0 := hR.out.l0
    have hp2 := hR.out.p2
    by_cases hl : 1 < left
    · have hst := hR.out.step hS.out hl
      have hplt := hR.out.p_lt hS.out hl
      have hmi : (left : Int) % (p : Int) = ((left % p : Nat) : Int) := rfl
      by_cases hm : left % p = 0
      · rw [if_pos hm] at hst
        rw [hm] at hmi
        have hmul : (acc : Int) * (p : Int) = ((acc * p : Nat) : Int) := rfl
        have ha2 := hst.acc_le hS.out
        generalize acc * p = acc2 at *
        have HST := Lib.hid hst
        clear hst hm hR
        go_wp2_with fail
        go_loop [6] (fun l => ∃ l2 : Nat, l = .int .i64 (l2 : Int) ∧ 0 < l2 ∧ l2 ≤ 6144 ∧ Hid (strip 13 p l2 = strip 13 p left)) (fun l => (intOf l).toNat)
        case atStart => exact ⟨left, rfl, by omega, by omega, Lib.hid rfl⟩
        case round =>
          obtain ⟨l2, rfl, h20, h2l, he⟩ := hrel
          have hmi2 : (l2 : Int) % (p : Int) = ((l2 % p : Nat) : Int) := rfl
          by_cases hm2 : l2 % p = 0
          · rw [hm2] at hmi2
            have hq : (l2 : Int) / (p : Int) = ((l2 / p : Nat) : Int) := rfl
            have e2 := Lib.hid ((strip_div hp2 h20 (by omega) hm2).symm.trans he.out)
            have l3 : 0 < l2 / p := Nat.div_pos (Nat.le_of_dvd h20 (Nat.dvd_of_mod_eq_zero hm2)) (by omega)
            have l4 : l2 / p < l2 := Nat.div_lt_self h20 (by omega)
            generalize l2 / p = l5 at *
            clear hm2 he
            go_wp2_with fail
            go_round
            case rel => exact ⟨l5, rfl, l3, by omega, e2⟩
            case measure => simp [intOf]; omega
          · have e2 := Lib.hid ((strip_no (fuel := 13) hm2).symm.trans he.out)
            have hne : ((l2 % p : Nat) : Int) ≠ 0 := by omega
            generalize l2 % p = r at *
            have HE2 := Lib.hid (e2.out ▸ HST.out : RadAt k (p + 1) l2 acc2)
            clear he e2 HST hm2
            go_wp2_with fail
            go_round
            case rel => exact ⟨p + 1, l2, acc2, by omega, rfl, rfl, by go_num, HE2⟩
            case measure => simp [intOf]; omega
      · rw [if_neg hm] at hst
        have hne : ((left % p : Nat) : Int) ≠ 0 := by omega
        rw [strip_no hm] at hst
        generalize left % p = r at *
        have HST := Lib.hid hst
        clear hst hm hR
        go_wp2_with fail
        go_loop [6] (fun l => l = .int .i64 (left : Int)) (fun l => (intOf l).toNat)
        case atStart => rfl
        case round =>
          obtain rfl := hrel
          go_wp2_with fail
          go_round
          case rel => exact ⟨p + 1, left, acc, by omega, rfl, rfl, by go_num, HST⟩
          case measure => simp [intOf]; omega
    · obtain rfl : left = 1 := by omega
      have hfin := Lib.hid (hR.out.fin (Nat.le_refl 1))
      clear hR
      go_wp2_with fail
      go_loopw [8] (fun f wr => ∃ f' j : Nat, f = .int .i64 (f' : Int) ∧ f' ≤ 64 ∧ Hid (f' % 2 = 1 ∧ 3 ≤ f' ∧ f' ≤ f1N k) ∧ wr = w.drewN j) (fun f _ => 100 - (intOf f).toNat)
      case atStart => exact ⟨3, 0, rfl, by decide, Lib.hid ⟨rfl, Nat.le_refl _, HF3.out.2⟩, rfl⟩
      case round =>
        obtain ⟨f, j, rfl, hf, hF, rfl⟩ := hrel
        have hcc := Lib.hid (hc.out f (by omega))
        by_cases hg : Nat.gcd f k = 1
        · have hfe := Lib.hid (f1N_found hS.out hF.out.2.1 hF.out.1 hF.out.2.2 hg)
          go_wp2_with (go_at_call 58; refine (hcc.out _).mono ?_; rintro e w1 ⟨rfl, i1, rfl⟩; rw [hg])
          go_ret3
          exact ⟨by rw [← hfe.out, ← hfin.out]; rfl, _, by first | rfl | exact drewN_two' _ _ _⟩
        · have hg0 : 0 < Nat.gcd f k := Nat.gcd_pos_of_pos_right _ (by omega)
          have hg1 : 1 < Nat.gcd f k := by omega
          have hnx := f1N_next hS.out hF.out.1 hF.out.2.2 hg1
          have HN : Hid ((f + 2) % 2 = 1 ∧ 3 ≤ f + 2 ∧ f + 2 ≤ f1N k) := Lib.hid ⟨by have := hF.out.1; omega, by have := hF.out.2.1; omega, hnx⟩
          have hf2 : f + 2 ≤ 64 := by have := HF1.out; omega
          have hgl : Nat.gcd f k ≤ 6144 := Nat.le_trans (Nat.le_of_dvd (by omega) (Nat.gcd_dvd_right f k)) hk.2
          generalize Nat.gcd f k = g at *
          clear hnx hg hg0 hF
          go_wp2_with (go_at_call 58; refine (hcc.out _).mono ?_; rintro e w1 ⟨rfl, i1, rfl⟩)
          go_roundw
          case rel => exact ⟨f + 2, _, by go_num, hf2, HN, by first | rfl | exact drewN_two' _ _ _⟩
          case measure => simp [intOf]; omega
theorem refParams_any {k : Int} {w : World} :
    Calls Tryd.prog 43 #[.int .i64 k] w fun e w' => e = .returned (.tuple #[.int .i64 (parS k).1, .int .i64 (parS k).2.1, .int .i64 (parS k).2.2]) ∧ ∃ i, w' = w.drewN i := by
  by_cases h : isB k = true
  · obtain ⟨m, rfl, hs⟩ := isB_ex h
    rw [parS_size hs]
    exact refParams_size hs
  · have h := Bool.eq_false_iff.2 h
    rw [parS_no h]
    go_enter Tryd.func43, Tryd.ntmps43
    go_wp2_with (go_at_call 57; refine refValid_any.mono ?_; rintro e w1 ⟨rfl, rfl⟩; rw [h])
    go_ret3
    exact ⟨rfl, 0, rfl⟩
end

/-! ### The reference: At, Order. -/
section
open Go.RowKit

/-- What one value of the reference costs: the steps, as they are reckoned. -/
structure PiR (k f1 f2 i a b c d p : Nat) : Prop where
  ha : (f1 : Int) * (i : Int) = (a : Int)
  hb : (f2 : Int) * (i : Int) = (b : Int)
  hc : (b : Int) % (k : Int) = (c : Int)
  hd : (c : Int) * (i : Int) = (d : Int)
  hp : ((a : Int) + (d : Int)) % (k : Int) = (p : Int)
  la : a ≤ 400000
  lb : b ≤ 40000000
  lc : c ≤ 6144
  ld : d ≤ 40000000
  lp : p < k
theorem piR {k i : Nat} (h : IsSize k) (hi : i < k) : ∃ a b c d, PiR k (f1N k) (f2N k) i a b c d (piN k (f1N k) (f2N k) i) := by
  have hk := size_le h
  have hq := qpOk_size h
  have h1 := hq.le1
  have h2 := hq.le2
  refine ⟨f1N k * i, f2N k * i, f2N k * i % k, f2N k * i % k * i, ⟨rfl, rfl, rfl, rfl, ?_, ?_, ?_, ?_, ?_, piN_lt hq i⟩⟩
  · rw [← piN_ref]; rfl
  · exact Nat.le_trans (Nat.mul_le_mul (Nat.le_of_lt h1) (Nat.le_of_lt (Nat.lt_of_lt_of_le hi hk.2))) (by decide)
  · exact Nat.le_trans (Nat.mul_le_mul (Nat.le_trans h2 hk.2) (Nat.le_of_lt (Nat.lt_of_lt_of_le hi hk.2))) (by decide)
  · exact Nat.le_trans (Nat.le_of_lt (Nat.mod_lt _ (by omega))) hk.2
  · exact Nat.le_trans (Nat.mul_le_mul (Nat.le_trans (Nat.le_of_lt (Nat.mod_lt _ (by omega))) hk.2) (Nat.le_of_lt (Nat.lt_of_lt_of_le hi hk.2))) (by decide)
/-- The order's first j elements, as integers. -/
def ordI (k j : Nat) : List Int := (List.range j).map fun i => ((piN k (f1N k) (f2N k) i : Nat) : Int)
theorem ordI_length (k j : Nat) : (ordI k j).length = j := by simp [ordI]
theorem ordI_succ (k j : Nat) : ordI k (j + 1) = ordI k j ++ [((piN k (f1N k) (f2N k) j : Nat) : Int)] := by simp [ordI, List.range_succ]
theorem ordI_get {k j i : Nat} (h : i < j) : (ordI k j)[i]?.getD 0 = ((piN k (f1N k) (f2N k) i : Nat) : Int) := by simp [ordI, h]
/-- append of one integer. -/
theorem ints_app {w wr : World} {n : Nat} {A : Option Addr} {c : Nat} {xs : List Int} (hO : wr.ownsRow w.heap.size 3 1 (.slice A n c) n (xs.map (Value.int .i64))) (hb : Below w.heap.size w wr) (hn : n < 100000) (x : Int) :
    ∃ A2 c2 w2, (Builtin.append_ #[36, 36] 36 #[.slice A n c, .slice (some ⟨wr.heap.size, 0, none⟩) 1 1]).run Tryd.prog (wr.alloc (.cells #[.int .i64 x] 3)) = .ok (.slice A2 (n + 1) c2) w2 ∧
      w2.ownsRow w.heap.size 3 1 (.slice A2 (n + 1) c2) (n + 1) ((xs ++ [x]).map (Value.int .i64)) ∧ Below w.heap.size w w2 := by
  obtain ⟨i0, hi, hz0, hz1, hz2⟩ := info_q Tryd.info_int
  obtain ⟨A2, c2, w2, h1, h2, h3⟩ := append_one_q (P := Tryd.prog) (q := .i64) (x := x) Tryd.underlying36 hi hz0 hz1 hz2 (by decide) hO (by omega) hb.size
  exact ⟨A2, c2, w2, h1, h2, (hb.alloc hb.size _).grown h3 (by simp; have := hb.size; omega) (fun k hk => (hO.lt k hk).1)⟩
/-- A function hands back a slice of integers of its own and a number. (q, T: the kind, the number of the element type.) -/
def RetQ (q : IntKind) (T : TypeId) (w : World) (r : List Int × Int) (e : Ending) (w' : World) : Prop :=
  ∃ A c, e = .returned (.tuple #[.slice A r.1.length c, .int .i64 r.2]) ∧ w'.ownsRow w.heap.size T 1 (.slice A r.1.length c) r.1.length (r.1.map (Value.int q)) ∧ Below w.heap.size w w'
theorem RetQ.nil_ {q : IntKind} {T : TypeId} {w w' : World} {k : Int} (hb : Below w.heap.size w w') : RetQ q T w ([], k) (.returned (.tuple #[.slice none 0 0, .int .i64 k])) w' := ⟨none, 0, rfl, by simpa using World.ownsRow_nil w' w.heap.size T 1, hb⟩
theorem RetQ.mk_ {q : IntKind} {T : TypeId} {w w' : World} {r : List Int} {A : Option Addr} {n c B : Nat} {k : Int} {e : Ending} (hlen : r.length = n) (hown : w'.ownsRow B T 1 (.slice A n c) n (r.map (Value.int q))) (hB : w.heap.size ≤ B) (hb : Below w.heap.size w w')
    (he : e = .returned (.tuple #[.slice A n c, .int .i64 k])) : RetQ q T w (r, k) e w' := by
  subst hlen
  exact ⟨A, c, he, hown.mono hB, hb⟩
def orderS (k : Int) : List Int × Int := if isB k then (ordI k.toNat k.toNat, 0) else ([], 2)
theorem orderS_size {k : Nat} (h : IsSize k) : orderS (k : Int) = (ordI k k, 0) := by
  unfold orderS
  rw [isB_nat, decide_eq_true h, if_pos rfl, Int.toNat_natCast]
theorem orderS_no {k : Int} (h : isB k = false) : orderS k = ([], 2) := by unfold orderS; rw [h]; rfl
set_option maxRecDepth 100000 in
set_option maxHeartbeats 4000000 in
theorem refOrder_any {k : Int} {w : World} :
    Calls Tryd.prog 29 #[.int .i64 k] w (RetQ .i64 3 w (orderS k)) := by
  by_cases h : isB k = true
  · obtain ⟨m, rfl, hs⟩ := isB_ex h
    rw [orderS_size hs]
    have hP := Lib.hid (refParams_size (w := w) hs)
    have hS := Lib.hid hs
    have hk := size_le hs
    have hk0 : (m : Int) ≠ 0 := by omega
    have hL := Lib.hid (ordI_length m m)
    clear h hs
    go_enter Tryd.func29, Tryd.ntmps29
    go_wp2_with (go_at_call 43; refine hP.out.mono ?_; rintro e w1 ⟨rfl, j, rfl⟩)
    have hb0 := below_drewN (Below.refl w.heap.size w) j
    go_loopw [7, 8] (fun s i wr => ∃ (t : Nat) (A : Option Addr) (c : Nat), t ≤ m ∧ i = .int .i64 (t : Int) ∧ s = .slice A t c ∧ Hid (wr.ownsRow w.heap.size 3 1 (.slice A t c) t ((ordI m t).map (Value.int .i64))) ∧ Hid (Below w.heap.size w wr)) (fun _ i _ => m - (intOf i).toNat)
    case atStart => exact ⟨0, none, 0, Nat.zero_le _, rfl, rfl, Lib.hid (by simpa [ordI] using World.ownsRow_nil (w.drewN j) w.heap.size 3 1), Lib.hid hb0⟩
    case round =>
      obtain ⟨t, A, c, ht, rfl, rfl, hO, hb⟩ := hrel
      by_cases hlt : t < m
      · obtain ⟨a, b, c', d, ha, hb', hc, hd, hp, la, lb, lc, ld, lp⟩ := piR hS.out hlt
        obtain ⟨A2, c2, w2, hrun, hO2, hb2⟩ := ints_app hO.out hb.out (by omega) ((piN m (f1N m) (f2N m) t : Nat) : Int)
        rw [← ordI_succ] at hO2
        have HR := Lib.hid hrun
        have HO2 := Lib.hid hO2
        have HB2 := Lib.hid hb2
        generalize f1N m = f1 at *
        generalize f2N m = f2 at *
        generalize piN m f1 f2 t = p at *
        clear hrun hO2 hb2 hO hb hP
        go_wp2_with (at_builtin; refine Lib.wpList_append_run _ rfl _ _ _ _ rfl _ _ rfl rfl _ _ HR.out ?_)
        go_roundw
        case rel => exact ⟨t + 1, A2, c2, by omega, by go_num, by first | rfl | simp, HO2, HB2⟩
        case measure => simp [intOf]; omega
      · obtain rfl : t = m := by omega
        clear hlt
        go_wp2_with fail
        go_ret2
        exact RetQ.mk_ hL.out hO.out (Nat.le_refl _) hb.out rfl
  · have h := Bool.eq_false_iff.2 h
    rw [orderS_no h]
    have hP := Lib.hid (refParams_any (k := k) (w := w))
    rw [parS_no h] at hP
    clear h
    go_enter Tryd.func29, Tryd.ntmps29
    go_wp2_with (go_at_call 43; refine hP.out.mono ?_; rintro e w1 ⟨rfl, j, rfl⟩)
    go_ret2
    exact RetQ.nil_ (below_drewN (Below.refl _ _) _)
end

/-! ### The reference: Inverse, Interleave, Deinterleave. -/
section
open Go.RowKit

theorem make_ints (n : Nat) (hn : n ≤ 1000000) (u : World) : (Instr.makeSlice 36 (.int .i64 n) (.int .i64 n)).run Tryd.prog u =
    .ok (.slice (some ⟨u.heap.size, 0, none⟩) n n) (u.alloc (.cells (madeCells #[.int .i64 0] n) 3)) := by
  obtain ⟨i0, hi, hz0, hz1, hz2⟩ := info_q Tryd.info_int
  have h := run_make (P := Tryd.prog) u 36 3 i0 (.int .i64 0) Tryd.underlying36 hi hz0 .i64 .i64 (n : Int) (n : Int) (by omega) (by omega) (by rw [hz2]; omega) (by omega)
  simpa [hz1, Value.cells] using h
theorem own_zeros_q {q : IntKind} {T : TypeId} {w : World} {B n : Nat} (hB : B ≤ w.heap.size) (hn : n ≤ 1000000) : (w.alloc (.cells (madeCells #[.int q 0] n) T)).ownsRow B T 1 (.slice (some ⟨w.heap.size, 0, none⟩) n n) n ((List.replicate n (0 : Int)).map (Value.int q)) := by
  refine ⟨by simp, .inr ⟨w.heap.size, n, madeCells #[.int q 0] n, rfl, hB, heap_alloc_new w _, Nat.le_refl _, by unfold maxLen; omega, by simp [madeCells], ?_⟩⟩
  rw [toList_madeCells_one, Nat.mul_one, List.take_replicate, List.map_replicate, Nat.min_self]
/-- A new row into which elements are put. -/
theorem putL_set {q : IntKind} {T : TypeId} {w : World} {B P n j : Nat} {f : Nat → Nat} {g : Nat → Int} (h : w.ownsRow B T 1 (.slice (some ⟨P, 0, none⟩) n n) n ((putL f g n j).map (Value.int q))) :
    (w.setCell ⟨P, f j, none⟩ (.int q (g j))).ownsRow B T 1 (.slice (some ⟨P, 0, none⟩) n n) n ((putL f g n (j + 1)).map (Value.int q)) := by
  rw [putL, List.map_set]
  exact (World.ownsRow.stored h (f j) (.int q (g j))).1
theorem putL_cell {q : IntKind} {T : TypeId} {w : World} {B P n j x : Nat} {f : Nat → Nat} {g : Nat → Int} (h : w.ownsRow B T 1 (.slice (some ⟨P, 0, none⟩) n n) n ((putL f g n j).map (Value.int q))) (hx : x < n) :
    ∃ v, w.cell? ⟨P, x, none⟩ = some (.int q v) := by
  rw [World.ownsRow.cellAt h x (by omega), List.getElem?_map, List.getElem?_eq_getElem (by rw [putL_length]; exact hx)]
  exact ⟨_, rfl⟩
def piK (k i : Nat) : Nat := piN k (f1N k) (f2N k) i
theorem piK_lt {k : Nat} (h : IsSize k) (i : Nat) : piK k i < k := piN_lt (qpOk_size h) i
theorem piK_inj {k : Nat} (h : IsSize k) : ∀ a b, a < k → b < k → piK k a = piK k b → a = b := fun _ _ ha hb e => piN_inj (qpOk_size h) ha hb e
theorem ordI_pi {k i : Nat} (h : i < k) : (ordI k k)[i]?.getD 0 = ((piK k i : Nat) : Int) := ordI_get h
/-- What is found where. -/
def invI (k j : Nat) : List Int := putL (piK k) (fun i => (i : Int)) k j
def interI (xs : List Int) : List Int := (List.range xs.length).map fun i => xs[piK xs.length i]?.getD 0
def deI (xs : List Int) (j : Nat) : List Int := putL (piK xs.length) (fun i => xs[i]?.getD 0) xs.length j
def invS (k : Int) : List Int × Int := if isB k then (invI k.toNat k.toNat, 0) else ([], 2)
def interS (xs : List Int) : List Int × Int := if isB xs.length then (interI xs, 0) else ([], 2)
def deS (xs : List Int) : List Int × Int := if isB xs.length then (deI xs xs.length, 0) else ([], 2)
theorem invS_size {k : Nat} (h : IsSize k) : invS (k : Int) = (invI k k, 0) := by
  unfold invS
  rw [isB_nat, decide_eq_true h, if_pos rfl, Int.toNat_natCast]
theorem invS_no {k : Int} (h : isB k = false) : invS k = ([], 2) := by unfold invS; rw [h]; rfl
theorem interS_size {xs : List Int} (h : IsSize xs.length) : interS xs = (interI xs, 0) := by
  unfold interS
  rw [isB_nat, decide_eq_true h, if_pos rfl]
theorem interS_no {xs : List Int} (h : isB xs.length = false) : interS xs = ([], 2) := by unfold interS; rw [h]; rfl
theorem deS_size {xs : List Int} (h : IsSize xs.length) : deS xs = (deI xs xs.length, 0) := by
  unfold deS
  rw [isB_nat, decide_eq_true h, if_pos rfl]
theorem deS_no {xs : List Int} (h : isB xs.length = false) : deS xs = ([], 2) := by unfold deS; rw [h]; rfl
/-- What the reference's functions on slices hand back. -/
def RdN (w : World) (r : List Int × Int) (e : Ending) (w' : World) : Prop := ∃ A c, e = .returned (.tuple #[.slice A r.1.length c, .int .i64 r.2]) ∧ Rd .i64 w' w'.heap.size A r.1.length r.1 ∧ Below w.heap.size w w'
theorem RdN.mk_ {w w' : World} {r : List Int} {A : Option Addr} {n c : Nat} {k : Int} {e : Ending} (hlen : r.length = n) (hR : Rd .i64 w' w'.heap.size A n r) (hb : Below w.heap.size w w') (he : e = .returned (.tuple #[.slice A n c, .int .i64 k])) : RdN w (r, k) e w' := by
  subst hlen
  exact ⟨A, c, he, hR, hb⟩
theorem interI_length (xs : List Int) : (interI xs).length = xs.length := by simp [interI]
theorem interI_snoc {xs : List Int} {t : Nat} (h : t < xs.length) : (interI xs).take (t + 1) = (interI xs).take t ++ [xs[piK xs.length t]?.getD 0] := by
  unfold interI
  rw [← List.map_take, ← List.map_take, List.take_range, List.take_range, Nat.min_eq_left (Nat.succ_le_of_lt h), Nat.min_eq_left (Nat.le_of_lt h), List.range_succ, List.map_append]
  rfl
end

/-! ### The reference's Free. -/
section
set_option maxRecDepth 100000
open Go.RowKit

def freeS (k v : Int) : Bool := isB k && (decide (1 ≤ v) && decide (k % v = 0))
/-- The window of the index that stands j windows behind i. -/
def winK (k n i j : Nat) : Nat := piK k (i + j * n) / n
theorem winK_lt {k v n i j : Nat} (h : IsSize k) (hn : k = v * n) (hn0 : 1 ≤ n) : winK k n i j < v := by
  unfold winK
  rw [Nat.div_lt_iff_lt_mul hn0, ← hn]
  exact piK_lt h _
theorem winK_inj {k v n i a b : Nat} (h : IsSize k) (hn : k = v * n) (hi : i < n) (ha : a < v) (hb : b < v) (e : winK k n i a = winK k n i b) : a = b :=
  piN_free (qpOk_size h) hn hi ha hb e
theorem freeS_ex {k v : Int} (h : freeS k v = true) : ∃ k' v' n : Nat, k = k' ∧ v = v' ∧ IsSize k' ∧ 1 ≤ v' ∧ k' = v' * n := by
  unfold freeS at h
  simp only [Bool.and_eq_true, decide_eq_true_eq] at h
  obtain ⟨m, rfl, hs⟩ := isB_ex h.1
  obtain ⟨u, rfl⟩ : ∃ u : Nat, v = u := ⟨v.toNat, by omega⟩
  have h2 : m % u = 0 := by
    have := h.2.2
    have e : (m : Int) % (u : Int) = ((m % u : Nat) : Int) := rfl
    omega
  refine ⟨m, u, m / u, rfl, rfl, hs, by omega, ?_⟩
  rw [Nat.mul_comm]
  exact (Nat.div_mul_cancel (Nat.dvd_of_mod_eq_zero h2)).symm
end
end Go.Proofs.YtbpkoilecdejiaaDoor
