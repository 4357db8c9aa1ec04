/-
  The reference's Sum, Scale, Hard, Ideal (made by tools/genRg11.py).
-/
import Derived.Test.YtkkombhpiagngaaDoorRf
namespace Go.Proofs.YtkkombhpiagngaaDoor
open Go.RowKit Go.Shelf

def seqL (f : Nat → Int) (j : Nat) : List Int := (List.range j).map f
theorem seqL_succ (f : Nat → Int) (j : Nat) : seqL f (j + 1) = seqL f j ++ [f j] := by unfold seqL; rw [List.range_succ, List.map_append]; rfl
theorem seqL_length (f : Nat → Int) (j : Nat) : (seqL f j).length = j := by simp [seqL]
theorem hardI_seq {l : List Int} {n : Nat} (h : l.length = n) : hardI l = seqL (fun j => hardE (l[j]?.getD 0)) n := by subst h; unfold hardI seqL; rw [map_range]
theorem scaleI_seq {l : List Int} {n : Nat} {p q : Int} (h : l.length = n) : scaleI p q l = seqL (fun j => scaleE p q (l[j]?.getD 0)) n := by subst h; unfold scaleI seqL; rw [map_range]
theorem idealI_seq {l : List Int} {n : Nat} {m : Int} (h : l.length = n) : idealI m l = seqL (fun j => idealE m (l[j]?.getD 0)) n := by subst h; unfold idealI seqL; rw [map_range]
theorem sumI_seq {l b : List Int} {n : Nat} (h : l.length = n) : sumI l b = seqL (fun j => addI (l[j]?.getD 0) (b[j]?.getD 0)) n := by subst h; rfl
/-- append of one byte. -/
theorem bytes_app {w wr : World} {n : Nat} {A : Option Addr} {c : Nat} {xs : List Int} (hO : wr.ownsRow w.heap.size 5 1 (.slice A n c) n (xs.map (Value.int .u8))) (hb : Below w.heap.size w wr) (hn : n < 1000000) (x : Int) :
    ∃ A2 c2 w2, (Builtin.append_ #[38, 38] 38 #[.slice A n c, .slice (some ⟨wr.heap.size, 0, none⟩) 1 1]).run Tryd.prog (wr.alloc (.cells #[.int .u8 x] 5)) = .ok (.slice A2 (n + 1) c2) w2 ∧
      w2.ownsRow w.heap.size 5 1 (.slice A2 (n + 1) c2) (n + 1) ((xs ++ [x]).map (Value.int .u8)) ∧ Below w.heap.size w w2 := by
  obtain ⟨i0, hi, hz0, hz1, hz2⟩ := info_q Tryd.info_u8
  obtain ⟨A2, c2, w2, h1, h2, h3⟩ := append_one_q (P := Tryd.prog) (q := .u8) (x := x) Tryd.underlying38 hi hz0 hz1 hz2 (by decide) hO hn hb.size
  exact ⟨A2, c2, w2, h1, h2, (hb.alloc hb.size _).grown h3 (by simp; have := hb.size; omega) (fun k hk => (hO.lt k hk).1)⟩
set_option maxHeartbeats 4000000 in
theorem refHard_any {A : Option Addr} {n c : Nat} {xs : List Int} {w : World} (h : Rd .i64 w w.heap.size A n xs) (hn : n ≤ 100000) :
    Calls Tryd.prog 24 #[.slice A n c] w (RetQ .u8 5 w (hardS xs)) := by
  have hV := Lib.hid (refValid_any (c := c) h (by omega))
  have hl := Lib.hid h
  have hls := h.len
  have hn' : (n : Int) ≤ 100000 := by omega
  unfold hardS
  by_cases hs : softB xs = true
  · rw [if_pos hs]
    rw [hs] at hV
    obtain ⟨f, hf⟩ : ∃ f : Nat → Int, (fun j => hardE (xs[j]?.getD 0)) = f := ⟨_, rfl⟩
    have hr := hardI_seq hls
    rw [hf] at hr
    have hf' := Lib.hid (fun j => congrFun hf j)
    obtain ⟨res, hres⟩ : ∃ res, hardI xs = res := ⟨_, rfl⟩
    rw [hres] at hr ⊢
    have HR := Lib.hid hr
    clear h hs hf hr hres hls
    go_enter Tryd.func24, Tryd.ntmps24
    go_wp2_with (refine hV.out.mono ?_; rintro e w ⟨rfl, rfl⟩)
    go_loopw [4, 5] (fun o i wr => ∃ (j : Nat) (A' : Option Addr) (c' : Nat), j ≤ n ∧ i = .int .i64 (j : Int) ∧ o = .slice A' j c' ∧ Hid (wr.ownsRow w.heap.size 5 1 (.slice A' j c') j ((seqL f j).map (Value.int .u8))) ∧ Hid (Below w.heap.size w wr)) (fun o i _ => n - (intOf i).toNat)
    case atStart => exact ⟨0, none, 0, Nat.zero_le _, rfl, rfl, Lib.hid (by simpa [seqL] using World.ownsRow_nil w w.heap.size 5 1), Lib.hid (Below.refl _ _)⟩
    case round =>
      obtain ⟨j, A', c', hj, rfl, rfl, hO, hb⟩ := hrel
      by_cases hlt : j < n
      · have hz : (j : Int) < (n : Int) := by omega
        have hz0 : (0 : Int) ≤ (j : Int) := by omega
        obtain ⟨b, off, rfl, hbl, hc0⟩ := hl.out.cells j hlt
        have hc := (hb.out.cell (p := ⟨b, off + j, none⟩) hbl).trans hc0
        obtain ⟨A2, c2, w2, hrun, hO2, hb2⟩ := bytes_app hO.out hb.out (by omega) (f j)
        rw [← seqL_succ] at hO2
        have hfj := hf'.out j
        try dsimp only at hfj
        unfold hardE at hfj
        have HO2 := Lib.hid hO2
        have HB2 := Lib.hid hb2
        generalize xs[j]?.getD 0 = x at *
        generalize f j = y at *
        clear hO hb hc0 hbl hO2 hb2
        by_cases hx : x < 0
        · rw [if_pos hx] at hfj
          subst hfj
          have HRn := Lib.hid hrun
          clear hrun
          go_wp2_with (at_builtin; refine Lib.wpList_append_run _ rfl _ _ _ _ rfl _ _ rfl rfl _ _ HRn.out ?_)
          go_roundw
          case rel => exact ⟨j + 1, A2, c2, by omega, by go_num, rfl, HO2, HB2⟩
          case measure => simp [intOf]; omega
        · rw [if_neg hx] at hfj
          subst hfj
          have HRn := Lib.hid hrun
          clear hrun
          go_wp2_with (at_builtin; refine Lib.wpList_append_run _ rfl _ _ _ _ rfl _ _ rfl rfl _ _ HRn.out ?_)
          go_roundw
          case rel => exact ⟨j + 1, A2, c2, by omega, by go_num, rfl, HO2, HB2⟩
          case measure => simp [intOf]; omega

      · obtain rfl : j = n := by omega
        clear hlt
        go_wp2_with fail
        go_ret2
        exact RetQ.mk_ (by rw [HR.out]; exact seqL_length f _) (by rw [HR.out]; exact hO.out) (Nat.le_refl _) hb.out rfl
  · rw [if_neg hs]
    rw [Bool.eq_false_iff.2 hs] at hV
    clear h hs hl
    go_enter Tryd.func24, Tryd.ntmps24
    go_wp2_with (refine hV.out.mono ?_; rintro e w ⟨rfl, rfl⟩)
    go_ret2
    exact RetQ.nil_ (Below.refl _ _)
set_option maxHeartbeats 4000000 in
theorem refScale_any {A : Option Addr} {n c : Nat} {p q : Int} {xs : List Int} {w : World} (h : Rd .i64 w w.heap.size A n xs) (hn : n ≤ 100000) :
    Calls Tryd.prog 22 #[.slice A n c, .int .i64 p, .int .i64 q] w (RetQ .i64 3 w (scaleS xs p q)) := by
  have hV := Lib.hid (refValid_any (c := c) h (by omega))
  have hl := Lib.hid h
  have hls := h.len
  have hn' : (n : Int) ≤ 100000 := by omega
  unfold scaleS
  by_cases hs : (softB xs && (decide (0 ≤ p) && decide (p ≤ 1073741824)) && (decide (1 ≤ q) && decide (q ≤ 1073741824))) = true
  · rw [if_pos hs]
    simp only [Bool.and_eq_true, decide_eq_true_eq] at hs
    obtain ⟨⟨hs, p0, p1⟩, q0, q1⟩ := hs
    rw [hs] at hV
    have hrange := Lib.hid (softB_at hs)
    obtain ⟨f, hf⟩ : ∃ f : Nat → Int, (fun j => scaleE p q (xs[j]?.getD 0)) = f := ⟨_, rfl⟩
    have hr := scaleI_seq (p := p) (q := q) hls
    rw [hf] at hr
    have hf' := Lib.hid (fun j => congrFun hf j)
    obtain ⟨res, hres⟩ : ∃ res, scaleI p q xs = res := ⟨_, rfl⟩
    rw [hres] at hr ⊢
    have HR := Lib.hid hr
    have hne : (q == 0) = false := by simp; omega
    have hne2 : q ≠ 0 := by omega
    have p0' : ¬ (p < 0) := by omega
    have p1' : ¬ (1073741824 < p) := by omega
    have q0' : ¬ (q < 1) := by omega
    have q1' : ¬ (1073741824 < q) := by omega
    clear h hs hf hr hres hls
    go_enter Tryd.func22, Tryd.ntmps22
    go_wp2_with (refine hV.out.mono ?_; rintro e w ⟨rfl, rfl⟩)
    go_loopw [8, 9] (fun o i wr => ∃ (j : Nat) (A' : Option Addr) (c' : Nat), j ≤ n ∧ i = .int .i64 (j : Int) ∧ o = .slice A' j c' ∧ Hid (wr.ownsRow w.heap.size 3 1 (.slice A' j c') j ((seqL f j).map (Value.int .i64))) ∧ Hid (Below w.heap.size w wr)) (fun o i _ => n - (intOf i).toNat)
    case atStart => exact ⟨0, none, 0, Nat.zero_le _, rfl, rfl, Lib.hid (by simpa [seqL] using World.ownsRow_nil w w.heap.size 3 1), Lib.hid (Below.refl _ _)⟩
    case round =>
      obtain ⟨j, A', c', hj, rfl, rfl, hO, hb⟩ := hrel
      by_cases hlt : j < n
      · have hz : (j : Int) < (n : Int) := by omega
        have hz0 : (0 : Int) ≤ (j : Int) := by omega
        obtain ⟨b, off, rfl, hbl, hc0⟩ := hl.out.cells j hlt
        have hc := (hb.out.cell (p := ⟨b, off + j, none⟩) hbl).trans hc0
        obtain ⟨A2, c2, w2, hrun, hO2, hb2⟩ := ints_app' hO.out hb.out (by omega) (f j)
        rw [← seqL_succ] at hO2
        have hfj := hf'.out j
        try dsimp only at hfj
        have hC := Lib.hid (refClamp_any (v := (xs[j]?.getD 0 * p).tdiv q) (w := wr))
        rw [show clampI ((xs[j]?.getD 0 * p).tdiv q) = f j from hfj] at hC
        have hrg := hrange.out j
        have HO2 := Lib.hid hO2
        have HB2 := Lib.hid hb2
        generalize xs[j]?.getD 0 = x at *
        generalize f j = y at *
        have s1 : -136365211648 ≤ x * p ∧ x * p ≤ 136365211648 := by
          have := Int.mul_le_mul_of_nonneg_right hrg.2 p0
          have := Int.mul_le_mul_of_nonneg_right hrg.1 p0
          constructor <;> omega
        obtain ⟨s1, s2⟩ := s1
        obtain ⟨t, ht⟩ : ∃ t, x * p = t := ⟨_, rfl⟩
        rw [ht] at s1 s2 hC
        have s3 : -136365211648 ≤ t.tdiv q ∧ t.tdiv q ≤ 136365211648 := by
          have h1 : (t.tdiv q).natAbs ≤ t.natAbs := Int.natAbs_tdiv_le_natAbs t q
          omega
        obtain ⟨s3, s4⟩ := s3
        obtain ⟨r, hr⟩ : ∃ r, t.tdiv q = r := ⟨_, rfl⟩
        rw [hr] at s3 s4 hC
        have HRn := Lib.hid hrun
        clear hrun hO hb hc0 hbl hO2 hb2 hrg hfj
        go_wp2_with (first | (at_builtin; refine Lib.wpList_append_run _ rfl _ _ _ _ rfl _ _ rfl rfl _ _ HRn.out ?_) | (go_at_call 11; refine hC.out.mono ?_; rintro e w3 ⟨rfl, rfl⟩) | fail)
        go_roundw
        case rel => exact ⟨j + 1, A2, c2, by omega, by go_num, rfl, HO2, HB2⟩
        case measure => simp [intOf]; omega

      · obtain rfl : j = n := by omega
        clear hlt
        go_wp2_with fail
        go_ret2
        exact RetQ.mk_ (by rw [HR.out]; exact seqL_length f _) (by rw [HR.out]; exact hO.out) (Nat.le_refl _) hb.out rfl
  · rw [if_neg hs]
    have hc : softB xs = false ∨ (softB xs = true ∧ p < 0) ∨ (softB xs = true ∧ ¬ (p < 0) ∧ 1073741824 < p) ∨ (softB xs = true ∧ ¬ (p < 0) ∧ ¬ (1073741824 < p) ∧ q < 1) ∨ (softB xs = true ∧ ¬ (p < 0) ∧ ¬ (1073741824 < p) ∧ ¬ (q < 1) ∧ 1073741824 < q) := by
      cases hx : softB xs
      · exact .inl rfl
      · right
        rw [hx] at hs
        simp only [Bool.true_and, Bool.and_eq_true, decide_eq_true_eq] at hs
        simp only [true_and]
        omega
    clear h hs hl
    rcases hc with hx | ⟨hx, h1⟩ | ⟨hx, h1, h2⟩ | ⟨hx, h1, h2, h3⟩ | ⟨hx, h1, h2, h3, h4⟩
    all_goals
      rw [hx] at hV
      clear hx
      go_enter Tryd.func22, Tryd.ntmps22
      go_wp2_with (refine hV.out.mono ?_; rintro e w ⟨rfl, rfl⟩)
      go_ret2
      exact RetQ.nil_ (Below.refl _ _)
set_option maxHeartbeats 4000000 in
theorem refIdeal_any {A : Option Addr} {n c : Nat} {m : Int} {bs : List Int} {w : World} (h : Rd .u8 w w.heap.size A n bs) (hB : Byte bs) (hn : n ≤ 100000) :
    Calls Tryd.prog 26 #[.slice A n c, .int .i64 m] w (RetQ .i64 3 w (idealS bs m)) := by
  have hV := Lib.hid (refBinary_any (c := c) h (by omega))
  have hl := Lib.hid h
  have hls := h.len
  have hn' : (n : Int) ≤ 100000 := by omega
  unfold idealS
  by_cases hm : (decide (0 ≤ m) && decide (m ≤ 127)) = true
  · rw [if_pos hm]
    simp only [Bool.and_eq_true, decide_eq_true_eq] at hm
    obtain ⟨m0, m1⟩ := hm
    have m0' : ¬ (m < 0) := by omega
    have m1' : ¬ (127 < m) := by omega
    by_cases hs : validB bs = true
    · rw [if_pos hs]
      rw [hs] at hV
      have hbit := Lib.hid (fun j : Nat => valid_bit hB hs j)
      obtain ⟨f, hf⟩ : ∃ f : Nat → Int, (fun j => idealE m (bs[j]?.getD 0)) = f := ⟨_, rfl⟩
      have hr := idealI_seq (m := m) hls
      rw [hf] at hr
      have hf' := Lib.hid (fun j => congrFun hf j)
      obtain ⟨res, hres⟩ : ∃ res, idealI m bs = res := ⟨_, rfl⟩
      rw [hres] at hr ⊢
      have HR := Lib.hid hr
      clear h hs hf hr hres hls hB
      go_enter Tryd.func26, Tryd.ntmps26
      go_wp2_with (refine hV.out.mono ?_; rintro e w ⟨rfl, rfl⟩)
      go_loopw [6, 7] (fun o i wr => ∃ (j : Nat) (A' : Option Addr) (c' : Nat), j ≤ n ∧ i = .int .i64 (j : Int) ∧ o = .slice A' j c' ∧ Hid (wr.ownsRow w.heap.size 3 1 (.slice A' j c') j ((seqL f j).map (Value.int .i64))) ∧ Hid (Below w.heap.size w wr)) (fun o i _ => n - (intOf i).toNat)
      case atStart => exact ⟨0, none, 0, Nat.zero_le _, rfl, rfl, Lib.hid (by simpa [seqL] using World.ownsRow_nil w w.heap.size 3 1), Lib.hid (Below.refl _ _)⟩
      case round =>
        obtain ⟨j, A', c', hj, rfl, rfl, hO, hb⟩ := hrel
        by_cases hlt : j < n
        · have hz : (j : Int) < (n : Int) := by omega
          have hz0 : (0 : Int) ≤ (j : Int) := by omega
          obtain ⟨b, off, rfl, hbl, hc0⟩ := hl.out.cells j hlt
          have hc := (hb.out.cell (p := ⟨b, off + j, none⟩) hbl).trans hc0
          obtain ⟨A2, c2, w2, hrun, hO2, hb2⟩ := ints_app' hO.out hb.out (by omega) (f j)
          rw [← seqL_succ] at hO2
          have hfj := hf'.out j
          try dsimp only at hfj
          unfold idealE at hfj
          have hbt := hbit.out j
          have HO2 := Lib.hid hO2
          have HB2 := Lib.hid hb2
          generalize bs[j]?.getD 0 = x at *
          generalize f j = y at *
          clear hO hb hc0 hbl hO2 hb2
          rcases hbt with rfl | rfl
          · have HRn := Lib.hid (show _ = _ from hrun)
            obtain rfl : m = y := by omega
            clear hfj hrun
            go_wp2_with (first | (at_builtin; refine Lib.wpList_append_run _ rfl _ _ _ _ rfl _ _ rfl rfl _ _ HRn.out ?_) | fail)
            go_roundw
            case rel => exact ⟨j + 1, A2, c2, by omega, by go_num, rfl, HO2, HB2⟩
            case measure => simp [intOf]; omega
          · have e3 : m - 2 * m = y := by omega
            have HRn := Lib.hid (show _ = _ from hrun)
            have hy1 : -127 ≤ y ∧ y ≤ 127 := by omega
            obtain ⟨hy1, hy2⟩ := hy1
            clear hfj hrun
            go_wp2_with (first | (at_builtin; refine Lib.wpList_append_run _ rfl _ _ _ _ rfl _ _ rfl rfl _ _ HRn.out ?_) | fail)
            go_roundw
            case rel => exact ⟨j + 1, A2, c2, by omega, by go_num, rfl, HO2, HB2⟩
            case measure => simp [intOf]; omega

        · obtain rfl : j = n := by omega
          clear hlt
          go_wp2_with fail
          go_ret2
          exact RetQ.mk_ (by rw [HR.out]; exact seqL_length f _) (by rw [HR.out]; exact hO.out) (Nat.le_refl _) hb.out rfl

    · rw [if_neg hs]
      rw [Bool.eq_false_iff.2 hs] at hV
      clear h hs hl hB
      go_enter Tryd.func26, Tryd.ntmps26
      go_wp2_with (refine hV.out.mono ?_; rintro e w ⟨rfl, rfl⟩)
      go_ret2
      exact RetQ.nil_ (Below.refl _ _)
  · rw [if_neg hm]
    have hc : m < 0 ∨ (¬ (m < 0) ∧ 127 < m) := by simp at hm; omega
    clear h hm hl hB hV
    rcases hc with h1 | ⟨h1, h2⟩
    all_goals
      go_enter Tryd.func26, Tryd.ntmps26
      go_wp2_with fail
      go_ret2
      exact RetQ.nil_ (Below.refl _ _)
set_option maxHeartbeats 4000000 in
theorem refSum_any {A A2 : Option Addr} {n c n2 c2 : Nat} {xs ys : List Int} {w : World} (h : Rd .i64 w w.heap.size A n xs) (h2 : Rd .i64 w w.heap.size A2 n2 ys) (hn : n ≤ 100000) (hn2 : n2 ≤ 100000) :
    Calls Tryd.prog 16 #[.slice A n c, .slice A2 n2 c2] w (RetQ .i64 3 w (sumS xs ys)) := by
  have hV := Lib.hid (refValid_any (c := c) h (by omega))
  have hV2 := Lib.hid (refValid_any (c := c2) h2 (by omega))
  have hl := Lib.hid h
  have hl2 := Lib.hid h2
  have hls := h.len
  have hls2 := h2.len
  have hn' : (n : Int) ≤ 100000 := by omega
  unfold sumS
  rw [hls, hls2]
  by_cases hs : (softB xs && softB ys && decide (n = n2)) = true
  · rw [if_pos hs]
    simp only [Bool.and_eq_true, decide_eq_true_eq] at hs
    obtain ⟨⟨hs, hs2⟩, rfl⟩ := hs
    rw [hs] at hV
    rw [hs2] at hV2
    obtain ⟨f, hf⟩ : ∃ f : Nat → Int, (fun j => addI (xs[j]?.getD 0) (ys[j]?.getD 0)) = f := ⟨_, rfl⟩
    have hr := sumI_seq (b := ys) hls
    rw [hf] at hr
    have hf' := Lib.hid (fun j => congrFun hf j)
    obtain ⟨res, hres⟩ : ∃ res, sumI xs ys = res := ⟨_, rfl⟩
    rw [hres] at hr ⊢
    have HR := Lib.hid hr
    clear h h2 hs hs2 hf hr hres hls hls2
    go_enter Tryd.func16, Tryd.ntmps16
    go_wp2_with (first | (with_reducible refine hV.out.mono ?_; rintro e w ⟨rfl, rfl⟩; clear hV) | (with_reducible refine hV2.out.mono ?_; rintro e w ⟨rfl, rfl⟩) | fail)
    go_loopw [6, 7] (fun o i wr => ∃ (j : Nat) (A' : Option Addr) (c' : Nat), j ≤ n ∧ i = .int .i64 (j : Int) ∧ o = .slice A' j c' ∧ Hid (wr.ownsRow w.heap.size 3 1 (.slice A' j c') j ((seqL f j).map (Value.int .i64))) ∧ Hid (Below w.heap.size w wr)) (fun o i _ => n - (intOf i).toNat)
    case atStart => exact ⟨0, none, 0, Nat.zero_le _, rfl, rfl, Lib.hid (by simpa [seqL] using World.ownsRow_nil w w.heap.size 3 1), Lib.hid (Below.refl _ _)⟩
    case round =>
      obtain ⟨j, A', c', hj, rfl, rfl, hO, hb⟩ := hrel
      by_cases hlt : j < n
      · have hz : (j : Int) < (n : Int) := by omega
        have hz0 : (0 : Int) ≤ (j : Int) := by omega
        obtain ⟨b, off, rfl, hbl, hc0⟩ := hl.out.cells j hlt
        obtain ⟨b', off', rfl, hbl', hc0'⟩ := hl2.out.cells j hlt
        have hc := (hb.out.cell (p := ⟨b, off + j, none⟩) hbl).trans hc0
        have hc' := (hb.out.cell (p := ⟨b', off' + j, none⟩) hbl').trans hc0'
        obtain ⟨A2, c2, w2, hrun, hO2, hb2⟩ := ints_app' (wr := wr.drew) (World.ownsRow.drew hO.out) hb.out.drew (by omega) (f j)
        rw [← seqL_succ] at hO2
        have hfj := hf'.out j
        try dsimp only at hfj
        have hC := Lib.hid (fun (u : World) => refAdd_any (a := xs[j]?.getD 0) (b := ys[j]?.getD 0) (w := u))
        rw [hfj] at hC
        have HO2 := Lib.hid hO2
        have HB2 := Lib.hid hb2
        have P1 := (hb2.cell (p := ⟨b, off + j, none⟩) hbl).trans hc0
        have P2 := (hb2.cell (p := ⟨b', off' + j, none⟩) hbl').trans hc0'
        generalize xs[j]?.getD 0 = x at *
        generalize ys[j]?.getD 0 = y at *
        generalize f j = z at *
        have hrun' : (Builtin.append_ #[26, 26] 26 #[.slice A' j c', .slice (some ⟨wr.heap.size, 0, none⟩) 1 1]).run Tryd.prog (wr.alloc (.cells #[.int .i64 z] 3)).drew = .ok (.slice A2 (j + 1) c2) w2 := hrun
        have HRn := Lib.hid hrun'
        have hk1 : (wr.alloc (.cells #[.int .i64 z] 3)).drew.cell? ⟨b, off + j, none⟩ = some (.int .i64 x) := (World.cell?_alloc_lt wr _ _ (World.block_lt_of_cell? wr _ hc)).trans hc
        have hk2 : (wr.alloc (.cells #[.int .i64 z] 3)).drew.cell? ⟨b', off' + j, none⟩ = some (.int .i64 y) := (World.cell?_alloc_lt wr _ _ (World.block_lt_of_cell? wr _ hc')).trans hc'
        clear hrun hrun' hO hb hc0 hc0' hbl hbl' hO2 hb2 hfj
        go_wp2_with fail
        go_region_held3 (fun w' => w'.cell? ⟨b, off + j, none⟩ = some (.int .i64 x) ∧ w'.cell? ⟨b', off' + j, none⟩ = some (.int .i64 y))
          (first | exact ⟨hc, hc'⟩ | exact ⟨hk1, hk2⟩ | exact ⟨P1, P2⟩ | go_keep)
          (first
            | (go_at_call 13; refine (hC.out _).mono ?_; rintro e w5 ⟨rfl, rfl⟩)
            | (refine step_append_run (o := ⟨some 40, _, _, _, _, _⟩) rfl (.tmp 29) (.tmp 39) 26 rfl rfl rfl HRn.out ?_)
            | fail)
        clear hk1 hk2 hc hc' P1 P2
        go_wp2_with fail
        go_roundw
        case rel => exact ⟨j + 1, A2, c2, by omega, by go_num, rfl, HO2, HB2⟩
        case measure => simp [intOf]; omega

      · obtain rfl : j = n := by omega
        clear hlt
        go_wp2_with fail
        go_ret2
        exact RetQ.mk_ (by rw [HR.out]; exact seqL_length f _) (by rw [HR.out]; exact hO.out) (Nat.le_refl _) hb.out rfl
  · rw [if_neg hs]
    have hc : softB xs = false ∨ (softB xs = true ∧ softB ys = false) ∨ (softB xs = true ∧ softB ys = true ∧ n ≠ n2) := by
      cases hx : softB xs
      · exact .inl rfl
      · cases hy : softB ys
        · exact .inr (.inl ⟨rfl, rfl⟩)
        · rw [hx, hy] at hs
          exact .inr (.inr ⟨rfl, rfl, by simpa using hs⟩)
    clear h h2 hs hl hl2 hls hls2
    rcases hc with hx | ⟨hx, hy⟩ | ⟨hx, hy, hne⟩
    · rw [hx] at hV
      clear hx
      go_enter Tryd.func16, Tryd.ntmps16
      go_wp2_with (first | (with_reducible refine hV.out.mono ?_; rintro e w ⟨rfl, rfl⟩) | fail)
      go_ret2
      exact RetQ.nil_ (Below.refl _ _)
    · rw [hx] at hV
      rw [hy] at hV2
      clear hx hy
      go_enter Tryd.func16, Tryd.ntmps16
      go_wp2_with (first | (with_reducible refine hV.out.mono ?_; rintro e w ⟨rfl, rfl⟩; clear hV) | (with_reducible refine hV2.out.mono ?_; rintro e w ⟨rfl, rfl⟩) | fail)
      go_ret2
      exact RetQ.nil_ (Below.refl _ _)
    · rw [hx] at hV
      rw [hy] at hV2
      clear hx hy
      have hne' : ((n : Int) != (n2 : Int)) = true := by simp; omega
      clear hne
      go_enter Tryd.func16, Tryd.ntmps16
      go_wp2_with (first | (with_reducible refine hV.out.mono ?_; rintro e w ⟨rfl, rfl⟩; clear hV) | (with_reducible refine hV2.out.mono ?_; rintro e w ⟨rfl, rfl⟩) | fail)
      go_ret2
      exact RetQ.nil_ (Below.refl _ _)
end Go.Proofs.YtkkombhpiagngaaDoor
