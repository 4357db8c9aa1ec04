/-
  The walk of RatematchFollows.
-/
import Derived.Test.YtnmkladmohjdnaaDoorL1
namespace Go.Proofs.YtnmkladmohjdnaaDoor
open Go.RowKit Go.Shelf

theorem slice_ints {A : Option Addr} {n c m : Nat} (hm : m ≤ c) (u : World) : (Instr.slice 22 (.slice A n c) none (some (.int .i64 (m : Int))) none).run Tryd.prog u = .ok (.slice A m c) u := by
  rcases A with _ | a
  · simp [Instr.slice, Instr.sliceBounds, Instr.sliceBound, run_underlying Tryd.underlying22, asIntOf, go_sem, hm]
  · simp [Instr.slice, Instr.sliceBounds, Instr.sliceBound, run_underlying Tryd.underlying22, asIntOf, go_sem, hm]
/-- Where Positions returns no error. -/
theorem posS_got {k f l v e : Int} (h : (posS k f l v e).2 = 0) : ∃ K F L V E : Nat, k = (K : Int) ∧ f = (F : Int) ∧ l = (L : Int) ∧ v = (V : Int) ∧ e = (E : Int) ∧ 40 ≤ K ∧ K ≤ 6144 ∧ F < K ∧ 1 ≤ L ∧ V < 4 ∧ E ≤ 131072 ∧ ¬ (0 < E ∧ usable (cirI K F L) = 0) := by
  by_cases h0 : (okB k f l && okV v && okE e) = true
  · have h1 := h0
    rw [Bool.and_eq_true, Bool.and_eq_true] at h1
    obtain ⟨⟨hB, hV⟩, hE⟩ := h1
    obtain ⟨K, F, L, rfl, rfl, rfl, h1, h2, h3, h4⟩ := okB_nat hB
    obtain ⟨V, rfl, h5⟩ := okV_nat hV
    obtain ⟨E, rfl, h6⟩ := okE_nat hE
    rw [posS_ok h0] at h
    refine ⟨K, F, L, V, E, rfl, rfl, rfl, rfl, rfl, h1, h2, h3, h4, h5, h6, fun h7 => ?_⟩
    rw [if_pos h7] at h
    cases h
  · rw [posS_no (Bool.eq_false_iff.2 h0)] at h
    cases h
theorem posS_sel {K F L V E : Nat} (h1 : 40 ≤ K) (h2 : K ≤ 6144) (h3 : F < K) (h4 : 1 ≤ L) (h5 : V < 4) (h6 : E ≤ 131072) (h7 : ¬ (0 < E ∧ usable (cirI K F L) = 0)) : posS (K : Int) (F : Int) (L : Int) (V : Int) (E : Int) = (selL (cirI K F L) (startN K (sizN K L) V) E, 0) := by
  rw [posS_ok (oks h1 h2 h3 h4 h5 h6), if_neg h7]
set_option maxRecDepth 100000 in
set_option maxHeartbeats 4000000 in
theorem follows_walk {k f l v x y : Int} {w : World} (hK : Kinds w) :
    Calls Tryd.prog 7 #[.int .i64 k, .int .i64 f, .int .i64 l, .int .i64 v, .int .i64 x, .int .i64 y] w fun e w' => e = .returned (.bool true) ∧ Below w.heap.size w w' := by
  have hW := Lib.hid (fun (u : World) (h : Below w.heap.size w u) => known_any (hK.step h))
  by_cases hin : ¬ (20000 < x) ∧ 0 ≤ y ∧ y ≤ x
  · obtain ⟨x1, y1, y2⟩ := hin
    have hyx : ¬ (x < y) := by omega
    have hP1 := Lib.hid (Positions_any (k := k) (f := f) (l := l) (v := v) (e := x) hK)
    have hP2 := Lib.hid (fun (u : World) (h : Below w.heap.size w u) => Positions_any (k := k) (f := f) (l := l) (v := v) (e := y) (hK.step h))
    have hU := Lib.hid (fun (u : World) (h : Below w.heap.size w u) => Usable_any (k := k) (f := f) (l := l) (hK.step h))
    by_cases hg : (posS k f l v x).2 = 0
    · obtain ⟨K, F, L, V, E, rfl, rfl, rfl, rfl, rfl, h1, h2, h3, h4, h5, h6, h7⟩ := posS_got hg
      obtain ⟨Y, rfl⟩ : ∃ Y : Nat, y = (Y : Int) := ⟨y.toNat, by omega⟩
      rw [posS_sel h1 h2 h3 h4 h5 h6 h7] at hP1
      rw [posS_sel h1 h2 h3 h4 h5 (by omega) (fun h => h7 ⟨by omega, h.2⟩)] at hP2
      rw [useS_ok (okB_of h1 h2 h3 h4)] at hU
      have hpre := Lib.hid (sel_prefix (l := cirI K F L) (s := startN K (sizN K L) V) (d := Y) (e := E) (by omega))
      have hag := Lib.hid (fun (j : Nat) (h : j < E) (hn : usable (cirI K F L) ≤ j) => sel_again (l := cirI K F L) (s := startN K (sizN K L) V) h hn)
      have hlE := Lib.hid (selL_length (cirI K F L) (startN K (sizN K L) V) E)
      have hlY := Lib.hid (selL_length (cirI K F L) (startN K (sizN K L) V) Y)
      generalize selL (cirI K F L) (startN K (sizN K L) V) E = xs at *
      generalize selL (cirI K F L) (startN K (sizN K L) V) Y = ys at *
      have hul : usable (cirI K F L) ≤ 18528 := by
        have := usable_le (cirI K F L)
        rw [cirI_length] at this
        have := siz_le h1 h2 h4
        omega
      generalize usable (cirI K F L) = us at *
      have hYE : Hid (Y ≤ E) := Lib.hid (by omega)
      have hE2 : (E : Int) ≤ 20000 := by omega
      have hus : (us : Int) ≤ 18528 := by omega
      clear hg h1 h2 h3 h4 h5 h6 h7 hK hul
      dsimp only at hU
      go_enter Tryd.func7, Tryd.ntmps7
      go_wp2_with fail
      refine hP1.out.mono ?_
      rintro e w1 he
      obtain ⟨A1, c1, rfl, o1, b1⟩ := he.got hlE.out
      have R1 := Rd.of_own o1
      have hcap := own_cap' o1
      clear he o1 hP1
      go_wp2_with fail
      refine (hP2.out _ b1).mono ?_
      rintro e w2 he
      obtain ⟨A2, c2, rfl, o2, b2'⟩ := he.got hlY.out
      have R2 := Rd.of_own o2
      have R12 := R1.step b2'
      have b2 := b1.trans (b2'.mono b1.size)
      clear he o2 hP2 R1 b1 b2'
      go_wp2_with fail
      refine (hU.out _ b2).mono ?_
      rintro e w3 ⟨rfl, b3'⟩
      have R23 := Lib.hid (R2.step b3')
      have R13 := Lib.hid (R12.step b3')
      have B3 := Lib.hid (b2.trans (b3'.mono b2.size))
      have hfr := R13.out.front hYE.out
      rw [hpre.out] at hfr
      have hs := Lib.hid (sameI_true (c := c2) (c' := c1) R23.out hfr (by omega))
      have hsl := fun u => slice_ints (A := A1) (n := E) (c := c1) (m := Y) (by omega) u
      have hcapI : (E : Int) ≤ (c1 : Int) := by omega
      clear hU R2 R12 b2 b3' hfr hcap
      go_wp2_with fail
      refine hs.out.mono ?_
      rintro e w4 ⟨rfl, b4'⟩
      have R4 := Lib.hid (R13.out.step b4')
      have B4 := Lib.hid (B3.out.trans (b4'.mono B3.out.size))
      clear hs R13 R23 B3 b4' hsl
      go_wp2_with fail
      go_loopw [19] (fun i wr => ∃ j m : Nat, i = .int .i64 (j : Int) ∧ us ≤ j ∧ (j ≤ E ∨ j = us) ∧ wr = w4.drewN m) (fun i _ => E - (intOf i).toNat)
      case atStart => exact ⟨us, 0, rfl, Nat.le_refl _, .inr rfl, rfl⟩
      case round =>
        obtain ⟨j, m, rfl, hj, hj2, rfl⟩ := hrel
        by_cases hlt : j < E
        · have hz : (j : Int) < (E : Int) := by omega
          obtain ⟨b, off, hA, hbl, hc⟩ := R4.out.cells j hlt
          obtain ⟨b', off', hA', hbl', hc'⟩ := R4.out.cells (j - us) (by omega)
          rw [hA] at hA'
          injection hA' with hA'
          injection hA' with e1 e2
          subst e1 e2 hA
          have h8 := hag.out j hlt hj
          rw [← h8] at hc'
          generalize xs[j]?.getD 0 = z at *
          have d1 : World.cell? (w4.drewN m) ⟨b, off + j, none⟩ = some (.int .i64 z) := hc
          have d2 : World.cell? (w4.drewN m) ⟨b, off + (j - us), none⟩ = some (.int .i64 z) := hc'
          have hsub : (j : Int) - (us : Int) = ((j - us : Nat) : Int) := by omega
          obtain ⟨q, hq⟩ : ∃ q, j - us = q := ⟨_, rfl⟩
          rw [hq] at d2 hsub hc'
          have hq1 : (q : Int) < (E : Int) := by omega
          have hq0 : (0 : Int) ≤ (q : Int) := by omega
          have hz0 : (0 : Int) ≤ (j : Int) := by omega
          clear hbl hbl' h8 hq
          go_wp2_with fail
          go_quiet (fail)
          go_wp2_with fail
          go_roundw
          case rel => exact ⟨j + 1, _, by go_num, by omega, .inl (by omega), by first | rfl | exact drewN_two _ _ _⟩
          case measure => simp [intOf]; omega
        · have hz : ¬ ((j : Int) < (E : Int)) := by omega
          have B5 := Lib.hid (below_drewN B4.out m)
          have HW := Lib.hid (hW.out _ B5.out)
          clear hlt hj hj2 hW
          go_wp2_with fail
          refine HW.out.mono ?_
          rintro e w5 ⟨rfl, b5⟩
          go_wp2_with fail
          go_ret
          exact ⟨rfl, B5.out.trans (b5.mono B5.out.size)⟩
    · generalize posS k f l v x = r at *
      obtain ⟨xs, a⟩ := r
      generalize posS k f l v y = r2 at *
      obtain ⟨ys, a2⟩ := r2
      generalize useS k f l = r3 at *
      obtain ⟨us, a3⟩ := r3
      dsimp only at hg hU
      have ha : (a != 0) = true := by simpa using hg
      clear hg hK
      go_enter Tryd.func7, Tryd.ntmps7
      go_wp2_with fail
      refine hP1.out.mono ?_
      rintro e w1 ⟨A1, c1, rfl, o1, b1⟩
      clear o1 hP1
      try dsimp only
      go_wp2_with fail
      refine (hP2.out _ b1).mono ?_
      rintro e w2 ⟨A2, c2, rfl, o2, b2'⟩
      have b2 := b1.trans (b2'.mono b1.size)
      clear o2 hP2 b1 b2'
      try dsimp only
      go_wp2_with fail
      refine (hU.out _ b2).mono ?_
      rintro e w3 ⟨rfl, b3'⟩
      have B3 := Lib.hid (b2.trans (b3'.mono b2.size))
      have HW := Lib.hid (hW.out _ B3.out)
      clear hU b2 b3' hW
      go_wp2_with fail
      refine HW.out.mono ?_
      rintro e w5 ⟨rfl, b5⟩
      go_wp2_with fail
      go_ret
      exact ⟨rfl, B3.out.trans (b5.mono B3.out.size)⟩
  · have hc : 20000 < x ∨ (¬ (20000 < x) ∧ y < 0) ∨ (¬ (20000 < x) ∧ ¬ (y < 0) ∧ x < y) := by omega
    have HW := Lib.hid (hW.out w (Below.refl _ _))
    clear hin hW hK
    rcases hc with a | ⟨a, a'⟩ | ⟨a, a', a2⟩
    all_goals
      go_enter Tryd.func7, Tryd.ntmps7
      go_wp2_with (first | (go_at_call 13; refine HW.out.mono ?_; rintro e w5 ⟨rfl, b5⟩) | fail)
      go_ret
      exact ⟨rfl, b5⟩
end Go.Proofs.YtnmkladmohjdnaaDoor
