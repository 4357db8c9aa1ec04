/-
  The walk of RatematchCovers.
-/
import Derived.Test.YtnmkladmohjdnaaDoorL5
namespace Go.Proofs.YtnmkladmohjdnaaDoor
open Go.RowKit Go.Shelf

/-- How often each position is among the first j elements. -/
def oftenL (W : List Int) (j M : Nat) : List Int := (List.range M).map fun p : Nat => (((W.take j).count (p : Int) : Nat) : Int)
theorem oftenL_zero (W : List Int) (M : Nat) : oftenL W 0 M = List.replicate M 0 := by
  unfold oftenL
  apply List.ext_getElem
  · simp
  · intro i h1 h2
    simp
theorem oftenL_at {W : List Int} {j M p : Nat} (h : p < M) : (oftenL W j M)[p]? = some (((W.take j).count (p : Int) : Nat) : Int) := by simp [oftenL, h]
theorem oftenL_set {W : List Int} {j M p : Nat} (h : W[j]? = some (p : Int)) : (oftenL W j M).set p ((((W.take j).count (p : Int) : Nat) : Int) + 1) = oftenL W (j + 1) M := by
  obtain ⟨hj, hx⟩ := List.getElem?_eq_some_iff.1 h
  apply List.ext_getElem
  · simp [oftenL]
  · intro i h1 h2
    rw [List.getElem_set]
    simp only [oftenL, List.getElem_map, List.getElem_range]
    rw [List.take_succ_eq_append_getElem hj, hx, List.count_append]
    by_cases e : p = i
    · subst e
      rw [if_pos rfl, cnt_same]
      push_cast
      rfl
    · rw [if_neg e, cnt_other (by omega), Nat.add_zero]
theorem sumC_le (l W : List Int) : ∀ j, j ≤ l.length → sumC l W j ≤ j * W.length := by
  intro j
  induction j with
  | zero => intro _; rw [sumC_zero]; exact Nat.zero_le _
  | succ j ih =>
    intro hj
    have h1 := ih (by omega)
    rw [sumC_succ (x := l[j]) (List.getElem?_eq_getElem (by omega)), Nat.succ_mul]
    have h2 : W.count l[j] ≤ W.length := List.count_le_length
    split <;> omega
theorem cir_pos {k f l : Nat} {x : Int} (h2 : k ≤ 6144) (h : x ∈ cirI k f l) (hu : useB x = true) : ∃ p : Nat, x = (p : Int) ∧ p < 3 * (k + 4) ∧ (cirI k f l).count (p : Int) = 1 := by
  have hx : 0 ≤ x := of_decide_eq_true hu
  obtain ⟨p, rfl⟩ : ∃ p : Nat, x = (p : Int) := ⟨x.toNat, by omega⟩
  have hc := count_buf (k := k) (f := f) (n := sizN k l) (p := p) h2
  have h1 : 0 < (cirI k f l).count (p : Int) := List.count_pos_iff.2 h
  refine ⟨p, rfl, ?_, ?_⟩
  · have := hc.2 h1
    unfold posOk at this
    omega
  · have := hc.1
    unfold cirI at h1 ⊢
    omega
set_option maxRecDepth 100000 in
set_option maxHeartbeats 8000000 in
theorem covers_walk {k f l v x : Int} {w : World} (hK : Kinds w) :
    Calls Tryd.prog 6 #[.int .i64 k, .int .i64 f, .int .i64 l, .int .i64 v, .int .i64 x] w fun e w' => e = .returned (.bool true) ∧ Below w.heap.size w w' := by
  have hW := Lib.hid (fun (u : World) (h : Below w.heap.size w u) => known_any (hK.step h))
  by_cases hin : 20000 < x
  · have HW := Lib.hid (hW.out w (Below.refl _ _))
    clear hW hK
    go_enter Tryd.func6, Tryd.ntmps6
    go_wp2_with (first | (go_at_call 13; refine HW.out.mono ?_; rintro e w5 ⟨rfl, b5⟩) | fail)
    go_ret
    exact ⟨rfl, b5⟩
  · have hP := Lib.hid (Positions_any (k := k) (f := f) (l := l) (v := v) (e := x) hK)
    have hB := Lib.hid (fun (u : World) (h : Below w.heap.size w u) => Buffer_any (k := k) (f := f) (l := l) (hK.step h))
    have hU := Lib.hid (fun (u : World) (h : Below w.heap.size w u) => Usable_any (k := k) (f := f) (l := l) (hK.step h))
    by_cases hg : (posS k f l v x).2 = 0 ∧ x ≠ 0
    · obtain ⟨hg, hx0⟩ := hg
      obtain ⟨K, F, L, V, E, rfl, rfl, rfl, rfl, rfl, h1, h2, h3, h4, h5, h6, h7⟩ := posS_got hg
      have hok := okB_of h1 h2 h3 h4
      rw [posS_sel h1 h2 h3 h4 h5 h6 h7] at hP
      rw [bufS_ok hok] at hB
      rw [useS_ok hok] at hU
      dsimp only at hB hU
      have hE1 : 1 ≤ E := by omega
      have hn1 : 1 ≤ usable (cirI K F L) := by
        rcases Nat.eq_zero_or_pos (usable (cirI K F L)) with h0 | h0
        · exact absurd ⟨hE1, h0⟩ h7
        · exact h0
      have hcp := Lib.hid (fun (x : Int) (h : x ∈ cirI K F L) (hu : useB x = true) => cir_pos h2 h hu)
      have hsm := Lib.hid (fun (x : Int) (h : x ∈ selL (cirI K F L) (startN K (sizN K L) V) E) => sel_mem hn1 h)
      have hsc := Lib.hid (fun (x : Int) (hu : useB x = true) (h1 : (cirI K F L).count x = 1) => sel_count (l := cirI K F L) (s := startN K (sizN K L) V) (e := E) hu h1)
      have hall := Lib.hid (sumC_all (l := cirI K F L) (s := startN K (sizN K L) V) (e := E) hn1 (fun x hx hu => by
        obtain ⟨p, rfl, _, h⟩ := cir_pos h2 hx hu
        exact h))
      have hge : Hid (∀ (j : Nat) (x : Int), (cirI K F L)[j]? = some x → x = -1 ∨ 0 ≤ x) := Lib.hid (fun j x hx => buf_ge _ (List.mem_of_getElem? hx))
      have hlE := Lib.hid (selL_length (cirI K F L) (startN K (sizN K L) V) E)
      have hsz := siz_le h1 h2 h4
      have hlN := cirI_length K F L
      have hsl := Lib.hid (sumC_le (cirI K F L) (selL (cirI K F L) (startN K (sizN K L) V) E))
      have hul : usable (cirI K F L) ≤ 18528 := by
        have := usable_le (cirI K F L)
        omega
      rw [hlN] at hB hall
      have HL := Lib.hid hlN
      generalize selL (cirI K F L) (startN K (sizN K L) V) E = W at *
      generalize cirI K F L = cir at *
      generalize sizN K L = N at *
      generalize usable cir = us at *
      have hE2 : (E : Int) ≤ 20000 := by omega
      have hE3 : ¬ (20000 < (E : Int)) := by omega
      have hE0 : ((E : Int) == 0) = false := by simp; omega
      have hN2 : (N : Int) ≤ 18528 := by omega
      have hu1 : ¬ ((us : Int) < 1) := by omega
      have hu2 : (us : Int) ≤ 18528 := by omega
      obtain ⟨M, hM⟩ : ∃ M, 3 * (K + 4) = M := ⟨_, rfl⟩
      have hM2 : (3 : Int) * ((K : Int) + 4) = (M : Int) := by omega
      have hMl : M ≤ 18444 := by omega
      have hmk : ∀ u : World, (Instr.makeSlice 22 (.int .i64 (M : Int)) (.int .i64 (M : Int))).run Tryd.prog u = .ok (.slice (some ⟨u.heap.size, 0, none⟩) M M) (u.alloc (.cells (madeCells #[.int .i64 0] M) 3)) := make_ints M (by omega)
      rw [hM] at hcp
      have k6 : (K : Int) ≤ 6144 := by omega
      have k7 : (0 : Int) ≤ (K : Int) := by omega
      have q1e : (E : Int) / (us : Int) = ((E / us : Nat) : Int) := rfl
      have q2e : ((E : Int) + (us : Int) - 1) / (us : Int) = (((E + us - 1) / us : Nat) : Int) := by
        rw [show (E : Int) + (us : Int) - 1 = ((E + us - 1 : Nat) : Int) by omega]
        rfl
      generalize E / us = q1 at *
      generalize (E + us - 1) / us = q2 at *
      have hN' := Lib.hid hsz.2.2
      have hE' := Lib.hid (show E ≤ 20000 by omega)
      clear hg h1 h2 h3 h4 h5 h6 h7 hok hM hK hlN hsz hul hn1 hE1 hin hx0
      go_enter Tryd.func6, Tryd.ntmps6
      go_wp2_with fail
      refine hP.out.mono ?_
      rintro e w1 he
      obtain ⟨A1, c1, rfl, o1, b1⟩ := he.got hlE.out
      have R1 := Rd.of_own o1
      clear he o1 hP
      go_wp2_with fail
      refine (hB.out _ b1).mono ?_
      rintro e w2 ⟨A2, c2, rfl, R2, b2'⟩
      have R12 := R1.step b2'
      have b2 := b1.trans (b2'.mono b1.size)
      clear hB R1 b1 b2'
      go_wp2_with fail
      refine (hU.out _ b2).mono ?_
      rintro e w3 ⟨rfl, b3'⟩
      have R13 := Lib.hid (R12.step b3')
      have R23 := Lib.hid (R2.step b3')
      have B3 := Lib.hid (b2.trans (b3'.mono b2.size))
      have hZ := Lib.hid (own_zeros_q (q := .i64) (T := 3) (w := w3) (B := w3.heap.size) (n := M) (Nat.le_refl _) (by omega))
      have hb0 := Lib.hid ((Below.refl w3.heap.size w3).alloc (Nat.le_refl _) (.cells (madeCells #[.int .i64 0] M) 3))
      clear hU R2 R12 b2 b3'
      go_wp2_with fail
      go_loopw [18] (fun i wr => ∃ j : Nat, j ≤ E ∧ i = .int .i64 (j : Int) ∧ Hid (wr.ownsRow w3.heap.size 3 1 (.slice (some ⟨w3.heap.size, 0, none⟩) M M) M ((oftenL W j M).map (Value.int .i64))) ∧ Hid (Below w3.heap.size w3 wr)) (fun i _ => E - (intOf i).toNat)
      case atStart => exact ⟨0, Nat.zero_le _, rfl, Lib.hid (by rw [oftenL_zero]; exact hZ.out), hb0⟩
      case round =>
        clear hZ hb0
        obtain ⟨j, hj, rfl, hO, hb⟩ := hrel
        by_cases hlt : j < E
        · have hz : (j : Int) < (E : Int) := by omega
          have hz0 : (0 : Int) ≤ (j : Int) := by omega
          obtain ⟨b, off, rfl, hbl, hc0⟩ := R13.out.cells j hlt
          have hc := (hb.out.cell (p := ⟨b, off + j, none⟩) hbl).trans hc0
          have hlj : W[j]? = some (W[j]?.getD 0) := by
            rw [List.getElem?_eq_getElem (by rw [hlE.out]; exact hlt)]
            rfl
          have hm := hsm.out _ (List.mem_of_getElem? hlj)
          obtain ⟨p, hpx, hpM, _⟩ := hcp.out _ hm.1 hm.2
          rw [hpx] at hlj hc
          have hcs := World.ownsRow.cellAt hO.out p (by omega)
          rw [List.getElem?_map, oftenL_at hpM, Option.map_some] at hcs
          have hfs := World.ownsRow.frozenAt hO.out p
          have hcl : (W.take j).count (p : Int) ≤ 20000 := by
            have h1 : (W.take j).count (p : Int) ≤ (W.take j).length := List.count_le_length
            rw [List.length_take] at h1
            have := hE'.out
            omega
          have hst := (World.ownsRow.stored hO.out p (.int .i64 ((((W.take j).count (p : Int) : Nat) : Int) + 1))).1
          rw [← List.map_set, oftenL_set hlj] at hst
          generalize (W.take j).count (p : Int) = cc at *
          have hcl2 : (cc : Int) ≤ 20000 := by omega
          have HO2 := Lib.hid hst
          have HB2 := Lib.hid (hb.out.setCell (p := ⟨w3.heap.size, p, none⟩) (Nat.le_refl _) (.int .i64 ((cc : Int) + 1)))
          have p1 : ¬ ((M : Int) ≤ (p : Int)) := by omega
          have p1' : (p : Int) < (M : Int) := by omega
          have p0 : (0 : Int) ≤ (p : Int) := by omega
          have p00 : ¬ ((p : Int) < 0) := by omega
          clear hlj hm hO hbl hc0 hpx hpM hst hb hcl
          go_wp2_with fail
          go_roundw
          case rel => exact ⟨j + 1, by omega, by go_num, HO2, HB2⟩
          case measure => simp [intOf]; omega
        · obtain rfl : E = j := by omega
          have HO := hO
          rw [show oftenL W E M = oftenL W W.length M by rw [hlE.out]] at HO
          clear hlt hO
          go_wp2_with fail
          obtain ⟨w4, rfl⟩ : ∃ w4, w4 = wr := ⟨_, rfl⟩
          go_loopw [19, 20] (fun o i wr => ∃ j m s : Nat, j ≤ N ∧ i = .int .i64 (j : Int) ∧ o = .int .i64 (s : Int) ∧ Hid (s = sumC cir W j) ∧ wr = w4.drewN m) (fun _ i _ => N - (intOf i).toNat)
          case atStart => exact ⟨0, 0, 0, Nat.zero_le _, rfl, rfl, Lib.hid (sumC_zero _ _).symm, rfl⟩
          case round =>
            obtain ⟨j, m, s, hjN, rfl, rfl, hs, rfl⟩ := hrel
            by_cases hlt : j < N
            · have hz : (j : Int) < (N : Int) := by omega
              have hz0 : (0 : Int) ≤ (j : Int) := by omega
              obtain ⟨b, off, rfl, hbl, hc0⟩ := R23.out.cells j hlt
              have hc := (hb.out.cell (p := ⟨b, off + j, none⟩) hbl).trans hc0
              have hlj : cir[j]? = some (cir[j]?.getD 0) := by
                rw [List.getElem?_eq_getElem (by rw [HL.out]; exact hlt)]
                rfl
              have hss := sumC_succ (W := W) hlj
              have hsb := hsl.out (j + 1) (by rw [HL.out]; omega)
              have hgj := hge.out _ _ hlj
              have hmem := List.mem_of_getElem? hlj
              generalize cir[j]?.getD 0 = x at *
              by_cases hx : x < 0
              · have hs2 : Hid (s = sumC cir W (j + 1)) := Lib.hid (by rw [hss, if_neg (by simp [useB]; omega), Nat.add_zero]; exact hs.out)
                have hcm : World.cell? (w4.drewN m) ⟨b, off + j, none⟩ = some (.int .i64 x) := hc
                clear hlj hss hsb hgj hmem hs hbl hc0
                go_wp2_with fail
                go_roundw
                case rel => exact ⟨j + 1, m, s, by omega, by go_num, rfl, hs2, rfl⟩
                case measure => simp [intOf]; omega
              · have hux : useB x = true := decide_eq_true (by omega)
                obtain ⟨p, rfl, hpM, hp1⟩ := hcp.out _ hmem hux
                have hcs := World.ownsRow.cellAt HO.out p (by omega)
                rw [List.getElem?_map, oftenL_at hpM, Option.map_some, List.take_length] at hcs
                have hq := hsc.out _ hux hp1
                have hs2 : Hid (s + W.count (p : Int) = sumC cir W (j + 1)) := Lib.hid (by rw [hss, if_pos hux, hs.out])
                have hsI : (s : Int) + ((W.count (p : Int) : Nat) : Int) ≤ 370560000 := by
                  have h1 := hs2.out
                  rw [← h1, hlE.out] at hsb
                  have h2 := Nat.mul_le_mul (show j + 1 ≤ 18528 by have := hN'.out; omega) hE'.out
                  omega
                generalize W.count (p : Int) = cc at *
                have d1 : World.cell? (w4.drewN m) ⟨b, off + j, none⟩ = some (.int .i64 (p : Int)) := hc
                have d2 : World.cell? (w4.drewN m) ⟨w3.heap.size, p, none⟩ = some (.int .i64 (cc : Int)) := hcs
                have g1 : decide (M ≤ p) = false := decide_eq_false (by omega)
                have g2 : decide (cc < q1) = false := decide_eq_false (by omega)
                have g3 : decide (q2 < cc) = false := decide_eq_false (by omega)
                have p1 : ¬ ((M : Int) ≤ (p : Int)) := by omega
                have p2 : ¬ ((cc : Int) < (q1 : Int)) := by omega
                have p3 : ¬ ((q2 : Int) < (cc : Int)) := by omega
                have p1' : (p : Int) < (M : Int) := by omega
                have p0 : (0 : Int) ≤ (p : Int) := by omega
                have p00 : ¬ ((p : Int) < 0) := by omega
                have s0 : (0 : Int) ≤ (s : Int) := by omega
                have c0 : (0 : Int) ≤ (cc : Int) := by omega
                clear hlj hss hsb hgj hmem hs hbl hc0 hux hpM hp1 hq hx
                go_wp2_with fail
                go_quiet (fail)
                go_wp2_with fail
                go_roundw
                case rel => exact ⟨j + 1, _, s + cc, by omega, by go_num, by go_num, hs2, by first | rfl | exact drewN_two _ _ _⟩
                case measure => simp [intOf]; omega
            · obtain rfl : N = j := by omega
              have hsE : s = E := by rw [hs.out]; exact hall.out
              subst hsE
              have B5 := Lib.hid (B3.out.trans ((below_drewN hb.out m).mono B3.out.size))
              have HW := Lib.hid (hW.out _ B5.out)
              clear hlt hs hb hW
              go_wp2_with fail
              refine HW.out.mono ?_
              rintro e w5 ⟨rfl, b5⟩
              go_wp2_with fail
              go_ret
              exact ⟨rfl, B5.out.trans (b5.mono B5.out.size)⟩
    · have hcase : ((posS k f l v x).2 != 0) = true ∨ (((posS k f l v x).2 != 0) = false ∧ x = 0) := by
        by_cases h0 : (posS k f l v x).2 = 0
        · right
          refine ⟨by simp [h0], ?_⟩
          by_cases hx0 : x = 0
          · exact hx0
          · exact absurd ⟨h0, hx0⟩ hg
        · exact .inl (by simpa using h0)
      generalize posS k f l v x = r at *
      obtain ⟨xs, a⟩ := r
      generalize bufS k f l = r2 at *
      obtain ⟨ys, a2⟩ := r2
      generalize useS k f l = r3 at *
      obtain ⟨us, a3⟩ := r3
      dsimp only at hcase hU hB
      clear hg hK
      rcases hcase with ha | ⟨ha, rfl⟩
      all_goals
        go_enter Tryd.func6, Tryd.ntmps6
        go_wp2_with fail
        refine hP.out.mono ?_
        rintro e w1 ⟨A1, c1, rfl, o1, b1⟩
        clear o1 hP
        try dsimp only
        go_wp2_with fail
        refine (hB.out _ b1).mono ?_
        rintro e w2 ⟨A2, c2, rfl, R2, b2'⟩
        have b2 := b1.trans (b2'.mono b1.size)
        clear R2 hB b1 b2'
        try dsimp only
        go_wp2_with fail
        refine (hU.out _ b2).mono ?_
        rintro e w3 ⟨rfl, b3'⟩
        have B3 := Lib.hid (b2.trans (b3'.mono b2.size))
        have HW := Lib.hid (hW.out _ B3.out)
        clear hU b2 b3' hW
        go_wp2_with fail
        refine HW.out.mono ?_
        rintro e w5 ⟨rfl, b5⟩
        go_wp2_with fail
        go_ret
        exact ⟨rfl, B3.out.trans (b5.mono B3.out.size)⟩
end Go.Proofs.YtnmkladmohjdnaaDoor
