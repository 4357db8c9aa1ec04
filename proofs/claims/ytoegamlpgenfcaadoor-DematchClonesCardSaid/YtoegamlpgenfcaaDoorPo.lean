/-
  Positions; the reference's Positions.
-/
import Derived.Test.YtoegamlpgenfcaaDoorGn
import Derived.Test.YtoegamlpgenfcaaDoorGm
import Derived.Test.YtoegamlpgenfcaaDoorSm
import Derived.Test.YtoegamlpgenfcaaDoorSe
namespace Go.Proofs.YtoegamlpgenfcaaDoor
open Go.RowKit Go.Shelf

theorem selection_any {A : Option Addr} {N c s E : Nat} {cir : List Int} {w : World} (hR : Rd .i64 w w.heap.size A N cir) (hs : s < N) (hN : N ≤ 18528) (hE : E ≤ 131072) (hge : ∀ x ∈ cir, x = -1 ∨ 0 ≤ x) :
    Calls Tryd.prog 68 #[.slice A N c, .int .i64 (s : Int), .int .i64 (E : Int)] w (RetI w (selR cir s E)) := callsIn_wide.1 (selection_in (n := 6) (by decide) hR hs hN hE hge)
theorem selR_none {cir : List Int} {s E : Nat} (h : 0 < E ∧ usable cir = 0) : selR cir s E = [] := if_pos h
theorem selR_some {cir : List Int} {s E : Nat} (h : ¬ (0 < E ∧ usable cir = 0)) : selR cir s E = selL cir s E := if_neg h
theorem oks {k f l v e : Nat} (h1 : 40 ≤ k) (h2 : k ≤ 6144) (h3 : f < k) (hl : 1 ≤ l) (hv : v < 4) (he : e ≤ 131072) : (okB (k : Int) (f : Int) (l : Int) && okV (v : Int) && okE (e : Int)) = true := by
  rw [okB_of h1 h2 h3 hl]
  simp [okV, okE]
  omega
set_option maxRecDepth 100000 in
set_option maxHeartbeats 4000000 in
theorem Positions_ok {k f l v e : Nat} {w : World} (hK : KCol w) (h1 : 40 ≤ k) (h2 : k ≤ 6144) (h3 : f < k) (hl : 1 ≤ l) (hv : v < 4) (he : e ≤ 131072) :
    Calls Tryd.prog 50 #[.int .i64 (k : Int), .int .i64 (f : Int), .int .i64 (l : Int), .int .i64 (v : Int), .int .i64 (e : Int)] w (RetQ .i64 3 w (posS k f l v e)) := by
  have hok := oks h1 h2 h3 hl hv he
  rw [posS_ok hok]
  have hI := Lib.hid (fun (u : World) => isSelection_any (k := (k : Int)) (f := (f : Int)) (l := (l : Int)) (v := (v : Int)) (x := (e : Int)) (w := u))
  rw [hok] at hI
  have hB := Lib.hid (Buffer_ok hK h1 h2 h3 hl)
  have hS := Lib.hid (fun (u : World) => Start_ok (w := u) h1 h2 hl hv)
  have hsz := siz_le h1 h2 hl
  have hlt := start_lt (k := k) (n := sizN k l) (v := v) hsz.1
  have hge : ∀ x ∈ cirI k f l, x = -1 ∨ 0 ≤ x := buf_ge
  generalize cirI k f l = cir at *
  generalize startN k (sizN k l) v = s at *
  generalize sizN k l = N at *
  have hN := hsz.2.2
  have hSel := Lib.hid (fun (A : Option Addr) (c : Nat) (u : World) (hR : Rd .i64 u u.heap.size A N cir) => selection_any (c := c) hR hlt hN he hge)
  clear h1 h2 h3 hl hv hok hsz hge hlt hN
  have he' : (e : Int) ≤ 131072 := by omega
  by_cases hnone : 0 < e ∧ usable cir = 0
  · rw [if_pos hnone]
    rw [selR_none hnone] at hSel
    have he0 : (0 : Int) < (e : Int) := by omega
    clear hnone
    go_enter Tryd.func50, Tryd.ntmps50
    go_wp2_with (first | (go_at_call 47; refine (hI.out _).mono ?_; rintro e w ⟨rfl, rfl⟩) | fail)
    refine hB.out.mono ?_
    rintro e1 w1 ⟨A1, c1, rfl, R1, b1⟩
    clear hB
    go_wp2_with (first | (go_at_call 57; refine (hS.out _).mono ?_; rintro e w ⟨rfl, rfl⟩) | fail)
    refine (hSel.out _ _ _ R1).mono ?_
    rintro e2 w2 hr
    obtain ⟨A2, c2, rfl, o2, b2⟩ := hr.got (n := 0) rfl
    have HB := Lib.hid (b1.trans (b2.mono b1.size))
    clear hr o2 b2 b1 R1 hSel
    go_wp2_with fail
    go_ret2
    exact RetQ.nil_ HB.out
  · rw [if_neg hnone]
    rw [selR_some hnone] at hSel
    have hl := Lib.hid (selL_length cir s e)
    generalize selL cir s e = res at *
    clear hnone
    go_enter Tryd.func50, Tryd.ntmps50
    go_wp2_with (first | (go_at_call 47; refine (hI.out _).mono ?_; rintro e w ⟨rfl, rfl⟩) | fail)
    refine hB.out.mono ?_
    rintro e1 w1 ⟨A1, c1, rfl, R1, b1⟩
    clear hB
    go_wp2_with (first | (go_at_call 57; refine (hS.out _).mono ?_; rintro e w ⟨rfl, rfl⟩) | fail)
    refine (hSel.out _ _ _ R1).mono ?_
    rintro e2 w2 hr
    obtain ⟨A2, c2, rfl, o2, b2⟩ := hr.got hl.out
    have HB := Lib.hid (b1.trans (b2.mono b1.size))
    have HO := Lib.hid (o2.mono b1.size)
    clear hr o2 b2 b1 R1 hSel
    go_wp2_with fail
    go_ret2
    exact RetQ.mk_ hl.out HO.out (Nat.le_refl _) HB.out rfl
theorem Positions_no {k f l v e : Int} {w : World} (h : (okB k f l && okV v && okE e) = false) :
    Calls Tryd.prog 50 #[.int .i64 k, .int .i64 f, .int .i64 l, .int .i64 v, .int .i64 e] w (RetQ .i64 3 w ([], 2)) := by
  have hI := Lib.hid (fun (u : World) => isSelection_any (k := k) (f := f) (l := l) (v := v) (x := e) (w := u))
  rw [h] at hI
  clear h
  go_enter Tryd.func50, Tryd.ntmps50
  go_wp2_with (first | (go_at_call 47; refine (hI.out _).mono ?_; rintro e w ⟨rfl, rfl⟩) | fail)
  go_ret2
  exact RetQ.nil_ (Below.refl _ _)
theorem Positions_any {k f l v e : Int} {w : World} (hK : KCol w) :
    Calls Tryd.prog 50 #[.int .i64 k, .int .i64 f, .int .i64 l, .int .i64 v, .int .i64 e] w (RetQ .i64 3 w (posS k f l v e)) := by
  by_cases h : (okB k f l && okV v && okE e) = true
  · rw [Bool.and_eq_true, Bool.and_eq_true] at h
    obtain ⟨⟨hB, hV⟩, hE⟩ := h
    obtain ⟨K, F, L, rfl, rfl, rfl, h1, h2, h3, h4⟩ := okB_nat hB
    obtain ⟨V, rfl, h5⟩ := okV_nat hV
    obtain ⟨E, rfl, h6⟩ := okE_nat hE
    exact Positions_ok hK h1 h2 h3 h4 h5 h6
  · have h := Bool.eq_false_iff.2 h
    rw [posS_no h]
    exact Positions_no h
set_option maxRecDepth 100000 in
set_option maxHeartbeats 8000000 in
theorem refPositions_ok {k f l v e : Nat} {w : World} (h1 : 40 ≤ k) (h2 : k ≤ 6144) (h3 : f < k) (hl : 1 ≤ l) (hv : v < 4) (he : e ≤ 131072) :
    Calls Tryd.prog 58 #[.int .i64 (k : Int), .int .i64 (f : Int), .int .i64 (l : Int), .int .i64 (v : Int), .int .i64 (e : Int)] w (RetQ .i64 3 w (posS k f l v e)) := by
  have hok := oks h1 h2 h3 hl hv he
  rw [posS_ok hok]
  have hI := Lib.hid (fun (u : World) => refValidR_any (k := (k : Int)) (f := (f : Int)) (l := (l : Int)) (w := u))
  rw [okB_of h1 h2 h3 hl] at hI
  have hB := Lib.hid (refBuffer_any (f := f) (l := l) (w := w) h1 h2)
  have hsz := siz_le h1 h2 hl
  have hS := Lib.hid (fun (u : World) => refStart_any (v := v) (w := u) h1 h2 hsz.1 hsz.2.1 hv)
  have hlt := start_lt (k := k) (n := sizN k l) (v := v) hsz.1
  have hge : ∀ x ∈ cirI k f l, x = -1 ∨ 0 ≤ x := buf_ge
  generalize cirI k f l = cir at *
  generalize startN k (sizN k l) v = s at *
  generalize sizN k l = N at *
  have hU := Lib.hid (fun (A : Option Addr) (c : Nat) (u : World) (hR : Rd .i64 u u.heap.size A N cir) => refUsable_any (c := c) hR hsz.2.2)
  have hv1 : (v : Int) ≤ 3 := by omega
  have hv0 : (0 : Int) ≤ (v : Int) := by omega
  have he' : (e : Int) ≤ 131072 := by omega
  have he0 : (0 : Int) ≤ (e : Int) := by omega
  have hN1 : (1 : Int) ≤ (N : Int) := by omega
  have hN2 : (N : Int) ≤ 18528 := by omega
  have HS := Lib.hid hlt
  have HNN := Lib.hid hsz.2.2
  have HE := Lib.hid he
  clear h1 h2 h3 hl hv hok hsz
  by_cases hnone : 0 < e ∧ usable cir = 0
  · rw [if_pos hnone]
    rw [hnone.2] at hU
    have hep : (0 : Int) < (e : Int) := by omega
    rw [show (((0 : Nat) : Int)) = 0 from rfl] at hU
    clear hnone
    go_enter Tryd.func58, Tryd.ntmps58
    go_wp2_with (first | (go_at_call 24; refine (hI.out _).mono ?_; rintro e w ⟨rfl, rfl⟩) | fail)
    refine hB.out.mono ?_
    rintro e1 w1 ⟨A1, c1, rfl, R1, b1⟩
    have HU := Lib.hid (hU.out _ c1 _ R1)
    have HB := Lib.hid b1
    clear hB hU R1 b1
    go_wp2_with (first | (go_at_call 72; refine HU.out.mono ?_; rintro e w ⟨rfl, rfl⟩) | fail)
    go_ret2
    exact RetQ.nil_ HB.out
  · rw [if_neg hnone]
    have hlr := Lib.hid (selL_length cir s e)
    have huse : Hid (0 < e → 1 ≤ usable cir) := Lib.hid (fun h => by
      rcases Nat.eq_zero_or_pos (usable cir) with h0 | h0
      · exact absurd ⟨h, h0⟩ hnone
      · exact h0)
    obtain ⟨Z, hZ⟩ : ∃ Z, e * N = Z := ⟨_, rfl⟩
    have hZl : (Z : Int) ≤ 2428502016 := by
      have := Nat.mul_le_mul he HNN.out
      omega
    have HZ := Lib.hid hZ
    generalize hu0 : usable cir = us at *
    have HU0 := Lib.hid hu0
    have hcase : (e = 0) ∨ (0 < e ∧ 1 ≤ us) := by
      rcases Nat.eq_zero_or_pos e with h | h
      · exact .inl h
      · exact .inr ⟨h, huse.out h⟩
    clear hnone hZ hu0 huse hlt he
    have hcs := Lib.hid (fun (t : Nat) (hml : (s + t) % N < N) (hlen : cir.length = N) => cnt_step (l := cir) (s := s) (t := t) (by rw [hlen]; exact HS.out) (x := cir[(s + t) % N]?.getD 0) (by
      rw [hlen, List.getElem?_eq_getElem (by rw [hlen]; exact hml)]
      rfl))
    have hst := Lib.hid (fun (t : Nat) (hml : (s + t) % N < N) (hlen : cir.length = N) => sel_step (l := cir) (s := s) (t := t) (by rw [hlen]; exact HS.out) (x := cir[(s + t) % N]?.getD 0) (by
      rw [hlen, List.getElem?_eq_getElem (by rw [hlen]; exact hml)]
      rfl))
    go_enter Tryd.func58, Tryd.ntmps58
    go_wp2_with (first | (go_at_call 24; refine (hI.out _).mono ?_; rintro e w ⟨rfl, rfl⟩) | fail)
    refine hB.out.mono ?_
    rintro e1 w1 ⟨A1, c1, rfl, R1, b1⟩
    have HU := Lib.hid (hU.out _ c1 _ R1)
    have HB := Lib.hid b1
    have HR := Lib.hid R1
    have HL := Lib.hid R1.len
    clear hB hU R1 b1
    rcases hcase with h | ⟨h, hus⟩
    case' inl =>
      have hep : ¬ ((0 : Int) < (e : Int)) := by omega
      have hT := Lib.hid (fun (t : Nat) (h : cntT cir s t < e) => show t < Z by omega)
    case' inr =>
      have hep : (0 : Int) < (e : Int) := by omega
      have hus' : ((us : Int) == 0) = false := by simp; omega
      have hT := Lib.hid (fun (t : Nat) (h : cntT cir s t < e) => show t < Z by
        have hh := cnt_turns (by rw [HU0.out]; exact hus) h
        rw [HL.out] at hh
        have := HZ.out
        omega)
    all_goals
      go_wp2_with (first | (go_at_call 72; refine HU.out.mono ?_; rintro e w ⟨rfl, rfl⟩) | (go_at_call 73; refine (hS.out _).mono ?_; rintro e w ⟨rfl, rfl⟩) | fail)
      clear HU
      go_loopw [13, 14] (fun o i wr => ∃ (t u p : Nat) (A : Option Addr) (c : Nat), u ≤ e ∧ p ≤ s + Z ∧ i = .int .i64 (p : Int) ∧ o = .slice A u c ∧ Hid (p = s + t ∧ u = cntT cir s t) ∧ Hid (wr.ownsRow w.heap.size 3 1 (.slice A u c) u ((selL cir s u).map (Value.int .i64))) ∧ Hid (Below w.heap.size w wr)) (fun _ i _ => (s + Z) - (intOf i).toNat)
      case atStart => exact ⟨0, 0, s, none, 0, Nat.zero_le _, by omega, rfl, rfl, Lib.hid ⟨rfl, cntT_zero.symm⟩, Lib.hid (by simpa [selL] using World.ownsRow_nil w w.heap.size 3 1), Lib.hid (Below.refl _ _)⟩
      case round =>
        obtain ⟨t, u, p, A, c, hue, hp, rfl, rfl, hpu, hO, hb⟩ := hrel
        by_cases hlt : u < e
        · first
          | (exfalso; omega)
          | (
            have hz : (u : Int) < (e : Int) := by omega
            have htZ := hT.out t (by rw [← hpu.out.2]; exact hlt)
            have hps : p < s + Z := by have := hpu.out.1; omega
            have hpI : (p : Int) ≤ 2428520544 := by have := HS.out; have := HNN.out; omega
            have hml : p % N < N := Nat.mod_lt _ (by have := HS.out; omega)
            obtain ⟨b, off, rfl, hbl, hc⟩ := HR.out.cells _ hml
            have hc' := (hb.out.cell (p := ⟨b, off + p % N, none⟩) hbl).trans hc
            have h1 := hcs.out t (by rw [← hpu.out.1]; exact hml) HL.out
            have h2 := hst.out t (by rw [← hpu.out.1]; exact hml) HL.out
            rw [← hpu.out.1, ← hpu.out.2] at h1 h2
            have e1 : (p : Int) % (N : Int) = ((p % N : Nat) : Int) := rfl
            generalize cir[p % N]?.getD 0 = x at *
            generalize p % N = mm at *
            have hm1 : (mm : Int) < (N : Int) := by omega
            by_cases hx : x < 0
            · have h3 := h1.2 (decide_eq_false (by omega))
              have hpu2 : Hid (p + 1 = s + (t + 1) ∧ u = cntT cir s (t + 1)) := Lib.hid ⟨by have := hpu.out.1; omega, h3.symm⟩
              clear h1 h2 h3 hc hbl hpu htZ hml hlt
              go_wp2_with fail
              go_roundw
              case rel => exact ⟨t + 1, u, p + 1, _, _, hue, by omega, by go_num, rfl, hpu2, hO, hb⟩
              all_goals (first | (simp [intOf]; done) | (simp [intOf]; omega))
            · have hux : useB x = true := decide_eq_true (by omega)
              have h3 := (h1.1 hux).1
              have h4 := h2 hux
              rw [h3] at h4
              have hpu2 : Hid (p + 1 = s + (t + 1) ∧ u + 1 = cntT cir s (t + 1)) := Lib.hid ⟨by have := hpu.out.1; omega, h3.symm⟩
              obtain ⟨A2, c2, w2, hrun, hO2, hb2⟩ := ints_app' hO.out hb.out (by have := HE.out; omega) x
              rw [h4] at hO2
              have HRn := Lib.hid hrun
              have HO2 := Lib.hid hO2
              have HB2 := Lib.hid hb2
              have hx0 : 0 ≤ x := by omega
              clear h1 h2 h3 h4 hc hbl hpu htZ hml hux hrun hO2 hb2 hO hb hx
              go_wp2_with (at_builtin; refine Lib.wpList_append_run _ rfl _ _ _ _ rfl _ _ rfl rfl _ _ HRn.out ?_)
              go_roundw
              case rel => exact ⟨t + 1, u + 1, p + 1, A2, c2, by omega, by omega, by go_num, rfl, hpu2, HO2, HB2⟩
              all_goals (first | (simp [intOf]; done) | (simp [intOf]; omega)))
        · obtain rfl : u = e := by omega
          clear hlt
          go_wp2_with fail
          go_ret2
          exact RetQ.mk_ hlr.out hO.out HB.out.size (HB.out.trans (hb.out.mono HB.out.size)) rfl
theorem refPositions_no {k f l v e : Int} {w : World} (h : (okB k f l && okV v && okE e) = false) :
    Calls Tryd.prog 58 #[.int .i64 k, .int .i64 f, .int .i64 l, .int .i64 v, .int .i64 e] w (RetQ .i64 3 w ([], 2)) := by
  have hI := Lib.hid (fun (u : World) => refValidR_any (k := k) (f := f) (l := l) (w := u))
  have hb := Below.refl w.heap.size w
  generalize okB k f l = b1 at *
  cases b1
  · clear h
    go_enter Tryd.func58, Tryd.ntmps58
    go_wp2_with (first | (go_at_call 24; refine (hI.out _).mono ?_; rintro e w ⟨rfl, rfl⟩) | fail)
    go_ret2
    exact RetQ.nil_ hb
  · have h4 : v < 0 ∨ (0 ≤ v ∧ 3 < v) ∨ ((0 ≤ v ∧ v ≤ 3) ∧ e < 0) ∨ ((0 ≤ v ∧ v ≤ 3) ∧ 0 ≤ e ∧ 131072 < e) := by
      simp only [Bool.true_and, okV, okE] at h
      by_cases a1 : v < 0
      · exact .inl a1
      · by_cases a2 : 3 < v
        · exact .inr (.inl ⟨by omega, a2⟩)
        · rw [decide_eq_true (show 0 ≤ v by omega), decide_eq_true (show v < 4 by omega)] at h
          by_cases a3 : e < 0
          · exact .inr (.inr (.inl ⟨⟨by omega, by omega⟩, a3⟩))
          · refine .inr (.inr (.inr ⟨⟨by omega, by omega⟩, by omega, ?_⟩))
            simp at h
            omega
    clear h
    rcases h4 with a | ⟨a, a'⟩ | ⟨⟨a, a'⟩, a2⟩ | ⟨⟨a, a'⟩, a2, a3⟩
    all_goals
      go_enter Tryd.func58, Tryd.ntmps58
      go_wp2_with (first | (go_at_call 24; refine (hI.out _).mono ?_; rintro e w ⟨rfl, rfl⟩) | fail)
      go_ret2
      exact RetQ.nil_ hb
theorem refPositions_any {k f l v e : Int} {w : World} :
    Calls Tryd.prog 58 #[.int .i64 k, .int .i64 f, .int .i64 l, .int .i64 v, .int .i64 e] w (RetQ .i64 3 w (posS k f l v e)) := by
  by_cases h : (okB k f l && okV v && okE e) = true
  · rw [Bool.and_eq_true, Bool.and_eq_true] at h
    obtain ⟨⟨hB, hV⟩, hE⟩ := h
    obtain ⟨K, F, L, rfl, rfl, rfl, h1, h2, h3, h4⟩ := okB_nat hB
    obtain ⟨V, rfl, h5⟩ := okV_nat hV
    obtain ⟨E, rfl, h6⟩ := okE_nat hE
    exact refPositions_ok h1 h2 h3 h4 h5 h6
  · have h := Bool.eq_false_iff.2 h
    rw [posS_no h]
    exact refPositions_no h
end Go.Proofs.YtoegamlpgenfcaaDoor
