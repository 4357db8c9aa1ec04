/-
  coefficients.
-/
import Derived.Test.YtfplklbicimhkaaDoorFa
import Derived.Deep.LoopGhost
namespace Go.Proofs.YtfplklbicimhkaaDoor
open Go.RowKit

theorem coef1_any {P : Nat} {p f : Nat} {w : World} (hp : 1 ≤ p) (hc : w.cell? ⟨P, 1, none⟩ = some (.int .i64 (f : Int))) :
    Calls Tryd.prog 52 #[.int .i64 (p : Int), .pointer (some ⟨P, 0, none⟩)] w fun e w' => e = .returned (.bool (f % p == 0)) ∧ w' = w := by
  have hp0 : (p : Int) ≠ 0 := by omega
  have hm : (f : Int) % (p : Int) = ((f % p : Nat) : Int) := rfl
  by_cases h : f % p = 0
  · rw [h] at hm ⊢
    clear h
    go_enter Tryd.func52, Tryd.ntmps52
    go_wp2_with fail
    go_ret
    exact ⟨rfl, rfl⟩
  · have e : (f % p == 0) = false := by simp [h]
    rw [e]
    have hne : ((f % p : Nat) : Int) ≠ 0 := by omega
    have hb := Lib.hid (beq_eq_false_iff_ne.2 hne)
    generalize f % p = z at *
    clear h e
    go_enter Tryd.func52, Tryd.ntmps52
    go_wp2_with fail
    go_ret
    exact ⟨ret_bool hb.out, rfl⟩
theorem hitL_take {f : Nat} {l : List Nat} {k : Nat} (hk : k < l.length) (h : hitL f (l.take k) = false) : hitL f (l.take (k + 1)) = (f % (l[k]?.getD 0) == 0) := by
  unfold hitL at *
  rw [List.take_add_one, List.any_append, h, Bool.false_or, List.getElem?_eq_getElem hk]
  simp
theorem hitL_more {f : Nat} {l : List Nat} {k : Nat} (h : hitL f (l.take k) = true) : hitL f l = true := by
  unfold hitL at *
  rw [List.any_eq_true] at *
  obtain ⟨x, hx, he⟩ := h
  exact ⟨x, List.mem_of_mem_take hx, he⟩
set_option maxHeartbeats 1000000 in
theorem indexFunc_any {A : Option Addr} {n c P f B : Nat} {l : List Nat} {w : World} (hR : Rd .i64 w B A n (l.map fun p : Nat => (p : Int))) (hn : n ≤ 5) (hl : ∀ p ∈ l, 1 ≤ p) (hc : w.cell? ⟨P, 1, none⟩ = some (.int .i64 (f : Int))) :
    Calls Tryd.prog 57 #[.slice A n c, .func (.func 52) #[] #[.pointer (some ⟨P, 0, none⟩)]] w fun e w' => (∃ r : Int, e = .returned (.int .i64 r) ∧ decide (0 ≤ r) = hitL f l) ∧ w' = w := by
  have hln : l.length = n := by have := hR.len; simpa using this
  have HL := Lib.hid hln
  have hcl := Lib.hid (fun (p : Nat) (hp : 1 ≤ p) => coef1_any (p := p) hp hc)
  clear hc hln
  go_enter Tryd.func57, Tryd.ntmps57
  go_wp2_with fail
  go_loop [8] (fun i => ∃ k : Nat, k ≤ n ∧ i = .int .i64 (k : Int) ∧ Hid (hitL f (l.take k) = false)) (fun i => n - (intOf i).toNat)
  case atStart => exact ⟨0, Nat.zero_le _, rfl, Lib.hid rfl⟩
  case round =>
    obtain ⟨k, hk, rfl, hh⟩ := hrel
    by_cases hlt : k < n
    · obtain ⟨b, off, rfl, hb, hcell⟩ := hR.cells k hlt
      have hkl : k < l.length := by rw [HL.out]; exact hlt
      have hT := hitL_take hkl hh.out
      have hg : (l.map fun p : Nat => (p : Int))[k]?.getD 0 = ((l[k]?.getD 0 : Nat) : Int) := by
        rw [List.getElem?_map, List.getElem?_eq_getElem hkl]
        rfl
      rw [hg] at hcell
      have hp1 : 1 ≤ l[k]?.getD 0 := by
        rw [List.getElem?_eq_getElem hkl]
        exact hl _ (List.getElem_mem hkl)
      have HC := Lib.hid (hcl.out _ hp1)
      have hk0 : (0 : Int) ≤ (k : Int) := by omega
      have hk1 : (k : Int) < (n : Int) := by omega
      have HF : Hid (hitL f (l.take (k + 1)) = true → hitL f l = true) := Lib.hid hitL_more
      have HT := Lib.hid hT
      clear hT hg hR hl hp1 hh
      by_cases hz : (f % (l[k]?.getD 0) == 0) = true
      · have HE := HF.out (HT.out.trans hz)
        have HEE := Lib.hid HE
        rw [hz] at HC
        generalize l[k]?.getD 0 = p at *
        clear hz HT HF HE
        go_wp2_with (go_at_call 52; refine HC.out.mono ?_; rintro e w ⟨rfl, rfl⟩)
        go_ret
        exact ⟨⟨_, rfl, by rw [HEE.out]; exact decide_eq_true hk0⟩, rfl⟩
      · have hz := Bool.eq_false_iff.2 hz
        have HE := Lib.hid (HT.out.trans hz)
        rw [hz] at HC
        generalize l[k]?.getD 0 = p at *
        clear hz HT HF
        go_wp2_with (go_at_call 52; refine HC.out.mono ?_; rintro e w ⟨rfl, rfl⟩)
        go_round
        case rel => exact ⟨k + 1, by omega, by go_num, HE⟩
        case measure => simp [intOf]; omega
    · obtain rfl : k = n := by omega
      have HE := hh.out
      rw [List.take_of_length_le (Nat.le_of_eq HL.out)] at HE
      have HEE := Lib.hid HE
      clear HE hh hR hlt
      go_wp2_with fail
      go_ret
      exact ⟨⟨_, rfl, by rw [HEE.out]; decide⟩, rfl⟩
theorem containsFunc_any {A : Option Addr} {n c P f B : Nat} {l : List Nat} {w : World} (hR : Rd .i64 w B A n (l.map fun p : Nat => (p : Int))) (hn : n ≤ 5) (hl : ∀ p ∈ l, 1 ≤ p) (hc : w.cell? ⟨P, 1, none⟩ = some (.int .i64 (f : Int))) :
    Calls Tryd.prog 51 #[.slice A n c, .func (.func 52) #[] #[.pointer (some ⟨P, 0, none⟩)]] w fun e w' => e = .returned (.bool (hitL f l)) ∧ w' = w := by
  have hI := Lib.hid (indexFunc_any (c := c) hR hn hl hc)
  clear hR hl hc
  go_enter Tryd.func51, Tryd.ntmps51
  go_wp2_with (go_at_call 57; refine hI.out.mono ?_; rintro e w ⟨⟨r, rfl, hr⟩, rfl⟩)
  go_ret
  exact ⟨ret_bool (by first | exact hr | rfl), rfl⟩
theorem Three.lt {w : World} {B : Nat} {t : TypeId} {x y z : Value} (h : Three w B t x y z) : B < w.heap.size := (Array.getElem?_eq_some_iff.1 h).1
theorem Three.frozen {w : World} {B : Nat} {t : TypeId} {x y z : Value} (h : Three w B t x y z) (j : Nat) : w.frozen? ⟨B, j, none⟩ = false := by
  unfold Three at h
  simp [World.frozen?, h]
theorem Three.set1 {w : World} {B : Nat} {t : TypeId} {x y z : Value} (h : Three w B t x y z) (u : Value) : Three (w.setCell ⟨B, 1, none⟩ u) B t x u z := arr_set h
theorem Three.set2 {w : World} {B : Nat} {t : TypeId} {x y z : Value} (h : Three w B t x y z) (u : Value) : Three (w.setCell ⟨B, 2, none⟩ u) B t x y u := arr_set h
theorem Three.put {w : World} {B : Nat} {t : TypeId} {x y z : Value} (h : Three w B t x y z) (a b c : Value) : Three (((w.setCell ⟨B, 0, none⟩ a).setCell ⟨B, 1, none⟩ b).setCell ⟨B, 2, none⟩ c) B t a b c := arr_set (arr_set (arr_set h))
theorem Three.block {w w' : World} {B : Nat} {t : TypeId} {x y z : Value} (h : Three w B t x y z) (hb : w'.heap[B]? = w.heap[B]?) : Three w' B t x y z := hb.trans h
theorem Three.below {w w' : World} {B N : Nat} {t : TypeId} {x y z : Value} (h : Three w B t x y z) (hb : Below N w w') (hB : B < N) : Three w' B t x y z := h.block (hb.block B hB)
theorem Three.other {w : World} {B : Nat} {t : TypeId} {x y z : Value} (h : Three w B t x y z) {p : Addr} (hp : p.block ≠ B) (u : Value) : Three (w.setCell p u) B t x y z := h.block (Below.heap_setCell _ _ _ _ (Ne.symm hp))
theorem Three.alloc {w : World} {B : Nat} {t : TypeId} {x y z : Value} (h : Three w B t x y z) (o : Obj) : Three (w.alloc o) B t x y z := h.block (Below.heap_alloc _ _ _ h.lt)
theorem prodL_snoc {l : List Nat} {j : Nat} (hj : j < l.length) : prodL (l.take (j + 1)) = prodL (l.take j) * (l[j]?.getD 0) := by
  unfold prodL
  rw [List.take_add_one, List.foldl_append, List.getElem?_eq_getElem hj]
  rfl
theorem coef_results {W : World} {tmps : Array Value} {B : Nat} {k f1 f2 : Nat} {t : TypeId} (h2 : tmps.getD 2 undef = .pointer (some ⟨B, 0, none⟩)) (hL : Three W B t (.int .i64 (k : Int)) (.int .i64 (f1 : Int)) (.int .i64 (f2 : Int))) :
    (results Tryd.f46 tmps).run Tryd.prog W = .ok (parV k f1 f2) W := by
  have c0 := hL.cell0
  have c1 := hL.cell1
  have c2 := hL.cell2
  simp only [Array.getD_eq_getD_getElem?] at h2
  simp [results, Tryd.results46, go_sem, h2, c0, c1, c2, parV, parA]
set_option maxRecDepth 100000 in
set_option maxHeartbeats 4000000 in
theorem coefficients_any {k : Nat} {w : World} (hs : IsSize k) :
    Calls Tryd.prog 46 #[.int .i64 (k : Int)] w fun e w' => e = .returned (parV k (f1N k) (f2N k)) ∧ Below w.heap.size w w' := by
  have hP := Lib.hid (fun (u : World) => primesOf_any (w := u) hs)
  have hk := size_le hs
  have hS := Lib.hid hs
  have hT0 := Three.new (w.alloc (.cells #[.int .i64 0, .int .i64 0, .int .i64 0] 56)) 56 (.int .i64 (k : Int)) (.int .i64 3) (.int .i64 1)
  have hU0 := (Three.new w 56 (.int .i64 0) (.int .i64 0) (.int .i64 0)).alloc (.cells #[.int .i64 (k : Int), .int .i64 3, .int .i64 1] 56)
  have hb0 := below_two (w := w) (.cells #[.int .i64 0, .int .i64 0, .int .i64 0] 56) (.cells #[.int .i64 (k : Int), .int .i64 3, .int .i64 1] 56)
  rw [World.size_alloc] at hT0
  clear hs
  go_enter Tryd.func46, Tryd.ntmps46
  go_wp2_with fail
  have hs2 : ((w.alloc (.cells #[.int .i64 0, .int .i64 0, .int .i64 0] 56)).alloc (.cells #[.int .i64 (k : Int), .int .i64 3, .int .i64 1] 56)).heap.size = w.heap.size + 2 := by simp
  generalize (w.alloc (.cells #[.int .i64 0, .int .i64 0, .int .i64 0] 56)).alloc (.cells #[.int .i64 (k : Int), .int .i64 3, .int .i64 1] 56) = W at *
  refine (hP.out _).mono ?_
  rintro e w1 ⟨rfl, hR, hb1⟩
  rw [hs2] at hb1 hR ⊢
  have hT1 := Lib.hid (hT0.below hb1 (by omega))
  have hU1 := Lib.hid (hU0.below hb1 (by omega))
  have hB1 := Lib.hid (hb0.trans (hb1.mono (by omega)))
  have hR1 := Lib.hid hR
  have hLL : Hid (primI k = (primL k).map fun p : Nat => (p : Int)) := Lib.hid rfl
  have hp5 := prim_len hS.out
  clear hT0 hU0 hb0 hb1 hR hP hs2
  go_wp2_with fail
  have hPM := Lib.hid (fun (p : Nat) (hp : p ∈ primL k) => prim_mem hS.out hp)
  have hPP := Lib.hid (prim_prod hS.out)
  have hPT := Lib.hid (fun (j : Nat) (hj : j ≤ 5) => prim_part hS.out hj)
  have hFC := Lib.hid (f1N_cop hS.out)
  have hF64 := Lib.hid (Nat.le_of_lt (qpOk_size hS.out).le1)
  have hFF := Lib.hid (fun (f : Nat) (h1 : 3 ≤ f) (h2 : f % 2 = 1) (h3 : f ≤ 64) => hit_gcd hS.out h1 h2 h3)
  generalize hl : primL k = l at *
  clear hl
  generalize hL : l.length = L at *
  have HL := Lib.hid hL
  clear hL
  go_loopw [13] (fun i wr => ∃ j : Nat, j ≤ L ∧ i = .int .i64 (j : Int) ∧ Hid (Three wr (w.heap.size + 1) 56 (.int .i64 (k : Int)) (.int .i64 3) (.int .i64 (prodL (l.take j) : Nat))) ∧ Hid (Three wr w.heap.size 56 (.int .i64 0) (.int .i64 0) (.int .i64 0)) ∧
      Hid (Below w.heap.size w wr) ∧ Hid (Rd .i64 wr w1.heap.size (some ⟨w.heap.size + 2, 0, none⟩) L (primI k))) (fun i _ => L - (intOf i).toNat)
  case atStart => exact ⟨0, Nat.zero_le _, rfl, hT1, hU1, hB1, hR1⟩
  case round =>
    clear hT1 hU1 hB1 hR1
    obtain ⟨j, hj, rfl, hT, hU, hB, hR⟩ := hrel
    by_cases hlt : j < L
    · obtain ⟨b, off, hA, hb, hcell⟩ := hR.out.cells j hlt
      injection hA with hA
      injection hA with e1 e2
      subst e1 e2
      have hg : (primI k)[j]?.getD 0 = ((l[j]?.getD 0 : Nat) : Int) := by
        rw [hLL.out, List.getElem?_map, List.getElem?_eq_getElem (by rw [HL.out]; exact hlt)]
        rfl
      rw [hg] at hcell
      have hsn := prodL_snoc (l := l) (j := j) (by rw [HL.out]; exact hlt)
      have hle := hPT.out (j + 1) (by omega)
      have hmul : ((prodL (l.take j) : Nat) : Int) * ((l[j]?.getD 0 : Nat) : Int) = ((prodL (l.take (j + 1)) : Nat) : Int) := by rw [hsn]; rfl
      have c2 := hT.out.cell2
      have f2 := hT.out.frozen 2
      have hT2 := Lib.hid (hT.out.set2 (.int .i64 ((prodL (l.take (j + 1)) : Nat) : Int)))
      have hU2 := Lib.hid (hU.out.other (p := ⟨w.heap.size + 1, 2, none⟩) (by simp) (.int .i64 ((prodL (l.take (j + 1)) : Nat) : Int)))
      have hB2 := Lib.hid (hB.out.setCell (p := ⟨w.heap.size + 1, 2, none⟩) (by simp) (.int .i64 ((prodL (l.take (j + 1)) : Nat) : Int)))
      have hR2 := Lib.hid (hR.out.block (w' := wr.setCell ⟨w.heap.size + 1, 2, none⟩ (.int .i64 ((prodL (l.take (j + 1)) : Nat) : Int))) (fun a ha => by
        injection ha with ha
        subst ha
        exact Below.heap_setCell _ _ _ _ (by simp)))
      have hk1 : (j : Int) < (L : Int) := by omega
      rw [Nat.zero_add] at hcell
      generalize hp2 : prodL (l.take (j + 1)) = p2 at *
      have HP2 := Lib.hid hp2
      clear hp2
      generalize prodL (l.take j) = p1 at *
      generalize l[j]?.getD 0 = q at *
      clear hg hsn hT hU hB hR
      go_wp2_with fail
      go_roundw
      case rel => exact ⟨j + 1, by omega, by go_num, by rw [HP2.out]; exact hT2, hU2, hB2, hR2⟩
      case measure => simp [intOf]; omega
    · obtain rfl : j = L := by omega
      have hT3 := hT.out
      rw [List.take_of_length_le (Nat.le_of_eq HL.out), hPP.out] at hT3
      have HT3 := Lib.hid hT3
      clear hT3 hT hlt
      go_wp2_with fail
      obtain ⟨wo, rfl⟩ : ∃ wo : World, wo = wr := ⟨_, rfl⟩
      go_loopg [28] 97 (fun g _ wr => ∃ f : Nat, f ≤ 64 ∧ g = 100 - f ∧ Hid (f % 2 = 1 ∧ 3 ≤ f ∧ f ≤ f1N k) ∧ Hid (Three wr (w.heap.size + 1) 56 (.int .i64 (k : Int)) (.int .i64 (f : Int)) (.int .i64 (f2N k : Nat))) ∧ Hid (Three wr w.heap.size 56 (.int .i64 0) (.int .i64 0) (.int .i64 0)) ∧
        Hid (Below w.heap.size w wr) ∧ Hid (Rd .i64 wr w1.heap.size (some ⟨w.heap.size + 2, 0, none⟩) j (primI k)))
      case atStart => exact ⟨3, by decide, by decide, Lib.hid ⟨rfl, Nat.le_refl _, hFC.out.2⟩, HT3, hU, hB, hR⟩
      case round =>
        clear HT3 hU hB hR
        obtain ⟨f, hf, rfl, hF, hT, hU, hB, hR⟩ := hrel
        have hmf := makeFunc_run
        have hR' := hR.out
        rw [hLL.out] at hR'
        have hCF := containsFunc_any (c := j) hR' hp5 (fun p hp => by have := (hPM.out p hp).1; omega) hT.out.cell1
        rw [hFF.out f hF.out.2.1 hF.out.1 hf] at hCF
        have HCF := Lib.hid hCF
        clear hCF hR'
        by_cases hg : 1 < Nat.gcd f k
        · rw [decide_eq_true hg] at HCF
          have hnx := f1N_next hS.out hF.out.1 hF.out.2.2 hg
          have HN : Hid ((f + 2) % 2 = 1 ∧ 3 ≤ f + 2 ∧ f + 2 ≤ f1N k) := Lib.hid ⟨by have := hF.out.1; omega, by have := hF.out.2.1; omega, hnx⟩
          have hf2 : f + 2 ≤ 64 := by have := hF64.out; omega
          have c1 := hT.out.cell1
          have fr1 := hT.out.frozen 1
          have hT2 := Lib.hid (hT.out.set1 (.int .i64 ((f : Int) + 2)))
          have hU2 := Lib.hid (hU.out.other (p := ⟨w.heap.size + 1, 1, none⟩) (by simp) (.int .i64 ((f : Int) + 2)))
          have hB2 := Lib.hid (hB.out.setCell (p := ⟨w.heap.size + 1, 1, none⟩) (by simp) (.int .i64 ((f : Int) + 2)))
          have hR2 := Lib.hid (hR.out.block (w' := wr.setCell ⟨w.heap.size + 1, 1, none⟩ (.int .i64 ((f : Int) + 2))) (fun a ha => by
            injection ha with ha
            subst ha
            exact Below.heap_setCell _ _ _ _ (by simp)))
          clear hnx hF hT hU hB hR hg
          go_wp2_with (go_at_call 51; refine HCF.out.mono ?_; rintro e w9 ⟨rfl, rfl⟩)
          go_roundg (100 - (f + 2))
          case measure => omega
          case rel => exact ⟨f + 2, hf2, rfl, HN, hT2, hU2, hB2, hR2⟩
        · rw [decide_eq_false hg] at HCF
          have hg0 : 0 < Nat.gcd f k := Nat.gcd_pos_of_pos_right _ (by omega)
          have hfe := f1N_found hS.out hF.out.2.1 hF.out.1 hF.out.2.2 (by omega)
          have hT2 := hT.out
          rw [hfe] at hT2
          generalize hF1 : f1N k = F1 at *
          generalize hF2 : f2N k = F2 at *
          have HF1 := Lib.hid hF1
          have HF2 := Lib.hid hF2
          clear hF1 hF2
          have a0 := hT2.cell0
          have a1 := hT2.cell1
          have a2 := hT2.cell2
          have b0 := hU.out.cell0
          have b1 := hU.out.cell1
          have b2 := hU.out.cell2
          have g0 := hU.out.frozen 0
          have g1 := hU.out.frozen 1
          have g2 := hU.out.frozen 2
          have hU2 := Lib.hid (hU.out.put (.int .i64 (k : Int)) (.int .i64 (F1 : Int)) (.int .i64 (F2 : Int)))
          have hB2 := Lib.hid (((hB.out.setCell (p := ⟨w.heap.size, 0, none⟩) (Nat.le_refl _) (.int .i64 (k : Int))).setCell (p := ⟨w.heap.size, 1, none⟩) (Nat.le_refl _) (.int .i64 (F1 : Int))).setCell (p := ⟨w.heap.size, 2, none⟩) (Nat.le_refl _) (.int .i64 (F2 : Int)))
          clear hfe hF hT hU hB hR hg hg0 hT2
          go_wp2_with (go_at_call 51; refine HCF.out.mono ?_; rintro e w9 ⟨rfl, rfl⟩)
          refine bodyPost_ret (coef_results ?_ hU2.out) rfl ⟨by rw [HF1.out, HF2.out], hB2.out⟩
          rfl
end Go.Proofs.YtfplklbicimhkaaDoor
