/-
  The walk of SoftSigns (made by tools/genL4s.py).
-/
import Derived.Test.YtkkombhpiagngaaDoorL2
namespace Go.Proofs.YtkkombhpiagngaaDoor
open Go.RowKit Go.Shelf BigFrame

attribute [local go_sem] Oper.semAt_some

theorem Marks.ownFrom {β : Type} {B : Nat} {Ds : List Nat} (hB : ∀ D ∈ Ds, D < B) : OwnFrom B (fun (_ : β) W => Marks W Ds) := fun s A C row hs hg hr =>
  hs.grown hg (fun D hD e => by have h1 := hB D hD; have h2 := (hr D e.symm).1; omega)
theorem ownsRow_other {W W' : World} {base n : Nat} {e : TypeId} {v : Value} {xs : List Value} {row : Option Nat} (h : W.ownsRow base e 1 v n xs) (hg : W.grownBy W' row) (hne : ∀ g, v.ownBlock = some g → row ≠ some g) : W'.ownsRow base e 1 v n xs :=
  ownsRow_block h (fun g hgo => hg.block g (h.lt g hgo).2 (fun e => hne g hgo e.symm))
theorem below_grownE {w w' : World} (h : Below w.heap.size w w') : w.grownBy w' none := ⟨h.os, h.tape, h.output, h.size, fun k hk _ => h.block k hk⟩
/-- The counter, the turn, and what lay there before. -/
def EcI (wb : World) (Nc Tc t : Nat) (Ds : List Nat) (k : Nat) (W : World) : Prop :=
  (Boxed W Nc 3 (.int .i64 (k : Int)) ∧ Boxed W Tc 3 (.int .i64 (t : Int))) ∧ Below wb.heap.size wb W ∧ Marks W Ds
theorem ecI_from {wb : World} {Nc Tc t B : Nat} {Ds : List Nat} (hB : wb.heap.size ≤ B) (hD : ∀ D ∈ Ds, D < B) : OwnFrom B (EcI wb Nc Tc t Ds) :=
  OwnFrom.and (Own.from (fun k A C row hs hg hr => ⟨boxed_own Nc 3 (fun k : Nat => .int .i64 (k : Int)) k A C row hs.1 hg hr, boxed_own Tc 3 (fun _ : Nat => .int .i64 (t : Int)) k A C row hs.2 hg hr⟩) _)
    (OwnFrom.and (ownFrom_below (Nat.le_refl _) hB) (Marks.ownFrom hD))
theorem ecI_step {wb : World} {Nc Tc t : Nat} {Ds : List Nat} {k : Nat} {W : World} (h : EcI wb Nc Tc t Ds k W) (hN : wb.heap.size ≤ Nc) (hne : Tc ≠ Nc) (hD : Nc ∉ Ds) (x : Int) (hx : x = ((k + 1 : Nat) : Int)) :
    EcI wb Nc Tc t Ds (k + 1) (W.setCell ⟨Nc, 0, none⟩ (.int .i64 x)) := by
  subst hx
  exact ⟨⟨h.1.1.set _, h.1.2.other hne _⟩, h.2.1.setCell (p := ⟨Nc, 0, none⟩) hN _, h.2.2.setCell _ hD⟩
theorem signs_results {W : World} {tmps : Array Value} {B : Nat} (h4 : tmps.getD 4 undef = .pointer (some ⟨B, 0, none⟩)) (hb : Boxed W B 4 (.bool true)) :
    (results Tryd.f8 tmps).run Tryd.prog W = .ok (.bool true) W := by
  have hc := hb.cell
  simp only [Array.getD_eq_getD_getElem?] at h4
  simp [results, Tryd.results8, go_sem, h4, hc]
theorem ownsRow_below {w w' : World} {base n N : Nat} {e : TypeId} {v : Value} {xs : List Value} (h : w.ownsRow base e 1 v n xs) (hb : Below N w w') (hN : w.heap.size ≤ N) : w'.ownsRow base e 1 v n xs := ownsRow_block h (fun g hg => hb.block g (Nat.lt_of_lt_of_le (h.lt g hg).2 hN))
def cntN (zs : List Int) (k : Nat) : Nat := (knownN zs k).length
def atL (zs : List Int) (k : Nat) : List Int := (knownN zs k).map fun i : Nat => (i : Int)
theorem atL_length (zs : List Int) (k : Nat) : (atL zs k).length = cntN zs k := by simp [atL, cntN]
theorem cnt_zero {zs : List Int} {k : Nat} (h : zs[k]?.getD 0 = 0) : cntN zs (k + 1) = cntN zs k := by unfold cntN; rw [knownN_succ, if_neg (by simpa using h)]
theorem cnt_one {zs : List Int} {k : Nat} (h : zs[k]?.getD 0 ≠ 0) : cntN zs (k + 1) = cntN zs k + 1 := by unfold cntN; rw [knownN_succ, if_pos h]; simp
theorem at_zero {zs : List Int} {k : Nat} (h : zs[k]?.getD 0 = 0) : atL zs (k + 1) = atL zs k := by unfold atL; rw [knownN_succ, if_neg (by simpa using h)]
theorem at_one {zs : List Int} {k : Nat} (h : zs[k]?.getD 0 ≠ 0) : atL zs (k + 1) = atL zs k ++ [(k : Int)] := by unfold atL; rw [knownN_succ, if_pos h]; simp
theorem cnt_le (zs : List Int) (k : Nat) : cntN zs k ≤ k := knownN_le zs k
/-- The k-th element, if it is known, is the next of all known ones. -/
theorem at_front {zs : List Int} {k : Nat} : ∀ m, k ≤ m → ∃ r, atL zs m = atL zs k ++ r := by
  intro m hm
  induction m with
  | zero => exact ⟨[], by obtain rfl : k = 0 := by omega
                          simp⟩
  | succ m ih =>
    by_cases h : k = m + 1
    · subst h; exact ⟨[], by simp⟩
    · obtain ⟨r, hr⟩ := ih (by omega)
      by_cases hz : zs[m]?.getD 0 = 0
      · exact ⟨r, by rw [at_zero hz, hr]⟩
      · exact ⟨r ++ [(m : Int)], by rw [at_one hz, hr, List.append_assoc]⟩
theorem at_get {zs : List Int} {k m : Nat} (hk : k < m) (h : zs[k]?.getD 0 ≠ 0) : (atL zs m)[cntN zs k]?.getD 0 = (k : Int) ∧ cntN zs k < cntN zs m := by
  obtain ⟨r, hr⟩ := at_front (zs := zs) m (show k + 1 ≤ m from hk)
  rw [at_one h] at hr
  have hl : cntN zs m = cntN zs k + 1 + r.length := by
    have := congrArg List.length hr
    rw [atL_length, List.length_append, List.length_append, atL_length] at this
    simpa using this
  refine ⟨?_, by omega⟩
  rw [hr, List.append_assoc, List.getElem?_append_right (by rw [atL_length]; exact Nat.le_refl _), atL_length, Nat.sub_self]
  rfl
/-- The slice of the indices, in its box. -/
def AtI (w : World) (Ab S u : Nat) (xs : List Int) (W : World) : Prop :=
  ∃ A c, Boxed W Ab 26 (.slice A u c) ∧ W.ownsRow w.heap.size 3 1 (.slice A u c) u (xs.map (Value.int .i64)) ∧ (∀ g, (Value.slice A u c).ownBlock = some g → S ≤ g)
theorem AtI.append {w W : World} {Ab S u c : Nat} {A : Option Addr} {xs : List Int} (x : Int) (hV : Boxed W Ab 26 (.slice A u c)) (hO : W.ownsRow w.heap.size 3 1 (.slice A u c) u (xs.map (Value.int .i64)))
    (hG : ∀ g, (Value.slice A u c).ownBlock = some g → S ≤ g) (hS : S ≤ W.heap.size) (hw : w.heap.size ≤ Ab) (hA : Ab < S) (hu : u < 1000000) :
    ∃ A2 c2 w2, (Builtin.append_ #[26, 26] 26 #[.slice A u c, .slice (some ⟨W.heap.size, 0, none⟩) 1 1]).run Tryd.prog (W.alloc (.cells #[.int .i64 x] 3)) = .ok (.slice A2 (u + 1) c2) w2 ∧
      Boxed w2 Ab 26 (.slice A u c) ∧ AtI w Ab S (u + 1) (xs ++ [x]) (w2.setCell ⟨Ab, 0, none⟩ (.slice A2 (u + 1) c2)) ∧
      Below w.heap.size W (w2.setCell ⟨Ab, 0, none⟩ (.slice A2 (u + 1) c2)) ∧
      (∀ G, G ≠ Ab → G < S → (w2.setCell ⟨Ab, 0, none⟩ (.slice A2 (u + 1) c2)).heap[G]? = W.heap[G]?) := by
  have hO' : (W.alloc (.cells #[.int .i64 x] 3)).ownsRow w.heap.size 3 1 (.slice A u c) u (xs.map (Value.int .i64)) := hO.alloc _
  obtain ⟨i0, hi, hz0, hz1, hz2⟩ := info_q Tryd.info_int
  have hR : Rd .i64 (W.alloc (.cells #[.int .i64 x] 3)) (W.heap.size + 1) (some ⟨W.heap.size, 0, none⟩) 1 [x] := by
    refine ⟨rfl, fun k hk => ⟨W.heap.size, 0, rfl, by omega, ?_⟩⟩
    obtain rfl : k = 0 := by omega
    simp
  obtain ⟨V2, w2, h1, h2, h3, h4⟩ := run_append_q (P := Tryd.prog) (q := .i64) (ty := 26) (c' := 1) Tryd.underlying26 hi hz0 hz1 hz2 (by decide) hO' hR (by omega) (by simp; omega)
  obtain ⟨A2, c2, rfl⟩ := ownsRow_shape h2
  obtain ⟨e1, e2, e3, e4, e5⟩ := hV.appended (by decide) hO (by omega) (by omega) h2 h3
  refine ⟨A2, c2, w2, h1, e1, ⟨A2, c2, e2, by simpa using e3, fun g hg => ?_⟩, e5, fun G hne hlt => ?_⟩
  · rcases h4 with h4 | h4
    · exact hG g (h4.symm.trans hg)
    · rw [h4] at hg
      injection hg with hg
      simp at hg
      omega
  · have n1 : some G ≠ (Value.slice A u c).ownBlock := fun e => by have := hG G e.symm; omega
    exact (Below.heap_setCell _ _ _ _ (by dsimp only; exact hne)).trans ((h3.block G (by simp; omega) n1).trans (Below.heap_alloc _ _ _ (by omega)))
set_option maxRecDepth 100000 in
set_option maxHeartbeats 8000000 in
theorem signs_in {d : Nat} (hd : 12 ≤ d) {A : Option Addr} {n c H : Nat} {many eh : Int} {xs zs : List Int} {w : World} (hKi : Kinds w) (hI : Rd .i64 w w.heap.size A n xs) (hn : n ≤ 500)
    (hzs : zs.length = H) (hHn : H ≤ n) (hxz : ∀ j, j < H → xs[j]?.getD 0 = zs[j]?.getD 0) (hhd : hardS xs = (hardI zs, eh)) (hsg : (if softB xs = true then n else 0) = H) (hzx : 0 < H → xs = zs) :
    CallsIn Fence.wide d Tryd.prog 8 #[.slice A n c, .int .i64 many] w fun e w' => e = .returned (.bool true) ∧ Below w.heap.size w w' := by
  have hnil : ∀ (C : Nat) (u : World), (binOp .eql 56 (.func (.func 53) #[] #[.pointer (some ⟨C, 0, none⟩)]) .nilFunc).run Tryd.prog u = .ok (.bool false) u := fun C u => by kernel_rfl
  have h1 : 8 ≤ d := by omega
  have h1' : 1 ≤ d := by omega
  have hn1 : ¬ (500 : Int) < (n : Int) := by omega
  have hH5 : (H : Int) ≤ 500 := by omega
  have hRW := Lib.hid (fun (u : World) (h : Below w.heap.size w u) => by have := callsIn_wide (n := d - 1).2 (refHard_any (c := c) (hI.step h) (by omega)); rw [hhd] at this; exact this)
  have hWK := Lib.hid (fun (u : World) (A' : Option Addr) (c' : Nat) (hb : Below w.heap.size w u) (h : Rd .i64 u u.heap.size A' n xs) => callsIn_wide (n := d - 1).2 (Signs_any (c := c') (hKi.step hb) h (by omega)))
  have hK := Lib.hid (fun (u : World) (h : Below w.heap.size w u) => callsIn_wide (n := d - 1).2 (works_any (hKi.step h)))
  have hhl : Hid ((hardI zs).length = H) := Lib.hid (by unfold hardI; rw [List.length_map, hzs])
  have hhg : Hid (∀ k, (hardI zs)[k]?.getD 0 = if k < H then hardE (zs[k]?.getD 0) else 0) := Lib.hid (fun k => by
    unfold hardI
    by_cases hk : k < H
    · rw [if_pos hk, List.getElem?_map, List.getElem?_eq_getElem (by omega)]; rfl
    · rw [if_neg hk, List.getElem?_eq_none (by simp; omega)]; rfl)
  have HXZ := Lib.hid hxz
  have HIN := Lib.hid hI
  have HSG := Lib.hid hsg
  have HZX := Lib.hid hzx
  have HZS := Lib.hid hzs
  refine callsIn_of_wp_marks Tryd.func8 rfl trivial ?_ rfl
  simp only [Tryd.ntmps8, List.size_toArray, List.length_cons, List.length_nil, Nat.reduceAdd, Nat.reduceSub, Array.replicate_succ, Array.replicate_zero, List.push_toArray, List.append_toArray, List.nil_append, List.cons_append]
  have hbM := below_two (w := w) (.cells #[.int .i64 many] 3) (.cells #[.bool false] 4)
  have bM := (Boxed.new w 3 (.int .i64 many)).alloc (.cells #[.bool false] 4)
  have bR := Boxed.new (w.alloc (.cells #[.int .i64 many] 3)) 4 (.bool false)
  rw [World.size_alloc] at bR
  have hs0 : ((w.alloc (.cells #[.int .i64 many] 3)).alloc (.cells #[.bool false] 4)).heap.size = w.heap.size + 2 := by simp
  clear hI hhd hxz hsg hzx hKi hzs
  gi_wp2
  generalize (w.alloc (.cells #[.int .i64 many] 3)).alloc (.cells #[.bool false] 4) = W0 at *
  refine ⟨trivial, ?_⟩
  refine (hRW.out W0 hbM).mono ?_
  rintro e w1 he
  obtain ⟨A1, c1, rfl, oH, hb1⟩ := he.got hhl.out
  clear he
  have hqH := Lib.hid (fun q e => oH.lt q e)
  have bM1 := Boxed.below bM hb1 bM.lt
  have bR1 := Boxed.below bR hb1 bR.lt
  have hB1 := hbM.trans (hb1.mono hbM.size)
  have hz1 := hb1.size
  have hbx := below_two (w := w1) (.cells #[.slice A1 H c1] 38) (.cells #[.slice none 0 0] 26)
  have bH2 := (Boxed.new w1 38 (.slice A1 H c1)).alloc (.cells #[.slice none 0 0] 26)
  have bA2 := Boxed.new (w1.alloc (.cells #[.slice A1 H c1] 38)) 26 (.slice none 0 0)
  rw [World.size_alloc] at bA2
  have bM2 := Boxed.below bM1 hbx bM1.lt
  have bR2 := Boxed.below bR1 hbx bR1.lt
  have oH2 := ownsRow_below oH hbx (Nat.le_refl _)
  have hB2 := hB1.trans (hbx.mono hB1.size)
  have hz2 : ((w1.alloc (.cells #[.slice A1 H c1] 38)).alloc (.cells #[.slice none 0 0] 26)).heap.size = w1.heap.size + 2 := by simp
  clear bM bR hbM hb1 bM1 bR1 hB1 hbx oH hRW
  gi_wp2
  generalize (w1.alloc (.cells #[.slice A1 H c1] 38)).alloc (.cells #[.slice none 0 0] 26) = W2 at *
  obtain ⟨M, hM⟩ : ∃ M, w.heap.size = M := ⟨_, rfl⟩
  obtain ⟨Hb, hHb⟩ : ∃ Hb, w1.heap.size = Hb := ⟨_, rfl⟩
  have HM := Lib.hid hM
  have hz : Hid (M + 2 ≤ Hb ∧ W2.heap.size = Hb + 2) := Lib.hid (by omega)
  have hK' := hK
  have oH3 := oH2.mono (show w.heap.size ≤ W0.heap.size by omega)
  have hG0 : W2.grownBy W2 none := ⟨rfl, rfl, rfl, Nat.le_refl _, fun _ _ _ => rfl⟩
  have hL0 : AtI w (Hb + 1) (Hb + 2) (cntN zs 0) (atL zs 0) W2 := ⟨none, 0, by rw [← hHb]; exact bA2, World.ownsRow_nil W2 w.heap.size 3 1, fun g hg => by simp [Value.ownBlock] at hg⟩
  rw [hM] at bM2 bR2 ⊢
  rw [hHb] at bH2 hqH ⊢
  clear hz1 hz2 hs0 hHb oH2 bA2 hM
  gi_loopw [8] (fun i W => ∃ k : Nat, k ≤ H ∧ i = .int .i64 (k : Int) ∧ Hid (AtI w (Hb + 1) (Hb + 2) (cntN zs k) (atL zs k) W) ∧ Hid (Below w.heap.size W2 W ∧ ∀ G, G ≠ Hb + 1 → G < Hb + 2 → W.heap[G]? = W2.heap[G]?)) (fun i _ => H - (intOf i).toNat)
  case atStart => exact ⟨0, Nat.zero_le _, rfl, Lib.hid hL0, Lib.hid ⟨Below.refl _ _, fun _ _ _ => rfl⟩⟩
  case round =>
    clear hL0 hG0
    obtain ⟨k, hk, rfl, hA, hE⟩ := hrel
    have d0 := (show Boxed wr Hb 38 (.slice A1 H c1) from (hE.out.2 Hb (by omega) (by omega)).trans bH2).cell
    by_cases hlt : k < H
    · have hk0 : (0 : Int) ≤ (k : Int) := by omega
      have hk1 : (k : Int) < (H : Int) := by omega
      have hk3 : (k : Int) < (n : Int) := by omega
      obtain ⟨b, off, rfl, hbl, hc0⟩ := HIN.out.cells k (by omega)
      have hc := ((hB2.trans (hE.out.1.mono (Nat.le_refl _))).cell (p := ⟨b, off + k, none⟩) hbl).trans hc0
      rw [HXZ.out k hlt] at hc
      have hzr := Lib.hid (cnt_zero (zs := zs) (k := k))
      have hzo := Lib.hid (cnt_one (zs := zs) (k := k))
      have har := Lib.hid (at_zero (zs := zs) (k := k))
      have hao := Lib.hid (at_one (zs := zs) (k := k))
      generalize zs[k]?.getD 0 = x at *
      have hcl := cnt_le zs k
      obtain ⟨u, hu⟩ : ∃ u, cntN zs k = u := ⟨_, rfl⟩
      obtain ⟨al, has⟩ : ∃ al, atL zs k = al := ⟨_, rfl⟩
      rw [hu] at hA hzo hzr hcl
      rw [has] at hA hao har
      clear hu has hc0 hbl
      by_cases hx : x = 0
      · subst hx
        have HA : Hid (AtI w (Hb + 1) (Hb + 2) (cntN zs (k + 1)) (atL zs (k + 1)) wr) := Lib.hid (by rw [hzr.out rfl, har.out rfl]; exact hA.out)
        clear hA hzr hzo har hao
        gi_wp2
        go_roundw
        case rel => exact ⟨k + 1, by omega, by go_num, HA, hE⟩
        case measure => simp [intOf]; omega
      · have hd : (x != 0) = true := by simpa using hx
        obtain ⟨A', c', hV, hO, hG⟩ := hA.out
        have hsz : Hb + 2 ≤ wr.heap.size := by have := hE.out.1.size; have := hz.out; omega
        obtain ⟨A2, c2, w2, hrun, hv2, hout, hbl2, hot⟩ := AtI.append (k : Int) hV hO hG hsz (by have := HM.out; have := hz.out; omega) (by omega) (by omega)
        rw [← hao.out hx] at hout
        have HA : Hid (AtI w (Hb + 1) (Hb + 2) (cntN zs (k + 1)) (atL zs (k + 1)) (w2.setCell ⟨Hb + 1, 0, none⟩ (.slice A2 (u + 1) c2))) := Lib.hid (by rw [hzo.out hx]; exact hout)
        have HE : Hid (Below w.heap.size W2 (w2.setCell ⟨Hb + 1, 0, none⟩ (.slice A2 (u + 1) c2)) ∧ ∀ G, G ≠ Hb + 1 → G < Hb + 2 → (w2.setCell ⟨Hb + 1, 0, none⟩ (.slice A2 (u + 1) c2)).heap[G]? = W2.heap[G]?) :=
          Lib.hid ⟨hE.out.1.trans hbl2, fun G g1 g2 => (hot G g1 g2).trans (hE.out.2 G g1 g2)⟩
        have HRn := Lib.hid hrun
        have v0 := hV.cell
        have e1 := hv2.cell
        have e2 := hv2.frozen
        clear hA hE hV hO hG hrun hv2 hout hbl2 hot hzr hzo har hao
        gi_wp2_with (gi_at_builtin; refine wpListIn_append_run rfl _ _ _ rfl _ _ _ rfl rfl HRn.out ?_)
        go_roundw
        case rel => exact ⟨k + 1, by omega, by go_num, HA, HE⟩
        case measure => simp [intOf]; omega
    · have hkH : k = H := by omega
      subst k
      have bMw : Boxed wr M 3 (.int .i64 many) := (hE.out.2 M (by have := hz.out; omega) (by have := hz.out; omega)).trans bM2
      have bRw : Boxed wr (M + 1) 4 (.bool false) := (hE.out.2 (M + 1) (by have := hz.out; omega) (by have := hz.out; omega)).trans bR2
      have bHw : Boxed wr Hb 38 (.slice A1 H c1) := (hE.out.2 Hb (by omega) (by omega)).trans bH2
      have oHw := ownsRow_block oH3 (fun g hg => hE.out.2 g (by have := hqH.out g hg; omega) (by have := hqH.out g hg; omega))
      have hBw := hB2.trans (hE.out.1.mono (Nat.le_refl _))
      obtain ⟨A7, c7, bAw, oAw, gA⟩ := hA.out
      obtain ⟨i0, hi, hz0, hz1, hz2⟩ := info_q Tryd.info_int
      obtain ⟨A5, c5, w4, run5, hO5, hb5⟩ := copy_run_q (P := Tryd.prog) (t := 26) (c := c) Tryd.underlying26 hi hz0 hz1 hz2 (by decide) (HIN.out.step hBw) (by omega)
      have H5 := Lib.hid run5
      have hsW : Hb + 2 ≤ wr.heap.size := by have := hE.out.1.size; have := hz.out; omega
      have HSW := Lib.hid hsW
      have bM4 := Boxed.below bMw hb5 bMw.lt
      have bR4 := Boxed.below bRw hb5 bRw.lt
      have bH4 := Boxed.below bHw hb5 bHw.lt
      have bA4 := Boxed.below bAw hb5 bAw.lt
      have oH4 := ownsRow_below oHw hb5 (Nat.le_refl _)
      have oA4 := ownsRow_below oAw hb5 (Nat.le_refl _)
      have hqA := Lib.hid (fun q e => oAw.lt q e)
      have hB4 := hBw.trans (hb5.mono hBw.size)
      have hq5 := Lib.hid (fun q e => hO5.lt q e)
      have hz4 := hb5.size
      clear hlt hE hA bMw bRw bHw bAw oHw oAw hBw run5 hb5 bM2 bR2 bH2 oH3 hB2 hz1 hz2 hz0 hi gA
      gi_wp2_with (gi_at_builtin; refine wpListIn_append_run rfl _ _ _ rfl _ _ _ rfl rfl H5.out ?_)
      refine ⟨trivial, ?_⟩
      refine (hWK.out w4 A5 c5 hB4 (Rd.of_own hO5)).mono ?_
      rintro e w5 ⟨A6, c6, C, m, rfl, hm, bC6, hCl, oC6, hb6⟩
      rw [HSG.out] at hm
      subst m
      have bM6 := Boxed.below bM4 hb6 bM4.lt
      have bR6 := Boxed.below bR4 hb6 bR4.lt
      have bH6 := Boxed.below bH4 hb6 bH4.lt
      have bA6 := Boxed.below bA4 hb6 bA4.lt
      have oH6 := ownsRow_below oH4 hb6 (Nat.le_refl _)
      have oA6 := ownsRow_below oA4 hb6 (Nat.le_refl _)
      have HOW : Hid (w5.ownsRow wr.heap.size 3 1 (.slice A5 n c5) n (xs.map (Value.int .i64)) ∧ w5.grownBy w5 (Value.slice A5 n c5).ownBlock) := Lib.hid ⟨ownsRow_below hO5 hb6 (Nat.le_refl _), ⟨rfl, rfl, rfl, Nat.le_refl _, fun _ _ _ => rfl⟩⟩
      have hB6 := hB4.trans (hb6.mono hB4.size)
      have hz5 := hb6.size
      have hN0 := hnil C
      obtain ⟨N0, hN0'⟩ : ∃ N0, wr.heap.size = N0 := ⟨_, rfl⟩
      obtain ⟨N1, hN1⟩ : ∃ N1, w4.heap.size = N1 := ⟨_, rfl⟩
      rw [hN0'] at HOW hsW hz4
      have HQ : Hid (∀ q, (Value.slice A5 n c5).ownBlock = some q → N0 ≤ q ∧ q < N1) := Lib.hid (fun q e => by have := hq5.out q e; omega)
      have HQH : Hid (∀ q, (Value.slice A1 H c1).ownBlock = some q → q < Hb) := Lib.hid (fun q e => by have := hqH.out q e; omega)
      have HQA : Hid (∀ q, (Value.slice A7 (cntN zs H) c7).ownBlock = some q → q < N0) := Lib.hid (fun q e => by have := hqA.out q e; omega)
      have hz' : Hid (M + 2 ≤ Hb ∧ Hb + 2 ≤ N0 ∧ N0 ≤ N1 ∧ N1 ≤ C) := Lib.hid (by have := hz.out; omega)
      rw [hN1] at oC6
      clear hnil hWK bM4 bR4 bH4 bA4 oH4 oA4 hO5 hB4 hb6 hq5 hqH hqA hsW hz hz4 hz5 hCl hN0' hN1
      gi_wp2
      gi_loopw [11] (fun i W => ∃ (k : Nat) (ys : List Int), k ≤ n ∧ i = .int .i64 (k : Int) ∧ Hid (W.ownsRow N0 3 1 (.slice A5 n c5) n (ys.map (Value.int .i64)) ∧ w5.grownBy W (Value.slice A5 n c5).ownBlock)) (fun i _ => n - (intOf i).toNat)
      case atStart => exact ⟨0, xs, Nat.zero_le _, rfl, HOW⟩
      case round =>
        clear HOW H5 HSW
        obtain ⟨k, ys, hk, rfl, hH⟩ := hrel
        by_cases hlt : k < n
        · obtain ⟨g, cap, hv, hbg, hgl⟩ := hH.out.1.form (by omega)
          have hv1 : A5 = some ⟨g, 0, none⟩ := by injection hv
          subst hv1
          obtain ⟨b2, off2, e2, _, hc2⟩ := (Rd.of_own hH.out.1).cells k hlt
          injection e2 with e2
          injection e2 with e2 e3
          subst e2 e3
          rw [Nat.zero_add] at hc2
          have hst := (hH.out.1.stored k (.int .i64 0)).1
          have hfr := hH.out.1.frozenAt k
          rw [← List.map_set] at hst
          have hg2 := grown_same hH.out.2 (grownBy_setCell_at wr ⟨g, k, none⟩ (.int .i64 0))
          have H2 := Lib.hid (And.intro hst hg2)
          have hk0 : (0 : Int) ≤ (k : Int) := by omega
          have hk1 : (k : Int) < (n : Int) := by omega
          clear hst hg2 hH hv hN0 oH6 oA6 oC6 bM6 bR6 bH6 bA6 bC6 hB6
          gi_wp2
          go_roundw
          case rel => exact ⟨k + 1, _, by omega, by go_num, H2⟩
          case measure => simp [intOf]; omega
        · have hkn : k = n := by omega
          subst k
          have hg := hH.out.2
          have bM5 := bM6.kept hg (fun e => by have := HQ.out _ e.symm; have := hz'.out; omega)
          have bR5 := bR6.kept hg (fun e => by have := HQ.out _ e.symm; have := hz'.out; omega)
          have bH5 := bH6.kept hg (fun e => by have := HQ.out _ e.symm; have := hz'.out; omega)
          have bA5 := bA6.kept hg (fun e => by have := HQ.out _ e.symm; have := hz'.out; omega)
          have bC5 := bC6.kept hg (fun e => by have := HQ.out _ e.symm; have := hz'.out; omega)
          have rH := Rd.of_own (ownsRow_other oH6 hg (fun q e1 e2 => by have := HQ.out q e2; have := HQH.out q e1; have := hz'.out; omega))
          have rA := Rd.of_own (ownsRow_other oA6 hg (fun q e1 e2 => by have := HQ.out q e2; have := HQA.out q e1; omega))
          have rC : Rd .i64 wr wr.heap.size A6 H zs := by
            rcases Nat.eq_zero_or_pos H with h0 | h0
            · rw [h0]
              rw [show zs = [] from List.eq_nil_of_length_eq_zero (by rw [HZS.out]; exact h0)]
              exact Rd.nil _ _ _ _
            · have := ownsRow_other (oC6 h0) hg (fun q e1 e2 => by have := HQ.out q e2; have := (oC6 h0).lt q e1; omega)
              rw [HZX.out h0] at this
              exact Rd.of_own this
          have hb5 := hB6.grown hg hB6.size (fun q e => by have := HQ.out q e; have := HM.out; have := hz'.out; omega)
          have hlM := bM5.lt
          have hlR := bR5.lt
          have hlA := bA5.lt
          have hlH := bH5.lt
          have hlC := bC5.lt
          have hT0 := Boxed.new wr 3 (.int .i64 0)
          obtain ⟨wb, hwb⟩ : ∃ wb, wr = wb := ⟨_, rfl⟩
          subst wr
          obtain ⟨L, hL⟩ : ∃ L, cntN zs H = L := ⟨_, rfl⟩
          rw [hL] at bA5 rA
          have HL := Lib.hid hL
          have hLH : L ≤ H := by rw [← hL]; exact cnt_le _ _
          clear hg hH oH6 oA6 oC6 bM6 bR6 bH6 bA6 bC6 hB6 HQ HQH HQA hz' hL HXZ HIN HSG HZX hlt
          gi_wp2
          have hbT : Below wb.heap.size wb (wb.alloc (.cells #[.int .i64 0] 3)) := (Below.refl _ _).alloc (Nat.le_refl _) _
          refine wpIn_loop
            (fun a' w' => ∃ (k Tc : Nat) (Ds : List Nat) (v : Nat → Value), k ≤ 2 ∧ Ds.length = k ∧ v = (fun i => a'.tmps.getD i undef) ∧
              a' = { tmps := List.toArray ((.slice A n c) :: (.int .i64 many) :: (v 2) :: (.pointer (some ⟨M, 0, none⟩)) :: (.pointer (some ⟨M + 1, 0, none⟩)) :: (.pointer (some ⟨Hb, 0, none⟩)) :: (.int .i64 eh) :: (.pointer (some ⟨Hb + 1, 0, none⟩)) :: (.int .i64 (H : Int)) :: (.slice A5 n c5) :: (.func (.func 53) #[] #[.pointer (some ⟨C, 0, none⟩)]) :: (.int .i64 (n : Int)) :: (.pointer (some ⟨Tc, 0, none⟩)) :: (v 13) :: (v 14) :: (v 15) :: (v 16) :: (v 17) :: (v 18) :: (v 19) :: (v 20) :: (v 21) :: (v 22) :: (v 23) :: (v 24) :: (v 25) :: (v 26) :: (v 27) :: (v 28) :: (v 29) :: (v 30) :: (v 31) :: (v 32) :: (v 33) :: (v 34) :: (v 35) :: (v 36) :: (v 37) :: (v 38) :: (v 39) :: (v 40) :: (v 41) :: (v 42) :: (v 43) :: (v 44) :: (v 45) :: (v 46) :: (v 47) :: (v 48) :: (v 49) :: (v 50) :: (v 51) :: (v 52) :: (v 53) :: (v 54) :: (v 55) :: (v 56) :: (v 57) :: (v 58) :: (v 59) :: (v 60) :: (v 61) :: (v 62) :: (v 63) :: (v 64) :: (v 65) :: (v 66) :: (v 67) :: (v 68) :: (v 69) :: (v 70) :: (v 71) :: (v 72) :: (v 73) :: (v 74) :: (v 75) :: (v 76) :: (v 77) :: (v 78) :: (v 79) :: (v 80) :: (v 81) :: (v 82) :: (v 83) :: (v 84) :: (v 85) :: (v 86) :: (v 87) :: (v 88) :: (v 89) :: (v 90) :: (v 91) :: (v 92) :: (v 93) :: (v 94) :: (v 95) :: (v 96) :: (v 97) :: (v 98) :: (v 99) :: (v 100) :: (v 101) :: (v 102) :: (v 103) :: (v 104) :: (v 105) :: (v 106) :: (v 107) :: (v 108) :: (v 109) :: (v 110) :: (v 111) :: (v 112) :: (v 113) :: (v 114) :: []), defers := Ds.map mkD } ∧ Below wb.heap.size wb w' ∧ Boxed w' Tc 3 (.int .i64 (k : Int)) ∧ wb.heap.size ≤ Tc ∧ Marks w' Ds ∧ (∀ D ∈ Ds, wb.heap.size ≤ D) ∧ Tc ∉ Ds)
            (fun a' _ => 2 - a'.defers.length) ?start ?round
          case start => exact ⟨0, wb.heap.size, [], _, Nat.zero_le _, rfl, rfl, rfl, hbT, hT0, Nat.le_refl _, Marks.nil _, by simp, by simp⟩
          case round =>
            rintro a' w' ⟨k, Tc, Ds, v, hk2, hDl, hv, ha, hB, hT, hTl, hMk, hDs, hTD⟩
            clear hv
            subst ha
            have hcT := hT.cell
            by_cases hlt : k < 2
            · rcases (show k = 0 ∨ k = 1 by omega) with hk | hk
              · subst hk
                have hMc := (hB.cell (p := ⟨M, 0, none⟩) (show M < wb.heap.size from hlM)).trans bM5.cell
                have hsw := hB.size
                have hDl2 := hMk.lt
                have hTw := hT.lt
                rw [show (((0 : Nat) : Int)) = 0 from rfl] at hcT
                have bN := Boxed.new w' 3 (.int .i64 0)
                have hT1 := hT.alloc (.cells #[.int .i64 0] 3)
                have hB1 := hB.alloc hB.size (.cells #[.int .i64 0] 3)
                have hMk1 := hMk.alloc (.cells #[.int .i64 0] 3)
                have hs1 : (w'.alloc (.cells #[.int .i64 0] 3)).heap.size = w'.heap.size + 1 := by simp
                obtain ⟨Nc, hNc⟩ : ∃ Nc, w'.heap.size = Nc := ⟨_, rfl⟩
                have HNC := Lib.hid hNc
                rw [hNc] at bN hs1 hsw hTw hDl2
                clear hNc
                gi_wp2
                rw [HNC.out]
                generalize w'.alloc (.cells #[.int .i64 0] 3) = w1 at *
                have hI0 : EcI wb Nc Tc 0 Ds 0 w1 := ⟨⟨bN, hT1⟩, hB1, hMk1⟩
                have HS1 := Lib.hid hs1
                have hneT : Tc ≠ Nc := by omega
                have hDN : Nc ∉ Ds := fun h => by have := hDl2 _ h; omega
                obtain ⟨J, hJ⟩ : ∃ J : Nat, (((L : Int) ≤ many ∨ L = 0) ∧ J = L) ∨ (1 ≤ L ∧ many ≤ 1 ∧ J = 1) ∨ (1 < many ∧ many < (L : Int) ∧ (J : Int) = many) := by
                  by_cases h1 : (L : Int) ≤ many ∨ L = 0
                  · exact ⟨_, .inl ⟨h1, rfl⟩⟩
                  · by_cases h2 : many ≤ 1
                    · exact ⟨1, .inr (.inl ⟨by omega, h2, rfl⟩)⟩
                    · exact ⟨many.toNat, .inr (.inr ⟨by omega, by omega, by omega⟩)⟩
                clear bN hT1 hB1 hMk1 hcT hs1
                refine wpIn_known (n := d) (BL := C) (N := H) (c := c6) (A := A6) (xs := zs) (by omega) (by omega) rfl rfl (fun k W => EcI wb Nc Tc 0 Ds (cntN zs k) W ∧ (cntN zs k = 0 ∨ (cntN zs k : Int) < many)) (fun c W => c = .exit 6 ∧ EcI wb Nc Tc 0 Ds J W)
                  (fun k A C row hs hg hr => ⟨(ecI_from (by have := HS1.out; omega) (fun D hD => by have := hDl2 D hD; have := HS1.out; omega)) (cntN zs k) A C row hs.1 hg hr, hs.2⟩)
                  (fun c s A C row hs hg hr => ⟨hs.1, (ecI_from (by have := HS1.out; omega) (fun D hD => by have := hDl2 D hD; have := HS1.out; omega)) J A C row hs.2 hg hr⟩)
                  (fun k W h => ⟨Boxed.below bC5 h.1.2.1 hlC, rC.step h.1.2.1⟩) (fun k W _ hz h => by rw [cnt_zero hz]; exact h) ⟨hI0, .inl rfl⟩
                  (fun k => { tmps := List.toArray ((.slice A n c) :: (.int .i64 many) :: (v 2) :: (.pointer (some ⟨M, 0, none⟩)) :: (.pointer (some ⟨M + 1, 0, none⟩)) :: (.pointer (some ⟨Hb, 0, none⟩)) :: (.int .i64 eh) :: (.pointer (some ⟨Hb + 1, 0, none⟩)) :: (.int .i64 (H : Int)) :: (.slice A5 n c5) :: (.func (.func 53) #[] #[.pointer (some ⟨C, 0, none⟩)]) :: (.int .i64 (n : Int)) :: (.pointer (some ⟨Tc, 0, none⟩)) :: (.pointer (some ⟨Nc, 0, none⟩)) :: (.int .i64 (k : Int)) :: (.int .u8 (hardE (zs[k]?.getD 0))) :: (v 16) :: (v 17) :: (v 18) :: (v 19) :: (v 20) :: (v 21) :: (v 22) :: (v 23) :: (v 24) :: (v 25) :: (v 26) :: (v 27) :: (v 28) :: (v 29) :: (v 30) :: (v 31) :: (v 32) :: (v 33) :: (v 34) :: (v 35) :: (v 36) :: (v 37) :: (v 38) :: (v 39) :: (v 40) :: (v 41) :: (v 42) :: (v 43) :: (v 44) :: (v 45) :: (v 46) :: (v 47) :: (v 48) :: (v 49) :: (v 50) :: (v 51) :: (v 52) :: (v 53) :: (v 54) :: (v 55) :: (.int .i64 0) :: (.bool true) :: (v 58) :: (v 59) :: (.func (.func 53) #[] #[.pointer (some ⟨C, 0, none⟩)]) :: (.int .i64 (k : Int)) :: (.int .u8 (hardE (zs[k]?.getD 0))) :: (v 63) :: (v 64) :: (v 65) :: (v 66) :: (v 67) :: (v 68) :: (v 69) :: (v 70) :: (v 71) :: (v 72) :: (v 73) :: (v 74) :: (v 75) :: (v 76) :: (v 77) :: (v 78) :: (v 79) :: (v 80) :: (v 81) :: (v 82) :: (v 83) :: (v 84) :: (v 85) :: (v 86) :: (v 87) :: (v 88) :: (v 89) :: (v 90) :: (v 91) :: (v 92) :: (v 93) :: (v 94) :: (v 95) :: (v 96) :: (v 97) :: (v 98) :: (v 99) :: (v 100) :: (v 101) :: (v 102) :: (v 103) :: (v 104) :: (v 105) :: (v 106) :: (v 107) :: (v 108) :: (v 109) :: (v 110) :: (v 111) :: (v 112) :: (v 113) :: (v 114) :: []), defers := [] }) ?assign ?body ?done ?stop
                case assign =>
                  intro lp k W K hK
                  gi_wp2
                  exact hK
                case body =>
                  rintro lp k W hk hne ⟨hI, hp⟩ hbig
                  have hgk := hhg.out k
                  rw [if_pos hk] at hgk
                  obtain ⟨hag, hrL⟩ := at_get hk hne
                  have hc1 := cnt_one hne
                  rw [HL.out] at hrL
                  obtain ⟨r, hr⟩ : ∃ r, cntN zs k = r := ⟨_, rfl⟩
                  rw [hr] at hag hrL hc1 hI hp
                  obtain ⟨b5, off5, rfl, _, hcz⟩ := rA.cells r hrL
                  obtain ⟨b6, off6, rfl, _, hcp⟩ := rH.cells k hk
                  rw [hag] at hcz
                  rw [hgk] at hcp
                  have y1 := hI.1.1.cell
                  have f1 := hI.1.1.frozen
                  have y2 := hI.1.2.cell
                  rw [show (((0 : Nat) : Int)) = 0 from rfl] at y2
                  have y3 := (hI.2.1.cell (p := ⟨Hb + 1, 0, none⟩) (show Hb + 1 < wb.heap.size from hlA)).trans bA5.cell
                  have y4 := (hI.2.1.cell (p := ⟨b5, off5 + r, none⟩) (show b5 < wb.heap.size by assumption)).trans hcz
                  have y5 := (hI.2.1.cell (p := ⟨M, 0, none⟩) (show M < wb.heap.size from hlM)).trans bM5.cell
                  have y6 := (hI.2.1.cell (p := ⟨Hb, 0, none⟩) (show Hb < wb.heap.size from hlH)).trans bH5.cell
                  have y7 := (hI.2.1.cell (p := ⟨b6, off6 + k, none⟩) (show b6 < wb.heap.size by assumption)).trans hcp
                  have hk0 : (0 : Int) ≤ (k : Int) := by omega
                  have hk1 : (k : Int) < (H : Int) := by omega
                  have hr0 : (0 : Int) ≤ (r : Int) := by omega
                  have hr1 : (r : Int) < (L : Int) := by omega
                  have hr2 : ¬ (L : Int) ≤ (r : Int) := by omega
                  have HI := Lib.hid (ecI_step hI (by omega) hneT hDN ((r : Int) + 1) (by omega))
                  have hKF := Lib.hid ((KeepsOthers.setCell W ⟨Nc, 0, none⟩ (.int .i64 ((r : Int) + 1))).from w1.heap.size)
                  have HC1 := Lib.hid hc1
                  generalize hardE (zs[k]?.getD 0) = z at *
                  have hJk : Hid ((many ≤ (r : Int) + 1 → EcI wb Nc Tc 0 Ds J (W.setCell ⟨Nc, 0, none⟩ (.int .i64 ((r : Int) + 1)))) ∧ True) := Lib.hid ⟨fun hm => (show r + 1 = J by omega) ▸ HI.out, trivial⟩
                  clear hI hp hJ hcz hcp hag hgk hc1 rA rH
                  by_cases hm : many ≤ (r : Int) + 1
                  · gi_wp2
                    exact ⟨hKF.out, rfl, hJk.out.1 hm⟩
                  · gi_wp2
                    refine ⟨hKF.out, ?_⟩
                    dsimp only
                    rw [HC1.out]
                    exact ⟨HI.out, .inr (by omega)⟩
                case done =>
                  rintro D W hD ⟨hI, hp⟩ hKD
                  rw [HL.out] at hI hp
                  have hJb : J = L := by omega
                  have HJB := Lib.hid hJb
                  clear hJb hJ
                  subst hD
                  have hnD : w1.heap.size ∉ Ds := fun h => by have := hDl2 _ h; have := HS1.out; omega
                  have hbel := Lib.hid (hI.2.1.alloc hI.2.1.size (.cells #[.int .i64 1] 3))
                  have hbox : Hid (Boxed (W.alloc (.cells #[.int .i64 1] 3)) W.heap.size 3 (.int .i64 ((1 : Nat) : Int))) := Lib.hid (Boxed.new W 3 (.int .i64 1))
                  have hmk := Lib.hid ((hI.2.2.cons hKD hnD).alloc (.cells #[.int .i64 1] 3))
                  have hszW := hI.2.1.size
                  have hMl := (hI.2.2.cons hKD hnD).lt
                  have hfin : Hid ((∀ D ∈ w1.heap.size :: Ds, wb.heap.size ≤ D) ∧ W.heap.size ∉ w1.heap.size :: Ds) := Lib.hid ⟨fun E hE => by
                    rcases List.mem_cons.1 hE with rfl | hE
                    · have := HS1.out; omega
                    · exact hDs E hE, fun h => by have := hMl _ h; omega⟩
                  clear hMl hnD
                  have y1 := hI.1.1.cell
                  have y2 := hI.1.2.cell
                  rw [show (((0 : Nat) : Int)) = 0 from rfl] at y2
                  have y3 := (hI.2.1.cell (p := ⟨Hb + 1, 0, none⟩) (show Hb + 1 < wb.heap.size from hlA)).trans bA5.cell
                  have y5 := (hI.2.1.cell (p := ⟨M, 0, none⟩) (show M < wb.heap.size from hlM)).trans bM5.cell
                  clear hI hKD rA rH
                  gi_wp2
                  all_goals first
                    | exact ⟨1, by omega, W.heap.size, w1.heap.size :: Ds, by simp [hDl], ⟨rfl, rfl⟩, hbel.out, hbox.out, hszW, hmk.out, hfin.out.1, hfin.out.2⟩
                    | exact ⟨⟨1, W.heap.size, w1.heap.size :: Ds, _, by omega, by simp [hDl], rfl, rfl, hbel.out, hbox.out, hszW, hmk.out, hfin.out.1, hfin.out.2⟩, by simp [hDl]⟩
                    | (exfalso; omega)
                    | fail
                case stop =>
                  rintro D c W hD ⟨rfl, hI⟩ hKD
                  have HJ := Lib.hid hJ
                  subst hD
                  have hnD : w1.heap.size ∉ Ds := fun h => by have := hDl2 _ h; have := HS1.out; omega
                  have hbel := Lib.hid (hI.2.1.alloc hI.2.1.size (.cells #[.int .i64 1] 3))
                  have hbox : Hid (Boxed (W.alloc (.cells #[.int .i64 1] 3)) W.heap.size 3 (.int .i64 ((1 : Nat) : Int))) := Lib.hid (Boxed.new W 3 (.int .i64 1))
                  have hmk := Lib.hid ((hI.2.2.cons hKD hnD).alloc (.cells #[.int .i64 1] 3))
                  have hszW := hI.2.1.size
                  have hMl := (hI.2.2.cons hKD hnD).lt
                  have hfin : Hid ((∀ D ∈ w1.heap.size :: Ds, wb.heap.size ≤ D) ∧ W.heap.size ∉ w1.heap.size :: Ds) := Lib.hid ⟨fun E hE => by
                    rcases List.mem_cons.1 hE with rfl | hE
                    · have := HS1.out; omega
                    · exact hDs E hE, fun h => by have := hMl _ h; omega⟩
                  clear hMl hnD
                  have y1 := hI.1.1.cell
                  have y2 := hI.1.2.cell
                  rw [show (((0 : Nat) : Int)) = 0 from rfl] at y2
                  have y3 := (hI.2.1.cell (p := ⟨Hb + 1, 0, none⟩) (show Hb + 1 < wb.heap.size from hlA)).trans bA5.cell
                  have y5 := (hI.2.1.cell (p := ⟨M, 0, none⟩) (show M < wb.heap.size from hlM)).trans bM5.cell
                  clear hI hKD rA rH
                  gi_wp2
                  all_goals first
                    | exact ⟨1, by omega, W.heap.size, w1.heap.size :: Ds, by simp [hDl], ⟨rfl, rfl⟩, hbel.out, hbox.out, hszW, hmk.out, hfin.out.1, hfin.out.2⟩
                    | exact ⟨⟨1, W.heap.size, w1.heap.size :: Ds, _, by omega, by simp [hDl], rfl, rfl, hbel.out, hbox.out, hszW, hmk.out, hfin.out.1, hfin.out.2⟩, by simp [hDl]⟩
                    | (exfalso; omega)
                    | fail
              · subst hk
                have hMc := (hB.cell (p := ⟨M, 0, none⟩) (show M < wb.heap.size from hlM)).trans bM5.cell
                have hsw := hB.size
                have hDl2 := hMk.lt
                have hTw := hT.lt
                rw [show (((1 : Nat) : Int)) = 1 from rfl] at hcT
                have bN := Boxed.new w' 3 (.int .i64 0)
                have hT1 := hT.alloc (.cells #[.int .i64 0] 3)
                have hB1 := hB.alloc hB.size (.cells #[.int .i64 0] 3)
                have hMk1 := hMk.alloc (.cells #[.int .i64 0] 3)
                have hs1 : (w'.alloc (.cells #[.int .i64 0] 3)).heap.size = w'.heap.size + 1 := by simp
                obtain ⟨Nc, hNc⟩ : ∃ Nc, w'.heap.size = Nc := ⟨_, rfl⟩
                have HNC := Lib.hid hNc
                rw [hNc] at bN hs1 hsw hTw hDl2
                clear hNc
                gi_wp2
                rw [HNC.out]
                generalize w'.alloc (.cells #[.int .i64 0] 3) = w1 at *
                have hI0 : EcI wb Nc Tc 1 Ds 0 w1 := ⟨⟨bN, hT1⟩, hB1, hMk1⟩
                have HS1 := Lib.hid hs1
                have hneT : Tc ≠ Nc := by omega
                have hDN : Nc ∉ Ds := fun h => by have := hDl2 _ h; omega
                obtain ⟨J, hJ⟩ : ∃ J : Nat, J = L := ⟨_, rfl⟩
                clear bN hT1 hB1 hMk1 hcT hs1
                refine wpIn_known (n := d) (BL := C) (N := H) (c := c6) (A := A6) (xs := zs) (by omega) (by omega) rfl rfl (fun k W => EcI wb Nc Tc 1 Ds (cntN zs k) W) (fun _ _ => False)
                  (fun k A C row hs hg hr => (ecI_from (by have := HS1.out; omega) (fun D hD => by have := hDl2 D hD; have := HS1.out; omega)) (cntN zs k) A C row hs hg hr)
                  (fun c s A C row hs hg hr => hs)
                  (fun k W h => ⟨Boxed.below bC5 h.2.1 hlC, rC.step h.2.1⟩) (fun k W _ hz h => by rw [cnt_zero hz]; exact h) hI0
                  (fun k => { tmps := List.toArray ((.slice A n c) :: (.int .i64 many) :: (v 2) :: (.pointer (some ⟨M, 0, none⟩)) :: (.pointer (some ⟨M + 1, 0, none⟩)) :: (.pointer (some ⟨Hb, 0, none⟩)) :: (.int .i64 eh) :: (.pointer (some ⟨Hb + 1, 0, none⟩)) :: (.int .i64 (H : Int)) :: (.slice A5 n c5) :: (.func (.func 53) #[] #[.pointer (some ⟨C, 0, none⟩)]) :: (.int .i64 (n : Int)) :: (.pointer (some ⟨Tc, 0, none⟩)) :: (.pointer (some ⟨Nc, 0, none⟩)) :: (.int .i64 (k : Int)) :: (.int .u8 (hardE (zs[k]?.getD 0))) :: (v 16) :: (v 17) :: (v 18) :: (v 19) :: (v 20) :: (v 21) :: (v 22) :: (v 23) :: (v 24) :: (v 25) :: (v 26) :: (v 27) :: (v 28) :: (v 29) :: (v 30) :: (v 31) :: (v 32) :: (v 33) :: (v 34) :: (v 35) :: (v 36) :: (v 37) :: (v 38) :: (v 39) :: (v 40) :: (v 41) :: (v 42) :: (v 43) :: (v 44) :: (v 45) :: (v 46) :: (v 47) :: (v 48) :: (v 49) :: (v 50) :: (v 51) :: (v 52) :: (v 53) :: (v 54) :: (v 55) :: (.int .i64 1) :: (.bool true) :: (v 58) :: (v 59) :: (.func (.func 53) #[] #[.pointer (some ⟨C, 0, none⟩)]) :: (.int .i64 (k : Int)) :: (.int .u8 (hardE (zs[k]?.getD 0))) :: (v 63) :: (v 64) :: (v 65) :: (v 66) :: (v 67) :: (v 68) :: (v 69) :: (v 70) :: (v 71) :: (v 72) :: (v 73) :: (v 74) :: (v 75) :: (v 76) :: (v 77) :: (v 78) :: (v 79) :: (v 80) :: (v 81) :: (v 82) :: (v 83) :: (v 84) :: (v 85) :: (v 86) :: (v 87) :: (v 88) :: (v 89) :: (v 90) :: (v 91) :: (v 92) :: (v 93) :: (v 94) :: (v 95) :: (v 96) :: (v 97) :: (v 98) :: (v 99) :: (v 100) :: (v 101) :: (v 102) :: (v 103) :: (v 104) :: (v 105) :: (v 106) :: (v 107) :: (v 108) :: (v 109) :: (v 110) :: (v 111) :: (v 112) :: (v 113) :: (v 114) :: []), defers := [] }) ?assign ?body ?done ?stop
                case assign =>
                  intro lp k W K hK
                  gi_wp2
                  exact hK
                case body =>
                  rintro lp k W hk hne hI hbig
                  have hgk := hhg.out k
                  rw [if_pos hk] at hgk
                  obtain ⟨hag, hrL⟩ := at_get hk hne
                  have hc1 := cnt_one hne
                  rw [HL.out] at hrL
                  obtain ⟨r, hr⟩ : ∃ r, cntN zs k = r := ⟨_, rfl⟩
                  rw [hr] at hag hrL hc1 hI
                  obtain ⟨b5, off5, rfl, _, hcz⟩ := rA.cells r hrL
                  obtain ⟨b6, off6, rfl, _, hcp⟩ := rH.cells k hk
                  rw [hag] at hcz
                  rw [hgk] at hcp
                  have y1 := hI.1.1.cell
                  have f1 := hI.1.1.frozen
                  have y2 := hI.1.2.cell
                  rw [show (((1 : Nat) : Int)) = 1 from rfl] at y2
                  have y3 := (hI.2.1.cell (p := ⟨Hb + 1, 0, none⟩) (show Hb + 1 < wb.heap.size from hlA)).trans bA5.cell
                  have y4 := (hI.2.1.cell (p := ⟨b5, off5 + r, none⟩) (show b5 < wb.heap.size by assumption)).trans hcz
                  have y5 := (hI.2.1.cell (p := ⟨M, 0, none⟩) (show M < wb.heap.size from hlM)).trans bM5.cell
                  have y6 := (hI.2.1.cell (p := ⟨Hb, 0, none⟩) (show Hb < wb.heap.size from hlH)).trans bH5.cell
                  have y7 := (hI.2.1.cell (p := ⟨b6, off6 + k, none⟩) (show b6 < wb.heap.size by assumption)).trans hcp
                  have hk0 : (0 : Int) ≤ (k : Int) := by omega
                  have hk1 : (k : Int) < (H : Int) := by omega
                  have hr0 : (0 : Int) ≤ (r : Int) := by omega
                  have hr1 : (r : Int) < (L : Int) := by omega
                  have hr2 : ¬ (L : Int) ≤ (r : Int) := by omega
                  have HI := Lib.hid (ecI_step hI (by omega) hneT hDN ((r : Int) + 1) (by omega))
                  have hKF := Lib.hid ((KeepsOthers.setCell W ⟨Nc, 0, none⟩ (.int .i64 ((r : Int) + 1))).from w1.heap.size)
                  have HC1 := Lib.hid hc1
                  generalize hardE (zs[k]?.getD 0) = z at *
                  clear hI hJ hcz hcp hag hgk hc1 rA rH
                  gi_wp2
                  refine ⟨hKF.out, ?_⟩
                  dsimp only
                  rw [HC1.out]
                  exact HI.out
                case done =>
                  rintro D W hD hI hKD
                  rw [HL.out] at hI
                  clear hJ
                  subst hD
                  have hnD : w1.heap.size ∉ Ds := fun h => by have := hDl2 _ h; have := HS1.out; omega
                  have hbel := Lib.hid (hI.2.1.alloc hI.2.1.size (.cells #[.int .i64 2] 3))
                  have hbox : Hid (Boxed (W.alloc (.cells #[.int .i64 2] 3)) W.heap.size 3 (.int .i64 ((2 : Nat) : Int))) := Lib.hid (Boxed.new W 3 (.int .i64 2))
                  have hmk := Lib.hid ((hI.2.2.cons hKD hnD).alloc (.cells #[.int .i64 2] 3))
                  have hszW := hI.2.1.size
                  have hMl := (hI.2.2.cons hKD hnD).lt
                  have hfin : Hid ((∀ D ∈ w1.heap.size :: Ds, wb.heap.size ≤ D) ∧ W.heap.size ∉ w1.heap.size :: Ds) := Lib.hid ⟨fun E hE => by
                    rcases List.mem_cons.1 hE with rfl | hE
                    · have := HS1.out; omega
                    · exact hDs E hE, fun h => by have := hMl _ h; omega⟩
                  clear hMl hnD
                  have y1 := hI.1.1.cell
                  have y2 := hI.1.2.cell
                  rw [show (((1 : Nat) : Int)) = 1 from rfl] at y2
                  have y3 := (hI.2.1.cell (p := ⟨Hb + 1, 0, none⟩) (show Hb + 1 < wb.heap.size from hlA)).trans bA5.cell
                  have y5 := (hI.2.1.cell (p := ⟨M, 0, none⟩) (show M < wb.heap.size from hlM)).trans bM5.cell
                  clear hI hKD rA rH
                  gi_wp2
                  all_goals first
                    | exact ⟨2, by omega, W.heap.size, w1.heap.size :: Ds, by simp [hDl], ⟨rfl, rfl⟩, hbel.out, hbox.out, hszW, hmk.out, hfin.out.1, hfin.out.2⟩
                    | exact ⟨⟨2, W.heap.size, w1.heap.size :: Ds, _, by omega, by simp [hDl], rfl, rfl, hbel.out, hbox.out, hszW, hmk.out, hfin.out.1, hfin.out.2⟩, by simp [hDl]⟩
                    | (exfalso; omega)
                    | fail
                case stop =>
                  rintro D c W hD hx hKD
                  exact hx.elim
            · obtain rfl : k = 2 := by omega
              have hbw := hb5.trans (hB.mono hb5.size)
              have hcR := (hB.cell (p := ⟨M + 1, 0, none⟩) (show M + 1 < wb.heap.size from hlR)).trans bR5.cell
              have bRw := Boxed.below bR5 hB hlR
              have hcT2 : w'.cell? ⟨Tc, 0, none⟩ = some (.int .i64 2) := hcT
              clear hcT
              gi_wp2
              refine ⟨trivial, ?_⟩
              refine (hK.out _ hbw).mono ?_
              rintro e w9 ⟨rfl, hb9⟩
              have bR9 := Boxed.below bRw hb9 bRw.lt
              have e0 := bR9.cell
              have e1 := bR9.frozen
              have hM9 := (hMk.grown (below_grownE hb9) (fun _ _ e => by cases e)).setCell (p := ⟨M + 1, 0, none⟩) (.bool true) (fun h => by have := hDs _ h; simp only at this; omega)
              have hB9 : Below w.heap.size w (w9.setCell ⟨M + 1, 0, none⟩ (.bool true)) := (hbw.trans (hb9.mono hbw.size)).setCell (p := ⟨M + 1, 0, none⟩) (by have := HM.out; simp only; omega) _
              have bRf := Boxed.set (.bool true) bR9
              gi_wp2
              exact leaves_marks (B := wb.heap.size) Ds _ hM9 (fun E hE => hDs E hE) (fun w2 h2 => ⟨.bool true, signs_results rfl (Boxed.below bRf h2 hlR), rfl, hB9.trans (h2.mono hb5.size)⟩)
set_option maxRecDepth 100000 in
set_option maxHeartbeats 8000000 in
theorem signs_big {d : Nat} (hd : 12 ≤ d) {A : Option Addr} {n c : Nat} {many : Int} {w : World} (hKi : Kinds w) (hn : ¬ n ≤ 500) :
    CallsIn Fence.wide d Tryd.prog 8 #[.slice A n c, .int .i64 many] w fun e w' => e = .returned (.bool true) ∧ Below w.heap.size w w' := by
  have h1 : 8 ≤ d := by omega
  have h1' : 1 ≤ d := by omega
  have hn1 : (500 : Int) < (n : Int) := by omega
  have hK := Lib.hid (fun (u : World) (h : Below w.heap.size w u) => callsIn_wide (n := d - 1).2 (works_any (hKi.step h)))
  refine callsIn_of_wp_marks Tryd.func8 rfl trivial ?_ rfl
  simp only [Tryd.ntmps8, List.size_toArray, List.length_cons, List.length_nil, Nat.reduceAdd, Nat.reduceSub, Array.replicate_succ, Array.replicate_zero, List.push_toArray, List.append_toArray, List.nil_append, List.cons_append]
  have hbM := below_two (w := w) (.cells #[.int .i64 many] 3) (.cells #[.bool false] 4)
  have bR := Boxed.new (w.alloc (.cells #[.int .i64 many] 3)) 4 (.bool false)
  rw [World.size_alloc] at bR
  clear hKi
  gi_wp2
  generalize (w.alloc (.cells #[.int .i64 many] 3)).alloc (.cells #[.bool false] 4) = W0 at *
  refine ⟨trivial, ?_⟩
  refine (hK.out W0 hbM).mono ?_
  rintro e w9 ⟨rfl, hb9⟩
  have bR9 := Boxed.below bR hb9 bR.lt
  have e0 := bR9.cell
  have e1 := bR9.frozen
  have hB9 : Below w.heap.size w (w9.setCell ⟨w.heap.size + 1, 0, none⟩ (.bool true)) := (hbM.trans (hb9.mono hbM.size)).setCell (p := ⟨w.heap.size + 1, 0, none⟩) (by simp only; omega) _
  have bRf := Boxed.set (.bool true) bR9
  have hs9 := bRf.lt
  gi_wp2
  exact leaves_marks (B := w.heap.size + 2) [] _ (Marks.nil _) (fun E hE => by simp at hE) (fun w2 h2 => ⟨.bool true, signs_results rfl (Boxed.below bRf h2 (by omega)), rfl, hB9.trans (h2.mono (by omega))⟩)
theorem signs_walk {A : Option Addr} {n c : Nat} {many : Int} {xs : List Int} {w : World} (hK : Kinds w) (hI : Rd .i64 w w.heap.size A n xs) :
    Calls Tryd.prog 8 #[.slice A n c, .int .i64 many] w fun e w' => e = .returned (.bool true) ∧ Below w.heap.size w w' := by
  by_cases hn : n ≤ 500
  · have hl := hI.len
    by_cases hs : softB xs = true
    · exact callsIn_wide.1 (signs_in (d := 14) (by decide) (H := n) (zs := xs) hK hI hn hl (Nat.le_refl _) (fun _ _ => rfl) (if_pos hs) (if_pos hs) (fun _ => rfl))
    · exact callsIn_wide.1 (signs_in (d := 14) (by decide) (H := 0) (zs := []) (eh := 2) hK hI hn rfl (Nat.zero_le _) (fun j hj => absurd hj (Nat.not_lt_zero j)) (if_neg hs) (if_neg hs) (fun h => absurd h (Nat.lt_irrefl 0)))
  · exact callsIn_wide.1 (signs_big (d := 14) (by decide) hK hn)
end Go.Proofs.YtkkombhpiagngaaDoor
