/-
  The walk of TrellisWalks.
-/
import Derived.Test.YtjehfdnkdfmmbaaL2
import Derived.Test.YtjehfdnkdfmmbaaTd
namespace Go.Proofs.Ytjehfdnkdfmmbaa
open Go.RowKit Go.Shelf BigFrame

attribute [local go_sem] Oper.semAt_some

theorem below_grownE {w w' : World} (h : Below w.heap.size w w') : w.grownBy w' none := ⟨h.os, h.tape, h.output, h.size, fun k hk _ => h.block k hk⟩
/-- The counter, the turn, and what lay there before. -/
def EcI (wb : World) (Nc Tc t : Nat) (Ds : List Nat) (k : Nat) (W : World) : Prop :=
  (Boxed W Nc 3 (.int .i64 (k : Int)) ∧ Boxed W Tc 3 (.int .i64 (t : Int))) ∧ Below wb.heap.size wb W ∧ Marks W Ds
theorem ecI_from {wb : World} {Nc Tc t B : Nat} {Ds : List Nat} (hB : wb.heap.size ≤ B) (hD : ∀ D ∈ Ds, D < B) : OwnFrom B (EcI wb Nc Tc t Ds) :=
  OwnFrom.and (Own.from (fun k A C row hs hg hr => ⟨boxed_own Nc 3 (fun k : Nat => .int .i64 (k : Int)) k A C row hs.1 hg hr, boxed_own Tc 3 (fun _ : Nat => .int .i64 (t : Int)) k A C row hs.2 hg hr⟩) _)
    (OwnFrom.and (ownFrom_below (Nat.le_refl _) hB) (Marks.ownFrom hD))
theorem ecI_span {wb : World} {Nc Tc t B M : Nat} {Ds : List Nat} (hB : wb.heap.size ≤ B) (hN : Nc < B) (hT : Tc < B) (hD : ∀ D ∈ Ds, D < B) : SpanFrom B M (EcI wb Nc Tc t Ds) := by
  intro k W W' r h hg h1 h2
  exact ⟨⟨h.1.1.kept hg (fun e => by injection e with e; omega), h.1.2.kept hg (fun e => by injection e with e; omega)⟩, h.2.1.grown hg h.2.1.size (fun q e => by injection e with e; omega), h.2.2.grown hg (fun D hDD e => by injection e with e; have := hD D hDD; omega)⟩
theorem ecI_step {wb : World} {Nc Tc t : Nat} {Ds : List Nat} {k : Nat} {W : World} (h : EcI wb Nc Tc t Ds k W) (hN : wb.heap.size ≤ Nc) (hne : Tc ≠ Nc) (hD : Nc ∉ Ds) (x : Int) (hx : x = ((k + 1 : Nat) : Int)) :
    EcI wb Nc Tc t Ds (k + 1) (W.setCell ⟨Nc, 0, none⟩ (.int .i64 x)) := by
  subst hx
  exact ⟨⟨h.1.1.set _, h.1.2.other hne _⟩, h.2.1.setCell (p := ⟨Nc, 0, none⟩) hN _, h.2.2.setCell _ hD⟩
theorem span_set {W : World} {B M Nc : Nat} (h : Nc < B) (v : Value) : KeepsSpan B M W (W.setCell ⟨Nc, 0, none⟩ v) := fun j h1 _ => Below.heap_setCell _ _ _ _ (by dsimp only; omega)
theorem walks_results {W : World} {tmps : Array Value} {B : Nat} (h4 : tmps.getD 4 undef = .pointer (some ⟨B, 0, none⟩)) (hb : Boxed W B 4 (.bool true)) :
    (results Try.f6 tmps).run Try.prog W = .ok (.bool true) W := by
  have hc := hb.cell
  simp only [Array.getD_eq_getD_getElem?] at h4
  simp [results, Try.results6, go_sem, h4, hc]
theorem OwnFrom.pureE {β : Type} {B : Nat} {I : β → World → Prop} (h : OwnFrom B I) (p : β → Prop) : OwnFrom B (fun s W => I s W ∧ p s) := fun s A C row hs hg hr => ⟨h s A C row hs.1 hg hr, hs.2⟩
theorem SpanFrom.pureE {β : Type} {B M : Nat} {I : β → World → Prop} (h : SpanFrom B M I) (p : β → Prop) : SpanFrom B M (fun s W => I s W ∧ p s) := fun s A C r hs hg h1 h2 => ⟨h s A C r hs.1 hg h1 h2, hs.2⟩
theorem Boxed.below {W W' : World} {B N : Nat} {t : TypeId} {v : Value} (h : Boxed W B t v) (hb : Below N W W') (hB : B < N) : Boxed W' B t v := (hb.block B hB).trans h
theorem stL_get {xs : List Int} {n k : Nat} (hk : k < n) : (stL xs n)[k]?.getD 0 = ((stK xs (k + 1) : Nat) : Int) := by simp [stL, hk]
theorem paL_get {xs : List Int} {n k : Nat} (hk : k < n) : (paL xs n)[k]?.getD 0 = paK xs k := by simp [paL, hk]
theorem vlen_bits {xs : List Int} : ∀ j, j < vlen xs → xs[j]?.getD 0 ≤ 1 := by
  induction xs with
  | nil => intro j hj; simp [vlen] at hj
  | cons x xs ih =>
    intro j hj
    by_cases hx : x ≤ 1
    · cases j with
      | zero => simpa using hx
      | succ j =>
        have : j < vlen xs := by unfold vlen at hj ⊢; simp [hx] at hj; exact hj
        simpa using ih j this
    · simp [vlen, hx] at hj
theorem paK_range {xs : List Int} (hb : Byte xs) {j : Nat} (h : xs[j]?.getD 0 ≤ 1) : 0 ≤ paK xs j ∧ paK xs j ≤ 1 := by
  have h0 := hb j
  have e : paK xs j = ((parS7 (stK xs j) (xs[j]?.getD 0).toNat : Nat) : Int) := by unfold paK goP; rw [if_pos h]
  have := (step_lt _ (stK_lt hb j) (xs[j]?.getD 0).toNat (by omega)).2
  rw [e]
  omega
theorem vlen_le (xs : List Int) : vlen xs ≤ xs.length := by unfold vlen; exact (List.takeWhile_sublist _).length_le
theorem ownsRow_below {w w' : World} {base n N : Nat} {e : TypeId} {v : Value} {xs : List Value} (h : w.ownsRow base e 1 v n xs) (hb : Below N w w') (hN : w.heap.size ≤ N) : w'.ownsRow base e 1 v n xs := ownsRow_block h (fun g hg => hb.block g (Nat.lt_of_lt_of_le (h.lt g hg).2 hN))
set_option maxRecDepth 100000 in
set_option maxHeartbeats 8000000 in
theorem walks_in {d : Nat} (hd : 12 ≤ d) {A : Option Addr} {n c : Nat} {many : Int} {xs : List Int} {w : World} (hI : Rd .u8 w w.heap.size A n xs) (hb : Byte xs) (hn : n ≤ 300) :
    CallsIn Fence.wide d Try.prog 6 #[.slice A n c, .int .i64 many] w fun e w' => e = .returned (.bool true) ∧ Below w.heap.size w w' := by
  have hnil : ∀ (C : Nat) (u : World), (binOp .eql 59 (.func (.func 40) #[] #[.pointer (some ⟨C, 0, none⟩)]) .nilFunc).run Try.prog u = .ok (.bool false) u := fun C u => by kernel_rfl
  have hln := hI.len
  have hvn : vlen xs ≤ n := by rw [← hln]; exact vlen_le xs
  obtain ⟨L, hL⟩ : ∃ L, vlen xs = L := ⟨_, rfl⟩
  obtain ⟨vb, hvb⟩ : ∃ vb, validB xs = vb := ⟨_, rfl⟩
  rw [hL] at hvn
  have h1 : 8 ≤ d := by omega
  have h1' : 1 ≤ d := by omega
  have hn1 : ¬ (300 : Int) < (n : Int) := by omega
  have hRW := Lib.hid (fun (u : World) (h : Rd .u8 u u.heap.size A n xs) => callsIn_wide (n := d - 1).2 (refWalk_any (c := c) h hb (by omega)))
  have hRW' := Lib.hid (fun (u : World) (h : Rd .u8 u u.heap.size A n xs) => by have := hRW.out u h; unfold RetW at this; rw [hL, hvb] at this; exact this)
  clear hRW
  have hWK := Lib.hid (fun (u : World) (A : Option Addr) (c : Nat) (h : Rd .u8 u u.heap.size A n xs) => callsIn_wide (n := d - 1).2 (Walk_any (c := c) h (by omega)))
  have hK := Lib.hid (fun (u : World) => callsIn_wide (n := d - 1).2 (works_any (w := u)))
  have HS := Lib.hid (fun k (hk : k < L) => And.intro (stL_get (xs := xs) hk) (And.intro (paL_get (xs := xs) hk) (paK_range hb (vlen_bits k (by rw [hL]; exact hk)))))
  have HB := Lib.hid hb
  have HL := Lib.hid hL
  have hbl : L ≤ 300 := by omega
  refine callsIn_of_wp_marks Try.func6 rfl trivial ?_ rfl
  simp only [Try.ntmps6, List.size_toArray, List.length_cons, List.length_nil, Nat.reduceAdd, Nat.reduceSub, Array.replicate_succ, Array.replicate_zero, List.push_toArray, List.append_toArray, List.nil_append, List.cons_append]
  have hbM := below_two (w := w) (.cells #[.int .i64 many] 3) (.cells #[.bool false] 4)
  have bM := (Boxed.new w 3 (.int .i64 many)).alloc (.cells #[.bool false] 4)
  have bR := Boxed.new (w.alloc (.cells #[.int .i64 many] 3)) 4 (.bool false)
  rw [World.size_alloc] at bR
  have hs0 : ((w.alloc (.cells #[.int .i64 many] 3)).alloc (.cells #[.bool false] 4)).heap.size = w.heap.size + 2 := by simp
  have hI0 := hI.step hbM
  obtain ⟨W0, hW0⟩ : ∃ W0, (w.alloc (.cells #[.int .i64 many] 3)).alloc (.cells #[.bool false] 4) = W0 := ⟨_, rfl⟩
  rw [hW0] at hbM bM bR hs0 hI0
  obtain ⟨A5, c5, w1, run1, hO1, hb1⟩ := copy_run (c := c) hI0 (by omega)
  rw [hs0] at run1
  have H1 := Lib.hid run1
  have hq := Lib.hid (fun q e => hO1.lt q e)
  rw [hs0] at hq
  have hz0 := hs0
  have I1 := hI0.step hb1
  have bM1 := Boxed.below bM hb1 bM.lt
  have bR1 := Boxed.below bR hb1 bR.lt
  have hB1 := hbM.trans (hb1.mono hbM.size)
  have hz1 := hb1.size
  clear hI hb hL bM bR hbM hI0 run1 hb1
  gi_wp2_with (gi_at_builtin; refine wpListIn_append_run rfl _ _ _ rfl _ _ _ rfl rfl H1.out ?_)
  refine ⟨trivial, ?_⟩
  refine (hRW'.out w1 I1).mono ?_
  rintro e w2 ⟨A1, c1, A2, c2, rfl, oS, oP, hb2⟩
  have bM2 := Boxed.below bM1 hb2 bM1.lt
  have bR2 := Boxed.below bR1 hb2 bR1.lt
  have hO2 := ownsRow_below hO1 hb2 (Nat.le_refl _)
  have hB2 := hB1.trans (hb2.mono hB1.size)
  have hz2 := hb2.size
  have hbx := below_two (w := w2) (.cells #[.slice A1 L c1] 55) (.cells #[.slice A2 L c2] 36)
  have bS3 := (Boxed.new w2 55 (.slice A1 L c1)).alloc (.cells #[.slice A2 L c2] 36)
  have bP3 := Boxed.new (w2.alloc (.cells #[.slice A1 L c1] 55)) 36 (.slice A2 L c2)
  rw [World.size_alloc] at bP3
  have bM3 := Boxed.below bM2 hbx bM2.lt
  have bR3 := Boxed.below bR2 hbx bR2.lt
  have oS3 := ownsRow_below oS hbx (Nat.le_refl _)
  have oP3 := ownsRow_below oP hbx (Nat.le_refl _)
  have hO3 := ownsRow_below hO2 hbx (Nat.le_refl _)
  have hB3 := hB2.trans (hbx.mono hB2.size)
  have hz3 : ((w2.alloc (.cells #[.slice A1 L c1] 55)).alloc (.cells #[.slice A2 L c2] 36)).heap.size = w2.heap.size + 2 := by simp
  clear I1 bM1 bR1 hO1 hB1 bM2 bR2 hO2 hB2 oS oP hbx hRW' hb2 H1
  gi_wp2
  generalize (w2.alloc (.cells #[.slice A1 L c1] 55)).alloc (.cells #[.slice A2 L c2] 36) = W3 at *
  refine ⟨trivial, ?_⟩
  refine (hWK.out W3 A5 c5 (Rd.of_own hO3)).mono ?_
  rintro e w4 ⟨A6, c6, C, rfl, bC4, hCl, oC4, hb4⟩
  have bM4 := Boxed.below bM3 hb4 bM3.lt
  have bR4 := Boxed.below bR3 hb4 bR3.lt
  have bS4 := Boxed.below bS3 hb4 bS3.lt
  have bP4 := Boxed.below bP3 hb4 bP3.lt
  have oS4 := ownsRow_below oS3 hb4 (Nat.le_refl _)
  have oP4 := ownsRow_below oP3 hb4 (Nat.le_refl _)
  have HOW : Hid (w4.ownsRow W0.heap.size 5 1 (.slice A5 n c5) n (xs.map (Value.int .u8)) ∧ w4.grownBy w4 (Value.slice A5 n c5).ownBlock) := Lib.hid ⟨ownsRow_below hO3 hb4 (Nat.le_refl _), ⟨rfl, rfl, rfl, Nat.le_refl _, fun _ _ _ => rfl⟩⟩
  have hB4 := hB3.trans (hb4.mono hB3.size)
  have hz4 := hb4.size
  have hN0 := hnil C
  obtain ⟨M, hM⟩ : ∃ M, w.heap.size = M := ⟨_, rfl⟩
  obtain ⟨Wc, hWc⟩ : ∃ Wc, w2.heap.size = Wc := ⟨_, rfl⟩
  obtain ⟨N1, hN1⟩ : ∃ N1, w1.heap.size = N1 := ⟨_, rfl⟩
  have HM := Lib.hid hM
  have HQ : Hid (∀ q, (Value.slice A5 n c5).ownBlock = some q → M + 2 ≤ q ∧ q < N1) := Lib.hid (fun q e => by have := hq.out q e; omega)
  have hz : Hid (M + 2 ≤ N1 ∧ N1 ≤ Wc ∧ W3.heap.size = Wc + 2 ∧ W3.heap.size ≤ w4.heap.size ∧ W3.heap.size ≤ C) := Lib.hid (by omega)
  rw [hM] at bM4 bR4
  rw [hWc] at bS4 bP4
  rw [hN1] at oS4 oP4
  clear hnil hWK bM3 bR3 bS3 bP3 oS3 oP3 hO3 hB3 hb4 hq hz0 hz1 hz2 hz3 hz4 hCl hM hN1 hW0
  rw [hWc]
  rw [HM.out]
  gi_wp2
  gi_loopw [10] (fun i W => ∃ (k : Nat) (zs : List Int), k ≤ n ∧ i = .int .i64 (k : Int) ∧ Hid (W.ownsRow W0.heap.size 5 1 (.slice A5 n c5) n (zs.map (Value.int .u8)) ∧ w4.grownBy W (Value.slice A5 n c5).ownBlock)) (fun i _ => n - (intOf i).toNat)
  case atStart => exact ⟨0, xs, Nat.zero_le _, rfl, HOW⟩
  case round =>
    clear HOW
    obtain ⟨k, zs, hk, rfl, hH⟩ := hrel
    by_cases hlt : k < n
    · obtain ⟨g, cap, hv, hbg, hgl⟩ := hH.out.1.form (by omega)
      have hv1 : A5 = some ⟨g, 0, none⟩ := by injection hv
      subst hv1
      obtain ⟨b2, off2, e2, _, hc2⟩ := (Rd.of_own hH.out.1).cells k hlt
      injection e2 with e2
      injection e2 with e2 e3
      subst e2 e3
      rw [Nat.zero_add] at hc2
      have hst := (hH.out.1.stored k (.int .u8 9)).1
      have hfr := hH.out.1.frozenAt k
      rw [← List.map_set] at hst
      have hg2 := grown_same hH.out.2 (grownBy_setCell_at wr ⟨g, k, none⟩ (.int .u8 9))
      have H2 := Lib.hid (And.intro hst hg2)
      have hk0 : (0 : Int) ≤ (k : Int) := by omega
      have hk1 : (k : Int) < (n : Int) := by omega
      clear hst hg2 hH hv hN0 oS4 oP4 oC4 bM4 bR4 bS4 bP4 bC4 hB4
      gi_wp2
      go_roundw
      case rel => exact ⟨k + 1, _, by omega, by go_num, H2⟩
      case measure => simp [intOf]; omega
    · have hkn : k = n := by omega
      subst k
      have hg := hH.out.2
      have bM5 := bM4.kept hg (fun e => by have := HQ.out _ e.symm; omega)
      have bR5 := bR4.kept hg (fun e => by have := HQ.out _ e.symm; omega)
      have bS5 := bS4.kept hg (fun e => by have := HQ.out _ e.symm; have := hz.out; omega)
      have bP5 := bP4.kept hg (fun e => by have := HQ.out _ e.symm; have := hz.out; omega)
      have bC5 := bC4.kept hg (fun e => by have := HQ.out _ e.symm; have := hz.out; omega)
      have rS := Rd.of_own (ownsRow_other oS4 hg (fun q e1 e2 => by have := HQ.out q e2; have := oS4.lt q e1; omega))
      have rP := Rd.of_own (ownsRow_other oP4 hg (fun q e1 e2 => by have := HQ.out q e2; have := oP4.lt q e1; omega))
      have rC := Rd.of_own (ownsRow_other oC4 hg (fun q e1 e2 => by have := HQ.out q e2; have := oC4.lt q e1; have := hz.out; omega))
      have hb5 := hB4.grown hg hB4.size (fun q e => by have := HQ.out q e; have := HM.out; omega)
      have hlM := bM5.lt
      have hlR := bR5.lt
      have hlW := bS5.lt
      have hlP := bP5.lt
      have hlC := bC5.lt
      have hT0 := Boxed.new wr 3 (.int .i64 0)
      obtain ⟨wb, hwb⟩ : ∃ wb, wr = wb := ⟨_, rfl⟩
      subst wr
      clear hg hH oS4 oP4 oC4 bM4 bR4 bS4 bP4 bC4 hB4 HQ hz
      gi_wp2
      have hbT : Below wb.heap.size wb (wb.alloc (.cells #[.int .i64 0] 3)) := (Below.refl _ _).alloc (Nat.le_refl _) _
      refine wpIn_loop
        (fun a' w' => ∃ (k Tc : Nat) (Ds : List Nat) (v : Nat → Value), k ≤ 2 ∧ Ds.length = k ∧ v = (fun i => a'.tmps.getD i undef) ∧
          a' = { tmps := List.toArray ((.slice A n c) :: (.int .i64 many) :: (v 2) :: (.pointer (some ⟨M, 0, none⟩)) :: (.pointer (some ⟨M + 1, 0, none⟩)) :: (.slice A5 n c5) :: (.pointer (some ⟨Wc, 0, none⟩)) :: (.pointer (some ⟨Wc + 1, 0, none⟩)) :: (.bool vb) :: (.func (.func 40) #[] #[.pointer (some ⟨C, 0, none⟩)]) :: (.int .i64 (n : Int)) :: (.pointer (some ⟨Tc, 0, none⟩)) :: (v 12) :: (v 13) :: (v 14) :: (v 15) :: (v 16) :: (v 17) :: (v 18) :: (v 19) :: (v 20) :: (v 21) :: (v 22) :: (v 23) :: (v 24) :: (v 25) :: (v 26) :: (v 27) :: (v 28) :: (v 29) :: (v 30) :: (v 31) :: (v 32) :: (v 33) :: (v 34) :: (v 35) :: (v 36) :: (v 37) :: (v 38) :: (v 39) :: (v 40) :: (v 41) :: (v 42) :: (v 43) :: (v 44) :: (v 45) :: (v 46) :: (v 47) :: (v 48) :: (v 49) :: (v 50) :: (v 51) :: (v 52) :: (v 53) :: (v 54) :: (v 55) :: (v 56) :: (v 57) :: (v 58) :: (v 59) :: (v 60) :: (v 61) :: (v 62) :: (v 63) :: (v 64) :: (v 65) :: (v 66) :: (v 67) :: (v 68) :: (v 69) :: (v 70) :: (v 71) :: (v 72) :: (v 73) :: (v 74) :: (v 75) :: (v 76) :: (v 77) :: (v 78) :: (v 79) :: (v 80) :: (v 81) :: (v 82) :: (v 83) :: (v 84) :: (v 85) :: (v 86) :: (v 87) :: (v 88) :: (v 89) :: (v 90) :: (v 91) :: (v 92) :: (v 93) :: (v 94) :: (v 95) :: (v 96) :: (v 97) :: (v 98) :: (v 99) :: (v 100) :: []), defers := Ds.map mkD } ∧ Below wb.heap.size wb w' ∧ Boxed w' Tc 3 (.int .i64 (k : Int)) ∧ wb.heap.size ≤ Tc ∧ Marks w' Ds ∧ (∀ D ∈ Ds, wb.heap.size ≤ D) ∧ Tc ∉ Ds)
        (fun a' _ => 2 - a'.defers.length) ?start ?round
      case start => exact ⟨0, wb.heap.size, [], _, Nat.zero_le _, rfl, rfl, rfl, hbT, hT0, Nat.le_refl _, Marks.nil _, by simp, by simp⟩
      case round =>
        rintro a' w' ⟨k, Tc, Ds, v, hk2, hDl, hv, ha, hB, hT, hTl, hMk, hDs, hTD⟩
        clear hv
        subst ha
        have hcT := hT.cell
        by_cases hlt : k < 2
        · rcases (show k = 0 ∨ k = 1 by omega) with hk | hk
          · subst hk
            have hMc := (hB.cell (p := ⟨M, 0, none⟩) (show M < wb.heap.size from hlM)).trans bM5.cell
            have hsw := hB.size
            have hDl2 := hMk.lt
            have hTw := hT.lt
            rw [show (((0 : Nat) : Int)) = 0 from rfl] at hcT
            have bN := Boxed.new w' 3 (.int .i64 0)
            have hT1 := hT.alloc (.cells #[.int .i64 0] 3)
            have hB1 := hB.alloc hB.size (.cells #[.int .i64 0] 3)
            have hMk1 := hMk.alloc (.cells #[.int .i64 0] 3)
            have hs1 : (w'.alloc (.cells #[.int .i64 0] 3)).heap.size = w'.heap.size + 1 := by simp
            obtain ⟨Nc, hNc⟩ : ∃ Nc, w'.heap.size = Nc := ⟨_, rfl⟩
            have HNC := Lib.hid hNc
            rw [hNc] at bN hs1 hsw hTw hDl2
            clear hNc
            gi_wp2
            rw [HNC.out]
            generalize w'.alloc (.cells #[.int .i64 0] 3) = w1 at *
            have hI0 : EcI wb Nc Tc 0 Ds 0 w1 := ⟨⟨bN, hT1⟩, hB1, hMk1⟩
            have HS1 := Lib.hid hs1
            have hneT : Tc ≠ Nc := by omega
            have hDN : Nc ∉ Ds := fun h => by have := hDl2 _ h; omega
            obtain ⟨J, hJ⟩ : ∃ J : Nat, (((L : Int) ≤ many ∨ L = 0) ∧ J = L) ∨ (1 ≤ L ∧ many ≤ 1 ∧ J = 1) ∨ (1 < many ∧ many < (L : Int) ∧ (J : Int) = many) := by
              by_cases h1 : (L : Int) ≤ many ∨ L = 0
              · exact ⟨_, .inl ⟨h1, rfl⟩⟩
              · by_cases h2 : many ≤ 1
                · exact ⟨1, .inr (.inl ⟨by omega, h2, rfl⟩)⟩
                · exact ⟨many.toNat, .inr (.inr ⟨by omega, by omega, by omega⟩)⟩
            clear bN hT1 hB1 hMk1 hcT hs1
            refine wpIn_walk (n := d) (C := C) (c := c6) (Bx := wb.heap.size) h1 HB.out (by omega) rfl rfl (fun k W => EcI wb Nc Tc 0 Ds k W ∧ (k = 0 ∨ (k : Int) < many)) (fun c W => c = .exit 4 ∧ EcI wb Nc Tc 0 Ds J W)
              (OwnFrom.pureE (ecI_from (by have := HS1.out; omega) (fun D hD => by have := hDl2 D hD; have := HS1.out; omega)) _)
              (fun c s A C row hs hg hr => ⟨hs.1, (ecI_from (by have := HS1.out; omega) (fun D hD => by have := hDl2 D hD; have := HS1.out; omega)) J A C row hs.2 hg hr⟩)
              (SpanFrom.pureE (ecI_span (by have := HS1.out; omega) (by have := HS1.out; omega) (by have := HS1.out; omega) (fun D hD => by have := hDl2 D hD; have := HS1.out; omega)) _)
              (fun W h => (h.1.2.1.cell (p := ⟨C, 0, none⟩) (show C < wb.heap.size from hlC)).trans bC5.cell) (fun k W h => rC.below h.1.2.1) ⟨hI0, .inl rfl⟩
              (fun k => { tmps := List.toArray ((.slice A n c) :: (.int .i64 many) :: (v 2) :: (.pointer (some ⟨M, 0, none⟩)) :: (.pointer (some ⟨M + 1, 0, none⟩)) :: (.slice A5 n c5) :: (.pointer (some ⟨Wc, 0, none⟩)) :: (.pointer (some ⟨Wc + 1, 0, none⟩)) :: (.bool vb) :: (.func (.func 40) #[] #[.pointer (some ⟨C, 0, none⟩)]) :: (.int .i64 (n : Int)) :: (.pointer (some ⟨Tc, 0, none⟩)) :: (.pointer (some ⟨Nc, 0, none⟩)) :: (.int .i64 (stK xs (k + 1) : Nat)) :: (.int .i64 (paK xs k)) :: (v 15) :: (v 16) :: (v 17) :: (v 18) :: (v 19) :: (v 20) :: (v 21) :: (v 22) :: (v 23) :: (v 24) :: (v 25) :: (v 26) :: (v 27) :: (v 28) :: (v 29) :: (v 30) :: (v 31) :: (v 32) :: (v 33) :: (v 34) :: (v 35) :: (v 36) :: (v 37) :: (v 38) :: (v 39) :: (v 40) :: (.int .i64 0) :: (.bool true) :: (v 43) :: (v 44) :: (.func (.func 40) #[] #[.pointer (some ⟨C, 0, none⟩)]) :: (.int .i64 (stK xs (k + 1) : Nat)) :: (.int .i64 (paK xs k)) :: (v 48) :: (v 49) :: (v 50) :: (v 51) :: (v 52) :: (v 53) :: (v 54) :: (v 55) :: (v 56) :: (v 57) :: (v 58) :: (v 59) :: (v 60) :: (v 61) :: (v 62) :: (v 63) :: (v 64) :: (v 65) :: (v 66) :: (v 67) :: (v 68) :: (v 69) :: (v 70) :: (v 71) :: (v 72) :: (v 73) :: (v 74) :: (v 75) :: (v 76) :: (v 77) :: (v 78) :: (v 79) :: (v 80) :: (v 81) :: (v 82) :: (v 83) :: (v 84) :: (v 85) :: (v 86) :: (v 87) :: (v 88) :: (v 89) :: (v 90) :: (v 91) :: (v 92) :: (v 93) :: (v 94) :: (v 95) :: (v 96) :: (v 97) :: (v 98) :: (v 99) :: (v 100) :: []), defers := [] }) ?assign ?body ?done ?stop
            case assign =>
              intro lp k W K hK
              gi_wp2
              exact hK
            case body =>
              rintro lp k W hk ⟨hI, hp⟩ hbig
              rw [HL.out] at hk
              obtain ⟨b5, off5, rfl, _, hcz⟩ := rS.cells k hk
              obtain ⟨b6, off6, rfl, _, hcp⟩ := rP.cells k hk
              obtain ⟨hs1, hs2, hs3, hs4⟩ := HS.out k hk
              rw [hs1] at hcz
              rw [hs2] at hcp
              have y1 := hI.1.1.cell
              have f1 := hI.1.1.frozen
              have y2 := hI.1.2.cell
              rw [show (((0 : Nat) : Int)) = 0 from rfl] at y2
              have y3 := (hI.2.1.cell (p := ⟨Wc, 0, none⟩) (show Wc < wb.heap.size from hlW)).trans bS5.cell
              have y4 := (hI.2.1.cell (p := ⟨b5, off5 + k, none⟩) (show b5 < wb.heap.size by assumption)).trans hcz
              have y5 := (hI.2.1.cell (p := ⟨M, 0, none⟩) (show M < wb.heap.size from hlM)).trans bM5.cell
              have y6 := (hI.2.1.cell (p := ⟨Wc + 1, 0, none⟩) (show Wc + 1 < wb.heap.size from hlP)).trans bP5.cell
              have y7 := (hI.2.1.cell (p := ⟨b6, off6 + k, none⟩) (show b6 < wb.heap.size by assumption)).trans hcp
              have hk0 : (0 : Int) ≤ (k : Int) := by omega
              have hk1 : (k : Int) < (L : Int) := by omega
              have hk2 : ¬ (L : Int) ≤ (k : Int) := by omega
              have HI := Lib.hid (ecI_step hI (by omega) hneT hDN ((k : Int) + 1) (by omega))
              have hKF : Hid (KeepsFrom w1.heap.size W (W.setCell ⟨Nc, 0, none⟩ (.int .i64 ((k : Int) + 1))) ∧ KeepsSpan (w1.heap.size + 2) 5 W (W.setCell ⟨Nc, 0, none⟩ (.int .i64 ((k : Int) + 1)))) := Lib.hid ⟨(KeepsOthers.setCell W _ _).from _, span_set (by have := HS1.out; omega) _⟩
              generalize paK xs k = pk at *
              generalize stK xs (k + 1) = sk at *
              have wp : IntKind.i64.wrap pk = pk := by rw [IntWalk.i64_in _ (by omega)]
              have hJk : Hid ((many ≤ (k : Int) + 1 → EcI wb Nc Tc 0 Ds J (W.setCell ⟨Nc, 0, none⟩ (.int .i64 ((k : Int) + 1)))) ∧ True) := Lib.hid ⟨fun hm => (show k + 1 = J by omega) ▸ HI.out, trivial⟩
              clear hI hp hJ hcz hcp hs1 hs2 rS rP
              by_cases hm : many ≤ (k : Int) + 1
              · gi_wp2
                exact ⟨hKF.out.1, rfl, hJk.out.1 hm⟩
              · gi_wp2
                exact ⟨hKF.out.1, hKF.out.2, HI.out, .inr (by omega)⟩
            case done =>
              rintro D W hD ⟨hI, hp⟩ hKD
              rw [HL.out] at hI hp
              have hJb : J = L := by omega
              have HJB := Lib.hid hJb
              clear hJb hJ
              subst hD
              have hnD : w1.heap.size ∉ Ds := fun h => by have := hDl2 _ h; have := HS1.out; omega
              have hbel := Lib.hid (hI.2.1.alloc hI.2.1.size (.cells #[.int .i64 1] 3))
              have hbox : Hid (Boxed (W.alloc (.cells #[.int .i64 1] 3)) W.heap.size 3 (.int .i64 ((1 : Nat) : Int))) := Lib.hid (Boxed.new W 3 (.int .i64 1))
              have hmk := Lib.hid ((hI.2.2.cons hKD hnD).alloc (.cells #[.int .i64 1] 3))
              have hszW := hI.2.1.size
              have hMl := (hI.2.2.cons hKD hnD).lt
              have hfin : Hid ((∀ D ∈ w1.heap.size :: Ds, wb.heap.size ≤ D) ∧ W.heap.size ∉ w1.heap.size :: Ds) := Lib.hid ⟨fun E hE => by
                rcases List.mem_cons.1 hE with rfl | hE
                · have := HS1.out; omega
                · exact hDs E hE, fun h => by have := hMl _ h; omega⟩
              clear hMl hnD
              have y1 := hI.1.1.cell
              have y2 := hI.1.2.cell
              rw [show (((0 : Nat) : Int)) = 0 from rfl] at y2
              have y3 := (hI.2.1.cell (p := ⟨Wc, 0, none⟩) (show Wc < wb.heap.size from hlW)).trans bS5.cell
              have y5 := (hI.2.1.cell (p := ⟨M, 0, none⟩) (show M < wb.heap.size from hlM)).trans bM5.cell
              clear hI hKD rS rP
              gi_wp2
              all_goals first
                | exact ⟨1, by omega, W.heap.size, w1.heap.size :: Ds, by simp [hDl], ⟨rfl, rfl⟩, hbel.out, hbox.out, hszW, hmk.out, hfin.out.1, hfin.out.2⟩
                | exact ⟨⟨1, W.heap.size, w1.heap.size :: Ds, _, by omega, by simp [hDl], rfl, rfl, hbel.out, hbox.out, hszW, hmk.out, hfin.out.1, hfin.out.2⟩, by simp [hDl]⟩
                | (exfalso; omega)
                | fail
            case stop =>
              rintro D c W hD ⟨rfl, hI⟩ hKD
              have HJ := Lib.hid hJ
              subst hD
              have hnD : w1.heap.size ∉ Ds := fun h => by have := hDl2 _ h; have := HS1.out; omega
              have hbel := Lib.hid (hI.2.1.alloc hI.2.1.size (.cells #[.int .i64 1] 3))
              have hbox : Hid (Boxed (W.alloc (.cells #[.int .i64 1] 3)) W.heap.size 3 (.int .i64 ((1 : Nat) : Int))) := Lib.hid (Boxed.new W 3 (.int .i64 1))
              have hmk := Lib.hid ((hI.2.2.cons hKD hnD).alloc (.cells #[.int .i64 1] 3))
              have hszW := hI.2.1.size
              have hMl := (hI.2.2.cons hKD hnD).lt
              have hfin : Hid ((∀ D ∈ w1.heap.size :: Ds, wb.heap.size ≤ D) ∧ W.heap.size ∉ w1.heap.size :: Ds) := Lib.hid ⟨fun E hE => by
                rcases List.mem_cons.1 hE with rfl | hE
                · have := HS1.out; omega
                · exact hDs E hE, fun h => by have := hMl _ h; omega⟩
              clear hMl hnD
              have y1 := hI.1.1.cell
              have y2 := hI.1.2.cell
              rw [show (((0 : Nat) : Int)) = 0 from rfl] at y2
              have y3 := (hI.2.1.cell (p := ⟨Wc, 0, none⟩) (show Wc < wb.heap.size from hlW)).trans bS5.cell
              have y5 := (hI.2.1.cell (p := ⟨M, 0, none⟩) (show M < wb.heap.size from hlM)).trans bM5.cell
              clear hI hKD rS rP
              gi_wp2
              all_goals first
                | exact ⟨1, by omega, W.heap.size, w1.heap.size :: Ds, by simp [hDl], ⟨rfl, rfl⟩, hbel.out, hbox.out, hszW, hmk.out, hfin.out.1, hfin.out.2⟩
                | exact ⟨⟨1, W.heap.size, w1.heap.size :: Ds, _, by omega, by simp [hDl], rfl, rfl, hbel.out, hbox.out, hszW, hmk.out, hfin.out.1, hfin.out.2⟩, by simp [hDl]⟩
                | (exfalso; omega)
                | fail
          · subst hk
            have hMc := (hB.cell (p := ⟨M, 0, none⟩) (show M < wb.heap.size from hlM)).trans bM5.cell
            have hsw := hB.size
            have hDl2 := hMk.lt
            have hTw := hT.lt
            rw [show (((1 : Nat) : Int)) = 1 from rfl] at hcT
            have bN := Boxed.new w' 3 (.int .i64 0)
            have hT1 := hT.alloc (.cells #[.int .i64 0] 3)
            have hB1 := hB.alloc hB.size (.cells #[.int .i64 0] 3)
            have hMk1 := hMk.alloc (.cells #[.int .i64 0] 3)
            have hs1 : (w'.alloc (.cells #[.int .i64 0] 3)).heap.size = w'.heap.size + 1 := by simp
            obtain ⟨Nc, hNc⟩ : ∃ Nc, w'.heap.size = Nc := ⟨_, rfl⟩
            have HNC := Lib.hid hNc
            rw [hNc] at bN hs1 hsw hTw hDl2
            clear hNc
            gi_wp2
            rw [HNC.out]
            generalize w'.alloc (.cells #[.int .i64 0] 3) = w1 at *
            have hI0 : EcI wb Nc Tc 1 Ds 0 w1 := ⟨⟨bN, hT1⟩, hB1, hMk1⟩
            have HS1 := Lib.hid hs1
            have hneT : Tc ≠ Nc := by omega
            have hDN : Nc ∉ Ds := fun h => by have := hDl2 _ h; omega
            obtain ⟨J, hJ⟩ : ∃ J : Nat, J = L := ⟨_, rfl⟩
            clear bN hT1 hB1 hMk1 hcT hs1
            refine wpIn_walk (n := d) (C := C) (c := c6) (Bx := wb.heap.size) h1 HB.out (by omega) rfl rfl (fun k W => EcI wb Nc Tc 1 Ds k W) (fun _ _ => False)
              (ecI_from (by have := HS1.out; omega) (fun D hD => by have := hDl2 D hD; have := HS1.out; omega))
              (fun c s A C row hs hg hr => hs)
              (ecI_span (by have := HS1.out; omega) (by have := HS1.out; omega) (by have := HS1.out; omega) (fun D hD => by have := hDl2 D hD; have := HS1.out; omega))
              (fun W h => (h.2.1.cell (p := ⟨C, 0, none⟩) (show C < wb.heap.size from hlC)).trans bC5.cell) (fun k W h => rC.below h.2.1) hI0
              (fun k => { tmps := List.toArray ((.slice A n c) :: (.int .i64 many) :: (v 2) :: (.pointer (some ⟨M, 0, none⟩)) :: (.pointer (some ⟨M + 1, 0, none⟩)) :: (.slice A5 n c5) :: (.pointer (some ⟨Wc, 0, none⟩)) :: (.pointer (some ⟨Wc + 1, 0, none⟩)) :: (.bool vb) :: (.func (.func 40) #[] #[.pointer (some ⟨C, 0, none⟩)]) :: (.int .i64 (n : Int)) :: (.pointer (some ⟨Tc, 0, none⟩)) :: (.pointer (some ⟨Nc, 0, none⟩)) :: (.int .i64 (stK xs (k + 1) : Nat)) :: (.int .i64 (paK xs k)) :: (v 15) :: (v 16) :: (v 17) :: (v 18) :: (v 19) :: (v 20) :: (v 21) :: (v 22) :: (v 23) :: (v 24) :: (v 25) :: (v 26) :: (v 27) :: (v 28) :: (v 29) :: (v 30) :: (v 31) :: (v 32) :: (v 33) :: (v 34) :: (v 35) :: (v 36) :: (v 37) :: (v 38) :: (v 39) :: (v 40) :: (.int .i64 1) :: (.bool true) :: (v 43) :: (v 44) :: (.func (.func 40) #[] #[.pointer (some ⟨C, 0, none⟩)]) :: (.int .i64 (stK xs (k + 1) : Nat)) :: (.int .i64 (paK xs k)) :: (v 48) :: (v 49) :: (v 50) :: (v 51) :: (v 52) :: (v 53) :: (v 54) :: (v 55) :: (v 56) :: (v 57) :: (v 58) :: (v 59) :: (v 60) :: (v 61) :: (v 62) :: (v 63) :: (v 64) :: (v 65) :: (v 66) :: (v 67) :: (v 68) :: (v 69) :: (v 70) :: (v 71) :: (v 72) :: (v 73) :: (v 74) :: (v 75) :: (v 76) :: (v 77) :: (v 78) :: (v 79) :: (v 80) :: (v 81) :: (v 82) :: (v 83) :: (v 84) :: (v 85) :: (v 86) :: (v 87) :: (v 88) :: (v 89) :: (v 90) :: (v 91) :: (v 92) :: (v 93) :: (v 94) :: (v 95) :: (v 96) :: (v 97) :: (v 98) :: (v 99) :: (v 100) :: []), defers := [] }) ?assign ?body ?done ?stop
            case assign =>
              intro lp k W K hK
              gi_wp2
              exact hK
            case body =>
              rintro lp k W hk hI hbig
              rw [HL.out] at hk
              obtain ⟨b5, off5, rfl, _, hcz⟩ := rS.cells k hk
              obtain ⟨b6, off6, rfl, _, hcp⟩ := rP.cells k hk
              obtain ⟨hs1, hs2, hs3, hs4⟩ := HS.out k hk
              rw [hs1] at hcz
              rw [hs2] at hcp
              have y1 := hI.1.1.cell
              have f1 := hI.1.1.frozen
              have y2 := hI.1.2.cell
              rw [show (((1 : Nat) : Int)) = 1 from rfl] at y2
              have y3 := (hI.2.1.cell (p := ⟨Wc, 0, none⟩) (show Wc < wb.heap.size from hlW)).trans bS5.cell
              have y4 := (hI.2.1.cell (p := ⟨b5, off5 + k, none⟩) (show b5 < wb.heap.size by assumption)).trans hcz
              have y5 := (hI.2.1.cell (p := ⟨M, 0, none⟩) (show M < wb.heap.size from hlM)).trans bM5.cell
              have y6 := (hI.2.1.cell (p := ⟨Wc + 1, 0, none⟩) (show Wc + 1 < wb.heap.size from hlP)).trans bP5.cell
              have y7 := (hI.2.1.cell (p := ⟨b6, off6 + k, none⟩) (show b6 < wb.heap.size by assumption)).trans hcp
              have hk0 : (0 : Int) ≤ (k : Int) := by omega
              have hk1 : (k : Int) < (L : Int) := by omega
              have hk2 : ¬ (L : Int) ≤ (k : Int) := by omega
              have HI := Lib.hid (ecI_step hI (by omega) hneT hDN ((k : Int) + 1) (by omega))
              have hKF : Hid (KeepsFrom w1.heap.size W (W.setCell ⟨Nc, 0, none⟩ (.int .i64 ((k : Int) + 1))) ∧ KeepsSpan (w1.heap.size + 2) 5 W (W.setCell ⟨Nc, 0, none⟩ (.int .i64 ((k : Int) + 1)))) := Lib.hid ⟨(KeepsOthers.setCell W _ _).from _, span_set (by have := HS1.out; omega) _⟩
              generalize paK xs k = pk at *
              generalize stK xs (k + 1) = sk at *
              have wp : IntKind.i64.wrap pk = pk := by rw [IntWalk.i64_in _ (by omega)]
              clear hI hJ hcz hcp hs1 hs2 rS rP
              gi_wp2
              exact ⟨hKF.out.1, hKF.out.2, HI.out⟩
            case done =>
              rintro D W hD hI hKD
              rw [HL.out] at hI
              clear hJ
              subst hD
              have hnD : w1.heap.size ∉ Ds := fun h => by have := hDl2 _ h; have := HS1.out; omega
              have hbel := Lib.hid (hI.2.1.alloc hI.2.1.size (.cells #[.int .i64 2] 3))
              have hbox : Hid (Boxed (W.alloc (.cells #[.int .i64 2] 3)) W.heap.size 3 (.int .i64 ((2 : Nat) : Int))) := Lib.hid (Boxed.new W 3 (.int .i64 2))
              have hmk := Lib.hid ((hI.2.2.cons hKD hnD).alloc (.cells #[.int .i64 2] 3))
              have hszW := hI.2.1.size
              have hMl := (hI.2.2.cons hKD hnD).lt
              have hfin : Hid ((∀ D ∈ w1.heap.size :: Ds, wb.heap.size ≤ D) ∧ W.heap.size ∉ w1.heap.size :: Ds) := Lib.hid ⟨fun E hE => by
                rcases List.mem_cons.1 hE with rfl | hE
                · have := HS1.out; omega
                · exact hDs E hE, fun h => by have := hMl _ h; omega⟩
              clear hMl hnD
              have y1 := hI.1.1.cell
              have y2 := hI.1.2.cell
              rw [show (((1 : Nat) : Int)) = 1 from rfl] at y2
              have y3 := (hI.2.1.cell (p := ⟨Wc, 0, none⟩) (show Wc < wb.heap.size from hlW)).trans bS5.cell
              have y5 := (hI.2.1.cell (p := ⟨M, 0, none⟩) (show M < wb.heap.size from hlM)).trans bM5.cell
              clear hI hKD rS rP
              gi_wp2
              all_goals first
                | exact ⟨2, by omega, W.heap.size, w1.heap.size :: Ds, by simp [hDl], ⟨rfl, rfl⟩, hbel.out, hbox.out, hszW, hmk.out, hfin.out.1, hfin.out.2⟩
                | exact ⟨⟨2, W.heap.size, w1.heap.size :: Ds, _, by omega, by simp [hDl], rfl, rfl, hbel.out, hbox.out, hszW, hmk.out, hfin.out.1, hfin.out.2⟩, by simp [hDl]⟩
                | (exfalso; omega)
                | fail
            case stop =>
              rintro D c W hD hx hKD
              exact hx.elim
        · obtain rfl : k = 2 := by omega
          have hbw := hb5.trans (hB.mono hb5.size)
          have hcR := (hB.cell (p := ⟨M + 1, 0, none⟩) (show M + 1 < wb.heap.size from hlR)).trans bR5.cell
          have bRw := Boxed.below bR5 hB hlR
          have hcT2 : w'.cell? ⟨Tc, 0, none⟩ = some (.int .i64 2) := hcT
          clear hcT
          gi_wp2
          refine ⟨trivial, ?_⟩
          refine (hK.out _).mono ?_
          rintro e w9 ⟨rfl, hb9⟩
          have bR9 := Boxed.below bRw hb9 bRw.lt
          have e0 := bR9.cell
          have e1 := bR9.frozen
          have hM9 := (hMk.grown (below_grownE hb9) (fun _ _ e => by cases e)).setCell (p := ⟨M + 1, 0, none⟩) (.bool true) (fun h => by have := hDs _ h; simp only at this; omega)
          have hB9 : Below w.heap.size w (w9.setCell ⟨M + 1, 0, none⟩ (.bool true)) := (hbw.trans (hb9.mono hbw.size)).setCell (p := ⟨M + 1, 0, none⟩) (by have := HM.out; simp only; omega) _
          have bRf := Boxed.set (.bool true) bR9
          gi_wp2
          exact leaves_marks (B := wb.heap.size) Ds _ hM9 (fun E hE => hDs E hE) (fun w2 h2 => ⟨.bool true, walks_results rfl (Boxed.below bRf h2 hlR), rfl, hB9.trans (h2.mono hb5.size)⟩)
set_option maxRecDepth 100000 in
set_option maxHeartbeats 8000000 in
theorem walks_big {d : Nat} (hd : 12 ≤ d) {A : Option Addr} {n c : Nat} {many : Int} {w : World} (hn : ¬ n ≤ 300) :
    CallsIn Fence.wide d Try.prog 6 #[.slice A n c, .int .i64 many] w fun e w' => e = .returned (.bool true) ∧ Below w.heap.size w w' := by
  have h1 : 8 ≤ d := by omega
  have h1' : 1 ≤ d := by omega
  have hn1 : (300 : Int) < (n : Int) := by omega
  have hK := Lib.hid (fun (u : World) => callsIn_wide (n := d - 1).2 (works_any (w := u)))
  refine callsIn_of_wp_marks Try.func6 rfl trivial ?_ rfl
  simp only [Try.ntmps6, List.size_toArray, List.length_cons, List.length_nil, Nat.reduceAdd, Nat.reduceSub, Array.replicate_succ, Array.replicate_zero, List.push_toArray, List.append_toArray, List.nil_append, List.cons_append]
  have hbM := below_two (w := w) (.cells #[.int .i64 many] 3) (.cells #[.bool false] 4)
  have bR := Boxed.new (w.alloc (.cells #[.int .i64 many] 3)) 4 (.bool false)
  rw [World.size_alloc] at bR
  gi_wp2
  generalize (w.alloc (.cells #[.int .i64 many] 3)).alloc (.cells #[.bool false] 4) = W0 at *
  refine ⟨trivial, ?_⟩
  refine (hK.out W0).mono ?_
  rintro e w9 ⟨rfl, hb9⟩
  have bR9 := Boxed.below bR hb9 bR.lt
  have e0 := bR9.cell
  have e1 := bR9.frozen
  have hB9 : Below w.heap.size w (w9.setCell ⟨w.heap.size + 1, 0, none⟩ (.bool true)) := (hbM.trans (hb9.mono hbM.size)).setCell (p := ⟨w.heap.size + 1, 0, none⟩) (by simp only; omega) _
  have bRf := Boxed.set (.bool true) bR9
  have hs9 := bRf.lt
  gi_wp2
  exact leaves_marks (B := w.heap.size + 2) [] _ (Marks.nil _) (fun E hE => by simp at hE) (fun w2 h2 => ⟨.bool true, walks_results rfl (Boxed.below bRf h2 (by omega)), rfl, hB9.trans (h2.mono (by omega))⟩)
theorem walks_walk {A : Option Addr} {n c : Nat} {many : Int} {xs : List Int} {w : World} (hI : Rd .u8 w w.heap.size A n xs) (hb : Byte xs) :
    Calls Try.prog 6 #[.slice A n c, .int .i64 many] w fun e w' => e = .returned (.bool true) ∧ Below w.heap.size w w' := by
  by_cases hn : n ≤ 300
  · exact callsIn_wide.1 (walks_in (d := 14) (by decide) hI hb hn)
  · exact callsIn_wide.1 (walks_big (d := 14) (by decide) hn)
end Go.Proofs.Ytjehfdnkdfmmbaa
