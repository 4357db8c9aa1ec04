/-
  Compare.
-/
import Derived.Test.YtkkombhpiagngaaDoorIt
namespace Go.Proofs.YtkkombhpiagngaaDoor
open Go.RowKit Go.Shelf BigFrame

attribute [local go_sem] Oper.semAt_some

theorem compare_results {W : World} {tmps : Array Value} {B C : Nat} {x y k : Int} {t t' : TypeId} (h4 : tmps.getD 4 undef = .pointer (some ⟨B, 0, none⟩)) (h5 : tmps.getD 5 undef = .pointer (some ⟨C, 0, none⟩)) (h6 : tmps.getD 6 undef = .int .i64 k)
    (hB : Boxed W B t (.int .i64 x)) (hC : Boxed W C t' (.int .i64 y)) :
    (results Tryd.f27 tmps).run Tryd.prog W = .ok (.tuple #[.int .i64 x, .int .i64 y, .int .i64 k]) W := by
  have c0 := hB.cell
  have c1 := hC.cell
  simp only [Array.getD_eq_getD_getElem?] at h4 h5 h6
  simp [results, Tryd.results27, go_sem, h4, h5, h6, c0, c1]
def compareS (l b : List Int) : (Nat × Nat) × Int := if (softB l && decide (l.length = b.length)) = true then (if validB b = true then ((wrongN l b l.length, unkN l l.length), 0) else ((0, 0), 3)) else ((0, 0), 2)
theorem wr1_bits {x b : Int} (hx : x ≠ 0) (hb : b = 0 ∨ b = 1) : wr1 x b = (hardE x != b) := by
  unfold wr1 hardE
  rw [decide_eq_true hx, Bool.true_and]
  by_cases h : x < 0
  · rw [if_pos h, decide_eq_true h]
    rcases hb with rfl | rfl <;> rfl
  · rw [if_neg h, decide_eq_false h]
    rcases hb with rfl | rfl <;> rfl
theorem wr1_zero (b : Int) : wr1 0 b = false := rfl
theorem known_unk (l : List Int) (j : Nat) : (knownN l j).length + unkN l j = j := by
  induction j with
  | zero => rfl
  | succ j ih =>
    rw [knownN_succ, unkN_succ]
    by_cases h : l[j]?.getD 0 = 0
    · rw [if_neg (by simpa using h), if_pos h]; omega
    · rw [if_pos h, if_neg h, List.length_append, List.length_singleton]; omega
theorem boxed_keep {W W' : World} {B : Nat} {t : TypeId} {v : Value} {row : Option Nat} (h : Boxed W B t v) (hg : W.grownBy W' row) (hr : ∀ r, row = some r → ∃ o : Obj, W.heap[r]? = some o ∧ o.isCells = false) : Boxed W' B t v := (cells_kept h hg hr).trans h
/-- Where the loop over the known elements is: wrong ones and unknown ones in their boxes. -/
structure CmI (w : World) (A A2 : Option Addr) (n c c2 BL : Nat) (xs bs : List Int) (k : Nat) (W : World) : Prop where
  bB : Boxed W w.heap.size 38 (.slice A2 n c2)
  bW : Boxed W (w.heap.size + 1) 3 (.int .i64 ((wrongN xs bs k : Nat) : Int))
  bU : Boxed W (w.heap.size + 1 + 1) 3 (.int .i64 ((n : Int) - ((knownN xs k).length : Nat)))
  bl : Boxed W BL 64 (.slice A n c)
  low : Below w.heap.size w W
theorem CmI.own {w : World} {A A2 : Option Addr} {n c c2 BL M : Nat} {xs bs : List Int} (hM : w.heap.size ≤ M) : OwnFrom M (CmI w A A2 n c c2 BL xs bs) := by
  intro j W W' row h hg hr
  have hr' : ∀ r, row = some r → ∃ o : Obj, W.heap[r]? = some o ∧ o.isCells = false := fun r e => (hr r e).2
  exact ⟨boxed_keep h.bB hg hr', boxed_keep h.bW hg hr', boxed_keep h.bU hg hr', boxed_keep h.bl hg hr', h.low.grown hg h.low.size (fun r e => Nat.le_trans hM (hr r e).1)⟩
theorem CmI.zero {w W : World} {A A2 : Option Addr} {n c c2 BL k : Nat} {xs bs : List Int} (h : CmI w A A2 n c c2 BL xs bs k W) (hz : xs[k]?.getD 0 = 0) : CmI w A A2 n c c2 BL xs bs (k + 1) W := by
  have e1 : wrongN xs bs (k + 1) = wrongN xs bs k := by rw [wrongN_succ, hz, wr1_zero]; rfl
  have e2 : knownN xs (k + 1) = knownN xs k := by rw [knownN_succ, if_neg (by simpa using hz)]
  exact ⟨h.bB, by rw [e1]; exact h.bW, by rw [e2]; exact h.bU, h.bl, h.low⟩
set_option maxRecDepth 100000 in
set_option maxHeartbeats 8000000 in
theorem compare_in {d : Nat} (hd : 6 ≤ d) {A A2 : Option Addr} {n c c2 : Nat} {xs bs : List Int} {w : World} (hK : Kinds w) (h : Rd .i64 w w.heap.size A n xs) (h2 : Rd .u8 w w.heap.size A2 n bs) (hn : n ≤ 1000000) (hB : Byte bs) (hs : softB xs = true) (hv : validB bs = true) :
    CallsIn Fence.wide d Tryd.prog 27 #[.slice A n c, .slice A2 n c2] w fun e w' => e = .returned (.tuple #[.int .i64 ((wrongN xs bs n : Nat) : Int), .int .i64 ((unkN xs n : Nat) : Int), .int .i64 0]) ∧ Below w.heap.size w w' := by
  have hbit := Lib.hid (valid_bit hB hv)
  have hku := Lib.hid (known_unk xs n)
  have b1 := (Below.refl w.heap.size w).alloc (Nat.le_refl _) (.cells #[.slice A2 n c2] 38)
  have b2 := b1.alloc b1.size (.cells #[.int .i64 0] 3)
  have b3 := b2.alloc b2.size (.cells #[.int .i64 0] 3)
  have q0 := ((Boxed.new w 38 (.slice A2 n c2)).alloc (.cells #[.int .i64 0] 3)).alloc (.cells #[.int .i64 0] 3)
  have q1 := (Boxed.new (w.alloc (.cells #[.slice A2 n c2] 38)) 3 (.int .i64 0)).alloc (.cells #[.int .i64 0] 3)
  have q2 := Boxed.new ((w.alloc (.cells #[.slice A2 n c2] 38)).alloc (.cells #[.int .i64 0] 3)) 3 (.int .i64 0)
  simp only [World.size_alloc] at q1 q2
  have hsz : (((w.alloc (.cells #[.slice A2 n c2] 38)).alloc (.cells #[.int .i64 0] 3)).alloc (.cells #[.int .i64 0] 3)).heap.size = w.heap.size + 3 := by simp
  refine callsIn_of_wp_marks Tryd.func27 rfl trivial ?_ rfl
  simp only [Tryd.ntmps27, List.size_toArray, List.length_cons, List.length_nil, Nat.reduceAdd, Nat.reduceSub, Array.replicate_succ, Array.replicate_zero, List.push_toArray, List.append_toArray, List.nil_append, List.cons_append]
  gi_wp2
  refine wpIn_wide_scope ?_
  generalize ((w.alloc (.cells #[.slice A2 n c2] 38)).alloc (.cells #[.int .i64 0] 3)).alloc (.cells #[.int .i64 0] 3) = W3 at *
  have d0 := q0.cell
  have b4 := b3.alloc b3.size (.cells #[.bool true] 4)
  have HE := Lib.hid (callsIn_wide (n := d - 1) |>.2 (examine_ok (c := c) (c' := 1) (hK.step b4) (h.step b4) hn (RdB.one W3 true 4) (by decide) hs rfl))
  have HA := Lib.hid (fun (u : World) (hb : Below w.heap.size w u) => callsIn_wide (n := d - 1) |>.2 (areBits_any (c := c2) (h2.below hb) (by omega)))
  rw [hv] at HA
  have HKn := Lib.hid (fun (u : World) => callsIn_wide (n := d - 1) |>.2 (known_any (A := A) (n := n) (c := c) (w := u)))
  have Q0 := Lib.hid q0; have Q1 := Lib.hid q1; have Q2 := Lib.hid q2; have B4 := Lib.hid b4; have HSZ := Lib.hid hsz
  have HR := Lib.hid h; have HR2 := Lib.hid h2
  clear hK h h2 hB hs hv b1 b2 b3 b4 q0 q1 q2 hsz
  gi_wp2
  refine ⟨trivial, fun _ => by omega, ?_⟩
  refine HE.out.mono ?_
  rintro e w2 ⟨rfl, hb⟩
  have hb2 := B4.out.trans (hb.mono B4.out.size)
  have q0 := (Boxed.below (Q0.out.alloc (.cells #[.bool true] 4)) hb (Q0.out.alloc _).lt).alloc (.cells #[.slice A n c, .bool true] 66)
  have q1 := (Boxed.below (Q1.out.alloc (.cells #[.bool true] 4)) hb (Q1.out.alloc _).lt).alloc (.cells #[.slice A n c, .bool true] 66)
  have q2 := (Boxed.below (Q2.out.alloc (.cells #[.bool true] 4)) hb (Q2.out.alloc _).lt).alloc (.cells #[.slice A n c, .bool true] 66)
  have qT := Two.new w2 66 (.slice A n c) (.bool true)
  have b5 := hb2.alloc hb2.size (.cells #[.slice A n c, .bool true] 66)
  have z5 : (w2.alloc (.cells #[.slice A n c, .bool true] 66)).heap.size = w2.heap.size + 1 := by simp
  have z2 : w.heap.size + 4 ≤ w2.heap.size := by have := hb.size; rw [World.size_alloc, HSZ.out] at this; omega
  unfold exOk
  have d0 := q0.cell
  clear hb hb2 Q0 Q1 Q2 HE B4 HSZ
  gi_wp2
  generalize w2.alloc (.cells #[.slice A n c, .bool true] 66) = W5 at *
  have e2 := q2.cell
  have f2 := q2.frozen
  have t0 := qT.cell0
  have hM := hn
  refine ⟨trivial, fun _ => by omega, ?_⟩
  refine (HA.out W5 b5).mono ?_
  rintro e W5 ⟨rfl, rfl⟩
  have r0 := q0.other (B' := w.heap.size + 1 + 1) (by omega) (.int .i64 (n : Int))
  have r1 := q1.other (B' := w.heap.size + 1 + 1) (by omega) (.int .i64 (n : Int))
  have r2 := q2.set (.int .i64 (n : Int))
  have rT := Two.other qT (p := ⟨w.heap.size + 1 + 1, 0, none⟩) (by dsimp only; omega) (.int .i64 (n : Int))
  have b6 := b5.setCell (p := ⟨w.heap.size + 1 + 1, 0, none⟩) (by dsimp only; omega) (.int .i64 (n : Int))
  have z6 : (W5.setCell ⟨w.heap.size + 1 + 1, 0, none⟩ (.int .i64 (n : Int))).heap.size = w2.heap.size + 1 := by rw [← z5]; simp
  have t0 := rT.cell0
  clear q0 q1 q2 qT b5 HA
  gi_wp2
  generalize W5.setCell ⟨w.heap.size + 1 + 1, 0, none⟩ (.int .i64 (n : Int)) = W6 at *
  refine ⟨trivial, fun _ => by omega, ?_⟩
  refine (HKn.out W6).mono ?_
  rintro e w' ⟨rfl, rfl⟩
  have s0 := r0.alloc (.cells #[.slice A n c] 64)
  have s1 := r1.alloc (.cells #[.slice A n c] 64)
  have s2 := r2.alloc (.cells #[.slice A n c] 64)
  have s3 := Boxed.new W6 64 (.slice A n c)
  have b7 := b6.alloc b6.size (.cells #[.slice A n c] 64)
  have z7 : (W6.alloc (.cells #[.slice A n c] 64)).heap.size = w2.heap.size + 2 := by simp [z6]
  rw [z6] at s3 ⊢
  obtain ⟨BL, hBL⟩ : ∃ BL, w2.heap.size + 1 = BL := ⟨_, rfl⟩
  rw [hBL] at s3 ⊢
  have hI0 : CmI w A A2 n c c2 BL xs bs 0 (W6.alloc (.cells #[.slice A n c] 64)) := ⟨s0, s1, by simpa [knownN] using s2, s3, b7⟩
  generalize W6.alloc (.cells #[.slice A n c] 64) = W7 at *
  clear s0 s1 s2 s3 b7 r0 r1 r2 rT b6 HKn
  gi_wp2
  have hbN : ∀ k : Nat, (knownN xs k).length ≤ k := knownN_le xs
  refine wpIn_known (n := d) (by omega) (BL := BL) (N := n) (c := c) (A := A) (xs := xs) hn rfl rfl
    (CmI w A A2 n c c2 BL xs bs) (fun _ _ => False)
    (CmI.own (by omega)) (fun _ _ _ _ _ h => h.elim) (fun k W h => ⟨h.bl, HR.out.step h.low⟩) (fun k W _ hz h => h.zero hz) hI0 ?a1 ?assign ?body ?done ?stop
  case assign =>
    intro lp k W K hK
    gi_wp2
    exact hK
  case stop => intro D c W _ h; exact h.elim
  case body =>
    intro lp k W hk hne hI hbig
    obtain ⟨bB, bW, bU, bl, low⟩ := hI
    have hbt := hbit.out k
    have e1 := wrongN_succ xs bs k
    rw [wr1_bits hne hbt] at e1
    have e2 := knownN_succ xs k
    rw [if_pos hne] at e2
    have hl2 : ((knownN xs (k + 1)).length : Int) = (knownN xs k).length + 1 := by rw [e2]; simp
    obtain ⟨b, off, rfl, hb1, hc⟩ := (HR2.out.below low).cells k hk
    have hkn := hbN k
    have hwn := wrongN_le xs bs k
    have hk1 : (k : Int) < (n : Int) := by omega
    have hk0 : (0 : Int) ≤ (k : Int) := by omega
    obtain ⟨q, hq⟩ : ∃ q : Int, (n : Int) - ((knownN xs k).length : Nat) = q := ⟨_, rfl⟩
    have hq1 : 0 ≤ q ∧ q ≤ 1000000 := by omega
    have hq2 : (n : Int) - ((knownN xs (k + 1)).length : Nat) = q - 1 := by omega
    obtain ⟨hq1, hq3⟩ := hq1
    rw [hq] at bU
    obtain ⟨m, hm⟩ : ∃ m : Nat, wrongN xs bs k = m := ⟨_, rfl⟩
    rw [hm] at bW e1 hwn
    have hm1 : (m : Int) ≤ 1000000 := by omega
    have hm0 : (0 : Int) ≤ (m : Int) := by omega
    have u1 := bU.cell
    have u2 := bU.frozen
    have v1 := bW.cell
    have v2 := bW.frozen
    have x1 := bB.cell
    have c1 : (W.setCell ⟨w.heap.size + 1 + 1, 0, none⟩ (.int .i64 (q - 1))).cell? ⟨b, off + k, none⟩ = some (.int .u8 (bs[k]?.getD 0)) := (World.cell?_of_block (Below.heap_setCell _ _ _ _ (by dsimp only; omega))).trans hc
    have k1 := (KeepsOthers.setCell W ⟨w.heap.size + 1 + 1, 0, none⟩ (.int .i64 (q - 1)))
    have w1 : Boxed (W.setCell ⟨w.heap.size + 1 + 1, 0, none⟩ (.int .i64 (q - 1))) w.heap.size 38 (.slice (some ⟨b, off, none⟩) n c2) := bB.other (by omega) _
    have w2' : Boxed (W.setCell ⟨w.heap.size + 1 + 1, 0, none⟩ (.int .i64 (q - 1))) (w.heap.size + 1) 3 (.int .i64 (m : Int)) := bW.other (by omega) _
    have w3 : Boxed (W.setCell ⟨w.heap.size + 1 + 1, 0, none⟩ (.int .i64 (q - 1))) (w.heap.size + 1 + 1) 3 (.int .i64 (q - 1)) := bU.set _
    have w4 : Boxed (W.setCell ⟨w.heap.size + 1 + 1, 0, none⟩ (.int .i64 (q - 1))) BL 64 (.slice A n c) := bl.other (by omega) _
    have w5 : Below w.heap.size w (W.setCell ⟨w.heap.size + 1 + 1, 0, none⟩ (.int .i64 (q - 1))) := low.setCell (p := ⟨w.heap.size + 1 + 1, 0, none⟩) (by dsimp only; omega) _
    have y1 := w1.cell
    have y2 := w2'.cell
    have y3 := w2'.frozen
    generalize hardE (xs[k]?.getD 0) = z at *
    generalize bs[k]?.getD 0 = y at *
    clear hc bB bW bU bl low
    by_cases hzy : z = y
    · subst hzy
      have hd : (z != z) = false := by simp
      rw [hd, if_neg (by decide), Nat.add_zero] at e1
      have HI : Hid (CmI w A (some ⟨b, off, none⟩) n c c2 BL xs bs (k + 1) (W.setCell ⟨w.heap.size + 1 + 1, 0, none⟩ (.int .i64 (q - 1)))) := Lib.hid ⟨w1, by rw [e1]; exact w2', by rw [hq2]; exact w3, w4, w5⟩
      have HK := Lib.hid (k1.from W7.heap.size)
      clear w1 w2' w3 w4 w5 k1 e1 e2 hl2
      gi_wp2
      exact ⟨HK.out, HI.out⟩
    · have hd : (z != y) = true := by simpa using hzy
      rw [hd, if_pos rfl] at e1
      have HI : Hid (CmI w A (some ⟨b, off, none⟩) n c c2 BL xs bs (k + 1) ((W.setCell ⟨w.heap.size + 1 + 1, 0, none⟩ (.int .i64 (q - 1))).setCell ⟨w.heap.size + 1, 0, none⟩ (.int .i64 ((m : Int) + 1)))) :=
        Lib.hid ⟨w1.other (by omega) _, by rw [e1]; push_cast; exact w2'.set _, by rw [hq2]; exact w3.other (by omega) _, w4.other (by omega) _, w5.setCell (p := ⟨w.heap.size + 1, 0, none⟩) (by dsimp only; omega) _⟩
      have HK := Lib.hid ((k1.from W7.heap.size).trans ((KeepsOthers.setCell (W.setCell ⟨w.heap.size + 1 + 1, 0, none⟩ (.int .i64 (q - 1))) ⟨w.heap.size + 1, 0, none⟩ (.int .i64 ((m : Int) + 1))).from W7.heap.size))
      clear w1 w2' w3 w4 w5 k1 e1 e2 hl2
      gi_wp2
      first | exact ⟨HK.out, HI.out⟩ | exact ⟨by rw [← z7]; exact HK.out, HI.out⟩
  case done =>
    intro D W hD hI hKD
    subst hD
    have hU : (n : Int) - ((knownN xs n).length : Nat) = ((unkN xs n : Nat) : Int) := by have := hku.out; omega
    obtain ⟨bB, bW, bU, bl, low⟩ := hI
    rw [hU] at bU
    obtain ⟨m, hm⟩ : ∃ m : Nat, wrongN xs bs n = m := ⟨_, rfl⟩
    obtain ⟨u, hu⟩ : ∃ u : Nat, unkN xs n = u := ⟨_, rfl⟩
    rw [hm] at bW
    rw [hu] at bU
    have HM := Lib.hid hm; have HU := Lib.hid hu
    clear hm hu
    have c1 := bW.cell
    have c2' := bW.frozen
    have u1 := bU.cell
    have u2 := bU.frozen
    have g1 := bW.set (.int .i64 (m : Int))
    have g2 := bU.other (B' := w.heap.size + 1) (by omega) (.int .i64 (m : Int))
    have g3 := g1.other (B' := w.heap.size + 1 + 1) (by omega) (.int .i64 (u : Int))
    have g4 := g2.set (.int .i64 (u : Int))
    have g5 := (low.setCell (p := ⟨w.heap.size + 1, 0, none⟩) (by dsimp only; omega) (.int .i64 (m : Int))).setCell (p := ⟨w.heap.size + 1 + 1, 0, none⟩) (by dsimp only; omega) (.int .i64 (u : Int))
    clear hI0 hU hku hbN
    gi_wp2
    refine wpIn_wide.2 ?_
    go_region_held3 (fun w' => w'.cell? ⟨w.heap.size + 1, 0, none⟩ = some (.int .i64 (m : Int)) ∧ w'.cell? ⟨w.heap.size + 1 + 1, 0, none⟩ = some (.int .i64 (u : Int))) (first
      | exact ⟨c1, u1⟩
      | exact ⟨g1.cell, g2.cell⟩
      | exact ⟨g3.cell, g4.cell⟩
      | go_keep) (fail)
    have hkd : (((W.setCell ⟨w.heap.size + 1, 0, none⟩ (.int .i64 (m : Int))).setCell ⟨w.heap.size + 1 + 1, 0, none⟩ (.int .i64 (u : Int))).drew).heap[w2.heap.size + 2]? = some (.deferred (some [])) :=
      (Below.heap_setCell _ _ _ _ (by dsimp only; omega)).trans ((Below.heap_setCell _ _ _ _ (by dsimp only; omega)).trans (by rw [← z7]; exact hKD))
    have G3 : Boxed (((W.setCell ⟨w.heap.size + 1, 0, none⟩ (.int .i64 (m : Int))).setCell ⟨w.heap.size + 1 + 1, 0, none⟩ (.int .i64 (u : Int))).drew) (w.heap.size + 1) 3 (.int .i64 (m : Int)) := g3
    have G4 : Boxed (((W.setCell ⟨w.heap.size + 1, 0, none⟩ (.int .i64 (m : Int))).setCell ⟨w.heap.size + 1 + 1, 0, none⟩ (.int .i64 (u : Int))).drew) (w.heap.size + 1 + 1) 3 (.int .i64 (u : Int)) := g4
    have G5 := g5.drew
    clear g1 g2 g3 g4 g5 bW bU bl bB low hKD c1 c2' u1 u2
    generalize ((W.setCell ⟨w.heap.size + 1, 0, none⟩ (.int .i64 (m : Int))).setCell ⟨w.heap.size + 1 + 1, 0, none⟩ (.int .i64 (u : Int))).drew = W9 at *
    gi_wp2
    refine leaves_marks (B := w2.heap.size + 2) [w2.heap.size + 2] W9 ⟨by simp, fun E hE => by obtain rfl := List.mem_singleton.1 hE; exact hkd⟩ (fun E hE => by obtain rfl := List.mem_singleton.1 hE; exact Nat.le_refl _) (fun w3 h3 => ⟨_, compare_results rfl rfl rfl (Boxed.below G3 h3 (by omega)) (Boxed.below G4 h3 (by omega)), ?_⟩)
    exact ⟨by rw [HM.out, HU.out], G5.trans (h3.mono (by omega))⟩
theorem compare_ok {A A2 : Option Addr} {n c c2 : Nat} {xs bs : List Int} {w : World} (hK : Kinds w) (h : Rd .i64 w w.heap.size A n xs) (h2 : Rd .u8 w w.heap.size A2 n bs) (hn : n ≤ 1000000) (hB : Byte bs) (hs : softB xs = true) (hv : validB bs = true) :
    Calls Tryd.prog 27 #[.slice A n c, .slice A2 n c2] w fun e w' => e = .returned (.tuple #[.int .i64 ((wrongN xs bs n : Nat) : Int), .int .i64 ((unkN xs n : Nat) : Int), .int .i64 0]) ∧ Below w.heap.size w w' :=
  callsIn_wide.1 (compare_in (d := 6) (by decide) hK h h2 hn hB hs hv)
end Go.Proofs.YtkkombhpiagngaaDoor
