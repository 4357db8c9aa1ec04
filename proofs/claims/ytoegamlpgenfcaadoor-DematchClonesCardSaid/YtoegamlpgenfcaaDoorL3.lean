/-
  What act does to the places of the law: the one it is called for, and any other. A buffer against nil. DematchClones.
-/
import Derived.Test.YtoegamlpgenfcaaDoorL2
import Derived.WideShapes
namespace Go.Proofs.YtoegamlpgenfcaaDoor
open Go.RowKit Go.Shelf

/-- A value of an array's type. -/
theorem okWide_array {P : Program} {w : World} {r : Reach} {base : Nat} {t e : TypeId} {n : Nat} {v : Value} (ht : P.underlying t = some (.array n e)) (h : Value.okWide P w r base t v) : ∃ cs, v = .agg cs ∧ cs.size = P.cellsOf t := by
  simp only [Value.okWide, ht] at h
  obtain ⟨cs, h1, h2, _⟩ := h
  exact ⟨cs, h1, h2⟩
set_option maxRecDepth 100000 in
theorem Same_buf_nil {w : World} {B N c : Nat} {s : St} {A : Option Addr} (h : BufAt w B s A N c) : Calls Tryd.prog 16 #[.pointer (some ⟨B, 0, none⟩), .pointer none] w fun e w' => e = .returned (.bool false) ∧ w' = w := by
  have hI := Lib.hid (isNone_buf h)
  have hI2 := Lib.hid (isNone_nil (w := w))
  clear h
  go_enter Tryd.func16, Tryd.ntmps16
  go_wp2_with (first | (with_reducible refine (hI.out).mono ?_; rintro e w' ⟨rfl, he⟩; obtain rfl := he.symm) | (with_reducible refine (hI2.out).mono ?_; rintro e w' ⟨rfl, he⟩; obtain rfl := he.symm) | fail)
  go_ret
  exact ⟨rfl, rfl⟩
theorem sameSt_self (s : St) : sameSt s s = true := by simp [sameSt]
section
variable {w W v : World} {X B : Nat} {s : St} {A : Option Addr} {N c : Nat} {A2 : Option Addr} {N2 c2 : Nat} {B3 : Nat} {s3 : St} {A3 A4 : Option Addr} {N3 c3 N4 c4 : Nat}
/-- act, its reference put where the old one was. -/
theorem PlayAt.acted (h : PlayAt w W X B s A N c A2 N2 c2) (hB : BufAt v B3 s3 A3 N3 c3) (hR : RefAt v s3 A4 N4 c4) (hS : Save (fun k => k = B) W v) (hat : B3 = B ∨ W.heap.size ≤ B3) :
    PlayAt w (((((v.setCell ⟨X, 0, none⟩ (.int .i64 (s3.k : Int))).setCell ⟨X, 1, none⟩ (.int .i64 (s3.f : Int))).setCell ⟨X, 2, none⟩ (.int .i64 (s3.l : Int))).setCell ⟨X, 3, none⟩ (.slice A4 N4 c4)).setCell ⟨X, 4, none⟩ (.int .i64 (s3.n : Int))) X B3 s3 A3 N3 c3 A4 N4 c4 := by
  have hX := hS.heap h.var h.ne
  exact ⟨hB.put5 hX, hR.put5 hX, put5_blk hX, put5_below (Below.save h.low hS (fun k hk => by subst hk; exact h.at') (Nat.le_refl _)) h.atX, by
    rcases hat with rfl | hat
    · exact h.at'
    · exact Nat.le_trans h.low.size hat, h.atX⟩
/-- act, its reference put into a block of its own. -/
theorem PlayAt.acts (h : PlayAt w W X B s A N c A2 N2 c2) (hB : BufAt v B3 s3 A3 N3 c3) (hR : RefAt v s3 A4 N4 c4) (hS : Save (fun k => k = B) W v) (hat : B3 = B ∨ W.heap.size ≤ B3) :
    PlayAt w (v.alloc (.cells (bufC s3.k s3.f s3.l s3.n A4 N4 c4) 30)) v.heap.size B3 s3 A3 N3 c3 A4 N4 c4 := by
  have ba : Below v.heap.size v (v.alloc (.cells (bufC s3.k s3.f s3.l s3.n A4 N4 c4) 30)) := (Below.refl _ _).alloc (Nat.le_refl _) _
  have hl := Below.save h.low hS (fun k hk => by subst hk; exact h.at') (Nat.le_refl _)
  exact ⟨hB.below ba, hR.below ba, World.alloc_heap_new _ _, hl.trans (ba.mono hl.size), by
    rcases hat with rfl | hat
    · exact h.at'
    · exact Nat.le_trans h.low.size hat, hl.size⟩
/-- act at one place keeps another. -/
theorem PlayAt.kept {X' B' : Nat} {s' : St} {A' A5 : Option Addr} {N' c' N5 c5 : Nat} (h : PlayAt w W X' B' s' A' N' c' A5 N5 c5) (h2 : BufAt W B s A N c) (hne : B' ≠ B) (hX : X' ≠ B) (hB : w.heap.size ≤ B) (hS : Save (fun k => k = B) W v) : PlayAt w v X' B' s' A' N' c' A5 N5 c5 :=
  ⟨h.buf.other h2 hne hS, h.ref.save h2 hS, hS.heap h.var hX, Below.save h.low hS (fun k hk => by subst hk; exact hB) (Nat.le_refl _), h.at', h.atX⟩
end
end Go.Proofs.YtoegamlpgenfcaaDoor
namespace Go.Proofs.YtoegamlpgenfcaaDoor
open Go.RowKit Go.Shelf

theorem Same_low {w : World} {B B2 N N2 c c2 : Nat} {s t : St} {A A2 : Option Addr} (h : BufAt w B s A N c) (h2 : BufAt w B2 t A2 N2 c2) :
    Calls Tryd.prog 16 #[.pointer (some ⟨B, 0, none⟩), .pointer (some ⟨B2, 0, none⟩)] w fun e w' => e = .returned (.bool (sameSt s t)) ∧ Below w.heap.size w w' := by
  refine (Same_buf h h2).mono ?_
  rintro e w' ⟨rfl, i, rfl⟩
  exact ⟨rfl, below_drewN (Below.refl _ _) i⟩
set_option maxRecDepth 100000 in
set_option maxHeartbeats 8000000 in
theorem clones_walk {k f l g o : Int} {A : Option Addr} {n c : Nat} {p1 p2 p3 p4 q1 q2 q3 q4 : Int} {w : World} (hK : Kinds w) (hA : RdA w w.heap.size A n) (hI : I64 p4) (hJ : I64 q4) : Calls Tryd.prog 5 #[.int .i64 k, .int .i64 f, .int .i64 l, .slice A n c, .agg #[.int .i64 p1, .int .i64 p2, .int .i64 p3, .int .i64 p4, .int .i64 q1, .int .i64 q2, .int .i64 q3, .int .i64 q4], .int .i64 g, .int .i64 o] w fun e w' => e = .returned (.bool true) ∧ Below w.heap.size w w' := by
  obtain ⟨w0, hw0⟩ : ∃ W, W = w.alloc (.cells #[.int .i64 p1, .int .i64 p2, .int .i64 p3, .int .i64 p4, .int .i64 q1, .int .i64 q2, .int .i64 q3, .int .i64 q4] 41) := ⟨_, rfl⟩
  have b0 : Below w.heap.size w w0 := by rw [hw0]; exact (Below.refl _ _).alloc (Nat.le_refl _) _
  have hT : w0.heap[w.heap.size]? = some (.cells #[.int .i64 p1, .int .i64 p2, .int .i64 p3, .int .i64 p4, .int .i64 q1, .int .i64 q2, .int .i64 q3, .int .i64 q4] 41) := by rw [hw0]; exact World.alloc_heap_new _ _
  have hTl : w.heap.size < w0.heap.size := by rw [hw0, World.size_alloc]; exact Nat.lt_succ_self _
  have HW0 := Lib.hid hw0
  have B0 := Lib.hid b0
  have hN := Lib.hid (fun (e : Int) (u : World) => num12_any (e := e) (w := u))
  have hWk := Lib.hid (fun (u : World) (hb : Below w0.heap.size w0 u) => works_any ((hK.step b0).step hb))
  have hz := (hK.step b0).col.lt
  have hn0 : (0 : Int) ≤ (n : Int) := by omega
  by_cases hgd : k ≤ 200 ∧ n ≤ 6
  · obtain ⟨g1, g2⟩ := hgd
    have g3 : (n : Int) ≤ 6 := by omega
    have g4 : decide (200 < k) = false := decide_eq_false (by omega)
    have g5 : decide ((6 : Int) < (n : Int)) = false := decide_eq_false (by omega)
    by_cases hB : okB k f l = true
    · obtain ⟨K, F, L, rfl, rfl, rfl, h1, h2, h3, h4⟩ := okB_nat hB
      have hnw := Lib.hid (New_ok (w := w0) hz h1 h2 h3 h4)
      have hr := Lib.hid (fun (u : World) => refNew_new (w := u) h1 h2 h3 h4)
      have hs0 : Hid ((newSt K F L).n = 0) := Lib.hid rfl
      generalize newSt K F L = s at *
      have HK := Lib.hid (hK.step b0)
      have HA := Lib.hid (hA.step b0)
      have HKl := Lib.hid (show 40 ≤ K ∧ K ≤ 6144 from ⟨h1, h2⟩)
      have HT := Lib.hid hT
      clear hB hK hz h1 h2 h3 h4 hA b0 hw0 hT
      go_enter Tryd.func5, Tryd.ntmps5
      go_upto_region 1 with fail
      rw [← HW0.out]
      clear HW0
      go_wp2_with fail
      refine hnw.out.mono ?_
      rintro e w1 ⟨v, rfl, B, A1, N, c1, rfl, hBl, hBuf, b1⟩
      clear hnw
      go_wp2_with fail
      refine (hr.out _).mono ?_
      rintro e w2 ⟨A2, N2, c2, rfl, hRef, b2⟩
      have hb2 := b1.trans (b2.mono b1.size)
      have b3 : Below w2.heap.size w2 (w2.alloc (.cells (bufC s.k s.f s.l s.n A2 N2 c2) 30)) := (Below.refl _ _).alloc (Nat.le_refl _) _
      have hP : PlayAt w0 (w2.alloc (.cells (bufC s.k s.f s.l s.n A2 N2 c2) 30)) w2.heap.size B s A1 N c1 A2 N2 c2 := ⟨(hBuf.below b2).below b3, hRef.below b3, World.alloc_heap_new _ _, hb2.trans (b3.mono hb2.size), hBl, hb2.size⟩
      have HP := Lib.hid hP
      unfold refV bufC
      dsimp only
      clear hr hBuf hRef b1 b2 hb2 b3 hP hBl
      go_wp2_with (first | (go_at_call 12; refine (hN.out _ _).mono ?_; rintro e w6 ⟨rfl, he⟩; obtain rfl := he.symm) | fail)
      go_loopw [15, 19] (fun bv i wr => ∃ (j B : Nat) (s : St) (A1 : Option Addr) (N c1 : Nat) (A2 : Option Addr) (N2 c2 : Nat), j ≤ n ∧ bv = .pointer (some ⟨B, 0, none⟩) ∧ i = .int .i64 (j : Int) ∧ Hid (PlayAt w0 wr w2.heap.size B s A1 N c1 A2 N2 c2) ∧ Hid (s.n ≤ 3000 * j)) (fun _ i _ => n - (intOf i).toNat)
      case atStart => exact ⟨0, B, s, A1, N, c1, A2, N2, c2, Nat.zero_le _, rfl, rfl, HP, Lib.hid (by rw [hs0.out]; exact Nat.zero_le _)⟩
      case round =>
        clear HP hs0
        obtain ⟨j, B, s, A1, N, c1, A2, N2, c2, hj, rfl, rfl, HP, HS⟩ := hrel
        by_cases hlt : j < n
        · have hz : (j : Int) < (n : Int) := by omega
          have hz0 : (0 : Int) ≤ (j : Int) := by omega
          obtain ⟨b, off, what, rv, m, seed, rfl, hb, q0, q1, q2, q3, hsd⟩ := (HA.out.step (HP.out.low.mono B0.out.size)).cells j hlt
          have x0 := bufC.c0 HP.out.var
          have x1 := bufC.c1 HP.out.var
          have x2 := bufC.c2 HP.out.var
          have x3 := bufC.c3 HP.out.var
          have x4 := bufC.c4 HP.out.var
          have hne := HP.out.ne
          have hsn : s.n ≤ 1000000000 := by have := HS.out; omega
          have hA2 := Lib.hid (act_any (what := what) (rv := rv) (n := m) (seed := seed) ((HK.out.step HP.out.low).drew) (BufAt.drew HP.out.buf) (RefAt.drew HP.out.ref) hsn hsd.1 hsd.2)
          unfold refV bufC actV at hA2
          clear hsd
          go_wp2_with fail
          go_region_with (first
            | (go_at_call 13; (with_reducible refine hA2.out.mono ?_); rintro e v ⟨B3, s3, A3, N3, c3, A4, N4, c4, rfl, hB3, hR3, hpar, hsn3, hS, hat⟩
               unfold refV bufC
               clear hpar
               have hS : Save (fun k => k = B) wr v := ⟨hS.os, hS.tape, hS.output, hS.size, hS.block⟩
               have hX3 := hS.heap HP.out.var hne
               have f0 := bufC.c0 hX3
               have f1 := bufC.c1 hX3
               have f2 := bufC.c2 hX3
               have f3 := bufC.c3 hX3
               have f4 := bufC.c4 hX3
               have g0 := blk_frozen hX3 0
               have g1 := blk_frozen hX3 1
               have g2 := blk_frozen hX3 2
               have g3 := blk_frozen hX3 3
               have g4 := blk_frozen hX3 4)
            | fail)
          all_goals
            obtain ⟨W5, hW5, HQ5⟩ : ∃ W5, W5 = (((((v.setCell ⟨w2.heap.size, 0, none⟩ (.int .i64 (s3.k : Int))).setCell ⟨w2.heap.size, 1, none⟩ (.int .i64 (s3.f : Int))).setCell ⟨w2.heap.size, 2, none⟩ (.int .i64 (s3.l : Int))).setCell ⟨w2.heap.size, 3, none⟩ (.slice A4 N4 c4)).setCell ⟨w2.heap.size, 4, none⟩ (.int .i64 (s3.n : Int))) ∧ PlayAt w0 W5 w2.heap.size B3 s3 A3 N3 c3 A4 N4 c4 := ⟨_, rfl, HP.out.acted hB3 hR3 hS hat⟩
            rw [← hW5]
            have HQ5 := Lib.hid HQ5
            have hs3n : Hid (s3.n ≤ 3000 * (j + 1)) := Lib.hid (by have := HS.out; omega)
            clear hW5 x0 x1 x2 x3 x4 g0 g1 g2 g3 g4 f0 f1 f2 f3 f4 q0 q1 q2 q3 hA2 hB3 hR3 hS hat hX3
            go_wp2_with fail
            go_roundw
            case rel => exact ⟨j + 1, B3, s3, A3, N3, c3, A4, N4, c4, by omega, rfl, by go_num, HQ5, hs3n⟩
            case measure => simp [intOf]; omega
        · obtain rfl : j = n := by omega
          have hs1 : s.n ≤ 100000 := by have := HS.out; omega
          have hCl := Lib.hid (Clone_buf HP.out.buf)
          clear hlt
          go_wp2_with fail
          refine hCl.out.mono ?_
          rintro e w3 ⟨v, rfl, hRB⟩
          obtain ⟨B2, Ac, Nc, cc, rfl, hBl, hBuf, b3⟩ := hRB.got
          have hP3 := HP.out.step b3
          have hO3 : PlayAt w0 w3 w2.heap.size B2 s Ac Nc cc A2 N2 c2 := ⟨hBuf, hP3.ref, hP3.var, hP3.low, Nat.le_trans HP.out.low.size hBl, hP3.atX⟩
          have hBB : B2 ≠ B := by have := HP.out.buf.lt; omega
          have hB2l := hBuf.lt
          have hT3 := blk_below HT.out hP3.low
          have t0 := blk_cell (j := 0) hT3 rfl
          have t1 := blk_cell (j := 1) hT3 rfl
          have t2 := blk_cell (j := 2) hT3 rfl
          have t3 := blk_cell (j := 3) hT3 rfl
          have x0 := bufC.c0 hP3.var
          have x1 := bufC.c1 hP3.var
          have x2 := bufC.c2 hP3.var
          have x3 := bufC.c3 hP3.var
          have x4 := bufC.c4 hP3.var
          have hA1 := Lib.hid (act_any (what := p1) (rv := p2) (n := p3) (seed := p4) (HK.out.step hP3.low) hP3.buf hP3.ref (by omega) hI.1 hI.2)
          have HP3 := Lib.hid hP3
          have HO3 := Lib.hid hO3
          unfold refV bufC actV at hA1
          clear hP3 hO3 hBuf hRB b3 hT3 hCl hBl HP
          go_wp2_with fail
          (with_reducible refine hA1.out.mono ?_)
          rintro e v ⟨B3, s3, A3, N3, c3, A4, N4, c4, rfl, hB3, hR3, hpar3, hsn3, hS, hat⟩
          have ba : Below v.heap.size v (v.alloc (.cells (bufC s3.k s3.f s3.l s3.n A4 N4 c4) 30)) := (Below.refl _ _).alloc (Nat.le_refl _) _
          obtain ⟨V1, hV1, hQ1, hO4⟩ : ∃ V1, V1 = v.alloc (.cells (bufC s3.k s3.f s3.l s3.n A4 N4 c4) 30) ∧ PlayAt w0 V1 v.heap.size B3 s3 A3 N3 c3 A4 N4 c4 ∧ PlayAt w0 V1 w2.heap.size B2 s Ac Nc cc A2 N2 c2 := ⟨_, rfl, HP3.out.acts hB3 hR3 hS hat, (HO3.out.kept HP3.out.buf hBB HP3.out.ne HP3.out.at' hS).step ba⟩
          have hBB3 : B3 ≠ B2 := by
            rcases hat with rfl | hat
            · exact hBB.symm
            · omega
          have hPP3 : v.heap.size ≠ B2 := by have := hS.size; omega
          have HPar := Lib.hid hpar3
          have HV1 := Lib.hid hV1
          have hT4 := blk_below HT.out hO4.low
          have t4 := blk_cell (j := 4) hT4 rfl
          have t5 := blk_cell (j := 5) hT4 rfl
          have t6 := blk_cell (j := 6) hT4 rfl
          have t7 := blk_cell (j := 7) hT4 rfl
          have y0 := bufC.c0 hO4.var
          have y1 := bufC.c1 hO4.var
          have y2 := bufC.c2 hO4.var
          have y3 := bufC.c3 hO4.var
          have y4 := bufC.c4 hO4.var
          have hA2 := Lib.hid (act_any (what := q1) (rv := q2) (n := q3) (seed := q4) (HK.out.step hO4.low) hO4.buf hO4.ref (by omega) hJ.1 hJ.2)
          have HQ1 := Lib.hid hQ1
          have HO4 := Lib.hid hO4
          unfold refV bufC actV at hA2
          unfold refV bufC
          clear hQ1 hO4 hB3 hR3 hpar3 hS hat ba hV1 hT4 hA1 HP3 HO3 t0 t1 t2 t3 x0 x1 x2 x3 x4 hBB hB2l
          go_upto_region 13 with fail
          have hV1 := HV1.out
          unfold bufC at hV1
          rw [← hV1]
          clear hV1 HV1
          go_wp2_with fail
          (with_reducible refine hA2.out.mono ?_)
          rintro e v2 ⟨B5, s5, A5, N5, c5, A6, N6, c6, rfl, hB5, hR5, hpar5, hsn5, hS5, hat5⟩
          have ba : Below v2.heap.size v2 (v2.alloc (.cells (bufC s5.k s5.f s5.l s5.n A6 N6 c6) 30)) := (Below.refl _ _).alloc (Nat.le_refl _) _
          obtain ⟨V2, hV2, hQ2, hQ1⟩ : ∃ V2, V2 = v2.alloc (.cells (bufC s5.k s5.f s5.l s5.n A6 N6 c6) 30) ∧ PlayAt w0 V2 v2.heap.size B5 s5 A5 N5 c5 A6 N6 c6 ∧ PlayAt w0 V2 v.heap.size B3 s3 A3 N3 c3 A4 N4 c4 := ⟨_, rfl, HO4.out.acts hB5 hR5 hS5 hat5, (HQ1.out.kept HO4.out.buf hBB3 hPP3 HO4.out.at' hS5).step ba⟩
          have HV2 := Lib.hid hV2
          have HQ1 := Lib.hid hQ1
          have HQ2 := Lib.hid hQ2
          have y0 := bufC.c0 hQ1.var
          have y1 := bufC.c1 hQ1.var
          have y2 := bufC.c2 hQ1.var
          have y3 := bufC.c3 hQ1.var
          have y4 := bufC.c4 hQ1.var
          have z0 := bufC.c0 hQ2.var
          have z1 := bufC.c1 hQ2.var
          have z2 := bufC.c2 hQ2.var
          have z3 := bufC.c3 hQ2.var
          have z4 := bufC.c4 hQ2.var
          have hbu : Below V2.heap.size V2 V2.drew := (Below.refl _ _).drew
          have hI1 := Lib.hid (fun (u : World) (hb : Below V2.heap.size V2 u) => is_any (HQ1.out.step hb).buf (HQ1.out.step hb).ref)
          have hI2 := Lib.hid (fun (u : World) (hb : Below V2.heap.size V2 u) => is_any (HQ2.out.step hb).buf (HQ2.out.step hb).ref)
          have hSm := Lib.hid (fun (u : World) (hb : Below V2.heap.size V2 u) => Same_low (HQ1.out.step hb).buf (HQ2.out.step hb).buf)
          have hSs := Lib.hid (fun (u : World) (hb : Below V2.heap.size V2 u) => Same_low (HQ1.out.step hb).buf (HQ1.out.step hb).buf)
          have hRs := Lib.hid (fun (u : World) (hb : Below V2.heap.size V2 u) => refSame_any (HQ1.out.step hb).ref (HQ2.out.step hb).ref)
          simp only [sameSt_self] at hSs
          obtain ⟨qq, hqq⟩ : ∃ qq, sameSt s3 s5 = qq := ⟨_, rfl⟩
          rw [hqq] at hSm hRs
          have hqn : (qq != qq) = false := by simp
          unfold refV bufC at hI1 hI2 hRs
          unfold refV bufC
          clear hQ1 hQ2 hB5 hR5 hpar5 hS5 hat5 ba hV2 hA2 HO4 t4 t5 t6 t7 hqq
          go_upto_region 14 with fail
          have hV2 := HV2.out
          unfold bufC at hV2
          rw [← hV2]
          clear hV2 HV2
          go_region_held3 (fun w' => w'.cell? ⟨v.heap.size, 0, none⟩ = some (.int .i64 (s3.k : Int)) ∧ w'.cell? ⟨v.heap.size, 1, none⟩ = some (.int .i64 (s3.f : Int)) ∧ w'.cell? ⟨v.heap.size, 2, none⟩ = some (.int .i64 (s3.l : Int)) ∧ w'.cell? ⟨v.heap.size, 3, none⟩ = some (.slice A4 N4 c4) ∧ w'.cell? ⟨v.heap.size, 4, none⟩ = some (.int .i64 (s3.n : Int)) ∧ w'.cell? ⟨v2.heap.size, 0, none⟩ = some (.int .i64 (s5.k : Int)) ∧ w'.cell? ⟨v2.heap.size, 1, none⟩ = some (.int .i64 (s5.f : Int)) ∧ w'.cell? ⟨v2.heap.size, 2, none⟩ = some (.int .i64 (s5.l : Int)) ∧ w'.cell? ⟨v2.heap.size, 3, none⟩ = some (.slice A6 N6 c6) ∧ w'.cell? ⟨v2.heap.size, 4, none⟩ = some (.int .i64 (s5.n : Int))) (first | (with_reducible exact ⟨y0, y1, y2, y3, y4, z0, z1, z2, z3, z4⟩) | go_keep | fail) (first
            | (go_at_call 12; refine (hN.out _ _).mono ?_; rintro e w6 ⟨rfl, he⟩; obtain rfl := he.symm)
            | (go_at_call 14; (first | (with_reducible refine (hI1.out _ hbu).mono ?_) | (with_reducible refine (hI2.out _ hbu).mono ?_)); rintro e u1 ⟨rfl, b7⟩
               have hbu := hbu.trans (b7.mono hbu.size)
               have hy := blk_below HQ1.out.var hbu; have hz := blk_below HQ2.out.var hbu
               have y0 := bufC.c0 hy; have y1 := bufC.c1 hy; have y2 := bufC.c2 hy; have y3 := bufC.c3 hy; have y4 := bufC.c4 hy
               have z0 := bufC.c0 hz; have z1 := bufC.c1 hz; have z2 := bufC.c2 hz; have z3 := bufC.c3 hz; have z4 := bufC.c4 hz)
            | (go_at_call 17; (with_reducible refine (hRs.out _ hbu).mono ?_); rintro e u1 ⟨rfl, b7⟩
               have hbu := hbu.trans (b7.mono hbu.size)
               have hy := blk_below HQ1.out.var hbu; have hz := blk_below HQ2.out.var hbu
               have y0 := bufC.c0 hy; have y1 := bufC.c1 hy; have y2 := bufC.c2 hy; have y3 := bufC.c3 hy; have y4 := bufC.c4 hy
               have z0 := bufC.c0 hz; have z1 := bufC.c1 hz; have z2 := bufC.c2 hz; have z3 := bufC.c3 hz; have z4 := bufC.c4 hz)
            | (go_at_call 16; (first | (with_reducible refine (hSm.out _ hbu).mono ?_) | (with_reducible refine (hSs.out _ hbu).mono ?_)); rintro e u1 ⟨rfl, b7⟩
               have hbu := hbu.trans (b7.mono hbu.size)
               have hy := blk_below HQ1.out.var hbu; have hz := blk_below HQ2.out.var hbu
               have y0 := bufC.c0 hy; have y1 := bufC.c1 hy; have y2 := bufC.c2 hy; have y3 := bufC.c3 hy; have y4 := bufC.c4 hy
               have z0 := bufC.c0 hz; have z1 := bufC.c1 hz; have z2 := bufC.c2 hz; have z3 := bufC.c3 hz; have z4 := bufC.c4 hz)
            | fail)
          have hqt : (qq == qq) = true := by simp
          have HL1 := Lib.hid (HQ1.out.step hbu)
          have HKu := Lib.hid (HK.out.step (HQ1.out.step hbu).low)
          clear y0 y1 y2 y3 y4 z0 z1 z2 z3 z4 hy hz hI1 hI2 hSm hSs hRs HQ1 HQ2 hbu
          obtain ⟨u2, hu2⟩ : ∃ u2, u1 = u2 := ⟨_, rfl⟩
          subst hu2
          have hzu := HKu.out.col.lt
          by_cases hB2 : okB (K : Int) g o = true
          · obtain ⟨K', G, O, e1, rfl, rfl, h1, h2, h3, h4⟩ := okB_nat hB2
            obtain rfl : K = K' := by omega
            have hnw2 := Lib.hid (New_ok (w := u1) hzu h1 h2 h3 h4)
            have hr2 := Lib.hid (fun (u : World) => refNew_new (w := u) h1 h2 h3 h4)
            generalize newSt K G O = s6 at *
            clear hB2 h1 h2 h3 h4 e1 hzu
            go_wp2_with fail
            refine hnw2.out.mono ?_
            rintro e w6 ⟨v6, rfl, hRB⟩
            obtain ⟨B6, A7, N7, c7, rfl, hBl, hBuf, b6⟩ := hRB.got
            clear hnw2 hRB
            go_wp2_with (first | (go_at_call 12; refine (hN.out _ _).mono ?_; rintro e w9 ⟨rfl, he⟩; obtain rfl := he.symm) | fail)
            refine (hr2.out _).mono ?_
            rintro e w7 ⟨A8, N8, c8, rfl, hRef, b7⟩
            have b8 : Below w7.heap.size w7 (w7.alloc (.cells (bufC s6.k s6.f s6.l s6.n A8 N8 c8) 30)) := (Below.refl _ _).alloc (Nat.le_refl _) _
            have H6 := (HL1.out.step b6).step b7
            obtain ⟨V3, hV3, hQ1, hQ3⟩ : ∃ V3, V3 = w7.alloc (.cells (bufC s6.k s6.f s6.l s6.n A8 N8 c8) 30) ∧ PlayAt w0 V3 v.heap.size B3 s3 A3 N3 c3 A4 N4 c4 ∧ PlayAt w0 V3 w7.heap.size B6 s6 A7 N7 c7 A8 N8 c8 := ⟨_, rfl, H6.step b8, ⟨(hBuf.below b7).below b8, hRef.below b8, World.alloc_heap_new _ _, (H6.step b8).low, Nat.le_trans HL1.out.low.size hBl, H6.low.size⟩⟩
            have HV3 := Lib.hid hV3
            have HQ1 := Lib.hid hQ1
            have HQ3 := Lib.hid hQ3
            have y0 := bufC.c0 hQ1.var
            have y1 := bufC.c1 hQ1.var
            have y2 := bufC.c2 hQ1.var
            have y3 := bufC.c3 hQ1.var
            have y4 := bufC.c4 hQ1.var
            have z0 := bufC.c0 hQ3.var
            have z1 := bufC.c1 hQ3.var
            have z2 := bufC.c2 hQ3.var
            have z3 := bufC.c3 hQ3.var
            have z4 := bufC.c4 hQ3.var
            have hbu : Below V3.heap.size V3 V3.drew := (Below.refl _ _).drew
            have hSm := Lib.hid (fun (u : World) (hb : Below V3.heap.size V3 u) => Same_low (HQ1.out.step hb).buf (HQ3.out.step hb).buf)
            have hRs := Lib.hid (fun (u : World) (hb : Below V3.heap.size V3 u) => refSame_any (HQ1.out.step hb).ref (HQ3.out.step hb).ref)
            have hWu := Lib.hid (fun (u : World) (hb : Below V3.heap.size V3 u) => hWk.out u (HQ1.out.step hb).low)
            obtain ⟨q6, hq6⟩ : ∃ q6, sameSt s3 s6 = q6 := ⟨_, rfl⟩
            rw [hq6] at hSm hRs
            have hqe : (q6 == q6) = true := by simp
            unfold refV bufC at hRs
            unfold refV bufC
            clear hQ1 hQ3 hBuf hRef H6 b6 b7 b8 hV3 hq6 hr2 hBl
            go_upto_region 20 with fail
            have hV3 := HV3.out
            unfold bufC at hV3
            rw [← hV3]
            clear hV3 HV3
            go_region_held3 (fun w' => w'.cell? ⟨v.heap.size, 0, none⟩ = some (.int .i64 (s3.k : Int)) ∧ w'.cell? ⟨v.heap.size, 1, none⟩ = some (.int .i64 (s3.f : Int)) ∧ w'.cell? ⟨v.heap.size, 2, none⟩ = some (.int .i64 (s3.l : Int)) ∧ w'.cell? ⟨v.heap.size, 3, none⟩ = some (.slice A4 N4 c4) ∧ w'.cell? ⟨v.heap.size, 4, none⟩ = some (.int .i64 (s3.n : Int)) ∧ w'.cell? ⟨w7.heap.size, 0, none⟩ = some (.int .i64 (s6.k : Int)) ∧ w'.cell? ⟨w7.heap.size, 1, none⟩ = some (.int .i64 (s6.f : Int)) ∧ w'.cell? ⟨w7.heap.size, 2, none⟩ = some (.int .i64 (s6.l : Int)) ∧ w'.cell? ⟨w7.heap.size, 3, none⟩ = some (.slice A8 N8 c8) ∧ w'.cell? ⟨w7.heap.size, 4, none⟩ = some (.int .i64 (s6.n : Int))) (first | (with_reducible exact ⟨y0, y1, y2, y3, y4, z0, z1, z2, z3, z4⟩) | go_keep | fail) (first
              | (go_at_call 9; (with_reducible refine (hWu.out _ hbu).mono ?_); rintro e u1 ⟨rfl, b7⟩
                 have hbu := hbu.trans (b7.mono hbu.size)
                 have hy := blk_below HQ1.out.var hbu; have hz := blk_below HQ3.out.var hbu
                 have y0 := bufC.c0 hy; have y1 := bufC.c1 hy; have y2 := bufC.c2 hy; have y3 := bufC.c3 hy; have y4 := bufC.c4 hy
                 have z0 := bufC.c0 hz; have z1 := bufC.c1 hz; have z2 := bufC.c2 hz; have z3 := bufC.c3 hz; have z4 := bufC.c4 hz)
              | (go_at_call 17; (with_reducible refine (hRs.out _ hbu).mono ?_); rintro e u1 ⟨rfl, b7⟩
                 have hbu := hbu.trans (b7.mono hbu.size)
                 have hy := blk_below HQ1.out.var hbu; have hz := blk_below HQ3.out.var hbu
                 have y0 := bufC.c0 hy; have y1 := bufC.c1 hy; have y2 := bufC.c2 hy; have y3 := bufC.c3 hy; have y4 := bufC.c4 hy
                 have z0 := bufC.c0 hz; have z1 := bufC.c1 hz; have z2 := bufC.c2 hz; have z3 := bufC.c3 hz; have z4 := bufC.c4 hz)
              | (go_at_call 16; (with_reducible refine (hSm.out _ hbu).mono ?_); rintro e u1 ⟨rfl, b7⟩
                 have hbu := hbu.trans (b7.mono hbu.size)
                 have hy := blk_below HQ1.out.var hbu; have hz := blk_below HQ3.out.var hbu
                 have y0 := bufC.c0 hy; have y1 := bufC.c1 hy; have y2 := bufC.c2 hy; have y3 := bufC.c3 hy; have y4 := bufC.c4 hy
                 have z0 := bufC.c0 hz; have z1 := bufC.c1 hz; have z2 := bufC.c2 hz; have z3 := bufC.c3 hz; have z4 := bufC.c4 hz)
              | fail)
            have hfin := B0.out.trans ((HQ1.out.step hbu).low.mono B0.out.size)
            clear y0 y1 y2 y3 y4 z0 z1 z2 z3 z4
            go_wp2_with fail
            go_ret
            exact ⟨rfl, hfin⟩
          · have hB2 := Bool.eq_false_iff.2 hB2
            have hnw2 := Lib.hid (New_no (w := u1) hB2)
            clear hB2 hzu
            go_wp2_with fail
            refine hnw2.out.mono ?_
            rintro e w6 ⟨rfl, b6⟩
            have H6 := HL1.out.step b6
            have hSn := Lib.hid (Same_buf_nil H6.buf)
            have hW6 := Lib.hid (hWk.out _ H6.low)
            have hl6 := B0.out.trans (H6.low.mono B0.out.size)
            clear hnw2 b6 H6
            go_wp2_with (first | (go_at_call 12; refine (hN.out _ _).mono ?_; rintro e w9 ⟨rfl, he⟩; obtain rfl := he.symm) | (go_at_call 16; refine hSn.out.mono ?_; rintro e w9 ⟨rfl, he⟩; obtain rfl := he.symm) | (go_at_call 9; refine hW6.out.mono ?_; rintro e w5 ⟨rfl, b5⟩) | fail)
            go_ret
            exact ⟨rfl, hl6.trans (b5.mono hl6.size)⟩
    · have hB := Bool.eq_false_iff.2 hB
      have hnw := Lib.hid (New_no (w := w0) hB)
      have hr := Lib.hid (fun (u : World) => refNew_no (w := u) hB)
      clear hB hK hz hA b0 hw0 hT
      go_enter Tryd.func5, Tryd.ntmps5
      go_upto_region 1 with fail
      rw [← HW0.out]
      clear HW0
      go_wp2_with fail
      refine hnw.out.mono ?_
      rintro e w1 ⟨rfl, b1⟩
      clear hnw
      go_wp2_with fail
      refine (hr.out _).mono ?_
      rintro e w2 ⟨rfl, b2⟩
      have hb2 := b1.trans (b2.mono b1.size)
      have hb3 := hb2.alloc hb2.size (.cells (bufC 0 0 0 0 none 0 0) 30)
      have HB3 := Lib.hid hb3
      have hW4 := Lib.hid (hWk.out _ hb3)
      unfold bufC at *
      clear hr b1 b2 hb2 hb3 hWk
      go_wp2_with (first | (go_at_call 12; refine (hN.out _ _).mono ?_; rintro e w6 ⟨rfl, he⟩; obtain rfl := he.symm) | (go_at_call 9; refine hW4.out.mono ?_; rintro e w5 ⟨rfl, b5⟩) | fail)
      go_ret
      exact ⟨rfl, B0.out.trans ((HB3.out.trans (b5.mono HB3.out.size)).mono B0.out.size)⟩
  · have t1 : 200 < k ∨ (6 : Int) < (n : Int) := by
      rcases Classical.em (k ≤ 200) with g1 | g1
      · rcases Classical.em (n ≤ 6) with g2 | g2
        · exact absurd ⟨g1, g2⟩ hgd
        · omega
      · omega
    have hW4 := Lib.hid (hWk.out _ (Below.refl _ _))
    clear hgd hz hK hA hI hJ b0 hw0 hT
    go_enter Tryd.func5, Tryd.ntmps5
    go_upto_region 1 with fail
    rw [← HW0.out]
    clear HW0
    go_wp2_with (first | (go_at_call 9; refine hW4.out.mono ?_; rintro e w5 ⟨rfl, b5⟩) | fail)
    all_goals
      go_ret
      exact ⟨rfl, B0.out.trans (b5.mono B0.out.size)⟩
end Go.Proofs.YtoegamlpgenfcaaDoor
