/-
  DematchPlays.
-/
import Derived.Test.YtoegamlpgenfcaaDoorOa
import Derived.Test.YtoegamlpgenfcaaDoorL1
namespace Go.Proofs.YtoegamlpgenfcaaDoor
open Go.RowKit Go.Shelf

def zeroC : Array Value := #[.int .i64 0, .int .i64 0, .int .i64 0, .slice none 0 0, .int .i64 0]
theorem RdA.step {w w' : World} {B n : Nat} {A : Option Addr} (h : RdA w B A n) (hb : Below B w w') : RdA w' B A n :=
  ⟨fun k hk => by
    obtain ⟨b, off, what, rv, m, seed, h1, h2, h3, h4, h5, h6, h7⟩ := h.cells k hk
    exact ⟨b, off, what, rv, m, seed, h1, h2, (hb.cell h2).trans h3, (hb.cell h2).trans h4, (hb.cell h2).trans h5, (hb.cell h2).trans h6, h7⟩⟩
/-- Where the law is: a buffer, its reference in its variable's block. -/
structure PlayAt (w W : World) (X B : Nat) (s : St) (A : Option Addr) (N c : Nat) (A2 : Option Addr) (N2 c2 : Nat) : Prop where
  buf : BufAt W B s A N c
  ref : RefAt W s A2 N2 c2
  var : W.heap[X]? = some (.cells (bufC s.k s.f s.l s.n A2 N2 c2) 30)
  low : Below w.heap.size w W
  at' : w.heap.size ≤ B
  atX : w.heap.size ≤ X
section
variable {w W W' : World} {X B : Nat} {s : St} {A : Option Addr} {N c : Nat} {A2 : Option Addr} {N2 c2 : Nat}
theorem PlayAt.step (h : PlayAt w W X B s A N c A2 N2 c2) (hb : Below W.heap.size W W') : PlayAt w W' X B s A N c A2 N2 c2 :=
  ⟨h.buf.below hb, h.ref.below hb, blk_below h.var hb, h.low.trans (hb.mono h.low.size), h.at', h.atX⟩
theorem PlayAt.ne (h : PlayAt w W X B s A N c A2 N2 c2) : X ≠ B := by
  intro e
  subst e
  have := h.buf.blk.symm.trans h.var
  simp at this
end
/-- Behind a call: the new reference lies in a block P of its own. -/
structure PlayMid (w W : World) (X P B : Nat) (s0 : St) (A0 : Option Addr) (N0 c0 : Nat) (s : St) (A : Option Addr) (N c : Nat) (A2 : Option Addr) (N2 c2 : Nat) : Prop where
  buf : BufAt W B s A N c
  ref : RefAt W s A2 N2 c2
  var : W.heap[X]? = some (.cells (bufC s0.k s0.f s0.l s0.n A0 N0 c0) 30)
  res : W.heap[P]? = some (.cells (bufC s.k s.f s.l s.n A2 N2 c2) 30)
  low : Below w.heap.size w W
  at' : w.heap.size ≤ B
  atX : w.heap.size ≤ X
theorem PlayMid.done {w W : World} {X P B : Nat} {s0 s : St} {A0 A A2 : Option Addr} {N0 c0 N c N2 c2 : Nat} (h : PlayMid w W X P B s0 A0 N0 c0 s A N c A2 N2 c2) : PlayAt w (((((W.setCell ⟨X, 0, none⟩ (.int .i64 (s.k : Int))).setCell ⟨X, 1, none⟩ (.int .i64 (s.f : Int))).setCell ⟨X, 2, none⟩ (.int .i64 (s.l : Int))).setCell ⟨X, 3, none⟩ (.slice A2 N2 c2)).setCell ⟨X, 4, none⟩ (.int .i64 (s.n : Int))) X B s A N c A2 N2 c2 :=
  ⟨h.buf.put5 h.var, h.ref.put5 h.var, put5_blk h.var, put5_below h.low h.atX, h.at', h.atX⟩
theorem RefAt.drew {w : World} {s : St} {A : Option Addr} {N c : Nat} (h : RefAt w s A N c) : RefAt w.drew s A N c := ⟨h.rd.drew, h.len, h.ok, h.adr, h.cap⟩
theorem PlayAt.drew {w W : World} {X B : Nat} {s : St} {A A2 : Option Addr} {N c N2 c2 : Nat} (h : PlayAt w W X B s A N c A2 N2 c2) : PlayAt w W.drew X B s A N c A2 N2 c2 := ⟨h.buf.drew, h.ref.drew, h.var, h.low.drew, h.at', h.atX⟩
set_option maxRecDepth 100000 in
set_option maxHeartbeats 8000000 in
theorem plays_walk {k f l : Int} {A : Option Addr} {n c : Nat} {w : World} (hK : Kinds w) (hA : RdA w w.heap.size A n) : Calls Tryd.prog 3 #[.int .i64 k, .int .i64 f, .int .i64 l, .slice A n c] w fun e w' => e = .returned (.bool true) ∧ Below w.heap.size w w' := by
  have hN := Lib.hid (fun (e : Int) (u : World) => num12_any (e := e) (w := u))
  have hWk := Lib.hid (fun (u : World) (hb : Below w.heap.size w u) => works_any (hK.step hb))
  have hz := hK.col.lt
  have hn0 : (0 : Int) ≤ (n : Int) := by omega
  by_cases hk : 600 < k
  · clear hz
    go_enter Tryd.func3, Tryd.ntmps3
    go_wp2_with (first | (go_at_call 9; refine (hWk.out _ (Below.refl _ _)).mono ?_; rintro e w5 ⟨rfl, b5⟩) | fail)
    go_ret
    exact ⟨rfl, b5⟩
  have hk' : decide (600 < k) = false := decide_eq_false hk
  by_cases hn : (12 : Int) < (n : Int)
  · clear hz hk
    go_enter Tryd.func3, Tryd.ntmps3
    go_wp2_with (first | (go_at_call 9; refine (hWk.out _ (Below.refl _ _)).mono ?_; rintro e w5 ⟨rfl, b5⟩) | fail)
    go_ret
    exact ⟨rfl, b5⟩
  have hn' : decide ((12 : Int) < (n : Int)) = false := decide_eq_false hn
  have hn12 : n ≤ 12 := by omega
  by_cases hB : okB k f l = true
  · obtain ⟨K, F, L, rfl, rfl, rfl, h1, h2, h3, h4⟩ := okB_nat hB
    have hnw := Lib.hid (New_ok (w := w) hz h1 h2 h3 h4)
    have hr := Lib.hid (fun (u : World) => refNew_new (w := u) h1 h2 h3 h4)
    have hs0 : Hid ((newSt K F L).n = 0) := Lib.hid rfl
    generalize newSt K F L = s at *
    have HK := Lib.hid hK
    have HA := Lib.hid hA
    clear hB hK hz h1 h2 h3 h4 hA hk hn
    go_enter Tryd.func3, Tryd.ntmps3
    go_wp2_with fail
    refine hnw.out.mono ?_
    rintro e w1 ⟨v, rfl, B, A1, N, c1, rfl, hBl, hBuf, b1⟩
    clear hnw
    go_wp2_with fail
    refine (hr.out _).mono ?_
    rintro e w2 ⟨A2, N2, c2, rfl, hRef, b2⟩
    have hb2 := b1.trans (b2.mono b1.size)
    have b3 : Below w2.heap.size w2 (w2.alloc (.cells (bufC s.k s.f s.l s.n A2 N2 c2) 30)) := (Below.refl _ _).alloc (Nat.le_refl _) _
    have hP : PlayAt w (w2.alloc (.cells (bufC s.k s.f s.l s.n A2 N2 c2) 30)) w2.heap.size B s A1 N c1 A2 N2 c2 := ⟨(hBuf.below b2).below b3, hRef.below b3, World.alloc_heap_new _ _, hb2.trans (b3.mono hb2.size), hBl, hb2.size⟩
    have HP := Lib.hid hP
    unfold refV bufC
    dsimp only
    clear hr hBuf hRef b1 b2 hb2 b3 hP hBl
    go_wp2_with (first | (go_at_call 12; refine (hN.out _ _).mono ?_; rintro e w6 ⟨rfl, he⟩; obtain rfl := he.symm) | fail)

    go_loopw [9, 13] (fun bv i wr => ∃ (j B : Nat) (s : St) (A1 : Option Addr) (N c1 : Nat) (A2 : Option Addr) (N2 c2 : Nat), j ≤ n ∧ bv = .pointer (some ⟨B, 0, none⟩) ∧ i = .int .i64 (j : Int) ∧ Hid (PlayAt w wr w2.heap.size B s A1 N c1 A2 N2 c2) ∧ Hid (s.n ≤ 3000 * j)) (fun _ i _ => n - (intOf i).toNat)
    case atStart => exact ⟨0, B, s, A1, N, c1, A2, N2, c2, Nat.zero_le _, rfl, rfl, HP, Lib.hid (by rw [hs0.out]; exact Nat.zero_le _)⟩
    case round =>
      clear HP hs0
      obtain ⟨j, B, s, A1, N, c1, A2, N2, c2, hj, rfl, rfl, HP, HS⟩ := hrel
      by_cases hlt : j < n
      · have hz : (j : Int) < (n : Int) := by omega
        have hz0 : (0 : Int) ≤ (j : Int) := by omega
        obtain ⟨b, off, what, rv, m, seed, rfl, hb, q0, q1, q2, q3, hsd⟩ := (HA.out.step HP.out.low).cells j hlt
        have x0 := bufC.c0 HP.out.var
        have x1 := bufC.c1 HP.out.var
        have x2 := bufC.c2 HP.out.var
        have x3 := bufC.c3 HP.out.var
        have x4 := bufC.c4 HP.out.var
        have hBl := HP.out.buf.lt
        have hBw := HP.out.at'
        have hXl := blk_lt HP.out.var
        have hXw := HP.out.atX
        have hne := HP.out.ne
        have ba : Below wr.heap.size wr (wr.alloc (.cells #[.int .i64 0, .int .i64 0, .int .i64 0, .slice none 0 0, .int .i64 0] 30)) := (Below.refl _ _).alloc (Nat.le_refl _) _
        have pa := HP.out.step ba
        have hsn : s.n ≤ 1000000000 := by have := HS.out; omega
        have hA1 := Lib.hid (act_any (what := what) (rv := rv) (n := m) (seed := seed) ((HK.out.step pa.low).drew) (BufAt.drew pa.buf) (RefAt.drew pa.ref) hsn hsd.1 hsd.2)
        have hA2 := Lib.hid (act_any (what := what) (rv := rv) (n := m) (seed := seed) ((HK.out.step HP.out.low).drew) (BufAt.drew HP.out.buf) (RefAt.drew HP.out.ref) hsn hsd.1 hsd.2)
        have T1 : (wr.alloc (.cells #[.int .i64 0, .int .i64 0, .int .i64 0, .slice none 0 0, .int .i64 0] 30)).heap[wr.heap.size]? = some (.cells (bufC 0 0 0 0 none 0 0) 30) := World.alloc_heap_new _ _
        have HT1 := Lib.hid T1
        have HXa := Lib.hid pa.var
        have aq0 := cell_new (.cells #[.int .i64 0, .int .i64 0, .int .i64 0, .slice none 0 0, .int .i64 0] 30) q0
        have aq1 := cell_new (.cells #[.int .i64 0, .int .i64 0, .int .i64 0, .slice none 0 0, .int .i64 0] 30) q1
        have aq2 := cell_new (.cells #[.int .i64 0, .int .i64 0, .int .i64 0, .slice none 0 0, .int .i64 0] 30) q2
        have aq3 := cell_new (.cells #[.int .i64 0, .int .i64 0, .int .i64 0, .slice none 0 0, .int .i64 0] 30) q3
        have HPA := Lib.hid pa.low
        have hbw : b < wr.heap.size := by omega
        have hbz : b < (wr.alloc (.cells #[.int .i64 0, .int .i64 0, .int .i64 0, .slice none 0 0, .int .i64 0] 30)).heap.size := by rw [World.size_alloc]; omega
        have hbB : ¬ b = B := by omega
        have hPB : ¬ wr.heap.size = B := by omega
        have hn1 : w2.heap.size ≠ wr.heap.size := by omega
        have hn2 : b ≠ wr.heap.size := by omega
        unfold refV bufC actV at hA1 hA2
        clear ba pa T1 hsd
        go_wp2_with fail
        go_region_held3 (fun w' => w'.cell? ⟨w2.heap.size, 0, none⟩ = some (.int .i64 (s.k : Int)) ∧ w'.cell? ⟨w2.heap.size, 1, none⟩ = some (.int .i64 (s.f : Int)) ∧ w'.cell? ⟨w2.heap.size, 2, none⟩ = some (.int .i64 (s.l : Int)) ∧ w'.cell? ⟨w2.heap.size, 3, none⟩ = some (.slice A2 N2 c2) ∧ w'.cell? ⟨w2.heap.size, 4, none⟩ = some (.int .i64 (s.n : Int)) ∧ w'.cell? ⟨b, off + j * 4, none⟩ = some (.int .i64 what) ∧ w'.cell? ⟨b, off + j * 4 + 1, none⟩ = some (.int .i64 rv) ∧ w'.cell? ⟨b, off + j * 4 + 2, none⟩ = some (.int .i64 m) ∧ w'.cell? ⟨b, off + j * 4 + 3, none⟩ = some (.int .i64 seed)) (first | (with_reducible exact ⟨f0, f1, f2, f3, f4, a0, a1, a2, a3⟩) | (with_reducible exact ⟨e0, e1, e2, e3, e4, d0, d1, d2, d3⟩) | go_keep | fail) (first
          | (go_at_call 13; (with_reducible refine hA1.out.mono ?_); rintro e v ⟨B3, s3, A3, N3, c3, A4, N4, c4, rfl, hB3, hR3, hpar, hsn3, hS, hat⟩
             unfold refV bufC
             have HPar := Lib.hid hpar
             clear hpar
             have hS : Save (fun k => k = B) (wr.alloc (.cells #[.int .i64 0, .int .i64 0, .int .i64 0, .slice none 0 0, .int .i64 0] 30)) v := ⟨hS.os, hS.tape, hS.output, hS.size, hS.block⟩
             have hX3 := hS.heap HXa.out hne
             have hz3 := hS.heap HT1.out hPB
             have hsz : wr.heap.size < v.heap.size := Nat.lt_of_lt_of_le (by rw [World.size_alloc]; exact Nat.lt_succ_self _) hS.size
             have f0 := bufC.c0 hX3
             have f1 := bufC.c1 hX3
             have f2 := bufC.c2 hX3
             have f3 := bufC.c3 hX3
             have f4 := bufC.c4 hX3
             have a0 := (hS.cell (p := ⟨b, off + j * 4, none⟩) hbz hbB).trans aq0; have a1 := (hS.cell (p := ⟨b, off + j * 4 + 1, none⟩) hbz hbB).trans aq1; have a2 := (hS.cell (p := ⟨b, off + j * 4 + 2, none⟩) hbz hbB).trans aq2; have a3 := (hS.cell (p := ⟨b, off + j * 4 + 3, none⟩) hbz hbB).trans aq3
             have z0 := bufC.c0 hz3
             have z1 := bufC.c1 hz3
             have z2 := bufC.c2 hz3
             have z3 := bufC.c3 hz3
             have z4 := bufC.c4 hz3
             have g0 := blk_frozen hz3 0
             have g1 := blk_frozen hz3 1
             have g2 := blk_frozen hz3 2
             have g3 := blk_frozen hz3 3
             have g4 := blk_frozen hz3 4
             have e0 := put5_cell (k := (s3.k : Int)) (f := (s3.f : Int)) (l := (s3.l : Int)) (n := (s3.n : Int)) (A := A4) (N := N4) (c := c4) hn1 f0
             have e1 := put5_cell (k := (s3.k : Int)) (f := (s3.f : Int)) (l := (s3.l : Int)) (n := (s3.n : Int)) (A := A4) (N := N4) (c := c4) hn1 f1
             have e2 := put5_cell (k := (s3.k : Int)) (f := (s3.f : Int)) (l := (s3.l : Int)) (n := (s3.n : Int)) (A := A4) (N := N4) (c := c4) hn1 f2
             have e3 := put5_cell (k := (s3.k : Int)) (f := (s3.f : Int)) (l := (s3.l : Int)) (n := (s3.n : Int)) (A := A4) (N := N4) (c := c4) hn1 f3
             have e4 := put5_cell (k := (s3.k : Int)) (f := (s3.f : Int)) (l := (s3.l : Int)) (n := (s3.n : Int)) (A := A4) (N := N4) (c := c4) hn1 f4
             have d0 := put5_cell (k := (s3.k : Int)) (f := (s3.f : Int)) (l := (s3.l : Int)) (n := (s3.n : Int)) (A := A4) (N := N4) (c := c4) hn2 a0
             have d1 := put5_cell (k := (s3.k : Int)) (f := (s3.f : Int)) (l := (s3.l : Int)) (n := (s3.n : Int)) (A := A4) (N := N4) (c := c4) hn2 a1
             have d2 := put5_cell (k := (s3.k : Int)) (f := (s3.f : Int)) (l := (s3.l : Int)) (n := (s3.n : Int)) (A := A4) (N := N4) (c := c4) hn2 a2
             have d3 := put5_cell (k := (s3.k : Int)) (f := (s3.f : Int)) (l := (s3.l : Int)) (n := (s3.n : Int)) (A := A4) (N := N4) (c := c4) hn2 a3)
          | (go_at_call 13; (with_reducible refine hA2.out.mono ?_); rintro e v ⟨B3, s3, A3, N3, c3, A4, N4, c4, rfl, hB3, hR3, hpar, hsn3, hS, hat⟩
             unfold refV bufC
             have HPar := Lib.hid hpar
             clear hpar
             have hS : Save (fun k => k = B) wr v := ⟨hS.os, hS.tape, hS.output, hS.size, hS.block⟩
             have hX3 := hS.heap HP.out.var hne
             have hsz : wr.heap.size ≤ v.heap.size := hS.size
             have f0 := bufC.c0 hX3
             have f1 := bufC.c1 hX3
             have f2 := bufC.c2 hX3
             have f3 := bufC.c3 hX3
             have f4 := bufC.c4 hX3
             have a0 := (hS.cell (p := ⟨b, off + j * 4, none⟩) hbw hbB).trans q0; have a1 := (hS.cell (p := ⟨b, off + j * 4 + 1, none⟩) hbw hbB).trans q1; have a2 := (hS.cell (p := ⟨b, off + j * 4 + 2, none⟩) hbw hbB).trans q2; have a3 := (hS.cell (p := ⟨b, off + j * 4 + 3, none⟩) hbw hbB).trans q3))
        all_goals
          first
          | (have hz3' := hz3
             obtain ⟨W', hW', HQ⟩ : ∃ W', W' = (((((v.setCell ⟨wr.heap.size, 0, none⟩ (.int .i64 (s3.k : Int))).setCell ⟨wr.heap.size, 1, none⟩ (.int .i64 (s3.f : Int))).setCell ⟨wr.heap.size, 2, none⟩ (.int .i64 (s3.l : Int))).setCell ⟨wr.heap.size, 3, none⟩ (.slice A4 N4 c4)).setCell ⟨wr.heap.size, 4, none⟩ (.int .i64 (s3.n : Int))) ∧ PlayMid w W' w2.heap.size wr.heap.size B3 s A2 N2 c2 s3 A3 N3 c3 A4 N4 c4 :=
              ⟨_, rfl, ⟨hB3.put5 hz3, hR3.put5 hz3, ((Below.heap_setCell _ _ _ _ hn1).trans ((Below.heap_setCell _ _ _ _ hn1).trans ((Below.heap_setCell _ _ _ _ hn1).trans ((Below.heap_setCell _ _ _ _ hn1).trans (Below.heap_setCell _ _ _ _ hn1))))).trans hX3, put5_blk hz3,
                put5_below (Below.save HPA.out hS (fun k hk => by subst hk; exact hBw) (Nat.le_refl _)) HP.out.low.size, (by
                  rcases hat with rfl | hat
                  · exact hBw
                  · exact Nat.le_trans HPA.out.size hat), hXw⟩⟩)
          | (obtain ⟨W', hW', HQ⟩ : ∃ W', W' = (v.alloc (.cells #[.int .i64 (s3.k : Int), .int .i64 (s3.f : Int), .int .i64 (s3.l : Int), .slice A4 N4 c4, .int .i64 (s3.n : Int)] 30)) ∧ PlayMid w W' w2.heap.size v.heap.size B3 s A2 N2 c2 s3 A3 N3 c3 A4 N4 c4 :=
              ⟨_, rfl, ⟨hB3.below ((Below.refl _ _).alloc (Nat.le_refl _) _), hR3.below ((Below.refl _ _).alloc (Nat.le_refl _) _), blk_below hX3 ((Below.refl _ _).alloc (Nat.le_refl _) _), World.alloc_heap_new _ _,
                ((Below.save HP.out.low hS (fun k hk => by subst hk; exact hBw) (Nat.le_refl _)).alloc (Nat.le_trans HP.out.low.size hS.size) _), (by
                  rcases hat with rfl | hat
                  · exact hBw
                  · exact Nat.le_trans HP.out.low.size hat), hXw⟩⟩)
          rw [← hW']
          have HQ := Lib.hid HQ
          have hs3n : Hid (s3.n ≤ 3000 * (j + 1)) := Lib.hid (by have := HS.out; omega)
          clear hW' hA1 hA2 f0 f1 f2 f3 f4 a0 a1 a2 a3 q0 q1 q2 q3 aq0 aq1 aq2 aq3 x0 x1 x2 x3 x4 hB3 hR3 hX3 hS hat hsn3 hb
          try clear hz3'
          try clear e0 e1 e2 e3 e4 d0 d1 d2 d3 z0 z1 z2 z3 z4 g0 g1 g2 g3 g4 hz3
          have p0 := bufC.c0 HQ.out.res
          have p1 := bufC.c1 HQ.out.res
          have p2 := bufC.c2 HQ.out.res
          have p3 := bufC.c3 HQ.out.res
          have p4 := bufC.c4 HQ.out.res
          have x0 := bufC.c0 HQ.out.var
          have x1 := bufC.c1 HQ.out.var
          have x2 := bufC.c2 HQ.out.var
          have x3 := bufC.c3 HQ.out.var
          have x4 := bufC.c4 HQ.out.var
          have g0 := blk_frozen HQ.out.var 0
          have g1 := blk_frozen HQ.out.var 1
          have g2 := blk_frozen HQ.out.var 2
          have g3 := blk_frozen HQ.out.var 3
          have g4 := blk_frozen HQ.out.var 4
          go_wp2_with fail
          go_region
        all_goals
          obtain ⟨W5, hW5, HQ5⟩ : ∃ W5, W5 = (((((W'.setCell ⟨w2.heap.size, 0, none⟩ (.int .i64 (s3.k : Int))).setCell ⟨w2.heap.size, 1, none⟩ (.int .i64 (s3.f : Int))).setCell ⟨w2.heap.size, 2, none⟩ (.int .i64 (s3.l : Int))).setCell ⟨w2.heap.size, 3, none⟩ (.slice A4 N4 c4)).setCell ⟨w2.heap.size, 4, none⟩ (.int .i64 (s3.n : Int))).drew ∧ PlayAt w W5 w2.heap.size B3 s3 A3 N3 c3 A4 N4 c4 := ⟨_, rfl, HQ.out.done.drew⟩
          rw [← hW5]
          have hI := Lib.hid (is_any HQ5.buf HQ5.ref)
          have HQ5 := Lib.hid HQ5
          unfold refV bufC at hI
          clear hW5 p0 p1 p2 p3 p4 x0 x1 x2 x3 x4 g0 g1 g2 g3 g4 HQ
          have x0 := bufC.c0 HQ5.out.var
          have x1 := bufC.c1 HQ5.out.var
          have x2 := bufC.c2 HQ5.out.var
          have x3 := bufC.c3 HQ5.out.var
          have x4 := bufC.c4 HQ5.out.var
          go_wp2_with (first | (go_at_call 14; refine hI.out.mono ?_; rintro e v6 ⟨rfl, b6⟩) | fail)
          go_roundw
          case rel => exact ⟨j + 1, B3, s3, A3, N3, c3, A4, N4, c4, by omega, rfl, by go_num, Lib.hid (HQ5.out.step b6), hs3n⟩
          case measure => simp [intOf]; omega
      · obtain rfl : j = n := by omega
        clear hlt
        have hI := Lib.hid (is_any HP.out.buf HP.out.ref)
        have hW4 := Lib.hid (fun (u : World) (hb : Below wr.heap.size wr u) => hWk.out u (HP.out.low.trans (hb.mono HP.out.low.size)))
        unfold refV bufC at hI
        have HQ5 := HP
        have x0 := bufC.c0 HQ5.out.var
        have x1 := bufC.c1 HQ5.out.var
        have x2 := bufC.c2 HQ5.out.var
        have x3 := bufC.c3 HQ5.out.var
        have x4 := bufC.c4 HQ5.out.var
        go_wp2_with (first | (go_at_call 14; refine hI.out.mono ?_; rintro e v6 ⟨rfl, b6⟩) | (go_at_call 9; refine (hW4.out _ b6).mono ?_; rintro e v7 ⟨rfl, b7⟩) | fail)
        go_ret
        exact ⟨rfl, (HP.out.low.trans (b6.mono HP.out.low.size)).trans (b7.mono (Nat.le_trans HP.out.low.size b6.size))⟩
  · have hB := Bool.eq_false_iff.2 hB
    have hnw := Lib.hid (New_no (w := w) hB)
    have hr := Lib.hid (fun (u : World) => refNew_no (w := u) hB)
    clear hB hK hz hA hk hn
    go_enter Tryd.func3, Tryd.ntmps3
    go_wp2_with fail
    refine hnw.out.mono ?_
    rintro e w1 ⟨rfl, b1⟩
    clear hnw
    go_wp2_with fail
    refine (hr.out _).mono ?_
    rintro e w2 ⟨rfl, b2⟩
    have hb2 := b1.trans (b2.mono b1.size)
    have hb3 := hb2.alloc hb2.size (.cells (bufC 0 0 0 0 none 0 0) 30)
    have HB3 := Lib.hid hb3
    have hW4 := Lib.hid (hWk.out _ hb3)
    obtain ⟨W5, hW5⟩ : ∃ W5, W5 = w2.alloc (.cells (bufC 0 0 0 0 none 0 0) 30) := ⟨_, rfl⟩
    rw [← hW5] at HB3 hW4
    unfold bufC at hW5 ⊢
    have HW5 := Lib.hid hW5
    clear hr b1 b2 hb2 hb3 hWk hW5
    go_wp2_with (first | (go_at_call 12; refine (hN.out _ _).mono ?_; rintro e w6 ⟨rfl, he⟩; obtain rfl := he.symm) | fail)
    rw [← HW5.out]
    go_loopw [13] (fun i wr => i = .int .i64 0 ∧ wr = W5) (fun _ _ => 0)
    case atStart => exact ⟨rfl, rfl⟩
    case round =>
      obtain ⟨rfl, rfl⟩ := hrel
      clear HW5
      by_cases hn1 : (0 : Int) < (n : Int)
      · have hn2 : decide ((0 : Int) < (n : Int)) = true := decide_eq_true hn1
        clear hn1
        go_wp2_with (first | (go_at_call 9; refine hW4.out.mono ?_; rintro e w5 ⟨rfl, b5⟩) | fail)
        all_goals
          go_ret
          exact ⟨rfl, HB3.out.trans (b5.mono HB3.out.size)⟩
      · have hn2 : decide ((0 : Int) < (n : Int)) = false := decide_eq_false hn1
        clear hn1
        go_wp2_with (first | (go_at_call 9; refine hW4.out.mono ?_; rintro e w5 ⟨rfl, b5⟩) | fail)
        all_goals
          go_ret
          exact ⟨rfl, HB3.out.trans (b5.mono HB3.out.size)⟩
end Go.Proofs.YtoegamlpgenfcaaDoor
