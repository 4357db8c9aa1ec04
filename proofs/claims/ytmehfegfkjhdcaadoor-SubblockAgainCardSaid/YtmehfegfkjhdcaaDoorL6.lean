/-
  The walk of SubblockAgain.
-/
import Derived.Test.YtmehfegfkjhdcaaDoorL4
namespace Go.Proofs.YtmehfegfkjhdcaaDoor
open Go.RowKit Go.Shelf

set_option maxRecDepth 100000 in
set_option maxHeartbeats 4000000 in
theorem again_walk {A : Option Addr} {n c : Nat} {l : List Int} {d st : Int} {w : World} (hK : Kinds w) (hI : Rd .u8 w w.heap.size A n l) :
    Calls Tryd.prog 9 #[.slice A n c, .int .i64 d, .int .i64 st] w fun e w' => e = .returned (.bool true) ∧ Below w.heap.size w w' := by
  have hW := Lib.hid (fun (u : World) (h : Below w.heap.size w u) => known_any (hK.step h))
  by_cases hbig : 1000 < n
  · have hb : (1000 : Int) < (n : Int) := by omega
    have hk := Lib.hid (hW.out _ (Below.refl _ w))
    clear hI
    go_enter Tryd.func9, Tryd.ntmps9
    go_wp2_with (go_at_call 14; refine hk.out.mono ?_; rintro e w4 ⟨rfl, h4⟩)
    go_ret
    exact ⟨rfl, h4⟩
  · have hn1 : n ≤ 1000 := by omega
    have hb : ¬ ((1000 : Int) < (n : Int)) := by omega
    have hlx := hI.len
    have hA := Lib.hid (Deinterleave_any (c := c) (d := d) (st := st) hK hI (by omega))
    have hR := Lib.hid (fun (u : World) => refOrder_any (d := d) (st := st) (w := u))
    rcases orderS_cases d st with ⟨hok, hor⟩ | ⟨hok, hor⟩
    · rw [Bool.and_eq_true] at hok
      obtain ⟨m, rfl, h1, h2⟩ := okD_nat hok.1
      rw [hor, Int.toNat_natCast] at hR
      have hl0 := Lib.hid (orderI_length m (shB st))
      by_cases hS : n = 32 * rowsN m
      · have hde := deS_ok (l := l) h1 h2 hok.2 (hlx.trans hS)
        have hr := rows_le h1 h2
        cases hbad : badI (32 * rowsN m - m) (backI (rowsN m) (shB st) l)
        · rw [if_neg (by rw [hbad]; decide)] at hde
          rw [hde] at hA
          obtain ⟨e1, e2, e3⟩ := inter_de h1 h2 (hlx.trans hS) hbad
          generalize (backI (rowsN m) (shB st) l).drop (32 * rowsN m - m) = b at *
          have hin : interS b st = (l, 0) := by rw [interS_ok (by omega) (by omega) hok.2 e3, e2]
          have hB := Lib.hid (fun (u : World) (A' : Option Addr) (c' : Nat) (h : Below w.heap.size w u) (hR : Rd .u8 u u.heap.size A' m b) => Interleave_any (c := c') (st := st) (hK.step h) hR (by omega))
          rw [hin] at hB
          have hsame := Lib.hid (fun (u : World) (A' : Option Addr) (c' : Nat) (h : Below w.heap.size w u) (hR : Rd .u8 u u.heap.size A' n l) => same_true (c := c') (c' := c) hR (hI.step h) (by omega))
          have HLX := Lib.hid hlx
          have HE1 := Lib.hid e1
          rw [← hS] at hl0
          have hmn : (m : Int) ≤ (n : Int) := by omega
          generalize orderI m (shB st) = ord at *
          clear hok hor h1 h2 hde hr hbad e1 e2 e3 hin hI hlx hS
          go_enter Tryd.func9, Tryd.ntmps9
          go_wp2_with fail
          refine hA.out.mono ?_
          rintro e w1 ⟨A1, c1, rfl, R1, _, hb1⟩
          rw [show (b, (0 : Int)).1 = b from rfl, show (b, (0 : Int)).2 = 0 from rfl] at *
          rw [HE1.out] at R1 ⊢
          clear hA
          go_wp2_with fail
          refine (hR.out _).mono ?_
          rintro e w2 he
          obtain ⟨A2, c2, rfl, o2, h2⟩ := he.got hl0.out
          have hb2 := hb1.trans (h2.mono hb1.size)
          have hb2i := Lib.hid (hB.out _ _ c1 hb2 (R1.step h2))
          clear o2 he h2 hb1 R1 hB
          go_wp2_with fail
          refine hb2i.out.mono ?_
          rintro e w3 he
          obtain ⟨A3, c3, rfl, o3, h3⟩ := he.got HLX.out
          have hb3 := hb2.trans (h3.mono hb2.size)
          have hs3 := Lib.hid (hsame.out _ _ c3 hb3 (Rd.of_own o3))
          clear o3 he h3 hb2 hb2i hsame
          go_wp2_with fail
          refine hs3.out.mono ?_
          rintro e w4 ⟨rfl, h4⟩
          have hb4 := hb3.trans (h4.mono hb3.size)
          have hk := Lib.hid (hW.out _ hb4)
          clear hs3 h4 hb3
          go_wp2_with fail
          refine hk.out.mono ?_
          rintro e w5 ⟨rfl, h5⟩
          go_wp2_with fail
          go_ret
          exact ⟨rfl, hb4.trans (h5.mono hb4.size)⟩
        · rw [if_pos hbad] at hde
          rw [hde] at hA
          have hodd := Lib.hid (fun h => bad_odd (l := l) h1 h2 hbad h)
          rw [← hS] at hl0 hodd
          have hIh := Lib.hid hI
          generalize orderI m (shB st) = ord at *
          clear hok hor h1 h2 hde hr hbad hI hS
          go_enter Tryd.func9, Tryd.ntmps9
          go_wp2_with fail
          refine hA.out.mono ?_
          rintro e w1 ⟨A1, c1, rfl, R1, _, hb1⟩
          clear hA R1
          try dsimp only
          go_wp2_with fail
          refine (hR.out _).mono ?_
          rintro e w2 he
          obtain ⟨A2, c2, rfl, o2, h2⟩ := he.got hl0.out
          have hb2 := hb1.trans (h2.mono hb1.size)
          have hk := Lib.hid (fun j => hW.out _ (below_drewN hb2 j))
          have R22 := Lib.hid (Rd.of_own o2)
          have R02 := Lib.hid (hIh.out.below hb2)
          have HB2 := Lib.hid hb2
          clear o2 he h2 hb1 hb2
          go_wp2_with fail
          go_loopw [11] (fun i wr => ∃ (k j : Nat), k ≤ n ∧ i = .int .i64 (k : Int) ∧ wr = w2.drewN j ∧ Hid (∀ t, t < k → oddB (l[t]?.getD 0) (ord[t]?.getD 0) = false)) (fun i _ => n - (intOf i).toNat)
          case atStart => exact ⟨0, 0, Nat.zero_le _, rfl, rfl, Lib.hid (fun t ht => absurd ht (Nat.not_lt_zero t))⟩
          case round =>
            obtain ⟨k, j, hk', rfl, rfl, hall⟩ := hrel
            by_cases hlt : k < n
            · obtain ⟨b2, off2, hA2, _, hc2⟩ := R22.out.cells k hlt
              obtain ⟨b0, off0, hA0, _, hc0⟩ := R02.out.cells k hlt
              have hNext := Lib.hid (fun (h : oddB (l[k]?.getD 0) (ord[k]?.getD 0) = false) (t : Nat) (ht : t < k + 1) => show oddB (l[t]?.getD 0) (ord[t]?.getD 0) = false by
                rcases Nat.lt_or_ge t k with h' | h'
                · exact hall.out t h'
                · obtain rfl : t = k := by omega
                  exact h)
              subst hA2 hA0
              generalize l[k]?.getD 0 = x at *
              generalize ord[k]?.getD 0 = o at *
              have hc0' : World.cell? (w2.drewN j) ⟨b0, off0 + k, none⟩ = some (.int .u8 x) := hc0
              have hc2' : World.cell? (w2.drewN j) ⟨b2, off2 + k, none⟩ = some (.int .i64 o) := hc2
              have hk0 : (0 : Int) ≤ (k : Int) := by omega
              have hk1 : (k : Int) < (n : Int) := by omega
              clear hall
              unfold oddB at hNext
              cases h2 : decide (2 < x)
              · cases e1 : (x == 2) <;> cases e2 : decide (o < 0)
                case false.false =>
                  rw [h2, e1, e2] at hNext
                  have HN := Lib.hid (hNext.out rfl)
                  clear hNext
                  go_wp2_with fail
                  go_big_quiet (fail)
                  go_wp2_with fail
                  go_roundw
                  case rel => exact ⟨k + 1, _, by omega, by go_num, by first | rfl | exact drewN_two _ _ _, HN.out⟩
                  case measure => simp [intOf]; omega
                case false.true =>
                  clear hNext
                  go_wp2_with fail
                  go_big_quiet (fail)
                  go_wp2_with fail
                  refine (hk.out _).mono ?_
                  rintro e w5 ⟨rfl, h5⟩
                  go_wp2_with fail
                  go_ret
                  exact ⟨rfl, (below_drewN HB2.out _).trans (h5.mono (below_drewN HB2.out _).size)⟩
                case true.false =>
                  clear hNext
                  go_wp2_with fail
                  go_big_quiet (fail)
                  go_wp2_with fail
                  refine (hk.out _).mono ?_
                  rintro e w5 ⟨rfl, h5⟩
                  go_wp2_with fail
                  go_ret
                  exact ⟨rfl, (below_drewN HB2.out _).trans (h5.mono (below_drewN HB2.out _).size)⟩
                case true.true =>
                  rw [h2, e1, e2] at hNext
                  have HN := Lib.hid (hNext.out rfl)
                  clear hNext
                  go_wp2_with fail
                  go_big_quiet (fail)
                  go_wp2_with fail
                  go_roundw
                  case rel => exact ⟨k + 1, _, by omega, by go_num, by first | rfl | exact drewN_two _ _ _, HN.out⟩
                  case measure => simp [intOf]; omega
              · clear hNext
                go_wp2_with fail
                go_big_quiet (fail)
                go_wp2_with fail
                refine (hk.out _).mono ?_
                rintro e w5 ⟨rfl, h5⟩
                go_wp2_with fail
                go_ret
                exact ⟨rfl, (below_drewN HB2.out _).trans (h5.mono (below_drewN HB2.out _).size)⟩
            · obtain rfl : k = n := by omega
              exact (hodd.out hall.out).elim
      · rw [deS_len h1 h2 hok.2 (fun e => hS (hlx.symm.trans e))] at hA
        have hne : ((((32 * rowsN m : Nat)) : Int) != (n : Int)) = true := by simp; omega
        generalize orderI m (shB st) = ord at *
        generalize 32 * rowsN m = S at *
        clear hok hor h1 h2 hI hlx hS
        go_enter Tryd.func9, Tryd.ntmps9
        go_wp2_with fail
        refine hA.out.mono ?_
        rintro e w1 ⟨A1, c1, rfl, R1, _, hb1⟩
        clear hA R1
        try dsimp only
        go_wp2_with fail
        refine (hR.out _).mono ?_
        rintro e w2 he
        obtain ⟨A2, c2, rfl, o2, h2⟩ := he.got hl0.out
        have hb2 := hb1.trans (h2.mono hb1.size)
        have hk := Lib.hid (hW.out _ hb2)
        clear o2 he h2 hb1
        go_wp2_with (go_at_call 14; refine hk.out.mono ?_; rintro e w4 ⟨rfl, h4⟩)
        go_ret
        exact ⟨rfl, hb2.trans (h4.mono hb2.size)⟩
    · rw [deS_no hok] at hA
      rw [hor] at hR
      clear hok hor hI hlx
      go_enter Tryd.func9, Tryd.ntmps9
      go_wp2_with fail
      refine hA.out.mono ?_
      rintro e w1 ⟨A1, c1, rfl, R1, _, hb1⟩
      clear hA R1
      try dsimp only
      go_wp2_with fail
      refine (hR.out _).mono ?_
      rintro e w2 he
      obtain ⟨A2, c2, rfl, o2, h2⟩ := he.got (n := 0) rfl
      have hb2 := hb1.trans (h2.mono hb1.size)
      have hk := Lib.hid (hW.out _ hb2)
      clear o2 he h2 hb1
      go_wp2_with (go_at_call 14; refine hk.out.mono ?_; rintro e w4 ⟨rfl, h4⟩)
      go_ret
      exact ⟨rfl, hb2.trans (h4.mono hb2.size)⟩
end Go.Proofs.YtmehfegfkjhdcaaDoor
