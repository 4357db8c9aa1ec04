/-
  The walk of SubblockShifts.
-/
import Derived.Test.YtmehfegfkjhdcaaDoorKn
import Derived.Test.YtmehfegfkjhdcaaDoorL1
namespace Go.Proofs.YtmehfegfkjhdcaaDoor
open Go.RowKit Go.Shelf

/-- The order of stream 2 follows from that of stream 0. -/
theorem shift_follows {d k : Nat} (h1 : 1 ≤ d) (h2 : d ≤ 6148) (hk : k < 32 * rowsN d) (h : 0 ≤ (orderI d false)[k]?.getD 0) (hl : (orderI d false)[k]?.getD 0 < (d : Int) - 1) : (orderI d true)[k]?.getD 0 = (orderI d false)[k]?.getD 0 + 1 := by
  have hr := rows_le h1 h2
  rw [orderI_at hk] at h hl ⊢
  rw [orderI_at hk]
  unfold idxN shN at *
  have hm := mN_lt (R := rowsN d) (k := k) (by omega)
  simp only [Bool.false_eq_true, if_false, if_true] at *
  generalize mN (rowsN d) k = m at *
  generalize rowsN d = R at *
  unfold ordE at *
  by_cases c : m < 32 * R - d
  · rw [if_pos c] at h
    omega
  · rw [if_neg c] at h hl ⊢
    rw [Nat.mod_eq_of_lt (by omega), if_neg (by omega)]
    omega
set_option maxRecDepth 100000 in
set_option maxHeartbeats 2000000 in
theorem shifts_walk {d : Int} {w : World} (hK : Kinds w) :
    Calls Tryd.prog 6 #[.int .i64 d] w fun e w' => e = .returned (.bool true) ∧ Below w.heap.size w w' := by
  have hW := Lib.hid (fun (u : World) (h : Below w.heap.size w u) => known_any (hK.step h))
  have hA := Lib.hid (Order_any (d := d) (st := 0) hK)
  have hB := Lib.hid (fun (u : World) (h : Below w.heap.size w u) => Order_any (d := d) (st := 1) (hK.step h))
  have hC := Lib.hid (fun (u : World) (h : Below w.heap.size w u) => Order_any (d := d) (st := 2) (hK.step h))
  by_cases h : okD d = true
  · obtain ⟨m, rfl, h1, h2⟩ := okD_nat h
    rw [orderS_ok h1 h2 (by decide), show shB 0 = false from rfl] at hA
    rw [orderS_ok h1 h2 (by decide), show shB 1 = false from rfl] at hB
    rw [orderS_ok h1 h2 (by decide), show shB 2 = true from rfl] at hC
    have hF := Lib.hid (fun (k : Nat) hk h hl => shift_follows (k := k) h1 h2 hk h hl)
    have hl0 := Lib.hid (orderI_length m false)
    have hl2 := Lib.hid (orderI_length m true)
    have hr := rows_le h1 h2
    obtain ⟨S, hS⟩ : ∃ S, 32 * rowsN m = S := ⟨_, rfl⟩
    have hSl : S ≤ 6176 := by omega
    rw [hS] at hF hl0 hl2
    generalize orderI m false = xs at *
    generalize orderI m true = zs at *
    clear hr hS h
    go_enter Tryd.func6, Tryd.ntmps6
    go_wp2_with fail
    refine hA.out.mono ?_
    rintro e w1 he
    obtain ⟨A1, c1, rfl, o1, hb1⟩ := he.got hl0.out
    have R1 := Rd.of_own o1
    have hb := Lib.hid (hB.out _ hb1)
    clear o1 he
    go_wp2_with fail
    refine hb.out.mono ?_
    rintro e w2 he
    obtain ⟨A2, c2, rfl, o2, h2⟩ := he.got hl0.out
    have hb2 := hb1.trans (h2.mono hb1.size)
    have R12 := R1.step h2
    have R2 := Rd.of_own o2
    have hc := Lib.hid (hC.out _ hb2)
    clear o2 he h2 hb1 R1 hb
    go_wp2_with fail
    refine hc.out.mono ?_
    rintro e w3 he
    obtain ⟨A3, c3, rfl, o3, h3⟩ := he.got hl2.out
    have hb3 := hb2.trans (h3.mono hb2.size)
    have R13 := R12.step h3
    have R23 := R2.step h3
    have R33 := Rd.of_own o3
    have s1 := Lib.hid (sameI_true (c := c1) (c' := c2) R13 R23 (by omega))
    clear o3 he h3 hb2 R12 R2 hc
    go_wp2_with fail
    refine s1.out.mono ?_
    rintro e w4 ⟨rfl, h4⟩
    have hb4 := Lib.hid (hb3.trans (h4.mono hb3.size))
    have R14 := Lib.hid (R13.step h4)
    have R34 := Lib.hid (R33.step h4)
    clear s1 R13 R23 R33 h4 hb3
    go_wp2_with fail
    go_loopw [9] (fun i wr => ∃ (k j : Nat), k ≤ S ∧ i = .int .i64 (k : Int) ∧ wr = w4.drewN j) (fun i _ => S - (intOf i).toNat)
    case atStart => exact ⟨0, 0, Nat.zero_le _, rfl, rfl⟩
    case round =>
      obtain ⟨k, j, hk, rfl, rfl⟩ := hrel
      by_cases hlt : k < S
      · obtain ⟨b, off, hA1, _, hc⟩ := R14.out.cells k hlt
        obtain ⟨b', off', hA3, _, hc'⟩ := R34.out.cells k hlt
        have hFk := Lib.hid (hF.out k hlt)
        subst hA1 hA3
        generalize xs[k]?.getD 0 = x at *
        generalize zs[k]?.getD 0 = z at *
        have hc2 : World.cell? (w4.drewN j) ⟨b, off + k, none⟩ = some (.int .i64 x) := hc
        have hc2' : World.cell? (w4.drewN j) ⟨b', off' + k, none⟩ = some (.int .i64 z) := hc'
        have hk0 : (0 : Int) ≤ (k : Int) := by omega
        have hk1 : (k : Int) < (S : Int) := by omega
        by_cases hx0 : 0 ≤ x
        · by_cases hx1 : x < (m : Int) - 1
          · have hz := hFk.out hx0 hx1
            subst hz
            go_wp2_with fail
            go_big_quiet (fail)
            go_wp2_with fail
            go_roundw
            case rel => exact ⟨k + 1, _, by omega, by go_num, by first | rfl | exact drewN_two _ _ _⟩
            case measure => simp [intOf]; omega
          · have hd : decide (x < (m : Int) - 1) = false := decide_eq_false hx1
            go_wp2_with fail
            go_big_quiet (fail)
            go_wp2_with fail
            go_roundw
            case rel => exact ⟨k + 1, _, by omega, by go_num, by first | rfl | exact drewN_two _ _ _⟩
            case measure => simp [intOf]; omega
        · have hd : decide (0 ≤ x) = false := decide_eq_false hx0
          go_wp2_with fail
          go_big_quiet (fail)
          go_wp2_with fail
          go_roundw
          case rel => exact ⟨k + 1, _, by omega, by go_num, by first | rfl | exact drewN_two _ _ _⟩
          case measure => simp [intOf]; omega
      · obtain rfl : k = S := by omega
        have hk := Lib.hid (hW.out _ (below_drewN hb4.out j))
        clear hlt R14 R34
        go_wp2_with fail
        refine hk.out.mono ?_
        rintro e w5 ⟨rfl, h5⟩
        go_wp2_with fail
        go_ret
        exact ⟨rfl, (below_drewN hb4.out j).trans (h5.mono (below_drewN hb4.out j).size)⟩
  · have hn : ∀ st, orderS d st = ([], 2) := fun st => orderS_no (by rw [Bool.eq_false_iff.2 h]; rfl)
    rw [hn] at hA hB hC
    clear h hn
    go_enter Tryd.func6, Tryd.ntmps6
    go_wp2_with fail
    refine hA.out.mono ?_
    rintro e w1 he
    obtain ⟨A1, c1, rfl, o1, hb1⟩ := he.got (n := 0) rfl
    have hb := Lib.hid (hB.out _ hb1)
    clear o1 he
    go_wp2_with fail
    refine hb.out.mono ?_
    rintro e w2 he
    obtain ⟨A2, c2, rfl, o2, h2⟩ := he.got (n := 0) rfl
    have hb2 := hb1.trans (h2.mono hb1.size)
    have hc := Lib.hid (hC.out _ hb2)
    clear o2 he h2 hb1 hb
    go_wp2_with fail
    refine hc.out.mono ?_
    rintro e w3 he
    obtain ⟨A3, c3, rfl, o3, h3⟩ := he.got (n := 0) rfl
    have hb3 := hb2.trans (h3.mono hb2.size)
    have hk := Lib.hid (hW.out _ hb3)
    clear o3 he h3 hb2 hc
    go_wp2_with fail
    refine hk.out.mono ?_
    rintro e w5 ⟨rfl, h5⟩
    go_wp2_with fail
    go_ret
    exact ⟨rfl, hb3.trans (h5.mono hb3.size)⟩
end Go.Proofs.YtmehfegfkjhdcaaDoor
