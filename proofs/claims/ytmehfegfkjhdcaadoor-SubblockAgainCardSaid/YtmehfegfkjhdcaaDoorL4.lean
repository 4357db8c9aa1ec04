/-
  The walk of SubblockInterleaves.
-/
import Derived.Test.YtmehfegfkjhdcaaDoorDm
import Derived.Test.YtmehfegfkjhdcaaDoorL1
namespace Go.Proofs.YtmehfegfkjhdcaaDoor
open Go.RowKit Go.Shelf

theorem inter_order {s : Bool} {xs : List Int} {k : Nat} (h1 : 1 ≤ xs.length) (h2 : xs.length ≤ 6148) (hk : k < 32 * rowsN xs.length) :
    ((orderI xs.length s)[k]?.getD 0 = -1 ∧ (interI s xs)[k]?.getD 0 = 2) ∨ (∃ j : Nat, j < xs.length ∧ (orderI xs.length s)[k]?.getD 0 = (j : Int) ∧ (interI s xs)[k]?.getD 0 = xs[j]?.getD 0) := by
  have hr := rows_le h1 h2
  have hi := idx_lt (R := rowsN xs.length) (s := s) (k := k) (by omega)
  rw [orderI_at hk, interI_at hk]
  unfold ordE
  by_cases hm : idxN (rowsN xs.length) s k < 32 * rowsN xs.length - xs.length
  · left
    rw [if_pos hm, fillI_low hm]
    exact ⟨rfl, rfl⟩
  · right
    rw [if_neg hm, fillI_high (by omega)]
    exact ⟨_, by omega, rfl, rfl⟩
theorem orderS_cases (d st : Int) : ((okD d && okS st) = true ∧ orderS d st = (orderI d.toNat (shB st), 0)) ∨ ((okD d && okS st) = false ∧ orderS d st = ([], 2)) := by
  unfold orderS
  by_cases h : (okD d && okS st) = true
  · rw [if_pos h]; exact .inl ⟨h, rfl⟩
  · rw [if_neg h]; exact .inr ⟨Bool.eq_false_iff.2 h, rfl⟩
set_option maxRecDepth 100000 in
set_option maxHeartbeats 4000000 in
theorem inters_walk {A : Option Addr} {n c : Nat} {xs : List Int} {st : Int} {w : World} (hK : Kinds w) (hI : Rd .u8 w w.heap.size A n xs) :
    Calls Tryd.prog 7 #[.slice A n c, .int .i64 st] w fun e w' => e = .returned (.bool true) ∧ Below w.heap.size w w' := by
  have hW := Lib.hid (fun (u : World) (h : Below w.heap.size w u) => known_any (hK.step h))
  by_cases hbig : 1000 < n
  · have hb : (1000 : Int) < (n : Int) := by omega
    have hk := Lib.hid (hW.out _ (Below.refl _ w))
    clear hI
    go_enter Tryd.func7, Tryd.ntmps7
    go_wp2_with (go_at_call 14; refine hk.out.mono ?_; rintro e w4 ⟨rfl, h4⟩)
    go_ret
    exact ⟨rfl, h4⟩
  · have hn1 : n ≤ 1000 := by omega
    have hb : ¬ ((1000 : Int) < (n : Int)) := by omega
    have hlx := hI.len
    have hA := Lib.hid (Interleave_any (c := c) (st := st) hK hI (by omega))
    have hR := Lib.hid (fun (u : World) => refOrder_any (d := (n : Int)) (st := st) (w := u))
    have hV := Lib.hid (fun (u : World) (h : Below w.heap.size w u) => refValid_any (c := c) (hI.below h) (by omega))
    rcases orderS_cases (n : Int) st with ⟨hok, hor⟩ | ⟨hok, hor⟩
    · have hok' := hok
      rw [Bool.and_eq_true] at hok
      obtain ⟨k, hk, h1, h2⟩ := okD_nat hok.1
      obtain rfl : n = k := by omega
      rw [hor, Int.toNat_natCast] at hR
      subst hlx
      cases hv : validB xs
      · rw [interS_bad h1 h2 hok.2 hv] at hA
        rw [hv] at hV
        have hl0 := Lib.hid (orderI_length xs.length (shB st))
        generalize orderI xs.length (shB st) = ord at *
        generalize 32 * rowsN xs.length = S at *
        clear hok hok' hor hk h1 h2 hv hI
        go_enter Tryd.func7, Tryd.ntmps7
        go_wp2_with fail
        refine hA.out.mono ?_
        rintro e w1 he
        obtain ⟨A1, c1, rfl, o1, hb1⟩ := he.got (n := 0) rfl
        clear o1 he
        go_wp2_with fail
        refine (hR.out _).mono ?_
        rintro e w2 he
        obtain ⟨A2, c2, rfl, o2, h2⟩ := he.got hl0.out
        have hb2 := hb1.trans (h2.mono hb1.size)
        have hv2 := Lib.hid (hV.out _ hb2)
        have hk := Lib.hid (hW.out _ hb2)
        clear o2 he h2 hb1
        go_wp2_with (first | (go_at_call 20; refine hv2.out.mono ?_; rintro e w3 ⟨rfl, rfl⟩) | (go_at_call 14; refine hk.out.mono ?_; rintro e w4 ⟨rfl, h4⟩))
        go_ret
        exact ⟨rfl, hb2.trans (h4.mono hb2.size)⟩
      · rw [interS_ok h1 h2 hok.2 hv] at hA
        rw [hv] at hV
        have hl0 := Lib.hid (orderI_length xs.length (shB st))
        have hl1 := Lib.hid (interI_length (shB st) xs)
        have hE := Lib.hid (fun (k : Nat) hk => inter_order (s := shB st) (k := k) h1 h2 hk)
        have hr := rows_le h1 h2
        have hIh := Lib.hid hI
        obtain ⟨d, hd⟩ : ∃ d, xs.length = d := ⟨_, rfl⟩
        obtain ⟨S, hS⟩ : ∃ S, 32 * rowsN xs.length = S := ⟨_, rfl⟩
        have hSl : S ≤ 6176 := by omega
        rw [hS] at hl0 hl1 hE
        generalize orderI xs.length (shB st) = ord at *
        generalize interI (shB st) xs = res at *
        clear hok hok' hor hk h1 h2 hv hI hr hS
        rw [hd] at hA hR hV hE hIh hb hn1 ⊢
        have HD := Lib.hid hd
        clear hd
        go_enter Tryd.func7, Tryd.ntmps7
        go_wp2_with fail
        refine hA.out.mono ?_
        rintro e w1 he
        obtain ⟨A1, c1, rfl, o1, hb1⟩ := he.got hl1.out
        have R1 := Rd.of_own o1
        clear o1 he
        go_wp2_with fail
        refine (hR.out _).mono ?_
        rintro e w2 he
        obtain ⟨A2, c2, rfl, o2, h2⟩ := he.got hl0.out
        have hb2 := hb1.trans (h2.mono hb1.size)
        have hv2 := Lib.hid (hV.out _ hb2)
        have hk := Lib.hid (fun j => hW.out _ (below_drewN hb2 j))
        have R12 := Lib.hid (R1.step h2)
        have R22 := Lib.hid (Rd.of_own o2)
        have R02 := Lib.hid (hIh.out.below hb2)
        have HB2 := Lib.hid hb2
        clear o2 he h2 hb1 R1 hb2
        go_wp2_with (go_at_call 20; refine hv2.out.mono ?_; rintro e w2 ⟨rfl, rfl⟩)
        go_loopw [9] (fun i wr => ∃ (k j : Nat), k ≤ S ∧ i = .int .i64 (k : Int) ∧ wr = w2.drewN j) (fun i _ => S - (intOf i).toNat)
        case atStart => exact ⟨0, 0, Nat.zero_le _, rfl, rfl⟩
        case round =>
          obtain ⟨k, j, hk', rfl, rfl⟩ := hrel
          by_cases hlt : k < S
          · obtain ⟨b1, off1, hA1, _, hc1⟩ := R12.out.cells k hlt
            obtain ⟨b2, off2, hA2, _, hc2⟩ := R22.out.cells k hlt
            have hEk := hE.out k hlt
            subst hA1 hA2
            generalize res[k]?.getD 0 = x at *
            generalize ord[k]?.getD 0 = o at *
            have hc1' : World.cell? (w2.drewN j) ⟨b1, off1 + k, none⟩ = some (.int .u8 x) := hc1
            have hc2' : World.cell? (w2.drewN j) ⟨b2, off2 + k, none⟩ = some (.int .i64 o) := hc2
            have hk0 : (0 : Int) ≤ (k : Int) := by omega
            have hk1 : (k : Int) < (S : Int) := by omega
            rcases hEk with ⟨rfl, rfl⟩ | ⟨i, hi, rfl, rfl⟩
            · go_wp2_with fail
              go_big_quiet (fail)
              go_wp2_with fail
              go_roundw
              case rel => exact ⟨k + 1, _, by omega, by go_num, by first | rfl | exact drewN_two _ _ _⟩
              case measure => simp [intOf]; omega
            · obtain ⟨b0, off0, hA0, _, hc0⟩ := R02.out.cells i hi
              subst hA0
              generalize xs[i]?.getD 0 = y at *
              have hc0' : World.cell? (w2.drewN j) ⟨b0, off0 + i, none⟩ = some (.int .u8 y) := hc0
              have hi0 : (0 : Int) ≤ (i : Int) := by omega
              have hi1 : (i : Int) < (d : Int) := by omega
              have hd0 : decide ((i : Int) < 0) = false := decide_eq_false (by omega)
              go_wp2_with fail
              go_big_quiet (fail)
              go_wp2_with fail
              go_roundw
              case rel => exact ⟨k + 1, _, by omega, by go_num, by first | rfl | exact drewN_two _ _ _⟩
              case measure => simp [intOf]; omega
          · obtain rfl : k = S := by omega
            have hk2 := Lib.hid (hk.out j)
            clear hlt R12 R22 R02
            go_wp2_with fail
            refine hk2.out.mono ?_
            rintro e w5 ⟨rfl, h5⟩
            go_wp2_with fail
            go_ret
            exact ⟨rfl, (below_drewN HB2.out j).trans (h5.mono (below_drewN HB2.out j).size)⟩
    · rw [interS_no (by rw [hlx]; exact hok)] at hA
      rw [hor] at hR
      clear hok hor hI hlx
      go_enter Tryd.func7, Tryd.ntmps7
      go_wp2_with fail
      refine hA.out.mono ?_
      rintro e w1 he
      obtain ⟨A1, c1, rfl, o1, hb1⟩ := he.got (n := 0) rfl
      clear o1 he
      go_wp2_with fail
      refine (hR.out _).mono ?_
      rintro e w2 he
      obtain ⟨A2, c2, rfl, o2, h2⟩ := he.got (n := 0) rfl
      have hb2 := hb1.trans (h2.mono hb1.size)
      have hk := Lib.hid (hW.out _ hb2)
      clear o2 he h2 hb1
      go_wp2_with (go_at_call 14; refine hk.out.mono ?_; rintro e w4 ⟨rfl, h4⟩)
      go_ret
      exact ⟨rfl, hb2.trans (h4.mono hb2.size)⟩
end Go.Proofs.YtmehfegfkjhdcaaDoor
