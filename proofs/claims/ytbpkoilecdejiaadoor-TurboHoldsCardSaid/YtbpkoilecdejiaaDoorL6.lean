/-
  The walk of TurboFlips.
-/
import Derived.Test.YtbpkoilecdejiaaDoorL4
import Derived.Test.YtbpkoilecdejiaaDoorV8
namespace Go.Proofs.YtbpkoilecdejiaaDoor
set_option maxRecDepth 100000
open Go.RowKit

theorem chk_tb {xs : List Int} (hs : IsSize xs.length) (hx : Bits xs) : chkS (tbI xs) = 0 := by
  have h := bitsS_size hs (tbI_length xs)
  rw [(tbI_bits hx).valid, if_pos rfl, tbI_take xs hx] at h
  rw [chkS_ok h, if_pos rfl]
theorem chk_flip {xs ws : List Int} (hs : IsSize xs.length) (hx : Bits xs) (hw : Bits ws) (hl : ws.length = 3 * (xs.length + 4)) (hd : diffC ws (tbI xs) (3 * (xs.length + 4)) ≤ 5) (hne : ws ≠ tbI xs) : chkS ws = 11 := by
  have h := bitsS_size hs hl
  rw [hw.valid, if_pos rfl] at h
  rw [chkS_ok h, if_neg (tb_flip hs hx hw hl hd hne)]
theorem bits_set {ws : List Int} (h : Bits ws) (q : Nat) {u : Int} (hu : u = 0 ∨ u = 1) : Bits (ws.set q u) := fun x hx => by
  rcases List.mem_or_eq_of_mem_set hx with h1 | h1
  · exact h x h1
  · rw [h1]; exact hu
set_option maxHeartbeats 16000000 in
theorem flips_walk {A B T : Option Addr} {n m l c d f z : Nat} {xs ys ts : List Int} {w : World} (hKi : Kinds w) (hX : Rd .u8 w w.heap.size A n xs) (hbx : Byte xs) (hY : Rd .u8 w w.heap.size B m ys) (hby : Byte ys) (hz : z ≤ 255) (hT : Rd .u16 w w.heap.size T l ts) (hbt : ∀ t ∈ ts, 0 ≤ t ∧ t < 65536) :
    Calls Tryd.prog 8 #[.slice A n c, .slice B m d, .int .u8 (z : Int), .slice T l f] w fun e w' => e = .returned (.bool true) ∧ Below w.heap.size w w' := by
  have hK := Lib.hid (fun (v : World) (h : Below w.heap.size w v) => works_to hKi h)
  by_cases hn : n ≤ 600
  by_cases hm : m ≤ 600
  by_cases hl : l ≤ 5
  · have hn1 : ¬ (600 : Int) < (n : Int) := by omega
    have hm1 : ¬ (600 : Int) < (m : Int) := by omega
    have hl1 : ¬ (5 : Int) < (l : Int) := by omega
    have hLX := Lib.hid (fun (v : World) (h : Rd .u8 v v.heap.size A n xs) => sized_any (c := c) h hbx (by omega) hz)
    have hLY := Lib.hid (fun (v : World) (h : Rd .u8 v v.heap.size B m ys) => sized_any (c := d) h hby (by omega) hz)
    have bx := sizedL_bits xs z
    have bY := sizedL_bits ys z
    have lx := sizedL_length xs z
    have ly := sizedL_length ys z
    have hsz := size_K z
    have hk5 := sizeK_le z
    generalize sizedL xs z = x at *
    generalize sizedL ys z = y at *
    generalize sizeK z = k at *
    have hWX := Lib.hid (fun (v : World) (A : Option Addr) (c : Nat) (hB : Below w.heap.size w v) (h : Rd .u8 v v.heap.size A k x) => enc_low (c := c) (hKi.step hB) h bx hsz)
    have hWY := Lib.hid (fun (v : World) (A : Option Addr) (c : Nat) (hB : Below w.heap.size w v) (h : Rd .u8 v v.heap.size A k y) => enc_low (c := c) (hKi.step hB) h bY hsz)
    have hCk := Lib.hid (fun (v : World) (A : Option Addr) (n c : Nat) (ws : List Int) (hB : Below w.heap.size w v) (h : Rd .u8 v v.heap.size A n ws) (hw : Bits ws) (hn : n ≤ 2199023255552) (hc : n ≤ c) => Check_any (c := c) (hKi.step hB) h hw.byte hn hc)
    obtain ⟨N, hN⟩ : ∃ N, 3 * (k + 4) = N := ⟨_, rfl⟩
    have hsx : IsSize x.length := by rw [lx]; exact hsz
    have hS := tb_same hsx bx bY (lx.trans ly.symm)
    have hC0 := Lib.hid (chk_tb hsx bx)
    have hC1 := Lib.hid (fun ws h1 h2 h3 h4 => chk_flip (ws := ws) hsx bx h1 h2 h3 h4)
    rw [lx, hN] at hS hC1
    have bp := Lib.hid (tbI_bits bx)
    have lp := Lib.hid ((tbI_length x).trans (by rw [lx, hN]))
    have HS0 := Lib.hid hS
    have HX := Lib.hid hX
    have HY := Lib.hid hY
    have HT := Lib.hid hT
    have HBT := Lib.hid hbt
    have BX := Lib.hid bx
    have BY := Lib.hid bY
    have hN0 : 0 < N := by omega
    have hN1 : ((N : Int) == 0) = false := by simp; omega
    have hN2 : ¬ (N : Int) = 0 := by omega
    have hN5 : N ≤ 1548 := by omega
    rw [hN] at hWX hWY
    generalize tbI x = p at *
    generalize tbI y = q at *
    clear hX hY hT hbt bx bY lx ly hbx hby hKi hN hsx hsz hS hk5
    go_enter Tryd.func8, Tryd.ntmps8
    go_wp2_with fail
    refine (hLX.out w HX.out).mono ?_
    rintro e w1 ⟨g1, rfl, hO1, hb1⟩
    have X1 := Rd.of_own hO1
    have HY1 := HY.out.step hb1
    have HT1 := HT.out.step hb1
    clear hO1 hLX HX HY HT
    go_wp2_with fail
    refine (hLY.out w1 HY1).mono ?_
    rintro e w2 ⟨g2, rfl, hO2, hb2⟩
    have Y2 := Lib.hid (Rd.of_own hO2)
    have X2 := Lib.hid (X1.step hb2)
    have T2 := Lib.hid (HT1.step hb2)
    have B2 := Lib.hid (hb1.trans (hb2.mono hb1.size))
    clear X1 HY1 HT1 hO2 hb1 hb2 hLY
    go_wp2_with fail
    refine (hWX.out w2 _ _ B2.out X2.out).mono ?_
    rintro e w4 ⟨A4, c4, rfl, P4, _, hb4⟩
    have Y4 := Lib.hid (Y2.out.step hb4)
    have X4 := Lib.hid (X2.out.step hb4)
    have T4 := Lib.hid (T2.out.step hb4)
    have B4 := Lib.hid (B2.out.trans (hb4.mono B2.out.size))
    have P4 := Lib.hid P4
    clear hb4 X2 Y2 T2 B2 hWX
    go_wp2_with fail
    refine (hWY.out w4 _ _ B4.out Y4.out).mono ?_
    rintro e w5 ⟨A5, c5, rfl, Q5, _, hb5⟩
    have P5 := Lib.hid (P4.out.step hb5)
    have X5 := Lib.hid (X4.out.step hb5)
    have Y5 := Lib.hid (Y4.out.step hb5)
    have T5 := Lib.hid (T4.out.step hb5)
    have B5 := Lib.hid (B4.out.trans (hb5.mono B4.out.size))
    have Q5 := Lib.hid Q5
    clear hb5 Y4 X4 T4 B4 P4 hWY
    go_wp2_with (go_at_call 14; refine num_any.mono ?_; rintro e wn ⟨rfl, he⟩; obtain rfl := he.symm)
    go_loopw [15, 16] (fun a i W => ∃ j s t : Nat, j ≤ N ∧ s ≤ j ∧ a = .int .i64 (s : Int) ∧ i = .int .i64 (j : Int) ∧ Hid (diffC p q j = s) ∧ W = w5.drewN t) (fun _ i _ => N - (intOf i).toNat)
    case atStart => exact ⟨0, 0, 0, Nat.zero_le _, Nat.le_refl _, rfl, rfl, Lib.hid rfl, rfl⟩
    case round =>
      obtain ⟨i, s, t, hi, hs, rfl, rfl, hd, hW⟩ := hrel
      subst hW
      by_cases hlt : i < N
      · obtain ⟨b1, o1, rfl, _, hc1⟩ := P5.out.cells i hlt
        obtain ⟨b2, o2, rfl, _, hc2⟩ := Q5.out.cells i hlt
        have hyes := Lib.hid (fun h => diffC_yes (p := p) (q := q) (k := i) h)
        have hno := Lib.hid (fun h => diffC_no (p := p) (q := q) (k := i) h)
        generalize p[i]?.getD 0 = p0 at *
        generalize q[i]?.getD 0 = q0 at *
        have hd1 : (w5.drewN t).cell? ⟨b1, o1 + i, none⟩ = some (.int .u8 p0) := hc1
        have hd2 : (w5.drewN t).cell? ⟨b2, o2 + i, none⟩ = some (.int .u8 q0) := hc2
        have hi0 : (0 : Int) ≤ (i : Int) := by omega
        have hi1 : (i : Int) < (N : Int) := by omega
        by_cases hne : (p0 != q0) = true
        · have HD : Hid (diffC p q (i + 1) = s + 1) := Lib.hid (by rw [hyes.out hne, hd.out])
          clear hyes hno hd
          go_wp2_with fail
          go_quiet (fail)
          go_wp2_with fail
          go_roundw
          case rel => exact ⟨i + 1, s + 1, _, by omega, by omega, by go_num, by go_num, HD, by first | rfl | exact World.drewN_drewN _ _ _⟩
          case measure => simp [intOf]; omega
        · have hne := Bool.eq_false_iff.2 hne
          have HD : Hid (diffC p q (i + 1) = s) := Lib.hid (by rw [hno.out hne, hd.out])
          clear hyes hno hd
          go_wp2_with fail
          go_quiet (fail)
          go_wp2_with fail
          go_roundw
          case rel => exact ⟨i + 1, s, _, by omega, by omega, rfl, by go_num, HD, by first | rfl | exact World.drewN_drewN _ _ _⟩
          case measure => simp [intOf]; omega
      · obtain rfl : i = N := by omega
        have B6 := Lib.hid (below_drewN B5.out t)
        have HS := Lib.hid (same_any (c := k) (c' := k) (X5.out.drewN t) (Y5.out.drewN t) BX.out.byte BY.out.byte)
        obtain ⟨A6, c6, w6, run6, hO6, hb6⟩ := copy_run (c := c4) (P5.out.drewN t) (by omega)
        have hc6 := Lib.hid (own_cap hO6)
        obtain ⟨g6, cap6, hv6, _, _⟩ := hO6.form (by omega)
        injection hv6 with hv6 _ hv7
        subst hv6 hv7
        have R6 := Lib.hid run6
        have O6 := Lib.hid hO6
        have HB6 := Lib.hid hb6
        have T6 := Lib.hid (show Rd .u16 (w5.drewN t) (w5.drewN t).heap.size T l ts from T5.out.drewN t)
        have P6 := Lib.hid (show Rd .u8 (w5.drewN t) (w5.drewN t).heap.size A4 i p from P5.out.drewN t)
        clear P5 Q5 B5 X5 Y5 T5 run6 hO6 hb6 BX BY
        generalize w5.drewN t = V at *
        have hcase : (s = 0 ∧ x = y) ∨ (6 ≤ s ∧ x ≠ y) := by rw [← hd.out]; exact HS0.out
        clear hd HS0
        rcases hcase with ⟨h0, hxy⟩ | ⟨h6, hxy⟩
        · subst h0
          rw [decide_eq_true hxy] at HS
          clear hxy
          go_wp2_with fail
          refine HS.out.mono ?_
          rintro e w7 ⟨rfl, he⟩
          obtain rfl := he.symm
          clear HS
          go_wp2_with (at_builtin; refine Lib.wpList_append_run _ rfl _ _ _ _ rfl _ _ rfl rfl _ _ R6.out ?_)
          have HI0 : Hid (∃ ws : List Int, w6.ownsRow V.heap.size 5 1 (.slice (some ⟨g6, 0, none⟩) i c6) i (ws.map (Value.int .u8)) ∧ Bits ws ∧ diffC ws p i ≤ 0 ∧ Below V.heap.size V w6) := Lib.hid ⟨p, O6.out, bp.out, by rw [diffC_self]; exact Nat.le_refl _, HB6.out⟩
          clear R6 O6 HB6
          go_loopw [18] (fun x U => ∃ j : Nat, j ≤ l ∧ x = .int .i64 (j : Int) ∧ Hid (∃ ws : List Int, U.ownsRow V.heap.size 5 1 (.slice (some ⟨g6, 0, none⟩) i c6) i (ws.map (Value.int .u8)) ∧ Bits ws ∧ diffC ws p i ≤ j ∧ Below V.heap.size V U)) (fun x _ => l - (intOf x).toNat)
          case atStart => exact ⟨0, Nat.zero_le _, rfl, HI0⟩
          case round =>
            clear HI0
            obtain ⟨j, hj, rfl, hH⟩ := hrel
            by_cases hlt : j < l
            · obtain ⟨ws, o1, b1, d1, e1⟩ := hH.out
              have T7 := T6.out.below e1
              obtain ⟨bt, ot, rfl, _, ct⟩ := T7.cells j hlt
              have hjt : j < ts.length := by rw [T7.len]; exact hlt
              have hxt := HBT.out _ (List.getElem_mem hjt)
              have hte : ts[j]?.getD 0 = ts[j] := by rw [List.getElem?_eq_getElem hjt]; rfl
              rw [← hte] at hxt
              clear hte hjt
              generalize ts[j]?.getD 0 = tv at *
              obtain ⟨v, rfl⟩ := Int.eq_ofNat_of_zero_le hxt.1
              have hq := Nat.mod_lt v hN0
              have hmod : (v : Int).tmod (i : Int) = ((v % i : Nat) : Int) := by rw [Int.tmod_eq_emod_of_nonneg (by omega)]; rfl
              generalize v % i = qx at *
              have hlw : ws.length = i := by have := o1.1; simpa using this
              have cq : wr.cell? ⟨g6, qx, none⟩ = some (.int .u8 (ws[qx]?.getD 0)) := by
                rw [World.ownsRow.cellAt o1 qx (by omega), List.getElem?_map, List.getElem?_eq_getElem (by omega)]
                rfl
              have fq := o1.frozenAt qx
              have bq := bits_nonneg b1 qx
              have d2 := diffC_set ws p qx (1 - ws[qx]?.getD 0) i
              rw [if_pos hq] at d2
              have o2 := (World.ownsRow.stored o1 qx (.int .u8 (1 - ws[qx]?.getD 0))).1
              rw [← List.map_set] at o2
              have b2 := bits_set b1 qx (u := 1 - ws[qx]?.getD 0) (by omega)
              have e2 := e1.setCell (p := ⟨g6, qx, none⟩) ((o1.lt g6 rfl).1) (.int .u8 (1 - ws[qx]?.getD 0))
              have HF : Hid (∃ ws2 : List Int, (wr.setCell ⟨g6, qx, none⟩ (.int .u8 (1 - ws[qx]?.getD 0))).ownsRow V.heap.size 5 1 (.slice (some ⟨g6, 0, none⟩) i c6) i (ws2.map (Value.int .u8)) ∧ Bits ws2 ∧ diffC ws2 p i ≤ j + 1 ∧ Below V.heap.size V (wr.setCell ⟨g6, qx, none⟩ (.int .u8 (1 - ws[qx]?.getD 0)))) := Lib.hid ⟨_, o2, b2, by omega, e2⟩
              generalize ws[qx]?.getD 0 = uq at *
              have u0 : 0 ≤ uq := by omega
              have u1 : uq ≤ 1 := by omega
              have hu8 : IntKind.u8.wrap (1 - uq) = 1 - uq := IntWalk.u8_in _ (by omega)
              have hm8 : (1 - uq) % 256 = 1 - uq := by omega
              have hj0 : (0 : Int) ≤ (j : Int) := by omega
              have hj1 : (j : Int) < (l : Int) := by omega
              have q0 : (0 : Int) ≤ (qx : Int) := by omega
              have q1 : (qx : Int) < (i : Int) := by omega
              have v1 : (v : Int) < 65536 := by omega
              have v0 : (0 : Int) ≤ (v : Int) := by omega
              clear hH o1 b1 d1 e1 o2 b2 d2 e2 bq T7 T6 P6 hlw hlt hC0 hC1 hCk hK
              go_wp2_with fail
              go_roundw
              case rel => exact ⟨j + 1, by omega, by go_num, HF⟩
              case measure => simp [intOf]; omega
            · obtain rfl : j = l := by omega
              obtain ⟨ws, o1, b1, d1, e1⟩ := hH.out
              have hlw : ws.length = i := by have := o1.1; simpa using this
              have R8 := Lib.hid (Rd.of_own o1)
              have B8 := Lib.hid (B6.out.trans (e1.mono B6.out.size))
              have C := Lib.hid (hCk.out wr _ i c6 ws B8.out R8.out b1 (by omega) hc6.out)
              have P8 := Lib.hid ((P6.out.below e1).more e1.size)
              have hd5 : diffC ws p i ≤ 5 := by omega
              have bw := Lib.hid b1
              have hj0 : ¬ (j : Int) < (j : Int) := by omega
              clear hH o1 e1 P6 T6 hlt hCk B6 d1
              by_cases hwp : ws = p
              · subst hwp
                rw [hC0.out] at C
                clear hC0 hC1 hd5 hlw b1
                go_wp2_with fail
                refine C.out.mono ?_
                rintro e w9 ⟨rfl, hb9⟩
                have HS := Lib.hid (same_true (c := c6) (c' := c4) (R8.out.step hb9) (P8.out.step hb9) bw.out.byte)
                have HK := Lib.hid (hK.out w9 (B8.out.trans (hb9.mono B8.out.size)))
                clear C R8 P8 B8 hb9 hK
                go_wp2_with fail
                refine HS.out.mono ?_
                rintro e w10 ⟨rfl, he⟩
                obtain rfl := he.symm
                clear HS
                go_wp2_with (go_at_call 14; refine num_any.mono ?_; rintro e wn ⟨rfl, he⟩; obtain rfl := he.symm)
                refine HK.out.mono ?_
                rintro e w11 ⟨rfl, hb11⟩
                clear HK
                go_wp2_with fail
                go_ret
                exact ⟨rfl, hb11⟩
              · rw [hC1.out ws b1 hlw hd5 hwp] at C
                have HWP := Lib.hid hwp
                clear hC0 hC1 hd5 hlw b1 hwp
                go_wp2_with fail
                refine C.out.mono ?_
                rintro e w9 ⟨rfl, hb9⟩
                have HS := Lib.hid (same_any (c := c6) (c' := c4) (R8.out.step hb9) (P8.out.step hb9) bw.out.byte bp.out.byte)
                have HK := Lib.hid (hK.out w9 (B8.out.trans (hb9.mono B8.out.size)))
                rw [decide_eq_false HWP.out] at HS
                clear C R8 P8 B8 hb9 hK
                go_wp2_with fail
                refine HS.out.mono ?_
                rintro e w10 ⟨rfl, he⟩
                obtain rfl := he.symm
                clear HS
                go_wp2_with fail
                refine HK.out.mono ?_
                rintro e w11 ⟨rfl, hb11⟩
                clear HK
                go_wp2_with fail
                go_ret
                exact ⟨rfl, hb11⟩
        · have h6' : (6 : Int) ≤ (s : Int) := by omega
          have hs0 : ((s : Int) == 0) = false := by simp; omega
          rw [decide_eq_false hxy] at HS
          clear hxy
          go_wp2_with fail
          refine HS.out.mono ?_
          rintro e w7 ⟨rfl, he⟩
          obtain rfl := he.symm
          clear HS
          go_wp2_with (at_builtin; refine Lib.wpList_append_run _ rfl _ _ _ _ rfl _ _ rfl rfl _ _ R6.out ?_)
          have HI0 : Hid (∃ ws : List Int, w6.ownsRow V.heap.size 5 1 (.slice (some ⟨g6, 0, none⟩) i c6) i (ws.map (Value.int .u8)) ∧ Bits ws ∧ diffC ws p i ≤ 0 ∧ Below V.heap.size V w6) := Lib.hid ⟨p, O6.out, bp.out, by rw [diffC_self]; exact Nat.le_refl _, HB6.out⟩
          clear R6 O6 HB6
          go_loopw [18] (fun x U => ∃ j : Nat, j ≤ l ∧ x = .int .i64 (j : Int) ∧ Hid (∃ ws : List Int, U.ownsRow V.heap.size 5 1 (.slice (some ⟨g6, 0, none⟩) i c6) i (ws.map (Value.int .u8)) ∧ Bits ws ∧ diffC ws p i ≤ j ∧ Below V.heap.size V U)) (fun x _ => l - (intOf x).toNat)
          case atStart => exact ⟨0, Nat.zero_le _, rfl, HI0⟩
          case round =>
            clear HI0
            obtain ⟨j, hj, rfl, hH⟩ := hrel
            by_cases hlt : j < l
            · obtain ⟨ws, o1, b1, d1, e1⟩ := hH.out
              have T7 := T6.out.below e1
              obtain ⟨bt, ot, rfl, _, ct⟩ := T7.cells j hlt
              have hjt : j < ts.length := by rw [T7.len]; exact hlt
              have hxt := HBT.out _ (List.getElem_mem hjt)
              have hte : ts[j]?.getD 0 = ts[j] := by rw [List.getElem?_eq_getElem hjt]; rfl
              rw [← hte] at hxt
              clear hte hjt
              generalize ts[j]?.getD 0 = tv at *
              obtain ⟨v, rfl⟩ := Int.eq_ofNat_of_zero_le hxt.1
              have hq := Nat.mod_lt v hN0
              have hmod : (v : Int).tmod (i : Int) = ((v % i : Nat) : Int) := by rw [Int.tmod_eq_emod_of_nonneg (by omega)]; rfl
              generalize v % i = qx at *
              have hlw : ws.length = i := by have := o1.1; simpa using this
              have cq : wr.cell? ⟨g6, qx, none⟩ = some (.int .u8 (ws[qx]?.getD 0)) := by
                rw [World.ownsRow.cellAt o1 qx (by omega), List.getElem?_map, List.getElem?_eq_getElem (by omega)]
                rfl
              have fq := o1.frozenAt qx
              have bq := bits_nonneg b1 qx
              have d2 := diffC_set ws p qx (1 - ws[qx]?.getD 0) i
              rw [if_pos hq] at d2
              have o2 := (World.ownsRow.stored o1 qx (.int .u8 (1 - ws[qx]?.getD 0))).1
              rw [← List.map_set] at o2
              have b2 := bits_set b1 qx (u := 1 - ws[qx]?.getD 0) (by omega)
              have e2 := e1.setCell (p := ⟨g6, qx, none⟩) ((o1.lt g6 rfl).1) (.int .u8 (1 - ws[qx]?.getD 0))
              have HF : Hid (∃ ws2 : List Int, (wr.setCell ⟨g6, qx, none⟩ (.int .u8 (1 - ws[qx]?.getD 0))).ownsRow V.heap.size 5 1 (.slice (some ⟨g6, 0, none⟩) i c6) i (ws2.map (Value.int .u8)) ∧ Bits ws2 ∧ diffC ws2 p i ≤ j + 1 ∧ Below V.heap.size V (wr.setCell ⟨g6, qx, none⟩ (.int .u8 (1 - ws[qx]?.getD 0)))) := Lib.hid ⟨_, o2, b2, by omega, e2⟩
              generalize ws[qx]?.getD 0 = uq at *
              have u0 : 0 ≤ uq := by omega
              have u1 : uq ≤ 1 := by omega
              have hu8 : IntKind.u8.wrap (1 - uq) = 1 - uq := IntWalk.u8_in _ (by omega)
              have hm8 : (1 - uq) % 256 = 1 - uq := by omega
              have hj0 : (0 : Int) ≤ (j : Int) := by omega
              have hj1 : (j : Int) < (l : Int) := by omega
              have q0 : (0 : Int) ≤ (qx : Int) := by omega
              have q1 : (qx : Int) < (i : Int) := by omega
              have v1 : (v : Int) < 65536 := by omega
              have v0 : (0 : Int) ≤ (v : Int) := by omega
              clear hH o1 b1 d1 e1 o2 b2 d2 e2 bq T7 T6 P6 hlw hlt hC0 hC1 hCk hK
              go_wp2_with fail
              go_roundw
              case rel => exact ⟨j + 1, by omega, by go_num, HF⟩
              case measure => simp [intOf]; omega
            · obtain rfl : j = l := by omega
              obtain ⟨ws, o1, b1, d1, e1⟩ := hH.out
              have hlw : ws.length = i := by have := o1.1; simpa using this
              have R8 := Lib.hid (Rd.of_own o1)
              have B8 := Lib.hid (B6.out.trans (e1.mono B6.out.size))
              have C := Lib.hid (hCk.out wr _ i c6 ws B8.out R8.out b1 (by omega) hc6.out)
              have P8 := Lib.hid ((P6.out.below e1).more e1.size)
              have hd5 : diffC ws p i ≤ 5 := by omega
              have bw := Lib.hid b1
              have hj0 : ¬ (j : Int) < (j : Int) := by omega
              clear hH o1 e1 P6 T6 hlt hCk B6 d1
              by_cases hwp : ws = p
              · subst hwp
                rw [hC0.out] at C
                clear hC0 hC1 hd5 hlw b1
                go_wp2_with fail
                refine C.out.mono ?_
                rintro e w9 ⟨rfl, hb9⟩
                have HS := Lib.hid (same_true (c := c6) (c' := c4) (R8.out.step hb9) (P8.out.step hb9) bw.out.byte)
                have HK := Lib.hid (hK.out w9 (B8.out.trans (hb9.mono B8.out.size)))
                clear C R8 P8 B8 hb9 hK
                go_wp2_with fail
                refine HS.out.mono ?_
                rintro e w10 ⟨rfl, he⟩
                obtain rfl := he.symm
                clear HS
                go_wp2_with (go_at_call 14; refine num_any.mono ?_; rintro e wn ⟨rfl, he⟩; obtain rfl := he.symm)
                refine HK.out.mono ?_
                rintro e w11 ⟨rfl, hb11⟩
                clear HK
                go_wp2_with fail
                go_ret
                exact ⟨rfl, hb11⟩
              · rw [hC1.out ws b1 hlw hd5 hwp] at C
                have HWP := Lib.hid hwp
                clear hC0 hC1 hd5 hlw b1 hwp
                go_wp2_with fail
                refine C.out.mono ?_
                rintro e w9 ⟨rfl, hb9⟩
                have HS := Lib.hid (same_any (c := c6) (c' := c4) (R8.out.step hb9) (P8.out.step hb9) bw.out.byte bp.out.byte)
                have HK := Lib.hid (hK.out w9 (B8.out.trans (hb9.mono B8.out.size)))
                rw [decide_eq_false HWP.out] at HS
                clear C R8 P8 B8 hb9 hK
                go_wp2_with fail
                refine HS.out.mono ?_
                rintro e w10 ⟨rfl, he⟩
                obtain rfl := he.symm
                clear HS
                go_wp2_with fail
                refine HK.out.mono ?_
                rintro e w11 ⟨rfl, hb11⟩
                clear HK
                go_wp2_with fail
                go_ret
                exact ⟨rfl, hb11⟩
  · have HK := Lib.hid (hK.out w (Below.refl _ _))
    have hn1 : ¬ (600 : Int) < (n : Int) := by omega
    have hm1 : ¬ (600 : Int) < (m : Int) := by omega
    have hl1 : (5 : Int) < (l : Int) := by omega
    clear hX hbx hY hby hK hKi hT hbt
    go_enter Tryd.func8, Tryd.ntmps8
    go_wp2_with fail
    refine HK.out.mono ?_
    rintro e w1 ⟨rfl, hb1⟩
    clear HK
    go_wp2_with fail
    go_ret
    exact ⟨rfl, hb1⟩
  · have HK := Lib.hid (hK.out w (Below.refl _ _))
    have hn1 : ¬ (600 : Int) < (n : Int) := by omega
    have hm1 : (600 : Int) < (m : Int) := by omega
    clear hX hbx hY hby hK hKi hT hbt
    go_enter Tryd.func8, Tryd.ntmps8
    go_wp2_with fail
    refine HK.out.mono ?_
    rintro e w1 ⟨rfl, hb1⟩
    clear HK
    go_wp2_with fail
    go_ret
    exact ⟨rfl, hb1⟩
  · have HK := Lib.hid (hK.out w (Below.refl _ _))
    have hn1 : (600 : Int) < (n : Int) := by omega
    clear hX hbx hY hby hK hKi hT hbt
    go_enter Tryd.func8, Tryd.ntmps8
    go_wp2_with fail
    refine HK.out.mono ?_
    rintro e w1 ⟨rfl, hb1⟩
    clear HK
    go_wp2_with fail
    go_ret
    exact ⟨rfl, hb1⟩
end Go.Proofs.YtbpkoilecdejiaaDoor
