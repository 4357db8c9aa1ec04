/-
  The walk of TrellisEnds.
-/
import Derived.Test.YtjehfdnkdfmmbaaL5
namespace Go.Proofs.Ytjehfdnkdfmmbaa
open Go.RowKit

theorem ts_end {s : Nat} (hs : s < 8) : tsN s 3 = 0 := tail_end s hs
theorem ends_prev {s : Nat} (hs : s < 8) : ∃ x0 x1 x2 x4 x5 x6 : Int, prevA s = #[.int .i64 x0, .int .i64 x1, .int .i64 x2, .int .i64 (s : Int), .int .i64 x4, .int .i64 x5, .int .i64 x6, .int .i64 (s : Int)] ∧ decide (x4 ≤ x0) = false := by
  obtain ⟨_, h2, h3, h4⟩ := prev_fact s hs
  have e3 := brI_next (pI s)
  have e7 := brI_next (pJ s)
  rw [h3] at e3
  rw [h4] at e7
  have b0 : ∀ i, brI i 0 = ((i / 2 : Nat) : Int) := fun i => by
    unfold brI brN
    rw [if_pos (by omega), show (4 * i + 0) / 4 / 2 = i / 2 by omega]
  refine ⟨brI (pI s) 0, brI (pI s) 1, brI (pI s) 2, brI (pJ s) 0, brI (pJ s) 1, brI (pJ s) 2, ?_, ?_⟩
  · have h : prevA s = #[.int .i64 (brI (pI s) 0), .int .i64 (brI (pI s) 1), .int .i64 (brI (pI s) 2), .int .i64 (brI (pI s) 3), .int .i64 (brI (pJ s) 0), .int .i64 (brI (pJ s) 1), .int .i64 (brI (pJ s) 2), .int .i64 (brI (pJ s) 3)] := rfl
    rw [e3, e7] at h
    exact h
  · rw [b0, b0]; simp; omega
set_option maxRecDepth 100000 in
set_option maxHeartbeats 8000000 in
theorem ends_walk {A : Option Addr} {n c : Nat} {xs : List Int} {w : World} (hX : Rd .u8 w w.heap.size A n xs) (hbx : Byte xs) :
    Calls Try.prog 8 #[.slice A n c] w fun e w' => e = .returned (.bool true) ∧ Below w.heap.size w w' := by
  have hK := Lib.hid (fun (v : World) (h : Below w.heap.size w v) => works_to h)
  by_cases hk5 : n ≤ 300
  · have hk1 : ¬ (300 : Int) < (n : Int) := by omega
    have hL := Lib.hid (low_any (c := c) (n := n) hX hbx (Nat.le_refl _) (by omega))
    have bx := lowL_bits xs n
    have lx := lowL_length xs n
    generalize lowL xs n = x at *
    have hE := Lib.hid (fun (v : World) (A : Option Addr) (c : Nat) (h : Rd .u8 v v.heap.size A n x) => Encode_any (c := c) h bx.byte (by omega))
    have hs := stK_lt bx.byte x.length
    rw [show encN x = stK x x.length by unfold encN; rw [if_pos bx.valid], show encE x = 0 by unfold encE; rw [if_pos bx.valid]] at hE
    generalize stK x x.length = s at *
    generalize encR x = er at *
    have hT := Lib.hid (fun (v : World) => Tail_ok (w := v) hs)
    rw [tailU_eq, tailZ_eq, b3_eq, b3_eq] at hT
    have hP := Lib.hid (fun (v : World) => Previous_ok (w := v) hs)
    obtain ⟨x0, x1, x2, x4, x5, x6, hpa, hle⟩ := ends_prev hs
    rw [hpa] at hP
    have hS0 : Hid (∀ v, Calls Try.prog 10 #[.int .i64 (s : Int), .int .i64 0] v fun e w' => e = .returned (.tuple #[.int .i64 (nextS s 0 : Nat), .int .i64 (parS7 s 0 : Nat), .int .i64 0]) ∧ Below v.heap.size v w') := Lib.hid (fun v => Step_ok (w := v) (u := 0) hs (by decide))
    have hS1 : Hid (∀ v, Calls Try.prog 10 #[.int .i64 (s : Int), .int .i64 1] v fun e w' => e = .returned (.tuple #[.int .i64 (nextS s 1 : Nat), .int .i64 (parS7 s 1 : Nat), .int .i64 0]) ∧ Below v.heap.size v w') := Lib.hid (fun v => Step_ok (w := v) (u := 1) hs (by decide))
    have hne : (((nextS s 0 : Nat) : Int) == ((nextS s 1 : Nat) : Int)) = false := by
      have := next_ne s hs
      simp; omega
    have hST := Lib.hid (fun (v : World) (k : Nat) => Step_ok (w := v) (tsN_lt hs k) (tailIn_lt (tsN s k)))
    have hEnd := Lib.hid (ts_end hs)
    have h0 : Hid (tsN s 0 = s) := Lib.hid rfl
    have hTI := Lib.hid (fun k => (tailIn_lt (tsN s k)))
    have hPL := Lib.hid (fun k => (step_lt _ (tsN_lt hs k) _ (tailIn_lt (tsN s k))).2)
    generalize nextS s 0 = o1 at *
    generalize nextS s 1 = o2 at *
    generalize parS7 s 0 = o3 at *
    generalize parS7 s 1 = o4 at *
    clear hX hbx bx lx hpa
    go_enter Try.func8, Try.ntmps8
    go_wp2_with fail
    refine hL.out.mono ?_
    rintro e w1 ⟨g1, rfl, hO1, hb1⟩
    have X1 := Rd.of_own hO1
    clear hO1 hL
    go_wp2_with fail
    refine (hE.out w1 _ _ X1).mono ?_
    rintro e w2 ⟨A2, c2, rfl, hO2, hb2⟩
    have B2 := hb1.trans (hb2.mono hb1.size)
    clear hO2 hb1 hb2 X1 hE
    go_wp2_with fail
    refine (hT.out w2).mono ?_
    rintro e w3 ⟨rfl, hb3⟩
    have t1 := (Three.new w3 25 (.int .u8 ((tuN s 0 : Nat) : Int)) (.int .u8 ((tuN s 1 : Nat) : Int)) (.int .u8 ((tuN s 2 : Nat) : Int))).alloc (.cells #[.int .u8 ((tzN s 0 : Nat) : Int), .int .u8 ((tzN s 1 : Nat) : Int), .int .u8 ((tzN s 2 : Nat) : Int)] 25)
    have t2 := Three.new (w3.alloc (.cells #[.int .u8 ((tuN s 0 : Nat) : Int), .int .u8 ((tuN s 1 : Nat) : Int), .int .u8 ((tuN s 2 : Nat) : Int)] 25)) 25 (.int .u8 ((tzN s 0 : Nat) : Int)) (.int .u8 ((tzN s 1 : Nat) : Int)) (.int .u8 ((tzN s 2 : Nat) : Int))
    rw [World.size_alloc] at t2
    have B3 := B2.trans (hb3.mono B2.size)
    have B4 := B3.trans ((below_two (w := w3) (.cells #[.int .u8 ((tuN s 0 : Nat) : Int), .int .u8 ((tuN s 1 : Nat) : Int), .int .u8 ((tuN s 2 : Nat) : Int)] 25) (.cells #[.int .u8 ((tzN s 0 : Nat) : Int), .int .u8 ((tzN s 1 : Nat) : Int), .int .u8 ((tzN s 2 : Nat) : Int)] 25)).mono B3.size)
    clear hb3 B2 B3 hT
    go_wp2_with (go_at_call 15; refine num_any.mono ?_; rintro e wn ⟨rfl, he⟩; obtain rfl := he.symm)
    generalize (w3.alloc (.cells #[.int .u8 ((tuN s 0 : Nat) : Int), .int .u8 ((tuN s 1 : Nat) : Int), .int .u8 ((tuN s 2 : Nat) : Int)] 25)).alloc (.cells #[.int .u8 ((tzN s 0 : Nat) : Int), .int .u8 ((tzN s 1 : Nat) : Int), .int .u8 ((tzN s 2 : Nat) : Int)] 25) = w4 at *
    refine (hS0.out w4).mono ?_
    rintro e w5 ⟨rfl, hb5⟩
    have t1 := t1.block (hb5.block _ t1.lt)
    have t2 := t2.block (hb5.block _ t2.lt)
    have B5 := B4.trans (hb5.mono B4.size)
    clear hb5 B4 hS0
    go_wp2_with fail
    refine (hS1.out w5).mono ?_
    rintro e w6 ⟨rfl, hb6⟩
    have t1 := t1.block (hb6.block _ t1.lt)
    have t2 := t2.block (hb6.block _ t2.lt)
    have B6 := B5.trans (hb6.mono B5.size)
    clear hb6 B5 hS1
    go_wp2_with fail
    refine (hP.out w6).mono ?_
    rintro e w7 ⟨rfl, hb7⟩
    have t1 := (t1.block (hb7.block _ t1.lt)).alloc (.cells #[.int .i64 x0, .int .i64 x1, .int .i64 x2, .int .i64 (s : Int), .int .i64 x4, .int .i64 x5, .int .i64 x6, .int .i64 (s : Int)] 51)
    have t2 := (t2.block (hb7.block _ t2.lt)).alloc (.cells #[.int .i64 x0, .int .i64 x1, .int .i64 x2, .int .i64 (s : Int), .int .i64 x4, .int .i64 x5, .int .i64 x6, .int .i64 (s : Int)] 51)
    have B7 := B6.trans (hb7.mono B6.size)
    have B8 := B7.alloc B7.size (.cells #[.int .i64 x0, .int .i64 x1, .int .i64 x2, .int .i64 (s : Int), .int .i64 x4, .int .i64 x5, .int .i64 x6, .int .i64 (s : Int)] 51)
    have hz := World.alloc_heap_new w7 (.cells #[.int .i64 x0, .int .i64 x1, .int .i64 x2, .int .i64 (s : Int), .int .i64 x4, .int .i64 x5, .int .i64 x6, .int .i64 (s : Int)] 51)
    have hc : ∀ j v, (#[Value.int .i64 x0, .int .i64 x1, .int .i64 x2, .int .i64 (s : Int), .int .i64 x4, .int .i64 x5, .int .i64 x6, .int .i64 (s : Int)] : Array Value)[j]? = some v → (w7.alloc (.cells #[.int .i64 x0, .int .i64 x1, .int .i64 x2, .int .i64 (s : Int), .int .i64 x4, .int .i64 x5, .int .i64 x6, .int .i64 (s : Int)] 51)).cell? ⟨w7.heap.size, j, none⟩ = some v := fun j v hv => by
      rw [cell_of_row _ _ j _ _ _ hz]; exact hv
    have k0 := hc 0 (.int .i64 x0) rfl
    have k3 := hc 3 (.int .i64 (s : Int)) rfl
    have k4 := hc 4 (.int .i64 x4) rfl
    have k7 := hc 7 (.int .i64 (s : Int)) rfl
    clear hb7 B6 B7 hP hz hc
    go_wp2_with (go_at_call 15; refine num_any.mono ?_; rintro e wn ⟨rfl, he⟩; obtain rfl := he.symm)
    have H8 := Lib.hid (And.intro t1 (And.intro t2 B8))
    clear t1 t2 B8 k0 k3 k4 k7
    generalize w7.alloc (.cells #[.int .i64 x0, .int .i64 x1, .int .i64 x2, .int .i64 (s : Int), .int .i64 x4, .int .i64 x5, .int .i64 x6, .int .i64 (s : Int)] 51) = w8 at *
    go_loopw [4, 17] (fun v i W => ∃ k : Nat, k ≤ 3 ∧ v = .int .i64 (tsN s k : Nat) ∧ i = .int .i64 (k : Int) ∧ Hid (Three W w3.heap.size 25 (.int .u8 ((tuN s 0 : Nat) : Int)) (.int .u8 ((tuN s 1 : Nat) : Int)) (.int .u8 ((tuN s 2 : Nat) : Int)) ∧ Three W (w3.heap.size + 1) 25 (.int .u8 ((tzN s 0 : Nat) : Int)) (.int .u8 ((tzN s 1 : Nat) : Int)) (.int .u8 ((tzN s 2 : Nat) : Int)) ∧ Below w.heap.size w W)) (fun _ i _ => 3 - (intOf i).toNat)
    case atStart => exact ⟨0, by decide, by rw [h0.out], rfl, H8⟩
    case round =>
      clear H8
      obtain ⟨k, hk, rfl, rfl, hH⟩ := hrel
      by_cases hlt : k < 3
      · have cU : wr.cell? ⟨w3.heap.size, k, none⟩ = some (.int .u8 ((tailIn (tsN s k) : Nat) : Int)) := by
          obtain rfl | rfl | rfl : k = 0 ∨ k = 1 ∨ k = 2 := by omega
          · exact hH.out.1.cell0
          · exact hH.out.1.cell1
          · exact hH.out.1.cell2
        have cZ : ∀ v : World, Below wr.heap.size wr v → v.cell? ⟨w3.heap.size + 1, k, none⟩ = some (.int .u8 ((parS7 (tsN s k) (tailIn (tsN s k)) : Nat) : Int)) := fun v hv => by
          have := hH.out.2.1.block (hv.block _ hH.out.2.1.lt)
          obtain rfl | rfl | rfl : k = 0 ∨ k = 1 ∨ k = 2 := by omega
          · exact this.cell0
          · exact this.cell1
          · exact this.cell2
        have CZ := Lib.hid cZ
        have hS := Lib.hid (hST.out wr k)
        have hu := hTI.out k
        have hp := hPL.out k
        have hN : Hid (nextS (tsN s k) (tailIn (tsN s k)) = tsN s (k + 1)) := Lib.hid rfl
        rw [hN.out] at hS
        generalize hq : tsN s (k + 1) = q at *
        have HQ := Lib.hid hq
        generalize parS7 (tsN s k) (tailIn (tsN s k)) = p at *
        generalize tailIn (tsN s k) = u at *
        generalize tsN s k = o at *
        have hk3 : (k : Int) < 3 := by omega
        clear hq cZ hN hST hTI hPL
        go_wp2_with fail
        refine hS.out.mono ?_
        rintro e w9 ⟨rfl, hb9⟩
        have H9 := Lib.hid (And.intro (hH.out.1.block (hb9.block _ hH.out.1.lt)) (And.intro (hH.out.2.1.block (hb9.block _ hH.out.2.1.lt)) (hH.out.2.2.trans (hb9.mono hH.out.2.2.size))))
        have cz := CZ.out w9 hb9
        clear cU hS hH hb9 CZ
        go_wp2_with (go_at_call 15; refine num_any.mono ?_; rintro e wn ⟨rfl, he⟩; obtain rfl := he.symm)
        go_roundw
        case rel => exact ⟨k + 1, by omega, by rw [HQ.out], by go_num, H9⟩
        case measure => simp [intOf]; omega
      · obtain rfl : k = 3 := by omega
        have HK := Lib.hid (hK.out wr hH.out.2.2)
        rw [hEnd.out]
        clear hH hK hST hTI hPL
        go_wp2_with fail
        refine HK.out.mono ?_
        rintro e w8 ⟨rfl, hb8⟩
        clear HK
        go_wp2_with fail
        go_ret
        exact ⟨rfl, hb8⟩
  · have hk1 : (300 : Int) < (n : Int) := by omega
    have HK := Lib.hid (hK.out w (Below.refl _ _))
    clear hX hbx hK hk5
    go_enter Try.func8, Try.ntmps8
    go_wp2_with fail
    refine HK.out.mono ?_
    rintro e w1 ⟨rfl, hb1⟩
    clear HK
    go_wp2_with fail
    go_ret
    exact ⟨rfl, hb1⟩
end Go.Proofs.Ytjehfdnkdfmmbaa
