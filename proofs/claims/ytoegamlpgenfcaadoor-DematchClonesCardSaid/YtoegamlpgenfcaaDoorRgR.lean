/-
  The reference: Rows, Column, Order. The reference: Order.
-/
import Derived.Test.YtoegamlpgenfcaaDoorGn
import Derived.Test.YtoegamlpgenfcaaDoorGm
import Derived.Test.YtoegamlpgenfcaaDoorSm
import Derived.Test.YtoegamlpgenfcaaDoorOd
import Derived.Test.YtoegamlpgenfcaaDoorDmM
namespace Go.Proofs.YtoegamlpgenfcaaDoor
/-! ### The reference: Rows, Column, Order. -/
section
open Go.RowKit Go.Shelf

set_option maxHeartbeats 1000000 in
theorem refRows_any {d : Int} {w : World} : Calls Tryd.prog 84 #[.int .i64 d] w fun e w' => e = .returned (.int .i64 (rowsI d)) ∧ w' = w := by
  unfold rowsI
  by_cases h : okD d = true
  · rw [if_pos h]
    obtain ⟨k, rfl, h1, h2⟩ := okD_nat h
    have hr := rows_le h1 h2
    rw [Int.toNat_natCast]
    generalize rowsN k = R at *
    obtain ⟨r1, r2, r3, r4⟩ := hr
    clear h
    go_enter Tryd.func84, Tryd.ntmps84
    go_wp2_with fail
    go_loop [3] (fun i => ∃ j : Nat, j ≤ R ∧ i = .int .i64 (j : Int)) (fun i => R - (intOf i).toNat)
    case atStart => exact ⟨0, Nat.zero_le _, rfl⟩
    case round =>
      obtain ⟨j, hj, rfl⟩ := hrel
      by_cases hlt : j < R
      · have hd : 32 * (j : Int) < (k : Int) := by omega
        go_wp2_with fail
        go_round
        case rel => exact ⟨j + 1, by omega, by go_num⟩
        case measure => simp [intOf]; omega
      · obtain rfl : j = R := by omega
        have hd : ¬ (32 * (j : Int) < (k : Int)) := by omega
        go_wp2_with fail
        go_ret
        exact ⟨rfl, rfl⟩
  · rw [if_neg h]
    have h' : ¬ (1 ≤ d) ∨ ¬ (d ≤ 6148) := by
      by_cases h1 : 1 ≤ d
      · right; intro h2; exact h (by simp [okD, h1, h2])
      · exact .inl h1
    clear h
    by_cases h1 : d < 1
    · go_enter Tryd.func84, Tryd.ntmps84
      go_wp2_with fail
      go_ret
      exact ⟨rfl, rfl⟩
    · have h2 : 6148 < d := by omega
      clear h'
      go_enter Tryd.func84, Tryd.ntmps84
      go_wp2_with fail
      go_ret
      exact ⟨rfl, rfl⟩
theorem col_lit {w : World} {j : Nat} (hj : j < 32) : (w.alloc (.cells #[.int .i64 0, .int .i64 16, .int .i64 8, .int .i64 24, .int .i64 4, .int .i64 20, .int .i64 12, .int .i64 28, .int .i64 2, .int .i64 18, .int .i64 10, .int .i64 26, .int .i64 6, .int .i64 22, .int .i64 14, .int .i64 30, .int .i64 1, .int .i64 17, .int .i64 9, .int .i64 25, .int .i64 5, .int .i64 21, .int .i64 13, .int .i64 29, .int .i64 3, .int .i64 19, .int .i64 11, .int .i64 27, .int .i64 7, .int .i64 23, .int .i64 15, .int .i64 31] 3)).cell? ⟨w.heap.size, j, none⟩ = some (.int .i64 (colN j : Nat)) := by
  have h1 : (w.alloc (.cells #[.int .i64 0, .int .i64 16, .int .i64 8, .int .i64 24, .int .i64 4, .int .i64 20, .int .i64 12, .int .i64 28, .int .i64 2, .int .i64 18, .int .i64 10, .int .i64 26, .int .i64 6, .int .i64 22, .int .i64 14, .int .i64 30, .int .i64 1, .int .i64 17, .int .i64 9, .int .i64 25, .int .i64 5, .int .i64 21, .int .i64 13, .int .i64 29, .int .i64 3, .int .i64 19, .int .i64 11, .int .i64 27, .int .i64 7, .int .i64 23, .int .i64 15, .int .i64 31] 3)).heap[w.heap.size]? = some (.cells #[.int .i64 0, .int .i64 16, .int .i64 8, .int .i64 24, .int .i64 4, .int .i64 20, .int .i64 12, .int .i64 28, .int .i64 2, .int .i64 18, .int .i64 10, .int .i64 26, .int .i64 6, .int .i64 22, .int .i64 14, .int .i64 30, .int .i64 1, .int .i64 17, .int .i64 9, .int .i64 25, .int .i64 5, .int .i64 21, .int .i64 13, .int .i64 29, .int .i64 3, .int .i64 19, .int .i64 11, .int .i64 27, .int .i64 7, .int .i64 23, .int .i64 15, .int .i64 31] 3) := World.alloc_heap_new w _
  simp only [World.cell?, h1]
  have e : (#[.int .i64 0, .int .i64 16, .int .i64 8, .int .i64 24, .int .i64 4, .int .i64 20, .int .i64 12, .int .i64 28, .int .i64 2, .int .i64 18, .int .i64 10, .int .i64 26, .int .i64 6, .int .i64 22, .int .i64 14, .int .i64 30, .int .i64 1, .int .i64 17, .int .i64 9, .int .i64 25, .int .i64 5, .int .i64 21, .int .i64 13, .int .i64 29, .int .i64 3, .int .i64 19, .int .i64 11, .int .i64 27, .int .i64 7, .int .i64 23, .int .i64 15, .int .i64 31] : Array Value) = (colL.map fun c : Nat => Value.int .i64 (c : Int)).toArray := rfl
  have e2 : colL[j]? = some (colN j) := by
    unfold colN
    rw [List.getElem?_eq_getElem (show j < colL.length from hj)]
    rfl
  rw [e, List.getElem?_toArray, List.getElem?_map, e2]
  rfl
theorem refColumn_any {k : Int} {w : World} : Calls Tryd.prog 90 #[.int .i64 k] w fun e w' => e = .returned (.int .i64 (colI k)) ∧ w.grownBy w' none := by
  unfold colI
  have hG := World.grownBy_alloc w (.cells #[.int .i64 0, .int .i64 16, .int .i64 8, .int .i64 24, .int .i64 4, .int .i64 20, .int .i64 12, .int .i64 28, .int .i64 2, .int .i64 18, .int .i64 10, .int .i64 26, .int .i64 6, .int .i64 22, .int .i64 14, .int .i64 30, .int .i64 1, .int .i64 17, .int .i64 9, .int .i64 25, .int .i64 5, .int .i64 21, .int .i64 13, .int .i64 29, .int .i64 3, .int .i64 19, .int .i64 11, .int .i64 27, .int .i64 7, .int .i64 23, .int .i64 15, .int .i64 31] 3) none
  have hG0 : w.grownBy w none := ⟨rfl, rfl, rfl, Nat.le_refl _, fun _ _ _ => rfl⟩
  by_cases h0 : k < 0
  · rw [if_neg (by simp; omega)]
    clear hG
    go_enter Tryd.func90, Tryd.ntmps90
    go_wp2_with fail
    go_ret
    exact ⟨rfl, hG0⟩
  · by_cases h1 : 32 ≤ k
    · rw [if_neg (by simp; omega)]
      have h2 : 31 < k := by omega
      clear hG
      go_enter Tryd.func90, Tryd.ntmps90
      go_wp2_with fail
      go_ret
      exact ⟨rfl, hG0⟩
    · rw [if_pos (by simp; omega)]
      obtain ⟨j, rfl⟩ : ∃ j : Nat, k = (j : Int) := ⟨k.toNat, by omega⟩
      have hj : j < 32 := by omega
      have hc := col_lit (w := w) hj
      have h2 : ¬ (31 < (j : Int)) := by omega
      rw [Int.toNat_natCast]
      generalize colN j = c at *
      clear h0 h1
      go_enter Tryd.func90, Tryd.ntmps90
      go_wp2_with fail
      go_ret
      exact ⟨rfl, hG⟩
end

/-! ### The reference: Order. -/
section
open Go.RowKit Go.Shelf

/-- The first k elements of the order. -/
def ordL (N R : Nat) (s : Bool) (k : Nat) : List Int := (List.range k).map fun k => ordE N (idxN R s k)
theorem ordL_succ (N R : Nat) (s : Bool) (k : Nat) : ordL N R s k ++ [ordE N (idxN R s k)] = ordL N R s (k + 1) := by simp [ordL, List.range_succ]
theorem rep_succ (t : Nat) (x : Int) : List.replicate t x ++ [x] = List.replicate (t + 1) x := by rw [List.replicate_succ']
set_option maxRecDepth 100000 in
set_option maxHeartbeats 8000000 in
theorem refOrder_ok {d : Nat} {st : Int} {w : World} (h1 : 1 ≤ d) (h2 : d ≤ 6148) (hs : okS st = true) :
    Calls Tryd.prog 82 #[.int .i64 (d : Int), .int .i64 st] w (RetQ .i64 3 w (orderI d (shB st), 0)) := by
  have hr := rows_le h1 h2
  have hR : rowsI (d : Int) = ((rowsN d : Nat) : Int) := by
    unfold rowsI
    rw [if_pos (by simp [okD]; omega), Int.toNat_natCast]
  have hRows := Lib.hid (fun (u : World) => refRows_any (d := (d : Int)) (w := u))
  rw [hR] at hRows
  have hpost : Hid (ordL (32 * rowsN d - d) (rowsN d) (shB st) (32 * rowsN d) = orderI d (shB st)) := Lib.hid rfl
  generalize orderI d (shB st) = res at *
  have hsb : Hid (shB st = decide (st = 2)) := Lib.hid rfl
  generalize shB st = s at *
  generalize rowsN d = R at *
  obtain ⟨N, hN⟩ : ∃ N, 32 * R - d = N := ⟨_, rfl⟩
  rw [hN] at hpost
  have hne : ((R : Int) == 0) = false := by simp; omega
  have hmul : (32 * (R : Int) - (d : Int) = (N : Int)) := by omega
  have hNR := Lib.hid (show N + d = 32 * R by omega)
  have s0 : ¬ (st < 0) := by simp [okS] at hs; omega
  have s1 : ¬ (2 < st) := by simp [okS] at hs; omega
  have hr1 : (0 : Int) ≤ (R : Int) := by omega
  have hr2 : (R : Int) ≤ 193 := by omega
  have hR1 : Hid (1 ≤ R) := Lib.hid (by omega)
  have hR2 : Hid (R ≤ 193) := Lib.hid (by omega)
  have hd2 : (d : Int) ≤ 6148 := by omega
  have hd1 : (1 : Int) ≤ (d : Int) := by omega
  have HD := Lib.hid (show d ≤ 6148 from h2)
  have HN := Lib.hid (show N ≤ 32 by omega)
  clear hr hR hs h1 h2 hN
  go_enter Tryd.func82, Tryd.ntmps82
  go_wp2_with (go_at_call 84; refine (hRows.out _).mono ?_; rintro e w ⟨rfl, rfl⟩)
  go_loopw [7, 8] (fun o i wr => ∃ (t : Nat) (A : Option Addr) (c : Nat), t ≤ N ∧ i = .int .i64 (t : Int) ∧ o = .slice A t c ∧ Hid (wr.ownsRow w.heap.size 3 1 (.slice A t c) t ((List.replicate t (-1 : Int)).map (Value.int .i64))) ∧ Hid (Below w.heap.size w wr)) (fun _ i _ => N - (intOf i).toNat)
  case atStart => exact ⟨0, none, 0, Nat.zero_le _, rfl, rfl, Lib.hid (by simpa using World.ownsRow_nil w w.heap.size 3 1), Lib.hid (Below.refl _ _)⟩
  case round =>
    obtain ⟨t, A, c, ht, rfl, rfl, hO, hb⟩ := hrel
    by_cases hlt : t < N
    · have hz : (t : Int) < (N : Int) := by omega
      obtain ⟨A2, c2, w2, hrun, hO2, hb2⟩ := ints_app hO.out hb.out (by have := HN.out; omega) (-1)
      rw [rep_succ] at hO2
      have HR := Lib.hid hrun
      have HO2 := Lib.hid hO2
      have HB2 := Lib.hid hb2
      clear hrun hO2 hb2 hO hb
      go_wp2_with (at_builtin; refine Lib.wpList_append_run _ rfl _ _ _ _ rfl _ _ rfl rfl _ _ HR.out ?_)
      go_roundw
      case rel => exact ⟨t + 1, A2, c2, by omega, by go_num, rfl, HO2, HB2⟩
      case measure => simp [intOf]; omega
    · obtain rfl : N = t := by omega
      clear hlt
      go_wp2_with fail
      go_loopw [7, 9] (fun o i wr => ∃ (t : Nat) (A : Option Addr) (c : Nat), t ≤ d ∧ i = .int .i64 (t : Int) ∧ o = .slice A (N + t) c ∧ Hid (wr.ownsRow w.heap.size 3 1 (.slice A (N + t) c) (N + t) ((mtxL N t).map (Value.int .i64))) ∧ Hid (Below w.heap.size w wr)) (fun _ i _ => d - (intOf i).toNat)
      case atStart => exact ⟨0, A, c, Nat.zero_le _, rfl, rfl, Lib.hid (by rw [mtxL_zero]; exact hO.out), hb⟩
      case round =>
        clear hO hb
        obtain ⟨t, A, c, ht, rfl, rfl, hO, hb⟩ := hrel
        by_cases hlt : t < d
        · have hz : (t : Int) < (d : Int) := by omega
          obtain ⟨A2, c2, w2, hrun, hO2, hb2⟩ := ints_app hO.out hb.out (by have := HN.out; have := HD.out; omega) (t : Int)
          rw [mtxL_succ] at hO2
          have HR := Lib.hid hrun
          have HO2 := Lib.hid hO2
          have HB2 := Lib.hid hb2
          clear hrun hO2 hb2 hO hb
          go_wp2_with (at_builtin; refine Lib.wpList_append_run _ rfl _ _ _ _ rfl _ _ rfl rfl _ _ HR.out ?_)
          go_roundw
          case rel => exact ⟨t + 1, A2, c2, by omega, by go_num, rfl, HO2, HB2⟩
          case measure => simp [intOf]; omega
        · obtain rfl : d = t := by omega
          clear hlt
          have hM := Lib.hid (Rd.of_own hO.out)
          rw [hNR.out] at hM
          have HBW := hb
          obtain ⟨S, hS⟩ : ∃ S, 32 * R = S := ⟨_, rfl⟩
          have HS := Lib.hid hS
          rw [hS] at hpost hM
          have hNS : N + d = S := by rw [hNR.out, hS]
          rw [hNS]
          clear hO hb hNS hS
          obtain ⟨Wm, rfl⟩ : ∃ Wm, Wm = wr := ⟨_, rfl⟩
          go_wp2_with fail
          go_loopw [10, 11] (fun o i wr => ∃ (t k : Nat) (A' : Option Addr) (c' : Nat), t ≤ 32 ∧ Hid (k = t * R) ∧ i = .int .i64 (t : Int) ∧ o = .slice A' k c' ∧ Hid (wr.ownsRow Wm.heap.size 3 1 (.slice A' k c') k ((ordL N R s k).map (Value.int .i64))) ∧ Hid (Below Wm.heap.size Wm wr)) (fun _ i _ => 32 - (intOf i).toNat)
          case atStart => exact ⟨0, 0, none, 0, Nat.zero_le _, Lib.hid (by simp), rfl, rfl, Lib.hid (by simpa [ordL] using World.ownsRow_nil Wm Wm.heap.size 3 1), Lib.hid (Below.refl _ _)⟩
          case round =>
            obtain ⟨t, k, A', c', ht, hk, rfl, rfl, hO, hb⟩ := hrel
            by_cases hlt : t < 32
            · have hz : (t : Int) < 32 := by omega
              have hC : Hid (∀ u : World, Calls Tryd.prog 90 #[.int .i64 (t : Int)] u fun e w' => e = .returned (.int .i64 ((colN t : Nat) : Int)) ∧ u.grownBy w' none) := Lib.hid (fun u => by
                have := refColumn_any (k := (t : Int)) (w := u)
                rwa [show colI (t : Int) = ((colN t : Nat) : Int) by unfold colI; rw [if_pos (by simp; omega), Int.toNat_natCast]] at this)
              have hcl := col_lt t
              go_wp2_with fail
              go_loopw [10, 12] (fun o i wr => ∃ (r k : Nat) (A' : Option Addr) (c' : Nat), r ≤ R ∧ Hid (k = t * R + r) ∧ i = .int .i64 (r : Int) ∧ o = .slice A' k c' ∧ Hid (wr.ownsRow Wm.heap.size 3 1 (.slice A' k c') k ((ordL N R s k).map (Value.int .i64))) ∧ Hid (Below Wm.heap.size Wm wr)) (fun _ i _ => R - (intOf i).toNat)
              case atStart => exact ⟨0, k, A', c', Nat.zero_le _, Lib.hid (by rw [hk.out]; simp), rfl, rfl, hO, hb⟩
              case round =>
                clear hk hO hb
                obtain ⟨r, k, A', c', hr, hk, rfl, rfl, hO, hb⟩ := hrel
                by_cases hrt : r < R
                · have hz2 : (r : Int) < (R : Int) := by omega
                  have hkR : k < 32 * R := by
                    have : (t + 1) * R ≤ 32 * R := Nat.mul_le_mul_right R (by omega)
                    rw [Nat.succ_mul] at this
                    have := hk.out
                    omega
                  have hkd : k / R = t ∧ k % R = r := by
                    have h0 : 0 < R := by omega
                    rw [hk.out, Nat.mul_comm t R, Nat.mul_add_div h0, Nat.div_eq_of_lt hrt, Nat.mul_add_mod, Nat.mod_eq_of_lt hrt]
                    omega
                  have hmN : mN R k = colN t + 32 * r := by unfold mN; rw [hkd.1, hkd.2]
                  have hix : idxN R s k = shN R s (colN t + 32 * r) := by unfold idxN; rw [hmN]
                  have hixl : idxN R s k < S := by rw [← HS.out]; exact idx_lt (by omega)
                  have hval := mtxL_at (N := N) (t := d) (m := idxN R s k) (by rw [hNR.out, HS.out]; exact hixl)
                  have hS2 : S ≤ 6176 := by have := HS.out; have := hR2.out; omega
                  have hSuc := Lib.hid (ordL_succ N R s k)
                  have HIX := Lib.hid hix
                  have HVL := Lib.hid hval
                  have HK := Lib.hid hkR
                  have HKK := hk
                  clear hkd hmN hix hval hkR hk
                  go_wp2_with fail
                  refine (hC.out _).mono ?_
                  rintro e w1 ⟨rfl, hg⟩
                  have hb1 := hb.out.grown hg hb.out.size (fun r e => by cases e)
                  have hM1 := (hM.out.below hb1)
                  obtain ⟨b, off, hA, _, hcell⟩ := hM1.cells _ hixl
                  rw [HVL.out] at hcell
                  have hO1 : w1.ownsRow Wm.heap.size 3 1 (.slice A' k c') k ((ordL N R s k).map (Value.int .i64)) := ownsRow_block hO.out (fun g hgo => hg.block g (hO.out.lt g hgo).2 (fun e => by cases e))
                  obtain ⟨A2, c2, w2, hrun, hO2, hb2⟩ := ints_app hO1 hb1 (by have := HK.out; have := hR2.out; omega) (ordE N (idxN R s k))
                  rw [hSuc.out] at hO2
                  have HRn := Lib.hid hrun
                  have HO2 := Lib.hid hO2
                  have HB2 := Lib.hid hb2
                  subst hA
                  clear hrun hO2 hb2 hO hb hO1 hb1 hM1 hSuc hg
                  have hHIX := HIX.out
                  generalize ordE N (idxN R s k) = v at *
                  generalize idxN R s k = ix at *
                  generalize colN t = c0 at *
                  have hi0 : (0 : Int) ≤ (ix : Int) := by omega
                  have hi1 : (ix : Int) < (S : Int) := by omega
                  have hS3 : (S : Int) ≤ 6176 := by omega
                  have hS4 : (1 : Int) ≤ (S : Int) := by omega
                  have hr0 : (r : Int) ≤ 193 := by omega
                  have hc0 : (c0 : Int) ≤ 31 := by omega
                  by_cases h2 : st = 2
                  · subst h2
                    have hst : s = true := by rw [hsb.out]; rfl
                    have he : (32 * (r : Int) + (c0 : Int) + 1) % (S : Int) = (ix : Int) := by
                      rw [hHIX, hst]
                      unfold shN
                      rw [if_pos rfl, HS.out, show 32 * (r : Int) + (c0 : Int) + 1 = ((c0 + 32 * r + 1 : Nat) : Int) by omega]
                      exact (Int.natCast_emod _ _).symm
                    clear hHIX hixl hS2 hM hcl hr hC
                    go_wp2_with (at_builtin; refine Lib.wpList_append_run _ rfl _ _ _ _ rfl _ _ rfl rfl _ _ HRn.out ?_)
                    go_roundw
                    case rel => first | exact ⟨r + 1, k + 1, A2, c2, by omega, Lib.hid (by rw [HKK.out]; omega), by go_num, rfl, HO2, HB2⟩ | ((repeat apply Exists.intro); exact ⟨⟨r + 1, k + 1, A2, c2, by omega, Lib.hid (by rw [HKK.out]; omega), by go_num, rfl, HO2, HB2⟩, rfl⟩)
                    case measure => simp [intOf]; omega
                  · have hne2 : (st == 2) = false := by simp [h2]
                    have hst : s = false := by rw [hsb.out]; exact decide_eq_false h2
                    have he : 32 * (r : Int) + (c0 : Int) = (ix : Int) := by
                      rw [hHIX, hst]
                      unfold shN
                      rw [if_neg (by decide)]
                      omega
                    clear hHIX hixl hS2 hM hcl hr h2 hC
                    go_wp2_with (at_builtin; refine Lib.wpList_append_run _ rfl _ _ _ _ rfl _ _ rfl rfl _ _ HRn.out ?_)
                    go_roundw
                    case rel => first | exact ⟨r + 1, k + 1, A2, c2, by omega, Lib.hid (by rw [HKK.out]; omega), by go_num, rfl, HO2, HB2⟩ | ((repeat apply Exists.intro); exact ⟨⟨r + 1, k + 1, A2, c2, by omega, Lib.hid (by rw [HKK.out]; omega), by go_num, rfl, HO2, HB2⟩, rfl⟩)
                    case measure => simp [intOf]; omega
                · obtain rfl : R = r := by omega
                  clear hrt
                  go_wp2_with fail
                  go_roundw
                  case rel => exact ⟨t + 1, k, A', c', by omega, Lib.hid (by rw [hk.out, Nat.succ_mul]), by go_num, rfl, hO, hb⟩
                  case measure => simp [intOf]; omega
            · obtain rfl : t = 32 := by omega
              clear hlt
              go_wp2_with fail
              go_ret2
              have hk2 : k = S := by rw [hk.out, HS.out]
              have hlen : res.length = k := by rw [← hpost.out, hk2]; simp [ordL]
              have hO3 := hO.out
              rw [show ordL N R s k = res by rw [hk2]; exact hpost.out] at hO3
              exact RetQ.mk_ hlen hO3 HBW.out.size (HBW.out.trans (hb.out.mono HBW.out.size)) rfl
theorem refOrder_any {d st : Int} {w : World} : Calls Tryd.prog 82 #[.int .i64 d, .int .i64 st] w (RetQ .i64 3 w (orderS d st)) := by
  by_cases h : (okD d && okS st) = true
  · rw [Bool.and_eq_true] at h
    obtain ⟨k, rfl, h1, h2⟩ := okD_nat h.1
    rw [orderS_ok h1 h2 h.2]
    exact refOrder_ok h1 h2 h.2
  · have h := Bool.eq_false_iff.2 h
    rw [orderS_no h]
    have hRows := Lib.hid (fun (u : World) => refRows_any (d := d) (w := u))
    have hb := Below.refl w.heap.size w
    obtain ⟨r, hr⟩ : ∃ r, rowsI d = r := ⟨_, rfl⟩
    rw [hr] at hRows
    by_cases h1 : okD d = true
    · have hz : (r == 0) = false := by
        rw [← hr]
        obtain ⟨k, rfl, k1, k2⟩ := okD_nat h1
        unfold rowsI
        rw [if_pos h1]
        have := rows_le k1 k2
        simp
        omega
      rw [h1, Bool.true_and] at h
      clear h1 hr
      by_cases s0 : st < 0
      · clear h
        go_enter Tryd.func82, Tryd.ntmps82
        go_wp2_with (go_at_call 84; refine (hRows.out _).mono ?_; rintro e w ⟨rfl, rfl⟩)
        go_ret2
        exact RetQ.nil_ hb
      · have s1 : 2 < st := by simp [okS] at h; omega
        clear h
        go_enter Tryd.func82, Tryd.ntmps82
        go_wp2_with (go_at_call 84; refine (hRows.out _).mono ?_; rintro e w ⟨rfl, rfl⟩)
        go_ret2
        exact RetQ.nil_ hb
    · have hz : r = 0 := by rw [← hr]; unfold rowsI; rw [if_neg h1]
      subst hz
      clear h h1 hr
      go_enter Tryd.func82, Tryd.ntmps82
      go_wp2_with (go_at_call 84; refine (hRows.out _).mono ?_; rintro e w ⟨rfl, rfl⟩)
      go_ret2
      exact RetQ.nil_ hb
end
end Go.Proofs.YtoegamlpgenfcaaDoor
