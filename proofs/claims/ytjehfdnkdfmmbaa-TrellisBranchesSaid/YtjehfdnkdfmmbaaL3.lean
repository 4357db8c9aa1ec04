/-
  The walk of TrellisBranches.
-/
import Derived.Test.YtjehfdnkdfmmbaaL1
import Derived.Test.YtjehfdnkdfmmbaaR5
namespace Go.Proofs.Ytjehfdnkdfmmbaa
open Go.RowKit

theorem drewN_two' (w : World) (i j : Nat) : (w.drewN i).drewN j = w.drewN (i + j) := World.drewN_drewN _ _ _
theorem works_to' {w v : World} (h : Below w.heap.size w v) : Calls Try.prog 13 #[] v fun e w' => e = .returned (.bool true) ∧ Below w.heap.size w w' :=
  works_any.mono fun _ _ he => ⟨he.1, h.trans (he.2.mono h.size)⟩
theorem eq_br_same (a b c d : Int) (w : World) : (Op.equalIn 10000 50 (.agg #[.int .i64 a, .int .i64 b, .int .i64 c, .int .i64 d]) (.agg #[.int .i64 a, .int .i64 b, .int .i64 c, .int .i64 d])).run Try.prog w = .ok true w := by
  rw [show (10000 : Nat) = 9998 + 2 from rfl, eq_br]; simp
theorem eq_two_same (a b c d e f g h : Int) (w : World) : (Op.equalIn 10000 51 (.agg #[.int .i64 a, .int .i64 b, .int .i64 c, .int .i64 d, .int .i64 e, .int .i64 f, .int .i64 g, .int .i64 h]) (.agg #[.int .i64 a, .int .i64 b, .int .i64 c, .int .i64 d, .int .i64 e, .int .i64 f, .int .i64 g, .int .i64 h])).run Try.prog w = .ok true w := by
  rw [eq_two]; simp
set_option maxRecDepth 100000 in
set_option maxHeartbeats 8000000 in
theorem branches_mid {st e : Int} {b : Bool} {x0 x1 x2 x3 x4 x5 x6 x7 : Int} {w : World} (hv : (decide (0 ≤ st) && decide (st < 8)) = b)
    (hP : ∀ v, Calls Try.prog 24 #[.int .i64 st] v fun r w' => r = .returned (.tuple #[.agg #[.int .i64 x0, .int .i64 x1, .int .i64 x2, .int .i64 x3, .int .i64 x4, .int .i64 x5, .int .i64 x6, .int .i64 x7], .int .i64 e]) ∧ Below v.heap.size v w')
    (hcase : (b = true ∧ e = 0 ∧ ∀ v, Calls Try.prog 25 #[.int .i64 st] v fun r w' => r = .returned (.agg #[.int .i64 x0, .int .i64 x1, .int .i64 x2, .int .i64 x3, .int .i64 x4, .int .i64 x5, .int .i64 x6, .int .i64 x7]) ∧ Below v.heap.size v w')
      ∨ (b = false ∧ e = 2 ∧ x0 = 0 ∧ x1 = 0 ∧ x2 = 0 ∧ x3 = 0 ∧ x4 = 0 ∧ x5 = 0 ∧ x6 = 0 ∧ x7 = 0)) :
    Calls Try.prog 5 #[.int .i64 st] w fun e w' => e = .returned (.bool true) ∧ Below w.heap.size w w' := by
  have hK := Lib.hid (fun (v : World) (h : Below w.heap.size w v) => works_to' h)
  have hB := Lib.hid (fun (v : World) => Branches_any (w := v))
  have hR := Lib.hid (fun (v : World) => refBranches_any (w := v))
  have hV := Lib.hid (fun (v : World) => valid_of (w := v) hv)
  have HP := Lib.hid hP
  have HC := Lib.hid hcase
  clear hP hcase hv
  go_enter Try.func5, Try.ntmps5
  go_wp2_with fail
  refine (hB.out _).mono ?_
  rintro e w1 ⟨g, rfl, hg, hgl, hb1⟩
  clear hB
  go_wp2_with fail
  refine (hR.out _).mono ?_
  rintro e w2 ⟨A, c, rfl, hO, hb2⟩
  obtain ⟨g2, rfl, hg2, hg2l, hcell⟩ := row_cell hO
  have G2 := Lib.hid (BrAt.block (k := 16) hg (hb2.block _ (Array.getElem?_eq_some_iff.1 hg).1))
  have C2 := Lib.hid hcell
  have B2 := hb1.trans (hb2.mono hb1.size)
  clear hR hg hgl hb1 hO hb2 hcell
  go_wp2_with fail
  go_loopw [5] (fun i W => ∃ k j : Nat, k ≤ 16 ∧ i = .int .i64 (k : Int) ∧ W = w2.drewN j) (fun i _ => 16 - (intOf i).toNat)
  case atStart => exact ⟨0, 0, Nat.zero_le _, rfl, rfl⟩
  case round =>
    obtain ⟨k, j, hk, rfl, hW⟩ := hrel
    subst hW
    by_cases hlt : k < 16
    · have hk3 : (k : Int) < 16 := by omega
      have a0 : (w2.drewN j).cell? ⟨g, k * 4, none⟩ = some (.int .i64 (brI k 0)) := G2.out.all hlt (f := 0) (by decide)
      have a1 : (w2.drewN j).cell? ⟨g, k * 4 + 1, none⟩ = some (.int .i64 (brI k 1)) := G2.out.all hlt (f := 1) (by decide)
      have a2 : (w2.drewN j).cell? ⟨g, k * 4 + 2, none⟩ = some (.int .i64 (brI k 2)) := G2.out.all hlt (f := 2) (by decide)
      have a3 : (w2.drewN j).cell? ⟨g, k * 4 + 3, none⟩ = some (.int .i64 (brI k 3)) := G2.out.all hlt (f := 3) (by decide)
      have b0 : (w2.drewN j).cell? ⟨g2, k * 4, none⟩ = some (.int .i64 (brI k 0)) := C2.out k 0 hlt (by decide)
      have b1 : (w2.drewN j).cell? ⟨g2, k * 4 + 1, none⟩ = some (.int .i64 (brI k 1)) := C2.out k 1 hlt (by decide)
      have b2 : (w2.drewN j).cell? ⟨g2, k * 4 + 2, none⟩ = some (.int .i64 (brI k 2)) := C2.out k 2 hlt (by decide)
      have b3 : (w2.drewN j).cell? ⟨g2, k * 4 + 3, none⟩ = some (.int .i64 (brI k 3)) := C2.out k 3 hlt (by decide)
      have a0' : w2.cell? ⟨g, k * 4, none⟩ = some (.int .i64 (brI k 0)) := G2.out.all hlt (f := 0) (by decide)
      have b0' : w2.cell? ⟨g2, k * 4, none⟩ = some (.int .i64 (brI k 0)) := C2.out k 0 hlt (by decide)
      have a1' : w2.cell? ⟨g, k * 4 + 1, none⟩ = some (.int .i64 (brI k 1)) := G2.out.all hlt (f := 1) (by decide)
      have b1' : w2.cell? ⟨g2, k * 4 + 1, none⟩ = some (.int .i64 (brI k 1)) := C2.out k 1 hlt (by decide)
      have a2' : w2.cell? ⟨g, k * 4 + 2, none⟩ = some (.int .i64 (brI k 2)) := G2.out.all hlt (f := 2) (by decide)
      have b2' : w2.cell? ⟨g2, k * 4 + 2, none⟩ = some (.int .i64 (brI k 2)) := C2.out k 2 hlt (by decide)
      have a3' : w2.cell? ⟨g, k * 4 + 3, none⟩ = some (.int .i64 (brI k 3)) := G2.out.all hlt (f := 3) (by decide)
      have b3' : w2.cell? ⟨g2, k * 4 + 3, none⟩ = some (.int .i64 (brI k 3)) := C2.out k 3 hlt (by decide)
      generalize brI k 0 = y0 at *
      generalize brI k 1 = y1 at *
      generalize brI k 2 = y2 at *
      generalize brI k 3 = y3 at *
      have q := fun u => eq_br_same y0 y1 y2 y3 u
      go_wp2_with fail
      go_quiet (fail)
      go_wp2_with fail
      go_roundw
      case rel => exact ⟨k + 1, _, by omega, by go_num, by first | rfl | exact drewN_two' _ _ _⟩
      case measure => simp [intOf]; omega
    · obtain rfl : k = 16 := by omega
      clear hlt hk
      have B3 := Lib.hid (below_drewN B2 j)
      clear B2 G2 C2
      generalize w2.drewN j = w3 at *
      go_wp2_with fail
      refine (HP.out _).mono ?_
      rintro e w4 ⟨rfl, h4⟩
      have hz := World.alloc_heap_new w4 (.cells #[.int .i64 x0, .int .i64 x1, .int .i64 x2, .int .i64 x3, .int .i64 x4, .int .i64 x5, .int .i64 x6, .int .i64 x7] 51)
      have hb4 := B3.out.trans (h4.mono B3.out.size)
      have hb5 := hb4.alloc hb4.size (.cells #[.int .i64 x0, .int .i64 x1, .int .i64 x2, .int .i64 x3, .int .i64 x4, .int .i64 x5, .int .i64 x6, .int .i64 x7] 51)
      have hl5 : w4.heap.size < (w4.alloc (.cells #[.int .i64 x0, .int .i64 x1, .int .i64 x2, .int .i64 x3, .int .i64 x4, .int .i64 x5, .int .i64 x6, .int .i64 x7] 51)).heap.size := by simp
      clear h4 hb4 B3 HP
      go_wp2_with fail
      generalize w4.alloc (.cells #[.int .i64 x0, .int .i64 x1, .int .i64 x2, .int .i64 x3, .int .i64 x4, .int .i64 x5, .int .i64 x6, .int .i64 x7] 51) = w5 at *
      generalize w4.heap.size = D at *
      refine (hV.out _).mono ?_
      rintro e w6 ⟨rfl, he⟩
      obtain rfl := he.symm
      clear hV he
      have hc : ∀ j v, (#[Value.int .i64 x0, .int .i64 x1, .int .i64 x2, .int .i64 x3, .int .i64 x4, .int .i64 x5, .int .i64 x6, .int .i64 x7] : Array Value)[j]? = some v → w5.cell? ⟨D, j, none⟩ = some v := fun j v hv => by
        rw [cell_of_row _ _ j _ _ _ hz]; exact hv
      have k0 : w5.cell? ⟨D, 0, none⟩ = some (.int .i64 x0) := hc 0 _ rfl
      have k1 : w5.cell? ⟨D, 1, none⟩ = some (.int .i64 x1) := hc 1 _ rfl
      have k2 : w5.cell? ⟨D, 2, none⟩ = some (.int .i64 x2) := hc 2 _ rfl
      have k3 : w5.cell? ⟨D, 3, none⟩ = some (.int .i64 x3) := hc 3 _ rfl
      have k4 : w5.cell? ⟨D, 4, none⟩ = some (.int .i64 x4) := hc 4 _ rfl
      have k5 : w5.cell? ⟨D, 5, none⟩ = some (.int .i64 x5) := hc 5 _ rfl
      have k6 : w5.cell? ⟨D, 6, none⟩ = some (.int .i64 x6) := hc 6 _ rfl
      have k7 : w5.cell? ⟨D, 7, none⟩ = some (.int .i64 x7) := hc 7 _ rfl
      clear hc
      have B5 := Lib.hid hb5
      have L5 := Lib.hid hl5
      have Z5 := Lib.hid hz
      clear hb5 hl5 hz
      rcases HC.out with ⟨rfl, rfl, hRP⟩ | ⟨rfl, rfl, rfl, rfl, rfl, rfl, rfl, rfl, rfl, rfl⟩
      · have q := fun u => eq_two_same x0 x1 x2 x3 x4 x5 x6 x7 u
        have RP := Lib.hid hRP
        clear hRP HC
        go_wp2_with fail
        have hN := Lib.hid (fun (v : World) => num_any (k := 0) (w := v))
        have hKK := Lib.hid (fun (v : World) => works_any (w := v))
        go_region_held3 (fun w' => w'.cell? ⟨D, 0, none⟩ = some (.int .i64 x0) ∧ w'.cell? ⟨D, 1, none⟩ = some (.int .i64 x1) ∧ w'.cell? ⟨D, 2, none⟩ = some (.int .i64 x2) ∧ w'.cell? ⟨D, 3, none⟩ = some (.int .i64 x3) ∧ w'.cell? ⟨D, 4, none⟩ = some (.int .i64 x4) ∧ w'.cell? ⟨D, 5, none⟩ = some (.int .i64 x5) ∧ w'.cell? ⟨D, 6, none⟩ = some (.int .i64 x6) ∧ w'.cell? ⟨D, 7, none⟩ = some (.int .i64 x7))
          (first | go_keep | exact ⟨(hb8.cell (p := ⟨D, 0, none⟩) (by dsimp only; have := L5.out; omega)).trans k0, (hb8.cell (p := ⟨D, 1, none⟩) (by dsimp only; have := L5.out; omega)).trans k1, (hb8.cell (p := ⟨D, 2, none⟩) (by dsimp only; have := L5.out; omega)).trans k2, (hb8.cell (p := ⟨D, 3, none⟩) (by dsimp only; have := L5.out; omega)).trans k3, (hb8.cell (p := ⟨D, 4, none⟩) (by dsimp only; have := L5.out; omega)).trans k4, (hb8.cell (p := ⟨D, 5, none⟩) (by dsimp only; have := L5.out; omega)).trans k5, (hb8.cell (p := ⟨D, 6, none⟩) (by dsimp only; have := L5.out; omega)).trans k6, (hb8.cell (p := ⟨D, 7, none⟩) (by dsimp only; have := L5.out; omega)).trans k7⟩ | exact ⟨(hb7.cell (p := ⟨D, 0, none⟩) (by dsimp only; have := L5.out; omega)).trans k0, (hb7.cell (p := ⟨D, 1, none⟩) (by dsimp only; have := L5.out; omega)).trans k1, (hb7.cell (p := ⟨D, 2, none⟩) (by dsimp only; have := L5.out; omega)).trans k2, (hb7.cell (p := ⟨D, 3, none⟩) (by dsimp only; have := L5.out; omega)).trans k3, (hb7.cell (p := ⟨D, 4, none⟩) (by dsimp only; have := L5.out; omega)).trans k4, (hb7.cell (p := ⟨D, 5, none⟩) (by dsimp only; have := L5.out; omega)).trans k5, (hb7.cell (p := ⟨D, 6, none⟩) (by dsimp only; have := L5.out; omega)).trans k6, (hb7.cell (p := ⟨D, 7, none⟩) (by dsimp only; have := L5.out; omega)).trans k7⟩ | fail)
          (first
            | (go_at_call 15; refine (hN.out _).mono ?_; rintro e w6 ⟨rfl, he⟩; obtain rfl := he.symm; clear he)
            | (go_at_call 25; refine (RP.out _).mono ?_; rintro e w7 ⟨rfl, hb7'⟩; have hb7 : Below w5.heap.size w5 w7 := ⟨hb7'.os, hb7'.tape, hb7'.output, hb7'.size, hb7'.block⟩; clear hb7')
            | (go_at_call 13; refine (hKK.out w7).mono ?_; rintro e w8 ⟨rfl, hb8'⟩; have hb8 : Below w5.heap.size w5 w8 := hb7.trans (hb8'.mono hb7.size); clear hb8'))
        have HBF := Lib.hid (B5.out.trans (hb8.mono B5.out.size))
        clear hb7 hb8 hKK hN RP B5 L5 Z5 hK
        go_wp2_with fail
        go_ret
        exact ⟨rfl, HBF.out⟩
      · have q := fun u => eq_two_same 0 0 0 0 0 0 0 0 u
        clear HC
        go_wp2_with fail
        refine (hK.out w5 B5.out).mono ?_
        rintro e w7 ⟨rfl, hb7⟩
        clear k0 k1 k2 k3 k4 k5 k6 k7 hK B5 L5 Z5
        go_wp2_with fail
        go_ret
        exact ⟨rfl, hb7⟩
theorem branches_walk {st : Int} {w : World} :
    Calls Try.prog 5 #[.int .i64 st] w fun e w' => e = .returned (.bool true) ∧ Below w.heap.size w w' := by
  by_cases h : (decide (0 ≤ st) && decide (st < 8)) = true
  · have h' := h
    simp at h'
    obtain ⟨s, rfl⟩ := Int.eq_ofNat_of_zero_le h'.1
    exact branches_mid (e := 0) h (fun v => Previous_ok (w := v) (s := s) (by omega)) (.inl ⟨rfl, rfl, fun v => refPrevious_any (w := v) (s := s) (by omega)⟩)
  · have h := Bool.eq_false_iff.2 h
    exact branches_mid (e := 2) h (fun v => Previous_no (w := v) h) (.inr ⟨rfl, rfl, rfl, rfl, rfl, rfl, rfl, rfl, rfl, rfl⟩)
end Go.Proofs.Ytjehfdnkdfmmbaa
