/-
  The walks of RatematchBuffers, RatematchStarts, RatematchPositions, RatematchMost.
-/
import Derived.Test.YtnmkladmohjdnaaDoorKn
namespace Go.Proofs.YtnmkladmohjdnaaDoor
open Go.RowKit Go.Shelf

set_option maxRecDepth 100000 in
set_option maxHeartbeats 4000000 in
theorem buffers_walk {k f l : Int} {w : World} (hK : Kinds w) :
    Calls Tryd.prog 3 #[.int .i64 k, .int .i64 f, .int .i64 l] w fun e w' => e = .returned (.bool true) ∧ Below w.heap.size w w' := by
  have hW := Lib.hid (fun (u : World) (h : Below w.heap.size w u) => known_any (hK.step h))
  have hV := Lib.hid (fun (u : World) => refValid_any (k := k) (f := f) (l := l) (w := u))
  by_cases h : okB k f l = true
  · obtain ⟨K, F, L, rfl, rfl, rfl, h1, h2, h3, h4⟩ := okB_nat h
    rw [h] at hV
    have hB := Lib.hid (Buffer_ok (f := F) hK h1 h2 h3 h4)
    have hU := Lib.hid (fun (u : World) (hb : Below w.heap.size w u) => Usable_ok (f := F) (hK.step hb) h1 h2 h3 h4)
    have hR := Lib.hid (fun (u : World) => refBuffer_any (f := F) (l := L) (w := u) h1 h2)
    have hsz := siz_le h1 h2 h4
    generalize cirI K F L = cir at *
    generalize sizN K L = N at *
    have hRU := Lib.hid (fun (A : Option Addr) (c : Nat) (u : World) (hR : Rd .i64 u u.heap.size A N cir) => refUsable_any (c := c) hR hsz.2.2)
    have hN := hsz.2.2
    generalize usable cir = us at *
    clear h h1 h2 h3 h4 hsz hK
    go_enter Tryd.func3, Tryd.ntmps3
    go_wp2_with fail
    refine hB.out.mono ?_
    rintro e w1 ⟨A1, c1, rfl, R1, b1⟩
    clear hB
    go_wp2_with fail
    refine (hU.out _ b1).mono ?_
    rintro e w2 ⟨rfl, b2'⟩
    have R2 := R1.step b2'
    have b2 := b1.trans (b2'.mono b1.size)
    clear R1 b1 b2' hU
    go_wp2_with (first | (go_at_call 12; refine (hV.out _).mono ?_; rintro e w ⟨rfl, rfl⟩) | fail)
    refine (hR.out _).mono ?_
    rintro e w3 ⟨A3, c3, rfl, R3, b3'⟩
    have R23 := R2.step b3'
    have b3 := b2.trans (b3'.mono b2.size)
    clear R2 b2 b3' hR
    have hs := Lib.hid (sameI_true (c := c1) (c' := c3) R23 R3 (by omega))
    have R3' := Lib.hid R3
    have B3 := Lib.hid b3
    clear R23 R3 b3
    go_wp2_with fail
    refine hs.out.mono ?_
    rintro e w4 ⟨rfl, b4'⟩
    have R4 := Lib.hid (R3'.out.step b4')
    have B4 := Lib.hid (B3.out.trans (b4'.mono B3.out.size))
    have HU := Lib.hid (hRU.out _ c3 _ R4.out)
    have HW := Lib.hid (hW.out _ B4.out)
    clear b4' hs R3' B3 hW hRU
    go_wp2_with (first | (go_at_call 16; refine HU.out.mono ?_; rintro e w ⟨rfl, rfl⟩) | fail)
    refine HW.out.mono ?_
    rintro e w5 ⟨rfl, b5⟩
    go_wp2_with fail
    go_ret
    exact ⟨rfl, B4.out.trans (b5.mono B4.out.size)⟩
  · have h := Bool.eq_false_iff.2 h
    rw [h] at hV
    have hB := Lib.hid (fun (u : World) => Buffer_no (w := u) h)
    have hU := Lib.hid (fun (u : World) => Usable_no (w := u) h)
    have HW := Lib.hid (hW.out w (Below.refl _ _))
    clear h hW hK
    go_enter Tryd.func3, Tryd.ntmps3
    go_wp2_with (first | (go_at_call 10; refine (hB.out _).mono ?_; rintro e w ⟨rfl, rfl⟩) | (go_at_call 11; refine (hU.out _).mono ?_; rintro e w ⟨rfl, rfl⟩) | (go_at_call 12; refine (hV.out _).mono ?_; rintro e w ⟨rfl, rfl⟩) | (go_at_call 13; refine HW.out.mono ?_; rintro e w5 ⟨rfl, b5⟩) | fail)
    go_ret
    exact ⟨rfl, b5⟩
set_option maxRecDepth 100000 in
set_option maxHeartbeats 4000000 in
theorem starts_walk {k l v : Int} {w : World} (hK : Kinds w) :
    Calls Tryd.prog 4 #[.int .i64 k, .int .i64 l, .int .i64 v] w fun e w' => e = .returned (.bool true) ∧ Below w.heap.size w w' := by
  have hW := Lib.hid (fun (u : World) (h : Below w.heap.size w u) => known_any (hK.step h))
  have hV := Lib.hid (fun (u : World) => refValid_any (k := k) (f := 0) (l := l) (w := u))
  by_cases hB : okB k 0 l = true
  · rw [hB] at hV
    by_cases hv : okV v = true
    · have hB0 := hB
      obtain ⟨K, F, L, rfl, hF, rfl, h1, h2, h3, h4⟩ := okB_nat hB
      obtain rfl : F = 0 := by omega
      obtain ⟨V, rfl, h5⟩ := okV_nat hv
      have hS := Lib.hid (fun (u : World) => Start_ok (w := u) h1 h2 h4 h5)
      have hR := Lib.hid (fun (u : World) => refBuffer_any (f := 0) (l := L) (w := u) h1 h2)
      have hsz := siz_le h1 h2 h4
      have hRS := Lib.hid (fun (u : World) => refStart_any (v := V) (w := u) h1 h2 hsz.1 hsz.2.1 h5)
      have hlt := start_lt (k := K) (n := sizN K L) (v := V) hsz.1
      rw [show (((0 : Nat) : Int)) = 0 from rfl] at hR
      generalize cirI K 0 L = cir at *
      generalize startN K (sizN K L) V = s at *
      generalize sizN K L = N at *
      have hs0 : (s : Int) < (N : Int) := by omega
      have hs1 : (0 : Int) ≤ (s : Int) := by omega
      have hv1 : (V : Int) ≤ 3 := by omega
      have hv0 : (0 : Int) ≤ (V : Int) := by omega
      clear hB hB0 hF hv h1 h2 h3 h4 h5 hsz hlt hK
      go_enter Tryd.func4, Tryd.ntmps4
      go_wp2_with (first | (go_at_call 17; refine (hS.out _).mono ?_; rintro e w ⟨rfl, rfl⟩) | (go_at_call 12; refine (hV.out _).mono ?_; rintro e w ⟨rfl, rfl⟩) | fail)
      refine (hR.out _).mono ?_
      rintro e w3 ⟨A3, c3, rfl, R3, b3⟩
      have HW := Lib.hid (hW.out _ b3)
      have B3 := Lib.hid b3
      clear R3 b3 hW hR
      go_wp2_with (first | (go_at_call 18; refine (hRS.out _).mono ?_; rintro e w ⟨rfl, rfl⟩) | fail)
      refine HW.out.mono ?_
      rintro e w5 ⟨rfl, b5⟩
      go_wp2_with fail
      go_ret
      exact ⟨rfl, B3.out.trans (b5.mono B3.out.size)⟩
    · have hv' : v < 0 ∨ (0 ≤ v ∧ 3 < v) := by simp [okV] at hv; omega
      have hS := Lib.hid (fun (u : World) => Start_no (w := u) (k := k) (l := l) (v := v) (by rw [Bool.eq_false_iff.2 hv, Bool.and_false]))
      have HW := Lib.hid (hW.out w (Below.refl _ _))
      clear hB hv hW hK
      rcases hv' with a | ⟨a, a'⟩
      all_goals
        go_enter Tryd.func4, Tryd.ntmps4
        go_wp2_with (first | (go_at_call 17; refine (hS.out _).mono ?_; rintro e w ⟨rfl, rfl⟩) | (go_at_call 12; refine (hV.out _).mono ?_; rintro e w ⟨rfl, rfl⟩) | (go_at_call 13; refine HW.out.mono ?_; rintro e w5 ⟨rfl, b5⟩) | fail)
        go_ret
        exact ⟨rfl, b5⟩
  · have hB := Bool.eq_false_iff.2 hB
    rw [hB] at hV
    have hS := Lib.hid (fun (u : World) => Start_no (w := u) (k := k) (l := l) (v := v) (by rw [hB, Bool.false_and]))
    have HW := Lib.hid (hW.out w (Below.refl _ _))
    clear hB hW hK
    go_enter Tryd.func4, Tryd.ntmps4
    go_wp2_with (first | (go_at_call 17; refine (hS.out _).mono ?_; rintro e w ⟨rfl, rfl⟩) | (go_at_call 12; refine (hV.out _).mono ?_; rintro e w ⟨rfl, rfl⟩) | (go_at_call 13; refine HW.out.mono ?_; rintro e w5 ⟨rfl, b5⟩) | fail)
    go_ret
    exact ⟨rfl, b5⟩
theorem posS_le (k f l v e : Int) : (posS k f l v e).1.length ≤ 131072 := by
  unfold posS
  split
  · rename_i h
    rw [Bool.and_eq_true, Bool.and_eq_true] at h
    obtain ⟨E, rfl, h6⟩ := okE_nat h.2
    split
    · exact Nat.zero_le _
    · show (selL _ _ _).length ≤ 131072
      rw [selL_length, Int.toNat_natCast]
      exact h6
  · exact Nat.zero_le _
set_option maxRecDepth 100000 in
set_option maxHeartbeats 4000000 in
theorem positions_walk {k f l v x : Int} {w : World} (hK : Kinds w) :
    Calls Tryd.prog 5 #[.int .i64 k, .int .i64 f, .int .i64 l, .int .i64 v, .int .i64 x] w fun e w' => e = .returned (.bool true) ∧ Below w.heap.size w w' := by
  have hW := Lib.hid (fun (u : World) (h : Below w.heap.size w u) => known_any (hK.step h))
  by_cases hx : 20000 < x ∧ x ≤ 131072
  · obtain ⟨hx1, hx2⟩ := hx
    have HW := Lib.hid (hW.out w (Below.refl _ _))
    clear hK hW
    go_enter Tryd.func5, Tryd.ntmps5
    go_wp2_with (first | (go_at_call 13; refine HW.out.mono ?_; rintro e w5 ⟨rfl, b5⟩) | fail)
    go_ret
    exact ⟨rfl, b5⟩
  · have hx' : ¬ (20000 < x) ∨ (20000 < x ∧ ¬ (x ≤ 131072)) := by omega
    have hP := Lib.hid (Positions_any (k := k) (f := f) (l := l) (v := v) (e := x) hK)
    have hR := Lib.hid (fun (u : World) => refPositions_any (k := k) (f := f) (l := l) (v := v) (e := x) (w := u))
    have hle := posS_le k f l v x
    generalize posS k f l v x = r at *
    obtain ⟨xs, a⟩ := r
    dsimp only at hle
    clear hx hK
    rcases hx' with h1 | ⟨h1, h2⟩
    all_goals
      go_enter Tryd.func5, Tryd.ntmps5
      go_wp2_with fail
      refine hP.out.mono ?_
      rintro e w1 ⟨A1, c1, rfl, o1, b1⟩
      have R1 := Rd.of_own o1
      clear o1 hP
      try dsimp only at R1 ⊢
      go_wp2_with fail
      refine (hR.out _).mono ?_
      rintro e w2 ⟨A2, c2, rfl, o2, b2'⟩
      have R2 := Rd.of_own o2
      have R12 := R1.step b2'
      have b2 := b1.trans (b2'.mono b1.size)
      clear o2 hR R1 b2' b1
      try dsimp only at R2 ⊢
      have hs := Lib.hid (sameI_true (c := c1) (c' := c2) R12 R2 (by omega))
      have B2 := Lib.hid b2
      clear R12 R2 b2
      go_wp2_with fail
      refine hs.out.mono ?_
      rintro e w3 ⟨rfl, b3'⟩
      have B3 := Lib.hid (B2.out.trans (b3'.mono B2.out.size))
      have HW := Lib.hid (hW.out _ B3.out)
      clear hs b3' B2 hW
      go_wp2_with fail
      refine HW.out.mono ?_
      rintro e w5 ⟨rfl, b5⟩
      go_wp2_with fail
      go_ret
      exact ⟨rfl, B3.out.trans (b5.mono B3.out.size)⟩
end Go.Proofs.YtnmkladmohjdnaaDoor
