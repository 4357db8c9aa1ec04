/-
  The law SegmentSizes's walk.
-/
import Derived.Test.YtkdodmjhpkfhnaaDoorRe
namespace Go.Proofs.YtkdodmjhpkfhnaaDoor
open Go.RowKit

theorem below_drewN' {B : Nat} {w w' : World} (h : Below B w w') (i : Nat) : Below B w (w'.drewN i) := ⟨h.os, h.tape, h.output, h.size, h.block⟩
theorem same_true {w : World} {A A' : Option Addr} {n n' c c' B B' : Nat} {xs : List Int} (h : Rd .i64 w B A n xs) (h' : Rd .i64 w B' A' n' xs) (hn : n ≤ 1000000) :
    Calls Tryd.prog 12 #[.slice A n c, .slice A' n' c'] w fun e w' => e = .returned (.bool true) ∧ Below w.heap.size w w' := by
  have e : n = n' := by rw [← h.len, ← h'.len]
  refine (same_any h h' (by omega) (by omega)).mono ?_
  rintro e w' ⟨rfl, i, rfl⟩
  exact ⟨ret_bool (by simp), below_drewN' (Below.refl _ _) i⟩
set_option maxRecDepth 100000 in
set_option maxHeartbeats 2000000 in
theorem sizes_walk {n : Int} {w : World} (hK : Kinds w) :
    Calls Tryd.prog 3 #[.int .i64 n] w fun e w' => e = .returned (.bool true) ∧ Below w.heap.size w w' := by
  have hN := Lib.hid (Next_any (n := n) hK)
  have hR := Lib.hid (fun (u : World) => refNext_any (n := n) (w := u))
  have hS := Lib.hid (fun (u : World) (h : Below w.heap.size w u) => Sizes_any (hK.step h))
  have hT := Lib.hid (fun (u : World) => refSizes_any (w := u))
  have hV := Lib.hid (fun (u : World) (h : Below w.heap.size w u) => Valid_any (n := n) (hK.step h))
  have hU := Lib.hid (fun (u : World) => refValid_any (n := n) (w := u))
  have hW := Lib.hid (fun (u : World) (h : Below w.heap.size w u) => works_any (hK.step h))
  rw [validS_isB] at hV
  obtain ⟨⟨a, z⟩, haz⟩ : ∃ p, nextS n = p := ⟨_, rfl⟩
  rw [haz] at hN hR
  clear haz
  generalize isB n = v at *
  go_enter Tryd.func3, Tryd.ntmps3
  go_wp2_with fail
  refine hN.out.mono ?_
  rintro e w1 ⟨rfl, hb1⟩
  go_wp2_with fail
  refine (hR.out _).mono ?_
  rintro e w2 ⟨rfl, rfl⟩
  go_wp2_with fail
  refine (hS.out _ hb1).mono ?_
  rintro e w3 ⟨A3, c3, rfl, ho3, hb3⟩
  have hr3 := Rd.of_own ho3
  replace hb3 := hb1.trans (hb3.mono hb1.size)
  clear ho3 hb1
  go_wp2_with fail
  refine (hT.out _).mono ?_
  rintro e w4 ⟨A4, c4, rfl, ho4, hb4⟩
  have hr4 := Rd.of_own ho4
  replace hr3 := hr3.step hb4
  replace hb4 := hb3.trans (hb4.mono hb3.size)
  have hSm := Lib.hid (same_true (c := c3) (c' := c4) hr3 hr4 (by decide))
  clear ho4 hb3 hr3 hr4
  go_wp2_with fail
  refine hSm.out.mono ?_
  rintro e w5 ⟨rfl, hb5⟩
  replace hb5 := hb4.trans (hb5.mono hb4.size)
  clear hb4 hSm
  go_wp2_with fail
  refine (hV.out _ hb5).mono ?_
  rintro e w6 ⟨rfl, hb6⟩
  replace hb6 := hb5.trans (hb6.mono hb5.size)
  go_wp2_with (first | (go_at_call 16; refine (hU.out _).mono ?_; rintro e w7 ⟨rfl, rfl⟩) | (go_at_call 17; refine num_any.mono ?_; rintro e w8 ⟨rfl, rfl⟩))
  refine (hW.out _ hb6).mono ?_
  rintro e w9 ⟨rfl, hb9⟩
  replace hb9 := hb6.trans (hb9.mono hb6.size)
  go_wp2_with fail
  go_ret
  exact ⟨rfl, hb9⟩
end Go.Proofs.YtkdodmjhpkfhnaaDoor
