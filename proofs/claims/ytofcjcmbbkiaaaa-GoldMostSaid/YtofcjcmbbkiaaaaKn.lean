/-
  The examples of the chapter: known returns true.
-/
import Derived.Test.YtofcjcmbbkiaaaaG4
namespace Go.Proofs.Ytofcjcmbbkiaaaa
open Go.RowKit

theorem goldL_get {v m i : Nat} (h : i < m) : (goldL v m)[i]?.getD 0 = goldI v i := by simp [goldL, h]
theorem goldL_apart {a b : Nat} (ha : a < 2147483648) (hb : b < 2147483648) (h : goldL a 31 = goldL b 31) : a = b := by
  refine gold_apart ha hb fun i hi => ?_
  have h1 := goldL_get (v := a) hi
  rw [h, goldL_get hi] at h1
  unfold goldI at h1
  omega
set_option maxRecDepth 100000 in
set_option maxHeartbeats 4000000 in
theorem known_any {w : World} :
    Calls Try.prog 14 #[] w fun e w' => e = .returned (.bool true) ∧ Below w.heap.size w w' := by
  have hi : Calls Try.prog 12 #[.int .i64 1, .int .i64 13, .int .i64 5] w fun e w' => e = .returned (.tuple #[.int .u32 17925, .int .i64 0]) ∧ w' = w := init_any (r := 1) (t := 13) (c := 5)
  have hs : ∀ (v : Nat) (n : Int) (vi : Int) (u : World), (v : Int) = vi → v < 4294967296 → Calls Try.prog 15 #[.int .u32 vi, .int .i64 n] u (RetBytes 5 u (seqS v n)) := fun v n vi u h1 h2 => by subst h1; exact sequence_any h2
  have H1 := Lib.hid (fun u => hs 0 0 0 u rfl (by decide))
  have H2 := Lib.hid (fun u => hs 0 (-1) 0 u rfl (by decide))
  have H3 := Lib.hid (fun u => hs 1 31 1 u rfl (by decide))
  have H4 := Lib.hid (fun u => hs 0 31 0 u rfl (by decide))
  rw [show seqS 0 0 = ([], 0) from seqS_ok (v := 0) (m := 0) (by decide) (by decide)] at H1
  rw [show seqS 0 (-1) = ([], 2) from by unfold seqS; rw [if_neg (by omega)]] at H2
  rw [show seqS 1 31 = (goldL 1 31, 0) from seqS_ok (v := 1) (m := 31) (by decide) (by decide)] at H3
  rw [show seqS 0 31 = (goldL 0 31, 0) from seqS_ok (v := 0) (m := 31) (by decide) (by decide)] at H4
  have hne : ¬ goldL 1 31 = goldL 0 31 := fun h => absurd (goldL_apart (by decide) (by decide) h) (by decide)
  have HN := Lib.hid hne
  have l1 := Lib.hid (goldL_length 1 31)
  have l0 := Lib.hid (goldL_length 0 31)
  generalize goldL 1 31 = g1 at *
  generalize goldL 0 31 = g0 at *
  clear hs hne
  go_enter Try.func14, Try.ntmps14
  go_wp2_with fail
  refine hi.mono ?_
  rintro e w1 ⟨rfl, rfl⟩
  clear hi
  go_wp2_with fail
  refine (H1.out _).mono ?_
  intro e w1 h
  obtain ⟨A1, c1, rfl, ho1, hb1⟩ := h.got rfl
  clear H1 h ho1
  go_wp2_with fail
  refine (H2.out _).mono ?_
  intro e w2 h
  obtain ⟨A2, c2, rfl, ho2, hb2⟩ := h.got rfl
  clear H2 h ho2
  replace hb2 := hb1.trans (hb2.mono hb1.size)
  clear hb1
  go_wp2_with fail
  refine (H3.out _).mono ?_
  intro e w3 h
  obtain ⟨A3, c3, rfl, ho3, hb3⟩ := h.got l1.out
  have hr3 := Rd.of_own ho3
  replace hb3 := hb2.trans (hb3.mono hb2.size)
  clear H3 h ho3 hb2
  go_wp2_with fail
  refine (H4.out _).mono ?_
  intro e w4 h
  obtain ⟨A4, c4, rfl, ho4, hb4⟩ := h.got l0.out
  have hr4 := Rd.of_own ho4
  replace hr3 := hr3.step hb4
  replace hb4 := hb3.trans (hb4.mono hb3.size)
  clear H4 h ho4 hb3
  have HS := Lib.hid (same_any (c := c3) (c' := c4) hr3 hr4 (by omega) (by omega))
  rw [decide_eq_false HN.out] at HS
  clear hr3 hr4
  go_wp2_with fail
  refine HS.out.mono ?_
  rintro e w5 ⟨rfl, i, rfl⟩
  clear HS
  go_wp2_with fail
  go_ret
  exact ⟨rfl, below_drewN hb4 i⟩
end Go.Proofs.Ytofcjcmbbkiaaaa
