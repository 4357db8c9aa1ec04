/-
  The walk of RatematchMost.
-/
import Derived.Test.YtnmkladmohjdnaaDoorL1
namespace Go.Proofs.YtnmkladmohjdnaaDoor
open Go.RowKit Go.Shelf

theorem posS_zero {k l : Nat} (h1 : 40 ≤ k) (h2 : k ≤ 6144) (hl : 1 ≤ l) : posS (k : Int) 0 (l : Int) 0 0 = ([], 0) := by
  have := posS_ok (k := k) (f := 0) (l := l) (v := 0) (e := 0) (oks h1 h2 (by omega) hl (by decide) (by decide))
  rw [if_neg (by omega)] at this
  exact this
set_option maxRecDepth 100000 in
set_option maxHeartbeats 4000000 in
theorem most_walk {k m : Int} {w : World} (hK : Kinds w) :
    Calls Tryd.prog 9 #[.int .i64 k, .int .i64 m] w fun e w' => e = .returned (.bool true) ∧ Below w.heap.size w w' := by
  have hW := Lib.hid (fun (u : World) (h : Below w.heap.size w u) => known_any (hK.step h))
  by_cases hin : (1 ≤ m ∧ m ≤ 100) ∧ 40 ≤ k ∧ k ≤ 6144
  · obtain ⟨⟨m1, m2⟩, k1, k2⟩ := hin
    obtain ⟨K, rfl⟩ : ∃ K : Nat, k = (K : Int) := ⟨k.toNat, by omega⟩
    have hP1 := Lib.hid (Positions_any (k := (K : Int)) (f := 0) (l := 1099511627776) (v := 0) (e := 131072 + m) hK)
    have hP2 := Lib.hid (fun (u : World) (h : Below w.heap.size w u) => Positions_any (k := (K : Int)) (f := 0) (l := 1099511627776) (v := 0) (e := -m) (hK.step h))
    have hP3 := Lib.hid (fun (u : World) (h : Below w.heap.size w u) => Positions_any (k := (K : Int)) (f := 0) (l := 1099511627776) (v := 0) (e := 0) (hK.step h))
    rw [posS_no (by rw [show okE (131072 + m) = false by simp [okE]; omega, Bool.and_false])] at hP1
    rw [posS_no (by rw [show okE (-m) = false by simp [okE]; omega, Bool.and_false])] at hP2
    have hz := posS_zero (k := K) (l := 1099511627776) (by omega) (by omega) (by decide)
    rw [show ((1099511627776 : Nat) : Int) = 1099511627776 from rfl] at hz
    rw [hz] at hP3
    clear hz hK
    go_enter Tryd.func9, Tryd.ntmps9
    go_wp2_with fail
    refine hP1.out.mono ?_
    rintro e w1 he
    obtain ⟨A1, c1, rfl, o1, b1⟩ := he.got (n := 0) rfl
    clear he o1 hP1
    go_wp2_with fail
    refine (hP2.out _ b1).mono ?_
    rintro e w2 he
    obtain ⟨A2, c2, rfl, o2, b2'⟩ := he.got (n := 0) rfl
    have b2 := b1.trans (b2'.mono b1.size)
    clear he o2 b2' b1 hP2
    go_wp2_with fail
    refine (hP3.out _ b2).mono ?_
    rintro e w3 he
    obtain ⟨A3, c3, rfl, o3, b3'⟩ := he.got (n := 0) rfl
    have B3 := Lib.hid (b2.trans (b3'.mono b2.size))
    have HW := Lib.hid (hW.out _ B3.out)
    clear he o3 b3' b2 hP3 hW
    go_wp2_with fail
    refine HW.out.mono ?_
    rintro e w5 ⟨rfl, b5⟩
    go_wp2_with fail
    go_ret
    exact ⟨rfl, B3.out.trans (b5.mono B3.out.size)⟩
  · have hc : m < 1 ∨ (1 ≤ m ∧ 100 < m) ∨ ((1 ≤ m ∧ m ≤ 100) ∧ k < 40) ∨ ((1 ≤ m ∧ m ≤ 100) ∧ 40 ≤ k ∧ 6144 < k) := by omega
    have HW := Lib.hid (hW.out w (Below.refl _ _))
    clear hin hW hK
    rcases hc with a | ⟨a, a'⟩ | ⟨⟨a, a'⟩, a2⟩ | ⟨⟨a, a'⟩, a2, a3⟩
    all_goals
      go_enter Tryd.func9, Tryd.ntmps9
      go_wp2_with (first | (go_at_call 13; refine HW.out.mono ?_; rintro e w5 ⟨rfl, b5⟩) | fail)
      go_ret
      exact ⟨rfl, b5⟩
end Go.Proofs.YtnmkladmohjdnaaDoor
