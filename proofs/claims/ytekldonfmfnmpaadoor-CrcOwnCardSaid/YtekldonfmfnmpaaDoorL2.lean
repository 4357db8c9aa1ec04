/-
  The law CrcChecks's walk.
-/
import Derived.Test.YtekldonfmfnmpaaDoorKn
namespace Go.Proofs.YtekldonfmfnmpaaDoor
open Go.RowKit

theorem checkS_len (k : Int) (xs : List Int) : (checkS k xs).1.length ≤ xs.length := by
  unfold checkS
  split
  · simp
  · split
    · simp
    · split
      · simp
      · split
        · exact Nat.le_trans (List.length_take_le _ _) (by omega)
        · simp
set_option maxRecDepth 100000 in
set_option maxHeartbeats 2000000 in
theorem checks_walk {k : Int} {A : Option Addr} {n c : Nat} {xs : List Int} {w : World} (hK : Kinds w) (hI : Rd .u8 w w.heap.size A n xs) (hc : n ≤ c) (hx : Byte xs) :
    Calls Tryd.prog 4 #[.int .i64 k, .slice A n c] w fun e w' => e = .returned (.bool true) ∧ Below w.heap.size w w' := by
  have HKn := Lib.hid (fun (u : World) (h : Below w.heap.size w u) => known_any (hK.step h))
  by_cases h2 : 2000 < n
  · have hd : decide ((2000 : Int) < (n : Int)) = true := by simp; omega
    go_enter Tryd.func4, Tryd.ntmps4
    go_wp2_with fail
    refine (HKn.out _ (Below.refl _ _)).mono ?_
    rintro e w1 ⟨rfl, hb⟩
    go_wp2_with fail
    go_ret
    exact ⟨rfl, hb⟩
  · have hd : decide ((2000 : Int) < (n : Int)) = false := by simp; omega
    have HC := Lib.hid (check_any (k := k) (c := c) hK hI (by omega) hc hx)
    have HR := Lib.hid (fun (u : World) (h : Below w.heap.size w u) => refCheck_any (k := k) (c := c) (hI.step h) (by omega) hc hx)
    have hlen := checkS_len k xs
    rw [hI.len] at hlen
    obtain ⟨⟨r, z⟩, hr⟩ : ∃ p, checkS k xs = p := ⟨_, rfl⟩
    rw [hr] at HC HR hlen
    simp only at hlen
    obtain ⟨m, hm⟩ : ∃ m, r.length = m := ⟨_, rfl⟩
    have HM := Lib.hid hm
    rw [hm] at hlen
    have hm2 : m ≤ 1000000 := by omega
    clear hr hm h2 hI hlen
    go_enter Tryd.func4, Tryd.ntmps4
    go_wp2_with fail
    refine HC.out.mono ?_
    intro e w1 h1
    obtain ⟨A1, c1, rfl, ho1, hb1⟩ := h1.got HM.out
    have hr1 := Rd.of_own ho1
    clear h1 ho1
    go_wp2_with fail
    refine (HR.out _ hb1).mono ?_
    rintro e w2 ⟨A2, c2, rfl, hnew⟩
    have hr2 := hnew.rd
    simp only at hr2 ⊢
    rw [HM.out] at hr2 ⊢
    replace hr1 := hr1.step hnew.below
    have hb2 := hb1.trans (hnew.below.mono hb1.size)
    clear hnew hb1
    have HS := Lib.hid (same_true (c := c1) (c' := c2) hr1 hr2 hm2)
    go_wp2_with fail
    refine HS.out.mono ?_
    rintro e w3 ⟨rfl, hb3⟩
    replace hb3 := hb2.trans (hb3.mono hb2.size)
    clear HS hr1 hr2 hb2
    go_wp2_with fail
    refine (HKn.out _ hb3).mono ?_
    rintro e w6 ⟨rfl, hb6⟩
    replace hb6 := hb3.trans (hb6.mono hb3.size)
    clear hb3
    go_wp2_with fail
    go_ret
    exact ⟨rfl, hb6⟩
end Go.Proofs.YtekldonfmfnmpaaDoor
