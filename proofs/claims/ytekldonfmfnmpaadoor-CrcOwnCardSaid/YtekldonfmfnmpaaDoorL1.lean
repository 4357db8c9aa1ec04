/-
  The law CrcComputes's walk.
-/
import Derived.Test.YtekldonfmfnmpaaDoorKn
namespace Go.Proofs.YtekldonfmfnmpaaDoor
open Go.RowKit

theorem computeS_len (k : Int) (xs : List Int) : (computeS k xs).1.length ≤ 24 := by
  unfold computeS
  split
  · simp
  · split
    · simp
    · rw [crcI_length]; exact genN_le k
set_option maxRecDepth 100000 in
set_option maxHeartbeats 2000000 in
theorem computes_walk {k : Int} {A : Option Addr} {n c : Nat} {xs : List Int} {w : World} (hK : Kinds w) (hI : Rd .u8 w w.heap.size A n xs) (hx : Byte xs) :
    Calls Tryd.prog 3 #[.int .i64 k, .slice A n c] w fun e w' => e = .returned (.bool true) ∧ Below w.heap.size w w' := by
  have HKn := Lib.hid (fun (u : World) (h : Below w.heap.size w u) => known_any (hK.step h))
  by_cases h2 : 2000 < n
  · have hd : decide ((2000 : Int) < (n : Int)) = true := by simp; omega
    go_enter Tryd.func3, Tryd.ntmps3
    go_wp2_with fail
    refine (HKn.out _ (Below.refl _ _)).mono ?_
    rintro e w1 ⟨rfl, hb⟩
    go_wp2_with fail
    go_ret
    exact ⟨rfl, hb⟩
  · have hd : decide ((2000 : Int) < (n : Int)) = false := by simp; omega
    have HC := Lib.hid (compute_any (k := k) (c := c) hK hI (by omega) hx)
    have HR := Lib.hid (fun (u : World) (h : Below w.heap.size w u) => refCompute_any (k := k) (c := c) (hI.step h) (by omega) hx)
    have HL := Lib.hid (fun (u : World) (h : Below w.heap.size w u) => len_any (k := k) (hK.step h))
    have hlen := computeS_len k xs
    obtain ⟨⟨r, z⟩, hr⟩ : ∃ p, computeS k xs = p := ⟨_, rfl⟩
    rw [hr] at HC HR hlen
    simp only at hlen
    obtain ⟨m, hm⟩ : ∃ m, r.length = m := ⟨_, rfl⟩
    have HM := Lib.hid hm
    rw [hm] at hlen
    clear hr hm h2 hI
    go_enter Tryd.func3, Tryd.ntmps3
    go_wp2_with fail
    refine HC.out.mono ?_
    intro e w1 h1
    obtain ⟨A1, c1, rfl, ho1, hb1⟩ := h1.got HM.out
    have hr1 := Rd.of_own ho1
    clear h1 ho1
    go_wp2_with fail
    refine (HR.out _ hb1).mono ?_
    rintro e w2 ⟨A2, c2, rfl, hnew⟩
    have hr2 := hnew.rd
    simp only at hr2 ⊢
    rw [HM.out] at hr2 ⊢
    replace hr1 := hr1.step hnew.below
    have hb2 := hb1.trans (hnew.below.mono hb1.size)
    clear hnew hb1
    have HS := Lib.hid (same_true (c := c1) (c' := c2) hr1 hr2 (by omega))
    go_wp2_with fail
    refine HS.out.mono ?_
    rintro e w3 ⟨rfl, hb3⟩
    replace hb3 := hb2.trans (hb3.mono hb2.size)
    clear HS hr1 hr2 hb2
    go_wp2_with fail
    refine (HL.out _ hb3).mono ?_
    rintro e w4 ⟨rfl, hb4⟩
    replace hb4 := hb3.trans (hb4.mono hb3.size)
    go_wp2_with fail
    refine refLen_any.mono ?_
    rintro e w5 ⟨rfl, hb5⟩
    replace hb5 := hb4.trans (hb5.mono hb4.size)
    clear hb4
    go_wp2_with fail
    refine (HKn.out _ hb5).mono ?_
    rintro e w6 ⟨rfl, hb6⟩
    replace hb6 := hb5.trans (hb6.mono hb5.size)
    clear hb5
    go_wp2_with fail
    go_ret
    exact ⟨rfl, hb6⟩
end Go.Proofs.YtekldonfmfnmpaaDoor
