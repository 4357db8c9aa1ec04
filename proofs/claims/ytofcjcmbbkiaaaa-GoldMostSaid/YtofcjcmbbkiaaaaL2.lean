/-
  GoldSequences, GoldApart, GoldLinear: the walks of the laws.
-/
import Derived.Test.YtofcjcmbbkiaaaaKn
import Derived.Test.YtofcjcmbbkiaaaaH1
namespace Go.Proofs.Ytofcjcmbbkiaaaa
open Go.RowKit

theorem nat_of {x : Int} (h : 0 ≤ x ∧ x < 4294967296) : ∃ v : Nat, x = (v : Int) ∧ v < 4294967296 := by
  obtain ⟨v, rfl⟩ := Int.eq_ofNat_of_zero_le h.1
  exact ⟨v, rfl, by omega⟩
theorem seqS_no {v : Nat} {n : Int} (h : ¬ (v < 2147483648 ∧ 0 ≤ n ∧ n < 131073)) : seqS v n = ([], 2) := by unfold seqS; rw [if_neg h]
set_option maxRecDepth 100000 in
set_option maxHeartbeats 1000000 in
theorem sequences_walk {x n : Int} {w : World} (hx : 0 ≤ x ∧ x < 4294967296) :
    Calls Try.prog 4 #[.int .u32 x, .int .i64 n] w fun e w' => e = .returned (.bool true) ∧ Below w.heap.size w w' := by
  obtain ⟨v, hvx, hv⟩ := nat_of hx
  have hk := Lib.hid (fun (u : World) (h : Below w.heap.size w u) => (known_any (w := u)).mono (R' := fun e w' => e = .returned (.bool true) ∧ Below w.heap.size w w') (fun e w' he => ⟨he.1, h.trans (he.2.mono h.size)⟩))
  have hs := Lib.hid (sequence_any (n := n) (w := w) hv)
  rw [← hvx] at hs
  by_cases hbig : 3000 < n ∧ n ≤ 131072
  · obtain ⟨b1, b2⟩ := hbig
    clear hvx hv hx
    go_enter Try.func4, Try.ntmps4
    go_wp2_with fail
    refine (hk.out _ (Below.refl _ _)).mono ?_
    rintro e w2 ⟨rfl, hb⟩
    go_wp2_with fail
    go_ret
    exact ⟨rfl, hb⟩
  · by_cases hok : v < 2147483648 ∧ 0 ≤ n ∧ n < 131073
    · obtain ⟨m, hmn⟩ : ∃ m : Nat, (m : Int) = n := ⟨n.toNat, by omega⟩
      have hs1 : seqS v n = (goldL v m, 0) := by rw [← hmn]; exact seqS_ok hok.1 (by omega)
      rw [hs1] at hs
      have hr := Lib.hid (fun (u : World) => refSeq_any (m := m) (w := u) hok.1 (by omega))
      rw [hmn, ← hvx] at hr
      have hl := Lib.hid (goldL_length v m)
      have hm3 : m ≤ 1000000 := by omega
      have q1 : x < 2147483648 := by omega
      have q2 : n ≤ 3000 := by omega
      have q3 : 0 ≤ n := by omega
      clear hs1 hmn hv hvx hx
      generalize goldL v m = r at *
      have hsm := Lib.hid (fun (u : World) (A A' : Option Addr) (c c' : Nat) (h : Rd .u8 u u.heap.size A m r) (h' : Rd .u8 u u.heap.size A' m r) => same_true (c := c) (c' := c') h h' hm3)
      clear hm3
      clear hbig hok
      go_enter Try.func4, Try.ntmps4
      go_wp2_with fail
      refine hs.out.mono ?_
      intro e w1 h
      obtain ⟨A1, c1, rfl, ho1, hb1⟩ := h.got hl.out
      have hr1 := Rd.of_own ho1
      clear hs h ho1
      go_wp2_with fail
      refine (hr.out _).mono ?_
      rintro e w2 ⟨⟨A2, c2, rfl, ho2⟩, hb2⟩
      have hr2 := Rd.of_own ho2
      replace hr1 := hr1.step hb2
      replace hb2 := hb1.trans (hb2.mono hb1.size)
      have HS := Lib.hid (hsm.out _ _ _ c1 c2 hr1 hr2)
      clear hsm hr ho2 hb1 hr1 hr2
      go_wp2_with fail
      refine HS.out.mono ?_
      rintro e w3 ⟨rfl, hb3⟩
      replace hb3 := hb2.trans (hb3.mono hb2.size)
      clear HS hb2
      go_wp2_with fail
      refine (hk.out _ hb3).mono ?_
      rintro e w4 ⟨rfl, hb4⟩
      go_wp2_with fail
      go_ret
      exact ⟨rfl, hb4⟩
    · rw [seqS_no hok] at hs
      have hc : n < 0 ∨ 131072 < n ∨ (0 ≤ n ∧ n ≤ 131072 ∧ 2147483648 ≤ x) := by omega
      have hbig2 : n ≤ 3000 ∨ 131072 < n := by omega
      clear hbig hok hvx hv hx
      rcases hc with hc | hc | ⟨hc0, hc1, hc⟩ <;> rcases hbig2 with hb2 | hb2
      all_goals
        try omega
      all_goals
        go_enter Try.func4, Try.ntmps4
        go_wp2_with fail
        refine hs.out.mono ?_
        intro e w1 h
        obtain ⟨A1, c1, rfl, ho1, hb1⟩ := h.got rfl
        clear hs h ho1
        go_wp2_with fail
        refine (hk.out _ hb1).mono ?_
        rintro e w4 ⟨rfl, hb4⟩
        go_wp2_with fail
        go_ret
        exact ⟨rfl, hb4⟩
/-- Two sequences of n elements, read. -/
theorem seq_got {v m : Nat} {w : World} {vi : Int} (hv : v < 2147483648) (hm : m ≤ 131072) (he : (v : Int) = vi) :
    Calls Try.prog 15 #[.int .u32 vi, .int .i64 (m : Int)] w fun e w' => ∃ A c, e = .returned (.tuple #[.slice A m c, .int .i64 0]) ∧ Rd .u8 w' w'.heap.size A m (goldL v m) ∧ Below w.heap.size w w' := by
  subst he
  refine (sequence_any (n := (m : Int)) (w := w) (by omega)).mono ?_
  intro e w' h
  rw [seqS_ok hv hm] at h
  obtain ⟨A, c, h1, h2, h3⟩ := h.got (goldL_length v m)
  exact ⟨A, c, h1, Rd.of_own h2, h3⟩
set_option maxRecDepth 100000 in
set_option maxHeartbeats 1000000 in
theorem apart_walk {x y : Int} {w : World} (hx : 0 ≤ x ∧ x < 4294967296) (hy : 0 ≤ y ∧ y < 4294967296) :
    Calls Try.prog 9 #[.int .u32 x, .int .u32 y] w fun e w' => e = .returned (.bool true) ∧ Below w.heap.size w w' := by
  obtain ⟨a, rfl, ha⟩ := nat_of hx
  obtain ⟨b, rfl, hb⟩ := nat_of hy
  clear hx hy
  have hk := Lib.hid (fun (u : World) (h : Below w.heap.size w u) => (known_any (w := u)).mono (R' := fun e w' => e = .returned (.bool true) ∧ Below w.heap.size w w') (fun e w' he => ⟨he.1, h.trans (he.2.mono h.size)⟩))
  have h1 := Lib.hid (fun u => sequence_any (n := 31) (w := u) ha)
  have h2 := Lib.hid (fun u => sequence_any (n := 31) (w := u) hb)
  by_cases qa : a < 2147483648
  · rw [show seqS a 31 = (goldL a 31, 0) from seqS_ok (m := 31) qa (by decide)] at h1
    by_cases qb : b < 2147483648
    · rw [show seqS b 31 = (goldL b 31, 0) from seqS_ok (m := 31) qb (by decide)] at h2
      have hd : decide (goldL a 31 = goldL b 31) = ((a : Int) == (b : Int)) := by
        rw [Bool.eq_iff_iff]
        simp only [decide_eq_true_eq, beq_iff_eq]
        refine ⟨fun h => by rw [goldL_apart qa qb h], fun h => ?_⟩
        have : a = b := by omega
        rw [this]
      have la := Lib.hid (goldL_length a 31)
      have lb := Lib.hid (goldL_length b 31)
      have HD := Lib.hid hd
      generalize goldL a 31 = r at *
      generalize goldL b 31 = s at *
      clear hd qa qb
      go_enter Try.func9, Try.ntmps9
      go_wp2_with fail
      refine (h1.out _).mono ?_
      intro e w1 h
      obtain ⟨A1, c1, rfl, ho1, hb1⟩ := h.got la.out
      have hr1 := Rd.of_own ho1
      clear h1 h ho1
      go_wp2_with fail
      refine (h2.out _).mono ?_
      intro e w2 h
      obtain ⟨A2, c2, rfl, ho2, hb2⟩ := h.got lb.out
      have hr2 := Rd.of_own ho2
      replace hr1 := hr1.step hb2
      replace hb2 := hb1.trans (hb2.mono hb1.size)
      have HS := Lib.hid (same_any (c := c1) (c' := c2) hr1 hr2 (by omega) (by omega))
      rw [HD.out] at HS
      clear h2 h ho2 hb1 hr1 hr2
      go_wp2_with fail
      refine HS.out.mono ?_
      rintro e w3 ⟨rfl, i, rfl⟩
      have hb3 := below_drewN hb2 i
      generalize w2.drewN i = w3 at *
      clear HS hb2
      go_wp2_with fail
      refine (hk.out _ hb3).mono ?_
      rintro e w4 ⟨rfl, hb4⟩
      go_wp2_with fail
      go_ret
      exact ⟨rfl, hb4⟩
    · rw [seqS_no (show ¬ (b < 2147483648 ∧ (0 : Int) ≤ 31 ∧ (31 : Int) < 131073) from fun h => qb h.1)] at h2
      have la := Lib.hid (goldL_length a 31)
      generalize goldL a 31 = r at *
      clear qa qb
      go_enter Try.func9, Try.ntmps9
      go_wp2_with fail
      refine (h1.out _).mono ?_
      intro e w1 h
      obtain ⟨A1, c1, rfl, ho1, hb1⟩ := h.got la.out
      clear h1 h ho1
      go_wp2_with fail
      refine (h2.out _).mono ?_
      intro e w2 h
      obtain ⟨A2, c2, rfl, ho2, hb2⟩ := h.got rfl
      replace hb2 := hb1.trans (hb2.mono hb1.size)
      clear h2 h ho2 hb1
      go_wp2_with fail
      refine (hk.out _ hb2).mono ?_
      rintro e w4 ⟨rfl, hb4⟩
      go_wp2_with fail
      go_ret
      exact ⟨rfl, hb4⟩
  · rw [seqS_no (show ¬ (a < 2147483648 ∧ (0 : Int) ≤ 31 ∧ (31 : Int) < 131073) from fun h => qa h.1)] at h1
    have lb := Lib.hid (show ∃ n, (seqS b 31).1.length = n from ⟨_, rfl⟩)
    generalize seqS b 31 = q at *
    obtain ⟨s, k⟩ := q
    obtain ⟨n, ln⟩ := lb.out
    have LN := Lib.hid ln
    clear qa lb ln
    go_enter Try.func9, Try.ntmps9
    go_wp2_with fail
    refine (h1.out _).mono ?_
    intro e w1 h
    obtain ⟨A1, c1, rfl, ho1, hb1⟩ := h.got rfl
    clear h1 h ho1
    go_wp2_with fail
    refine (h2.out _).mono ?_
    intro e w2 h
    obtain ⟨A2, c2, rfl, ho2, hb2⟩ := h.got LN.out
    replace hb2 := hb1.trans (hb2.mono hb1.size)
    clear h2 h ho2 hb1
    go_wp2_with fail
    refine (hk.out _ hb2).mono ?_
    rintro e w4 ⟨rfl, hb4⟩
    go_wp2_with fail
    go_ret
    exact ⟨rfl, hb4⟩
end Go.Proofs.Ytofcjcmbbkiaaaa
