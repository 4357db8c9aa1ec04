/-
  GoldMost: the walk of the law.
-/
import Derived.Test.YtofcjcmbbkiaaaaL2
import Derived.Test.YtofcjcmbbkiaaaaGe
namespace Go.Proofs.Ytofcjcmbbkiaaaa
open Go.RowKit

theorem make_ints (n : Nat) (hn : n ≤ 1000000) (u : World) : (Instr.makeSlice 39 (.int .i64 n) (.int .i64 n)).run Try.prog u =
    .ok (.slice (some ⟨u.heap.size, 0, none⟩) n n) (u.alloc (.cells (madeCells #[.int .i64 0] n) 3)) := by
  obtain ⟨i0, hi, hz0, hz1, hz2⟩ := info_q Try.info_int
  have h := run_make (P := Try.prog) u 39 3 i0 (.int .i64 0) Try.underlying39 hi hz0 .i64 .i64 (n : Int) (n : Int) (by omega) (by omega) (by rw [hz2]; omega) (by omega)
  simpa [hz1, Value.cells] using h
set_option maxRecDepth 100000 in
set_option maxHeartbeats 2000000 in
theorem most_walk {x mo : Int} {w : World} (hx : 0 ≤ x ∧ x < 4294967296) :
    Calls Try.prog 11 #[.int .u32 x, .int .i64 mo] w fun e w' => e = .returned (.bool true) ∧ Below w.heap.size w w' := by
  have hk := Lib.hid (fun (u : World) (h : Below w.heap.size w u) => (known_any (w := u)).mono (R' := fun e w' => e = .returned (.bool true) ∧ Below w.heap.size w w') (fun e w' he => ⟨he.1, h.trans (he.2.mono h.size)⟩))
  by_cases hok : (1 ≤ mo ∧ mo ≤ 100) ∧ x < 2147483648
  · obtain ⟨⟨m1, m2⟩, q1⟩ := hok
    obtain ⟨v, hvx, hv⟩ := nat_of hx
    obtain ⟨N, hN⟩ : ∃ N : Nat, (N : Int) = 131072 + mo := ⟨(131072 + mo).toNat, by omega⟩
    have hs := Lib.hid (fun u : World => sequence_any (n := 131072 + mo) (w := u) hv)
    rw [seqS_no (by omega), ← hvx] at hs
    have hex : exI v N = 4 := by unfold exI; rw [if_pos (by omega), if_pos (by omega)]
    have hb := Lib.hid (fun (u : World) (A : Option Addr) => scramblebErr_any (A := A) (n := N) (c := N) (w := u) hvx.symm hv (by rw [hex]; decide))
    have hi := Lib.hid (fun (u : World) (A : Option Addr) => scrambleiErr_any (A := A) (n := N) (c := N) (w := u) hvx.symm hv (by rw [hex]; decide))
    rw [hex] at hb hi
    have hmb := fun u => make_bytes N N (Nat.le_refl _) (by omega) u
    have hmi := fun u => make_ints N (by omega) u
    rw [hN] at hmb hmi
    have hw : IntKind.i64.wrap (131072 + mo) = 131072 + mo := IntWalk.i64_in _ (by omega)
    clear hN hvx hv hx hex
    go_enter Try.func11, Try.ntmps11
    go_wp2_with fail
    refine (hs.out _).mono ?_
    intro e w1 h
    obtain ⟨A1, c1, rfl, ho1, hb1⟩ := h.got rfl
    clear hs h ho1
    go_wp2_with fail
    refine (hb.out _ _).mono ?_
    intro e w2 h
    obtain ⟨A2, c2, rfl, ho2, hb2⟩ := h.got rfl
    have hb2' : Below w.heap.size w w2 := (hb1.alloc hb1.size _).trans (hb2.mono (by rw [World.size_alloc]; have := hb1.size; omega))
    clear hb h ho2 hb1 hb2
    go_wp2_with fail
    refine (hi.out _ _).mono ?_
    intro e w3 h
    obtain ⟨A3, c3, rfl, ho3, hb3⟩ := h.got rfl
    have hb3' : Below w.heap.size w w3 := (hb2'.alloc hb2'.size _).trans (hb3.mono (by rw [World.size_alloc]; have := hb2'.size; omega))
    clear hi h ho3 hb2' hb3
    go_wp2_with fail
    refine (hk.out _ hb3').mono ?_
    rintro e w4 ⟨rfl, hb4⟩
    go_wp2_with fail
    go_ret
    exact ⟨rfl, hb4⟩
  · have hc : mo < 1 ∨ (1 ≤ mo ∧ 100 < mo) ∨ ((1 ≤ mo ∧ mo ≤ 100) ∧ 2147483648 ≤ x) := by omega
    clear hok hx
    rcases hc with hc | ⟨hc0, hc⟩ | ⟨⟨hc0, hc1⟩, hc⟩
    all_goals
      go_enter Try.func11, Try.ntmps11
      go_wp2_with fail
      refine (hk.out _ (Below.refl _ _)).mono ?_
      rintro e w8 ⟨rfl, hb8⟩
      go_wp2_with fail
      go_ret
      exact ⟨rfl, hb8⟩
end Go.Proofs.Ytofcjcmbbkiaaaa
