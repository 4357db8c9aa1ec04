/-
  The iterator over the runs (runs, its closure): it yields the runs of the slice, in order, whatever the loop's body does with memory of its own.
-/
import Derived.RangeFuncBox
import Derived.RangeFuncNested
import Derived.RangeFuncLeaves
import Derived.RangeFuncBound
import Derived.RangeFuncCalls
import Derived.Shelf.Abstract
import Derived.Shelf.RegionOpen
import Derived.WalkKit
import Derived.OwnWalkIn
import Derived.TacticsInMore
import Derived.LoopNIn
import Derived.LoopIn
import Derived.Sort.QuietIn
import Derived.Test.YtdjnmebgiabecaaBits
import Derived.Test.YtdjnmebgiabecaaProg
namespace Go.Proofs.Ytdjnmebgiabecaa
open Go.RowKit Go.Shelf BigFrame

attribute [local go_sem] Oper.semAt_some

/-- What a round of the loop's body must keep: all blocks below n₀, and the block Bs (the box of the iterator's slice). -/
def KeepsFor (n₀ Bs : Nat) (A B : World) : Prop := Below n₀ A B ∧ B.heap[Bs]? = A.heap[Bs]?
theorem KeepsFor.refl (n₀ Bs : Nat) (A : World) : KeepsFor n₀ Bs A A := ⟨Below.refl _ _, rfl⟩
theorem keepsFor_t {n₀ Bs : Nat} {A B C : World} (h : KeepsFor n₀ Bs A B) (k : KeepsFor n₀ Bs B C) : KeepsFor n₀ Bs A C := ⟨h.1.trans k.1, k.2.trans h.2⟩
theorem keepsFor_b {n₀ Bs : Nat} {w : World} (hn : n₀ ≤ w.heap.size) (hB : Bs < w.heap.size) (W : World) (l : Nat) (o o' : Obj) (hl : w.heap.size ≤ l) (h : W.heap[l]? = some o) (h1 : o.isCells = false) (h2 : o.isWalk = false) :
    KeepsFor n₀ Bs W (W.putObj l o') :=
  ⟨belowK_b hn W l o o' hl h h1 h2, (grownBy_putObj' W l o').block Bs (by have := (Array.getElem?_eq_some_iff.1 h).1; omega) (fun e => by cases e; omega)⟩
theorem KeepsFor.cell {n₀ Bs : Nat} {A B : World} (h : KeepsFor n₀ Bs A B) (j : Nat) : B.cell? ⟨Bs, j, none⟩ = A.cell? ⟨Bs, j, none⟩ := World.cell?_of_block h.2
theorem KeepsFor.setCell {n₀ Bs : Nat} {A B : World} (h : KeepsFor n₀ Bs A B) {p : Addr} (hp : n₀ ≤ p.block) (hne : Bs ≠ p.block) (u : Value) : KeepsFor n₀ Bs A (B.setCell p u) :=
  ⟨h.1.setCell hp u, (Below.heap_setCell _ _ _ _ hne).trans h.2⟩
theorem KeepsFor.drewN {n₀ Bs : Nat} {A B : World} (h : KeepsFor n₀ Bs A B) (k : Nat) : KeepsFor n₀ Bs A (B.drewN k) := ⟨⟨h.1.os, h.1.tape, h.1.output, h.1.size, h.1.block⟩, h.2⟩

set_option maxRecDepth 100000 in
set_option maxHeartbeats 2000000 in
/-- The iterator's body. -/
theorem runs1_in (n : Nat) (hn : 1 ≤ n) (l Bs n₀ : Nat) (A : Option Addr) (len cap : Nat) (xs : List Int) (hreach : len ≤ 140737488351232)
    (J Jx : List (Nat × Int) → World → Prop)
    (hJd : ∀ pre W k, J pre W → J pre (W.drewN k))
    (hY : ∀ pre x W, J pre W → pre.length < len → YieldAt Fence.wide (n - 1) Try.prog l #[.int .i64 (x.1 : Int), .int .u8 x.2] W fun e W' =>
      (e = .returned (.bool true) ∧ J (pre ++ [x]) W' ∧ KeepsFor n₀ Bs W W') ∨ (e = .returned (.bool false) ∧ Jx (pre ++ [x]) W'))
    (W : World) (hBs : W.cell? ⟨Bs, 0, none⟩ = some (.slice A len cap)) (hR : Rd .u8 W n₀ A len xs) (h0 : J [] W) :
    CallsIn Fence.wide n Try.prog 42 #[.func (.yield l) #[] #[], .pointer (some ⟨Bs, 0, none⟩)] W fun e W' => (∃ v, e = .returned v) ∧
      ((∃ ys, ys = runsL xs ∧ J ys W') ∨ (∃ pre, pre <+: runsL xs ∧ Jx pre W')) := by
  have hL := Lib.hid hR.len
  refine callsIn_of_wp Try.func42 rfl trivial ?_ rfl
  simp only [Try.ntmps42, List.size_toArray, List.length_cons, List.length_nil, Nat.reduceAdd, Nat.reduceSub, Array.replicate_succ, Array.replicate_zero, List.push_toArray, List.append_toArray, List.nil_append, List.cons_append]
  gi_wp2
  gi_loopw [3] (fun s wr => ∃ (k : Nat) (pre : List (Nat × Int)), k ≤ len ∧ s = .int .i64 k ∧ pre ++ runsL (xs.drop k) = runsL xs ∧ pre.length ≤ k ∧ J pre wr ∧ KeepsFor n₀ Bs W wr)
    (fun s _ => len - (intOf s).toNat)
  case atStart => exact ⟨0, [], Nat.zero_le _, rfl, rfl, Nat.le_refl _, h0, KeepsFor.refl _ _ _⟩
  case round =>
    obtain ⟨k, pre, hk, rfl, hpre, hpl, hJs, hnx⟩ := hrel
    have hPre := Lib.hid hpre; clear hpre
    have hB := (hnx.cell 0).trans hBs
    by_cases hlt : k < len
    · gi_wp2
      gi_loopw [4] (fun e wr2 => ∃ j : Nat, k < j ∧ j ≤ len ∧ e = .int .i64 j ∧ Hid (∀ t, k ≤ t → t < j → xs[t]?.getD 0 = xs[k]?.getD 0) ∧ J pre wr2 ∧ KeepsFor n₀ Bs W wr2)
        (fun e _ => len - (intOf e).toNat)
      case atStart => exact ⟨k + 1, by omega, by omega, by go_num, Lib.hid (fun t h1 h2 => by rw [show t = k by omega]), hJs, hnx⟩
      case round =>
        clear hB
        rename World => wr2
        obtain ⟨j, hkj, hj, rfl, hall, hJ2, hn2⟩ := hrel
        have hB := (hn2.cell 0).trans hBs
        have hR2 := hR.below hn2.1
        by_cases hjl : j < len
        · obtain ⟨b, off, rfl, hb, hcj⟩ := hR2.cells j hjl
          obtain ⟨b', off', e', hb', hck⟩ := hR2.cells k hlt
          injection e' with e'; injection e' with e1 e2; subst e1 e2
          by_cases hx : xs[j]?.getD 0 = xs[k]?.getD 0
          · gi_wp2
            gi_quiet (fail)
            gi_wp2
            go_roundw
            case rel => exact ⟨j + 1, by omega, by omega, by go_num, Lib.hid (all_succ hall.out hx), hJd _ _ _ hJ2, hn2.drewN _⟩
            case measure => simp [intOf]; omega
          · gi_wp2
            gi_quiet (fail)
            have hstep := Lib.hid (runsL_step xs k j hkj (by rw [hL.out]; exact hj) hall.out (.inr hx))
            obtain ⟨fn, tmps, assign, body, hy, hRd⟩ := hY pre (j - k, xs[k]?.getD 0) (wr2.drewN nq) (hJd _ _ _ hJ2) (by omega)
            dsimp only at hy
            rw [show ((j - k : Nat) : Int) = (j : Int) - (k : Int) from by omega] at hy
            gi_wp2
            refine hRd.mono ?_
            rintro e W3 (⟨rfl, hJ3, hk3⟩ | ⟨rfl, hJx3⟩)
            · gi_wp2
              go_roundw
              case rel => exact ⟨j, pre ++ [(j - k, xs[k]?.getD 0)], hj, rfl, by rw [← hPre.out, hstep.out]; simp, by simp; omega, hJ3, keepsFor_t (hn2.drewN _) hk3⟩
              case measure => simp [intOf]; omega
            · gi_wp2
              refine bodyPost_ret (results_none rfl _ _ _) rfl ?_
              exact ⟨⟨_, rfl⟩, .inr ⟨_, ⟨runsL (xs.drop j), by rw [← hPre.out, hstep.out]; simp⟩, hJx3⟩⟩
        · have hd : decide (j < len) = false := by simp; omega
          obtain ⟨b, off, rfl, hb, hck⟩ := hR2.cells k hlt
          obtain rfl : j = len := by omega
          gi_wp2
          gi_quiet (fail)
          have hstep := Lib.hid (runsL_step xs k j hkj (by rw [hL.out]; exact hj) hall.out (.inl hL.out.symm))
          obtain ⟨fn, tmps, assign, body, hy, hRd⟩ := hY pre (j - k, xs[k]?.getD 0) (wr2.drewN nq) (hJd _ _ _ hJ2) (by omega)
          dsimp only at hy
          rw [show ((j - k : Nat) : Int) = (j : Int) - (k : Int) from by omega] at hy
          gi_wp2
          refine hRd.mono ?_
          rintro e W3 (⟨rfl, hJ3, hk3⟩ | ⟨rfl, hJx3⟩)
          · gi_wp2
            go_roundw
            case rel => exact ⟨j, pre ++ [(j - k, xs[k]?.getD 0)], hj, rfl, by rw [← hPre.out, hstep.out]; simp, by simp; omega, hJ3, keepsFor_t (hn2.drewN _) hk3⟩
            case measure => simp [intOf]; omega
          · gi_wp2
            refine bodyPost_ret (results_none rfl _ _ _) rfl ?_
            exact ⟨⟨_, rfl⟩, .inr ⟨_, ⟨runsL (xs.drop j), by rw [← hPre.out, hstep.out]; simp⟩, hJx3⟩⟩
    · obtain rfl : k = len := by omega
      gi_wp2
      go_end0
      exact ⟨⟨_, rfl⟩, .inl ⟨_, by rw [← hPre.out, ← hL.out]; simp [runsL], hJs⟩⟩

end Go.Proofs.Ytdjnmebgiabecaa
