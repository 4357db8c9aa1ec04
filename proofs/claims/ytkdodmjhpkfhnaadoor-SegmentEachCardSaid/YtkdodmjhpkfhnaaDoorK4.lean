/-
  dividend: its iterator yields the bits and then zeros, whatever the loop's body does with memory of its own.
-/
import Derived.RangeFuncBox
import Derived.RangeFuncNested
import Derived.RangeFuncLeaves
import Derived.RangeFuncBound
import Derived.RangeFuncCalls
import Derived.Shelf.Abstract
import Derived.Shelf.RegionOpen
import Derived.WalkKit
import Derived.OwnWalkIn
import Derived.TacticsInMore
import Derived.LoopNIn
import Derived.LoopIn
import Derived.Sort.QuietIn
import Derived.Test.YtkdodmjhpkfhnaaDoorApp
namespace Go.Proofs.YtkdodmjhpkfhnaaDoor
open Go.RowKit Go.Shelf BigFrame

attribute [local go_sem] Oper.semAt_some

/-- What a round of the loop's body must keep: all blocks below n₀, and the two boxes of the iterator. -/
def KeepsFor (n₀ Bs Bz : Nat) (A B : World) : Prop := Below n₀ A B ∧ B.heap[Bs]? = A.heap[Bs]? ∧ B.heap[Bz]? = A.heap[Bz]?
theorem KeepsFor.refl (n₀ Bs Bz : Nat) (A : World) : KeepsFor n₀ Bs Bz A A := ⟨Below.refl _ _, rfl, rfl⟩
theorem keepsFor_t {n₀ Bs Bz : Nat} {A B C : World} (h : KeepsFor n₀ Bs Bz A B) (k : KeepsFor n₀ Bs Bz B C) : KeepsFor n₀ Bs Bz A C := ⟨h.1.trans k.1, k.2.1.trans h.2.1, k.2.2.trans h.2.2⟩
theorem keepsFor_b {n₀ Bs Bz : Nat} {w : World} (hn : n₀ ≤ w.heap.size) (hB : Bs < w.heap.size) (hZ : Bz < w.heap.size) (W : World) (l : Nat) (o o' : Obj) (hl : w.heap.size ≤ l) (h : W.heap[l]? = some o) (h1 : o.isCells = false) (h2 : o.isWalk = false) :
    KeepsFor n₀ Bs Bz W (W.putObj l o') := by
  have hlt := (Array.getElem?_eq_some_iff.1 h).1
  exact ⟨belowK_b hn W l o o' hl h h1 h2, (grownBy_putObj' W l o').block Bs (by omega) (fun e => by cases e; omega), (grownBy_putObj' W l o').block Bz (by omega) (fun e => by cases e; omega)⟩
theorem KeepsFor.cell {n₀ Bs Bz : Nat} {A B : World} (h : KeepsFor n₀ Bs Bz A B) (j : Nat) : B.cell? ⟨Bs, j, none⟩ = A.cell? ⟨Bs, j, none⟩ := World.cell?_of_block h.2.1
theorem KeepsFor.cellz {n₀ Bs Bz : Nat} {A B : World} (h : KeepsFor n₀ Bs Bz A B) (j : Nat) : B.cell? ⟨Bz, j, none⟩ = A.cell? ⟨Bz, j, none⟩ := World.cell?_of_block h.2.2
theorem KeepsFor.setCell {n₀ Bs Bz : Nat} {A B : World} (h : KeepsFor n₀ Bs Bz A B) {p : Addr} (hp : n₀ ≤ p.block) (hne : Bs ≠ p.block) (hnz : Bz ≠ p.block) (u : Value) : KeepsFor n₀ Bs Bz A (B.setCell p u) :=
  ⟨h.1.setCell hp u, (Below.heap_setCell _ _ _ _ hne).trans h.2.1, (Below.heap_setCell _ _ _ _ hnz).trans h.2.2⟩

def zerosL (n : Nat) : List Int := List.replicate n 0
theorem zerosL_succ (n : Nat) : zerosL (n + 1) = zerosL n ++ [0] := List.replicate_succ'
set_option maxRecDepth 100000 in
set_option maxHeartbeats 2000000 in
/-- The iterator's body. -/
theorem dividend1_in (n : Nat) (hn : 1 ≤ n) (l Bs Bz n₀ : Nat) (A : Option Addr) (len cap L : Nat) (xs : List Int) (hreach : len ≤ 140737488351232) (hL : L ≤ 1000)
    (J Jx : List Int → World → Prop)
    (hY : ∀ pre x W, J pre W → pre.length < len + L → YieldAt Fence.wide (n - 1) Tryd.prog l #[.int .u8 x] W fun e W' =>
      (e = .returned (.bool true) ∧ J (pre ++ [x]) W' ∧ KeepsFor n₀ Bs Bz W W') ∨ (e = .returned (.bool false) ∧ Jx (pre ++ [x]) W'))
    (W : World) (hBs : W.cell? ⟨Bs, 0, none⟩ = some (.slice A len cap)) (hBz : W.cell? ⟨Bz, 0, none⟩ = some (.int .i64 (L : Int))) (hR : Rd .u8 W n₀ A len xs) (h0 : J [] W) :
    CallsIn Fence.wide n Tryd.prog 73 #[.func (.yield l) #[] #[], .pointer (some ⟨Bs, 0, none⟩), .pointer (some ⟨Bz, 0, none⟩)] W fun e W' => (∃ v, e = .returned v) ∧
      ((∃ ys, ys = xs ++ zerosL L ∧ J ys W') ∨ (∃ pre, pre <+: xs ++ zerosL L ∧ Jx pre W')) := by
  have hl := Lib.hid hR.len
  refine callsIn_of_wp Tryd.func73 rfl trivial ?_ rfl
  simp only [Tryd.ntmps73, List.size_toArray, List.length_cons, List.length_nil, Nat.reduceAdd, Nat.reduceSub, Array.replicate_succ, Array.replicate_zero, List.push_toArray, List.append_toArray, List.nil_append, List.cons_append]
  gi_wp2
  gi_loopw [8] (fun i wr => ∃ k : Nat, k ≤ len ∧ i = .int .i64 k ∧ J (xs.take k) wr ∧ KeepsFor n₀ Bs Bz W wr) (fun i _ => len - (intOf i).toNat)
  case atStart => exact ⟨0, Nat.zero_le _, rfl, h0, KeepsFor.refl _ _ _ _⟩
  case round =>
    obtain ⟨k, hk, rfl, hJs, hkf⟩ := hrel
    by_cases hlt : k < len
    · obtain ⟨b, off, rfl, hb, hc⟩ := (hR.below hkf.1).cells k hlt
      have hS := Lib.hid (take_snoc xs k (by rw [hl.out]; exact hlt) 0)
      obtain ⟨fn, tmps, assign, body, hy, hRd⟩ := hY _ (xs[k]?.getD 0) wr hJs (by have := List.length_take_le k xs; omega)
      gi_wp2
      refine hRd.mono ?_
      rintro e W3 (⟨rfl, hJ3, hk3⟩ | ⟨rfl, hJx3⟩)
      · gi_wp2
        go_roundw
        case rel => exact ⟨k + 1, by omega, by go_num, by rw [hS.out]; exact hJ3, keepsFor_t hkf hk3⟩
        case measure => simp [intOf]; omega
      · gi_wp2
        refine bodyPost_ret (results_none rfl _ _ _) rfl ?_
        refine ⟨⟨_, rfl⟩, .inr ⟨_, ⟨xs.drop (k + 1) ++ zerosL L, ?_⟩, hJx3⟩⟩
        rw [← hS.out, ← List.append_assoc, List.take_append_drop]
    · obtain rfl : k = len := by omega
      have e1 : xs.take k = xs := List.take_of_length_le (Nat.le_of_eq hl.out)
      rw [e1] at hJs
      have hz := (hkf.cellz 0).trans hBz
      have HJ := Lib.hid hJs; clear hJs e1
      gi_wp2
      gi_loopw [18] (fun i wr2 => ∃ j : Nat, j ≤ L ∧ i = .int .i64 j ∧ J (xs ++ zerosL j) wr2 ∧ KeepsFor n₀ Bs Bz W wr2) (fun i _ => L - (intOf i).toNat)
      case atStart => exact ⟨0, Nat.zero_le _, rfl, by simpa [zerosL] using HJ.out, hkf⟩
      case round =>
        rename World => wr2
        obtain ⟨j, hj, rfl, hJ2, hk2⟩ := hrel
        by_cases hjt : j < L
        · obtain ⟨fn, tmps, assign, body, hy, hRd⟩ := hY _ 0 wr2 hJ2 (by have := hl.out; simp [zerosL]; omega)
          gi_wp2
          refine hRd.mono ?_
          rintro e W3 (⟨rfl, hJ3, hk3⟩ | ⟨rfl, hJx3⟩)
          · gi_wp2
            go_roundw
            case rel => exact ⟨j + 1, by omega, by go_num, by rw [zerosL_succ, ← List.append_assoc]; exact hJ3, keepsFor_t hk2 hk3⟩
            case measure => simp [intOf]; omega
          · gi_wp2
            refine bodyPost_ret (results_none rfl _ _ _) rfl ?_
            refine ⟨⟨_, rfl⟩, .inr ⟨_, ⟨zerosL (L - (j + 1)), ?_⟩, hJx3⟩⟩
            rw [List.append_assoc xs, ← zerosL_succ, List.append_assoc]
            congr 1
            unfold zerosL
            rw [List.replicate_append_replicate]
            congr 1; omega
        · obtain rfl : j = L := by omega
          have HJ2 := Lib.hid hJ2; clear hJ2
          gi_wp2
          go_end0
          exact ⟨⟨_, rfl⟩, .inl ⟨_, rfl, HJ2.out⟩⟩
theorem dividend_in (n : Nat) (A : Option Addr) (len cap : Nat) (L : Int) (w : World) :
    CallsIn Fence.wide n Tryd.prog 71 #[.slice A len cap, .int .i64 L] w fun e w' => e = .returned (.func (.func 73) #[] #[.pointer (some ⟨w.heap.size, 0, none⟩), .pointer (some ⟨w.heap.size + 1, 0, none⟩)]) ∧ w' = (w.alloc (.cells #[.slice A len cap] 46)).alloc (.cells #[.int .i64 L] 3) := by
  refine callsIn_of_wp Tryd.func71 rfl trivial ?_ rfl
  simp only [Tryd.ntmps71, List.size_toArray, List.length_cons, List.length_nil, Nat.reduceAdd, Nat.reduceSub, Array.replicate_succ, Array.replicate_zero, List.push_toArray, List.append_toArray, List.nil_append, List.cons_append]
  gi_wp2
  go_ret
  exact ⟨by simp, rfl⟩
theorem dividend_stops (n : Nat) (hn : 1 ≤ n) (Bs Bz n₀ : Nat) (A : Option Addr) (len cap L : Nat) (xs : List Int) (hreach : len ≤ 140737488351232) (hL : L ≤ 1000) (w : World) (hBs : Bs < w.heap.size) (hBz : Bz < w.heap.size) (hn₀ : n₀ ≤ w.heap.size)
    (hc : w.cell? ⟨Bs, 0, none⟩ = some (.slice A len cap)) (hz : w.cell? ⟨Bz, 0, none⟩ = some (.int .i64 (L : Int))) (hI : Rd .u8 w n₀ A len xs) :
    SeqStopsK Fence.wide n Tryd.prog 73 #[.pointer (some ⟨Bs, 0, none⟩), .pointer (some ⟨Bz, 0, none⟩)] (fun x : Int => #[Value.int .u8 x]) (KeepsFor n₀ Bs Bz) (fun ys => ys = xs ++ zerosL L) (fun pre => pre <+: xs ++ zerosL L) (len + L) w := fun l J Jx W hW _ _ hY h0 =>
  dividend1_in n hn l Bs Bz n₀ A len cap L xs hreach hL J Jx hY W ((hW.cell (p := ⟨Bs, 0, none⟩) hBs).trans hc) ((hW.cell (p := ⟨Bz, 0, none⟩) hBz).trans hz) (hI.below' hW hn₀) h0
end Go.Proofs.YtkdodmjhpkfhnaaDoor
