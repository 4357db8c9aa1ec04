/-
  The reference's Branches, Previous.
-/
import Derived.Test.YtjehfdnkdfmmbaaR1
import Derived.Test.YtjehfdnkdfmmbaaTb
namespace Go.Proofs.Ytjehfdnkdfmmbaa
open Go.RowKit

theorem brI_0 (s b : Nat) (hb : b < 2) : brI (2 * s + b) 0 = (s : Int) := by
  unfold brI brN
  rw [if_pos (by omega), show (4 * (2 * s + b) + 0) / 4 / 2 = s by omega]
theorem brI_1 (s b : Nat) (hb : b < 2) : brI (2 * s + b) 1 = (b : Int) := by
  unfold brI brN
  rw [if_neg (by omega), if_pos (by omega), show (4 * (2 * s + b) + 1) / 4 % 2 = b by omega]
theorem brI_2 (s b : Nat) (hb : b < 2) : brI (2 * s + b) 2 = ((parS7 s b : Nat) : Int) := by
  unfold brI brN
  rw [if_neg (by omega), if_neg (by omega), if_pos (by omega), show (4 * (2 * s + b) + 2) / 4 / 2 = s by omega, show (4 * (2 * s + b) + 2) / 4 % 2 = b by omega]
theorem brI_3 (s b : Nat) (hb : b < 2) : brI (2 * s + b) 3 = ((nextS s b : Nat) : Int) := by
  rw [brI_next, show (2 * s + b) / 2 = s by omega, show (2 * s + b) % 2 = b by omega]
def rowB (m : Nat) : List Value := (List.range m).flatMap brV
theorem rowB_succ (m : Nat) : rowB (m + 1) = rowB m ++ brV m := by unfold rowB; rw [List.range_succ, List.flatMap_append, List.flatMap_cons, List.flatMap_nil, List.append_nil]
set_option maxHeartbeats 4000000 in
theorem refBranches_any {w : World} : Calls Try.prog 23 #[] w fun e w' => ∃ A c, e = .returned (.slice A 16 c) ∧ w'.ownsRow w.heap.size 50 4 (.slice A 16 c) 16 (rowB 16) ∧ Below w.heap.size w w' := by
  go_enter Try.func23, Try.ntmps23
  go_wp2_with fail
  go_loopw [1, 2] (fun v i W => ∃ (s c : Nat) (A : Option Addr), s ≤ 8 ∧ v = .slice A (2 * s) c ∧ i = .int .i64 (s : Int) ∧ Hid (W.ownsRow w.heap.size 50 4 (.slice A (2 * s) c) (2 * s) (rowB (2 * s)) ∧ Below w.heap.size w W)) (fun _ i _ => 8 - (intOf i).toNat)
  case atStart => exact ⟨0, 0, none, Nat.zero_le _, rfl, rfl, Lib.hid ⟨by simpa [rowB] using World.ownsRow_nil w w.heap.size 50 4, Below.refl _ _⟩⟩
  case round =>
    obtain ⟨s, c, A, hs, rfl, rfl, hH⟩ := hrel
    by_cases hlt : s < 8
    · have hs3 : (s : Int) < 8 := by omega
      go_wp2_with fail
      go_loopw [1, 3] (fun v i W => ∃ (b c : Nat) (A : Option Addr), b ≤ 2 ∧ v = .slice A (2 * s + b) c ∧ i = .int .i64 (b : Int) ∧ Hid (W.ownsRow w.heap.size 50 4 (.slice A (2 * s + b) c) (2 * s + b) (rowB (2 * s + b)) ∧ Below w.heap.size w W)) (fun _ i _ => 2 - (intOf i).toNat)
      case atStart => exact ⟨0, c, A, Nat.zero_le _, rfl, rfl, hH⟩
      case round =>
        clear hH
        obtain ⟨b, c, A, hb, rfl, rfl, hH⟩ := hrel
        by_cases hbl : b < 2
        · have hS := Lib.hid (fun (v : World) => refStep_any (w := v) hlt hbl)
          obtain ⟨A2, c2, w3, hrun, hO3, hg3⟩ := append_br (x := (s : Int)) (y := (b : Int)) (z := ((parS7 s b : Nat) : Int)) (u := ((nextS s b : Nat) : Int)) hH.out.1 (by omega) hH.out.2.size
          have hb4 := (hH.out.2.alloc hH.out.2.size (.cells #[.int .i64 (s : Int), .int .i64 (b : Int), .int .i64 ((parS7 s b : Nat) : Int), .int .i64 ((nextS s b : Nat) : Int)] 50)).grown hg3 (by have := hH.out.2.size; simp; omega) (fun j hj => (hH.out.1.lt j hj).1)
          have hrow : rowB (2 * s + b) ++ [.int .i64 (s : Int), .int .i64 (b : Int), .int .i64 ((parS7 s b : Nat) : Int), .int .i64 ((nextS s b : Nat) : Int)] = rowB (2 * s + b + 1) := by
            rw [rowB_succ, brV, brI_0 s b hbl, brI_1 s b hbl, brI_2 s b hbl, brI_3 s b hbl]
          rw [hrow] at hO3
          have HF := Lib.hid (And.intro hO3 hb4)
          have HR := Lib.hid hrun
          have hb3 : (b : Int) < 2 := by omega
          generalize parS7 s b = p at *
          generalize nextS s b = nx at *
          clear hrun hO3 hg3 hb4 hrow hH
          go_wp2_with fail
          refine (hS.out _).mono ?_
          rintro e w9 ⟨rfl, he⟩
          obtain rfl := he.symm
          clear hS
          go_wp2_with (at_builtin; refine Lib.wpList_append_run _ rfl _ _ _ _ rfl _ _ rfl rfl _ _ HR.out ?_)
          go_roundw
          case rel => exact ⟨b + 1, c2, A2, by omega, rfl, by go_num, HF⟩
          case measure => simp [intOf]; omega
        · obtain rfl : b = 2 := by omega
          have hH2 : Hid (wr.ownsRow w.heap.size 50 4 (.slice A (2 * (s + 1)) c) (2 * (s + 1)) (rowB (2 * (s + 1))) ∧ Below w.heap.size w wr) := hH
          clear hH
          go_wp2_with fail
          go_roundw
          case rel => exact ⟨s + 1, c, A, by omega, rfl, by go_num, hH2⟩
          case measure => simp [intOf]; omega
    · obtain rfl : s = 8 := by omega
      have h1 := Lib.hid hH.out.1
      have h2 := Lib.hid hH.out.2
      clear hH
      go_wp2_with fail
      go_ret
      exact ⟨A, c, rfl, h1.out, h2.out⟩
end Go.Proofs.Ytjehfdnkdfmmbaa
