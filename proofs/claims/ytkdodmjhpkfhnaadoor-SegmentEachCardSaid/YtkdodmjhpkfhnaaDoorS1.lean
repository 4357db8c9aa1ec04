/-
  The reference's Same, Own; bytes.Equal; slices.Clone, Grow, Concat.
-/
import Derived.Test.YtkdodmjhpkfhnaaDoorApp
namespace Go.Proofs.YtkdodmjhpkfhnaaDoor
open Go.RowKit

theorem bytesEqual_any {A A' : Option Addr} {n c n' c' B B' : Nat} {xs ys : List Int} {w : World} (h : Rd .u8 w B A n xs) (h' : Rd .u8 w B' A' n' ys) (hx : Byte xs) (hy : Byte ys) :
    Calls Tryd.prog 68 #[.slice A n c, .slice A' n' c'] w fun e w' => e = .returned (.bool (decide (xs = ys))) ∧ w = w' := by
  have c1 := h.convert (P := Tryd.prog) Tryd.underlying46 Tryd.underlying5 c
  have c2 := h'.convert (P := Tryd.prog) Tryd.underlying46 Tryd.underlying5 c'
  have k1 := c1 9 Tryd.underlying9
  have k2 := c2 9 Tryd.underlying9
  clear c1 c2
  go_enter Tryd.func68, Tryd.ntmps68
  go_wp2
  go_ret
  refine ⟨ret_bool ?_, rfl⟩
  rw [ByteArray.toList_eq, ByteArray.toList_eq]
  by_cases e : xs = ys
  · subst e; simp
  · rw [decide_eq_false e, beq_eq_false_iff_ne]
    intro h3
    refine e (strOfNums_inj hx hy ?_)
    show ByteArray.mk _ = ByteArray.mk _
    exact congrArg ByteArray.mk (Array.toList_inj.1 h3)

set_option maxHeartbeats 1000000 in
theorem clone_any {A : Option Addr} {n c : Nat} {xs : List Int} {w : World} (hI : Rd .u8 w w.heap.size A n xs) (hn : n ≤ 2199023255552) :
    Calls Tryd.prog 69 #[.slice A n c] w fun e w' => ∃ A2 c2, e = .returned (.slice A2 n c2) ∧
      w'.ownsRow w.heap.size 5 1 (.slice A2 n c2) n (xs.map (Value.int .u8)) ∧ Below w.heap.size w w' := by
  rcases A with _ | a
  · have hm : n = 0 := by
      rcases Nat.eq_zero_or_pos n with h0 | h0
      · exact h0
      · obtain ⟨_, _, h, _⟩ := hI.cells 0 h0
        cases h
    subst hm
    obtain rfl : xs = [] := List.eq_nil_of_length_eq_zero hI.len
    have hnil := fun (u : World) => Lib.run_eql_slice_nil (P := Tryd.prog) u 46 5 none 0 c 0 0 Tryd.underlying46
    go_enter Tryd.func69, Tryd.ntmps69
    go_wp2
    go_ret
    exact ⟨none, 0, rfl, by simpa using World.ownsRow_nil w w.heap.size 5 1, Below.refl _ _⟩
  · obtain ⟨A3, c3, w3, hrun, hown3, hB3⟩ := copy_run (c := c) hI hn
    have hO3 := Lib.hid hown3
    have hRun := Lib.hid hrun
    clear hown3 hrun
    have hnil := fun (u : World) => Lib.run_eql_slice_nil (P := Tryd.prog) u 46 5 (some a) n c 0 0 Tryd.underlying46
    go_enter Tryd.func69, Tryd.ntmps69
    go_wp2_with (at_builtin; refine Lib.wpList_append_run _ rfl _ _ _ _ rfl _ _ rfl rfl _ _ hRun.out ?_)
    go_ret
    exact ⟨A3, c3, rfl, hO3.out, hB3⟩

theorem drewN_two (w : World) (i j : Nat) : (w.drewN i).drewN j = w.drewN (i + j) := by simp [World.drewN, Nat.add_assoc]
end Go.Proofs.YtkdodmjhpkfhnaaDoor
