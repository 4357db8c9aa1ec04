/-
  slices.Clone: what it returns; what was there stays.
-/
import Derived.Test.YtgcgmnopggabaaaV1
import Derived.WalkSpells
import Derived.Deep.QuietTactic
import Derived.BigQuiet
import Derived.Maps.AppendAt
namespace Go.Proofs.Ytgcgmnopggabaaa
open Go.RowKit

set_option maxHeartbeats 1000000 in
theorem clone_any {A : Option Addr} {n c B : Nat} {xs : List Int} {w : World} (hI : Rd .u8 w B A n xs) (hB : B ≤ w.heap.size) (hn : n ≤ 140737488351232) :
    Calls Try.prog 37 #[.slice A n c] w fun e w' => ∃ A2 c2, e = .returned (.slice A2 n c2) ∧
      w'.ownsRow w.heap.size 5 1 (.slice A2 n c2) n (xs.map (Value.int .u8)) ∧ Below w.heap.size w w' := by
  obtain ⟨i0, hi, hz0, hz1, hz2⟩ := info_parts Try.info_u8
  rcases A with _ | a
  · have hm : n = 0 := by
      rcases Nat.eq_zero_or_pos n with h0 | h0
      · exact h0
      · obtain ⟨_, _, h, _⟩ := hI.cells 0 h0
        cases h
    subst hm
    obtain rfl : xs = [] := List.eq_nil_of_length_eq_zero hI.len
    have hnil := fun (u : World) => Lib.run_eql_slice_nil (P := Try.prog) u 25 5 none 0 c 0 0 Try.underlying25
    go_enter Try.func37, Try.ntmps37
    go_wp2
    go_ret
    exact ⟨none, 0, rfl, by simpa using World.ownsRow_nil w w.heap.size 5 1, Below.refl _ _⟩
  · have ho : (w.alloc (.cells #[] 5)).ownsRow w.heap.size 5 1 (.slice (some ⟨w.heap.size, 0, none⟩) 0 0) 0 (([] : List Int).map (Value.int .u8)) :=
      World.ownsRow_lit w #[] 0 (Nat.le_refl _) (by unfold maxLen; omega) (by simp)
    obtain ⟨A3, c3, w3, hrun, hown3, hgrow3⟩ := run_append_rd (P := Try.prog) (t := 25) (ty := 25) (c' := c) Try.underlying25 hi hz0 hz1 hz2 ho (hI.alloc hB _) (by omega) (by simp)
    have hB3 : Below w.heap.size w w3 := ((Below.refl _ w).alloc (Nat.le_refl _) _).grown hgrow3 (by simp) (fun g hg => by simp [Value.ownBlock] at hg; omega)
    simp only [Nat.zero_add, List.nil_append] at hrun hown3
    have hO3 := Lib.hid hown3
    have hRun := Lib.hid hrun
    clear hown3 hrun ho
    have hnil := fun (u : World) => Lib.run_eql_slice_nil (P := Try.prog) u 25 5 (some a) n c 0 0 Try.underlying25
    go_enter Try.func37, Try.ntmps37
    go_wp2_with (at_builtin; refine Lib.wpList_append_run _ rfl _ _ _ _ rfl _ _ rfl rfl _ _ hRun.out ?_)
    go_ret
    exact ⟨A3, c3, rfl, hO3.out, hB3⟩

end Go.Proofs.Ytgcgmnopggabaaa
