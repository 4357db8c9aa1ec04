/-
  examine.
-/
import Derived.Test.YtkkombhpiagngaaDoorVl
namespace Go.Proofs.YtkkombhpiagngaaDoor
open Go.RowKit Go.Shelf

def exOk (A : Option Addr) (n c : Nat) : Value := .agg #[.slice A n c, .bool true]
def exNo : Value := .agg #[.slice none 0 0, .bool false]
set_option maxHeartbeats 4000000 in
theorem examine_ok {A C : Option Addr} {n c m c' : Nat} {xs : List Int} {bs : List Bool} {w : World} (hK : Kinds w) (h : Rd .i64 w w.heap.size A n xs) (hn : n ≤ 1000000) (hB : RdB w C m bs) (hm : m ≤ 1000)
    (hs : softB xs = true) (hb : bs.any (fun x => !x) = false) :
    Calls Tryd.prog 33 #[.slice A n c, .slice C m c'] w fun e w' => e = .returned (.tuple #[exOk A n c, .int .i64 0]) ∧ Below w.heap.size w w' := by
  have hb0 := ((Below.refl w.heap.size w).alloc (Nat.le_refl _) (.cells #[.slice none 0 0, .bool false] 66))
  have hb1 := hb0.alloc hb0.size (.cells #[.slice A n c, .bool true] 66)
  have hC0 := Lib.hid (containsB_any (c := c') (hB.below hb0 (Nat.le_refl _)) hm)
  have hI0 := Lib.hid (isSoft_any (c := c) (hK.step hb1) (h.below hb1) hn)
  rw [hb] at hC0
  rw [hs] at hI0
  have HB := Lib.hid hb1
  clear hK h hB hs hb hb0 hb1
  go_enter Tryd.func33, Tryd.ntmps33
  go_wp2_with fail
  refine wp_scope_forward 0 rfl ?_
  go_wp2_with (first | (go_at_call 48; refine hC0.out.mono ?_; rintro e w1 ⟨rfl, rfl⟩) | (go_at_call 36; refine hI0.out.mono ?_; rintro e w1 ⟨rfl, rfl⟩) | fail)
  refine jump_ret ?_
  refine bodyPost_ret (examine_results rfl rfl ((Two.new w 66 _ _).alloc _)) rfl ?_
  exact ⟨rfl, below_two _ _⟩
set_option maxHeartbeats 4000000 in
theorem examine_no {A C : Option Addr} {n c m c' : Nat} {xs : List Int} {bs : List Bool} {w : World} (hK : Kinds w) (h : Rd .i64 w w.heap.size A n xs) (hn : n ≤ 1000000) (hB : RdB w C m bs) (hm : m ≤ 1000)
    (hb : softB xs = false ∨ bs.any (fun x => !x) = true) :
    Calls Tryd.prog 33 #[.slice A n c, .slice C m c'] w fun e w' => e = .returned (.tuple #[exNo, .int .i64 2]) ∧ Below w.heap.size w w' := by
  have hb0 := ((Below.refl w.heap.size w).alloc (Nat.le_refl _) (.cells #[.slice none 0 0, .bool false] 66))
  have hC0 := Lib.hid (containsB_any (c := c') (hB.below hb0 (Nat.le_refl _)) hm)
  by_cases hs : bs.any (fun x => !x) = true
  · have hb1 := hb0.alloc hb0.size (.cells #[.slice A n c, .bool false] 66)
    have HB := Lib.hid hb1
    rw [hs] at hC0
    clear hK h hB hs hb hb0 hb1
    go_enter Tryd.func33, Tryd.ntmps33
    go_wp2_with fail
    refine wp_scope_forward 0 rfl ?_
    go_wp2_with (first | (go_at_call 48; refine hC0.out.mono ?_; rintro e w1 ⟨rfl, rfl⟩) | fail)
    go_step3
    refine ⟨rfl, ?_⟩
    go_wp2
    rw [Exit.noGoto_ret]
    refine bodyPost_ret (examine_results rfl rfl ((Two.new w 66 _ _).alloc _)) rfl ?_
    exact ⟨rfl, below_two _ _⟩
  · have hs := Bool.eq_false_iff.2 hs
    have hf : softB xs = false := by
      rcases hb with h1 | h1
      · exact h1
      · rw [hs] at h1; cases h1
    have hb1 := hb0.alloc hb0.size (.cells #[.slice A n c, .bool true] 66)
    have hI0 := Lib.hid (isSoft_any (c := c) (hK.step hb1) (h.below hb1) hn)
    have HB := Lib.hid hb1
    rw [hs] at hC0
    rw [hf] at hI0
    clear hK h hB hs hb hb0 hb1 hf
    go_enter Tryd.func33, Tryd.ntmps33
    go_wp2_with fail
    refine wp_scope_forward 0 rfl ?_
    go_wp2_with (first | (go_at_call 48; refine hC0.out.mono ?_; rintro e w1 ⟨rfl, rfl⟩) | (go_at_call 36; refine hI0.out.mono ?_; rintro e w1 ⟨rfl, rfl⟩) | fail)
    go_step3
    refine ⟨rfl, ?_⟩
    go_wp2
    rw [Exit.noGoto_ret]
    refine bodyPost_ret (examine_results rfl rfl ((Two.new w 66 _ _).alloc _)) rfl ?_
    exact ⟨rfl, below_two _ _⟩
end Go.Proofs.YtkkombhpiagngaaDoor
