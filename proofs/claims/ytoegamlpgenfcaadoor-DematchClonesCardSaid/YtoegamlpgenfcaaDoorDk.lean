/-
  Same; the methods of a nil or zero buffer.
-/
import Derived.Test.YtoegamlpgenfcaaDoorDj
namespace Go.Proofs.YtoegamlpgenfcaaDoor
open Go.RowKit Go.Shelf

/-- Whether two states are equal. -/
def sameSt (s t : St) : Bool := (decide (s.k = t.k) && decide (s.f = t.f) && decide (s.l = t.l)) && decide (s.n = t.n) && decide (s.V = t.V)
set_option maxRecDepth 100000 in
set_option maxHeartbeats 4000000 in
theorem Same_buf {w : World} {B B2 N N2 c c2 : Nat} {s t : St} {A A2 : Option Addr} (h : BufAt w B s A N c) (h2 : BufAt w B2 t A2 N2 c2) :
    Calls Tryd.prog 16 #[.pointer (some ⟨B, 0, none⟩), .pointer (some ⟨B2, 0, none⟩)] w fun e w' => e = .returned (.bool (sameSt s t)) ∧ ∃ i, w' = w.drewN i := by
  have hI := Lib.hid (isNone_buf h)
  have hI2 := Lib.hid (isNone_buf h2)
  have c0 := bufC.c0 h.blk
  have c1 := bufC.c1 h.blk
  have c2' := bufC.c2 h.blk
  have c3 := bufC.c3 h.blk
  have c4 := bufC.c4 h.blk
  have d0 := bufC.c0 h2.blk
  have d1 := bufC.c1 h2.blk
  have d2 := bufC.c2 h2.blk
  have d3 := bufC.c3 h2.blk
  have d4 := bufC.c4 h2.blk
  have hE := Lib.hid (fun (j : Nat) => sliceEqual_any (c := c) (c' := c2) (h.rd.drewN j) (h2.rd.drewN j) (by have := h.pos; omega) (by have := h2.pos; omega))
  have hq := fun (u : World) => eq_par (s.k : Int) (s.f : Int) (s.l : Int) (t.k : Int) (t.f : Int) (t.l : Int) u
  have hb : (((s.k : Int) == (t.k : Int)) && ((s.f : Int) == (t.f : Int)) && ((s.l : Int) == (t.l : Int))) = (decide (s.k = t.k) && decide (s.f = t.f) && decide (s.l = t.l)) := by
    by_cases e1 : s.k = t.k <;> by_cases e2 : s.f = t.f <;> by_cases e3 : s.l = t.l <;> simp [e1, e2, e3] <;> omega
  have hn : ((s.n : Int) == (t.n : Int)) = decide (s.n = t.n) := by
    by_cases e1 : s.n = t.n
    · simp [e1]
    · simp [e1]; omega
  rw [hb] at hq
  unfold sameSt
  generalize (decide (s.k = t.k) && decide (s.f = t.f) && decide (s.l = t.l)) = b1 at *
  generalize decide (s.n = t.n) = b2 at *
  generalize decide (s.V = t.V) = b3 at *
  clear hb h h2
  cases b1
  · go_enter Tryd.func16, Tryd.ntmps16
    go_wp2_with (first | (with_reducible refine hI.out.mono ?_; rintro e w' ⟨rfl, he⟩; obtain rfl := he.symm) | (with_reducible refine hI2.out.mono ?_; rintro e w' ⟨rfl, he⟩; obtain rfl := he.symm) | fail)
    go_quiet (fail)
    go_wp2_with fail
    go_ret
    exact ⟨rfl, _, rfl⟩
  · cases b2
    · go_enter Tryd.func16, Tryd.ntmps16
      go_wp2_with (first | (with_reducible refine hI.out.mono ?_; rintro e w' ⟨rfl, he⟩; obtain rfl := he.symm) | (with_reducible refine hI2.out.mono ?_; rintro e w' ⟨rfl, he⟩; obtain rfl := he.symm) | fail)
      go_quiet (fail)
      go_wp2_with fail
      go_ret
      exact ⟨rfl, _, rfl⟩
    · go_enter Tryd.func16, Tryd.ntmps16
      go_wp2_with (first | (with_reducible refine hI.out.mono ?_; rintro e w' ⟨rfl, he⟩; obtain rfl := he.symm) | (with_reducible refine hI2.out.mono ?_; rintro e w' ⟨rfl, he⟩; obtain rfl := he.symm) | fail)
      go_quiet ((go_at_call 37; exact Calls.quiet_of (hE.out _)))
      go_wp2_with fail
      go_ret
      exact ⟨rfl, _, rfl⟩
/-- A nil or zero buffer. -/
def NoB (w : World) (v : Value) : Prop := ∀ u, Below w.heap.size w u → Calls Tryd.prog 36 #[v] u fun e w' => e = .returned (.bool true) ∧ w' = u
theorem NoB.nil_ (w : World) : NoB w (.pointer none) := fun _ _ => isNone_nil
theorem NoB.zero {w : World} {B : Nat} (h : ZeroAt w B) : NoB w (.pointer (some ⟨B, 0, none⟩)) := fun _ hb => isNone_zero (blk_below h hb)
theorem NoB.below {w w' : World} {v : Value} (h : NoB w v) (hb : Below w.heap.size w w') : NoB w' v := fun u hu => h u (hb.trans (hu.mono hb.size))
set_option maxRecDepth 100000 in
theorem Values_no {w : World} {v : Value} (h : NoB w v) : Calls Tryd.prog 21 #[v] w fun e w' => e = .returned (.slice none 0 0) ∧ w' = w := by
  have hI := Lib.hid h
  clear h
  go_enter Tryd.func21, Tryd.ntmps21
  go_wp2_with (first | (go_at_call 36; refine (hI.out _ (Below.refl _ _)).mono ?_; rintro e w' ⟨rfl, he⟩; obtain rfl := he.symm) | fail)
  go_ret
  exact ⟨rfl, rfl⟩
set_option maxRecDepth 100000 in
theorem Streams_no {w : World} {v : Value} (h : NoB w v) : Calls Tryd.prog 18 #[v] w fun e w' => e = .returned (.tuple #[.slice none 0 0, .slice none 0 0, .slice none 0 0]) ∧ w' = w := by
  have hI := Lib.hid h
  clear h
  go_enter Tryd.func18, Tryd.ntmps18
  go_wp2_with (first | (go_at_call 36; refine (hI.out _ (Below.refl _ _)).mono ?_; rintro e w' ⟨rfl, he⟩; obtain rfl := he.symm) | fail)
  go_ret3
  exact ⟨rfl, rfl⟩
set_option maxRecDepth 100000 in
theorem Known_no {w : World} {v : Value} (h : NoB w v) : Calls Tryd.prog 22 #[v] w fun e w' => e = .returned (.int .i64 0) ∧ w' = w := by
  have hI := Lib.hid h
  clear h
  go_enter Tryd.func22, Tryd.ntmps22
  go_wp2_with (first | (go_at_call 36; refine (hI.out _ (Below.refl _ _)).mono ?_; rintro e w' ⟨rfl, he⟩; obtain rfl := he.symm) | fail)
  go_ret
  exact ⟨rfl, rfl⟩
set_option maxRecDepth 100000 in
theorem Received_no {w : World} {v : Value} (h : NoB w v) : Calls Tryd.prog 23 #[v] w fun e w' => e = .returned (.int .i64 0) ∧ w' = w := by
  have hI := Lib.hid h
  clear h
  go_enter Tryd.func23, Tryd.ntmps23
  go_wp2_with (first | (go_at_call 36; refine (hI.out _ (Below.refl _ _)).mono ?_; rintro e w' ⟨rfl, he⟩; obtain rfl := he.symm) | fail)
  go_ret
  exact ⟨rfl, rfl⟩
set_option maxRecDepth 100000 in
theorem Clone_no {w : World} {v : Value} (h : NoB w v) : Calls Tryd.prog 15 #[v] w fun e w' => e = .returned (.pointer none) ∧ w' = w := by
  have hI := Lib.hid h
  clear h
  go_enter Tryd.func15, Tryd.ntmps15
  go_wp2_with (first | (go_at_call 36; refine (hI.out _ (Below.refl _ _)).mono ?_; rintro e w' ⟨rfl, he⟩; obtain rfl := he.symm) | fail)
  go_ret
  exact ⟨rfl, rfl⟩
set_option maxRecDepth 100000 in
theorem Same_no {w : World} {v : Value} (h : NoB w v) : Calls Tryd.prog 16 #[v, .pointer none] w fun e w' => e = .returned (.bool true) ∧ w' = w := by
  have hI := Lib.hid (h w (Below.refl _ _))
  have hI2 := Lib.hid (isNone_nil (w := w))
  clear h
  go_enter Tryd.func16, Tryd.ntmps16
  go_wp2_with (first | (with_reducible refine (hI.out).mono ?_; rintro e w' ⟨rfl, he⟩; obtain rfl := he.symm) | (with_reducible refine (hI2.out).mono ?_; rintro e w' ⟨rfl, he⟩; obtain rfl := he.symm) | fail)
  go_ret
  exact ⟨rfl, rfl⟩
set_option maxRecDepth 100000 in
theorem Reset_no {w : World} {v : Value} (h : NoB w v) : Calls Tryd.prog 20 #[v] w fun e w' => e = .returned (.int .i64 1) ∧ Below w.heap.size w w' := by
  have hI := Lib.hid h
  clear h
  go_enter Tryd.func20, Tryd.ntmps20
  go_wp2_with fail
  refine wp_scope_forward 0 rfl ?_
  go_wp2_with (first | (go_at_call 36; refine (hI.out _ (Below.refl _ _)).mono ?_; rintro e w' ⟨rfl, he⟩; obtain rfl := he.symm) | fail)
  go_step3
  refine ⟨rfl, ?_⟩
  go_wp2
  rw [Exit.noGoto_ret]
  go_ret
  exact ⟨rfl, Below.refl _ _⟩
set_option maxRecDepth 100000 in
theorem Add_no {w : World} {v : Value} {A2 : Option Addr} {m c2 : Nat} {rv : Int} (h : NoB w v) : Calls Tryd.prog 19 #[v, .int .i64 rv, .slice A2 m c2] w fun e w' => e = .returned (.int .i64 1) ∧ Below w.heap.size w w' := by
  have hI := Lib.hid h
  have HB := Lib.hid ((Below.refl w.heap.size w).alloc (Nat.le_refl _) (.cells #[.slice A2 m c2] 28))
  clear h
  go_enter Tryd.func19, Tryd.ntmps19
  go_wp2_with fail
  refine wp_scope_forward 0 rfl ?_
  go_wp2_with (first | (go_at_call 36; refine (hI.out _ HB.out).mono ?_; rintro e w' ⟨rfl, he⟩; obtain rfl := he.symm) | fail)
  go_step3
  refine ⟨rfl, ?_⟩
  go_wp2
  rw [Exit.noGoto_ret]
  go_ret
  exact ⟨rfl, HB.out⟩
end Go.Proofs.YtoegamlpgenfcaaDoor
