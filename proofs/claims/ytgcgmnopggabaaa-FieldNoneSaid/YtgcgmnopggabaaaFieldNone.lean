/-
  The law FieldNone returns true for every call of a writer and every call of a reader, and leaves its arguments alone (no condition).
-/
import Derived.Test.YtgcgmnopggabaaaRows
import Derived.WalkKit
import Derived.Test.YtgcgmnopggabaaaL2
import Derived.Test.YtgcgmnopggabaaaOpen
import Derived.ProofKit
import Derived.OpenShut
import Derived.ShutString
import Derived.ChangeOld
import Derived.Below
namespace Go.Proofs.Ytgcgmnopggabaaa.fieldNone
open Go.ChangeShapes Go.WideShapes Go.ChangeAt Go.RowKit Go.Deep
set_option linter.unusedVariables false

theorem own : ownKnob Try.prog.godebug = none := by kernel_rfl
theorem laidOut : laidOutB Try.prog = true := by kernel_rfl

set_option maxRecDepth 100000 in
set_option maxHeartbeats 2000000 in
theorem none_long {w : World} {what v num what2 num2 : Int} {Ba La Ya : Option Addr} {bn bc ln lc yn yc : Nat} (h : 40 < bn ∨ 20 < ln ∨ 20 < yn) :
    Calls Try.prog 5 #[.agg #[.int .i64 what, .int .u64 v, .int .i64 num, .slice Ba bn bc, .slice La ln lc], .agg #[.int .i64 what2, .int .i64 num2, .slice Ya yn yc]] w fun e w' => e = .returned (.bool true) ∧ Below w.heap.size w w' := by
  obtain ⟨wa, hwa⟩ : ∃ W, W = w.alloc (.cells #[.int .i64 what, .int .u64 v, .int .i64 num, .slice Ba bn bc, .slice La ln lc] 36) := ⟨_, rfl⟩
  obtain ⟨wb, hwb⟩ : ∃ W, W = wa.alloc (.cells #[.int .i64 what2, .int .i64 num2, .slice Ya yn yc] 49) := ⟨_, rfl⟩
  have hX : wb.heap[w.heap.size]? = some (.cells #[.int .i64 what, .int .u64 v, .int .i64 num, .slice Ba bn bc, .slice La ln lc] 36) := by
    rw [hwb, Below.heap_alloc _ _ _ (by rw [hwa]; simp), hwa]; exact World.alloc_heap_new _ _
  have hY : wb.heap[w.heap.size + 1]? = some (.cells #[.int .i64 what2, .int .i64 num2, .slice Ya yn yc] 49) := by
    have := World.alloc_heap_new wa (.cells #[.int .i64 what2, .int .i64 num2, .slice Ya yn yc] 49)
    rw [← hwb] at this
    rw [show wa.heap.size = w.heap.size + 1 by rw [hwa]; simp] at this
    exact this
  have hb0 : Below w.heap.size w wb := by rw [hwb, hwa]; exact ((Below.refl _ w).alloc (Nat.le_refl _) _).alloc (by simp) _
  have x3 := blk_cell hX (j := 3) rfl
  have x4 := blk_cell hX (j := 4) rfl
  have y2 := blk_cell hY (j := 2) rfl
  have HB := Lib.hid hb0
  subst hwb hwa
  clear hX hY hb0
  by_cases g1 : 40 < bn
  · have d1 : decide (40 < (bn : Int)) = true := by simp; omega
    go_enter Try.func5, Try.ntmps5
    go_wp2_with fail
    refine (works_any _).mono ?_
    rintro e w1 ⟨rfl, hb1⟩
    go_wp2
    go_ret
    exact ⟨rfl, HB.out.trans (hb1.mono HB.out.size)⟩
  · have d1 : decide (40 < (bn : Int)) = false := by simp; omega
    by_cases g2 : 20 < ln
    · have d2 : decide (20 < (ln : Int)) = true := by simp; omega
      go_enter Try.func5, Try.ntmps5
      go_wp2_with fail
      refine (works_any _).mono ?_
      rintro e w1 ⟨rfl, hb1⟩
      go_wp2
      go_ret
      exact ⟨rfl, HB.out.trans (hb1.mono HB.out.size)⟩
    · have d2 : decide (20 < (ln : Int)) = false := by simp; omega
      have d3 : decide (20 < (yn : Int)) = true := by simp; omega
      go_enter Try.func5, Try.ntmps5
      go_wp2_with fail
      refine (works_any _).mono ?_
      rintro e w1 ⟨rfl, hb1⟩
      go_wp2
      go_ret
      exact ⟨rfl, HB.out.trans (hb1.mono HB.out.size)⟩

set_option maxRecDepth 100000 in
theorem lifted (os : Os) (started : os.Started) (H : Type) (enc : TypeId × Value → H) :
    ReturnsInHanded {} Try.checked os 5 .any (Rows.fieldNoneSpec.pre6 enc Try.prog Try.f5 Rows.fieldNoneRow.domain false) (Rows.fieldNoneSpec.post enc Try.prog Try.f5 false true false false) := by
  refine returnsInHanded_of_change (C := Try.checked) own started (by kernel_rfl) Try.func5
    (ChangeSpec.witness6 (enc := enc) (C := Try.checked) false ⟨#[], #[.agg #[.int .i64 0, .int .u64 0, .int .i64 0, .slice none 0 0, .slice none 0 0], .agg #[.int .i64 0, .int .i64 0, .slice none 0 0]], []⟩ 8 (by kernel_rfl) (by kernel_rfl) (by kernel_rfl) (by kernel_rfl)) ?_
  intro W base args ds gs before hval0 hW hcnd _
  have hval : ∀ (j : Nat) t v, Try.f5.params[j]? = some t → args[j]? = some v → Value.okWide Try.prog W .any base t v := hval0
  have hW' := hW
  obtain ⟨p, q, hA0, hV, rfl, hfz, hnd⟩ := hW
  have hA : DataW.TrodAll enc Try.prog W 0 (fun _ => true) true Try.f5.params.toList args.toList ds p := hA0
  rw [Try.params5] at hA hval
  obtain ⟨v0, vs0, d0, ds0, p0, q0, hargs, rfl, rfl, h0, r0⟩ := trodAll_cons hA
  obtain ⟨v1, vs1, d1, ds1, p1, q1, hargs1, rfl, rfl, h1, r1⟩ := trodAll_cons r0
  obtain ⟨rfl, rfl, rfl⟩ := trodAll_nil r1
  obtain rfl : args = #[v0, v1] := by cases args; simp_all
  obtain ⟨rfl, rfl⟩ := trodVars_none hV
  have k0 := h0
  have k1 := h1
  have lt0 : ∀ x ∈ p0, x.block < W.heap.size := by obtain ⟨m, hm⟩ := k0; exact DataW.trod_lt m _ _ _ hm
  have lt1 : ∀ x ∈ p1, x.block < W.heap.size := by obtain ⟨m, hm⟩ := k1; exact DataW.trod_lt m _ _ _ hm
  obtain ⟨cs0, rfl, _⟩ := okWide_struct Try.underlying36 (hval 0 36 v0 rfl rfl)
  obtain ⟨cs1, rfl, _⟩ := okWide_struct Try.underlying49 (hval 1 49 v1 rfl rfl)
  obtain ⟨r, hr, g0⟩ : ∃ r : ActRow, cs0 = r.cells.toArray ∧ r.Good W W.heap.size := by
    obtain ⟨fuel, hf⟩ := h0
    obtain ⟨r, h2, h3⟩ := op_act hf
    exact ⟨r, by rw [← h2]; simp [Value.cells], h3⟩
  obtain ⟨s, hs, g1⟩ : ∃ s : AskRow, cs1 = s.cells.toArray ∧ s.Good W W.heap.size := by
    obtain ⟨fuel, hf⟩ := h1
    obtain ⟨r, h2, h3⟩ := op_ask hf
    exact ⟨r, by rw [← h2]; simp [Value.cells], h3⟩
  obtain ⟨what, v, num, Ba, bn, bc, bxs, La, ln, lc, fs⟩ := r
  obtain ⟨what2, num2, Ya, yn, yc, ys⟩ := s
  simp only [ActRow.cells] at hr
  simp only [AskRow.cells] at hs
  subst hr hs
  clear hA0 hval0
  have key : Calls Try.prog 5 #[.agg #[.int .i64 what, .int .u64 v, .int .i64 num, .slice Ba bn bc, .slice La ln lc], .agg #[.int .i64 what2, .int .i64 num2, .slice Ya yn yc]] W fun e w' => e = .returned (.bool true) ∧ Below W.heap.size W w' := by
    by_cases hl : 40 < bn ∨ 20 < ln ∨ 20 < yn
    · exact none_long hl
    · exact none_short (by omega) (by omega) (by omega)
  refine key.mono fun e W' ⟨he, bel⟩ => ?_
  subst he
  exact ⟨_, rfl, _, _, _, [], _, [], hW', trodAll_mk1 (shut_bool Try.underlying4 _), (trodAll_cons_mk (Below.trod laidOut (by kernel_rfl) (of_decide_eq_true (by kernel_rfl)) k0 bel lt0) (trodAll_cons_mk (Below.trod laidOut (by kernel_rfl) (of_decide_eq_true (by kernel_rfl)) k1 bel lt1) trodAll_mk0)), rfl, bel.frame _, fun h => by cases h⟩

theorem over : Rows.fieldNoneRow.holds Try.pinned (OpenSpec.ofChange Rows.fieldNoneSpec) :=
  OpenClaim.holds_of_wide 5 Try.f5 rfl rfl rfl rfl rfl rfl rfl ⟨rfl, rfl, rfl, rfl, rfl⟩ rfl rfl rfl rfl rfl (by kernel_rfl) Try.func5 (by kernel_rfl)
    (of_decide_eq_true (by kernel_rfl)) (by unfold Func.isWrapper; first | (rw [if_pos (by decide +kernel)]; kernel_rfl) | (rw [if_neg (by decide +kernel)]; exact ⟨rfl, rfl⟩))
    (fun os started H enc _ => lifted os started H enc)

theorem proved : Rows.FieldNoneSaid := over
end Go.Proofs.Ytgcgmnopggabaaa.fieldNone
