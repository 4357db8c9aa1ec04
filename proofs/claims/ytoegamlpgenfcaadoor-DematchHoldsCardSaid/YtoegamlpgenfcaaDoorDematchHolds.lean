/-
  For any parameters, any seed and any slices of integers DematchHolds returns true: ideal soft values of one word never give a value of the wrong sign, and make all usable places known after one round (blocks of at most 200 bits, at most 6 transmissions of at most 1000 bits; the chapter's examples for others).
  Conditions: the package-level variable that the row lists holds what the program's own initialiser lays (tied to the program's text by the given tie).
-/
import Derived.Test.YtoegamlpgenfcaaDoorTie
import Derived.Test.YtoegamlpgenfcaaDoorCards
import Derived.SevenTiedAt
import Derived.WalkKit
import Derived.Test.YtoegamlpgenfcaaDoorOpen
import Derived.Test.YtoegamlpgenfcaaDoorL4
import Derived.ShutString
import Derived.Below
namespace Go.Proofs.YtoegamlpgenfcaaDoor.dematchHolds
open Go.ChangeShapes Go.WideShapes Go.ChangeAt Go.RowKit Go.Deep
set_option linter.unusedVariables false

set_option maxRecDepth 100000 in
theorem lifted (os : Os) (started : os.Started) (H : Type) (enc : TypeId × Value → H) :
    ReturnsInHanded {} Tryd.checked os 8 .any (fun w args => (Rows.dematchHoldsSpec.pre enc Tryd.prog Tryd.f8 [] false w args ∧ laidMetH Tryd.prog laids w) ∧ sizedMet enc Tryd.prog Tryd.f8 (OpenSpec.ofChange Rows.dematchHoldsSpec) false w args)
      (Rows.dematchHoldsSpec.post enc Tryd.prog Tryd.f8 false true false false) := by
  refine returnsInHanded_of_change_and (C := Tryd.checked) (X := fun w _ => laidMetH Tryd.prog laids w) (fun _ _ _ hh h => h.of_heap hh) own started (by kernel_rfl) Tryd.func8
    (ChangeSpec.witness_shaped (enc := enc) (C := Tryd.checked) (os := os) (X := fun w _ => laidMetH Tryd.prog laids w) false (World.doorLaid Tryd.prog 400 os) #[.int .i64 0, .int .i64 0, .int .i64 0, .int .i64 0, .slice none 0 0, .slice none 0 0, .slice none 0 0] 8 rfl (World.shaped_of_RefB (by kernel_rfl) (by kernel_rfl)) (by kernel_rfl) (by kernel_rfl) (by kernel_rfl) (door_met os _)) ?_
  intro W base args ds gs before hval0 hW hcnd _ hL _
  have hKinds := kinds_of_laid hL
  have hval : ∀ (j : Nat) t v, Tryd.f8.params[j]? = some t → args[j]? = some v → Value.okWide Tryd.prog W .any base t v := hval0
  have hW' := hW
  obtain ⟨p, q, hA0, hV, rfl, hfz, hnd⟩ := hW
  have hA : DataW.TrodAll enc Tryd.prog W 0 (fun _ => true) true Tryd.f8.params.toList args.toList ds p := hA0
  rw [Tryd.params8] at hA hval
  obtain ⟨v0, vs0, d0, ds0, p0, q0, hargs0, rfl, rfl, h0, r0⟩ := trodAll_cons hA
  obtain ⟨v1, vs1, d1, ds1, p1, q1, hargs1, rfl, rfl, h1, r1⟩ := trodAll_cons r0
  obtain ⟨v2, vs2, d2, ds2, p2, q2, hargs2, rfl, rfl, h2, r2⟩ := trodAll_cons r1
  obtain ⟨v3, vs3, d3, ds3, p3, q3, hargs3, rfl, rfl, h3, r3⟩ := trodAll_cons r2
  obtain ⟨v4, vs4, d4, ds4, p4, q4, hargs4, rfl, rfl, h4, r4⟩ := trodAll_cons r3
  obtain ⟨v5, vs5, d5, ds5, p5, q5, hargs5, rfl, rfl, h5, r5⟩ := trodAll_cons r4
  obtain ⟨v6, vs6, d6, ds6, p6, q6, hargs6, rfl, rfl, h6, r6⟩ := trodAll_cons r5
  obtain ⟨rfl, rfl, rfl⟩ := trodAll_nil r6
  obtain rfl : args = #[v0, v1, v2, v3, v4, v5, v6] := by cases args; simp_all
  obtain ⟨rfl, rfl⟩ := trodVars_none hV
  obtain ⟨k0, rfl⟩ := okWide_int Tryd.underlying3 (hval 0 3 v0 rfl rfl)
  have hk0 := h0
  have lt0 : ∀ x ∈ p0, x.block < W.heap.size := by obtain ⟨m, hm⟩ := hk0; exact DataW.trod_lt m _ _ _ hm
  have w0 := wf_i64 (show (Lit.int .i64 k0).wf = true by
    obtain ⟨fuel, hf⟩ := h0
    simp only [Value.cells] at hf
    exact op_int Tryd.underlying3 hf)
  obtain ⟨k1, rfl⟩ := okWide_int Tryd.underlying3 (hval 1 3 v1 rfl rfl)
  have hk1 := h1
  have lt1 : ∀ x ∈ p1, x.block < W.heap.size := by obtain ⟨m, hm⟩ := hk1; exact DataW.trod_lt m _ _ _ hm
  have w1 := wf_i64 (show (Lit.int .i64 k1).wf = true by
    obtain ⟨fuel, hf⟩ := h1
    simp only [Value.cells] at hf
    exact op_int Tryd.underlying3 hf)
  obtain ⟨k2, rfl⟩ := okWide_int Tryd.underlying3 (hval 2 3 v2 rfl rfl)
  have hk2 := h2
  have lt2 : ∀ x ∈ p2, x.block < W.heap.size := by obtain ⟨m, hm⟩ := hk2; exact DataW.trod_lt m _ _ _ hm
  have w2 := wf_i64 (show (Lit.int .i64 k2).wf = true by
    obtain ⟨fuel, hf⟩ := h2
    simp only [Value.cells] at hf
    exact op_int Tryd.underlying3 hf)
  obtain ⟨k3, rfl⟩ := okWide_int Tryd.underlying3 (hval 3 3 v3 rfl rfl)
  have hk3 := h3
  have lt3 : ∀ x ∈ p3, x.block < W.heap.size := by obtain ⟨m, hm⟩ := hk3; exact DataW.trod_lt m _ _ _ hm
  have w3 := wf_i64 (show (Lit.int .i64 k3).wf = true by
    obtain ⟨fuel, hf⟩ := h3
    simp only [Value.cells] at hf
    exact op_int Tryd.underlying3 hf)
  obtain ⟨a4, n4, c4, rfl⟩ := okWide_slice Tryd.underlying28 (hval 4 28 v4 rfl rfl)
  have hk4 := h4
  have lt4 : ∀ x ∈ p4, x.block < W.heap.size := by obtain ⟨m, hm⟩ := hk4; exact DataW.trod_lt m _ _ _ hm
  obtain ⟨x4, hc4, hR4⟩ : ∃ x, n4 ≤ c4 ∧ Rd .i64 W W.heap.size a4 n4 x := by
    obtain ⟨fuel, hf⟩ := h4
    simp only [Value.cells] at hf
    obtain ⟨A', n', c', x, e, hc, h, _⟩ := op_row Tryd.underlying28 Tryd.underlying3 (by kernel_rfl) hf
    injection e with e1 e2 e3
    subst e1 e2 e3
    exact ⟨x, hc, h⟩
  obtain ⟨a5, n5, c5, rfl⟩ := okWide_slice Tryd.underlying28 (hval 5 28 v5 rfl rfl)
  have hk5 := h5
  have lt5 : ∀ x ∈ p5, x.block < W.heap.size := by obtain ⟨m, hm⟩ := hk5; exact DataW.trod_lt m _ _ _ hm
  obtain ⟨x5, hc5, hR5⟩ : ∃ x, n5 ≤ c5 ∧ Rd .i64 W W.heap.size a5 n5 x := by
    obtain ⟨fuel, hf⟩ := h5
    simp only [Value.cells] at hf
    obtain ⟨A', n', c', x, e, hc, h, _⟩ := op_row Tryd.underlying28 Tryd.underlying3 (by kernel_rfl) hf
    injection e with e1 e2 e3
    subst e1 e2 e3
    exact ⟨x, hc, h⟩
  obtain ⟨a6, n6, c6, rfl⟩ := okWide_slice Tryd.underlying28 (hval 6 28 v6 rfl rfl)
  have hk6 := h6
  have lt6 : ∀ x ∈ p6, x.block < W.heap.size := by obtain ⟨m, hm⟩ := hk6; exact DataW.trod_lt m _ _ _ hm
  obtain ⟨x6, hc6, hR6⟩ : ∃ x, n6 ≤ c6 ∧ Rd .i64 W W.heap.size a6 n6 x := by
    obtain ⟨fuel, hf⟩ := h6
    simp only [Value.cells] at hf
    obtain ⟨A', n', c', x, e, hc, h, _⟩ := op_row Tryd.underlying28 Tryd.underlying3 (by kernel_rfl) hf
    injection e with e1 e2 e3
    subst e1 e2 e3
    exact ⟨x, hc, h⟩
  clear hA0 hval0
  refine (holds_walk (k := k0) (f := k1) (l := k2) (seed := k3) hKinds hR4 hR5 hR6).mono fun e W' ⟨he, bel⟩ => ?_
  subst he
  exact ⟨_, rfl, _, _, _, [], _, [], hW', trodAll_mk1 (shut_bool Tryd.underlying4 _), (trodAll_cons_mk (Below.trod laidOut (by kernel_rfl) (of_decide_eq_true (by kernel_rfl)) hk0 bel lt0) (trodAll_cons_mk (Below.trod laidOut (by kernel_rfl) (of_decide_eq_true (by kernel_rfl)) hk1 bel lt1) (trodAll_cons_mk (Below.trod laidOut (by kernel_rfl) (of_decide_eq_true (by kernel_rfl)) hk2 bel lt2) (trodAll_cons_mk (Below.trod laidOut (by kernel_rfl) (of_decide_eq_true (by kernel_rfl)) hk3 bel lt3) (trodAll_cons_mk (Below.trod laidOut (by kernel_rfl) (of_decide_eq_true (by kernel_rfl)) hk4 bel lt4) (trodAll_cons_mk (Below.trod laidOut (by kernel_rfl) (of_decide_eq_true (by kernel_rfl)) hk5 bel lt5) (trodAll_cons_mk (Below.trod laidOut (by kernel_rfl) (of_decide_eq_true (by kernel_rfl)) hk6 bel lt6) trodAll_mk0))))))), rfl, bel.frame _, fun h => by cases h⟩

theorem over : Rows.dematchHoldsRow.holds Tryd.pinned (OpenSpec.ofChange Rows.dematchHoldsSpec) :=
  OpenClaim.holds_of_wide 8 Tryd.f8 rfl rfl rfl rfl rfl rfl rfl ⟨rfl, rfl, rfl, rfl, rfl⟩ rfl rfl rfl rfl rfl (by kernel_rfl) Tryd.func8 (by kernel_rfl)
    (of_decide_eq_true (by kernel_rfl)) (by unfold Func.isWrapper; first | (rw [if_pos (by decide +kernel)]; kernel_rfl) | (rw [if_neg (by decide +kernel)]; exact ⟨rfl, rfl⟩))
    (fun os started H enc _ => lifted os started H enc)

theorem proved : Rows.DematchHoldsCardSaid :=
  Claim7.holds_tied_plain_at .later [] [.data, .data] true _ false
    over (fun _ h => by cases h) (by kernel_rfl) (fun _ h => by cases h) dematchHolds_row_tie rfl ⟨rfl, rfl⟩ (by kernel_rfl) rfl
    (fun f fn hf hfn => by
      obtain rfl : f = 8 := Option.some.inj ((show Tryd.prog.funcNamed Tryd.f8.name = some 8 by kernel_rfl).symm.trans hf) |>.symm
      obtain rfl : fn = Tryd.f8 := (Option.some.inj (Tryd.func8.symm.trans hfn)).symm
      exact ⟨by kernel_rfl, fun j t ht => by
        rw [Tryd.params8] at ht
        have hm : t ∈ [3, 3, 3, 3, 28, 28, 28] := by simpa using Array.mem_of_getElem? ht
        have hall : ([3, 3, 3, 3, 28, 28, 28].all fun u => !Tryd.prog.wantsStandIn u) = true := by kernel_rfl
        exact (show Tryd.prog.wantsStandIn t = false by simpa using List.all_eq_true.1 hall t hm)⟩)
    (by kernel_rfl)
end Go.Proofs.YtoegamlpgenfcaaDoor.dematchHolds
