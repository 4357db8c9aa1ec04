/-
  The law BitstrConcat returns true for every list of byte slices, and leaves its arguments alone (no condition).
-/
import Derived.Test.YtdjnmebgiabecaaRows
import Derived.WalkKit
import Derived.Test.YtdjnmebgiabecaaC2
import Derived.Test.YtdjnmebgiabecaaFrame
import Derived.ProofKit
import Derived.OpenShut
import Derived.ShutString
import Derived.ChangeOld
import Derived.Below
import Derived.Deep.Matrix
namespace Go.Proofs.Ytdjnmebgiabecaa.bitstrConcat
open Go.ChangeShapes Go.WideShapes Go.ChangeAt Go.RowKit Go.Deep
open Go.ChangeMaps (open_string shut_string)
set_option linter.unusedVariables false

theorem own : ownKnob Try.prog.godebug = none := by kernel_rfl
theorem laidOut : laidOutB Try.prog = true := by kernel_rfl

theorem add_plain (b off k : Nat) : (⟨b, off, none⟩ : Addr).add k = ⟨b, off + k, none⟩ := by
  by_cases h : k = 0 <;> simp [Addr.add, h]
theorem spot_none {w : World} {a : Addr} {v : Value} (h : w.cell? (a.add 0) = some v) : ∃ b off, a = ⟨b, off, none⟩ := by
  obtain ⟨b, off, spot⟩ := a
  have h1 : spot = none := World.cell?_spot (a := ⟨b, off, spot⟩) (by simpa [Addr.add] using h)
  exact ⟨b, off, by rw [h1]⟩

set_option maxRecDepth 100000 in
theorem lifted (os : Os) (started : os.Started) (H : Type) (enc : TypeId × Value → H) :
    ReturnsInHanded {} Try.checked os 6 .any (Rows.bitstrConcatSpec.pre6 enc Try.prog Try.f6 Rows.bitstrConcatRow.domain false) (Rows.bitstrConcatSpec.post enc Try.prog Try.f6 false true false false) := by
  refine returnsInHanded_of_change (C := Try.checked) own started (by kernel_rfl) Try.func6
    (ChangeSpec.witness6 (enc := enc) (C := Try.checked) false ⟨#[], #[.slice none 0 0], []⟩ 8 (by kernel_rfl) (by kernel_rfl) (by kernel_rfl) (by kernel_rfl)) ?_
  intro W base args ds gs before hval0 hW hcnd _
  have hval : ∀ (j : Nat) t v, Try.f6.params[j]? = some t → args[j]? = some v → Value.okWide Try.prog W .any base t v := hval0
  have hW' := hW
  obtain ⟨p, q, hA0, hV, rfl, hfz, hnd⟩ := hW
  have hA : DataW.TrodAll enc Try.prog W 0 (fun _ => true) true Try.f6.params.toList args.toList ds p := hA0
  rw [Try.params6] at hA hval
  obtain ⟨v0, vs0, d0, ds0, p0, q0, hargs, rfl, rfl, h0, r0⟩ := trodAll_cons hA
  obtain ⟨rfl, rfl, rfl⟩ := trodAll_nil r0
  obtain rfl : args = #[v0] := by cases args; simp_all
  obtain ⟨rfl, rfl⟩ := trodVars_none hV
  obtain ⟨a0, len0, cap0, rfl⟩ := okWide_slice Try.underlying48 (hval 0 48 v0 rfl rfl)
  have k0 := h0
  have lt0 : ∀ x ∈ p0, x.block < W.heap.size := by obtain ⟨m, hm⟩ := k0; exact DataW.trod_lt m _ _ _ hm
  obtain ⟨rows, hI, hB⟩ : ∃ rows : List BRow, Rds W W.heap.size a0 len0 rows ∧ ∀ r ∈ rows, Byte r.xs := by
    obtain ⟨fuel, hf⟩ := h0
    rcases open_int_rows Try.underlying48 Try.underlying22 Try.underlying5 (by kernel_rfl) (by kernel_rfl) hf with ⟨hcs, _⟩ | ⟨a, l, c, A, L, C, Z, hcs, _, hl, hm, _, hrow⟩
    · simp [Value.cells] at hcs
      obtain ⟨rfl, rfl, rfl⟩ := hcs
      exact ⟨[], ⟨rfl, fun k hk => absurd hk (Nat.not_lt_zero k)⟩, by simp⟩
    · simp [Value.cells] at hcs
      obtain ⟨rfl, rfl, rfl⟩ := hcs
      refine ⟨(List.range len0).map fun r => ⟨A r, L r, C r, (Z r).take (L r)⟩, ⟨by simp, fun k hk => ?_⟩, fun r hr => ?_⟩
      · obtain ⟨h1, h2, h3, h4, h5, h6, h7⟩ := hrow k (by omega)
        obtain ⟨b, off, rfl⟩ := spot_none (hrow 0 (by omega)).1
        rw [add_plain] at h1
        refine ⟨b, off, ⟨A k, L k, C k, (Z k).take (L k)⟩, rfl, World.block_lt_of_cell? W _ h1, by simp [hk], h1, ⟨by simp only [List.length_take]; omega, fun j hj => ?_⟩⟩
        simp only [] at hj ⊢
        rcases hAk : A k with _ | a'
        · have := h6 hAk; omega
        · have h8 := (h7 a' hAk).2 j (by omega)
          obtain ⟨b', off', rfl⟩ := spot_none ((h7 a' hAk).2 0 (by omega))
          rw [add_plain] at h8
          exact ⟨b', off', rfl, World.block_lt_of_cell? W _ h8, by rw [h8, List.getElem?_take, if_pos hj, List.getD_eq_getElem?_getD]⟩
      · obtain ⟨k, hk, rfl⟩ := List.mem_map.1 hr
        obtain ⟨h1, h2, h3, h4, h5, h6, h7⟩ := hrow k (by have := List.mem_range.1 hk; omega)
        exact Byte.of_mem fun y hy => by
          have := h5 y (List.mem_of_mem_take hy)
          simpa [Lit.wf, IntKind.min, IntKind.max, IntKind.signed, IntKind.bits] using this
  clear hA0 hval0
  refine (concat_walk hI hB).mono fun e W' ⟨he, bel⟩ => ?_
  subst he
  exact ⟨_, rfl, _, _, _, [], _, [], hW', trodAll_mk1 (shut_bool Try.underlying4 _), (trodAll_cons_mk (Below.trod laidOut (by kernel_rfl) (of_decide_eq_true (by kernel_rfl)) k0 bel lt0) trodAll_mk0), rfl, bel.frame _, fun h => by cases h⟩

theorem over : Rows.bitstrConcatRow.holds Try.pinned (OpenSpec.ofChange Rows.bitstrConcatSpec) :=
  OpenClaim.holds_of_wide 6 Try.f6 rfl rfl rfl rfl rfl rfl rfl ⟨rfl, rfl, rfl, rfl, rfl⟩ rfl rfl rfl rfl rfl (by kernel_rfl) Try.func6 (by kernel_rfl)
    (of_decide_eq_true (by kernel_rfl)) (by unfold Func.isWrapper; first | (rw [if_pos (by decide +kernel)]; kernel_rfl) | (rw [if_neg (by decide +kernel)]; exact ⟨rfl, rfl⟩))
    (fun os started H enc _ => lifted os started H enc)

theorem proved : Rows.BitstrConcatSaid := over
end Go.Proofs.Ytdjnmebgiabecaa.bitstrConcat
