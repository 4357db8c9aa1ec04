/-
  From the form's reading of the arguments to the words of these proofs. (For a tied seat see tpl3's Open: laids, kinds_of_laid, door_met.)
-/
import Derived.Test.YtjehfdnkdfmmbaaApp
import Derived.ProofKit
import Derived.OpenShut
import Derived.ChangeOld
import Derived.Deep.Slices
namespace Go.Proofs.Ytjehfdnkdfmmbaa
open Go.ChangeShapes Go.WideShapes Go.ChangeAt Go.RowKit Go.Deep Go.WideElems

theorem wf_i64 {x : Int} (h : (Lit.int .i64 x).wf = true) : -9223372036854775808 ≤ x ∧ x ≤ 9223372036854775807 := by
  simpa [Lit.wf, IntKind.min, IntKind.max, IntKind.signed, IntKind.bits] using h
theorem wf_u32 {x : Int} (h : (Lit.int .u32 x).wf = true) : 0 ≤ x ∧ x < 4294967296 := by
  have : 0 ≤ x ∧ x ≤ 4294967295 := by simpa [Lit.wf, IntKind.min, IntKind.max, IntKind.signed, IntKind.bits] using h
  omega
theorem wf_u16 {x : Int} (h : (Lit.int .u16 x).wf = true) : 0 ≤ x ∧ x < 65536 := by
  have : 0 ≤ x ∧ x ≤ 65535 := by simpa [Lit.wf, IntKind.min, IntKind.max, IntKind.signed, IntKind.bits] using h
  omega
def I64 (x : Int) : Prop := -9223372036854775808 ≤ x ∧ x ≤ 9223372036854775807

section
variable {H : Type} {enc : TypeId × Value → H} {W : World} {base fuel : Nat} {x : DataW H × List MemPlace}
/-- A slice of integers of kind k that came in. -/
theorem op_row {t e : TypeId} {k : IntKind} {v : Value} (ht : Try.prog.underlying t = some (.slice e)) (he : Try.prog.underlying e = some (.int k)) (hc : Try.prog.cellsOf e = 1) (h : DataW.trod enc Try.prog W base (fun _ => true) true fuel t [v] = some x) :
    ∃ A n c xs, v = .slice A n c ∧ n ≤ c ∧ Rd k W W.heap.size A n xs ∧ ∀ z ∈ xs, (Lit.int k z).wf = true := by
  rcases open_ints ht he hc h with ⟨hcs, _⟩ | ⟨a, l, c, zs, hcs, _, hl, hm, hz, _, hcell, hwz⟩
  · simp at hcs
    exact ⟨none, 0, 0, [], hcs, Nat.le_refl _, Rd.nil _ _ _ _, by simp⟩
  · simp at hcs
    have hz' : zs.length = c := by simpa using hz
    refine ⟨some a, l, c, zs.take l, hcs, hl, ⟨by rw [List.length_take]; omega, fun j hj => ?_⟩, fun z hz2 => hwz z (List.mem_of_mem_take hz2)⟩
    obtain ⟨b, off, rfl, hc'⟩ := ints_at hcell (by omega)
    have h1 := hc' j (by omega)
    exact ⟨b, off, rfl, World.block_lt_of_cell? W _ h1, by rw [h1, List.getElem?_take, if_pos hj, List.getD_eq_getElem?_getD]⟩
theorem op_bytes {v : Value} (h : DataW.trod enc Try.prog W base (fun _ => true) true fuel 36 [v] = some x) : ∃ A n c xs, v = .slice A n c ∧ n ≤ c ∧ Rd .u8 W W.heap.size A n xs ∧ Byte xs := by
  obtain ⟨A, n, c, xs, h1, h2, h3, h4⟩ := op_row Try.underlying36 Try.underlying5 (by kernel_rfl) h
  refine ⟨A, n, c, xs, h1, h2, h3, Byte.of_mem fun y hy => ?_⟩
  have := h4 y hy
  simpa [Lit.wf, IntKind.min, IntKind.max, IntKind.signed, IntKind.bits] using this
theorem op_ints {v : Value} (h : DataW.trod enc Try.prog W base (fun _ => true) true fuel 55 [v] = some x) : ∃ A n c xs, v = .slice A n c ∧ n ≤ c ∧ Rd .i64 W W.heap.size A n xs ∧ ∀ z ∈ xs, I64 z := by
  obtain ⟨A, n, c, xs, h1, h2, h3, h4⟩ := op_row Try.underlying55 Try.underlying3 (by kernel_rfl) h
  exact ⟨A, n, c, xs, h1, h2, h3, fun z hz => wf_i64 (h4 z hz)⟩
/-- An integer of kind q that came in. -/
theorem op_int {t : TypeId} {q : IntKind} {k : Int} (ht : Try.prog.underlying t = some (.int q)) (h : DataW.trod enc Try.prog W base (fun _ => true) true fuel t [.int q k] = some x) : (Lit.int q k).wf = true := by
  obtain ⟨n', e, _, w⟩ := DataW.trod_int ht h
  simp at e
  subst e
  exact w
end

theorem own : ownKnob Try.prog.godebug = none := by kernel_rfl
theorem laidOut : laidOutB Try.prog = true := by kernel_rfl
end Go.Proofs.Ytjehfdnkdfmmbaa
