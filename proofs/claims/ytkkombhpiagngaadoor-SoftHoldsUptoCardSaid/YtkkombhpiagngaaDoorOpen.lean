/-
  From the form's reading of the arguments and of the listed variable to the words of these proofs.
-/
import Derived.Test.YtkkombhpiagngaaDoorRows
import Derived.Test.YtkkombhpiagngaaDoorKq
import Derived.Deep.Strs
import Derived.ProofKit
import Derived.LaidMore
import Derived.OpenShut
import Derived.ChangeOld
import Derived.MakeChecks
import Derived.Stop.Joined
import Derived.Deep.Slices
namespace Go.Proofs.YtkkombhpiagngaaDoor
open Go.ChangeShapes Go.WideShapes Go.ChangeAt Go.RowKit Go.Deep Go.WideElems

theorem wf_i64 {x : Int} (h : (Lit.int .i64 x).wf = true) : -9223372036854775808 ≤ x ∧ x ≤ 9223372036854775807 := by
  simpa [Lit.wf, IntKind.min, IntKind.max, IntKind.signed, IntKind.bits] using h
theorem wf_u32 {x : Int} (h : (Lit.int .u32 x).wf = true) : 0 ≤ x ∧ x < 4294967296 := by
  have : 0 ≤ x ∧ x ≤ 4294967295 := by simpa [Lit.wf, IntKind.min, IntKind.max, IntKind.signed, IntKind.bits] using h
  omega
theorem wf_u8 {x : Int} (h : (Lit.int .u8 x).wf = true) : 0 ≤ x ∧ x ≤ 255 := by
  simpa [Lit.wf, IntKind.min, IntKind.max, IntKind.signed, IntKind.bits] using h
theorem wf_u16 {x : Int} (h : (Lit.int .u16 x).wf = true) : 0 ≤ x ∧ x < 65536 := by
  have : 0 ≤ x ∧ x ≤ 65535 := by simpa [Lit.wf, IntKind.min, IntKind.max, IntKind.signed, IntKind.bits] using h
  omega
def I64 (x : Int) : Prop := -9223372036854775808 ≤ x ∧ x ≤ 9223372036854775807

section
variable {H : Type} {enc : TypeId × Value → H} {W : World} {base fuel : Nat} {x : DataW H × List MemPlace}
/-- A slice of integers of kind k that came in. -/
theorem op_row {t e : TypeId} {k : IntKind} {v : Value} (ht : Tryd.prog.underlying t = some (.slice e)) (he : Tryd.prog.underlying e = some (.int k)) (hc : Tryd.prog.cellsOf e = 1) (h : DataW.trod enc Tryd.prog W base (fun _ => true) true fuel t [v] = some x) :
    ∃ A n c xs, v = .slice A n c ∧ n ≤ c ∧ Rd k W W.heap.size A n xs ∧ ∀ z ∈ xs, (Lit.int k z).wf = true := by
  rcases open_ints ht he hc h with ⟨hcs, _⟩ | ⟨a, l, c, zs, hcs, _, hl, hm, hz, _, hcell, hwz⟩
  · simp at hcs
    exact ⟨none, 0, 0, [], hcs, Nat.le_refl _, Rd.nil _ _ _ _, by simp⟩
  · simp at hcs
    have hz' : zs.length = c := by simpa using hz
    refine ⟨some a, l, c, zs.take l, hcs, hl, ⟨by rw [List.length_take]; omega, fun j hj => ?_⟩, fun z hz2 => hwz z (List.mem_of_mem_take hz2)⟩
    obtain ⟨b, off, rfl, hc'⟩ := ints_at hcell (by omega)
    have h1 := hc' j (by omega)
    exact ⟨b, off, rfl, World.block_lt_of_cell? W _ h1, by rw [h1, List.getElem?_take, if_pos hj, List.getD_eq_getElem?_getD]⟩
theorem op_bytes {v : Value} (h : DataW.trod enc Tryd.prog W base (fun _ => true) true fuel 38 [v] = some x) : ∃ A n c xs, v = .slice A n c ∧ n ≤ c ∧ Rd .u8 W W.heap.size A n xs ∧ Byte xs := by
  obtain ⟨A, n, c, xs, h1, h2, h3, h4⟩ := op_row Tryd.underlying38 Tryd.underlying5 (by kernel_rfl) h
  refine ⟨A, n, c, xs, h1, h2, h3, Byte.of_mem fun y hy => ?_⟩
  have := h4 y hy
  simpa [Lit.wf, IntKind.min, IntKind.max, IntKind.signed, IntKind.bits] using this
/-- An integer of kind q that came in. -/
theorem op_int {t : TypeId} {q : IntKind} {k : Int} (ht : Tryd.prog.underlying t = some (.int q)) (h : DataW.trod enc Tryd.prog W base (fun _ => true) true fuel t [.int q k] = some x) : (Lit.int q k).wf = true := by
  obtain ⟨n', e, _, w⟩ := DataW.trod_int ht h
  simp at e
  subst e
  exact w
end

/-- The variable that every row lists, and what it holds. -/
abbrev laids : List (String × DataW Unit) := Rows.softAddsRow.laid
theorem gLims : Tryd.prog.globalNamed ((laids.map (·.1)).headD default) = some 0 := by kernel_rfl
theorem tLims : (Tryd.prog.globals[0]?).map (·.type) = some 61 := by kernel_rfl
theorem one_pair {W : World} {fuel : Nat} {y : DataW Unit × List MemPlace} {a b : Value} {L G : Int} (h : DataW.trod (fun _ => ()) Tryd.prog W 0 (fun _ => true) false fuel 60 [a, b] = some y) (hy : y.1 = .agg [.lit (.int .i64 L), .lit (.int .i64 G)]) :
    a = .int .i64 L ∧ b = .int .i64 G := by
  have c3 : Tryd.prog.cellsOf 3 = 1 := by kernel_rfl
  obtain ⟨y0, y1, n, rfl, _, h0, h1⟩ := trod_struct2 Tryd.underlying60 h
  simp only [c3] at h0 h1
  obtain ⟨k0, e0, f0, _⟩ := DataW.trod_int Tryd.underlying3 h0
  obtain ⟨k1, e1, f1, _⟩ := DataW.trod_int Tryd.underlying3 h1
  subst f0 f1
  simp at hy e0 e1
  exact ⟨by rw [e0, hy.1], by rw [e1, hy.2]⟩
theorem kinds_of_laid {W : World} (h : laidMetH Tryd.prog laids W) : Kinds W := by
  rw [MakeChecks.laidMetH_plain _ _ _ (by kernel_rfl)] at h
  obtain ⟨ps, ⟨g0, t0, cs0, f0, p0, q0, hg0, ht0, hv0, hd0, _, _⟩, _, _⟩ := h
  obtain rfl := Option.some.inj (gLims.symm.trans hg0)
  obtain rfl := Option.some.inj (tLims.symm.trans ht0)
  have c58 : Tryd.prog.cellsOf 61 = 8 := by kernel_rfl
  have c48 : Tryd.prog.cellsOf 60 = 2 := by kernel_rfl
  obtain ⟨xs, m, rfl, hx, hlen, hn, hel⟩ := DataW.trod_array Tryd.underlying61 hd0
  rw [c58] at hlen
  rw [c48] at hel
  obtain ⟨l⟩ := cs0
  have hcell := fun j => World.var?_cell hg0 hv0 j
  match l, hlen with
  | [a0, a1, a2, a3, a4, a5, a6, a7], _ =>
    match xs, hn with
    | [x0, x1, x2, x3], _ =>
      simp only [Prod.mk.injEq, Rows.laid_userplane_soft_limits, List.map_cons, List.map_nil, DataW.agg.injEq, List.cons.injEq, and_true] at hx
      obtain ⟨⟨h1, h2, h3, h4⟩, _⟩ := hx
      obtain ⟨e0, e1⟩ := one_pair (hel 0 (by decide)) h1.symm
      obtain ⟨e2, e3⟩ := one_pair (hel 1 (by decide)) h2.symm
      obtain ⟨e4, e5⟩ := one_pair (hel 2 (by decide)) h3.symm
      obtain ⟨e6, e7⟩ := one_pair (hel 3 (by decide)) h4.symm
      subst e0 e1 e2 e3 e4 e5 e6 e7
      have hc0 : W.cell? ⟨0, 0, none⟩ = some (.int .i64 (-127)) := by simpa using hcell 0
      exact ⟨World.block_lt_of_cell? W _ hc0, hc0, by simpa using hcell 1, by simpa using hcell 2, by simpa using hcell 3, by simpa using hcell 4, by simpa using hcell 5, by simpa using hcell 6, by simpa using hcell 7⟩
/-- The door's own heap meets the condition. -/
theorem door_met (os : Os) (args : Array Value) : laidMetH Tryd.prog laids ((World.doorLaid Tryd.prog 400 os).forCall (fun _ _ => 0) ⟨#[], args, []⟩).memory :=
  laidMetH_of_parts3 (fuel := 8) (laidMet_of_run' 8 (by kernel_rfl) (by kernel_rfl)) (by kernel_rfl) (by kernel_rfl)
theorem own : ownKnob Tryd.prog.godebug = none := by kernel_rfl
theorem laidOut : laidOutB Tryd.prog = true := by kernel_rfl
end Go.Proofs.YtkkombhpiagngaaDoor
