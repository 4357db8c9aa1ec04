/-
  From the form's reading of the arguments and of the listed variable to the words of these proofs.
-/
import Derived.Test.YtbpkoilecdejiaaDoorRows
import Derived.Test.YtbpkoilecdejiaaDoorKq
import Derived.Deep.Strs
import Derived.ProofKit
import Derived.LaidMore
import Derived.OpenShut
import Derived.ChangeOld
import Derived.MakeChecks
import Derived.Stop.Joined
import Derived.Deep.Slices
namespace Go.Proofs.YtbpkoilecdejiaaDoor
open Go.ChangeShapes Go.WideShapes Go.ChangeAt Go.RowKit Go.Deep Go.WideElems

theorem wf_i64 {x : Int} (h : (Lit.int .i64 x).wf = true) : -9223372036854775808 ≤ x ∧ x ≤ 9223372036854775807 := by
  simpa [Lit.wf, IntKind.min, IntKind.max, IntKind.signed, IntKind.bits] using h
theorem wf_u32 {x : Int} (h : (Lit.int .u32 x).wf = true) : 0 ≤ x ∧ x < 4294967296 := by
  have : 0 ≤ x ∧ x ≤ 4294967295 := by simpa [Lit.wf, IntKind.min, IntKind.max, IntKind.signed, IntKind.bits] using h
  omega
theorem wf_u8 {x : Int} (h : (Lit.int .u8 x).wf = true) : 0 ≤ x ∧ x ≤ 255 := by
  simpa [Lit.wf, IntKind.min, IntKind.max, IntKind.signed, IntKind.bits] using h
theorem wf_u16 {x : Int} (h : (Lit.int .u16 x).wf = true) : 0 ≤ x ∧ x < 65536 := by
  have : 0 ≤ x ∧ x ≤ 65535 := by simpa [Lit.wf, IntKind.min, IntKind.max, IntKind.signed, IntKind.bits] using h
  omega
def I64 (x : Int) : Prop := -9223372036854775808 ≤ x ∧ x ≤ 9223372036854775807

section
variable {H : Type} {enc : TypeId × Value → H} {W : World} {base fuel : Nat} {x : DataW H × List MemPlace}
/-- A slice of integers of kind k that came in. -/
theorem op_row {t e : TypeId} {k : IntKind} {v : Value} (ht : Tryd.prog.underlying t = some (.slice e)) (he : Tryd.prog.underlying e = some (.int k)) (hc : Tryd.prog.cellsOf e = 1) (h : DataW.trod enc Tryd.prog W base (fun _ => true) true fuel t [v] = some x) :
    ∃ A n c xs, v = .slice A n c ∧ n ≤ c ∧ Rd k W W.heap.size A n xs ∧ ∀ z ∈ xs, (Lit.int k z).wf = true := by
  rcases open_ints ht he hc h with ⟨hcs, _⟩ | ⟨a, l, c, zs, hcs, _, hl, hm, hz, _, hcell, hwz⟩
  · simp at hcs
    exact ⟨none, 0, 0, [], hcs, Nat.le_refl _, Rd.nil _ _ _ _, by simp⟩
  · simp at hcs
    have hz' : zs.length = c := by simpa using hz
    refine ⟨some a, l, c, zs.take l, hcs, hl, ⟨by rw [List.length_take]; omega, fun j hj => ?_⟩, fun z hz2 => hwz z (List.mem_of_mem_take hz2)⟩
    obtain ⟨b, off, rfl, hc'⟩ := ints_at hcell (by omega)
    have h1 := hc' j (by omega)
    exact ⟨b, off, rfl, World.block_lt_of_cell? W _ h1, by rw [h1, List.getElem?_take, if_pos hj, List.getD_eq_getElem?_getD]⟩
theorem op_bytes {v : Value} (h : DataW.trod enc Tryd.prog W base (fun _ => true) true fuel 22 [v] = some x) : ∃ A n c xs, v = .slice A n c ∧ n ≤ c ∧ Rd .u8 W W.heap.size A n xs ∧ Byte xs := by
  obtain ⟨A, n, c, xs, h1, h2, h3, h4⟩ := op_row Tryd.underlying22 Tryd.underlying5 (by kernel_rfl) h
  refine ⟨A, n, c, xs, h1, h2, h3, Byte.of_mem fun y hy => ?_⟩
  have := h4 y hy
  simpa [Lit.wf, IntKind.min, IntKind.max, IntKind.signed, IntKind.bits] using this
/-- An integer of kind q that came in. -/
theorem op_int {t : TypeId} {q : IntKind} {k : Int} (ht : Tryd.prog.underlying t = some (.int q)) (h : DataW.trod enc Tryd.prog W base (fun _ => true) true fuel t [.int q k] = some x) : (Lit.int q k).wf = true := by
  obtain ⟨n', e, _, w⟩ := DataW.trod_int ht h
  simp at e
  subst e
  exact w
end

/-- The variables that every row lists, and what they hold. -/
abbrev laids : List (String × DataW Unit) := Rows.turboEncodesRow.laid
theorem gRanges : Tryd.prog.globalNamed ((laids.map (·.1)).headD default) = some 0 := by kernel_rfl
theorem tRanges : (Tryd.prog.globals[0]?).map (·.type) = some 113 := by kernel_rfl
theorem one_range {W : World} {fuel : Nat} {y : DataW Unit × List MemPlace} {a b c : Value} {F L S : Int} (h : DataW.trod (fun _ => ()) Tryd.prog W 0 (fun _ => true) false fuel 112 [a, b, c] = some y) (hy : y.1 = .agg [.lit (.int .i64 F), .lit (.int .i64 L), .lit (.int .i64 S)]) :
    a = .int .i64 F ∧ b = .int .i64 L ∧ c = .int .i64 S := by
  have c3 : Tryd.prog.cellsOf 3 = 1 := by kernel_rfl
  obtain ⟨y0, y1, y2, n, rfl, _, h0, h1, h2⟩ := trod_struct3 Tryd.underlying112 h
  simp only [c3] at h0 h1 h2
  obtain ⟨k0, e0, f0, _⟩ := DataW.trod_int Tryd.underlying3 h0
  obtain ⟨k1, e1, f1, _⟩ := DataW.trod_int Tryd.underlying3 h1
  obtain ⟨k2, e2, f2, _⟩ := DataW.trod_int Tryd.underlying3 h2
  subst f0 f1 f2
  simp at hy e0 e1 e2
  exact ⟨by rw [e0, hy.1], by rw [e1, hy.2.1], by rw [e2, hy.2.2]⟩
set_option maxRecDepth 100000 in
set_option maxHeartbeats 2000000 in
theorem kinds_of_laid {W : World} (h : laidMetH Tryd.prog laids W) : Kinds W := by
  rw [MakeChecks.laidMetH_plain _ _ _ (by kernel_rfl)] at h
  obtain ⟨ps, ⟨g1, t1, cs1, f1, p1, q1, hg1, ht1, hv1, hd1, _, _⟩, _, _⟩ := h
  obtain rfl := Option.some.inj (gRanges.symm.trans hg1)
  obtain rfl := Option.some.inj (tRanges.symm.trans ht1)
  have c12 : Tryd.prog.cellsOf 113 = 12 := by kernel_rfl
  have c13 : Tryd.prog.cellsOf 112 = 3 := by kernel_rfl
  obtain ⟨ys, m2, rfl, hy, hlen2, hn2, hel2⟩ := DataW.trod_array Tryd.underlying113 hd1
  rw [c12] at hlen2
  rw [c13] at hel2
  obtain ⟨l2⟩ := cs1
  have hcell2 := fun j => World.var?_cell hg1 hv1 j
  match l2, hlen2 with
  | [b0, b1, b2, b3, b4, b5, b6, b7, b8, b9, b10, b11], _ =>
    match ys, hn2 with
    | [y0, y1, y2, y3], _ =>
      simp only [Prod.mk.injEq, Rows.laid_userplane_segment_ranges, List.map_cons, List.map_nil, DataW.agg.injEq, List.cons.injEq, and_true] at hy
      obtain ⟨⟨r0, r1, r2, r3⟩, _⟩ := hy
      obtain ⟨i0, i1, i2⟩ := one_range (hel2 0 (by decide)) r0.symm
      obtain ⟨i3, i4, i5⟩ := one_range (hel2 1 (by decide)) r1.symm
      obtain ⟨i6, i7, i8⟩ := one_range (hel2 2 (by decide)) r2.symm
      obtain ⟨i9, i10, i11⟩ := one_range (hel2 3 (by decide)) r3.symm
      subst i0 i1 i2 i3 i4 i5 i6 i7 i8 i9 i10 i11
      have hr0 : W.cell? ⟨0, 0, none⟩ = some (.int .i64 40) := by simpa using hcell2 0
      refine ⟨⟨World.block_lt_of_cell? W _ hr0, fun j v hv => ?_⟩⟩
      rw [hcell2 j]
      exact hv
/-- The door's own heap meets the condition. -/
theorem door_met (os : Os) (args : Array Value) : laidMetH Tryd.prog laids ((World.doorLaid Tryd.prog 400 os).forCall (fun _ _ => 0) ⟨#[], args, []⟩).memory :=
  laidMetH_of_parts3 (fuel := 8) (laidMet_of_run' 8 (by kernel_rfl) (by kernel_rfl)) (by kernel_rfl) (by kernel_rfl)
theorem own : ownKnob Tryd.prog.godebug = none := by kernel_rfl
theorem laidOut : laidOutB Tryd.prog = true := by kernel_rfl
end Go.Proofs.YtbpkoilecdejiaaDoor
