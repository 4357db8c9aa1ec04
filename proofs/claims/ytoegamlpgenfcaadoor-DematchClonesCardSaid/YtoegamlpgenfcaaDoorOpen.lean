/-
  From the form's reading of the arguments and of the listed variable to the words of these proofs.
-/
import Derived.Test.YtoegamlpgenfcaaDoorRows
import Derived.Test.YtoegamlpgenfcaaDoorKd
import Derived.Deep.Strs
import Derived.ProofKit
import Derived.LaidMore
import Derived.OpenShut
import Derived.ChangeOld
import Derived.MakeChecks
import Derived.Stop.Joined
import Derived.Deep.Slices
namespace Go.Proofs.YtoegamlpgenfcaaDoor
open Go.ChangeShapes Go.WideShapes Go.ChangeAt Go.RowKit Go.Deep Go.WideElems

theorem wf_i64 {x : Int} (h : (Lit.int .i64 x).wf = true) : -9223372036854775808 ≤ x ∧ x ≤ 9223372036854775807 := by
  simpa [Lit.wf, IntKind.min, IntKind.max, IntKind.signed, IntKind.bits] using h
theorem wf_u32 {x : Int} (h : (Lit.int .u32 x).wf = true) : 0 ≤ x ∧ x < 4294967296 := by
  have : 0 ≤ x ∧ x ≤ 4294967295 := by simpa [Lit.wf, IntKind.min, IntKind.max, IntKind.signed, IntKind.bits] using h
  omega
theorem wf_u8 {x : Int} (h : (Lit.int .u8 x).wf = true) : 0 ≤ x ∧ x ≤ 255 := by
  simpa [Lit.wf, IntKind.min, IntKind.max, IntKind.signed, IntKind.bits] using h
theorem wf_u16 {x : Int} (h : (Lit.int .u16 x).wf = true) : 0 ≤ x ∧ x < 65536 := by
  have : 0 ≤ x ∧ x ≤ 65535 := by simpa [Lit.wf, IntKind.min, IntKind.max, IntKind.signed, IntKind.bits] using h
  omega
def I64 (x : Int) : Prop := -9223372036854775808 ≤ x ∧ x ≤ 9223372036854775807

section
variable {H : Type} {enc : TypeId × Value → H} {W : World} {base fuel : Nat} {x : DataW H × List MemPlace}
/-- A slice of integers of kind k that came in. -/
theorem op_row {t e : TypeId} {k : IntKind} {v : Value} (ht : Tryd.prog.underlying t = some (.slice e)) (he : Tryd.prog.underlying e = some (.int k)) (hc : Tryd.prog.cellsOf e = 1) (h : DataW.trod enc Tryd.prog W base (fun _ => true) true fuel t [v] = some x) :
    ∃ A n c xs, v = .slice A n c ∧ n ≤ c ∧ Rd k W W.heap.size A n xs ∧ ∀ z ∈ xs, (Lit.int k z).wf = true := by
  rcases open_ints ht he hc h with ⟨hcs, _⟩ | ⟨a, l, c, zs, hcs, _, hl, hm, hz, _, hcell, hwz⟩
  · simp at hcs
    exact ⟨none, 0, 0, [], hcs, Nat.le_refl _, Rd.nil _ _ _ _, by simp⟩
  · simp at hcs
    have hz' : zs.length = c := by simpa using hz
    refine ⟨some a, l, c, zs.take l, hcs, hl, ⟨by rw [List.length_take]; omega, fun j hj => ?_⟩, fun z hz2 => hwz z (List.mem_of_mem_take hz2)⟩
    obtain ⟨b, off, rfl, hc'⟩ := ints_at hcell (by omega)
    have h1 := hc' j (by omega)
    exact ⟨b, off, rfl, World.block_lt_of_cell? W _ h1, by rw [h1, List.getElem?_take, if_pos hj, List.getD_eq_getElem?_getD]⟩
theorem op_bytes {v : Value} (h : DataW.trod enc Tryd.prog W base (fun _ => true) true fuel 58 [v] = some x) : ∃ A n c xs, v = .slice A n c ∧ n ≤ c ∧ Rd .u8 W W.heap.size A n xs ∧ Byte xs := by
  obtain ⟨A, n, c, xs, h1, h2, h3, h4⟩ := op_row Tryd.underlying58 Tryd.underlying5 (by kernel_rfl) h
  refine ⟨A, n, c, xs, h1, h2, h3, Byte.of_mem fun y hy => ?_⟩
  have := h4 y hy
  simpa [Lit.wf, IntKind.min, IntKind.max, IntKind.signed, IntKind.bits] using this
/-- An integer of kind q that came in. -/
theorem op_int {t : TypeId} {q : IntKind} {k : Int} (ht : Tryd.prog.underlying t = some (.int q)) (h : DataW.trod enc Tryd.prog W base (fun _ => true) true fuel t [.int q k] = some x) : (Lit.int q k).wf = true := by
  obtain ⟨n', e, _, w⟩ := DataW.trod_int ht h
  simp at e
  subst e
  exact w
end

/-- The variables that every row lists, and what they hold. -/
abbrev laids : List (String × DataW Unit) := Rows.dematchPlaysRow.laid
theorem gLims : Tryd.prog.globalNamed ((laids.map (·.1)).headD default) = some 0 := by kernel_rfl
theorem gCols : Tryd.prog.globalNamed ((laids.map (·.1)).getD 1 default) = some 1 := by kernel_rfl
theorem tLims : (Tryd.prog.globals[0]?).map (·.type) = some 101 := by kernel_rfl
theorem tCols : (Tryd.prog.globals[1]?).map (·.type) = some 119 := by kernel_rfl
theorem one_pair {W : World} {fuel : Nat} {y : DataW Unit × List MemPlace} {a b : Value} {L G : Int} (h : DataW.trod (fun _ => ()) Tryd.prog W 0 (fun _ => true) false fuel 100 [a, b] = some y) (hy : y.1 = .agg [.lit (.int .i64 L), .lit (.int .i64 G)]) :
    a = .int .i64 L ∧ b = .int .i64 G := by
  have c3 : Tryd.prog.cellsOf 3 = 1 := by kernel_rfl
  obtain ⟨y0, y1, n, rfl, _, h0, h1⟩ := trod_struct2 Tryd.underlying100 h
  simp only [c3] at h0 h1
  obtain ⟨k0, e0, f0, _⟩ := DataW.trod_int Tryd.underlying3 h0
  obtain ⟨k1, e1, f1, _⟩ := DataW.trod_int Tryd.underlying3 h1
  subst f0 f1
  simp at hy e0 e1
  exact ⟨by rw [e0, hy.1], by rw [e1, hy.2]⟩
theorem one_int {W : World} {fuel : Nat} {y : DataW Unit × List MemPlace} {a : Value} {F : Int} (h : DataW.trod (fun _ => ()) Tryd.prog W 0 (fun _ => true) false fuel 3 [a] = some y) (hy : y.1 = .lit (.int .i64 F)) : a = .int .i64 F := by
  obtain ⟨k0, e0, f0, _⟩ := DataW.trod_int Tryd.underlying3 h
  subst f0
  simp at hy e0
  rw [e0, hy]
set_option maxRecDepth 100000 in
set_option maxHeartbeats 4000000 in
theorem kinds_of_laid {W : World} (h : laidMetH Tryd.prog laids W) : Kinds W := by
  rw [MakeChecks.laidMetH_plain _ _ _ (by kernel_rfl)] at h
  obtain ⟨ps, ⟨g0, t0, cs0, f0, p0, q0, hg0, ht0, hv0, hd0, ⟨g1, t1, cs1, f1, p1, q1, hg1, ht1, hv1, hd1, _⟩, _⟩, _, _⟩ := h
  obtain rfl := Option.some.inj (gLims.symm.trans hg0)
  obtain rfl := Option.some.inj (tLims.symm.trans ht0)
  obtain rfl := Option.some.inj (gCols.symm.trans hg1)
  obtain rfl := Option.some.inj (tCols.symm.trans ht1)
  have c58 : Tryd.prog.cellsOf 101 = 8 := by kernel_rfl
  have c48 : Tryd.prog.cellsOf 100 = 2 := by kernel_rfl
  have c12 : Tryd.prog.cellsOf 119 = 32 := by kernel_rfl
  have c13 : Tryd.prog.cellsOf 3 = 1 := by kernel_rfl
  obtain ⟨xs, m, rfl, hx, hlen, hn, hel⟩ := DataW.trod_array Tryd.underlying101 hd0
  obtain ⟨ys, m2, rfl, hy, hlen2, hn2, hel2⟩ := DataW.trod_array Tryd.underlying119 hd1
  rw [c58] at hlen
  rw [c48] at hel
  rw [c12] at hlen2
  rw [c13] at hel2
  obtain ⟨l⟩ := cs0
  obtain ⟨l2⟩ := cs1
  have hcell := fun j => World.var?_cell hg0 hv0 j
  have hcell2 := fun j => World.var?_cell hg1 hv1 j
  have hlim : KLim W := by
    match l, hlen with
    | [a0, a1, a2, a3, a4, a5, a6, a7], _ =>
      match xs, hn with
      | [x0, x1, x2, x3], _ =>
        simp only [Prod.mk.injEq, Rows.laid_userplane_soft_limits, List.map_cons, List.map_nil, DataW.agg.injEq, List.cons.injEq, and_true] at hx
        obtain ⟨⟨h1, h2, h3, h4⟩, _⟩ := hx
        obtain ⟨e0, e1⟩ := one_pair (hel 0 (by decide)) h1.symm
        obtain ⟨e2, e3⟩ := one_pair (hel 1 (by decide)) h2.symm
        obtain ⟨e4, e5⟩ := one_pair (hel 2 (by decide)) h3.symm
        obtain ⟨e6, e7⟩ := one_pair (hel 3 (by decide)) h4.symm
        subst e0 e1 e2 e3 e4 e5 e6 e7
        have hc0 : W.cell? ⟨0, 0, none⟩ = some (.int .i64 (-127)) := by simpa using hcell 0
        exact ⟨World.block_lt_of_cell? W _ hc0, hc0, by simpa using hcell 1, by simpa using hcell 2, by simpa using hcell 3, by simpa using hcell 4, by simpa using hcell 5, by simpa using hcell 6, by simpa using hcell 7⟩
  refine ⟨hlim, ?_⟩
  match l2, hlen2 with
  | [b0, b1, b2, b3, b4, b5, b6, b7, b8, b9, b10, b11, b12, b13, b14, b15, b16, b17, b18, b19, b20, b21, b22, b23, b24, b25, b26, b27, b28, b29, b30, b31], _ =>
    match ys, hn2 with
    | [y0, y1, y2, y3, y4, y5, y6, y7, y8, y9, y10, y11, y12, y13, y14, y15, y16, y17, y18, y19, y20, y21, y22, y23, y24, y25, y26, y27, y28, y29, y30, y31], _ =>
      simp only [Prod.mk.injEq, Rows.laid_userplane_subblock_columns, List.map_cons, List.map_nil, DataW.agg.injEq, List.cons.injEq, and_true] at hy
      obtain ⟨⟨r0, r1, r2, r3, r4, r5, r6, r7, r8, r9, r10, r11, r12, r13, r14, r15, r16, r17, r18, r19, r20, r21, r22, r23, r24, r25, r26, r27, r28, r29, r30, r31⟩, _⟩ := hy
      obtain rfl := one_int (hel2 0 (by decide)) r0.symm
      obtain rfl := one_int (hel2 1 (by decide)) r1.symm
      obtain rfl := one_int (hel2 2 (by decide)) r2.symm
      obtain rfl := one_int (hel2 3 (by decide)) r3.symm
      obtain rfl := one_int (hel2 4 (by decide)) r4.symm
      obtain rfl := one_int (hel2 5 (by decide)) r5.symm
      obtain rfl := one_int (hel2 6 (by decide)) r6.symm
      obtain rfl := one_int (hel2 7 (by decide)) r7.symm
      obtain rfl := one_int (hel2 8 (by decide)) r8.symm
      obtain rfl := one_int (hel2 9 (by decide)) r9.symm
      obtain rfl := one_int (hel2 10 (by decide)) r10.symm
      obtain rfl := one_int (hel2 11 (by decide)) r11.symm
      obtain rfl := one_int (hel2 12 (by decide)) r12.symm
      obtain rfl := one_int (hel2 13 (by decide)) r13.symm
      obtain rfl := one_int (hel2 14 (by decide)) r14.symm
      obtain rfl := one_int (hel2 15 (by decide)) r15.symm
      obtain rfl := one_int (hel2 16 (by decide)) r16.symm
      obtain rfl := one_int (hel2 17 (by decide)) r17.symm
      obtain rfl := one_int (hel2 18 (by decide)) r18.symm
      obtain rfl := one_int (hel2 19 (by decide)) r19.symm
      obtain rfl := one_int (hel2 20 (by decide)) r20.symm
      obtain rfl := one_int (hel2 21 (by decide)) r21.symm
      obtain rfl := one_int (hel2 22 (by decide)) r22.symm
      obtain rfl := one_int (hel2 23 (by decide)) r23.symm
      obtain rfl := one_int (hel2 24 (by decide)) r24.symm
      obtain rfl := one_int (hel2 25 (by decide)) r25.symm
      obtain rfl := one_int (hel2 26 (by decide)) r26.symm
      obtain rfl := one_int (hel2 27 (by decide)) r27.symm
      obtain rfl := one_int (hel2 28 (by decide)) r28.symm
      obtain rfl := one_int (hel2 29 (by decide)) r29.symm
      obtain rfl := one_int (hel2 30 (by decide)) r30.symm
      obtain rfl := one_int (hel2 31 (by decide)) r31.symm
      have hr0 : W.cell? ⟨1, 0, none⟩ = some (.int .i64 0) := by simpa using hcell2 0
      refine ⟨World.block_lt_of_cell? W _ hr0, fun j hj => ?_⟩
      rw [hcell2 j]
      have e : (#[.int .i64 0, .int .i64 16, .int .i64 8, .int .i64 24, .int .i64 4, .int .i64 20, .int .i64 12, .int .i64 28, .int .i64 2, .int .i64 18, .int .i64 10, .int .i64 26, .int .i64 6, .int .i64 22, .int .i64 14, .int .i64 30, .int .i64 1, .int .i64 17, .int .i64 9, .int .i64 25, .int .i64 5, .int .i64 21, .int .i64 13, .int .i64 29, .int .i64 3, .int .i64 19, .int .i64 11, .int .i64 27, .int .i64 7, .int .i64 23, .int .i64 15, .int .i64 31] : Array Value) = (colL.map fun c : Nat => Value.int .i64 (c : Int)).toArray := rfl
      have e2 : colL[j]? = some (colN j) := by
        unfold colN
        rw [List.getElem?_eq_getElem (show j < colL.length from hj)]
        rfl
      show (#[.int .i64 0, .int .i64 16, .int .i64 8, .int .i64 24, .int .i64 4, .int .i64 20, .int .i64 12, .int .i64 28, .int .i64 2, .int .i64 18, .int .i64 10, .int .i64 26, .int .i64 6, .int .i64 22, .int .i64 14, .int .i64 30, .int .i64 1, .int .i64 17, .int .i64 9, .int .i64 25, .int .i64 5, .int .i64 21, .int .i64 13, .int .i64 29, .int .i64 3, .int .i64 19, .int .i64 11, .int .i64 27, .int .i64 7, .int .i64 23, .int .i64 15, .int .i64 31] : Array Value)[j]? = _
      rw [e, List.getElem?_toArray, List.getElem?_map, e2]
      rfl
/-- The door's own heap meets the condition. -/
theorem door_met (os : Os) (args : Array Value) : laidMetH Tryd.prog laids ((World.doorLaid Tryd.prog 400 os).forCall (fun _ _ => 0) ⟨#[], args, []⟩).memory :=
  laidMetH_of_parts3 (fuel := 8) (laidMet_of_run' 8 (by kernel_rfl) (by kernel_rfl)) (by kernel_rfl) (by kernel_rfl)
theorem own : ownKnob Tryd.prog.godebug = none := by kernel_rfl
theorem laidOut : laidOutB Tryd.prog = true := by kernel_rfl
end Go.Proofs.YtoegamlpgenfcaaDoor
