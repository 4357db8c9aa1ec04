/-
  From the form's reading of the laws' arguments to the words of these proofs: bytes, integers, fields, calls of a writer, calls of a reader.
-/
import Derived.Test.YtgcgmnopggabaaaWr5
import Derived.ProofKit
import Derived.OpenShut
import Derived.ChangeOld
import Derived.Deep.Slices
import Derived.Deep.SlicePairs
import Derived.Deep.Fields
namespace Go.Proofs.Ytgcgmnopggabaaa
open Go.ChangeShapes Go.WideShapes Go.ChangeAt Go.RowKit Go.Deep

theorem wf_u64 {x : Int} (h : (Lit.int .u64 x).wf = true) : 0 ≤ x ∧ x < 18446744073709551616 := by
  have : 0 ≤ x ∧ x ≤ 18446744073709551615 := by simpa [Lit.wf, IntKind.min, IntKind.max, IntKind.signed, IntKind.bits] using h
  omega
theorem wf_i64 {x : Int} (h : (Lit.int .i64 x).wf = true) : -9223372036854775808 ≤ x ∧ x ≤ 9223372036854775807 := by
  simpa [Lit.wf, IntKind.min, IntKind.max, IntKind.signed, IntKind.bits] using h
/-- The number in a value. -/
def numOf : Value → Int | .int _ q => q | _ => 0
def I64 (x : Int) : Prop := -9223372036854775808 ≤ x ∧ x ≤ 9223372036854775807

theorem add_off (b off k : Nat) : (⟨b, off, none⟩ : Addr).add k = ⟨b, off + k, none⟩ := by
  by_cases h : k = 0 <;> simp [Addr.add, h]
theorem spot_none {w : World} {a : Addr} {v : Value} (h : w.cell? (a.add 0) = some v) : ∃ b off, a = ⟨b, off, none⟩ := by
  obtain ⟨b, off, spot⟩ := a
  have h1 : spot = none := World.cell?_spot (a := ⟨b, off, spot⟩) (by simpa [Addr.add] using h)
  exact ⟨b, off, by rw [h1]⟩

section
variable {H : Type} {enc : TypeId × Value → H} {W : World} {base fuel : Nat} {x : DataW H × List MemPlace}
/-- A slice of integers of kind k that came in. -/
theorem op_row {t e : TypeId} {k : IntKind} {v : Value} (ht : Try.prog.underlying t = some (.slice e)) (he : Try.prog.underlying e = some (.int k)) (hc : Try.prog.cellsOf e = 1) (h : DataW.trod enc Try.prog W base (fun _ => true) true fuel t [v] = some x) :
    ∃ A n c xs, v = .slice A n c ∧ n ≤ c ∧ Rd k W W.heap.size A n xs ∧ ∀ z ∈ xs, (Lit.int k z).wf = true := by
  rcases open_ints ht he hc h with ⟨hcs, _⟩ | ⟨a, l, c, zs, hcs, _, hl, hm, hz, _, hcell, hwz⟩
  · simp at hcs
    exact ⟨none, 0, 0, [], hcs, Nat.le_refl _, Rd.nil _ _ _ _, by simp⟩
  · simp at hcs
    have hz' : zs.length = c := by simpa using hz
    refine ⟨some a, l, c, zs.take l, hcs, hl, ⟨by rw [List.length_take]; omega, fun j hj => ?_⟩, fun z hz2 => hwz z (List.mem_of_mem_take hz2)⟩
    obtain ⟨b, off, rfl, hc'⟩ := ints_at hcell (by omega)
    have h1 := hc' j (by omega)
    exact ⟨b, off, rfl, World.block_lt_of_cell? W _ h1, by rw [h1, List.getElem?_take, if_pos hj, List.getD_eq_getElem?_getD]⟩
theorem op_bytes {v : Value} (h : DataW.trod enc Try.prog W base (fun _ => true) true fuel 25 [v] = some x) : ∃ A n c xs, v = .slice A n c ∧ n ≤ c ∧ Rd .u8 W W.heap.size A n xs ∧ Byte xs := by
  obtain ⟨A, n, c, xs, h1, h2, h3, h4⟩ := op_row Try.underlying25 Try.underlying5 (by kernel_rfl) h
  refine ⟨A, n, c, xs, h1, h2, h3, Byte.of_mem fun y hy => ?_⟩
  have := h4 y hy
  simpa [Lit.wf, IntKind.min, IntKind.max, IntKind.signed, IntKind.bits] using this
theorem op_ints {v : Value} (h : DataW.trod enc Try.prog W base (fun _ => true) true fuel 47 [v] = some x) : ∃ A n c xs, v = .slice A n c ∧ n ≤ c ∧ Rd .i64 W W.heap.size A n xs ∧ ∀ z ∈ xs, I64 z := by
  obtain ⟨A, n, c, xs, h1, h2, h3, h4⟩ := op_row Try.underlying47 Try.underlying3 (by kernel_rfl) h
  exact ⟨A, n, c, xs, h1, h2, h3, fun z hz => wf_i64 (h4 z hz)⟩
theorem op_fields {v : Value} (h : DataW.trod enc Try.prog W base (fun _ => true) true fuel 34 [v] = some x) : ∃ A n c fs, v = .slice A n c ∧ n ≤ c ∧ RdF W W.heap.size A n fs ∧ ∀ f ∈ fs, I64 f.2 := by
  rcases open_slice_pairs Try.underlying34 Try.underlying73 (by kernel_rfl) rfl rfl (by kernel_rfl) (by kernel_rfl) h with ⟨hcs, _⟩ | ⟨a, l, c, m, n, V0, V1, D0, D1, P0, P1, hcs, _, hl, _, hm, _, hrow⟩
  · simp at hcs
    exact ⟨none, 0, 0, [], hcs, Nat.le_refl _, ⟨rfl, fun k hk => absurd hk (Nat.not_lt_zero k), by simp⟩, by simp⟩
  · simp at hcs
    have hm' : m = c := by simpa using hm
    have key : ∀ i, i < l → ∃ v n, V0 i = .int .u64 v ∧ V1 i = .int .i64 n ∧ (0 ≤ v ∧ v < 18446744073709551616) ∧ I64 n := fun i hi => by
      obtain ⟨_, _, h3, h4⟩ := hrow i (by omega)
      obtain ⟨v, e1, _, w1⟩ := DataW.trod_int Try.underlying33 h3
      obtain ⟨n', e2, _, w2⟩ := DataW.trod_int Try.underlying3 h4
      simp at e1 e2
      exact ⟨v, n', e1, e2, wf_u64 w1, wf_i64 w2⟩
    refine ⟨some a, l, c, (List.range l).map (fun i => (numOf (V0 i), numOf (V1 i))), hcs, hl, ⟨by simp, fun k hk => ?_, fun f hf => ?_⟩, fun f hf => ?_⟩
    · obtain ⟨h1, h2, _⟩ := hrow k (by omega)
      obtain ⟨v, n', e1, e2, _⟩ := key k hk
      obtain ⟨b, off, rfl⟩ := spot_none (by simpa using (hrow 0 (by omega)).1)
      rw [add_off] at h1 h2
      refine ⟨b, off, rfl, World.block_lt_of_cell? W _ h1, ?_, ?_⟩
      · rw [h1, e1]; simp [hk, e1, numOf]
      · rw [Nat.add_assoc, h2, e2]; simp [hk, e2, numOf]
    · obtain ⟨i, hi, rfl⟩ := List.mem_map.1 hf
      obtain ⟨v, n', e1, e2, h3, h4⟩ := key i (List.mem_range.1 hi)
      simpa [e1, numOf] using h3
    · obtain ⟨i, hi, rfl⟩ := List.mem_map.1 hf
      obtain ⟨v, n', e1, e2, h3, h4⟩ := key i (List.mem_range.1 hi)
      simpa [e2, numOf] using h4

/-- A call of a writer, as it lies in memory: its five cells. -/
structure ActRow where
  what : Int
  v : Int
  num : Int
  ba : Option Addr
  bn : Nat
  bc : Nat
  bxs : List Int
  la : Option Addr
  ln : Nat
  lc : Nat
  fs : List (Int × Int)
def ActRow.cells (r : ActRow) : List Value := [.int .i64 r.what, .int .u64 r.v, .int .i64 r.num, .slice r.ba r.bn r.bc, .slice r.la r.ln r.lc]
/-- What the call's slices read as. -/
structure ActRow.Good (r : ActRow) (W : World) (B : Nat) : Prop where
  what : I64 r.what
  v : 0 ≤ r.v ∧ r.v < 18446744073709551616
  num : I64 r.num
  bytes : Rd .u8 W B r.ba r.bn r.bxs
  byte : Byte r.bxs
  fields : RdF W B r.la r.ln r.fs
/-- A call of a reader. -/
structure AskRow where
  what : Int
  num : Int
  la : Option Addr
  ln : Nat
  lc : Nat
  xs : List Int
def AskRow.cells (r : AskRow) : List Value := [.int .i64 r.what, .int .i64 r.num, .slice r.la r.ln r.lc]
structure AskRow.Good (r : AskRow) (W : World) (B : Nat) : Prop where
  what : I64 r.what
  num : I64 r.num
  ints : Rd .i64 W B r.la r.ln r.xs
  range : ∀ z ∈ r.xs, I64 z

/-- The cells of a struct of one-cell fields, each read on its own. -/
theorem op_struct {t : TypeId} {fs : Array Field} {cs : List Value} (hs : Try.prog.underlying t = some (.struct fs)) (hone : oneCellFields Try.prog fs = true) (hC : Try.prog.cellsOf t = fs.size) (h : DataW.trod enc Try.prog W base (fun _ => true) true fuel t cs = some x) :
    cs.length = fs.size ∧ ∀ (i : Nat) (f : Field), fs[i]? = some f → ∃ v n y, cs[i]? = some v ∧ DataW.trod enc Try.prog W base (fun _ => true) true n f.type [v] = some y := by
  obtain ⟨xs, n, _, _, hl, hxl, hf⟩ := DataW.trod_struct hs h
  refine ⟨hl.trans hC, fun i f hi => ?_⟩
  have hi' : i < fs.size := (Array.getElem?_eq_some_iff.1 hi).1
  obtain ⟨ho, hk⟩ := hone_of hone i f hi
  have h1 := hf i f hi
  have hcl : i < cs.length := by rw [hl, hC]; exact hi'
  have hxl' : i < xs.length := by rw [hxl]; exact hi'
  rw [ho, hk, List.drop_eq_getElem_cons hcl] at h1
  refine ⟨cs[i], n, xs[i], List.getElem?_eq_getElem hcl, ?_⟩
  rw [List.getElem?_eq_getElem hxl'] at h1
  exact h1
theorem op_act {cs : List Value} (h : DataW.trod enc Try.prog W base (fun _ => true) true fuel 36 cs = some x) : ∃ r : ActRow, cs = r.cells ∧ r.Good W W.heap.size := by
  obtain ⟨hl, hf⟩ := op_struct Try.underlying36 (by kernel_rfl) (by kernel_rfl) h
  obtain ⟨v0, n0, y0, e0, t0⟩ := hf 0 _ rfl
  obtain ⟨v1, n1, y1, e1, t1⟩ := hf 1 _ rfl
  obtain ⟨v2, n2, y2, e2, t2⟩ := hf 2 _ rfl
  obtain ⟨v3, n3, y3, e3, t3⟩ := hf 3 _ rfl
  obtain ⟨v4, n4, y4, e4, t4⟩ := hf 4 _ rfl
  obtain ⟨what, c0, _, w0⟩ := DataW.trod_int Try.underlying3 t0
  obtain ⟨v, c1, _, w1⟩ := DataW.trod_int Try.underlying33 t1
  obtain ⟨num, c2, _, w2⟩ := DataW.trod_int Try.underlying3 t2
  obtain ⟨ba, bn, bc, bxs, c3, _, hR, hB⟩ := op_bytes t3
  obtain ⟨la, ln, lc, fs, c4, _, hF, _⟩ := op_fields t4
  simp at c0 c1 c2
  subst c0 c1 c2 c3 c4
  refine ⟨⟨what, v, num, ba, bn, bc, bxs, la, ln, lc, fs⟩, ?_, ⟨wf_i64 w0, wf_u64 w1, wf_i64 w2, hR, hB, hF⟩⟩
  match cs, hl with
  | [a, b, c, d, e], _ =>
    simp at e0 e1 e2 e3 e4
    subst e0 e1 e2 e3 e4
    rfl
theorem op_ask {cs : List Value} (h : DataW.trod enc Try.prog W base (fun _ => true) true fuel 49 cs = some x) : ∃ r : AskRow, cs = r.cells ∧ r.Good W W.heap.size := by
  obtain ⟨hl, hf⟩ := op_struct Try.underlying49 (by kernel_rfl) (by kernel_rfl) h
  obtain ⟨v0, n0, y0, e0, t0⟩ := hf 0 _ rfl
  obtain ⟨v1, n1, y1, e1, t1⟩ := hf 1 _ rfl
  obtain ⟨v2, n2, y2, e2, t2⟩ := hf 2 _ rfl
  obtain ⟨what, c0, _, w0⟩ := DataW.trod_int Try.underlying3 t0
  obtain ⟨num, c1, _, w1⟩ := DataW.trod_int Try.underlying3 t1
  obtain ⟨la, ln, lc, xs, c2, _, hR, hX⟩ := op_ints t2
  simp at c0 c1
  subst c0 c1 c2
  refine ⟨⟨what, num, la, ln, lc, xs⟩, ?_, ⟨wf_i64 w0, wf_i64 w1, hR, hX⟩⟩
  match cs, hl with
  | [a, b, c], _ =>
    simp at e0 e1 e2
    subst e0 e1 e2
    rfl
/-- A slice of structs of s cells each: every element's cells, and what they read as. -/
theorem op_rows {t e : TypeId} {s : Nat} {v : Value} (ht : Try.prog.underlying t = some (.slice e)) (hs : Try.prog.cellsOf e = s) (h0 : 0 < s) (h : DataW.trod enc Try.prog W base (fun _ => true) true fuel t [v] = some x) :
    ∃ A n c, v = .slice A n c ∧ n ≤ c ∧ ∀ k, k < n → ∃ b off cs n' y, A = some ⟨b, off, none⟩ ∧ b < W.heap.size ∧ (∀ j, j < s → W.cell? ⟨b, off + k * s + j, none⟩ = cs[j]?) ∧ cs.length = s ∧ DataW.trod enc Try.prog W base (fun _ => true) true n' e cs = some y := by
  rcases open_slice ht h with ⟨hcs, _⟩ | ⟨a, len, cap, m, n, D, Pl, hcs, hb, hl, hm, hmm, _, hi⟩
  · simp at hcs
    exact ⟨none, 0, 0, hcs, Nat.le_refl _, fun k hk => absurd hk (Nat.not_lt_zero k)⟩
  · simp at hcs
    have hm' : m = cap := by simpa using hmm
    refine ⟨some a, len, cap, hcs, hl, fun k hk => ?_⟩
    obtain ⟨cs0, hc0, _⟩ := hi 0 (by omega)
    obtain ⟨_, hcl0, hat0⟩ := World.cells?_some hc0
    obtain ⟨b, off, rfl⟩ : ∃ b off, a = ⟨b, off, none⟩ := by
      have h1 := hat0 0 (by rw [hs]; exact h0)
      rw [List.getElem?_eq_getElem (by rw [hcl0, hs]; exact h0)] at h1
      simp only [Nat.zero_mul] at h1
      have e0 : a.add 0 = a := rfl
      rw [e0] at h1
      exact spot_none h1
    obtain ⟨cs, hc, ht'⟩ := hi k (by omega)
    obtain ⟨_, hcl, hat⟩ := World.cells?_some hc
    rw [hs] at hcl hat
    have hcell : ∀ j, j < s → W.cell? ⟨b, off + k * s + j, none⟩ = cs[j]? := fun j hj => by
      have := hat j hj
      rwa [add_off, add_off] at this
    refine ⟨b, off, cs, n, _, rfl, ?_, hcell, hcl, ht'⟩
    have h1 := hcell 0 h0
    rw [List.getElem?_eq_getElem (by omega)] at h1
    exact World.block_lt_of_cell? W _ h1
end
end Go.Proofs.Ytgcgmnopggabaaa
