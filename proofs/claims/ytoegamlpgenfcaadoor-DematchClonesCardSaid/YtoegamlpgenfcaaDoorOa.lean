/-
  Calls of a buffer that come in.
-/
import Derived.Test.YtoegamlpgenfcaaDoorOpen
import Derived.Test.YtoegamlpgenfcaaDoorLv
import Derived.Lib.SmallJoins
namespace Go.Proofs.YtoegamlpgenfcaaDoor
open Go.ChangeShapes Go.WideShapes Go.ChangeAt Go.RowKit Go.Deep Go.WideElems

/-- A slice of calls that is read. -/
structure RdA (w : World) (B : Nat) (A : Option Addr) (n : Nat) : Prop where
  cells : ∀ k, k < n → ∃ b off what rv m seed, A = some ⟨b, off, none⟩ ∧ b < B ∧ w.cell? ⟨b, off + k * 4, none⟩ = some (.int .i64 what) ∧ w.cell? ⟨b, off + k * 4 + 1, none⟩ = some (.int .i64 rv) ∧ w.cell? ⟨b, off + k * 4 + 2, none⟩ = some (.int .i64 m) ∧ w.cell? ⟨b, off + k * 4 + 3, none⟩ = some (.int .i64 seed) ∧ I64 seed
theorem add_off (b off k : Nat) : (⟨b, off, none⟩ : Addr).add k = ⟨b, off + k, none⟩ := by
  by_cases h : k = 0 <;> simp [Addr.add, h]
theorem spot_none {w : World} {a : Addr} {v : Value} (h : w.cell? (a.add 0) = some v) : ∃ b off, a = ⟨b, off, none⟩ := by
  obtain ⟨b, off, spot⟩ := a
  have h1 : spot = none := World.cell?_spot (a := ⟨b, off, spot⟩) (by simpa [Addr.add] using h)
  exact ⟨b, off, by rw [h1]⟩
section
variable {H : Type} {enc : TypeId × Value → H} {W : World} {base fuel : Nat} {x : DataW H × List MemPlace}
theorem op_rows {t e : TypeId} {s : Nat} {v : Value} (ht : Tryd.prog.underlying t = some (.slice e)) (hs : Tryd.prog.cellsOf e = s) (h0 : 0 < s) (h : DataW.trod enc Tryd.prog W base (fun _ => true) true fuel t [v] = some x) :
    ∃ A n c, v = .slice A n c ∧ n ≤ c ∧ ∀ k, k < n → ∃ b off cs n' y, A = some ⟨b, off, none⟩ ∧ b < W.heap.size ∧ (∀ j, j < s → W.cell? ⟨b, off + k * s + j, none⟩ = cs[j]?) ∧ cs.length = s ∧ DataW.trod enc Tryd.prog W base (fun _ => true) true n' e cs = some y := by
  rcases open_slice ht h with ⟨hcs, _⟩ | ⟨a, len, cap, m, n, D, Pl, hcs, hb, hl, hm, hmm, _, hi⟩
  · simp at hcs
    exact ⟨none, 0, 0, hcs, Nat.le_refl _, fun k hk => absurd hk (Nat.not_lt_zero k)⟩
  · simp at hcs
    have hm' : m = cap := by simpa using hmm
    refine ⟨some a, len, cap, hcs, hl, fun k hk => ?_⟩
    obtain ⟨cs0, hc0, _⟩ := hi 0 (by omega)
    obtain ⟨_, hcl0, hat0⟩ := World.cells?_some hc0
    obtain ⟨b, off, rfl⟩ : ∃ b off, a = ⟨b, off, none⟩ := by
      have h1 := hat0 0 (by rw [hs]; exact h0)
      rw [List.getElem?_eq_getElem (by rw [hcl0, hs]; exact h0)] at h1
      simp only [Nat.zero_mul] at h1
      have e0 : a.add 0 = a := rfl
      rw [e0] at h1
      exact spot_none h1
    obtain ⟨cs, hc, ht'⟩ := hi k (by omega)
    obtain ⟨_, hcl, hat⟩ := World.cells?_some hc
    rw [hs] at hcl hat
    have hcell : ∀ j, j < s → W.cell? ⟨b, off + k * s + j, none⟩ = cs[j]? := fun j hj => by
      have := hat j hj
      rwa [add_off, add_off] at this
    refine ⟨b, off, cs, n, _, rfl, ?_, hcell, hcl, ht'⟩
    have h1 := hcell 0 h0
    rw [List.getElem?_eq_getElem (by omega)] at h1
    exact World.block_lt_of_cell? W _ h1
theorem op_act {cs : List Value} (hs : cs.length = 4) (h : DataW.trod enc Tryd.prog W base (fun _ => true) true fuel 37 cs = some x) :
    ∃ a b c d, cs = [.int .i64 a, .int .i64 b, .int .i64 c, .int .i64 d] ∧ I64 d := by
  have c3 : Tryd.prog.cellsOf 3 = 1 := by kernel_rfl
  match cs, hs with
  | [v0, v1, v2, v3], _ =>
    obtain ⟨y0, y1, y2, y3, n, rfl, _, h0, h1, h2, h3⟩ := Go.Joins.trod_struct4 Tryd.underlying37 h
    simp only [c3] at h0 h1 h2 h3
    obtain ⟨k0, e0, f0, _⟩ := DataW.trod_int Tryd.underlying3 h0
    obtain ⟨k1, e1, f1, _⟩ := DataW.trod_int Tryd.underlying3 h1
    obtain ⟨k2, e2, f2, _⟩ := DataW.trod_int Tryd.underlying3 h2
    obtain ⟨k3, e3, f3, hw⟩ := DataW.trod_int Tryd.underlying3 h3
    simp at e0 e1 e2 e3
    exact ⟨k0, k1, k2, k3, by rw [e0, e1, e2, e3], wf_i64 hw⟩
theorem op_acts {v : Value} (h : DataW.trod enc Tryd.prog W base (fun _ => true) true fuel 22 [v] = some x) : ∃ A n c, v = .slice A n c ∧ n ≤ c ∧ RdA W W.heap.size A n := by
  obtain ⟨A, n, c, hv, hc, hk⟩ := op_rows (e := 37) (s := 4) Tryd.underlying22 (by kernel_rfl) (by decide) h
  refine ⟨A, n, c, hv, hc, ⟨fun k hlt => ?_⟩⟩
  obtain ⟨b, off, cs, n', y, h1, h2, h3, h4, h5⟩ := hk k hlt
  obtain ⟨a0, a1, a2, a3, rfl, hr⟩ := op_act h4 h5
  exact ⟨b, off, a0, a1, a2, a3, h1, h2, by simpa using h3 0 (by decide), by simpa using h3 1 (by decide), by simpa using h3 2 (by decide), by simpa using h3 3 (by decide), hr⟩
set_option maxRecDepth 100000 in
/-- Two calls that came in. -/
theorem op_two {cs : List Value} (hs : cs.length = 8) (h : DataW.trod enc Tryd.prog W base (fun _ => true) true fuel 41 cs = some x) :
    ∃ a b c d a' b' c' d', cs = [.int .i64 a, .int .i64 b, .int .i64 c, .int .i64 d, .int .i64 a', .int .i64 b', .int .i64 c', .int .i64 d'] ∧ I64 d ∧ I64 d' := by
  have c4 : Tryd.prog.cellsOf 37 = 4 := by kernel_rfl
  obtain ⟨xs, m, rfl, hx, hlen, hn, hel⟩ := DataW.trod_array Tryd.underlying41 h
  rw [c4] at hel
  match cs, hs with
  | [v0, v1, v2, v3, v4, v5, v6, v7], _ =>
    have l0 := hel 0 (by decide)
    have l1 := hel 1 (by decide)
    obtain ⟨y0, hy0⟩ : ∃ y, xs[0]? = some y := ⟨_, List.getElem?_eq_getElem (by omega)⟩
    obtain ⟨y1, hy1⟩ : ∃ y, xs[1]? = some y := ⟨_, List.getElem?_eq_getElem (by omega)⟩
    rw [hy0] at l0
    rw [hy1] at l1
    obtain ⟨a, b, c, d, e1, h1⟩ := op_act rfl l0
    obtain ⟨a', b', c', d', e2, h2⟩ := op_act rfl l1
    simp at e1 e2
    obtain ⟨rfl, rfl, rfl, rfl⟩ := e1
    obtain ⟨rfl, rfl, rfl, rfl⟩ := e2
    exact ⟨a, b, c, d, a', b', c', d', rfl, h1, h2⟩
end
end Go.Proofs.YtoegamlpgenfcaaDoor
