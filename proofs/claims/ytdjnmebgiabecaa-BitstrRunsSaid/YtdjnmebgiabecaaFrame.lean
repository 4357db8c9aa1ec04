/-
  From the form's reading of an argument to the words of these proofs: a slice of integers that came in.
-/
import Derived.Test.YtdjnmebgiabecaaW10
import Derived.Test.YtdjnmebgiabecaaW11
import Derived.WalkLawsBesides
import Derived.ProofKit
import Derived.OpenShut
namespace Go.Proofs.Ytdjnmebgiabecaa
open Go.ChangeShapes Go.WideShapes Go.ChangeAt Go.RowKit

/-- A slice of integers that came in: nil, or a row of 'cap' cells, the numbers 'zs' (the first 'len' are its elements), each fitting its kind. -/
def IsRow (k : IntKind) (w : World) (a : Option Addr) (len cap : Nat) (zs : List Int) : Prop :=
  (a = none ∧ len = 0 ∧ cap = 0 ∧ zs = []) ∨
  ∃ x, a = some x ∧ len ≤ cap ∧ cap ≤ maxLen ∧ zs.length = cap ∧ (∀ i, i < zs.length → w.cell? (x.add i) = some (.int k (zs.getD i 0))) ∧ ∀ n ∈ zs, (Lit.int k n).wf = true

theorem IsRow.len_le {k : IntKind} {w : World} {a : Option Addr} {len cap : Nat} {zs : List Int} (h : IsRow k w a len cap zs) : len ≤ cap := by
  rcases h with ⟨rfl, rfl, rfl, rfl⟩ | ⟨x, rfl, hl, _⟩
  · exact Nat.le_refl _
  · exact hl
theorem IsRow.rd {k : IntKind} {w : World} {a : Option Addr} {len cap : Nat} {zs : List Int} (h : IsRow k w a len cap zs) : Rd k w w.heap.size a len (zs.take len) := by
  rcases h with ⟨rfl, rfl, rfl, rfl⟩ | ⟨x, rfl, hl, hm, hz, hc, hw⟩
  · exact Rd.nil _ _ _ _
  · refine ⟨by rw [List.length_take]; omega, fun j hj => ?_⟩
    obtain ⟨b, off, rfl, hc'⟩ := ints_at hc (by omega)
    have h1 := hc' j (by omega)
    exact ⟨b, off, rfl, World.block_lt_of_cell? w _ h1, by rw [h1, List.getElem?_take, if_pos hj, List.getD_eq_getElem?_getD]⟩
theorem IsRow.byte {w : World} {a : Option Addr} {len cap : Nat} {zs : List Int} (h : IsRow .u8 w a len cap zs) : Byte (zs.take len) := by
  rcases h with ⟨rfl, rfl, rfl, rfl⟩ | ⟨x, rfl, hl, hm, hz, hc, hw⟩
  · exact fun k => by simp
  · exact Byte.of_mem fun y hy => by
      have := hw y (List.mem_of_mem_take hy)
      simpa [Lit.wf, IntKind.min, IntKind.max, IntKind.signed, IntKind.bits] using this
theorem wf_u64 {x : Int} (h : (Lit.int .u64 x).wf = true) : 0 ≤ x ∧ x < 18446744073709551616 := by
  have : 0 ≤ x ∧ x ≤ 18446744073709551615 := by simpa [Lit.wf, IntKind.min, IntKind.max, IntKind.signed, IntKind.bits] using h
  omega
theorem wf_i64 {x : Int} (h : (Lit.int .i64 x).wf = true) : -9223372036854775808 ≤ x ∧ x ≤ 9223372036854775807 := by
  simpa [Lit.wf, IntKind.min, IntKind.max, IntKind.signed, IntKind.bits] using h
theorem wf_u8 {x : Int} (h : (Lit.int .u8 x).wf = true) : 0 ≤ x ∧ x ≤ 255 := by
  simpa [Lit.wf, IntKind.min, IntKind.max, IntKind.signed, IntKind.bits] using h
theorem byte_fromUintS (v n : Int) : Byte (fromUintS v n).1 := by
  unfold fromUintS
  split
  · exact fun k => by simp
  · split
    · exact fun k => by simp
    · exact Byte.of_mem fun x hx => by obtain ⟨i, _, rfl⟩ := List.mem_map.1 hx; omega
theorem RetBytes.litc {T : TypeId} {w w' : World} {s : List Int × Int} {e : Ending} (h : RetBytes T w s e w') {r : List Int} {k : Int} {n : Nat} (hs : s = (r, k)) (hn : r.length = n) :
    ∃ A c, e = .returned (.tuple #[.slice A n c, .int .i64 k]) ∧ Rd .u8 w' w'.heap.size A n r ∧ Below w.heap.size w w' ∧ n ≤ c := by
  subst hs hn
  obtain ⟨A, c, he, ho, hb⟩ := h
  refine ⟨A, c, he, Rd.of_own ho, hb, ?_⟩
  rcases ho.2 with ⟨h1, h2⟩ | ⟨g, cap, cur, h1, _, _, h2, _⟩
  · have h3 : r.length = 0 := h2
    omega
  · injection h1 with _ _ h3
    have h4 : r.length ≤ cap := h2
    omega
theorem byte_nil : Byte [] := fun k => by simp
theorem byte_packS {xs : List Int} (hx : Byte xs) : Byte (packS xs).1 := by
  unfold packS
  split
  · exact byte_nil
  · rename_i h; exact byte_packL (validB_bits hx (by simpa using h))
theorem byte_unpackS (p : List Int) (n : Int) : Byte (unpackS p n).1 := by
  unfold unpackS
  split
  · exact byte_nil
  · split
    · exact byte_nil
    · exact (unpackL_bits _ _).byte
theorem byte_xorS (xs ys : List Int) : Byte (xorS xs ys).1 := by
  unfold xorS
  split
  · exact byte_nil
  · split
    · exact byte_nil
    · exact (xorL_bits _ _).byte
end Go.Proofs.Ytdjnmebgiabecaa
