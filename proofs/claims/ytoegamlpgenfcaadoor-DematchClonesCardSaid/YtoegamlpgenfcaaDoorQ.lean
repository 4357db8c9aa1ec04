/-
  append for integers of any kind.
-/
import Derived.WalkSpells
import Derived.Deep.QuietTactic
import Derived.BigQuiet
import Derived.Maps.AppendAt
import Derived.Test.YtoegamlpgenfcaaDoorApp
namespace Go.Proofs.YtoegamlpgenfcaaDoor
open Go.RowKit

theorem Tryd.info_int : (Tryd.prog.info? 3).map (fun i => (i.zero, i.size, i.bytes)) = some (some (.int .i64 0), 1, 8) := by kernel_rfl
theorem info_q {P : Program} {t : TypeId} {z : Value} {s b : Nat} (h : (P.info? t).map (fun i => (i.zero, i.size, i.bytes)) = some (some z, s, b)) : ∃ i, P.info? t = some i ∧ i.zero = some z ∧ i.size = s ∧ i.bytes = b := by
  obtain ⟨i, hi, he⟩ := Option.map_eq_some_iff.1 h
  injection he with e1 e2
  injection e2 with e2 e3
  exact ⟨i, hi, e1, e2, e3⟩
/-- append of a slice that is read onto one of the call's own. -/
theorem run_append_q {P : Program} {w : World} {B base : Nat} {t ty e : TypeId} {i : TypeInfo} {q : IntKind} {bytes : Nat} (ht : P.underlying t = some (.slice e)) (hi : P.info? e = some i) (hz : i.zero = some (.int q 0)) (hsize : i.size = 1) (hby : i.bytes = bytes) (hb8 : bytes ≤ 8)
    {A : Option Addr} {V : Value} {n m c' : Nat} {xs ys : List Int} (hown : w.ownsRow base e 1 V n (xs.map (Value.int q))) (hR : Rd q w B A m ys) (hlim : n + m ≤ 1000000) (hbase : base ≤ w.heap.size) :
    ∃ V' w', (Builtin.append_ #[t, t] ty #[V, .slice A m c']).run P w = .ok V' w' ∧
      w'.ownsRow base e 1 V' (n + m) ((xs ++ ys).map (Value.int q)) ∧ w.grownBy w' V.ownBlock ∧ (V'.ownBlock = V.ownBlock ∨ V'.ownBlock = some w.heap.size) := by
  have hlb : (n + m) * bytes ≤ 140737488355328 := by
    have := Nat.mul_le_mul hlim hb8
    omega
  rcases A with _ | a
  · obtain ⟨A1, c, hV⟩ := ownsRow_shape hown
    have hm : m = 0 := by
      rcases Nat.eq_zero_or_pos m with h0 | h0
      · exact h0
      · obtain ⟨_, _, h, _⟩ := hR.cells 0 h0
        cases h
    subst hm
    obtain rfl : ys = [] := List.eq_nil_of_length_eq_zero hR.len
    refine ⟨V, w, ?_, by simpa using hown, ⟨rfl, rfl, rfl, Nat.le_refl _, fun _ _ _ => rfl⟩, .inl rfl⟩
    rcases hown.2 with ⟨h1, h2⟩ | ⟨g, cap, cur, h1, _, _, hnc, _⟩
    · subst h1
      simp [Builtin.append_, run_underlying ht, sizeOf, typeInfo, hi, Builtin.lenOf, Builtin.firstCells]
    · subst h1
      simp [Builtin.append_, run_underlying ht, sizeOf, typeInfo, hi, Builtin.lenOf, Builtin.firstCells, hnc, storeCells]
  · have hnews : ∀ j u, (ys.map (Value.int q))[j]? = some u → w.cell? (a.add j) = some u := by
      intro j u hu
      rw [List.getElem?_map] at hu
      obtain ⟨y, hy, rfl⟩ := Option.map_eq_some_iff.1 hu
      obtain ⟨hj, _⟩ := List.getElem?_eq_some_iff.1 hy
      obtain ⟨b, off, he, _, hc⟩ := hR.cells j (by rw [← hR.len]; exact hj)
      injection he with he
      subst he
      rw [hy] at hc
      by_cases h0 : j = 0
      · subst h0; simpa [Addr.add] using hc
      · simpa [Addr.add, h0] using hc
    obtain ⟨v', w', hr, h2, h3, _, h5⟩ := run_append_own_at (P := P) w base t ty e i (.int q 0) 1 bytes ht hi hz hsize hby rfl (by decide) _ n _ hown a m c' (ys.map (Value.int q)) (by simp [hR.len]) hnews (by simp [Value.oneCell']) (by unfold maxLen; omega) hlb hbase
    exact ⟨v', w', hr, by simpa using h2, h3, h5⟩
theorem own_empty_q (w : World) (t : TypeId) (q : IntKind) : (w.alloc (.cells #[] t)).ownsRow w.heap.size t 1 (.slice (some ⟨w.heap.size, 0, none⟩) 0 0) 0 (([] : List Int).map (Value.int q)) := own_empty w t
theorem copy_run_q {P : Program} {w : World} {t e : TypeId} {i : TypeInfo} {q : IntKind} {bytes : Nat} (ht : P.underlying t = some (.slice e)) (hi : P.info? e = some i) (hz : i.zero = some (.int q 0)) (hsize : i.size = 1) (hby : i.bytes = bytes) (hb8 : bytes ≤ 8)
    {A : Option Addr} {n c : Nat} {xs : List Int} (hI : Rd q w w.heap.size A n xs) (hn : n ≤ 1000000) :
    ∃ A2 c2 w2, (Builtin.append_ #[t, t] t #[.slice (some ⟨w.heap.size, 0, none⟩) 0 0, .slice A n c]).run P (w.alloc (.cells #[] e)) = .ok (.slice A2 n c2) w2 ∧
      w2.ownsRow w.heap.size e 1 (.slice A2 n c2) n (xs.map (Value.int q)) ∧ Below w.heap.size w w2 := by
  obtain ⟨V2, w2, h1, h2, h3, _⟩ := run_append_q (P := P) (ty := t) (c' := c) ht hi hz hsize hby hb8 (own_empty_q w e q) (hI.alloc (Nat.le_refl _) _) (by omega) (by simp)
  obtain ⟨A2, c2, rfl⟩ := ownsRow_shape h2
  rw [Nat.zero_add] at h1 h2
  exact ⟨A2, c2, w2, h1, by simpa using h2, ((Below.refl _ w).alloc (Nat.le_refl _) _).grown h3 (by simp) (fun g hg => by cases hg; exact Nat.le_refl _)⟩
/-- append of one element. -/
theorem append_one_q {P : Program} {w : World} {t e : TypeId} {i : TypeInfo} {q : IntKind} {bytes : Nat} (ht : P.underlying t = some (.slice e)) (hi : P.info? e = some i) (hz : i.zero = some (.int q 0)) (hsize : i.size = 1) (hby : i.bytes = bytes) (hb8 : bytes ≤ 8)
    {base : Nat} {A : Option Addr} {n c : Nat} {xs : List Int} {x : Int} (hO : w.ownsRow base e 1 (.slice A n c) n (xs.map (Value.int q))) (hn : n < 1000000) (hb : base ≤ w.heap.size) :
    ∃ A2 c2 w2, (Builtin.append_ #[t, t] t #[.slice A n c, .slice (some ⟨w.heap.size, 0, none⟩) 1 1]).run P (w.alloc (.cells #[.int q x] e)) = .ok (.slice A2 (n + 1) c2) w2 ∧
      w2.ownsRow base e 1 (.slice A2 (n + 1) c2) (n + 1) ((xs ++ [x]).map (Value.int q)) ∧ (w.alloc (.cells #[.int q x] e)).grownBy w2 (Value.slice A n c).ownBlock := by
  have hO' : (w.alloc (.cells #[.int q x] e)).ownsRow base e 1 (.slice A n c) n (xs.map (Value.int q)) := hO.alloc _
  have hR : Rd q (w.alloc (.cells #[.int q x] e)) (w.heap.size + 1) (some ⟨w.heap.size, 0, none⟩) 1 [x] := by
    refine ⟨rfl, fun k hk => ⟨w.heap.size, 0, rfl, by omega, ?_⟩⟩
    obtain rfl : k = 0 := by omega
    simp
  obtain ⟨V2, w2, h1, h2, h3, _⟩ := run_append_q (P := P) (ty := t) (c' := 1) ht hi hz hsize hby hb8 hO' hR (by omega) (by simp; omega)
  obtain ⟨A2, c2, rfl⟩ := ownsRow_shape h2
  exact ⟨A2, c2, w2, h1, h2, h3⟩

end Go.Proofs.YtoegamlpgenfcaaDoor
