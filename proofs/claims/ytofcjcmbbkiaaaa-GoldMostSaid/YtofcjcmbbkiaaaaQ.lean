/-
  append and Clone for integers of any kind; a list that is rewritten element by element.
-/
import Derived.WalkSpells
import Derived.Deep.QuietTactic
import Derived.BigQuiet
import Derived.Maps.AppendAt
import Derived.Test.YtofcjcmbbkiaaaaG4
namespace Go.Proofs.Ytofcjcmbbkiaaaa
open Go.RowKit

theorem Try.info_int : (Try.prog.info? 3).map (fun i => (i.zero, i.size, i.bytes)) = some (some (.int .i64 0), 1, 8) := by kernel_rfl
theorem info_q {P : Program} {t : TypeId} {z : Value} {s b : Nat} (h : (P.info? t).map (fun i => (i.zero, i.size, i.bytes)) = some (some z, s, b)) : ∃ i, P.info? t = some i ∧ i.zero = some z ∧ i.size = s ∧ i.bytes = b := by
  obtain ⟨i, hi, he⟩ := Option.map_eq_some_iff.1 h
  injection he with e1 e2
  injection e2 with e2 e3
  exact ⟨i, hi, e1, e2, e3⟩
/-- append of a slice that is read onto one of the call's own. -/
theorem run_append_q {P : Program} {w : World} {B base : Nat} {t ty e : TypeId} {i : TypeInfo} {q : IntKind} {bytes : Nat} (ht : P.underlying t = some (.slice e)) (hi : P.info? e = some i) (hz : i.zero = some (.int q 0)) (hsize : i.size = 1) (hby : i.bytes = bytes) (hb8 : bytes ≤ 8)
    {A : Option Addr} {V : Value} {n m c' : Nat} {xs ys : List Int} (hown : w.ownsRow base e 1 V n (xs.map (Value.int q))) (hR : Rd q w B A m ys) (hlim : n + m ≤ 1000000) (hbase : base ≤ w.heap.size) :
    ∃ V' w', (Builtin.append_ #[t, t] ty #[V, .slice A m c']).run P w = .ok V' w' ∧
      w'.ownsRow base e 1 V' (n + m) ((xs ++ ys).map (Value.int q)) ∧ w.grownBy w' V.ownBlock ∧ (V'.ownBlock = V.ownBlock ∨ V'.ownBlock = some w.heap.size) := by
  have hlb : (n + m) * bytes ≤ 140737488355328 := by
    have := Nat.mul_le_mul hlim hb8
    omega
  rcases A with _ | a
  · obtain ⟨A1, c, hV⟩ := ownsRow_shape hown
    have hm : m = 0 := by
      rcases Nat.eq_zero_or_pos m with h0 | h0
      · exact h0
      · obtain ⟨_, _, h, _⟩ := hR.cells 0 h0
        cases h
    subst hm
    obtain rfl : ys = [] := List.eq_nil_of_length_eq_zero hR.len
    refine ⟨V, w, ?_, by simpa using hown, ⟨rfl, rfl, rfl, Nat.le_refl _, fun _ _ _ => rfl⟩, .inl rfl⟩
    rcases hown.2 with ⟨h1, h2⟩ | ⟨g, cap, cur, h1, _, _, hnc, _⟩
    · subst h1
      simp [Builtin.append_, run_underlying ht, sizeOf, typeInfo, hi, Builtin.lenOf, Builtin.firstCells]
    · subst h1
      simp [Builtin.append_, run_underlying ht, sizeOf, typeInfo, hi, Builtin.lenOf, Builtin.firstCells, hnc, storeCells]
  · have hnews : ∀ j u, (ys.map (Value.int q))[j]? = some u → w.cell? (a.add j) = some u := by
      intro j u hu
      rw [List.getElem?_map] at hu
      obtain ⟨y, hy, rfl⟩ := Option.map_eq_some_iff.1 hu
      obtain ⟨hj, _⟩ := List.getElem?_eq_some_iff.1 hy
      obtain ⟨b, off, he, _, hc⟩ := hR.cells j (by rw [← hR.len]; exact hj)
      injection he with he
      subst he
      rw [hy] at hc
      by_cases h0 : j = 0
      · subst h0; simpa [Addr.add] using hc
      · simpa [Addr.add, h0] using hc
    obtain ⟨v', w', hr, h2, h3, _, h5⟩ := run_append_own_at (P := P) w base t ty e i (.int q 0) 1 bytes ht hi hz hsize hby rfl (by decide) _ n _ hown a m c' (ys.map (Value.int q)) (by simp [hR.len]) hnews (by simp [Value.oneCell']) (by unfold maxLen; omega) hlb hbase
    exact ⟨v', w', hr, by simpa using h2, h3, h5⟩
theorem own_empty_q (w : World) (t : TypeId) (q : IntKind) : (w.alloc (.cells #[] t)).ownsRow w.heap.size t 1 (.slice (some ⟨w.heap.size, 0, none⟩) 0 0) 0 (([] : List Int).map (Value.int q)) := own_empty w t
theorem copy_run_q {P : Program} {w : World} {t e : TypeId} {i : TypeInfo} {q : IntKind} {bytes : Nat} (ht : P.underlying t = some (.slice e)) (hi : P.info? e = some i) (hz : i.zero = some (.int q 0)) (hsize : i.size = 1) (hby : i.bytes = bytes) (hb8 : bytes ≤ 8)
    {A : Option Addr} {n c : Nat} {xs : List Int} (hI : Rd q w w.heap.size A n xs) (hn : n ≤ 1000000) :
    ∃ A2 c2 w2, (Builtin.append_ #[t, t] t #[.slice (some ⟨w.heap.size, 0, none⟩) 0 0, .slice A n c]).run P (w.alloc (.cells #[] e)) = .ok (.slice A2 n c2) w2 ∧
      w2.ownsRow w.heap.size e 1 (.slice A2 n c2) n (xs.map (Value.int q)) ∧ Below w.heap.size w w2 := by
  obtain ⟨V2, w2, h1, h2, h3, _⟩ := run_append_q (P := P) (ty := t) (c' := c) ht hi hz hsize hby hb8 (own_empty_q w e q) (hI.alloc (Nat.le_refl _) _) (by omega) (by simp)
  obtain ⟨A2, c2, rfl⟩ := ownsRow_shape h2
  rw [Nat.zero_add] at h1 h2
  exact ⟨A2, c2, w2, h1, by simpa using h2, ((Below.refl _ w).alloc (Nat.le_refl _) _).grown h3 (by simp) (fun g hg => by cases hg; exact Nat.le_refl _)⟩
/-- append of one element. -/
theorem append_one_q {P : Program} {w : World} {t e : TypeId} {i : TypeInfo} {q : IntKind} {bytes : Nat} (ht : P.underlying t = some (.slice e)) (hi : P.info? e = some i) (hz : i.zero = some (.int q 0)) (hsize : i.size = 1) (hby : i.bytes = bytes) (hb8 : bytes ≤ 8)
    {base : Nat} {A : Option Addr} {n c : Nat} {xs : List Int} {x : Int} (hO : w.ownsRow base e 1 (.slice A n c) n (xs.map (Value.int q))) (hn : n < 1000000) (hb : base ≤ w.heap.size) :
    ∃ A2 c2 w2, (Builtin.append_ #[t, t] t #[.slice A n c, .slice (some ⟨w.heap.size, 0, none⟩) 1 1]).run P (w.alloc (.cells #[.int q x] e)) = .ok (.slice A2 (n + 1) c2) w2 ∧
      w2.ownsRow base e 1 (.slice A2 (n + 1) c2) (n + 1) ((xs ++ [x]).map (Value.int q)) ∧ (w.alloc (.cells #[.int q x] e)).grownBy w2 (Value.slice A n c).ownBlock := by
  have hO' : (w.alloc (.cells #[.int q x] e)).ownsRow base e 1 (.slice A n c) n (xs.map (Value.int q)) := hO.alloc _
  have hR : Rd q (w.alloc (.cells #[.int q x] e)) (w.heap.size + 1) (some ⟨w.heap.size, 0, none⟩) 1 [x] := by
    refine ⟨rfl, fun k hk => ⟨w.heap.size, 0, rfl, by omega, ?_⟩⟩
    obtain rfl : k = 0 := by omega
    simp
  obtain ⟨V2, w2, h1, h2, h3, _⟩ := run_append_q (P := P) (ty := t) (c' := 1) ht hi hz hsize hby hb8 hO' hR (by omega) (by simp; omega)
  obtain ⟨A2, c2, rfl⟩ := ownsRow_shape h2
  exact ⟨A2, c2, w2, h1, h2, h3⟩

/-! ### a list rewritten from the front -/
def at_ (xs : List Int) (i : Nat) : Int := xs[i]?.getD 0
def mix (Y X : Nat → Int) (n k : Nat) : List Int := (List.range n).map fun i => if i < k then Y i else X i
def mapN (Y : Nat → Int) (n : Nat) : List Int := (List.range n).map Y
theorem mapN_length (Y : Nat → Int) (n : Nat) : (mapN Y n).length = n := by simp [mapN]
theorem mapN_at {Y : Nat → Int} {n i : Nat} (h : i < n) : at_ (mapN Y n) i = Y i := by simp [mapN, at_, h]
theorem mapN_succ (Y : Nat → Int) (n : Nat) : mapN Y (n + 1) = mapN Y n ++ [Y n] := by simp [mapN, List.range_succ]
theorem mapN_self (xs : List Int) : mapN (at_ xs) xs.length = xs := by
  apply List.ext_getElem (by simp [mapN])
  intro i h1 h2
  simp [mapN, at_, h2]
theorem mapN_congr {Y Z : Nat → Int} {n : Nat} (h : ∀ i, i < n → Y i = Z i) : mapN Y n = mapN Z n := List.map_congr_left fun i hi => h i (by simpa using hi)
theorem mix_zero (Y X : Nat → Int) (n : Nat) : mix Y X n 0 = mapN X n := by simp [mix, mapN]
theorem mix_full (Y X : Nat → Int) (n : Nat) : mix Y X n n = mapN Y n := List.map_congr_left fun i hi => by rw [if_pos (by simpa using hi)]
theorem mix_set (Y X : Nat → Int) (n k : Nat) : mix Y X n (k + 1) = (mix Y X n k).set k (Y k) := by
  apply List.ext_getElem (by simp [mix])
  intro i h1 h2
  rw [List.getElem_set]
  by_cases h : k = i
  · subst h
    simp [mix]
  · rw [if_neg h]
    simp only [mix, List.getElem_map, List.getElem_range]
    by_cases h3 : i < k
    · rw [if_pos (by omega), if_pos h3]
    · rw [if_neg (by omega), if_neg h3]
theorem mix_same {Y X : Nat → Int} {n k : Nat} (h : Y k = X k) : mix Y X n (k + 1) = mix Y X n k := by
  apply List.map_congr_left
  intro i _
  by_cases h3 : i < k
  · rw [if_pos (by omega), if_pos h3]
  · by_cases h4 : i = k
    · subst h4; rw [if_pos (by omega), if_neg h3, h]
    · rw [if_neg (by omega), if_neg h3]
theorem mix_get {Y X : Nat → Int} {n k : Nat} (h : k < n) : (mix Y X n k)[k]? = some (X k) := by simp [mix, h]
theorem goldL_at {v m i : Nat} (h : i < m) : (goldL v m)[i]?.getD 0 = goldI v i := by simp [goldL, h]
theorem mix_at {Y X : Nat → Int} {n k : Nat} (h : k < n) : at_ (mix Y X n k) k = X k := by simp [mix, at_, h]
end Go.Proofs.Ytofcjcmbbkiaaaa
