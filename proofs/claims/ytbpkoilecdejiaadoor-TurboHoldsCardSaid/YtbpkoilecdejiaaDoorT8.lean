/-
  join. Word.
-/
import Derived.Test.YtbpkoilecdejiaaDoorApp
import Derived.Test.YtbpkoilecdejiaaDoorT3
import Derived.Laws.CopyOwn
import Derived.Test.YtbpkoilecdejiaaDoorT6
namespace Go.Proofs.YtbpkoilecdejiaaDoor
/-! ### join. -/
section
open Go.RowKit

theorem slice_three {g n lo hi : Nat} (h1 : lo ≤ hi) (h2 : hi ≤ n) (u : World) : (Instr.slice 22 (.slice (some ⟨g, 0, none⟩) n n) (some (.int .i64 (lo : Int))) (some (.int .i64 (hi : Int))) (some (.int .i64 (hi : Int)))).run Tryd.prog u = .ok (.slice (if hi = lo then some ⟨g, 0, none⟩ else some ⟨g, lo, none⟩) (hi - lo) (hi - lo)) u := by
  by_cases e : hi = lo
  · subst e
    simp [Instr.slice, Instr.sliceBounds, Instr.sliceBound, run_underlying Tryd.underlying22, asIntOf, go_sem, h2]
  · by_cases e0 : lo = 0
    · subst e0
      simp [Instr.slice, Instr.sliceBounds, Instr.sliceBound, run_underlying Tryd.underlying22, asIntOf, go_sem, h2, e, Addr.add]
    · simp [Instr.slice, Instr.sliceBounds, Instr.sliceBound, run_underlying Tryd.underlying22, asIntOf, go_sem, h1, h2, e, Addr.add, e0]
theorem Rd.src {w : World} {B n : Nat} {A : Option Addr} {xs : List Int} (h : Rd .u8 w B A n xs) (hp : 0 < n) : ∃ ad, A = some ad ∧ ∀ j v, (xs.map (Value.int .u8))[j]? = some v → w.cell? (ad.add j) = some v := by
  obtain ⟨b, off, rfl, _, _⟩ := h.cells 0 hp
  refine ⟨_, rfl, fun j v hv => ?_⟩
  rw [List.getElem?_map] at hv
  obtain ⟨y, hy, rfl⟩ := Option.map_eq_some_iff.1 hv
  obtain ⟨hj, _⟩ := List.getElem?_eq_some_iff.1 hy
  obtain ⟨b', off', he, _, hc⟩ := h.cells j (by rw [← h.len]; exact hj)
  injection he with he
  injection he with e1 e2
  subst e1 e2
  rw [hy] at hc
  by_cases h0 : j = 0
  · subst h0; simpa [Addr.add] using hc
  · simpa [Addr.add, h0] using hc
theorem one_u8 (xs : List Int) : ∀ v ∈ xs.map (Value.int .u8), v.oneCell' = true := by
  intro v hv
  obtain ⟨x, _, rfl⟩ := List.mem_map.1 hv
  rfl
theorem info_u8_size : (Tryd.prog.info? 5).map (·.size) = some 1 := by kernel_rfl
/-- copy into a row of the call's own. -/
theorem copy_run_at {W w0 : World} {D ra : Option Addr} {rn rc g off B : Nat} {cur : List Value} {xs : List Int} (hg : W.heap[g]? = some (.cells cur.toArray 5)) (hl : xs.length = rn) (hD : 0 < rn → D = some ⟨g, off, none⟩) (hR : Rd .u8 W B ra rn xs) (hfit : off + rn ≤ cur.length) {B0 : Nat} (hb : Below B0 w0 W) (hBg : B0 ≤ g) :
    ∃ w', (Builtin.copy_ #[22, 22] 3 #[.slice D rn rn, .slice ra rn rc]).run Tryd.prog W = .ok (goInt rn) w' ∧ w'.heap[g]? = some (.cells (splice cur off (xs.map (Value.int .u8))).toArray 5) ∧ Below B0 w0 w' := by
  have hc : (xs.map (Value.int .u8)).length = rn := by rw [List.length_map, hl]
  rcases Nat.eq_zero_or_pos rn with h0 | h0
  · subst h0
    obtain rfl : xs = [] := List.eq_nil_of_length_eq_zero hl
    exact ⟨W, run_copy_none W _ _ _ 5 _ _ _ _ _ _ Tryd.underlying22 info_u8_size rfl, by simpa [splice] using hg, hb⟩
  · obtain rfl := hD h0
    obtain ⟨ad, rfl, hsrc⟩ := hR.src h0
    have hrun := run_copy_row (P := Tryd.prog) W 22 22 3 5 g off rn rn ad rn rc cur.toArray 5 (xs.map (Value.int .u8)) Tryd.underlying22 info_u8_size hg (by rw [hc]; exact (Nat.min_self rn).symm) hsrc (by rw [hc]; simpa using hfit) (one_u8 xs)
    rw [hc] at hrun
    refine ⟨_, hrun, ?_, below_setRow hb hBg _⟩
    have := setRow_heap W g cur.toArray (cur.take off ++ (xs.map (Value.int .u8) ++ cur.drop (off + rn))).toArray 5 _ hg
    unfold splice
    rw [hc]
    simpa using this
/-- The length of the first k rows. -/
def offL (rows : List BRow) (k : Nat) : Nat := ((rows.take k).map fun r : BRow => r.n).sum
def joinL (rows : List BRow) : List Int := rows.flatMap fun r => r.xs
theorem offL_zero (rows : List BRow) : offL rows 0 = 0 := rfl
theorem offL_succ {rows : List BRow} {k : Nat} {r : BRow} (h : rows[k]? = some r) : offL rows (k + 1) = offL rows k + r.n := by
  obtain ⟨hk, rfl⟩ := List.getElem?_eq_some_iff.1 h
  unfold offL
  rw [List.take_succ_eq_append_getElem hk, List.map_append, List.sum_append]
  simp
theorem offL_mono (rows : List BRow) : ∀ {j k : Nat}, j ≤ k → offL rows j ≤ offL rows k := by
  intro j k h
  induction k with
  | zero => obtain rfl : j = 0 := by omega
            exact Nat.le_refl _
  | succ k ih =>
    rcases Nat.lt_or_ge j (k + 1) with h' | h'
    · have := ih (by omega)
      cases hr : rows[k]? with
      | some r => rw [offL_succ hr]; omega
      | none =>
        have hl : rows.length ≤ k := List.getElem?_eq_none_iff.1 hr
        have e : offL rows (k + 1) = offL rows k := by unfold offL; rw [List.take_of_length_le hl, List.take_of_length_le (by omega)]
        omega
    · obtain rfl : j = k + 1 := by omega
      exact Nat.le_refl _
/-- The word with the first k rows in it. -/
def fillW (rows : List BRow) (N k : Nat) : List Value := ((rows.take k).flatMap fun r : BRow => r.xs.map (Value.int .u8)) ++ List.replicate (N - offL rows k) (Value.int .u8 0)
theorem fillW_len {rows : List BRow} (hl : ∀ r ∈ rows, r.xs.length = r.n) (k : Nat) : ((rows.take k).flatMap fun r : BRow => r.xs.map (Value.int .u8)).length = offL rows k := by
  unfold offL
  induction k with
  | zero => rfl
  | succ k ih =>
    rcases Nat.lt_or_ge k rows.length with hk | hk
    · rw [List.take_succ_eq_append_getElem hk, List.flatMap_append, List.length_append, ih, List.map_append, List.sum_append]
      simp [hl rows[k] (List.getElem_mem hk)]
    · rw [List.take_of_length_le hk] at ih
      rw [List.take_of_length_le (by omega)]
      exact ih
theorem fillW_step {rows : List BRow} (hl : ∀ r ∈ rows, r.xs.length = r.n) {N k : Nat} {r : BRow} (hr : rows[k]? = some r) (hN : offL rows (k + 1) ≤ N) : splice (fillW rows N k) (offL rows k) (r.xs.map (Value.int .u8)) = fillW rows N (k + 1) := by
  obtain ⟨hk, rfl⟩ := List.getElem?_eq_some_iff.1 hr
  have e1 := fillW_len hl k
  have e3 := offL_succ hr
  have e4 : (rows[k].xs).length = rows[k].n := hl _ (List.getElem_mem hk)
  unfold splice fillW
  rw [List.take_succ_eq_append_getElem hk, List.flatMap_append, List.take_left' e1, List.drop_append, e1, List.length_map, e4, List.drop_of_length_le (by omega)]
  rw [show offL rows k + rows[k].n - offL rows k = rows[k].n by omega, List.drop_replicate]
  simp only [List.flatMap_cons, List.flatMap_nil, List.append_nil, List.nil_append, List.append_assoc]
  rw [show N - offL rows k - rows[k].n = N - offL rows (k + 1) by omega]
theorem fillW_full (rows : List BRow) : fillW rows (offL rows rows.length) rows.length = (joinL rows).map (Value.int .u8) := by
  unfold fillW joinL
  rw [Nat.sub_self, List.replicate_zero, List.append_nil, List.take_of_length_le (Nat.le_refl _), List.map_flatMap]
theorem joinL_length {rows : List BRow} (hl : ∀ r ∈ rows, r.xs.length = r.n) : (joinL rows).length = offL rows rows.length := by
  have := congrArg List.length (fillW_full rows)
  rw [List.length_map] at this
  rw [← this, fillW, Nat.sub_self, List.replicate_zero, List.append_nil, fillW_len hl]
theorem fillW_length {rows : List BRow} (hl : ∀ r ∈ rows, r.xs.length = r.n) {N k : Nat} (hN : offL rows k ≤ N) : (fillW rows N k).length = N := by
  unfold fillW
  rw [List.length_append, fillW_len hl, List.length_replicate]
  omega
theorem own_of_cells {w : World} {B g n : Nat} {xs : List Int} (hg : w.heap[g]? = some (.cells (xs.map (Value.int .u8)).toArray 5)) (hB : B ≤ g) (hl : xs.length = n) (hn : n ≤ 140737488351232) : w.ownsRow B 5 1 (.slice (some ⟨g, 0, none⟩) n n) n (xs.map (Value.int .u8)) := by
  refine ⟨by simp [hl], .inr ⟨g, n, (xs.map (Value.int .u8)).toArray, rfl, hB, hg, Nat.le_refl _, by unfold maxLen; omega, by simp [hl], ?_⟩⟩
  simp only [Nat.mul_one]
  exact List.take_of_length_le (by simp; omega)
end

/-! ### Word. -/
section
open Go.RowKit

def intsOf (l : List Nat) : List Int := l.map fun x : Nat => (x : Int)
theorem intsOf_length (l : List Nat) : (intsOf l).length = l.length := by simp [intsOf]
/-- The word of valid bits; Word's results. -/
def wordI (xs : List Int) : List Int := xs ++ (paL xs xs.length ++ (intsOf (tailU (stK xs xs.length)) ++ intsOf (tailZ (stK xs xs.length))))
def wordS (xs : List Int) : List Int × Int := if validB xs then (wordI xs, 0) else ([], 3)
theorem wordI_length (xs : List Int) : (wordI xs).length = 2 * xs.length + 6 := by
  unfold wordI tailZ
  simp only [List.length_append, paL_length, intsOf_length, parL_length]
  simp [tailU]
  omega
theorem slice_arr3 (B : Nat) (u : World) : (Instr.sliceAt 61 (.pointer (some ⟨B, 0, none⟩)) none none none).run Tryd.prog u = .ok (.slice (some ⟨B, 0, none⟩) 3 3) u := by kernel_rfl
theorem Three.rd {w : World} {B : Nat} {t : TypeId} {a b c : Nat} (h : Three w B t (.int .u8 (a : Int)) (.int .u8 (b : Int)) (.int .u8 (c : Int))) : Rd .u8 w w.heap.size (some ⟨B, 0, none⟩) 3 (intsOf [a, b, c]) := by
  refine ⟨rfl, fun k hk => ⟨B, 0, rfl, h.lt, ?_⟩⟩
  rw [Nat.zero_add]
  obtain rfl | rfl | rfl : k = 0 ∨ k = 1 ∨ k = 2 := by omega
  · exact h.cell0
  · exact h.cell1
  · exact h.cell2
end
end Go.Proofs.YtbpkoilecdejiaaDoor
