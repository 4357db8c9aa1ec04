/-
  append of zeros ('append(s, make([]byte, k)...)') onto a row of the call's own; slices.Grow on the nil slice; slices.Concat.
-/
import Derived.Test.YtkdodmjhpkfhnaaDoorS1
namespace Go.Proofs.YtkdodmjhpkfhnaaDoor
open Go.RowKit

theorem zeroCells_u8 (k : Nat) : (Builtin.zeroCells #[Value.int .u8 0] k).toList = (List.replicate k (0 : Int)).map (Value.int .u8) := by
  unfold Builtin.zeroCells
  apply List.ext_getElem
  · simp
  · intro i h1 h2
    simp only [Array.getElem_toList, Array.getElem_map, List.getElem_map, List.getElem_replicate]
    simp [Nat.mod_one]
theorem run_append_room_zeros {P : Program} {w : World} (t tn ty e : TypeId) (i : TypeInfo) (kq kn : IntKind) (ht : P.underlying t = some (.slice e)) (htn : P.underlying tn = some (.int kn)) (hi : P.info? e = some i) (hz : i.zero = some (.int .u8 0)) (hsz : i.size = 1) (hby : i.bytes = 1)
    (g sLen sCap : Nat) (cur : Array Value) (hg : w.heap[g]? = some (.cells cur e (0, 0))) (k : Nat) (h0 : 0 < k) (hk : k ≤ 1000000) (hroom : sLen + k ≤ sCap) (hfit : sLen + k ≤ cur.size) :
    (Builtin.append_ #[t, tn] ty #[.slice (some ⟨g, 0, none⟩) sLen sCap, .int kq k]).run P w =
      .ok (.slice (some ⟨g, 0, none⟩) (sLen + k) sCap) (w.setRow g (cur.toList.take sLen ++ (List.replicate k (0 : Int)).map (Value.int .u8) ++ cur.toList.drop (sLen + k)).toArray) := by
  have hw : IntKind.i64.wrap (k : Int) = k := by rw [IntKind.wrap_i64]; omega
  have hneg : ¬ ((k : Int) < 0) := by omega
  have h48 : ¬ (281474976710656 < (k : Int)) := by omega
  have hns : ¬ (k = 0) := by omega
  have hst := run_storeCells_at P g sLen e ((List.replicate k (0 : Int)).map (Value.int .u8)) 0 cur w hg (by simpa using hfit) (fun u hu => by
    obtain ⟨x, _, rfl⟩ := List.mem_map.1 hu
    rfl)
  simp only [Nat.add_zero] at hst
  have hzc : (Builtin.zeroCells (Value.int .u8 0).cells k).toList = (List.replicate k (0 : Int)).map (Value.int .u8) := by simpa [Value.cells] using zeroCells_u8 k
  simp only [List.map_replicate] at hst hzc ⊢
  simp [Builtin.append_, run_underlying ht, run_underlying htn, sizeOf, typeInfo, zeroValue, hi, hz, hsz, hby, asInt, asIntOf, hw, hneg, h48, hns, hroom, hzc, Addr.add_lit, hst]
theorem append_zeros_own {w : World} {base : Nat} {A : Option Addr} {n c k : Nat} {xs : List Int} (hO : w.ownsRow base 5 1 (.slice A n c) n (xs.map (Value.int .u8))) (h0 : 0 < k) (hk : k ≤ 1000000) (hn : n ≤ 2199023255552) (hb : base ≤ w.heap.size) :
    ∃ A2 c2 w2, (Builtin.append_ #[46, 3] 46 #[.slice A n c, .int .i64 k]).run Tryd.prog w = .ok (.slice A2 (n + k) c2) w2 ∧
      w2.ownsRow base 5 1 (.slice A2 (n + k) c2) (n + k) ((xs ++ List.replicate k 0).map (Value.int .u8)) ∧ (∀ B v, Below B v w → B ≤ base → B ≤ v.heap.size → Below B v w2) := by
  obtain ⟨i0, hi, hz0, hz1, hz2⟩ := info_parts Tryd.info_u8
  have hxl : xs.length = n := by simpa using hO.1
  have hzc : (Builtin.zeroCells (Value.int .u8 0).cells k).toList = (List.replicate k (0 : Int)).map (Value.int .u8) := by simpa [Value.cells] using zeroCells_u8 k
  have hzs : (Builtin.zeroCells (Value.int .u8 0).cells k).size = k := by rw [size_zeroCells]; simp [Value.cells]
  have grown : ∀ (old : Nat), old < n + k → ∀ (olds : Array Value), olds.toList = xs.map (Value.int .u8) →
      (w.drew.alloc (.cells (olds ++ Builtin.zeroCells (Value.int .u8 0).cells k ++ Builtin.zeroCells (Value.int .u8 0).cells (grownCap w (n + k) old 5 - (n + k))) 5)).ownsRow base 5 1
        (.slice (some ⟨w.heap.size, 0, none⟩) (n + k) (grownCap w (n + k) old 5)) (n + k) ((xs ++ List.replicate k 0).map (Value.int .u8)) := by
    intro old ho olds hol
    have hge := grownCap_ge w (n + k) old 5
    have hcm : grownCap w (n + k) old 5 ≤ maxLen := grownCap_le_maxLen w (n + k) old 5 (by unfold maxLen; omega)
    have hos : olds.size = n := by rw [← Array.length_toList, hol]; simp [hxl]
    refine ⟨by simp [hxl], .inr ⟨w.heap.size, _, _, rfl, hb, heap_alloc_new w.drew _, hge, hcm, ?_, ?_⟩⟩
    · simp only [Array.size_append, size_zeroCells, hos, hzs]
      simp [Value.cells]
      omega
    · rw [Array.toList_append, Array.toList_append, hol, hzc, List.map_append]
      have : (n + k) * 1 = (xs.map (Value.int .u8) ++ (List.replicate k (0 : Int)).map (Value.int .u8)).length := by simp [hxl]
      rw [this]
      exact List.take_left
  rcases hO.2 with ⟨h1, h2⟩ | ⟨g, cap, cur, h1, hbg, hg, hnc, hcm, hcs, htake⟩
  · injection h1 with e1 e2 e3
    subst e1 e2 e3
    have hx : xs = [] := List.eq_nil_of_length_eq_zero hxl
    subst hx
    have hr := Lib.run_append_grow_zeros (P := Tryd.prog) w 46 3 46 5 i0 (.int .u8 0) .i64 .i64 Tryd.underlying46 Tryd.underlying3 hi hz0 none 0 0 [] (by rw [hz1]; exact run_firstCells_none w.drew 1 0 0 0) k h0 (by omega) (by omega) (by omega) (by rw [hz2]; omega) (by rw [hz2]; exact growslice_fits (by omega) (by omega))
    exact ⟨_, _, _, hr, grown 0 (by omega) _ (by simp), fun B v h hB hv => (h.drew).alloc (Nat.le_trans hv h.size) _⟩
  · injection h1 with e1 e2 e3
    subst e1 e3
    have hcs' : cur.size = c := by simpa using hcs
    have htk : cur.toList.take n = xs.map (Value.int .u8) := by simpa using htake
    by_cases hroom : n + k ≤ c
    · have hr := run_append_room_zeros (P := Tryd.prog) 46 3 46 5 i0 .i64 .i64 Tryd.underlying46 Tryd.underlying3 hi hz0 hz1 hz2 g n c cur hg k h0 hk hroom (by omega)
      refine ⟨_, _, _, hr, ⟨by simp [hxl], .inr ⟨g, c, _, rfl, hbg, setRow_heap w g cur _ 5 _ hg, hroom, hcm, ?_, ?_⟩⟩, ?_⟩
      · simp only [List.size_toArray, List.length_append, List.length_take, List.length_drop, Array.length_toList, List.length_map, List.length_replicate]
        omega
      · rw [htk, List.map_append]
        have : (n + k) * 1 = (xs.map (Value.int .u8) ++ (List.replicate k (0 : Int)).map (Value.int .u8)).length := by simp [hxl]
        rw [this]
        exact List.take_left
      · intro B v h hB hv
        exact h.grown (row := some g) ⟨rfl, rfl, rfl, by simp, fun j _ hj => setRow_other w g j _ (fun e => hj (by rw [e]))⟩ (Nat.le_trans hv h.size) (fun j hj => by cases hj; omega)
    · have holds : ∀ j u, (xs.map (Value.int .u8))[j]? = some u → w.cell? ((⟨g, 0, none⟩ : Addr).add j) = some u := hO.cells (g := g) rfl
      have hold : (Builtin.firstCells i0.size n (.slice (some ⟨g, 0, none⟩) n c)).run Tryd.prog w.drew = .ok (xs.map (Value.int .u8)).toArray w.drew := run_firstCells_some w.drew i0.size n ⟨g, 0, none⟩ n c _ (by rw [hz1]; simp [hxl]) holds
      have hr := Lib.run_append_grow_zeros (P := Tryd.prog) w 46 3 46 5 i0 (.int .u8 0) .i64 .i64 Tryd.underlying46 Tryd.underlying3 hi hz0 (some ⟨g, 0, none⟩) n c (xs.map (Value.int .u8)) hold k h0 (by omega) (by omega) (by omega) (by rw [hz2]; omega) (by rw [hz2]; exact growslice_fits (by omega) (by omega))
      exact ⟨_, _, _, hr, grown c (by omega) _ (by simp), fun B v h hB hv => (h.drew).alloc (Nat.le_trans hv h.size) _⟩
end Go.Proofs.YtkdodmjhpkfhnaaDoor
