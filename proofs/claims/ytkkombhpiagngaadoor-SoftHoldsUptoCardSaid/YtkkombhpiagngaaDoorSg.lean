/-
  Signs.
-/
import Derived.Test.YtkkombhpiagngaaDoorCn
namespace Go.Proofs.YtkkombhpiagngaaDoor
open Go.RowKit Go.Shelf BigFrame

theorem slice_cut {A : Option Addr} {n c : Nat} (u : World) : (Instr.slice 64 (.slice A n c) none (some (.int .i64 0)) (some (.int .i64 0))).run Tryd.prog u = .ok (.slice A 0 0) u := by
  rcases A with _ | a
  · simp [Instr.slice, Instr.sliceBounds, Instr.sliceBound, run_underlying Tryd.underlying64, asIntOf, go_sem]
  · simp [Instr.slice, Instr.sliceBounds, Instr.sliceBound, run_underlying Tryd.underlying64, asIntOf, go_sem]
theorem append_cut {A A' : Option Addr} {n c : Nat} {xs : List Int} {w : World} (hn : n ≤ 1000000) (hp : 0 < n) (h : Rd .i64 w w.heap.size A' n xs) :
    ∃ A6 c6 w6, (Builtin.append_ #[64, 64] 64 #[.slice A 0 0, .slice A' n c]).run Tryd.prog w = .ok (.slice A6 n c6) w6 ∧
      w6.ownsRow w.heap.size 3 1 (.slice A6 n c6) n (xs.map (Value.int .i64)) ∧ Below w.heap.size w w6 := by
  obtain ⟨i0, hi, hz0, hz1, hz2⟩ := info_q Tryd.info_int
  obtain ⟨V2, w2, h1, h2, h3, _⟩ := run_append_q (P := Tryd.prog) (q := .i64) (t := 64) (ty := 64) (base := w.heap.size) (c' := c) (xs := []) Tryd.underlying64 hi hz0 hz1 hz2 (by decide) (by simpa using World.ownsRow_nil w w.heap.size 3 1) h (by omega) (Nat.le_refl _)
  obtain ⟨A2, c2, rfl⟩ := ownsRow_shape h2
  rw [Nat.zero_add] at h1 h2
  refine ⟨A2, c2, w2, ?_, by simpa using h2, (Below.refl _ w).grown h3 (Nat.le_refl _) (fun g hg => by cases hg)⟩
  rw [← h1]
  have hne : ¬ n ≤ 0 := by omega
  rcases A with _ | a
  · rfl
  · have hcap : ¬ (281474976710656 < n * 8) := by omega
    have hn0 : ¬ n = 0 := by omega
    have hl0 : ∀ u, (loadCells a 0).run Tryd.prog u = .ok #[] u := fun u => by simpa using run_loadCells (P := Tryd.prog) (w := u) a 0 (fun _ => undef) (fun j hj => absurd hj (Nat.not_lt_zero j))
    simp [Builtin.append_, run_underlying Tryd.underlying64, sizeOf, typeInfo, hi, Builtin.lenOf, hn0, Builtin.firstCells, hz2, hz1, nextslicecap_zero hp, hcap, hl0]
theorem append_cut_any {A A' : Option Addr} {n c : Nat} {xs : List Int} {w : World} (hn : n ≤ 1000000) (h : Rd .i64 w w.heap.size A' n xs) :
    ∃ A6 c6 w6, (Builtin.append_ #[64, 64] 64 #[.slice A 0 0, .slice A' n c]).run Tryd.prog w = .ok (.slice A6 n c6) w6 ∧
      (0 < n → w6.ownsRow w.heap.size 3 1 (.slice A6 n c6) n (xs.map (Value.int .i64))) ∧ Below w.heap.size w w6 := by
  rcases Nat.eq_zero_or_pos n with h0 | hp
  · subst h0
    obtain ⟨i0, hi, hz0, hz1, hz2⟩ := info_q Tryd.info_int
    have hl0 : ∀ (a : Addr) u, (loadCells a 0).run Tryd.prog u = .ok #[] u := fun a u => by simpa using run_loadCells (P := Tryd.prog) (w := u) a 0 (fun _ => undef) (fun j hj => absurd hj (Nat.not_lt_zero j))
    refine ⟨A, 0, w, ?_, fun h => absurd h (Nat.lt_irrefl 0), Below.refl _ _⟩
    rcases A with _ | a <;> rcases A' with _ | a' <;> simp [Builtin.append_, run_underlying Tryd.underlying64, sizeOf, typeInfo, hi, Builtin.lenOf, Builtin.firstCells, hl0, storeCells]
  · obtain ⟨A6, c6, w6, h1, h2, h3⟩ := append_cut (A := A) (c := c) hn hp h
    exact ⟨A6, c6, w6, h1, fun _ => h2, h3⟩
set_option maxRecDepth 100000 in
set_option maxHeartbeats 4000000 in
/-- What Signs hands back: the iterator over a list of its own. -/
theorem Signs_main {A A' : Option Addr} {n c n' c' : Nat} {f : Bool} {k : Int} {zs : List Int} {w : World}
    (hE : Calls Tryd.prog 33 #[.slice A n c, .slice none 0 0] w fun e w' => e = .returned (.tuple #[.agg #[.slice A' n' c', .bool f], .int .i64 k]) ∧ Below w.heap.size w w')
    (h : Rd .i64 w w.heap.size A' n' zs) (hn : n' ≤ 1000000) :
    Calls Tryd.prog 31 #[.slice A n c] w fun e w' => ∃ A6 c6 X, e = .returned (.func (.func 53) #[] #[.pointer (some ⟨X, 0, none⟩)]) ∧ Boxed w' X 64 (.slice A6 n' c6) ∧ w.heap.size ≤ X ∧ (0 < n' → w'.ownsRow w.heap.size 3 1 (.slice A6 n' c6) n' (zs.map (Value.int .i64))) ∧ Below w.heap.size w w' := by
  have HE := Lib.hid hE
  have HR := Lib.hid h
  have hsl := fun (u : World) => slice_cut (A := A') (n := n') (c := c') u
  have HKn := Lib.hid (fun (u : World) (A : Option Addr) (c : Nat) => known_any (A := A) (n := n') (c := c) (w := u))
  clear hE h
  go_enter Tryd.func31, Tryd.ntmps31
  go_wp2_with fail
  refine HE.out.mono ?_
  rintro e w2 ⟨rfl, hb⟩
  have hT := Two.new w2 66 (.slice A' n' c') (.bool f)
  have hb2 := hb.alloc hb.size (.cells #[.slice A' n' c', .bool f] 66)
  have hz2 : (w2.alloc (.cells #[.slice A' n' c', .bool f] 66)).heap.size = w2.heap.size + 1 := by simp
  have hzl := hb.size
  clear HE hb
  go_upto_region 2 with fail
  generalize w2.alloc (.cells #[.slice A' n' c', .bool f] 66) = W3 at *
  obtain ⟨A6, c6, w6, hrun, hown, hb6⟩ := append_cut_any (A := A') (c := c') (w := W3.drew) hn (HR.out.step hb2.drew)
  have HRn := Lib.hid hrun
  have hT6 := Two.below (show Two W3.drew w2.heap.size 66 (.slice A' n' c') (.bool f) from hT) hb6 (by show w2.heap.size < W3.heap.size; omega)
  have d0 : W3.drew.cell? ⟨w2.heap.size, 0, none⟩ = some (.slice A' n' c') := hT.cell0
  have e0 := hT6.cell0
  have e1 := hT6.frozen 0
  have hT7 := Lib.hid (hT6.set0 (.slice A6 n' c6))
  have hb7 := Lib.hid ((hb2.drew.trans (hb6.mono (by show w.heap.size ≤ W3.heap.size; omega))).setCell (p := ⟨w2.heap.size, 0, none⟩) (by dsimp only; omega) (.slice A6 n' c6))
  have hs6 := hb6.size
  have hown7 := Lib.hid (fun hp : 0 < n' => ownsRow_block (w' := w6.setCell ⟨w2.heap.size, 0, none⟩ (.slice A6 n' c6)) (hown hp) (fun g hg => Below.heap_setCell _ _ _ _ (by have h1 := ((hown hp).lt g hg).1; have h2 : W3.drew.heap.size = W3.heap.size := rfl; dsimp only; omega)))
  have hz3 : W3.drew.heap.size = W3.heap.size := rfl
  have HL := Lib.hid (show w.heap.size ≤ W3.drew.heap.size by omega)
  have HL6 := Lib.hid (show w.heap.size ≤ w6.heap.size by omega)
  clear hT hT6 hown hrun hb6 hb2 hs6 hz3
  go_region_law (refine step_append_run (o := ⟨some 15, _, _, _, _, _⟩) rfl (.tmp 12) (.tmp 14) 64 rfl rfl rfl HRn.out ?_)
  all_goals
    have t0 := hT7.out.cell0
    have hz7 : (w6.setCell ⟨w2.heap.size, 0, none⟩ (.slice A6 n' c6)).heap.size = w6.heap.size := by simp
    generalize w6.setCell ⟨w2.heap.size, 0, none⟩ (.slice A6 n' c6) = W7 at *
    clear d0 e0 e1 hsl HRn
    go_wp2_with (refine (HKn.out _ _ _).mono ?_; rintro e w8 ⟨rfl, rfl⟩)
    go_ret
    have hb8 := hb7.out.alloc hb7.out.size (.cells #[.slice A6 n' c6] 64)
    exact ⟨A6, c6, w6.heap.size, rfl, by rw [← hz7]; exact Boxed.new W7 _ _, HL6.out, fun hp => ((hown7.out hp).alloc _).mono HL.out, hb8⟩
theorem Signs_any {A : Option Addr} {n c : Nat} {xs : List Int} {w : World} (hK : Kinds w) (h : Rd .i64 w w.heap.size A n xs) (hn : n ≤ 1000000) :
    Calls Tryd.prog 31 #[.slice A n c] w fun e w' => ∃ A6 c6 X m, e = .returned (.func (.func 53) #[] #[.pointer (some ⟨X, 0, none⟩)]) ∧ m = (if softB xs = true then n else 0) ∧ Boxed w' X 64 (.slice A6 m c6) ∧ w.heap.size ≤ X ∧ (0 < m → w'.ownsRow w.heap.size 3 1 (.slice A6 m c6) m (xs.map (Value.int .i64))) ∧ Below w.heap.size w w' := by
  by_cases hs : softB xs = true
  · rw [if_pos hs]
    refine (Signs_main (examine_ok (c' := 0) hK h hn (RdB.nil_ w) (by decide) hs rfl) h hn).mono ?_
    rintro e w' ⟨A6, c6, X, h1, h2, h3, h4, h5⟩
    exact ⟨A6, c6, X, n, h1, rfl, h2, h3, h4, h5⟩
  · rw [if_neg hs]
    refine (Signs_main (zs := []) (examine_no (c' := 0) hK h hn (RdB.nil_ w) (by decide) (.inl (Bool.eq_false_iff.2 hs))) (Rd.nil _ _ _ _) (by omega)).mono ?_
    rintro e w' ⟨A6, c6, X, h1, h2, h3, h4, h5⟩
    exact ⟨A6, c6, X, 0, h1, rfl, h2, h3, fun h => absurd h (Nat.lt_irrefl 0), h5⟩
end Go.Proofs.YtkkombhpiagngaaDoor
