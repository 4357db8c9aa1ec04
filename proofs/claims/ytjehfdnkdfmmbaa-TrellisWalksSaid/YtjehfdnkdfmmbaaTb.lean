/-
  Previous.
-/
import Derived.Test.YtjehfdnkdfmmbaaTa
import Derived.Deep.RegionHeld3
namespace Go.Proofs.Ytjehfdnkdfmmbaa
open Go.RowKit

def pI (s : Nat) : Nat := (prevL s 16)[0]?.getD 0
def pJ (s : Nat) : Nat := (prevL s 16)[1]?.getD 0
theorem prev_two : ∀ s, s < 8 → prevL s 16 = [pI s, pJ s] := by decide
theorem prev_fact : ∀ s, s < 8 → (pI s < pJ s ∧ pJ s < 16) ∧ pI s / 2 < pJ s / 2 ∧ nextS (pI s / 2) (pI s % 2) = s ∧ nextS (pJ s / 2) (pJ s % 2) = s := by decide
/-- The two branches that lead to s, as cells. -/
def prevA (s : Nat) : Array Value := (brV (pI s) ++ brV (pJ s)).toArray
def zeroA : Array Value := #[.int .i64 0, .int .i64 0, .int .i64 0, .int .i64 0, .int .i64 0, .int .i64 0, .int .i64 0, .int .i64 0]
theorem info_br_size : (Try.prog.info? 50).map (fun i => i.size) = some 4 := by kernel_rfl
theorem info_two : (Try.prog.info? 51).map (fun i => i.size) = some 8 := by kernel_rfl
theorem copy_two {W : World} {D base c : Nat} {A : Option Addr} {x y : List Value} (hD : W.heap[D]? = some (.cells zeroA 51)) (hx : x.length = 4) (hy : y.length = 4) (h1 : ∀ v ∈ x ++ y, v.oneCell' = true) (hO : W.ownsRow base 50 4 (.slice A 2 c) 2 (x ++ y)) :
    (Builtin.copy_ #[47, 47] 3 #[.slice (some ⟨D, 0, none⟩) 2 2, .slice A 2 c]).run Try.prog W = .ok (goInt 2) (W.setRow D (x ++ y).toArray) := by
  rcases hO.2 with ⟨_, h0⟩ | ⟨g, cap, cur, hv, _, hg, hn, hm, hs, ht⟩
  · omega
  · injection hv with e1 e2 e3
    subst e1
    have hl : (x ++ y).length = 8 := by rw [List.length_append, hx, hy]
    have hload := run_loadCells_list (P := Try.prog) W ⟨g, 0, none⟩ (x ++ y) (fun j v hv => by
      have hadd : (⟨g, 0, none⟩ : Addr).add j = ⟨g, j, none⟩ := by unfold Addr.add; split <;> simp_all
      rw [hadd, cell_of_row _ _ j _ _ _ hg]
      rw [← ht, List.getElem?_take] at hv
      split at hv
      · simpa using hv
      · cases hv)
    rw [hl] at hload
    have hstore := run_storeCells_from (P := Try.prog) D 51 (x ++ y) 0 zeroA W hD (by rw [hl]; rfl) h1
    rw [List.take_zero, List.nil_append] at hstore
    obtain ⟨i0, hi, hi2⟩ := Option.map_eq_some_iff.1 info_br_size
    simp [Builtin.copy_, run_underlying Try.underlying47, sizeOf, typeInfo, hi, hi2, Builtin.lenOf, Builtin.firstCells, hload, hstore, goInt, Result.andThen]
theorem Previous_results {W : World} {tmps : Array Value} {B : Nat} {k : Int} {cs : Array Value} (h2 : tmps.getD 2 undef = .pointer (some ⟨B, 0, none⟩)) (h3 : tmps.getD 3 undef = .int .i64 k) (hB : W.heap[B]? = some (.cells cs 51)) (hs : cs.size = 8) :
    (results Try.f24 tmps).run Try.prog W = .ok (.tuple #[.agg cs, .int .i64 k]) W := by
  have hl := run_loadVar_row (P := Try.prog) W B 51 51 cs (0, 0) _ hB Try.underlying51 rfl (by rw [hs]; exact info_two)
  simp only [Array.getD_eq_getD_getElem?] at h2 h3
  simp [results, Try.results24, h2, h3, asAddr, hl]
theorem prevA_size (s : Nat) : (prevA s).size = 8 := rfl
theorem br_one (i j : Nat) : ∀ v ∈ brV i ++ brV j, v.oneCell' = true := by
  intro v hv
  simp only [brV, List.cons_append, List.nil_append, List.mem_cons, List.not_mem_nil, or_false] at hv
  rcases hv with rfl | rfl | rfl | rfl | rfl | rfl | rfl | rfl <;> rfl
theorem prevA_one (s : Nat) : (prevA s).all (·.oneCell') = true := by
  rw [prevA, List.all_toArray, List.all_eq_true]
  exact br_one _ _
theorem setRow_below {w0 w : World} {B g : Nat} (hb : Below B w0 w) (hg : B ≤ g) (cs : Array Value) : Below B w0 (w.setRow g cs) := hb.trans ⟨rfl, rfl, rfl, by simp [World.setRow], fun k hk => setRow_other w g k cs (by omega)⟩
set_option maxRecDepth 100000 in
set_option maxHeartbeats 4000000 in
theorem Previous_ok {s : Nat} {w : World} (hs : s < 8) :
    Calls Try.prog 24 #[.int .i64 (s : Int)] w fun e w' => e = .returned (.tuple #[.agg (prevA s), .int .i64 0]) ∧ Below w.heap.size w w' := by
  have hb1 := Lib.hid (fun (v : World) => below_any (v := (s : Int)) (e := 8) (w := v))
  rw [show (decide (0 ≤ (s : Int)) && decide ((s : Int) < 8)) = true by simp; omega] at hb1
  have hmf := makeFunc_run
  have hBr := Lib.hid (fun (v : World) => Branches_any (w := v))
  have hCh := Lib.hid (fun (v : World) (g : Nat) (h : BrAt v g 16) (hC : v.cell? ⟨w.heap.size, 0, none⟩ = some (.int .i64 (s : Int))) (hl : w.heap.size < v.heap.size) => choose_any h hC hl)
  rw [show (prevL s 16).length = 2 by rw [prev_two s hs]; rfl] at hCh
  have hrow : Hid (rowP s 16 = brV (pI s) ++ brV (pJ s)) := Lib.hid (by unfold rowP; rw [prev_two s hs]; simp)
  rw [hrow.out] at hCh
  have hA : Hid ((brV (pI s) ++ brV (pJ s)).toArray = prevA s) := Lib.hid rfl
  have hcp := Lib.hid (fun (W : World) (D base c : Nat) (A : Option Addr) (hD : W.heap[D]? = some (.cells zeroA 51)) (hO : W.ownsRow base 50 4 (.slice A 2 c) 2 (brV (pI s) ++ brV (pJ s))) => copy_two hD rfl rfl (br_one _ _) hO)
  rw [hA.out] at hcp
  generalize brV (pI s) ++ brV (pJ s) = BR at *
  have hAs := prevA_size s
  have hAo := prevA_one s
  generalize prevA s = X at *
  have hsl : ∀ (B : Nat) (u : World), (Instr.sliceAt 51 (.pointer (some ⟨B, 0, none⟩)) none none none).run Try.prog u = .ok (.slice (some ⟨B, 0, none⟩) 2 2) u := fun B u => by kernel_rfl
  have p0 := (Boxed.new w 3 (.int .i64 (s : Int)))
  have p1 := p0.alloc (.cells zeroA 51)
  have p2 := p1.alloc (.cells zeroA 51)
  have q1 := (World.alloc_heap_new (w.alloc (.cells #[.int .i64 (s : Int)] 3)) (.cells zeroA 51))
  have q2 := (Below.heap_alloc ((w.alloc (.cells #[.int .i64 (s : Int)] 3)).alloc (.cells zeroA 51)) (.cells zeroA 51) _ (Array.getElem?_eq_some_iff.1 q1).1).trans q1
  have r2 := World.alloc_heap_new ((w.alloc (.cells #[.int .i64 (s : Int)] 3)).alloc (.cells zeroA 51)) (.cells zeroA 51)
  have hb3 : Below w.heap.size w (((w.alloc (.cells #[.int .i64 (s : Int)] 3)).alloc (.cells zeroA 51)).alloc (.cells zeroA 51)) := (below_two _ _).alloc (by simp; omega) _
  have hs3 : (((w.alloc (.cells #[.int .i64 (s : Int)] 3)).alloc (.cells zeroA 51)).alloc (.cells zeroA 51)).heap.size = w.heap.size + 3 := by simp
  rw [World.size_alloc, World.size_alloc] at r2
  rw [World.size_alloc] at q2
  have c2 := p2.cell
  unfold zeroA at p2 q2 r2 hb3 hs3 c2
  clear p0 p1 q1 hs
  go_enter Try.func24, Try.ntmps24
  go_wp2
  refine wp_scope_forward 0 rfl ?_
  go_wp2_with fail
  generalize ((w.alloc (.cells #[.int .i64 (s : Int)] 3)).alloc (.cells #[.int .i64 0, .int .i64 0, .int .i64 0, .int .i64 0, .int .i64 0, .int .i64 0, .int .i64 0, .int .i64 0] 51)).alloc (.cells #[.int .i64 0, .int .i64 0, .int .i64 0, .int .i64 0, .int .i64 0, .int .i64 0, .int .i64 0, .int .i64 0] 51) = W0 at *
  refine (hb1.out _).mono ?_
  rintro e W0 ⟨rfl, rfl⟩
  clear hb1
  go_wp2_with fail
  have HB := Lib.hid (hBr.out W0.drew)
  have P2 := Lib.hid p2
  have Q2 := Lib.hid q2
  have R2 := Lib.hid r2
  have B3 := Lib.hid hb3
  have S3 := Lib.hid hs3
  clear hBr p2 q2 r2 hb3 hs3 c2
  go_region_held3 (fun _ => True) (first | trivial | go_keep) (first
    | (go_at_call 22; refine HB.out.mono ?_; rintro e w2 ⟨g, rfl, hg, hgl, hb4⟩; have hz : W0.drew.heap.size = W0.heap.size := rfl; rw [hz] at hb4; have HC := Lib.hid (hCh.out w2 g hg ((hb4.cell (p := ⟨w.heap.size, 0, none⟩) (by dsimp only; have := S3.out; omega)).trans P2.out.cell) (by have := hb4.size; have := S3.out; omega)); have HB4 := Lib.hid (B3.out.drew.trans (hb4.mono (by have := S3.out; omega))); have Q4 := Lib.hid ((hb4.block _ (by have := S3.out; omega)).trans Q2.out); have R4 := Lib.hid ((hb4.block _ (by have := S3.out; omega)).trans R2.out); have S4 := Lib.hid (show W0.heap.size ≤ w2.heap.size from hb4.size); clear hb4 hg hz)
    | (go_at_call 37; refine HC.out.mono ?_; rintro e w5 ⟨A, c, rfl, hO, hb5⟩; have hrun := hcp.out w5 (w.heap.size + 1 + 1) _ c A ((hb5.block _ (by have := S4.out; have := S3.out; omega)).trans R4.out) hO; have Q5 := Lib.hid ((hb5.block _ (by have := S4.out; have := S3.out; omega)).trans Q4.out); have R5 := Lib.hid ((hb5.block _ (by have := S4.out; have := S3.out; omega)).trans R4.out); have B5 := Lib.hid (HB4.out.trans (hb5.mono HB4.out.size)); clear hO hb5))
  all_goals
    have T0 : (w5.setRow (w.heap.size + 1 + 1) X).heap[w.heap.size + 1 + 1]? = some (.cells X 51) := setRow_heap w5 (w.heap.size + 1 + 1) _ X 51 _ R5.out
    have T1 := (setRow_other w5 (w.heap.size + 1 + 1) (w.heap.size + 1) X (by omega)).trans Q5.out
    have T2 := setRow_below B5.out (g := w.heap.size + 1 + 1) (by omega) X
    clear R5 Q5 B5 hrun HB4 R4 Q4 S4 HC HB P2 Q2 R2 B3 S3 hcp hCh
    generalize w5.setRow (w.heap.size + 1 + 1) X = W6 at *
    go_upto_region 4 with fail
    refine wp_region_lit ?_
    refine wpList_load_run rfl 51 (.tmp 4) rfl rfl (loadAt_row (cs := X) T0 Try.underlying51 (by rw [hAs]; exact info_two)) ?_
    refine wpList_store_run rfl 51 (.tmp 2) (.tmp 13) rfl rfl rfl (storeAt_row (cs := X) T1 (by rw [hAs]; exact info_two) (by rw [hAs]; rfl) hAo) ?_
    have U1 : (W6.setRow (w.heap.size + 1) X).heap[w.heap.size + 1]? = some (.cells X 51) := setRow_heap W6 (w.heap.size + 1) _ X 51 _ T1
    have U2 := setRow_below T2 (g := w.heap.size + 1) (by omega) X
    clear T0 T1 T2
    generalize W6.setRow (w.heap.size + 1) X = W7 at *
    simp only [Act.put]
    go_wp2_with fail
    refine jump_ret ?_
    refine bodyPost_ret (Previous_results rfl rfl U1 hAs) rfl ⟨rfl, U2⟩
set_option maxRecDepth 100000 in
set_option maxHeartbeats 2000000 in
theorem Previous_no {st : Int} {w : World} (h : (decide (0 ≤ st) && decide (st < 8)) = false) :
    Calls Try.prog 24 #[.int .i64 st] w fun e w' => e = .returned (.tuple #[.agg zeroA, .int .i64 2]) ∧ Below w.heap.size w w' := by
  have hb1 := Lib.hid (fun (v : World) => below_any (v := st) (e := 8) (w := v))
  rw [h] at hb1
  have p0 := (Boxed.new w 3 (.int .i64 st))
  have p1 := p0.alloc (.cells zeroA 51)
  have p2 := p1.alloc (.cells zeroA 51)
  have q1 := (World.alloc_heap_new (w.alloc (.cells #[.int .i64 st] 3)) (.cells zeroA 51))
  have q2 := (Below.heap_alloc ((w.alloc (.cells #[.int .i64 st] 3)).alloc (.cells zeroA 51)) (.cells zeroA 51) _ (Array.getElem?_eq_some_iff.1 q1).1).trans q1
  have r2 := World.alloc_heap_new ((w.alloc (.cells #[.int .i64 st] 3)).alloc (.cells zeroA 51)) (.cells zeroA 51)
  have hb3 : Below w.heap.size w (((w.alloc (.cells #[.int .i64 st] 3)).alloc (.cells zeroA 51)).alloc (.cells zeroA 51)) := (below_two _ _).alloc (by simp; omega) _
  rw [World.size_alloc, World.size_alloc] at r2
  rw [World.size_alloc] at q2
  have c2 := p2.cell
  unfold zeroA at p2 q2 r2 hb3 c2
  have hz : zeroA.all (·.oneCell') = true := by simp [zeroA, Value.oneCell']
  clear p0 p1 q1 h
  go_enter Try.func24, Try.ntmps24
  go_wp2
  refine wp_scope_forward 0 rfl ?_
  go_wp2_with fail
  generalize ((w.alloc (.cells #[.int .i64 st] 3)).alloc (.cells #[.int .i64 0, .int .i64 0, .int .i64 0, .int .i64 0, .int .i64 0, .int .i64 0, .int .i64 0, .int .i64 0] 51)).alloc (.cells #[.int .i64 0, .int .i64 0, .int .i64 0, .int .i64 0, .int .i64 0, .int .i64 0, .int .i64 0, .int .i64 0] 51) = W0 at *
  refine (hb1.out _).mono ?_
  rintro e W0 ⟨rfl, rfl⟩
  clear hb1
  go_wp2_with fail
  go_step3
  refine ⟨rfl, ?_⟩
  go_upto_region 5 with fail
  refine wp_region_lit ?_
  refine wpList_load_run rfl 51 (.tmp 4) rfl rfl (loadAt_row (cs := zeroA) r2 Try.underlying51 info_two) ?_
  refine wpList_store_run rfl 51 (.tmp 2) (.tmp 14) rfl rfl rfl (storeAt_row (cs := zeroA) q2 info_two rfl hz) ?_
  have U1 : (W0.setRow (w.heap.size + 1) zeroA).heap[w.heap.size + 1]? = some (.cells zeroA 51) := setRow_heap W0 (w.heap.size + 1) _ zeroA 51 _ q2
  have U2 := setRow_below hb3 (g := w.heap.size + 1) (by omega) zeroA
  clear q2 r2 hb3
  generalize W0.setRow (w.heap.size + 1) zeroA = W7 at *
  simp only [Act.put]
  go_wp2_with fail
  rw [Exit.noGoto_ret]
  refine bodyPost_ret (Previous_results rfl rfl U1 rfl) rfl ⟨rfl, U2⟩
/-- What Previous hands back. -/
def prvA (st : Int) : Array Value := if decide (0 ≤ st) && decide (st < 8) then prevA st.toNat else zeroA
def prvE (st : Int) : Int := if decide (0 ≤ st) && decide (st < 8) then 0 else 2
theorem Previous_any {st : Int} {w : World} : Calls Try.prog 24 #[.int .i64 st] w fun e w' => e = .returned (.tuple #[.agg (prvA st), .int .i64 (prvE st)]) ∧ Below w.heap.size w w' := by
  unfold prvA prvE
  by_cases h : (decide (0 ≤ st) && decide (st < 8)) = true
  · rw [if_pos h, if_pos h]
    simp at h
    obtain ⟨s, rfl⟩ := Int.eq_ofNat_of_zero_le h.1
    exact Previous_ok (by omega)
  · have h := Bool.eq_false_iff.2 h
    rw [h]
    exact Previous_no h
end Go.Proofs.Ytjehfdnkdfmmbaa
