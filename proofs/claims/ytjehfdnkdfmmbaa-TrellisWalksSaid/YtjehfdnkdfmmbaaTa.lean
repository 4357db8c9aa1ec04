/-
  Branches; choose; Previous.
-/
import Derived.Test.YtjehfdnkdfmmbaaT9
namespace Go.Proofs.Ytjehfdnkdfmmbaa
open Go.RowKit

set_option maxRecDepth 100000 in
set_option maxHeartbeats 4000000 in
theorem Branches_any {w : World} : Calls Try.prog 22 #[] w fun e w' => ∃ g, e = .returned (.slice (some ⟨g, 0, none⟩) 16 16) ∧ w'.heap[g]? = some (.cells brA 71) ∧ w.heap.size ≤ g ∧ Below w.heap.size w w' := by
  have hB := Lib.hid (branches_any (w := w))
  have hi := br_info
  have h1 := brA_one
  have hsz : brA.size = 64 := brUp_size 16
  generalize brA = X at *
  have hst : ∀ (u : World) (c : Array Value), c.size = 64 → (storeCells ⟨u.heap.size, 0, none⟩ X.toList 0).run Try.prog (u.alloc (.cells c 71)) = .ok () (u.alloc (.cells X 71)) := fun u c hc => run_storeCells_new u _ c X hi (by rw [hc, hsz]) h1
  have hsl : ∀ (B : Nat) (u : World), (Instr.sliceAt 71 (.pointer (some ⟨B, 0, none⟩)) none none none).run Try.prog u = .ok (.slice (some ⟨B, 0, none⟩) 16 16) u := fun B u => by kernel_rfl
  clear hi h1
  go_enter Try.func22, Try.ntmps22
  go_wp2_with fail
  refine hB.out.mono ?_
  rintro e w1 ⟨rfl, hb1⟩
  have hb2 := hb1.alloc hb1.size (.cells X 71)
  have hr := World.alloc_heap_new w1 (.cells X 71)
  have hs := hb1.size
  clear hB hb1
  go_wp2_with fail
  go_ret
  exact ⟨_, rfl, hr, hs, hb2⟩
def brI (i f : Nat) : Int := ((brN (4 * i + f) : Nat) : Int)
theorem brI_next (i : Nat) : brI i 3 = ((nextS (i / 2) (i % 2) : Nat) : Int) := by
  unfold brI brN
  rw [if_neg (by omega), if_neg (by omega), if_neg (by omega), show (4 * i + 3) / 4 = i by omega]
set_option maxHeartbeats 1000000 in
theorem wanted_any {C : Nat} {a b c d s : Int} {w : World} (hC : w.cell? ⟨C, 0, none⟩ = some (.int .i64 s)) :
    Calls Try.prog 38 #[.agg #[.int .i64 a, .int .i64 b, .int .i64 c, .int .i64 d], .pointer (some ⟨C, 0, none⟩)] w fun e w' => e = .returned (.bool (d == s)) ∧ w.grownBy w' none := by
  have hG := fun o => World.grownBy_alloc w o none
  have f0 := Four.new w 50 (.int .i64 a) (.int .i64 b) (.int .i64 c) (.int .i64 d)
  have c3 := f0.cell 3
  have hC2 : (w.alloc (.cells #[.int .i64 a, .int .i64 b, .int .i64 c, .int .i64 d] 50)).cell? ⟨C, 0, none⟩ = some (.int .i64 s) := cell_new _ hC
  clear hC f0
  go_enter Try.func38, Try.ntmps38
  go_wp2_with fail
  go_ret
  exact ⟨rfl, hG _⟩
theorem info_br : (Try.prog.info? 50).map (fun i => (i.zero, i.size, i.bytes)) = some (some (.agg #[.int .i64 0, .int .i64 0, .int .i64 0, .int .i64 0]), 4, 32) := by kernel_rfl
/-- append of one branch. -/
theorem append_br {w : World} {base : Nat} {A : Option Addr} {n c : Nat} {xs : List Value} {x y z u : Int} (hO : w.ownsRow base 50 4 (.slice A n c) n xs) (hn : n < 1000) (hb : base ≤ w.heap.size) :
    ∃ A2 c2 w2, (Builtin.append_ #[47, 47] 47 #[.slice A n c, .slice (some ⟨w.heap.size, 0, none⟩) 1 1]).run Try.prog (w.alloc (.cells #[.int .i64 x, .int .i64 y, .int .i64 z, .int .i64 u] 50)) = .ok (.slice A2 (n + 1) c2) w2 ∧
      w2.ownsRow base 50 4 (.slice A2 (n + 1) c2) (n + 1) (xs ++ [.int .i64 x, .int .i64 y, .int .i64 z, .int .i64 u]) ∧ (w.alloc (.cells #[.int .i64 x, .int .i64 y, .int .i64 z, .int .i64 u] 50)).grownBy w2 (Value.slice A n c).ownBlock := by
  obtain ⟨i0, hi, hz0, hz1, hz2⟩ := info_q info_br
  have f0 := Four.new w 50 (.int .i64 x) (.int .i64 y) (.int .i64 z) (.int .i64 u)
  obtain ⟨V2, w2, h1, h2, h3, _⟩ := run_append_own_at (P := Try.prog) (w.alloc (.cells #[.int .i64 x, .int .i64 y, .int .i64 z, .int .i64 u] 50)) base 47 47 50 i0 _ 4 32 Try.underlying47 hi hz0 hz1 hz2 rfl (by decide) _ n _ (hO.alloc _) ⟨w.heap.size, 0, none⟩ 1 1 [.int .i64 x, .int .i64 y, .int .i64 z, .int .i64 u] rfl
    (fun j v hv => by
      have hadd : (⟨w.heap.size, 0, none⟩ : Addr).add j = ⟨w.heap.size, j, none⟩ := by unfold Addr.add; split <;> simp_all
      rw [hadd, f0.cell j]
      simpa using hv) (by simp [Value.oneCell']) (by unfold maxLen; omega) (by omega) (by simp; omega)
  rcases h2.2 with ⟨_, h0⟩ | ⟨g, cap, cur, rfl, _⟩
  · omega
  · exact ⟨_, _, w2, h1, h2, h3⟩
theorem ownsRow_grown {w w' : World} {base size : Nat} {e : TypeId} {v : Value} {n : Nat} {xs : List Value} (h : w.ownsRow base e size v n xs) (hg : w.grownBy w' none) : w'.ownsRow base e size v n xs := by
  refine ⟨h.1, ?_⟩
  rcases h.2 with h2 | ⟨g, cap, cur, rfl, hb, hc, rest⟩
  · exact .inl h2
  · exact .inr ⟨g, cap, cur, rfl, hb, (hg.block g (Array.getElem?_eq_some_iff.1 hc).1 (fun e => by cases e)).trans hc, rest⟩
/-- The branches among the first k that lead to s. -/
def prevL (s k : Nat) : List Nat := (List.range k).filter fun i => nextS (i / 2) (i % 2) == s
def brV (i : Nat) : List Value := [.int .i64 (brI i 0), .int .i64 (brI i 1), .int .i64 (brI i 2), .int .i64 (brI i 3)]
def rowP (s k : Nat) : List Value := (prevL s k).flatMap brV
theorem prevL_yes {s k : Nat} (h : (nextS (k / 2) (k % 2) == s) = true) : prevL s (k + 1) = prevL s k ++ [k] := by simp [prevL, List.range_succ, List.filter_append, h]
theorem prevL_no {s k : Nat} (h : (nextS (k / 2) (k % 2) == s) = false) : prevL s (k + 1) = prevL s k := by simp [prevL, List.range_succ, List.filter_append, h]
theorem prevL_len (s k : Nat) : (prevL s k).length ≤ k := by
  have := List.length_filter_le (fun i => nextS (i / 2) (i % 2) == s) (List.range k)
  simpa [prevL] using this
theorem BrAt.all {w : World} {g : Nat} (h : BrAt w g 16) {k f : Nat} (hk : k < 16) (hf : f < 4) : w.cell? ⟨g, k * 4 + f, none⟩ = some (.int .i64 (brI k f)) := by
  rw [h.cell (by omega), if_pos (by omega), Nat.mul_comm]
  rfl
set_option maxRecDepth 100000 in
set_option maxHeartbeats 4000000 in
theorem choose_any {g C s : Nat} {w : World} (hg : BrAt w g 16) (hC : w.cell? ⟨C, 0, none⟩ = some (.int .i64 (s : Int))) (hlt : C < w.heap.size) :
    Calls Try.prog 37 #[.slice (some ⟨g, 0, none⟩) 16 16, .func (.func 38) #[] #[.pointer (some ⟨C, 0, none⟩)]] w fun e w' =>
      ∃ A c, e = .returned (.slice A (prevL s 16).length c) ∧ w'.ownsRow w.heap.size 50 4 (.slice A (prevL s 16).length c) (prevL s 16).length (rowP s 16) ∧ Below w.heap.size w w' := by
  have HG := Lib.hid hg
  have HC := Lib.hid hC
  have hgl := hg.lt
  clear hg hC
  go_enter Try.func37, Try.ntmps37
  go_wp2_with fail
  go_loopw [5, 10] (fun v i W => ∃ (k m c : Nat) (A : Option Addr), k ≤ 16 ∧ m ≤ k ∧ v = .slice A m c ∧ i = .int .i64 (k : Int) ∧ Hid ((prevL s k).length = m ∧ W.ownsRow w.heap.size 50 4 (.slice A m c) m (rowP s k) ∧ Below w.heap.size w W)) (fun _ i _ => 16 - (intOf i).toNat)
  case atStart => exact ⟨0, 0, 0, none, Nat.zero_le _, Nat.le_refl _, rfl, rfl, Lib.hid ⟨rfl, by simpa [rowP, prevL] using World.ownsRow_nil w w.heap.size 50 4, Below.refl _ _⟩⟩
  case round =>
    obtain ⟨k, m, c, A, hk, hm, rfl, rfl, hH⟩ := hrel
    by_cases hl : k < 16
    · have b0 := (HG.out.block (hH.out.2.2.block _ hgl)).all hl (f := 0) (by decide)
      have b1 := (HG.out.block (hH.out.2.2.block _ hgl)).all hl (f := 1) (by decide)
      have b2 := (HG.out.block (hH.out.2.2.block _ hgl)).all hl (f := 2) (by decide)
      have b3 := (HG.out.block (hH.out.2.2.block _ hgl)).all hl (f := 3) (by decide)
      have cC : wr.cell? ⟨C, 0, none⟩ = some (.int .i64 (s : Int)) := (hH.out.2.2.cell (p := ⟨C, 0, none⟩) hlt).trans HC.out
      rw [Nat.add_zero] at b0
      have hnx := brI_next k
      have hk3 : (k : Int) < 16 := by omega
      have HW := Lib.hid (fun (v : World) (h : v.cell? ⟨C, 0, none⟩ = some (.int .i64 (s : Int))) => wanted_any (a := brI k 0) (b := brI k 1) (c := brI k 2) (d := brI k 3) h)
      have HV : Hid (brV k = [.int .i64 (brI k 0), .int .i64 (brI k 1), .int .i64 (brI k 2), .int .i64 (brI k 3)]) := Lib.hid rfl
      have hyes := Lib.hid (fun (h : brI k 3 == (s : Int)) => prevL_yes (s := s) (k := k) (by rw [hnx] at h; simp at h ⊢; omega))
      have hno := Lib.hid (fun (h : (brI k 3 == (s : Int)) = false) => prevL_no (s := s) (k := k) (by rw [hnx] at h; simp at h ⊢; omega))
      have hG0 := fun o => World.grownBy_alloc wr o none
      have f0 := Four.new wr 50 (.int .i64 (brI k 0)) (.int .i64 (brI k 1)) (.int .i64 (brI k 2)) (.int .i64 (brI k 3))
      have hC2 := cell_new (.cells #[.int .i64 (brI k 0), .int .i64 (brI k 1), .int .i64 (brI k 2), .int .i64 (brI k 3)] 50) cC
      clear hnx
      generalize brI k 0 = x0 at *
      generalize brI k 1 = x1 at *
      generalize brI k 2 = x2 at *
      generalize brI k 3 = x3 at *
      have hO1 := hH.out.2.1.alloc (.cells #[.int .i64 x0, .int .i64 x1, .int .i64 x2, .int .i64 x3] 50)
      have hB1 := hH.out.2.2.alloc hH.out.2.2.size (.cells #[.int .i64 x0, .int .i64 x1, .int .i64 x2, .int .i64 x3] 50)
      have hlen := hH.out.1
      have HL := Lib.hid hlen
      have f00 := f0.cell 0
      have f01 := f0.cell 1
      have f02 := f0.cell 2
      have f03 := f0.cell 3
      clear hH hG0 hlen
      go_wp2_with fail
      generalize wr.alloc (.cells #[.int .i64 x0, .int .i64 x1, .int .i64 x2, .int .i64 x3] 50) = W1 at *
      refine (HW.out _ hC2).mono ?_
      rintro e w2 ⟨rfl, hg2⟩
      have hO2 := ownsRow_grown hO1 hg2
      have hB2 := hB1.grown hg2 hB1.size (fun g e => by cases e)
      have f2 := f0.block (hg2.block _ f0.lt (fun e => by cases e))
      have f20 := f2.cell 0
      have f21 := f2.cell 1
      have f22 := f2.cell 2
      have f23 := f2.cell 3
      clear f00 f01 f02 f03 f0 f2 hO1 hB1 hC2 HW b0 b1 b2 b3 cC hg2
      by_cases hd : (x3 == (s : Int)) = true
      · have hp := hyes.out hd
        obtain ⟨A2, c2, w3, hrun, hO3, hg3⟩ := append_br (x := x0) (y := x1) (z := x2) (u := x3) hO2 (by omega) hB2.size
        have HF : Hid ((prevL s (k + 1)).length = m + 1 ∧ w3.ownsRow w.heap.size 50 4 (.slice A2 (m + 1) c2) (m + 1) (rowP s (k + 1)) ∧ Below w.heap.size w w3) := Lib.hid ⟨by rw [hp, List.length_append, HL.out]; rfl, by
          have e : rowP s (k + 1) = rowP s k ++ brV k := by unfold rowP; rw [hp, List.flatMap_append, List.flatMap_cons, List.flatMap_nil, List.append_nil]
          rw [e, HV.out]; exact hO3, (hB2.alloc hB2.size _).grown hg3 (by have := hB2.size; simp; omega) (fun j hj => (hO2.lt j hj).1)⟩
        have HR := Lib.hid hrun
        rw [hd]
        clear hp hO3 hg3 hrun hO2 hB2 hyes hno hd
        go_wp2_with (at_builtin; refine Lib.wpList_append_run _ rfl _ _ _ _ rfl _ _ rfl rfl _ _ HR.out ?_)
        go_roundw
        case rel => exact ⟨k + 1, m + 1, c2, A2, by omega, by omega, rfl, by go_num, HF⟩
        case measure => simp [intOf]; omega
      · have hd := Bool.eq_false_iff.2 hd
        have hp := hno.out hd
        have HF : Hid ((prevL s (k + 1)).length = m ∧ w2.ownsRow w.heap.size 50 4 (.slice A m c) m (rowP s (k + 1)) ∧ Below w.heap.size w w2) := Lib.hid ⟨by rw [hp, HL.out], by
          have e : rowP s (k + 1) = rowP s k := by unfold rowP; rw [hp]
          rw [e]; exact hO2, hB2⟩
        rw [hd]
        clear hp hO2 hB2 hyes hno hd
        go_wp2_with fail
        go_roundw
        case rel => exact ⟨k + 1, m, c, A, by omega, by omega, rfl, by go_num, HF⟩
        case measure => simp [intOf]; omega
    · obtain rfl : k = 16 := by omega
      have h1 := Lib.hid hH.out.1
      have h2 := Lib.hid hH.out.2.1
      have h3 := Lib.hid hH.out.2.2
      clear hH
      go_wp2_with fail
      go_ret
      exact ⟨A, c, by rw [h1.out]; rfl, by rw [h1.out]; exact h2.out, h3.out⟩
end Go.Proofs.Ytjehfdnkdfmmbaa
