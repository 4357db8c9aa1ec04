/-
  The reference's Previous.
-/
import Derived.Test.YtjehfdnkdfmmbaaR4
namespace Go.Proofs.Ytjehfdnkdfmmbaa
open Go.RowKit

/-- The array with the branches that are there. -/
def outL : List Nat → Array Value
  | [] => zeroA
  | [i] => (brV i ++ [Value.int .i64 0, Value.int .i64 0, Value.int .i64 0, Value.int .i64 0]).toArray
  | i :: j :: _ => (brV i ++ brV j).toArray
theorem prev_short : ∀ s, s < 8 → ∀ k, k < 17 → (prevL s k).length ≤ 2 := by decide
theorem refPrev_results {W : World} {tmps : Array Value} {B : Nat} {cs : Array Value} (h2 : tmps.getD 2 undef = .pointer (some ⟨B, 0, none⟩)) (hB : W.heap[B]? = some (.cells cs 51)) (hs : cs.size = 8) :
    (results Try.f25 tmps).run Try.prog W = .ok (.agg cs) W := by
  have hl := run_loadVar_row (P := Try.prog) W B 51 51 cs (0, 0) _ hB Try.underlying51 rfl (by rw [hs]; exact info_two)
  simp only [Array.getD_eq_getD_getElem?] at h2
  simp [results, Try.results25, h2, asAddr, hl]
theorem out_put0 {w : World} {B i : Nat} (h : w.heap[B]? = some (.cells (outL []) 51)) :
    ((((w.setCell ⟨B, 0, none⟩ (.int .i64 (brI i 0))).setCell ⟨B, 1, none⟩ (.int .i64 (brI i 1))).setCell ⟨B, 2, none⟩ (.int .i64 (brI i 2))).setCell ⟨B, 3, none⟩ (.int .i64 (brI i 3))).heap[B]? = some (.cells (outL [i]) 51) :=
  arr_set (arr_set (arr_set (arr_set h)))
theorem out_put1 {w : World} {B i j : Nat} (h : w.heap[B]? = some (.cells (outL [i]) 51)) :
    ((((w.setCell ⟨B, 4, none⟩ (.int .i64 (brI j 0))).setCell ⟨B, 5, none⟩ (.int .i64 (brI j 1))).setCell ⟨B, 6, none⟩ (.int .i64 (brI j 2))).setCell ⟨B, 7, none⟩ (.int .i64 (brI j 3))).heap[B]? = some (.cells (outL [i, j]) 51) :=
  arr_set (arr_set (arr_set (arr_set h)))
theorem out_cell {w : World} {B : Nat} {l : List Nat} (h : w.heap[B]? = some (.cells (outL l) 51)) {j : Nat} (hj : j < 8) : ∃ x : Int, w.cell? ⟨B, j, none⟩ = some (.int .i64 x) := by
  rw [cell_of_row _ _ j _ _ _ h]
  obtain rfl | rfl | rfl | rfl | rfl | rfl | rfl | rfl : j = 0 ∨ j = 1 ∨ j = 2 ∨ j = 3 ∨ j = 4 ∨ j = 5 ∨ j = 6 ∨ j = 7 := by omega
  all_goals match l with
    | [] => exact ⟨_, rfl⟩
    | [i] => exact ⟨_, rfl⟩
    | i :: j :: _ => exact ⟨_, rfl⟩
/-- Cell 4 k + f of a row of branches. -/
theorem row_cell {w : World} {base : Nat} {A : Option Addr} {c : Nat} (h : w.ownsRow base 50 4 (.slice A 16 c) 16 (rowB 16)) : ∃ g, A = some ⟨g, 0, none⟩ ∧ base ≤ g ∧ g < w.heap.size ∧ ∀ k f, k < 16 → f < 4 → w.cell? ⟨g, k * 4 + f, none⟩ = some (.int .i64 (brI k f)) := by
  rcases h.2 with ⟨_, h0⟩ | ⟨g, cap, cur, hv, hb, hg, hn, hm, hs, ht⟩
  · omega
  · injection hv with e1 e2 e3
    refine ⟨g, e1, hb, (Array.getElem?_eq_some_iff.1 hg).1, fun k f hk hf => ?_⟩
    rw [cell_of_row _ _ _ _ _ _ hg]
    have h1 : (rowB 16)[k * 4 + f]? = some (.int .i64 (brI k f)) := by
      have : ∀ k, k < 16 → ∀ f, f < 4 → (rowB 16)[k * 4 + f]? = some (Value.int .i64 (brI k f)) := by
        intro k hk f hf
        obtain rfl | rfl | rfl | rfl | rfl | rfl | rfl | rfl | rfl | rfl | rfl | rfl | rfl | rfl | rfl | rfl : k = 0 ∨ k = 1 ∨ k = 2 ∨ k = 3 ∨ k = 4 ∨ k = 5 ∨ k = 6 ∨ k = 7 ∨ k = 8 ∨ k = 9 ∨ k = 10 ∨ k = 11 ∨ k = 12 ∨ k = 13 ∨ k = 14 ∨ k = 15 := by omega
        all_goals
          obtain rfl | rfl | rfl | rfl : f = 0 ∨ f = 1 ∨ f = 2 ∨ f = 3 := by omega
          all_goals rfl
      exact this k hk f hf
    rw [← ht, List.getElem?_take] at h1
    split at h1
    · simpa using h1
    · cases h1
set_option maxRecDepth 100000 in
set_option maxHeartbeats 8000000 in
theorem refPrevious_any {s : Nat} {w : World} (hs : s < 8) :
    Calls Try.prog 25 #[.int .i64 (s : Int)] w fun e w' => e = .returned (.agg (prevA s)) ∧ Below w.heap.size w w' := by
  have hBr := Lib.hid (fun (v : World) => refBranches_any (w := v))
  have hsh := Lib.hid (fun k (hk : k < 17) => prev_short s hs k hk)
  have hfin : Hid (outL (prevL s 16) = prevA s) := Lib.hid (by rw [prev_two s hs]; rfl)
  have hps := prevA_size s
  have hpo := prevA_one s
  generalize prevA s = X at *
  have q1 := (Below.heap_alloc (w.alloc (.cells zeroA 51)) (.cells zeroA 51) w.heap.size (by simp)).trans (World.alloc_heap_new w (.cells zeroA 51))
  have r1 := World.alloc_heap_new (w.alloc (.cells zeroA 51)) (.cells zeroA 51)
  rw [World.size_alloc] at r1
  have hb1 := below_two (w := w) (.cells zeroA 51) (.cells zeroA 51)
  have hs1 : ((w.alloc (.cells zeroA 51)).alloc (.cells zeroA 51)).heap.size = w.heap.size + 2 := by simp
  unfold zeroA at q1 r1 hb1 hs1
  clear hs
  go_enter Try.func25, Try.ntmps25
  go_wp2_with fail
  generalize (w.alloc (.cells #[.int .i64 0, .int .i64 0, .int .i64 0, .int .i64 0, .int .i64 0, .int .i64 0, .int .i64 0, .int .i64 0] 51)).alloc (.cells #[.int .i64 0, .int .i64 0, .int .i64 0, .int .i64 0, .int .i64 0, .int .i64 0, .int .i64 0, .int .i64 0] 51) = W0 at *
  refine (hBr.out _).mono ?_
  rintro e w2 ⟨A, c, rfl, hO, hb2⟩
  obtain ⟨g, rfl, hgb, hgl, hcell⟩ := row_cell hO
  have Q2 := (hb2.block _ (by omega)).trans q1
  have R2 := (hb2.block _ (by omega)).trans r1
  have B2 := hb1.trans (hb2.mono hb1.size)
  have HC := Lib.hid hcell
  have HH : Hid (w2.heap[w.heap.size]? = some (.cells zeroA 51) ∧ w2.heap[w.heap.size + 1]? = some (.cells (outL (prevL s 0)) 51) ∧ Below w.heap.size w w2 ∧ w2.heap[g]? = w2.heap[g]?) := Lib.hid ⟨Q2, R2, B2, rfl⟩
  clear hBr q1 r1 hb1 hO hb2 Q2 R2 B2 hcell
  go_wp2_with fail
  go_loopw [4, 6] (fun n i W => ∃ (k m : Nat), k ≤ 16 ∧ n = .int .i64 (m : Int) ∧ i = .int .i64 (k : Int) ∧ Hid ((prevL s k).length = m) ∧ Hid (W.heap[w.heap.size]? = some (.cells zeroA 51) ∧ W.heap[w.heap.size + 1]? = some (.cells (outL (prevL s k)) 51) ∧ Below w.heap.size w W ∧ W.heap[g]? = w2.heap[g]?)) (fun _ i _ => 16 - (intOf i).toNat)
  case atStart => exact ⟨0, 0, Nat.zero_le _, rfl, rfl, Lib.hid rfl, Lib.hid ⟨HH.out.1, HH.out.2.1, HH.out.2.2.1, rfl⟩⟩
  case round =>
    clear HH
    obtain ⟨k, m, hk, rfl, rfl, hm, hH⟩ := hrel
    by_cases hlt : k < 16
    · have cw : ∀ f, f < 4 → wr.cell? ⟨g, k * 4 + f, none⟩ = some (.int .i64 (brI k f)) := fun f hf => (World.cell?_of_block hH.out.2.2.2).trans (HC.out k f hlt hf)
      have b0 := cw 0 (by decide)
      have b1 := cw 1 (by decide)
      have b2 := cw 2 (by decide)
      have b3 := cw 3 (by decide)
      rw [Nat.add_zero] at b0
      have hk3 : (k : Int) < 16 := by omega
      have hnx := brI_next k
      by_cases hd : (brI k 3 == (s : Int)) = true
      · have hp := prevL_yes (s := s) (k := k) (by rw [hnx] at hd; simp at hd ⊢; omega)
        have hle := hsh.out (k + 1) (by omega)
        rw [hp, List.length_append, hm.out] at hle
        have hm2 : m = 0 ∨ m = 1 := by simp at hle; omega
        have hml := hm.out
        rcases hm2 with rfl | rfl
        · have HP : Hid (∀ W : World, W.heap[w.heap.size + 1]? = some (.cells (outL (prevL s k)) 51) → ((((W.setCell ⟨w.heap.size + 1, 0, none⟩ (.int .i64 (brI k 0))).setCell ⟨w.heap.size + 1, 1, none⟩ (.int .i64 (brI k 1))).setCell ⟨w.heap.size + 1, 2, none⟩ (.int .i64 (brI k 2))).setCell ⟨w.heap.size + 1, 3, none⟩ (.int .i64 (brI k 3))).heap[w.heap.size + 1]? = some (.cells (outL (prevL s (k + 1))) 51)) := Lib.hid (fun W h => by
            have e := List.eq_nil_of_length_eq_zero hml
            rw [hp, e]
            rw [e] at h
            exact out_put0 h)
          have M2 : Hid ((prevL s (k + 1)).length = 1) := Lib.hid (by rw [hp, List.length_append, hm.out]; rfl)
          obtain ⟨y0, c0⟩ := out_cell hH.out.2.1 (j := 0) (by decide)
          obtain ⟨y1, c1⟩ := out_cell hH.out.2.1 (j := 1) (by decide)
          obtain ⟨y2, c2⟩ := out_cell hH.out.2.1 (j := 2) (by decide)
          obtain ⟨y3, c3⟩ := out_cell hH.out.2.1 (j := 3) (by decide)
          have hfz : ∀ j, wr.frozen? ⟨w.heap.size + 1, j, none⟩ = false := fun j => by simp [World.frozen?, hH.out.2.1]
          have f0 := hfz 0
          have f1 := hfz 1
          have f2 := hfz 2
          have f3 := hfz 3
          generalize brI k 0 = x0 at *
          generalize brI k 1 = x1 at *
          generalize brI k 2 = x2 at *
          generalize brI k 3 = x3 at *
          have H2 : Hid (((((wr.setCell ⟨w.heap.size + 1, 0, none⟩ (.int .i64 x0)).setCell ⟨w.heap.size + 1, 1, none⟩ (.int .i64 x1)).setCell ⟨w.heap.size + 1, 2, none⟩ (.int .i64 x2)).setCell ⟨w.heap.size + 1, 3, none⟩ (.int .i64 x3)).heap[w.heap.size]? = some (.cells zeroA 51) ∧ ((((wr.setCell ⟨w.heap.size + 1, 0, none⟩ (.int .i64 x0)).setCell ⟨w.heap.size + 1, 1, none⟩ (.int .i64 x1)).setCell ⟨w.heap.size + 1, 2, none⟩ (.int .i64 x2)).setCell ⟨w.heap.size + 1, 3, none⟩ (.int .i64 x3)).heap[w.heap.size + 1]? = some (.cells (outL (prevL s (k + 1))) 51) ∧ Below w.heap.size w ((((wr.setCell ⟨w.heap.size + 1, 0, none⟩ (.int .i64 x0)).setCell ⟨w.heap.size + 1, 1, none⟩ (.int .i64 x1)).setCell ⟨w.heap.size + 1, 2, none⟩ (.int .i64 x2)).setCell ⟨w.heap.size + 1, 3, none⟩ (.int .i64 x3)) ∧ ((((wr.setCell ⟨w.heap.size + 1, 0, none⟩ (.int .i64 x0)).setCell ⟨w.heap.size + 1, 1, none⟩ (.int .i64 x1)).setCell ⟨w.heap.size + 1, 2, none⟩ (.int .i64 x2)).setCell ⟨w.heap.size + 1, 3, none⟩ (.int .i64 x3)).heap[g]? = w2.heap[g]?) :=
            Lib.hid ⟨by rw [Below.heap_setCell _ _ _ _ (by dsimp only; omega), Below.heap_setCell _ _ _ _ (by dsimp only; omega), Below.heap_setCell _ _ _ _ (by dsimp only; omega), Below.heap_setCell _ _ _ _ (by dsimp only; omega)]; exact hH.out.1, HP.out wr hH.out.2.1, (((hH.out.2.2.1.setCell (by dsimp only; omega) _).setCell (by dsimp only; omega) _).setCell (by dsimp only; omega) _).setCell (by dsimp only; omega) _,
              by rw [Below.heap_setCell _ _ _ _ (by dsimp only; omega), Below.heap_setCell _ _ _ _ (by dsimp only; omega), Below.heap_setCell _ _ _ _ (by dsimp only; omega), Below.heap_setCell _ _ _ _ (by dsimp only; omega)]; exact hH.out.2.2.2⟩
          clear hp hle hml cw hnx hH hm HP hfz
          go_wp2_with fail
          go_roundw
          case rel => exact ⟨k + 1, 1, by omega, by go_num, by go_num, M2, H2⟩
          case measure => simp [intOf]; omega
        · have HP : Hid (∀ W : World, W.heap[w.heap.size + 1]? = some (.cells (outL (prevL s k)) 51) → ((((W.setCell ⟨w.heap.size + 1, 4, none⟩ (.int .i64 (brI k 0))).setCell ⟨w.heap.size + 1, 5, none⟩ (.int .i64 (brI k 1))).setCell ⟨w.heap.size + 1, 6, none⟩ (.int .i64 (brI k 2))).setCell ⟨w.heap.size + 1, 7, none⟩ (.int .i64 (brI k 3))).heap[w.heap.size + 1]? = some (.cells (outL (prevL s (k + 1))) 51)) := Lib.hid (fun W h => by
            obtain ⟨i, e⟩ : ∃ i, prevL s k = [i] := List.length_eq_one_iff.1 hml
            rw [hp, e]
            rw [e] at h
            exact out_put1 h)
          have M2 : Hid ((prevL s (k + 1)).length = 2) := Lib.hid (by rw [hp, List.length_append, hm.out]; rfl)
          obtain ⟨y0, c0⟩ := out_cell hH.out.2.1 (j := 4) (by decide)
          obtain ⟨y1, c1⟩ := out_cell hH.out.2.1 (j := 5) (by decide)
          obtain ⟨y2, c2⟩ := out_cell hH.out.2.1 (j := 6) (by decide)
          obtain ⟨y3, c3⟩ := out_cell hH.out.2.1 (j := 7) (by decide)
          have hfz : ∀ j, wr.frozen? ⟨w.heap.size + 1, j, none⟩ = false := fun j => by simp [World.frozen?, hH.out.2.1]
          have f0 := hfz 4
          have f1 := hfz 5
          have f2 := hfz 6
          have f3 := hfz 7
          generalize brI k 0 = x0 at *
          generalize brI k 1 = x1 at *
          generalize brI k 2 = x2 at *
          generalize brI k 3 = x3 at *
          have H2 : Hid (((((wr.setCell ⟨w.heap.size + 1, 4, none⟩ (.int .i64 x0)).setCell ⟨w.heap.size + 1, 5, none⟩ (.int .i64 x1)).setCell ⟨w.heap.size + 1, 6, none⟩ (.int .i64 x2)).setCell ⟨w.heap.size + 1, 7, none⟩ (.int .i64 x3)).heap[w.heap.size]? = some (.cells zeroA 51) ∧ ((((wr.setCell ⟨w.heap.size + 1, 4, none⟩ (.int .i64 x0)).setCell ⟨w.heap.size + 1, 5, none⟩ (.int .i64 x1)).setCell ⟨w.heap.size + 1, 6, none⟩ (.int .i64 x2)).setCell ⟨w.heap.size + 1, 7, none⟩ (.int .i64 x3)).heap[w.heap.size + 1]? = some (.cells (outL (prevL s (k + 1))) 51) ∧ Below w.heap.size w ((((wr.setCell ⟨w.heap.size + 1, 4, none⟩ (.int .i64 x0)).setCell ⟨w.heap.size + 1, 5, none⟩ (.int .i64 x1)).setCell ⟨w.heap.size + 1, 6, none⟩ (.int .i64 x2)).setCell ⟨w.heap.size + 1, 7, none⟩ (.int .i64 x3)) ∧ ((((wr.setCell ⟨w.heap.size + 1, 4, none⟩ (.int .i64 x0)).setCell ⟨w.heap.size + 1, 5, none⟩ (.int .i64 x1)).setCell ⟨w.heap.size + 1, 6, none⟩ (.int .i64 x2)).setCell ⟨w.heap.size + 1, 7, none⟩ (.int .i64 x3)).heap[g]? = w2.heap[g]?) :=
            Lib.hid ⟨by rw [Below.heap_setCell _ _ _ _ (by dsimp only; omega), Below.heap_setCell _ _ _ _ (by dsimp only; omega), Below.heap_setCell _ _ _ _ (by dsimp only; omega), Below.heap_setCell _ _ _ _ (by dsimp only; omega)]; exact hH.out.1, HP.out wr hH.out.2.1, (((hH.out.2.2.1.setCell (by dsimp only; omega) _).setCell (by dsimp only; omega) _).setCell (by dsimp only; omega) _).setCell (by dsimp only; omega) _,
              by rw [Below.heap_setCell _ _ _ _ (by dsimp only; omega), Below.heap_setCell _ _ _ _ (by dsimp only; omega), Below.heap_setCell _ _ _ _ (by dsimp only; omega), Below.heap_setCell _ _ _ _ (by dsimp only; omega)]; exact hH.out.2.2.2⟩
          clear hp hle hml cw hnx hH hm HP hfz
          go_wp2_with fail
          go_roundw
          case rel => exact ⟨k + 1, 2, by omega, by go_num, by go_num, M2, H2⟩
          case measure => simp [intOf]; omega
      · have hd := Bool.eq_false_iff.2 hd
        have hp := prevL_no (s := s) (k := k) (by rw [hnx] at hd; simp at hd ⊢; omega)
        have H2 : Hid (wr.heap[w.heap.size]? = some (.cells zeroA 51) ∧ wr.heap[w.heap.size + 1]? = some (.cells (outL (prevL s (k + 1))) 51) ∧ Below w.heap.size w wr ∧ wr.heap[g]? = w2.heap[g]?) := Lib.hid (by rw [hp]; exact hH.out)
        have M2 : Hid ((prevL s (k + 1)).length = m) := Lib.hid (by rw [hp]; exact hm.out)
        clear hp cw hnx hH hm
        generalize brI k 0 = x0 at *
        generalize brI k 1 = x1 at *
        generalize brI k 2 = x2 at *
        generalize brI k 3 = x3 at *
        go_wp2_with fail
        go_roundw
        case rel => exact ⟨k + 1, m, by omega, rfl, by go_num, M2, H2⟩
        case measure => simp [intOf]; omega
    · obtain rfl : k = 16 := by omega
      have q := hH.out.1
      have r := hH.out.2.1
      have hb := hH.out.2.2.1
      rw [hfin.out] at r
      clear hH hm HC
      go_upto_region 10 with fail
      refine wp_region_lit ?_
      refine wpList_load_run rfl 51 (.tmp 3) rfl rfl (loadAt_row (cs := X) r Try.underlying51 (by rw [hps]; exact info_two)) ?_
      refine wpList_store_run rfl 51 (.tmp 2) (.tmp 29) rfl rfl rfl (storeAt_row (cs := X) q (by rw [hps]; exact info_two) (by rw [hps]; rfl) hpo) ?_
      refine wpList_nil ?_
      have U1 : (wr.setRow w.heap.size X).heap[w.heap.size]? = some (.cells X 51) := setRow_heap wr w.heap.size _ X 51 _ q
      have U2 := setRow_below hb (g := w.heap.size) (Nat.le_refl _) X
      clear q r hb
      generalize wr.setRow w.heap.size X = W7 at *
      simp only [Act.put]
      go_wp2_with fail
      refine bodyPost_ret (refPrev_results rfl U1 hps) rfl ⟨rfl, U2⟩
end Go.Proofs.Ytjehfdnkdfmmbaa
