/-
  The law BitstrConcat's walk: it returns true whatever byte slices came in; what was there stays.
-/
import Derived.Test.YtdjnmebgiabecaaC1
import Derived.Test.YtdjnmebgiabecaaW11
namespace Go.Proofs.Ytdjnmebgiabecaa
open Go.RowKit

theorem validB_joined (rows : List BRow) : validB (joined rows) = rows.all fun r => validB r.xs := by
  unfold validB joined
  rw [List.all_flatMap]
theorem byte_joined {rows : List BRow} (h : ∀ r ∈ rows, Byte r.xs) : Byte (joined rows) := Byte.of_mem fun x hx => by
  obtain ⟨r, hr, hxr⟩ := List.mem_flatMap.1 hx
  exact (h r hr).mem x hxr

/-- Every slice is short. -/
def Short (rows : List BRow) : Prop := ∀ r ∈ rows, r.n ≤ 200
theorem Short.succ {rows : List BRow} {k : Nat} {r : BRow} (h : Short (rows.take k)) (hr : rows[k]? = some r) (hn : r.n ≤ 200) : Short (rows.take (k + 1)) := by
  obtain ⟨hk, rfl⟩ := List.getElem?_eq_some_iff.1 hr
  intro q hq
  rw [List.take_succ_eq_append_getElem hk] at hq
  rcases List.mem_append.1 hq with h1 | h1
  · exact h q h1
  · simp at h1; subst h1; exact hn

set_option maxRecDepth 100000 in
set_option maxHeartbeats 2000000 in
/-- Behind the first loop: all the slices are short. -/
theorem concat_walk {A : Option Addr} {n c : Nat} {rows : List BRow} {w : World} (hI : Rds w w.heap.size A n rows) (hb : ∀ r ∈ rows, Byte r.xs) :
    Calls Try.prog 6 #[.slice A n c] w fun e w' => e = .returned (.bool true) ∧ Below w.heap.size w w' := by
  obtain ⟨i0, hi, hz0, hz1, hz2⟩ := info_parts Try.info_u8
  have hL := Lib.hid hI.len
  by_cases h20 : 20 < n
  · go_enter Try.func6, Try.ntmps6
    go_wp2_with fail
    refine (works_any _).mono ?_
    rintro e w1 ⟨rfl, hb1⟩
    go_wp2
    go_ret
    exact ⟨rfl, hb1⟩
  · have hn20 : n ≤ 20 := by omega
    go_enter Try.func6, Try.ntmps6
    go_wp2_with fail
    go_loopw [3, 4] (fun p i wr => ∃ (j : Nat) (A1 : Option Addr) (c1 : Nat), j ≤ n ∧ i = .int .i64 j ∧ p = .slice A1 (joined (rows.take j)).length c1 ∧ wr.ownsRow w.heap.size 5 1 (.slice A1 (joined (rows.take j)).length c1) (joined (rows.take j)).length ((joined (rows.take j)).map (Value.int .u8)) ∧ Below w.heap.size w wr ∧ (joined (rows.take j)).length ≤ 200 * j ∧ Short (rows.take j))
      (fun _ i _ => n - (intOf i).toNat)
    case atStart => exact ⟨0, none, 0, Nat.zero_le _, rfl, rfl, World.ownsRow_nil _ _ _ _, Below.refl _ _, Nat.zero_le _, fun r hr => by simp at hr⟩
    case round =>
      obtain ⟨j, A2, c2, hj, rfl, rfl, hown, hB1, hle, hSh⟩ := hrel
      by_cases hjt : j < n
      · obtain ⟨b, off, r, rfl, hbb, hr, hcell, hRd⟩ := (hI.below hB1).cells j hjt
        by_cases h200 : 200 < r.n
        · have hO := Lib.hid hown; clear hown hr
          go_wp2_with fail
          refine (works_any _).mono ?_
          rintro e w1 ⟨rfl, hb1⟩
          have hbb1 := below_next0 hB1 hb1
          go_wp2
          go_ret
          exact ⟨rfl, hbb1⟩
        · obtain ⟨A3, c3, w3, hrun, hown3, hgrow3⟩ := run_append_rd (P := Try.prog) (t := 22) (ty := 22) (c' := r.c) Try.underlying22 hi hz0 hz1 hz2 hown hRd (by omega) hB1.size
          have hB3 : Below w.heap.size w w3 := hB1.grown hgrow3 hB1.size (fun g hg => (hown.lt g hg).1)
          have hJl : (joined (rows.take (j + 1))).length = (joined (rows.take j)).length + r.n := by rw [joined_succ hr, List.length_append, hRd.len]
          have hSh3 := Short.succ hSh hr (by omega)
          have hle3 : (joined (rows.take (j + 1))).length ≤ 200 * (j + 1) := by omega
          rw [← joined_succ hr, ← hJl] at hown3
          rw [← hJl] at hrun
          have hO3 := Lib.hid hown3
          have hRun := Lib.hid hrun
          clear hown hown3 hrun hJl hr
          go_wp2_with (at_builtin; refine Lib.wpList_append_run _ rfl _ _ _ _ rfl _ _ rfl rfl _ _ hRun.out ?_)
          go_roundw
          case rel => exact ⟨j + 1, A3, c3, by omega, by go_num, rfl, hO3.out, hB3, hle3, hSh3⟩
          case measure => simp [intOf]; omega
      · obtain rfl : j = n := by omega
        rw [List.take_of_length_le (by rw [hL.out]; exact Nat.le_refl _)] at hown hle hSh ⊢
        have hAll := Rd.of_own hown
        have hO := Lib.hid hown; clear hown
        have hcat := concat_any (c := c) (hI.below hB1) hB1.size (by omega) (by omega) (fun r hr => Nat.le_trans (hSh r hr) (by decide))
        have hbj := byte_joined hb
        have hsz0 := hB1.size
        by_cases hv : (rows.all fun r => validB r.xs) = true
        · rw [if_pos hv] at hcat
          have hCat := Lib.hid hcat
          have hV : Hid (validB (joined rows) = true) := Lib.hid (by rw [validB_joined]; exact hv)
          have hEach : Hid (∀ r ∈ rows, validB r.xs = true) := Lib.hid (fun r hr => List.all_eq_true.1 hv r hr)
          clear hcat hv
          generalize joined rows = L at *
          go_wp2_with fail
          refine hCat.out.mono ?_
          rintro e w2 ⟨A3, c3, rfl, hown3, hb2⟩
          have hX := Rd.of_own hown3
          have hO3 := Lib.hid hown3; clear hown3
          replace hAll := hAll.next0 hb2
          replace hB1 := below_next0 hB1 hb2
          go_wp2_with fail
          refine (refValid_any hAll (by omega)).mono ?_
          rintro e w3 ⟨rfl, rfl⟩
          rw [hV.out]
          go_wp2_with fail
          refine (num_any _ _).mono ?_
          rintro e w3 ⟨rfl, rfl⟩
          go_wp2_with fail
          have hs := same_true (c := c3) (c' := c2) hX hAll hbj
          refine hs.mono ?_
          rintro e w3 ⟨rfl, rfl⟩
          clear hs
          go_wp2_with fail
          go_loopw [7] (fun i wr => ∃ (m : Nat) (ys : List Value), m ≤ L.length ∧ i = .int .i64 m ∧ wr.ownsRow w.heap.size 5 1 (.slice A3 L.length c3) L.length ys ∧ Below w.heap.size w wr)
            (fun i _ => L.length - (intOf i).toNat)
          case atStart => exact ⟨0, _, Nat.zero_le _, rfl, hO3.out.mono hsz0, hB1⟩
          case round =>
            clear hX hAll hO3 hO hB1
            obtain ⟨m, ys, hm, rfl, hown, hB1⟩ := hrel
            by_cases hml : m < L.length
            · obtain ⟨g, cap, hv, hg, hlt⟩ := hown.form (by omega)
              injection hv with e1 _ e3
              subst e1 e3
              have hyl : m < ys.length := by rw [hown.1]; omega
              have hc0 : wr.cell? ⟨g, m, none⟩ = some ys[m] := by rw [hown.cellAt m (by omega)]; exact List.getElem?_eq_getElem hyl
              have hf0 := hown.frozenAt m
              have hST := Lib.hid (hown.stored m (.int .u8 7))
              clear hown
              generalize ys[m] = y0 at hc0
              go_wp2_with fail
              go_roundw
              case rel => exact ⟨m + 1, _, by omega, by go_num, hST.out.1, hB1.setCell (p := ⟨g, m, none⟩) hg _⟩
              case measure => simp [intOf]; omega
            · obtain rfl : m = L.length := by omega
              clear hown
              go_wp2_with fail
              go_loop [8] (fun i => ∃ q : Nat, q ≤ j ∧ i = .int .i64 q) (fun i => j - (intOf i).toNat)
              case atStart => exact ⟨0, Nat.zero_le _, rfl⟩
              case round =>
                obtain ⟨q, hq, rfl⟩ := hrel
                by_cases hqt : q < j
                · obtain ⟨b, off, r, rfl, hbb, hr, hcell, hRd⟩ := (hI.below hB1).cells q hqt
                  have hm2 : r.n ≤ 140737488351232 := Nat.le_trans (hSh r (List.mem_of_getElem? hr)) (by decide)
                  have hvr := Lib.hid (hEach.out r (List.mem_of_getElem? hr))
                  clear hr
                  go_wp2_with fail
                  refine (refValid_any hRd hm2).mono ?_
                  rintro e w3 ⟨rfl, rfl⟩
                  rw [hvr.out]
                  go_wp2_with fail
                  go_round
                  case rel => exact ⟨q + 1, by omega, by go_num⟩
                  case measure => simp [intOf]; omega
                · obtain rfl : q = j := by omega
                  go_wp2_with fail
                  refine (works_any _).mono ?_
                  rintro e w4 ⟨rfl, hb4⟩
                  have hbb4 := below_next0 hB1 hb4
                  go_wp2
                  go_ret
                  exact ⟨rfl, hbb4⟩
        · have hv0 : (rows.all fun r => validB r.xs) = false := by simpa using hv
          rw [if_neg hv] at hcat
          have hCat := Lib.hid hcat
          have hV : Hid (validB (joined rows) = false) := Lib.hid (by rw [validB_joined]; exact hv0)
          clear hcat hv hv0
          generalize joined rows = L at *
          go_wp2_with fail
          refine hCat.out.mono ?_
          intro e w2 h1
          obtain ⟨A3, c3, rfl, hX, hb2⟩ := h1.lit (r := []) (k := 3) (n := 0) rfl rfl
          clear h1
          replace hAll := hAll.next0 hb2
          replace hB1 := below_next0 hB1 hb2
          go_wp2_with fail
          refine (refValid_any hAll (by omega)).mono ?_
          rintro e w3 ⟨rfl, rfl⟩
          rw [hV.out]
          go_wp2_with fail
          refine (works_any _).mono ?_
          rintro e w4 ⟨rfl, hb4⟩
          have hbb4 := below_next0 hB1 hb4
          go_wp2
          go_ret
          exact ⟨rfl, hbb4⟩
end Go.Proofs.Ytdjnmebgiabecaa
