/-
  Concat: what it returns; what was there stays. Beneath it: slices.Grow on the nil slice, slices.Concat.
-/
import Derived.Test.YtdjnmebgiabecaaW10
import Derived.Lib.AppendZerosOnto
import Derived.Lib.SliceRun
namespace Go.Proofs.Ytdjnmebgiabecaa
open Go.RowKit

theorem ownsRow_shape {w : World} {base : Nat} {e : TypeId} {size : Nat} {v : Value} {n : Nat} {xs : List Value} (h : w.ownsRow base e size v n xs) : ∃ A c, v = .slice A n c := by
  rcases h.2 with ⟨rfl, rfl⟩ | ⟨g, cap, cur, rfl, _⟩
  · exact ⟨none, 0, rfl⟩
  · exact ⟨_, _, rfl⟩

/-- append of a byte slice that is read onto one of the call's own. -/
theorem run_append_rd {P : Program} {w : World} {B base : Nat} {t ty e : TypeId} {i : TypeInfo} (ht : P.underlying t = some (.slice e)) (hi : P.info? e = some i) (hz : i.zero = some (.int .u8 0)) (hsize : i.size = 1) (hby : i.bytes = 1)
    {A A1 : Option Addr} {n c m c' : Nat} {xs ys : List Int} (hown : w.ownsRow base e 1 (.slice A1 n c) n (xs.map (Value.int .u8))) (hR : Rd .u8 w B A m ys) (hlim : n + m ≤ 140737488355328) (hbase : base ≤ w.heap.size) :
    ∃ A2 c2 w', (Builtin.append_ #[t, t] ty #[.slice A1 n c, .slice A m c']).run P w = .ok (.slice A2 (n + m) c2) w' ∧
      w'.ownsRow base e 1 (.slice A2 (n + m) c2) (n + m) ((xs ++ ys).map (Value.int .u8)) ∧ w.grownBy w' (Value.slice A1 n c).ownBlock := by
  rcases A with _ | a
  · have hm : m = 0 := by
      rcases Nat.eq_zero_or_pos m with h0 | h0
      · exact h0
      · obtain ⟨_, _, h, _⟩ := hR.cells 0 h0
        cases h
    subst hm
    obtain rfl : ys = [] := List.eq_nil_of_length_eq_zero hR.len
    refine ⟨A1, c, w, ?_, by simpa using hown, ⟨rfl, rfl, rfl, Nat.le_refl _, fun _ _ _ => rfl⟩⟩
    rcases hown.2 with ⟨h1, h2⟩ | ⟨g, cap, cur, h1, _, _, hnc, _⟩
    · injection h1 with e1 e2 e3
      subst e1 e2 e3
      simp [Builtin.append_, run_underlying ht, sizeOf, typeInfo, hi, Builtin.lenOf, Builtin.firstCells]
    · injection h1 with e1 e2 e3
      subst e1 e3
      simp [Builtin.append_, run_underlying ht, sizeOf, typeInfo, hi, Builtin.lenOf, Builtin.firstCells, hnc, storeCells]
  · have hnews : ∀ j u, (ys.map (Value.int .u8))[j]? = some u → w.cell? (a.add j) = some u := by
      intro j u hu
      rw [List.getElem?_map] at hu
      obtain ⟨y, hy, rfl⟩ := Option.map_eq_some_iff.1 hu
      obtain ⟨hj, _⟩ := List.getElem?_eq_some_iff.1 hy
      obtain ⟨b, off, he, _, hc⟩ := hR.cells j (by rw [← hR.len]; exact hj)
      injection he with he
      subst he
      rw [hy] at hc
      by_cases h0 : j = 0
      · subst h0; simpa [Addr.add] using hc
      · simpa [Addr.add, h0] using hc
    obtain ⟨v', w', hr, h2, h3, _⟩ := run_append_own (P := P) w base t ty e i (.int .u8 0) 1 1 ht hi hz hsize hby rfl (by decide) _ n _ hown a m c' (ys.map (Value.int .u8)) (by simp [hR.len]) hnews (by simp [Value.oneCell']) (by unfold maxLen; omega) (by omega) hbase
    obtain ⟨A2, c2, rfl⟩ := ownsRow_shape h2
    exact ⟨A2, c2, w', hr, by simpa using h2, h3⟩

/-! ### slices.Grow on the nil slice -/
set_option maxHeartbeats 1000000 in
theorem grow_pos {n : Nat} {w : World} (h0 : 0 < n) (hn : n ≤ 70368744177664) :
    Calls Try.prog 43 #[.slice none 0 0, .int .i64 n] w fun e w' => e = .returned (.slice (some ⟨w.heap.size, 0, none⟩) 0 (grownCap w n 0 5)) ∧
      w' = w.drew.alloc (.cells (Builtin.zeroCells (Value.int .u8 0).cells n ++ Builtin.zeroCells (Value.int .u8 0).cells (grownCap w n 0 5 - n)) 5) := by
  obtain ⟨i0, hi, hz0, hz1, hz2⟩ := info_parts Try.info_u8
  have hrun : ∀ ty, (Builtin.append_ #[22, 3] ty #[.slice none 0 0, .int .i64 n]).run Try.prog w = .ok (.slice (some ⟨w.heap.size, 0, none⟩) n (grownCap w n 0 5)) (w.drew.alloc (.cells (Builtin.zeroCells (Value.int .u8 0).cells n ++ Builtin.zeroCells (Value.int .u8 0).cells (grownCap w n 0 5 - n)) 5)) := fun ty => by
    have h := Lib.run_append_grow_zeros (P := Try.prog) w 22 3 ty 5 i0 (.int .u8 0) .i64 .i64 Try.underlying22 Try.underlying3 hi hz0 none 0 0 [] (by rw [hz1]; exact run_firstCells_none w.drew 1 0 0 0) n h0 (by omega) (by omega) (by omega) (by rw [hz2]; omega) (by rw [hz2]; exact growslice_fits (by omega) (by omega))
    simpa using h
  have hG : n ≤ grownCap w n 0 5 := grownCap_ge w _ _ _
  have hG63 : grownCap w n 0 5 ≤ 9223372036854775807 := by
    have := grownCap_le_maxLen w n 0 5 (by unfold maxLen; omega)
    unfold maxLen at this
    omega
  generalize grownCap w n 0 5 = G at *
  go_enter Try.func43, Try.ntmps43
  go_wp2_with (at_builtin; refine Lib.wpList_append_run _ rfl _ _ _ _ rfl _ _ rfl rfl _ _ (hrun _) ?_)
  go_ret
  exact ⟨rfl, rfl⟩
theorem grow_any {n : Nat} {w : World} (hn : n ≤ 70368744177664) :
    Calls Try.prog 43 #[.slice none 0 0, .int .i64 n] w fun e w' => ∃ A c, e = .returned (.slice A 0 c) ∧
      w'.ownsRow w.heap.size 5 1 (.slice A 0 c) 0 (([] : List Int).map (Value.int .u8)) ∧ Below w.heap.size w w' := by
  rcases Nat.eq_zero_or_pos n with h0 | h0
  · subst h0
    go_enter Try.func43, Try.ntmps43
    go_wp2
    go_ret
    exact ⟨none, 0, rfl, World.ownsRow_nil _ _ _ _, Below.refl _ _⟩
  · refine (grow_pos h0 hn).mono ?_
    rintro e w' ⟨rfl, rfl⟩
    have hG : n ≤ grownCap w n 0 5 := grownCap_ge w _ _ _
    have hG63 := grownCap_le_maxLen w n 0 5 (by unfold maxLen; omega)
    refine ⟨_, _, rfl, ?_, (Below.refl _ w).drew.alloc (Nat.le_refl _) _⟩
    exact World.ownsRow_made (w := w.drew) _ _ (Nat.le_refl _) hG63 (by simp [Builtin.zeroCells, Value.cells]; omega)
/-! ### slices.Concat -/
def joined (rows : List BRow) : List Int := rows.flatMap (·.xs)
theorem joined_succ {rows : List BRow} {k : Nat} {r : BRow} (hr : rows[k]? = some r) : joined (rows.take (k + 1)) = joined (rows.take k) ++ r.xs := by
  obtain ⟨hk, rfl⟩ := List.getElem?_eq_some_iff.1 hr
  unfold joined
  rw [List.take_succ_eq_append_getElem hk, List.flatMap_append]
  simp
theorem joined_le (rows : List BRow) (k : Nat) : (joined (rows.take k)).length ≤ (joined rows).length := by
  have e := List.take_append_drop k rows
  have h : joined rows = joined (rows.take k) ++ joined (rows.drop k) := by
    unfold joined
    rw [← List.flatMap_append, e]
  rw [h, List.length_append]
  omega

set_option maxHeartbeats 1000000 in
theorem slicesConcat_any {A : Option Addr} {n c B : Nat} {rows : List BRow} {w : World} (hI : Rds w B A n rows) (hB : B ≤ w.heap.size) (hn : n ≤ 140737488351232) (hT : (joined rows).length ≤ 1099511627776) :
    Calls Try.prog 40 #[.slice A n c] w fun e w' => ∃ A2 c2, e = .returned (.slice A2 (joined rows).length c2) ∧
      w'.ownsRow w.heap.size 5 1 (.slice A2 (joined rows).length c2) (joined rows).length ((joined rows).map (Value.int .u8)) ∧ Below w.heap.size w w' := by
  obtain ⟨i0, hi, hz0, hz1, hz2⟩ := info_parts Try.info_u8
  have hL := Lib.hid hI.len
  go_enter Try.func40, Try.ntmps40
  go_wp2_with fail
  go_loop [3, 11] (fun s i => ∃ k : Nat, k ≤ n ∧ i = .int .i64 k ∧ s = .int .i64 ((joined (rows.take k)).length : Nat)) (fun _ i => n - (intOf i).toNat)
  case atStart => exact ⟨0, Nat.zero_le _, rfl, rfl⟩
  case round =>
    obtain ⟨k, hk, rfl, rfl⟩ := hrel
    have hle := joined_le rows k
    by_cases hlt : k < n
    · obtain ⟨b, off, r, rfl, hb, hr, hcell, hRd⟩ := hI.cells k hlt
      have hS := Lib.hid (joined_succ hr)
      have hrl := Lib.hid hRd.len
      have hle2 := joined_le rows (k + 1)
      rw [hS.out, List.length_append, hrl.out] at hle2
      go_wp2_with fail
      go_round
      case rel => exact ⟨k + 1, by omega, by go_num, by rw [hS.out, List.length_append, hrl.out]; go_num⟩
      case measure => simp [intOf]; omega
    · obtain rfl : k = n := by omega
      rw [List.take_of_length_le (by rw [hL.out]; exact Nat.le_refl _)]
      go_wp2_with fail
      refine (grow_any (by omega)).mono ?_
      rintro e w1 ⟨A1, c1, rfl, hown1, hb1⟩
      have hO1 := Lib.hid hown1; clear hown1
      go_wp2_with fail
      go_loopw [6, 27] (fun p i wr => ∃ (j : Nat) (A1 : Option Addr) (c1 : Nat), j ≤ k ∧ i = .int .i64 j ∧ p = .slice A1 (joined (rows.take j)).length c1 ∧ wr.ownsRow w.heap.size 5 1 (.slice A1 (joined (rows.take j)).length c1) (joined (rows.take j)).length ((joined (rows.take j)).map (Value.int .u8)) ∧ Below w.heap.size w wr)
        (fun _ i _ => k - (intOf i).toNat)
      case atStart => exact ⟨0, A1, c1, Nat.zero_le _, rfl, rfl, hO1.out, hb1⟩
      case round =>
        obtain ⟨j, A2, c2, hj, rfl, rfl, hown, hB1⟩ := hrel
        by_cases hjt : j < k
        · obtain ⟨b, off, r, rfl, hb, hr, hcell, hRd⟩ := (hI.keep (fun p hp => hB1.cell (Nat.lt_of_lt_of_le hp hB))).cells j hjt
          have hle2 := joined_le rows (j + 1)
          rw [joined_succ hr, List.length_append, hRd.len] at hle2
          obtain ⟨A3, c3, w3, hrun, hown3, hgrow3⟩ := run_append_rd (P := Try.prog) (t := 22) (ty := 22) (c' := r.c) Try.underlying22 hi hz0 hz1 hz2 hown hRd (by omega) hB1.size
          have hB3 : Below w.heap.size w w3 := hB1.grown hgrow3 hB1.size (fun g hg => (hown.lt g hg).1)
          have hJl : (joined (rows.take (j + 1))).length = (joined (rows.take j)).length + r.n := by rw [joined_succ hr, List.length_append, hRd.len]
          rw [← joined_succ hr, ← hJl] at hown3
          rw [← hJl] at hrun
          have hO3 := Lib.hid hown3
          have hRun := Lib.hid hrun
          clear hown hown3 hrun hJl hr
          go_wp2_with (at_builtin; refine Lib.wpList_append_run _ rfl _ _ _ _ rfl _ _ rfl rfl _ _ hRun.out ?_)
          go_roundw
          case rel => exact ⟨j + 1, A3, c3, by omega, by go_num, rfl, hO3.out, hB3⟩
          case measure => simp [intOf]; omega
        · obtain rfl : j = k := by omega
          rw [List.take_of_length_le (by rw [hL.out]; exact Nat.le_refl _)] at hown ⊢
          have hO := Lib.hid hown; clear hown
          go_wp2_with fail
          go_ret
          exact ⟨A2, c2, rfl, hO.out, hB1⟩

/-! ### Concat -/
theorem concat_any {A : Option Addr} {n c B : Nat} {rows : List BRow} {w : World} (hI : Rds w B A n rows) (hB : B ≤ w.heap.size) (hn : n ≤ 140737488351232) (hT : (joined rows).length ≤ 1099511627776) (hbd : ∀ r ∈ rows, r.n ≤ 140737488351232) :
    Calls Try.prog 28 #[.slice A n c] w (RetBytes 5 w (if (rows.all fun r => validB r.xs) then (joined rows, 0) else ([], 3))) := by
  have hV : Hid (Calls Try.prog 32 #[.slice A n c] w fun e W' => e = .returned (.bool (rows.all fun r => validB r.xs)) ∧ Below w.heap.size w W') := Lib.hid (callsIn_wide.1 (valid_in 6 (by omega) A n c rows hn w (hI.more hB) hbd))
  by_cases hv : (rows.all fun r => validB r.xs) = true
  · rw [if_pos hv]
    have hv' := Lib.hid hv; clear hv
    go_enter Try.func28, Try.ntmps28
    go_wp2_with fail
    refine hV.out.mono ?_
    rintro e w1 ⟨rfl, hb1⟩
    rw [hv'.out]
    go_wp2_with fail
    refine (slicesConcat_any (hI.keep (fun p hp => hb1.cell (Nat.lt_of_lt_of_le hp hB))) (Nat.le_trans hB hb1.size) hn hT).mono ?_
    rintro e w2 ⟨A2, c2, rfl, hown, hb2⟩
    have hO := Lib.hid hown; clear hown
    go_wp2_with fail
    go_ret2
    exact ⟨A2, c2, rfl, hO.out.mono hb1.size, below_next0 hb1 hb2⟩
  · have hv0 : (rows.all fun r => validB r.xs) = false := by simpa using hv
    rw [if_neg hv]
    have hv' := Lib.hid hv0; clear hv hv0
    go_enter Try.func28, Try.ntmps28
    go_wp2_with fail
    refine hV.out.mono ?_
    rintro e w1 ⟨rfl, hb1⟩
    rw [hv'.out]
    go_wp2_with fail
    go_ret2
    exact RetBytes.nil_ hb1
end Go.Proofs.Ytdjnmebgiabecaa
