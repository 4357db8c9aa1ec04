/-
  Len, Compute, Attach: what they return; what was there stays.
-/
import Derived.Test.YtkdodmjhpkfhnaaDoorK6
import Derived.Test.YtkdodmjhpkfhnaaDoorZ1
namespace Go.Proofs.YtkdodmjhpkfhnaaDoor
open Go.RowKit

theorem field_len (x y : Int) (w : World) : (Instr.field 95 (.agg #[.int .i64 x, .int .u32 y]) 0).run Tryd.prog w = .ok (.int .i64 x) w := by
  simp [Instr.field, run_underlying Tryd.underlying95, asAgg, go_sem]
theorem len_any {k : Int} {w : World} (hK : Kinds w) :
    Calls Tryd.prog 53 #[.int .i64 k] w fun e w' => e = .returned (.int .i64 ((genN k).2 : Nat)) ∧ Below w.heap.size w w' := by
  have hf := Lib.hid (find_any (k := k) hK)
  go_enter Tryd.func53, Tryd.ntmps53
  go_wp2_with fail
  refine hf.out.mono ?_
  rintro e w1 ⟨rfl, hb⟩
  unfold kindV
  have hfl := field_len ((genN k).2 : Nat) ((genN k).1 : Nat)
  go_wp2_with fail
  go_ret
  exact ⟨rfl, hb⟩
theorem own_cut0 {w : World} {base n c : Nat} {A : Option Addr} {t : TypeId} {xs : List Value} (h : w.ownsRow base t 1 (.slice A n c) n xs) : w.ownsRow base t 1 (.slice A 0 c) 0 (([] : List Int).map (Value.int .u8)) := by
  rcases h.2 with ⟨h1, h2⟩ | ⟨g, cap, cur, h1, hbg, hg, hnc, hcm, hcs, _⟩
  · injection h1 with e1 _ e3
    subst e1 e3
    exact World.ownsRow_nil _ _ _ _
  · injection h1 with e1 _ e3
    subst e1 e3
    exact ⟨by simp, .inr ⟨g, c, cur, rfl, hbg, hg, Nat.zero_le _, hcm, hcs, by simp⟩⟩
/-- slices.Grow on the nil slice. -/
theorem grow_any {n : Nat} {w : World} (hn : n ≤ 1000000) :
    Calls Tryd.prog 61 #[.slice none 0 0, .int .i64 n] w fun e w' => ∃ A c, e = .returned (.slice A 0 c) ∧
      w'.ownsRow w.heap.size 5 1 (.slice A 0 c) 0 (([] : List Int).map (Value.int .u8)) ∧ Below w.heap.size w w' := by
  rcases Nat.eq_zero_or_pos n with h0 | h0
  · subst h0
    go_enter Tryd.func61, Tryd.ntmps61
    go_wp2
    go_ret
    exact ⟨none, 0, rfl, World.ownsRow_nil _ _ _ _, Below.refl _ _⟩
  · obtain ⟨A2, c2, w2, hr, ho, hb⟩ := append_zeros_own (w := w) (base := w.heap.size) (A := none) (n := 0) (c := 0) (xs := []) (k := n) (by simpa using World.ownsRow_nil w w.heap.size 5 1) h0 hn (by omega) (Nat.le_refl _)
    have hb2 := hb w.heap.size w (Below.refl _ _) (Nat.le_refl _) (Nat.le_refl _)
    have hc := own_cap' ho
    have hrun : ∀ ty, (Builtin.append_ #[46, 3] ty #[.slice none 0 0, .int .i64 n]).run Tryd.prog w = .ok (.slice A2 (0 + n) c2) w2 := fun ty => hr
    have HR := Lib.hid hrun; have HO := Lib.hid ho
    rw [Nat.zero_add] at HR hc
    clear hr ho hb hrun
    go_enter Tryd.func61, Tryd.ntmps61
    go_wp2_with (at_builtin; refine Lib.wpList_append_run _ rfl _ _ _ _ rfl _ _ rfl rfl _ _ (HR.out _) ?_)
    go_ret
    refine ⟨A2, c2, rfl, ?_, hb2⟩
    have ho := HO.out
    rw [Nat.zero_add] at ho
    exact own_cut0 ho
/-! ### slices.Concat -/
def joined (rows : List BRow) : List Int := rows.flatMap (·.xs)
theorem joined_succ {rows : List BRow} {k : Nat} {r : BRow} (hr : rows[k]? = some r) : joined (rows.take (k + 1)) = joined (rows.take k) ++ r.xs := by
  obtain ⟨hk, rfl⟩ := List.getElem?_eq_some_iff.1 hr
  unfold joined
  rw [List.take_succ_eq_append_getElem hk, List.flatMap_append]
  simp
theorem joined_le (rows : List BRow) (k : Nat) : (joined (rows.take k)).length ≤ (joined rows).length := by
  have e := List.take_append_drop k rows
  have h : joined rows = joined (rows.take k) ++ joined (rows.drop k) := by
    unfold joined
    rw [← List.flatMap_append, e]
  rw [h, List.length_append]
  omega

set_option maxRecDepth 100000 in
set_option maxHeartbeats 1000000 in
theorem slicesConcat_any {A : Option Addr} {n c B : Nat} {rows : List BRow} {w : World} (hI : Rds w B A n rows) (hB : B ≤ w.heap.size) (hn : n ≤ 1000000) (hT : (joined rows).length ≤ 1000000) :
    Calls Tryd.prog 51 #[.slice A n c] w fun e w' => ∃ A2 c2, e = .returned (.slice A2 (joined rows).length c2) ∧
      w'.ownsRow w.heap.size 5 1 (.slice A2 (joined rows).length c2) (joined rows).length ((joined rows).map (Value.int .u8)) ∧ Below w.heap.size w w' := by
  obtain ⟨i0, hi, hz0, hz1, hz2⟩ := info_parts Tryd.info_u8
  have hL := Lib.hid hI.len
  go_enter Tryd.func51, Tryd.ntmps51
  go_wp2_with fail
  go_loop [3, 11] (fun s i => ∃ k : Nat, k ≤ n ∧ i = .int .i64 k ∧ s = .int .i64 ((joined (rows.take k)).length : Nat)) (fun _ i => n - (intOf i).toNat)
  case atStart => exact ⟨0, Nat.zero_le _, rfl, rfl⟩
  case round =>
    obtain ⟨k, hk, rfl, rfl⟩ := hrel
    have hle := joined_le rows k
    by_cases hlt : k < n
    · obtain ⟨b, off, r, rfl, hb, hr, hcell, hRd⟩ := hI.cells k hlt
      have hS := Lib.hid (joined_succ hr)
      have hrl := Lib.hid hRd.len
      have hle2 := joined_le rows (k + 1)
      rw [hS.out, List.length_append, hrl.out] at hle2
      go_wp2_with fail
      go_round
      case rel => exact ⟨k + 1, by omega, by go_num, by rw [hS.out, List.length_append, hrl.out]; go_num⟩
      case measure => simp [intOf]; omega
    · obtain rfl : k = n := by omega
      rw [List.take_of_length_le (by rw [hL.out]; exact Nat.le_refl _)]
      go_wp2_with fail
      refine (grow_any (by omega)).mono ?_
      rintro e w1 ⟨A1, c1, rfl, hown1, hb1⟩
      have hO1 := Lib.hid hown1; clear hown1
      go_wp2_with fail
      go_loopw [6, 27] (fun p i wr => ∃ (j : Nat) (A1 : Option Addr) (c1 : Nat), j ≤ k ∧ i = .int .i64 j ∧ p = .slice A1 (joined (rows.take j)).length c1 ∧ wr.ownsRow w.heap.size 5 1 (.slice A1 (joined (rows.take j)).length c1) (joined (rows.take j)).length ((joined (rows.take j)).map (Value.int .u8)) ∧ Below w.heap.size w wr)
        (fun _ i _ => k - (intOf i).toNat)
      case atStart => exact ⟨0, A1, c1, Nat.zero_le _, rfl, rfl, hO1.out, hb1⟩
      case round =>
        obtain ⟨j, A2, c2, hj, rfl, rfl, hown, hB1⟩ := hrel
        by_cases hjt : j < k
        · obtain ⟨b, off, r, rfl, hb, hr, hcell, hRd⟩ := (hI.keep (fun p hp => hB1.cell (Nat.lt_of_lt_of_le hp hB))).cells j hjt
          have hle2 := joined_le rows (j + 1)
          rw [joined_succ hr, List.length_append, hRd.len] at hle2
          obtain ⟨V3, w3, hrun, hown3, hgrow3, _⟩ := run_append_rd_at (P := Tryd.prog) (t := 46) (ty := 46) (c' := r.c) Tryd.underlying46 hi hz0 hz1 hz2 hown hRd (by omega) hB1.size
          obtain ⟨A3, c3, rfl⟩ := ownsRow_shape hown3
          have hB3 : Below w.heap.size w w3 := hB1.grown hgrow3 hB1.size (fun g hg => (hown.lt g hg).1)
          have hJl : (joined (rows.take (j + 1))).length = (joined (rows.take j)).length + r.n := by rw [joined_succ hr, List.length_append, hRd.len]
          rw [← joined_succ hr, ← hJl] at hown3
          rw [← hJl] at hrun
          have hO3 := Lib.hid hown3
          have hRun := Lib.hid hrun
          clear hown hown3 hrun hJl hr
          go_wp2_with (at_builtin; refine Lib.wpList_append_run _ rfl _ _ _ _ rfl _ _ rfl rfl _ _ hRun.out ?_)
          go_roundw
          case rel => exact ⟨j + 1, A3, c3, by omega, by go_num, rfl, hO3.out, hB3⟩
          case measure => simp [intOf]; omega
        · obtain rfl : j = k := by omega
          rw [List.take_of_length_le (by rw [hL.out]; exact Nat.le_refl _)] at hown ⊢
          have hO := Lib.hid hown; clear hown
          go_wp2_with fail
          go_ret
          exact ⟨A2, c2, rfl, hO.out, hB1⟩

end Go.Proofs.YtkdodmjhpkfhnaaDoor
