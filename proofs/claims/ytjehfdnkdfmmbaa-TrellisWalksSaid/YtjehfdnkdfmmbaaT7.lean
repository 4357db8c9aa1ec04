/-
  join.
-/
import Derived.Test.YtjehfdnkdfmmbaaApp
import Derived.Test.YtjehfdnkdfmmbaaT1
import Derived.Laws.CopyOwn
namespace Go.Proofs.Ytjehfdnkdfmmbaa
open Go.RowKit

theorem slice_three {g n lo hi : Nat} (h1 : lo ≤ hi) (h2 : hi ≤ n) (u : World) : (Instr.slice 36 (.slice (some ⟨g, 0, none⟩) n n) (some (.int .i64 (lo : Int))) (some (.int .i64 (hi : Int))) (some (.int .i64 (hi : Int)))).run Try.prog u = .ok (.slice (if hi = lo then some ⟨g, 0, none⟩ else some ⟨g, lo, none⟩) (hi - lo) (hi - lo)) u := by
  by_cases e : hi = lo
  · subst e
    simp [Instr.slice, Instr.sliceBounds, Instr.sliceBound, run_underlying Try.underlying36, asIntOf, go_sem, h2]
  · by_cases e0 : lo = 0
    · subst e0
      simp [Instr.slice, Instr.sliceBounds, Instr.sliceBound, run_underlying Try.underlying36, asIntOf, go_sem, h2, e, Addr.add]
    · simp [Instr.slice, Instr.sliceBounds, Instr.sliceBound, run_underlying Try.underlying36, asIntOf, go_sem, h1, h2, e, Addr.add, e0]
theorem Rd.src {w : World} {B n : Nat} {A : Option Addr} {xs : List Int} (h : Rd .u8 w B A n xs) (hp : 0 < n) : ∃ ad, A = some ad ∧ ∀ j v, (xs.map (Value.int .u8))[j]? = some v → w.cell? (ad.add j) = some v := by
  obtain ⟨b, off, rfl, _, _⟩ := h.cells 0 hp
  refine ⟨_, rfl, fun j v hv => ?_⟩
  rw [List.getElem?_map] at hv
  obtain ⟨y, hy, rfl⟩ := Option.map_eq_some_iff.1 hv
  obtain ⟨hj, _⟩ := List.getElem?_eq_some_iff.1 hy
  obtain ⟨b', off', he, _, hc⟩ := h.cells j (by rw [← h.len]; exact hj)
  injection he with he
  injection he with e1 e2
  subst e1 e2
  rw [hy] at hc
  by_cases h0 : j = 0
  · subst h0; simpa [Addr.add] using hc
  · simpa [Addr.add, h0] using hc
theorem one_u8 (xs : List Int) : ∀ v ∈ xs.map (Value.int .u8), v.oneCell' = true := by
  intro v hv
  obtain ⟨x, _, rfl⟩ := List.mem_map.1 hv
  rfl
theorem info_u8_size : (Try.prog.info? 5).map (·.size) = some 1 := by kernel_rfl
/-- copy into a row of the call's own. -/
theorem copy_run_at {W w0 : World} {D ra : Option Addr} {rn rc g off B : Nat} {cur : List Value} {xs : List Int} (hg : W.heap[g]? = some (.cells cur.toArray 5)) (hl : xs.length = rn) (hD : 0 < rn → D = some ⟨g, off, none⟩) (hR : Rd .u8 W B ra rn xs) (hfit : off + rn ≤ cur.length) {B0 : Nat} (hb : Below B0 w0 W) (hBg : B0 ≤ g) :
    ∃ w', (Builtin.copy_ #[36, 36] 3 #[.slice D rn rn, .slice ra rn rc]).run Try.prog W = .ok (goInt rn) w' ∧ w'.heap[g]? = some (.cells (splice cur off (xs.map (Value.int .u8))).toArray 5) ∧ Below B0 w0 w' := by
  have hc : (xs.map (Value.int .u8)).length = rn := by rw [List.length_map, hl]
  rcases Nat.eq_zero_or_pos rn with h0 | h0
  · subst h0
    obtain rfl : xs = [] := List.eq_nil_of_length_eq_zero hl
    exact ⟨W, run_copy_none W _ _ _ 5 _ _ _ _ _ _ Try.underlying36 info_u8_size rfl, by simpa [splice] using hg, hb⟩
  · obtain rfl := hD h0
    obtain ⟨ad, rfl, hsrc⟩ := hR.src h0
    have hrun := run_copy_row (P := Try.prog) W 36 36 3 5 g off rn rn ad rn rc cur.toArray 5 (xs.map (Value.int .u8)) Try.underlying36 info_u8_size hg (by rw [hc]; exact (Nat.min_self rn).symm) hsrc (by rw [hc]; simpa using hfit) (one_u8 xs)
    rw [hc] at hrun
    refine ⟨_, hrun, ?_, below_setRow hb hBg _⟩
    have := setRow_heap W g cur.toArray (cur.take off ++ (xs.map (Value.int .u8) ++ cur.drop (off + rn))).toArray 5 _ hg
    unfold splice
    rw [hc]
    simpa using this
/-- The length of the first k rows. -/
def offL (rows : List BRow) (k : Nat) : Nat := ((rows.take k).map fun r : BRow => r.n).sum
def joinL (rows : List BRow) : List Int := rows.flatMap fun r => r.xs
theorem offL_zero (rows : List BRow) : offL rows 0 = 0 := rfl
theorem offL_succ {rows : List BRow} {k : Nat} {r : BRow} (h : rows[k]? = some r) : offL rows (k + 1) = offL rows k + r.n := by
  obtain ⟨hk, rfl⟩ := List.getElem?_eq_some_iff.1 h
  unfold offL
  rw [List.take_succ_eq_append_getElem hk, List.map_append, List.sum_append]
  simp
theorem offL_mono (rows : List BRow) : ∀ {j k : Nat}, j ≤ k → offL rows j ≤ offL rows k := by
  intro j k h
  induction k with
  | zero => obtain rfl : j = 0 := by omega
            exact Nat.le_refl _
  | succ k ih =>
    rcases Nat.lt_or_ge j (k + 1) with h' | h'
    · have := ih (by omega)
      cases hr : rows[k]? with
      | some r => rw [offL_succ hr]; omega
      | none =>
        have hl : rows.length ≤ k := List.getElem?_eq_none_iff.1 hr
        have e : offL rows (k + 1) = offL rows k := by unfold offL; rw [List.take_of_length_le hl, List.take_of_length_le (by omega)]
        omega
    · obtain rfl : j = k + 1 := by omega
      exact Nat.le_refl _
/-- The word with the first k rows in it. -/
def fillW (rows : List BRow) (N k : Nat) : List Value := ((rows.take k).flatMap fun r : BRow => r.xs.map (Value.int .u8)) ++ List.replicate (N - offL rows k) (Value.int .u8 0)
theorem fillW_len {rows : List BRow} (hl : ∀ r ∈ rows, r.xs.length = r.n) (k : Nat) : ((rows.take k).flatMap fun r : BRow => r.xs.map (Value.int .u8)).length = offL rows k := by
  unfold offL
  induction k with
  | zero => rfl
  | succ k ih =>
    rcases Nat.lt_or_ge k rows.length with hk | hk
    · rw [List.take_succ_eq_append_getElem hk, List.flatMap_append, List.length_append, ih, List.map_append, List.sum_append]
      simp [hl rows[k] (List.getElem_mem hk)]
    · rw [List.take_of_length_le hk] at ih
      rw [List.take_of_length_le (by omega)]
      exact ih
theorem fillW_step {rows : List BRow} (hl : ∀ r ∈ rows, r.xs.length = r.n) {N k : Nat} {r : BRow} (hr : rows[k]? = some r) (hN : offL rows (k + 1) ≤ N) : splice (fillW rows N k) (offL rows k) (r.xs.map (Value.int .u8)) = fillW rows N (k + 1) := by
  obtain ⟨hk, rfl⟩ := List.getElem?_eq_some_iff.1 hr
  have e1 := fillW_len hl k
  have e3 := offL_succ hr
  have e4 : (rows[k].xs).length = rows[k].n := hl _ (List.getElem_mem hk)
  unfold splice fillW
  rw [List.take_succ_eq_append_getElem hk, List.flatMap_append, List.take_left' e1, List.drop_append, e1, List.length_map, e4, List.drop_of_length_le (by omega)]
  rw [show offL rows k + rows[k].n - offL rows k = rows[k].n by omega, List.drop_replicate]
  simp only [List.flatMap_cons, List.flatMap_nil, List.append_nil, List.nil_append, List.append_assoc]
  rw [show N - offL rows k - rows[k].n = N - offL rows (k + 1) by omega]
theorem fillW_full (rows : List BRow) : fillW rows (offL rows rows.length) rows.length = (joinL rows).map (Value.int .u8) := by
  unfold fillW joinL
  rw [Nat.sub_self, List.replicate_zero, List.append_nil, List.take_of_length_le (Nat.le_refl _), List.map_flatMap]
theorem joinL_length {rows : List BRow} (hl : ∀ r ∈ rows, r.xs.length = r.n) : (joinL rows).length = offL rows rows.length := by
  have := congrArg List.length (fillW_full rows)
  rw [List.length_map] at this
  rw [← this, fillW, Nat.sub_self, List.replicate_zero, List.append_nil, fillW_len hl]
theorem fillW_length {rows : List BRow} (hl : ∀ r ∈ rows, r.xs.length = r.n) {N k : Nat} (hN : offL rows k ≤ N) : (fillW rows N k).length = N := by
  unfold fillW
  rw [List.length_append, fillW_len hl, List.length_replicate]
  omega
theorem own_of_cells {w : World} {B g n : Nat} {xs : List Int} (hg : w.heap[g]? = some (.cells (xs.map (Value.int .u8)).toArray 5)) (hB : B ≤ g) (hl : xs.length = n) (hn : n ≤ 140737488351232) : w.ownsRow B 5 1 (.slice (some ⟨g, 0, none⟩) n n) n (xs.map (Value.int .u8)) := by
  refine ⟨by simp [hl], .inr ⟨g, n, (xs.map (Value.int .u8)).toArray, rfl, hB, hg, Nat.le_refl _, by unfold maxLen; omega, by simp [hl], ?_⟩⟩
  simp only [Nat.mul_one]
  exact List.take_of_length_le (by simp; omega)
set_option maxHeartbeats 4000000 in
theorem join_any {A : Option Addr} {n c : Nat} {rows : List BRow} {w : World} (hR : Rds w w.heap.size A n rows) (hn : n ≤ 1000) (hN : offL rows n ≤ 70368744175616) :
    Calls Try.prog 35 #[.slice A n c] w fun e w' => ∃ g, e = .returned (.slice (some ⟨g, 0, none⟩) (offL rows n) (offL rows n)) ∧ w'.ownsRow w.heap.size 5 1 (.slice (some ⟨g, 0, none⟩) (offL rows n) (offL rows n)) (offL rows n) ((joinL rows).map (Value.int .u8)) ∧ Below w.heap.size w w' := by
  have HR := Lib.hid hR
  have HL := Lib.hid hR.len
  have hmono := fun k (h : k ≤ n) => offL_mono rows h
  have HM := Lib.hid hmono
  have HX : Hid (∀ r ∈ rows, r.xs.length = r.n) := Lib.hid (fun r hr => by
    obtain ⟨k, hk, rfl⟩ := List.getElem_of_mem hr
    obtain ⟨b, off, r', _, _, hr', _, h⟩ := hR.cells k (by rw [← hR.len]; exact hk)
    rw [List.getElem?_eq_getElem hk] at hr'
    injection hr' with hr'
    rw [hr']
    exact h.len)
  clear hmono hR
  go_enter Try.func35, Try.ntmps35
  go_wp2_with fail
  go_loopw [3, 13] (fun s i wr => ∃ k : Nat, k ≤ n ∧ s = .int .i64 (offL rows k : Nat) ∧ i = .int .i64 (k : Int) ∧ wr = w) (fun _ i _ => n - (intOf i).toNat)
  case atStart => exact ⟨0, Nat.zero_le _, rfl, rfl, rfl⟩
  case round =>
    obtain ⟨k, hk, rfl, rfl, hw⟩ := hrel
    obtain rfl := hw.symm
    by_cases hlt : k < n
    · obtain ⟨b, off, r, rfl, hb, hr, hcell, hRr⟩ := HR.out.cells k hlt
      have hs := offL_succ hr
      have hm := HM.out (k + 1) hlt
      have HS := Lib.hid hs
      generalize ho1 : offL rows k = o1 at *
      generalize ho2 : offL rows (k + 1) = o2 at *
      have HO2 := Lib.hid ho2
      have hk0 : (0 : Int) ≤ (k : Int) := by omega
      have hk1 : (k : Int) < (n : Int) := by omega
      generalize r.a = ra at *
      generalize r.n = rn at *
      generalize r.c = rc at *
      clear ho1 ho2 hRr
      go_wp2_with fail
      go_roundw
      case rel => exact ⟨k + 1, by omega, by rw [HO2.out, HS.out]; go_num, by go_num, by first | rfl | trivial⟩
      case measure => simp [intOf]; omega
    · obtain rfl : k = n := by omega
      have hmk := make_bytes (offL rows k) (offL rows k) (Nat.le_refl _) (by omega)
      have hNN := Lib.hid hN
      have hZ : Hid ((w.alloc (.cells (madeCells #[.int .u8 0] (offL rows k)) 5)).heap[w.heap.size]? = some (.cells (fillW rows (offL rows k) 0).toArray 5) ∧ Below w.heap.size w (w.alloc (.cells (madeCells #[.int .u8 0] (offL rows k)) 5))) := Lib.hid ⟨by
        rw [World.alloc_heap_new]
        unfold fillW
        rw [List.take_zero, List.flatMap_nil, List.nil_append, offL_zero, Nat.sub_zero, ← toList_madeCells_one]
        , (Below.refl _ w).alloc (Nat.le_refl _) _⟩
      clear hlt hk
      generalize hNe : offL rows k = N at *
      have HNe := Lib.hid hNe
      clear hNe
      go_wp2_with fail
      generalize hW0 : w.alloc (.cells (madeCells #[.int .u8 0] N) 5) = W0 at *
      clear hW0
      go_loopw [7, 26] (fun e i W => ∃ j : Nat, j ≤ k ∧ e = .int .i64 (offL rows j : Nat) ∧ i = .int .i64 (j : Int) ∧ Hid (W.heap[w.heap.size]? = some (.cells (fillW rows N j).toArray 5) ∧ Below w.heap.size w W)) (fun _ i _ => k - (intOf i).toNat)
      case atStart => exact ⟨0, Nat.zero_le _, rfl, rfl, hZ⟩
      case round =>
        clear hZ
        obtain ⟨j, hj, rfl, rfl, hH⟩ := hrel
        by_cases hlt : j < k
        · obtain ⟨b, off, r, rfl, hb, hr, hcell, hRr⟩ := (HR.out.below hH.out.2).cells j hlt
          have hs := offL_succ hr
          have hm := HM.out (j + 1) hlt
          have HS := Lib.hid hs
          have hrl := HX.out r (List.mem_of_getElem? hr)
          have hfl := fillW_length HX.out (N := N) (k := j) (by rw [hs] at hm; omega)
          have hst := fillW_step HX.out (N := N) hr hm
          have FS := Lib.hid hst
          have FL := Lib.hid hfl
          have RR := Lib.hid (hRr.keep (fun _ _ => rfl) : Rd .u8 wr w.heap.size r.a r.n r.xs)
          have RL := Lib.hid hrl
          generalize ho1 : offL rows j = o1 at *
          generalize ho2 : offL rows (j + 1) = o2 at *
          have HO2 := Lib.hid ho2
          have hk0 : (0 : Int) ≤ (j : Int) := by omega
          have hk1 : (j : Int) < (k : Int) := by omega
          generalize r.a = ra at *
          generalize r.n = rn at *
          generalize r.c = rc at *
          generalize r.xs = rx at *
          have hsl := slice_three (g := w.heap.size) (n := N) (lo := o1) (hi := o2) (by omega) (by omega)
          obtain ⟨D, hD⟩ : ∃ D : Option Addr, (if o2 = o1 then some ⟨w.heap.size, 0, none⟩ else some ⟨w.heap.size, o1, none⟩) = D := ⟨_, rfl⟩
          have HD : Hid (0 < rn → D = some ⟨w.heap.size, o1, none⟩) := Lib.hid (fun h => by rw [← hD, if_neg (by omega)])
          rw [hD, show o2 - o1 = rn by omega] at hsl
          have ho : IntKind.i64.wrap ((o1 : Int) + (rn : Int)) = (o2 : Int) := by rw [IntWalk.i64_in _ (by omega)]; omega
          have HS2 : Hid (o1 + rn = o2) := Lib.hid hs.symm
          have hrN : Hid (o1 + rn ≤ N) := Lib.hid (by omega)
          clear ho1 ho2 hRr hst hfl hrl hD hs HS
          obtain ⟨w4, hrun, hG4, hB4⟩ := copy_run_at (D := D) (rc := rc) hH.out.1 RL.out HD.out RR.out (by rw [FL.out]; exact hrN.out) hH.out.2 (Nat.le_refl _)
          rw [FS.out] at hG4
          have H4 := Lib.hid (And.intro hG4 hB4)
          clear hG4 hB4 hH RR HR
          go_wp2_with fail
          go_roundw
          case rel => exact ⟨j + 1, by omega, by rw [HO2.out], by go_num, H4⟩
          case measure => simp [intOf]; omega
        · obtain rfl : j = k := by omega
          have hfin := hH.out.1
          rw [← HNe.out, ← HL.out, fillW_full] at hfin
          have hjl : (joinL rows).length = N := by rw [joinL_length HX.out, HL.out, HNe.out]
          have HO := Lib.hid (own_of_cells (B := w.heap.size) hfin (Nat.le_refl _) hjl (by omega))
          have HB := Lib.hid hH.out.2
          clear hfin hjl hH HR HL HX HM
          go_wp2_with fail
          go_ret
          exact ⟨w.heap.size, by rw [HNe.out]; rfl, by rw [HNe.out]; exact HO.out, HB.out⟩
end Go.Proofs.Ytjehfdnkdfmmbaa
