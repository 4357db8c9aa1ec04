/-
  The reference's Known, Same. The law's num, repeat, values.
-/
import Derived.Test.YtoegamlpgenfcaaDoorRa
import Derived.Test.YtoegamlpgenfcaaDoorCp
import Derived.WalkSpells
namespace Go.Proofs.YtoegamlpgenfcaaDoor
/-! ### The reference's Known, Same. -/
section
open Go.RowKit Go.Shelf

theorem knoN_succ (V : List Int) (j : Nat) : knoN V (j + 1) = knoN V j + if V[j]?.getD 0 = 0 then 0 else 1 := by
  unfold knoN
  rw [List.range_succ, List.countP_append, List.countP_cons, List.countP_nil, Nat.zero_add]
  by_cases h : V[j]?.getD 0 = 0
  · rw [if_neg (by simpa using h), if_pos h]
  · rw [if_pos (by simpa using h), if_neg h]
theorem knoN_le (V : List Int) (j : Nat) : knoN V j ≤ j := by have := knoN_unk V j; omega
set_option maxRecDepth 100000 in
set_option maxHeartbeats 4000000 in
theorem refKnown_any {w : World} {N c : Nat} {s : St} {A : Option Addr} (h : RefAt w s A N c) :
    Calls Tryd.prog 35 #[refV s A N c] w fun e w' => e = .returned (.int .i64 ((knoN s.V N : Nat) : Int)) ∧ Below w.heap.size w w' := by
  obtain ⟨w1, hw1⟩ : ∃ W, W = w.alloc (.cells (bufC s.k s.f s.l s.n A N c) 30) := ⟨_, rfl⟩
  have b1 : Below w.heap.size w w1 := by rw [hw1]; exact (Below.refl _ w).alloc (Nat.le_refl _) _
  have hX : w1.heap[w.heap.size]? = some (.cells (bufC s.k s.f s.l s.n A N c) 30) := by rw [hw1]; exact World.alloc_heap_new _ _
  have x3 := bufC.c3 hX
  have HR := Lib.hid (h.rd.below b1)
  have HB := Lib.hid b1
  have hN1 : (N : Int) ≤ 18444 := by have := h.len; have := h.ok.k1; omega
  have HW := Lib.hid hw1
  clear b1 hX h hw1
  unfold refV bufC
  go_enter Tryd.func35, Tryd.ntmps35
  go_upto_region 1 with fail
  have hw1 := HW.out
  unfold bufC at hw1
  rw [← hw1]
  clear hw1 HW
  go_wp2_with fail
  go_loopw [3, 4] (fun kn i wr => ∃ j u : Nat, j ≤ N ∧ u ≤ j ∧ i = .int .i64 (j : Int) ∧ kn = .int .i64 (u : Int) ∧ Hid (u = knoN s.V j) ∧ wr = w1) (fun _ i _ => N - (intOf i).toNat)
  case atStart => exact ⟨0, 0, Nat.zero_le _, Nat.zero_le _, rfl, rfl, Lib.hid rfl, rfl⟩
  case round =>
    obtain ⟨j, u, hj, hu, rfl, rfl, huv, rfl⟩ := hrel
    by_cases hlt : j < N
    · have hz : (j : Int) < (N : Int) := by omega
      have hz0 : (0 : Int) ≤ (j : Int) := by omega
      obtain ⟨b, off, rfl, hbl, hc⟩ := HR.out.cells j hlt
      have hs := knoN_succ s.V j
      rw [← huv.out] at hs
      generalize s.V[j]?.getD 0 = x at *
      clear hbl
      by_cases hx : x = 0
      · subst hx
        rw [if_pos rfl, Nat.add_zero] at hs
        have hs2 := Lib.hid hs.symm
        clear hs huv
        go_wp2_with fail
        go_roundw
        case rel => exact ⟨j + 1, u, by omega, by omega, by go_num, rfl, hs2, trivial⟩
        case measure => simp [intOf]; omega
      · rw [if_neg hx] at hs
        have hd : (x != 0) = true := by simpa using hx
        have hs2 := Lib.hid hs.symm
        clear hs huv hx
        go_wp2_with fail
        go_roundw
        case rel => exact ⟨j + 1, u + 1, by omega, by omega, by go_num, by go_num, hs2, trivial⟩
        case measure => simp [intOf]; omega
    · obtain rfl : j = N := by omega
      clear hlt
      go_wp2_with fail
      go_ret
      exact ⟨ret_int (by rw [huv.out]), HB.out⟩
set_option maxRecDepth 100000 in
set_option maxHeartbeats 4000000 in
theorem refSame_any {w : World} {N c N2 c2 : Nat} {s t : St} {A A2 : Option Addr} (h : RefAt w s A N c) (h2 : RefAt w t A2 N2 c2) :
    Calls Tryd.prog 17 #[refV s A N c, refV t A2 N2 c2] w fun e w' => e = .returned (.bool (sameSt s t)) ∧ Below w.heap.size w w' := by
  obtain ⟨w1, hw1⟩ : ∃ W, W = (w.alloc (.cells (bufC s.k s.f s.l s.n A N c) 30)).alloc (.cells (bufC t.k t.f t.l t.n A2 N2 c2) 30) := ⟨_, rfl⟩
  have b1 : Below w.heap.size w w1 := by rw [hw1]; exact ((Below.refl _ w).alloc (Nat.le_refl _) _).alloc (by simp) _
  have hX : w1.heap[w.heap.size]? = some (.cells (bufC s.k s.f s.l s.n A N c) 30) := by rw [hw1]; exact (Below.heap_alloc _ _ _ (by simp)).trans (World.alloc_heap_new _ _)
  have hY : w1.heap[w.heap.size + 1]? = some (.cells (bufC t.k t.f t.l t.n A2 N2 c2) 30) := by
    have := World.alloc_heap_new (w.alloc (.cells (bufC s.k s.f s.l s.n A N c) 30)) (.cells (bufC t.k t.f t.l t.n A2 N2 c2) 30)
    rw [World.size_alloc, ← hw1] at this
    exact this
  have x0 := bufC.c0 hX
  have x1 := bufC.c1 hX
  have x2 := bufC.c2 hX
  have x3 := bufC.c3 hX
  have x4 := bufC.c4 hX
  have y0 := bufC.c0 hY
  have y1 := bufC.c1 hY
  have y2 := bufC.c2 hY
  have y3 := bufC.c3 hY
  have y4 := bufC.c4 hY
  have hE := Lib.hid (refEqual_any (c := c) (c' := c2) (h.rd.below b1) (h2.rd.below b1) (by have := h.len; have := h.ok.k1; omega) (by have := h2.len; have := h2.ok.k1; omega))
  have q0 : ((s.k : Int) == (t.k : Int)) = decide (s.k = t.k) := by
    by_cases e1 : s.k = t.k
    · simp [e1]
    · simp [e1]; omega
  have q1 : ((s.f : Int) == (t.f : Int)) = decide (s.f = t.f) := by
    by_cases e1 : s.f = t.f
    · simp [e1]
    · simp [e1]; omega
  have q2 : ((s.l : Int) == (t.l : Int)) = decide (s.l = t.l) := by
    by_cases e1 : s.l = t.l
    · simp [e1]
    · simp [e1]; omega
  have q4 : ((s.n : Int) == (t.n : Int)) = decide (s.n = t.n) := by
    by_cases e1 : s.n = t.n
    · simp [e1]
    · simp [e1]; omega
  have HB := Lib.hid b1
  have HW := Lib.hid hw1
  unfold sameSt
  generalize decide (s.k = t.k) = b0 at *
  generalize decide (s.f = t.f) = b1 at *
  generalize decide (s.l = t.l) = b2 at *
  generalize decide (s.n = t.n) = b3 at *
  generalize decide (s.V = t.V) = b4 at *
  clear hX hY h h2 hw1
  unfold refV bufC
  go_enter Tryd.func17, Tryd.ntmps17
  go_upto_region 1 with fail
  have hw1 := HW.out
  unfold bufC at hw1
  rw [← hw1]
  clear hw1 HW
  cases b0
  case' true => cases b1
  case' true.true => cases b2
  case' true.true.true => cases b3
  all_goals
    go_wp2_with (first | (with_reducible refine hE.out.mono ?_; rintro e w2 ⟨rfl, i, rfl⟩) | fail)
    go_ret
    first
    | exact ⟨rfl, HB.out⟩
    | exact ⟨rfl, below_drewN HB.out _⟩
end

/-! ### The law's num, repeat, values. -/
section
open Go.RowKit Go.Shelf

theorem num12_any {e : Int} {w : World} : Calls Tryd.prog 12 #[.int .i64 e] w fun r w' => r = .returned (.int .i64 e) ∧ w' = w := by
  go_enter Tryd.func12, Tryd.ntmps12
  go_wp2
  go_ret
  exact ⟨rfl, rfl⟩
theorem u32_range (x : Int) : 0 ≤ IntKind.u32.wrap x ∧ IntKind.u32.wrap x < 4294967296 := by
  have h1 := Int.emod_nonneg x (show (4294967296 : Int) ≠ 0 by decide)
  have h2 := Int.emod_lt_of_pos x (show (0 : Int) < 4294967296 by decide)
  simp [IntKind.wrap, IntKind.signed, IntKind.bits]
  omega
set_option maxRecDepth 100000 in
set_option maxHeartbeats 4000000 in
theorem values_any {n seed : Int} {w : World} (hs0 : -9223372036854775808 ≤ seed) (hs1 : seed ≤ 9223372036854775807) : Calls Tryd.prog 32 #[.int .i64 n, .int .i64 seed] w fun e w' => ∃ xs : List Int, xs.length ≤ 3000 ∧ RetI w xs e w' := by
  obtain ⟨q, hq⟩ : ∃ q, (if n < 3000 then n else 3000) = q := ⟨_, rfl⟩
  obtain ⟨m, hm⟩ : ∃ m : Nat, (if 0 < q then q else 0) = (m : Int) := by
    by_cases h : 0 < q
    · exact ⟨q.toNat, by rw [if_pos h]; omega⟩
    · exact ⟨0, by rw [if_neg h]; rfl⟩
  have hm1 : m ≤ 3000 := by split at hm <;> split at hq <;> omega
  have hmk := fun u => make_ints m (by omega) u
  have hO0 := own_zeros_q (q := .i64) (T := 3) (w := w) (B := w.heap.size) (n := m) (Nat.le_refl _) (by omega)
  have hb0 := (Below.refl w.heap.size w).alloc (Nat.le_refl _) (.cells (madeCells #[.int .i64 0] m) 3)
  have HO := Lib.hid hO0
  have HB := Lib.hid hb0
  clear hO0 hb0
  go_enter Tryd.func32, Tryd.ntmps32
  go_wp2_with fail
  have hz3 : (m : Int) ≤ 3000 := by omega
  clear hq hm hmk
  obtain ⟨v0, hv0, hv00, hv01⟩ : ∃ v0, seed % 4294967296 = v0 ∧ 0 ≤ v0 ∧ v0 < 4294967296 := ⟨_, rfl, by omega, by omega⟩
  go_loopw [6, 7] (fun x i wr => ∃ (v : Int) (j : Nat) (xs : List Int), 0 ≤ v ∧ v < 4294967296 ∧ x = .int .u32 v ∧ j ≤ m ∧ i = .int .i64 (j : Int) ∧ Hid (xs.length = m) ∧ Hid (wr.ownsRow w.heap.size 3 1 (.slice (some ⟨w.heap.size, 0, none⟩) m m) m (xs.map (Value.int .i64))) ∧ Hid (Below w.heap.size w wr)) (fun _ i _ => m - (intOf i).toNat)
  case atStart => exact ⟨v0, 0, _, hv00, hv01, by first | rfl | rw [hv0], Nat.zero_le _, rfl, Lib.hid (by simp), HO, HB⟩
  case round =>
    obtain ⟨v, j, xs, hva, hvb, rfl, hj, rfl, hl, hO, hb⟩ := hrel
    by_cases hlt : j < m
    · have hz : (j : Int) < (m : Int) := by omega
      have hz0 : (0 : Int) ≤ (j : Int) := by omega
      obtain ⟨v1, hv1, hv10, hv11⟩ : ∃ v1, IntKind.u32.wrap (v * 1664525) = v1 ∧ 0 ≤ v1 ∧ v1 < 4294967296 := ⟨_, rfl, u32_range _⟩
      obtain ⟨v2, hv2, hv20, hv21⟩ : ∃ v2, IntKind.u32.wrap (v1 + 1013904223) = v2 ∧ 0 ≤ v2 ∧ v2 < 4294967296 := ⟨_, rfl, u32_range _⟩
      have hfz := World.ownsRow.frozenAt hO.out j
      obtain ⟨o1, o2, y, o3⟩ := own_put hO.out (x := v2 / 16777216 - 127) rfl (by rw [hl.out]; exact hlt)
      obtain ⟨p1, p2, y2, p3⟩ := own_put o1 (p := j) (x := 0) rfl (by rw [List.length_set, hl.out]; exact hlt)
      have O1 := Lib.hid o1
      have P1 := Lib.hid p1
      have cj : (wr.setCell ⟨w.heap.size, j, none⟩ (.int .i64 (v2 / 16777216 - 127))).cell? ⟨w.heap.size, j, none⟩ = some (.int .i64 (v2 / 16777216 - 127)) := by
        have hcx := World.ownsRow.cellAt o1 j (by omega)
        rw [List.getElem?_map, List.getElem?_set_self (by rw [hl.out]; exact hlt)] at hcx
        exact hcx
      clear hO o1 p1 p3
      by_cases hx : v2 / 16777216 - 127 = 128
      · have hd : (v2 / 16777216 - 127 == 128) = true := by simpa using hx
        clear hx
        go_wp2_with fail
        go_roundw
        case rel => exact ⟨v2, j + 1, _, hv20, hv21, rfl, by omega, by go_num, Lib.hid (by rw [List.length_set, List.length_set]; exact hl.out), P1, Lib.hid ((hb.out.setCell (p := ⟨w.heap.size, j, none⟩) (Nat.le_refl _) _).setCell (p := ⟨w.heap.size, j, none⟩) (Nat.le_refl _) _)⟩
        case measure => simp [intOf]; omega
      · have hd : (v2 / 16777216 - 127 == 128) = false := by simpa using hx
        clear hx
        go_wp2_with fail
        go_roundw
        case rel => exact ⟨v2, j + 1, _, hv20, hv21, rfl, by omega, by go_num, Lib.hid (by rw [List.length_set]; exact hl.out), O1, Lib.hid (hb.out.setCell (p := ⟨w.heap.size, j, none⟩) (Nat.le_refl _) _)⟩
        case measure => simp [intOf]; omega
    · obtain rfl : j = m := by omega
      clear hlt
      by_cases hs : seed < 0 ∧ 0 < j
      · obtain ⟨q2, hq2⟩ : ∃ q2, j / 2 = q2 := ⟨_, rfl⟩
        have e2 : (j : Int) / 2 = (q2 : Int) := by omega
        have hq3 : (q2 : Int) < (j : Int) := by omega
        have hq4 : (0 : Int) ≤ (q2 : Int) := by omega
        have hj0 : (0 : Int) < (j : Int) := by omega
        have hse := hs.1
        obtain ⟨o1, o2, y, o3⟩ := own_put hO.out (p := q2) (x := 128) rfl (by rw [hl.out]; omega)
        have O1 := Lib.hid o1
        clear o1 hO hs
        go_wp2_with fail
        go_ret
        exact ⟨_, by rw [List.length_set, hl.out]; exact hm1, RetI.mk_ (by rw [List.length_set, hl.out]) O1.out (Nat.le_refl _) (hb.out.setCell (p := ⟨w.heap.size, q2, none⟩) (Nat.le_refl _) _) rfl⟩
      · by_cases hse : seed < 0
        · obtain rfl : j = 0 := by omega
          go_wp2_with fail
          go_ret
          exact ⟨xs, by rw [hl.out]; exact hm1, RetI.mk_ hl.out hO.out (Nat.le_refl _) hb.out rfl⟩
        · go_wp2_with fail
          go_ret
          exact ⟨xs, by rw [hl.out]; exact hm1, RetI.mk_ hl.out hO.out (Nat.le_refl _) hb.out rfl⟩
set_option maxRecDepth 100000 in
set_option maxHeartbeats 2000000 in
theorem repeat_any {v : Int} {n : Nat} {w : World} (hn : n ≤ 100000) : Calls Tryd.prog 29 #[.int .i64 v, .int .i64 (n : Int)] w (RetI w (List.replicate n v)) := by
  have hmk := fun u => make_ints n (by omega) u
  have hO0 := own_zeros_q (q := .i64) (T := 3) (w := w) (B := w.heap.size) (n := n) (Nat.le_refl _) (by omega)
  have hb0 := (Below.refl w.heap.size w).alloc (Nat.le_refl _) (.cells (madeCells #[.int .i64 0] n) 3)
  have HO := Lib.hid (show (w.alloc (.cells (madeCells #[.int .i64 0] n) 3)).ownsRow w.heap.size 3 1 (.slice (some ⟨w.heap.size, 0, none⟩) n n) n ((newL (fun _ => v) n 0).map (Value.int .i64)) by rw [newL_zero]; exact hO0)
  have HB := Lib.hid hb0
  have hz3 : (n : Int) ≤ 100000 := by omega
  clear hO0 hb0
  go_enter Tryd.func29, Tryd.ntmps29
  go_wp2_with fail
  go_loopw [6] (fun i wr => ∃ j : Nat, j ≤ n ∧ i = .int .i64 (j : Int) ∧ Hid (wr.ownsRow w.heap.size 3 1 (.slice (some ⟨w.heap.size, 0, none⟩) n n) n ((newL (fun _ => v) n j).map (Value.int .i64))) ∧ Hid (Below w.heap.size w wr)) (fun i _ => n - (intOf i).toNat)
  case atStart => exact ⟨0, Nat.zero_le _, rfl, HO, HB⟩
  case round =>
    obtain ⟨j, hj, rfl, hO, hb⟩ := hrel
    by_cases hlt : j < n
    · have hz : (j : Int) < (n : Int) := by omega
      have hz0 : (0 : Int) ≤ (j : Int) := by omega
      obtain ⟨o1, o2, y, o3⟩ := own_put hO.out (newL_set (f := fun _ => v) hlt) (by unfold newL; simp; omega)
      have O1 := Lib.hid o1
      clear hO o1 hmk
      go_wp2_with fail
      go_roundw
      case rel => exact ⟨j + 1, by omega, by go_num, O1, Lib.hid (hb.out.setCell (p := ⟨w.heap.size, j, none⟩) (Nat.le_refl _) _)⟩
      case measure => simp [intOf]; omega
    · obtain rfl : j = n := by omega
      clear hlt hmk
      go_wp2_with fail
      go_ret
      have h := hO.out
      rw [newL_all, List.map_const', List.length_range] at h
      exact RetI.mk_ (by simp) h (Nat.le_refl _) hb.out rfl
end
end Go.Proofs.YtoegamlpgenfcaaDoor
