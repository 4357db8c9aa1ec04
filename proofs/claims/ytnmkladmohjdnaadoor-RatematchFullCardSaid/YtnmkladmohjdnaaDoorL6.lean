/-
  The walk of RatematchFull.
-/
import Derived.Test.YtnmkladmohjdnaaDoorL1
namespace Go.Proofs.YtnmkladmohjdnaaDoor
open Go.RowKit Go.Shelf

theorem Tryd.info_bool : (Tryd.prog.info? 4).map (fun i => (i.zero, i.size, i.bytes)) = some (some (.bool false), 1, 1) := by kernel_rfl
theorem make_bools (n : Nat) (hn : n ≤ 1000000) (u : World) : (Instr.makeSlice 39 (.int .i64 n) (.int .i64 n)).run Tryd.prog u =
    .ok (.slice (some ⟨u.heap.size, 0, none⟩) n n) (u.alloc (.cells (madeCells #[.bool false] n) 4)) := by
  obtain ⟨i0, hi, hz0, hz1, hz2⟩ := info_q Tryd.info_bool
  have h := run_make (P := Tryd.prog) u 39 4 i0 (.bool false) Tryd.underlying39 hi hz0 .i64 .i64 (n : Int) (n : Int) (by omega) (by omega) (by rw [hz2]; omega) (by omega)
  simpa [hz1, Value.cells] using h
theorem own_made {v : Value} {T : TypeId} {w : World} {B n : Nat} (hB : B ≤ w.heap.size) (hn : n ≤ 1000000) : (w.alloc (.cells (madeCells #[v] n) T)).ownsRow B T 1 (.slice (some ⟨w.heap.size, 0, none⟩) n n) n (List.replicate n v) := by
  refine ⟨by simp, .inr ⟨w.heap.size, n, madeCells #[v] n, rfl, hB, heap_alloc_new w _, Nat.le_refl _, by unfold maxLen; omega, by simp [madeCells], ?_⟩⟩
  rw [toList_madeCells_one, Nat.mul_one, List.take_replicate, Nat.min_self]
/-- Which positions are among the first j elements. -/
def seenV (l : List Int) (j M : Nat) : List Value := (List.range M).map fun p : Nat => .bool (decide ((p : Int) ∈ l.take j))
theorem seenV_zero (l : List Int) (M : Nat) : seenV l 0 M = List.replicate M (.bool false) := by
  unfold seenV
  apply List.ext_getElem
  · simp
  · intro i h1 h2
    simp
theorem seenV_length (l : List Int) (j M : Nat) : (seenV l j M).length = M := by simp [seenV]
theorem seenV_at {l : List Int} {j M p : Nat} (h : p < M) : (seenV l j M)[p]? = some (.bool (decide ((p : Int) ∈ l.take j))) := by simp [seenV, h]
theorem seenV_set {l : List Int} {j M p : Nat} (h : l[j]? = some (p : Int)) : (seenV l j M).set p (.bool true) = seenV l (j + 1) M := by
  obtain ⟨hj, hx⟩ := List.getElem?_eq_some_iff.1 h
  apply List.ext_getElem
  · simp [seenV]
  · intro i h1 h2
    rw [List.getElem_set]
    simp only [seenV, List.getElem_map, List.getElem_range]
    rw [List.take_succ_eq_append_getElem hj, hx]
    by_cases e : p = i
    · subst e
      rw [if_pos rfl]
      simp
    · rw [if_neg e]
      congr 1
      simp only [List.mem_append, List.mem_singleton, decide_eq_decide]
      constructor
      · exact fun h => .inl h
      · rintro (h | h)
        · exact h
        · exact absurd (by omega) e
theorem seenV_skip {l : List Int} {j M : Nat} {x : Int} (h : l[j]? = some x) (hx : x < 0) : seenV l (j + 1) M = seenV l j M := by
  obtain ⟨hj, hy⟩ := List.getElem?_eq_some_iff.1 h
  unfold seenV
  apply List.map_congr_left
  intro p _
  congr 1
  rw [List.take_succ_eq_append_getElem hj, hy]
  simp only [List.mem_append, List.mem_singleton, decide_eq_decide]
  constructor
  · rintro (h | h)
    · exact h
    · omega
  · exact fun h => .inl h
theorem cirI_big {k f : Nat} (h2 : k ≤ 6144) : cirI k f 1099511627776 = fullI k f := by
  unfold cirI bufI
  rw [List.take_of_length_le]
  rw [fullI_length]
  unfold sizN
  have : rowsN (k + 4) ≤ 193 := by unfold rowsN; omega
  omega
theorem full_at {k f j : Nat} {x : Int} (h2 : k ≤ 6144) (h : (fullI k f)[j]? = some x) (hx : 0 ≤ x) : ∃ p : Nat, x = (p : Int) ∧ posOk k f p ∧ ((p : Int) ∈ (fullI k f).take j → False) := by
  obtain ⟨p, rfl⟩ : ∃ p : Nat, x = (p : Int) := ⟨x.toNat, by omega⟩
  have hc := count_full (k := k) (f := f) (p := p) h2
  refine ⟨p, rfl, hc.2 (List.count_pos_iff.2 (List.mem_of_getElem? h)), fun hm => ?_⟩
  obtain ⟨i, hi, he⟩ := List.getElem_of_mem hm
  rw [List.getElem_take] at he
  rw [List.length_take] at hi
  have := count_two (l := fullI k f) (i := i) (j := j) (x := (p : Int)) (by rw [List.getElem?_eq_getElem (by omega), he]) h (by omega)
  omega
set_option maxRecDepth 100000 in
set_option maxHeartbeats 4000000 in
theorem full_walk {k f : Int} {w : World} (hK : Kinds w) :
    Calls Tryd.prog 8 #[.int .i64 k, .int .i64 f] w fun e w' => e = .returned (.bool true) ∧ Below w.heap.size w w' := by
  have hW := Lib.hid (fun (u : World) (h : Below w.heap.size w u) => known_any (hK.step h))
  by_cases h : okB k f 1099511627776 = true
  · obtain ⟨K, F, L, rfl, rfl, hL, h1, h2, h3, h4⟩ := okB_nat h
    obtain rfl : L = 1099511627776 := by omega
    have hB := Lib.hid (Buffer_any (k := (K : Int)) (f := (F : Int)) (l := 1099511627776) hK)
    have hU := Lib.hid (fun (u : World) (hb : Below w.heap.size w u) => Usable_any (k := (K : Int)) (f := (F : Int)) (l := 1099511627776) (hK.step hb))
    rw [show (1099511627776 : Int) = ((1099511627776 : Nat) : Int) from rfl] at hB hU h
    rw [bufS_ok h, cirI_big h2] at hB
    rw [useS_ok h, cirI_big h2, usable_full h2 (by omega)] at hU
    rw [show ((1099511627776 : Nat) : Int) = (1099511627776 : Int) from rfl] at hB hU
    have hlen := fullI_length K F
    have hr := rows_k h1 h2
    have hfat := Lib.hid (fun (j : Nat) (x : Int) (h : (fullI K F)[j]? = some x) (hx : 0 ≤ x) => full_at h2 h hx)
    have hge : Hid (∀ j (x : Int), (fullI K F)[j]? = some x → x = -1 ∨ 0 ≤ x) := Lib.hid (fun j x hx => by
      have := cirI_big (f := F) h2
      rw [← this] at hx
      exact buf_ge _ (List.mem_of_getElem? hx))
    dsimp only at hB hU
    obtain ⟨N, hN⟩ : ∃ N, 96 * rowsN (K + 4) = N := ⟨_, rfl⟩
    rw [hN] at hlen
    have HL := Lib.hid hlen
    rw [hlen] at hB
    generalize fullI K F = l at *
    have hN2 : (N : Int) ≤ 18528 := by omega
    obtain ⟨M, hM⟩ : ∃ M, 3 * (K + 4) = M := ⟨_, rfl⟩
    have hM2 : (3 : Int) * ((K : Int) + 4) = (M : Int) := by omega
    have hMl : M ≤ 18444 := by omega
    have hmk : ∀ u : World, (Instr.makeSlice 39 (.int .i64 (M : Int)) (.int .i64 (M : Int))).run Tryd.prog u = .ok (.slice (some ⟨u.heap.size, 0, none⟩) M M) (u.alloc (.cells (madeCells #[.bool false] M) 4)) := make_bools M (by omega)
    obtain ⟨us, hus⟩ : ∃ us, 3 * (K + 4) - 2 * F = us := ⟨_, rfl⟩
    rw [hus] at hU
    have hne : ((us : Int) != (M : Int) - 2 * (F : Int)) = false := by simp; omega
    have hMd := Lib.hid hM
    have k1 : ¬ ((K : Int) < 40) := by omega
    have k2 : ¬ (6144 < (K : Int)) := by omega
    have k3 : ¬ ((F : Int) < 0) := by omega
    have k4 : ¬ ((K : Int) ≤ (F : Int)) := by omega
    have k5 : (0 : Int) ≤ (F : Int) := by omega
    have k6 : (F : Int) ≤ 6144 := by omega
    clear h hL h1 h2 h3 h4 hlen hN hr hM hus hK
    go_enter Tryd.func8, Tryd.ntmps8
    go_wp2_with fail
    refine hB.out.mono ?_
    rintro e w1 ⟨A1, c1, rfl, R1, b1⟩
    clear hB
    go_wp2_with fail
    refine (hU.out _ b1).mono ?_
    rintro e w2 ⟨rfl, b2'⟩
    have R2 := Lib.hid (R1.step b2')
    have B2 := Lib.hid (b1.trans (b2'.mono b1.size))
    have hZ := Lib.hid (own_made (v := .bool false) (T := 4) (w := w2) (B := w2.heap.size) (n := M) (Nat.le_refl _) (by omega))
    have hb0 := Lib.hid ((Below.refl w2.heap.size w2).alloc (Nat.le_refl _) (.cells (madeCells #[.bool false] M) 4))
    clear R1 b1 b2' hU
    go_wp2_with fail
    go_loopw [11] (fun i wr => ∃ j : Nat, j ≤ N ∧ i = .int .i64 (j : Int) ∧ Hid (wr.ownsRow w2.heap.size 4 1 (.slice (some ⟨w2.heap.size, 0, none⟩) M M) M (seenV l j M)) ∧ Hid (Below w2.heap.size w2 wr)) (fun i _ => N - (intOf i).toNat)
    case atStart => exact ⟨0, Nat.zero_le _, rfl, Lib.hid (by rw [seenV_zero]; exact hZ.out), hb0⟩
    case round =>
      clear hZ hb0
      obtain ⟨j, hj, rfl, hO, hb⟩ := hrel
      by_cases hlt : j < N
      · have hz : (j : Int) < (N : Int) := by omega
        have hz0 : (0 : Int) ≤ (j : Int) := by omega
        obtain ⟨b, off, rfl, hbl, hc0⟩ := R2.out.cells j hlt
        have hc := (hb.out.cell (p := ⟨b, off + j, none⟩) hbl).trans hc0
        have hlj : l[j]? = some (l[j]?.getD 0) := by
          rw [List.getElem?_eq_getElem (by rw [HL.out]; exact hlt)]
          rfl
        have hgj := hge.out _ _ hlj
        have hfj := hfat.out _ _ hlj
        generalize l[j]?.getD 0 = x at *
        by_cases hx : x < 0
        · have hO2 : Hid (wr.ownsRow w2.heap.size 4 1 (.slice (some ⟨w2.heap.size, 0, none⟩) M M) M (seenV l (j + 1) M)) := Lib.hid (by rw [seenV_skip hlj hx]; exact hO.out)
          clear hlj hgj hfj hO hbl hc0
          go_wp2_with fail
          go_roundw
          case rel => exact ⟨j + 1, by omega, by go_num, hO2, hb⟩
          case measure => simp [intOf]; omega
        · obtain ⟨p, rfl, hpo, hpn⟩ := hfj (by omega)
          have hpM : p < M := by unfold posOk at hpo; have := hMd.out; omega
          have hcs := World.ownsRow.cellAt hO.out p (by omega)
          rw [seenV_at hpM, decide_eq_false hpn] at hcs
          have hfs := World.ownsRow.frozenAt hO.out p
          have hst := (World.ownsRow.stored hO.out p (.bool true)).1
          rw [seenV_set hlj] at hst
          have HO2 := Lib.hid hst
          have HB2 := Lib.hid (hb.out.setCell (p := ⟨w2.heap.size, p, none⟩) (Nat.le_refl _) (.bool true))
          have p1 : ¬ ((M : Int) ≤ (p : Int)) := by omega
          have p1' : (p : Int) < (M : Int) := by omega
          have p0 : (0 : Int) ≤ (p : Int) := by omega
          have p2 : ¬ ((p : Int) < (F : Int)) := by unfold posOk at hpo; omega
          have hcase : ¬ ((K : Int) + 4 ≤ (p : Int)) ∨ ((K : Int) + 4 ≤ (p : Int) ∧ ¬ ((p : Int) < (K : Int) + 4 + (F : Int))) := by unfold posOk at hpo; omega
          clear hlj hgj hfj hO hbl hc0 hpo hpn hst hb hx
          rcases hcase with q | ⟨q, q'⟩
          all_goals
            go_wp2_with fail
            go_roundw
            case rel => exact ⟨j + 1, by omega, by go_num, HO2, HB2⟩
            case measure => simp [intOf]; omega
      · obtain rfl : N = j := by omega
        have B5 := Lib.hid (B2.out.trans (hb.out.mono B2.out.size))
        have HW := Lib.hid (hW.out _ B5.out)
        clear hlt hO hb hW
        go_wp2_with fail
        refine HW.out.mono ?_
        rintro e w5 ⟨rfl, b5⟩
        go_wp2_with fail
        go_ret
        exact ⟨rfl, B5.out.trans (b5.mono B5.out.size)⟩
  · have h := Bool.eq_false_iff.2 h
    have hB := Lib.hid (fun (u : World) => Buffer_no (w := u) h)
    have hU := Lib.hid (fun (u : World) => Usable_no (w := u) h)
    have HW := Lib.hid (hW.out w (Below.refl _ _))
    clear h hW hK
    go_enter Tryd.func8, Tryd.ntmps8
    go_wp2_with (first | (go_at_call 10; refine (hB.out _).mono ?_; rintro e w ⟨rfl, rfl⟩) | (go_at_call 11; refine (hU.out _).mono ?_; rintro e w ⟨rfl, rfl⟩) | (go_at_call 13; refine HW.out.mono ?_; rintro e w5 ⟨rfl, b5⟩) | fail)
    go_ret
    exact ⟨rfl, b5⟩
end Go.Proofs.YtnmkladmohjdnaaDoor
