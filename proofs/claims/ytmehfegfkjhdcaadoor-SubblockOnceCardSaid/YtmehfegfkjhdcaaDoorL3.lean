/-
  The walk of SubblockOnce.
-/
import Derived.Test.YtmehfegfkjhdcaaDoorL1
namespace Go.Proofs.YtmehfegfkjhdcaaDoor
open Go.RowKit Go.Shelf

theorem count_map_range {f : Nat → Nat} : ∀ (j v : Nat), (∀ a b, a < j → b < j → f a = v → f b = v → a = b) → ((List.range j).map f).count v = if (∃ k, k < j ∧ f k = v) then 1 else 0 := by
  intro j v
  induction j with
  | zero =>
    intro _
    rw [if_neg (by rintro ⟨k, hk, _⟩; exact absurd hk (Nat.not_lt_zero _))]
    rfl
  | succ j ih =>
    intro hj
    rw [List.range_succ, List.map_append, List.count_append, ih (fun a b ha hb => hj a b (by omega) (by omega))]
    by_cases e : f j = v
    · rw [if_neg (by rintro ⟨k, hk, e2⟩; exact absurd (hj k j (by omega) (by omega) e2 e) (by omega)), if_pos ⟨j, by omega, e⟩]
      simp [e]
    · have h0 : List.count v (List.map f [j]) = 0 := by simp [e]
      rw [h0]
      by_cases c : ∃ k, k < j ∧ f k = v
      · obtain ⟨k, hk, e2⟩ := c
        rw [if_pos ⟨k, hk, e2⟩, if_pos ⟨k, by omega, e2⟩]
      · rw [if_neg c, if_neg]
        rintro ⟨k, hk, e2⟩
        rcases Nat.lt_or_ge k j with h | h
        · exact c ⟨k, h, e2⟩
        · obtain rfl : k = j := by omega
          exact e e2
theorem perm_range {n : Nat} {f : Nat → Nat} (hlt : ∀ k, k < n → f k < n) (hinj : ∀ a b, a < n → b < n → f a = f b → a = b) (hsur : ∀ m, m < n → ∃ k, k < n ∧ f k = m) : ((List.range n).map f).Perm (List.range n) := by
  rw [List.perm_iff_count]
  intro v
  have h2 := count_map_range (f := fun k => k) n v (fun a b _ _ e1 e2 => e1.trans e2.symm)
  rw [List.map_id'] at h2
  rw [count_map_range n v (fun a b ha hb e1 e2 => hinj a b ha hb (e1.trans e2.symm)), h2]
  by_cases h : v < n
  · rw [if_pos (hsur v h), if_pos ⟨v, h, rfl⟩]
  · rw [if_neg (by rintro ⟨k, hk, e⟩; have := hlt k hk; omega), if_neg (by rintro ⟨k, hk, e⟩; omega)]
theorem order_perm {d : Nat} {s : Bool} (h1 : 1 ≤ d) (h2 : d ≤ 6148) : (orderI d s).Perm (mtxL (32 * rowsN d - d) d) := by
  have hr := rows_le h1 h2
  have hp := perm_range (n := 32 * rowsN d) (f := idxN (rowsN d) s) (fun k _ => idx_lt (by omega)) (fun _ _ ha hb e => idx_inj ha hb e) (fun _ hm => idx_surj hm)
  have hq := hp.map (ordE (32 * rowsN d - d))
  rw [List.map_map] at hq
  have e : (List.range (32 * rowsN d)).map (ordE (32 * rowsN d - d)) = mtxL (32 * rowsN d - d) d := by
    apply list_ext0
    · rw [mtxL_length]; simp; omega
    · intro i hi
      rw [mtxL_length] at hi
      rw [mtxL_at hi, range_at (by omega)]
  rw [e] at hq
  exact hq
theorem cnt_same (a : Int) : List.count a [a] = 1 := by simp
theorem cnt_other {a b : Int} (h : b ≠ a) : List.count a [b] = 0 := by
  rw [List.count_cons, List.count_nil, if_neg (by simpa using h)]
theorem count_mtx (N d : Nat) : (mtxL N d).count (-1) = N ∧ ∀ i : Nat, i < d → (mtxL N d).count (i : Int) = 1 := by
  have base : ∀ (t : Nat), ((List.range t).map (fun i : Nat => (i : Int))).count (-1) = 0 ∧ ∀ i : Nat, ((List.range t).map (fun i : Nat => (i : Int))).count (i : Int) = if i < t then 1 else 0 := by
    intro t
    induction t with
    | zero => exact ⟨rfl, fun i => rfl⟩
    | succ t ih =>
      simp only [List.range_succ, List.map_append, List.count_append, ih.1, ih.2]
      simp only [List.map_cons, List.map_nil]
      refine ⟨by rw [cnt_other (by omega)], fun i => ?_⟩
      by_cases e : i = t
      · subst e; simp
      · have : List.count (i : Int) [(t : Int)] = 0 := cnt_other (by omega)
        rw [this]
        by_cases h : i < t
        · rw [if_pos h, if_pos (by omega)]
        · rw [if_neg h, if_neg (by omega)]
  unfold mtxL
  refine ⟨by rw [List.count_append, (base d).1]; simp, fun i hi => ?_⟩
  rw [List.count_append, (base d).2, if_pos hi]
  have : List.count (i : Int) (List.replicate N (-1)) = 0 := by
    rw [List.count_replicate]
    rw [if_neg]
    simp
  rw [this]
/-- How often each index is among the first k. -/
def seenL (xs : List Int) (d k : Nat) : List Int := (List.range d).map fun i : Nat => (((xs.take k).count (i : Int) : Nat) : Int)
theorem seenL_zero (xs : List Int) (d : Nat) : seenL xs d 0 = List.replicate d 0 := by
  apply list_ext0
  · simp [seenL]
  · intro i hi
    have hi : i < d := by simpa using hi
    simp [seenL, hi]
theorem seenL_at {xs : List Int} {d k i : Nat} (h : i < d) : (seenL xs d k)[i]?.getD 0 = (((xs.take k).count (i : Int) : Nat) : Int) := range_at h
theorem seenL_same {xs : List Int} {d k : Nat} {x : Int} (hx : xs.take (k + 1) = xs.take k ++ [x]) (hn : x < 0) : seenL xs d (k + 1) = seenL xs d k := by
  apply list_ext0
  · simp [seenL]
  · intro i hi
    have hi : i < d := by simpa [seenL] using hi
    rw [seenL_at hi, seenL_at hi, hx, List.count_append]
    have : List.count (i : Int) [x] = 0 := cnt_other (by omega)
    rw [this]; simp
theorem seenL_set {xs : List Int} {d k j : Nat} (hx : xs.take (k + 1) = xs.take k ++ [(j : Int)]) (hj : j < d) : (seenL xs d k).set j ((((xs.take k).count (j : Int) : Nat) : Int) + 1) = seenL xs d (k + 1) := by
  apply list_ext0
  · simp [seenL]
  · intro i hi
    have hi : i < d := by simpa [seenL] using hi
    rw [seenL_at hi, hx, List.count_append]
    by_cases e : i = j
    · subst e
      rw [List.getElem?_set_self (by simpa [seenL] using hi)]
      simp
    · rw [List.getElem?_set_ne (Ne.symm e), seenL_at hi]
      have : List.count (i : Int) [(j : Int)] = 0 := cnt_other (by omega)
      rw [this]; simp
set_option maxRecDepth 100000 in
set_option maxHeartbeats 4000000 in
theorem once_walk {d st : Int} {w : World} (hK : Kinds w) :
    Calls Tryd.prog 4 #[.int .i64 d, .int .i64 st] w fun e w' => e = .returned (.bool true) ∧ Below w.heap.size w w' := by
  have hW := Lib.hid (fun (u : World) (h : Below w.heap.size w u) => known_any (hK.step h))
  have hA := Lib.hid (Order_any (d := d) (st := st) hK)
  by_cases h : (okD d && okS st) = true
  · rw [Bool.and_eq_true] at h
    obtain ⟨m, rfl, h1, h2⟩ := okD_nat h.1
    rw [orderS_ok h1 h2 h.2] at hA
    have hr := rows_le h1 h2
    have hR : rowsI (m : Int) = ((rowsN m : Nat) : Int) := by
      unfold rowsI
      rw [if_pos h.1, Int.toNat_natCast]
    have hRo := Lib.hid (fun (u : World) => Rows_any (d := (m : Int)) (w := u))
    rw [hR] at hRo
    have hl0 := Lib.hid (orderI_length m (shB st))
    have hp := order_perm (s := shB st) h1 h2
    have hcm := count_mtx (32 * rowsN m - m) m
    have hcnt : (orderI m (shB st)).count (-1) = 32 * rowsN m - m ∧ ∀ i : Nat, i < m → (orderI m (shB st)).count (i : Int) = 1 := ⟨by rw [hp.count_eq]; exact hcm.1, fun i hi => by rw [hp.count_eq]; exact hcm.2 i hi⟩
    have hrange : ∀ k, k < 32 * rowsN m → (orderI m (shB st))[k]?.getD 0 = -1 ∨ ∃ j : Nat, j < m ∧ (orderI m (shB st))[k]?.getD 0 = (j : Int) := by
      intro k hk
      rw [orderI_at hk]
      have hi := idx_lt (R := rowsN m) (s := shB st) (k := k) (by omega)
      unfold ordE
      split
      · exact .inl rfl
      · exact .inr ⟨_, by omega, rfl⟩
    obtain ⟨S, hS⟩ : ∃ S, 32 * rowsN m = S := ⟨_, rfl⟩
    have hSl : S ≤ 6176 := by omega
    have hSc : (32 : Int) * ((rowsN m : Nat) : Int) = (S : Int) := by omega
    rw [hS] at hl0 hcnt hrange
    have hRng := Lib.hid hrange
    have hCnt := Lib.hid hcnt
    have hmk : ∀ u : World, (Instr.makeSlice 22 (.int .i64 m) (.int .i64 m)).run Tryd.prog u = .ok (.slice (some ⟨u.heap.size, 0, none⟩) m m) (u.alloc (.cells (madeCells #[.int .i64 0] m) 3)) := make_ints m (by omega)
    have hmS : m ≤ S := by omega
    have hSm : S < m + 32 := by omega
    have hRl : rowsN m ≤ 193 := hr.2.1
    generalize orderI m (shB st) = xs at *
    generalize rowsN m = R at *
    have g1 : (1 : Int) ≤ (m : Int) := by omega
    have g2 : (m : Int) ≤ 6148 := by omega
    have g3 : (m : Int) ≤ (S : Int) := by omega
    have g4 : ¬ S < m := by omega
    have g5 : ¬ (m : Int) < 1 := by omega
    have g6 : ¬ (6148 : Int) < (m : Int) := by omega
    clear hr hS h hp hcm hR hcnt hrange
    go_enter Tryd.func4, Tryd.ntmps4
    go_wp2_with fail
    refine hA.out.mono ?_
    rintro e w1 he
    obtain ⟨A1, c1, rfl, o1, hb1⟩ := he.got hl0.out
    have R1 := Lib.hid (Rd.of_own o1)
    have HB1 := Lib.hid hb1
    clear o1 he hA hb1
    go_wp2_with (go_at_call 15; refine (hRo.out _).mono ?_; rintro e w1 ⟨rfl, rfl⟩)
    go_loopw [8, 9] (fun dm i wr => ∃ (k t : Nat), k ≤ S ∧ i = .int .i64 (k : Int) ∧ dm = .int .i64 (t : Int) ∧ Hid ((xs.take k).count (-1) = t) ∧ t ≤ k ∧ Hid (wr.ownsRow w1.heap.size 3 1 (.slice (some ⟨w1.heap.size, 0, none⟩) m m) m ((seenL xs m k).map (Value.int .i64))) ∧ Hid (Below w1.heap.size w1 wr)) (fun _ i _ => S - (intOf i).toNat)
    case atStart => exact ⟨0, 0, Nat.zero_le _, rfl, rfl, Lib.hid rfl, Nat.le_refl _, Lib.hid (by rw [seenL_zero]; exact own_zeros_q (Nat.le_refl _) (by omega)), Lib.hid ((Below.refl _ w1).alloc (Nat.le_refl _) _)⟩
    case round =>
      obtain ⟨k, t, hk, rfl, rfl, ht, htk, hO, hb⟩ := hrel
      by_cases hlt : k < S
      · obtain ⟨b, off, hA1, _, hc⟩ := (R1.out.below' hb.out (Nat.le_refl _)).cells k hlt
        have hS1 := Lib.hid (take_snoc xs k (by rw [hl0.out]; exact hlt) 0)
        have hrng := hRng.out k hlt
        generalize xs[k]?.getD 0 = x at *
        subst hA1
        have hk0 : (0 : Int) ≤ (k : Int) := by omega
        have hk1 : (k : Int) < (S : Int) := by omega
        rcases hrng with rfl | ⟨j, hj, rfl⟩
        · have hT : Hid ((xs.take (k + 1)).count (-1) = t + 1) := Lib.hid (by rw [hS1.out, List.count_append, ht.out]; rfl)
          have hO2 := Lib.hid (show wr.ownsRow w1.heap.size 3 1 (.slice (some ⟨w1.heap.size, 0, none⟩) m m) m ((seenL xs m (k + 1)).map (Value.int .i64)) by rw [seenL_same hS1.out (by decide)]; exact hO.out)
          clear hO ht
          go_wp2_with fail
          go_roundw
          case rel => exact ⟨k + 1, t + 1, by omega, by go_num, by go_num, hT, by omega, hO2, hb⟩
          case measure => simp [intOf]; omega
        · have hT : Hid ((xs.take (k + 1)).count (-1) = t) := Lib.hid (by rw [hS1.out, List.count_append, ht.out, cnt_other (by omega)]; rfl)
          have hcell := World.ownsRow.cellAt hO.out j (by omega)
          have hcj : (xs.take k).count (j : Int) ≤ 6176 := by
            have := List.count_le_length (a := (j : Int)) (l := xs.take k)
            rw [List.length_take] at this
            omega
          have hfz := hO.out.frozenAt j
          have hst := (World.ownsRow.stored hO.out j (.int .i64 ((((xs.take k).count (j : Int) : Nat) : Int) + 1))).1
          rw [← List.map_set, seenL_set hS1.out hj] at hst
          rw [List.getElem?_map, show (seenL xs m k)[j]? = some (((xs.take k).count (j : Int) : Nat) : Int) by unfold seenL; simp [hj]] at hcell
          simp only [Option.map_some] at hcell
          have hO2 := Lib.hid hst
          have hb2 := Lib.hid (hb.out.setCell (p := ⟨w1.heap.size, j, none⟩) (Nat.le_refl _) (.int .i64 ((((xs.take k).count (j : Int) : Nat) : Int) + 1)))
          generalize (xs.take k).count (j : Int) = cj at *
          have hj0 : (0 : Int) ≤ (j : Int) := by omega
          have hj1 : (j : Int) < (m : Int) := by omega
          have hcj' : (cj : Int) ≤ 6176 := by omega
          clear hO ht hst hb
          go_wp2_with fail
          go_roundw
          case rel => first | exact ⟨k + 1, t, by omega, by go_num, rfl, hT, by omega, hO2, hb2⟩ | ((repeat apply Exists.intro); exact ⟨⟨k + 1, t, by omega, by go_num, rfl, hT, by omega, hO2, hb2⟩, rfl⟩)
          case measure => simp [intOf]; omega
      · obtain rfl : S = k := by omega
        have hfull : xs.take S = xs := List.take_of_length_le (Nat.le_of_eq hl0.out)
        have htv : (t : Int) = (S : Int) - (m : Int) := by
          have := ht.out
          rw [hfull, hCnt.out.1] at this
          omega
        have ht32 : (t : Int) < 32 := by omega
        have hones := Lib.hid (fun (i : Nat) (hi : i < m) => show wr.cell? ⟨w1.heap.size, i, none⟩ = some (.int .i64 1) by
          have hcell := World.ownsRow.cellAt hO.out i (by omega)
          rw [List.getElem?_map, show (seenL xs m S)[i]? = some 1 by unfold seenL; rw [hfull]; simp [hi, hCnt.out.2 i hi]] at hcell
          exact hcell)
        have hk := Lib.hid (hW.out _ (HB1.out.trans (hb.out.mono HB1.out.size)))
        have hbw := Lib.hid (HB1.out.trans (hb.out.mono HB1.out.size))
        clear hlt hO hb ht R1 hfull
        go_wp2_with fail
        go_loop [10] (fun i => ∃ j : Nat, j ≤ m ∧ i = .int .i64 (j : Int)) (fun i => m - (intOf i).toNat)
        case atStart => exact ⟨0, Nat.zero_le _, rfl⟩
        case round =>
          obtain ⟨j, hj, rfl⟩ := hrel
          by_cases hjl : j < m
          · have hc := hones.out j hjl
            have hj0 : (0 : Int) ≤ (j : Int) := by omega
            have hj1 : (j : Int) < (m : Int) := by omega
            go_wp2_with fail
            go_round
            case rel => exact ⟨j + 1, by omega, by go_num⟩
            case measure => simp [intOf]; omega
          · obtain rfl : m = j := by omega
            clear hjl
            go_wp2_with (go_at_call 14; refine hk.out.mono ?_; rintro e w4 ⟨rfl, h4⟩)
            go_ret
            exact ⟨rfl, hbw.out.trans (h4.mono hbw.out.size)⟩
  · rw [orderS_no (Bool.eq_false_iff.2 h)] at hA
    clear h
    go_enter Tryd.func4, Tryd.ntmps4
    go_wp2_with fail
    refine hA.out.mono ?_
    rintro e w1 he
    obtain ⟨A1, c1, rfl, o1, hb1⟩ := he.got (n := 0) rfl
    have hk := Lib.hid (hW.out _ hb1)
    clear o1 he
    go_wp2_with (go_at_call 14; refine hk.out.mono ?_; rintro e w4 ⟨rfl, h4⟩)
    go_ret
    exact ⟨rfl, hb1.trans (h4.mono hb1.size)⟩
end Go.Proofs.YtmehfegfkjhdcaaDoor
