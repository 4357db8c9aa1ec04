/-
  The reference's Poly, Len, Add.
-/
import Derived.Deep.AppendLies
import Derived.Test.YtekldonfmfnmpaaDoorS1
import Derived.Test.YtekldonfmfnmpaaDoorK6
namespace Go.Proofs.YtekldonfmfnmpaaDoor
open Go.RowKit

/-- The coefficients of the generator, the highest power first. -/
def polyL (k : Int) : List Int := if (genN k).2 = 0 then [] else 1 :: toI (genB k)
def polyN (k : Int) : Nat := if (genN k).2 = 0 then 0 else (genN k).2 + 1
theorem polyL_length (k : Int) : (polyL k).length = polyN k := by
  unfold polyL polyN
  split
  · rfl
  · simp [toI_length, genB_length]
def polyV (k : Int) : Int := if k = 1 then 25578747 else if k = 2 then 25165923 else if k = 3 then 69665 else if k = 4 then 411 else 0
theorem poly_digits (k : Int) : polyL k = (List.range (polyN k)).map fun i => polyV k / 2 ^ (polyN k - 1 - i) % 2 := by
  rcases genN_cases k with ⟨rfl, _⟩ | ⟨rfl, _⟩ | ⟨rfl, _⟩ | ⟨rfl, _⟩ | ⟨_, e⟩
  · decide
  · decide
  · decide
  · decide
  · unfold polyL polyN
    rw [e]; rfl
theorem append_one {w : World} {base : Nat} {A : Option Addr} {n c s : Nat} {xs : List Int} {x : Int} (hO : w.ownsRow base 5 1 (.slice A n c) n (xs.map (Value.int .u8))) (hn : n ≤ 2199023255552) (hb : base ≤ w.heap.size) (hs : s = w.heap.size) :
    ∃ A2 c2 w2, (Builtin.append_ #[23, 23] 23 #[.slice A n c, .slice (some ⟨s, 0, none⟩) 1 1]).run Tryd.prog (w.alloc (.cells #[.int .u8 x] 5)) = .ok (.slice A2 (n + 1) c2) w2 ∧
      w2.ownsRow base 5 1 (.slice A2 (n + 1) c2) (n + 1) ((xs ++ [x]).map (Value.int .u8)) ∧ (∀ B v, Below B v w → B ≤ base → B ≤ v.heap.size → Below B v w2) := by
  subst hs
  have hO' : (w.alloc (.cells #[.int .u8 x] 5)).ownsRow base 5 1 (.slice A n c) n (xs.map (Value.int .u8)) := hO.alloc _
  obtain ⟨A2, c2, w2, h1, h2, h3⟩ := more_run (c' := 1) hO' ((rd_lit w [x] 5).more (by simp)) hn (by simp) (by simp; omega)
  exact ⟨A2, c2, w2, h1, h2, fun B v h hB hv => h3 B v (h.alloc (Nat.le_trans hv h.size) _) hB hv⟩
theorem and_one_i64 {x : Int} (h0 : 0 ≤ x) (h1 : x < 9223372036854775808) : bits .and .i64 x 1 % 256 = x % 2 := by
  obtain ⟨a, rfl⟩ := Int.eq_ofNat_of_zero_le h0
  have e : ((BitVec.ofInt IntKind.i64.bits (a : Int)) &&& (BitVec.ofInt IntKind.i64.bits (1 : Int))).toNat = a % 2 := by
    have h2 : a < 2 ^ IntKind.i64.bits := by simp [IntKind.bits]; omega
    rw [BitVec.toNat_and, ofInt_nat, BitVec.toNat_ofNat, Nat.mod_eq_of_lt h2, show (BitVec.ofInt IntKind.i64.bits 1).toNat = 1 from by decide, Nat.and_one_is_mod]
  simp only [bits]
  rw [e]
  rcases Nat.mod_two_eq_zero_or_one a with h | h <;> rw [h]
  · rw [show IntKind.i64.wrap ((0 : Nat) : Int) = 0 from by decide]; omega
  · rw [show IntKind.i64.wrap ((1 : Nat) : Int) = 1 from by decide]; omega
theorem take_digits {f : Nat → Int} {N j : Nat} (h : j < N) : ((List.range N).map f).take (j + 1) = ((List.range N).map f).take j ++ [f j] := by
  rw [List.take_succ_eq_append_getElem (by simpa using h)]
  simp
theorem poly_take {k : Int} {j m : Nat} (h : j + (m + 1) = polyN k) : (polyL k).take (j + 1) = (polyL k).take j ++ [polyV k / 2 ^ m % 2] := by
  rw [poly_digits, take_digits (by omega), show polyN k - 1 - j = m by omega]
theorem poly_none {k : Int} (h : (genN k).2 = 0) : polyL k = [] := by unfold polyL; rw [if_pos h]
set_option maxHeartbeats 2000000 in
theorem poly_any {k : Int} {w : World} :
    Calls Tryd.prog 26 #[.int .i64 k] w fun e w' => (∃ A2 c2, e = .returned (.slice A2 (polyN k) c2) ∧
      w'.ownsRow w.heap.size 5 1 (.slice A2 (polyN k) c2) (polyN k) ((polyL k).map (Value.int .u8))) ∧ Below w.heap.size w w' := by
  rcases genN_cases k with ⟨hk, _⟩ | ⟨hk, _⟩ | ⟨hk, _⟩ | ⟨hk, _⟩ | ⟨hk, e⟩
  · subst hk
    have hN : Hid (polyN 1 = 25) := Lib.hid (by decide)
    have hV : Hid (polyV 1 = 25578747) := Lib.hid (by decide)
    go_enter Tryd.func26, Tryd.ntmps26
    go_wp2_with fail
    go_loopw [5, 6] (fun p i wr => ∃ (j m : Nat) (A2 : Option Addr) (c2 : Nat), j + m = 25 ∧ i = .int .i64 ((m : Int) - 1) ∧ p = .slice A2 j c2 ∧ Hid (wr.ownsRow w.heap.size 5 1 (.slice A2 j c2) j (((polyL 1).take j).map (Value.int .u8))) ∧ Below w.heap.size w wr)
      (fun _ i _ => (intOf i + 1).toNat)
    case atStart => exact ⟨0, 25, none, 0, rfl, rfl, rfl, Lib.hid (by simpa using World.ownsRow_nil w w.heap.size 5 1), Below.refl _ _⟩
    case round =>
      obtain ⟨j, m, A2, c2, hjm, rfl, rfl, hO, hB⟩ := hrel
      rcases m with _ | m
      · go_wp2_with fail
        go_ret
        obtain rfl : j = 25 := by omega
        rw [hN.out]
        have e : (polyL 1).take 25 = polyL 1 := List.take_of_length_le (by rw [polyL_length, hN.out]; exact Nat.le_refl _)
        rw [e] at hO
        exact ⟨⟨A2, c2, rfl, hO.out⟩, hB⟩
      · have hT := Lib.hid (poly_take (k := 1) (j := j) (m := m) (by rw [hN.out]; exact hjm))
        rw [hV.out] at hT
        have hq0 : (0 : Int) ≤ 25578747 / 2 ^ m := Int.ediv_nonneg (by decide) (Int.le_of_lt (Int.pow_pos (by decide)))
        have hq1 : (25578747 : Int) / 2 ^ m ≤ 25578747 := Int.ediv_le_self _ (by decide)
        have hand := Lib.hid (and_one_i64 hq0 (by omega))
        obtain ⟨A3, c3, w3, hrun, hown3, hb3⟩ := append_one (x := bits .and .i64 (25578747 / 2 ^ m) 1 % 256) hO.out (by omega) hB.size rfl
        have hb4 := hb3 w.heap.size w hB (Nat.le_refl _) (Nat.le_refl _)
        rw [hand.out, ← hT.out] at hown3
        have HR := Lib.hid hrun
        have HO3 := Lib.hid hown3
        clear hrun hown3 hb3
        go_wp2_with (at_builtin; refine Lib.wpList_append_run _ rfl _ _ _ _ rfl _ _ rfl rfl _ _ HR.out ?_)
        go_roundw
        case rel => exact ⟨j + 1, m, A3, c3, by omega, by go_num, rfl, HO3, hb4⟩
        case measure => simp [intOf]
  · subst hk
    have hN : Hid (polyN 2 = 25) := Lib.hid (by decide)
    have hV : Hid (polyV 2 = 25165923) := Lib.hid (by decide)
    go_enter Tryd.func26, Tryd.ntmps26
    go_wp2_with fail
    go_loopw [5, 6] (fun p i wr => ∃ (j m : Nat) (A2 : Option Addr) (c2 : Nat), j + m = 25 ∧ i = .int .i64 ((m : Int) - 1) ∧ p = .slice A2 j c2 ∧ Hid (wr.ownsRow w.heap.size 5 1 (.slice A2 j c2) j (((polyL 2).take j).map (Value.int .u8))) ∧ Below w.heap.size w wr)
      (fun _ i _ => (intOf i + 1).toNat)
    case atStart => exact ⟨0, 25, none, 0, rfl, rfl, rfl, Lib.hid (by simpa using World.ownsRow_nil w w.heap.size 5 1), Below.refl _ _⟩
    case round =>
      obtain ⟨j, m, A2, c2, hjm, rfl, rfl, hO, hB⟩ := hrel
      rcases m with _ | m
      · go_wp2_with fail
        go_ret
        obtain rfl : j = 25 := by omega
        rw [hN.out]
        have e : (polyL 2).take 25 = polyL 2 := List.take_of_length_le (by rw [polyL_length, hN.out]; exact Nat.le_refl _)
        rw [e] at hO
        exact ⟨⟨A2, c2, rfl, hO.out⟩, hB⟩
      · have hT := Lib.hid (poly_take (k := 2) (j := j) (m := m) (by rw [hN.out]; exact hjm))
        rw [hV.out] at hT
        have hq0 : (0 : Int) ≤ 25165923 / 2 ^ m := Int.ediv_nonneg (by decide) (Int.le_of_lt (Int.pow_pos (by decide)))
        have hq1 : (25165923 : Int) / 2 ^ m ≤ 25165923 := Int.ediv_le_self _ (by decide)
        have hand := Lib.hid (and_one_i64 hq0 (by omega))
        obtain ⟨A3, c3, w3, hrun, hown3, hb3⟩ := append_one (x := bits .and .i64 (25165923 / 2 ^ m) 1 % 256) hO.out (by omega) hB.size rfl
        have hb4 := hb3 w.heap.size w hB (Nat.le_refl _) (Nat.le_refl _)
        rw [hand.out, ← hT.out] at hown3
        have HR := Lib.hid hrun
        have HO3 := Lib.hid hown3
        clear hrun hown3 hb3
        go_wp2_with (at_builtin; refine Lib.wpList_append_run _ rfl _ _ _ _ rfl _ _ rfl rfl _ _ HR.out ?_)
        go_roundw
        case rel => exact ⟨j + 1, m, A3, c3, by omega, by go_num, rfl, HO3, hb4⟩
        case measure => simp [intOf]
  · subst hk
    have hN : Hid (polyN 3 = 17) := Lib.hid (by decide)
    have hV : Hid (polyV 3 = 69665) := Lib.hid (by decide)
    go_enter Tryd.func26, Tryd.ntmps26
    go_wp2_with fail
    go_loopw [5, 6] (fun p i wr => ∃ (j m : Nat) (A2 : Option Addr) (c2 : Nat), j + m = 17 ∧ i = .int .i64 ((m : Int) - 1) ∧ p = .slice A2 j c2 ∧ Hid (wr.ownsRow w.heap.size 5 1 (.slice A2 j c2) j (((polyL 3).take j).map (Value.int .u8))) ∧ Below w.heap.size w wr)
      (fun _ i _ => (intOf i + 1).toNat)
    case atStart => exact ⟨0, 17, none, 0, rfl, rfl, rfl, Lib.hid (by simpa using World.ownsRow_nil w w.heap.size 5 1), Below.refl _ _⟩
    case round =>
      obtain ⟨j, m, A2, c2, hjm, rfl, rfl, hO, hB⟩ := hrel
      rcases m with _ | m
      · go_wp2_with fail
        go_ret
        obtain rfl : j = 17 := by omega
        rw [hN.out]
        have e : (polyL 3).take 17 = polyL 3 := List.take_of_length_le (by rw [polyL_length, hN.out]; exact Nat.le_refl _)
        rw [e] at hO
        exact ⟨⟨A2, c2, rfl, hO.out⟩, hB⟩
      · have hT := Lib.hid (poly_take (k := 3) (j := j) (m := m) (by rw [hN.out]; exact hjm))
        rw [hV.out] at hT
        have hq0 : (0 : Int) ≤ 69665 / 2 ^ m := Int.ediv_nonneg (by decide) (Int.le_of_lt (Int.pow_pos (by decide)))
        have hq1 : (69665 : Int) / 2 ^ m ≤ 69665 := Int.ediv_le_self _ (by decide)
        have hand := Lib.hid (and_one_i64 hq0 (by omega))
        obtain ⟨A3, c3, w3, hrun, hown3, hb3⟩ := append_one (x := bits .and .i64 (69665 / 2 ^ m) 1 % 256) hO.out (by omega) hB.size rfl
        have hb4 := hb3 w.heap.size w hB (Nat.le_refl _) (Nat.le_refl _)
        rw [hand.out, ← hT.out] at hown3
        have HR := Lib.hid hrun
        have HO3 := Lib.hid hown3
        clear hrun hown3 hb3
        go_wp2_with (at_builtin; refine Lib.wpList_append_run _ rfl _ _ _ _ rfl _ _ rfl rfl _ _ HR.out ?_)
        go_roundw
        case rel => exact ⟨j + 1, m, A3, c3, by omega, by go_num, rfl, HO3, hb4⟩
        case measure => simp [intOf]
  · subst hk
    have hN : Hid (polyN 4 = 9) := Lib.hid (by decide)
    have hV : Hid (polyV 4 = 411) := Lib.hid (by decide)
    go_enter Tryd.func26, Tryd.ntmps26
    go_wp2_with fail
    go_loopw [5, 6] (fun p i wr => ∃ (j m : Nat) (A2 : Option Addr) (c2 : Nat), j + m = 9 ∧ i = .int .i64 ((m : Int) - 1) ∧ p = .slice A2 j c2 ∧ Hid (wr.ownsRow w.heap.size 5 1 (.slice A2 j c2) j (((polyL 4).take j).map (Value.int .u8))) ∧ Below w.heap.size w wr)
      (fun _ i _ => (intOf i + 1).toNat)
    case atStart => exact ⟨0, 9, none, 0, rfl, rfl, rfl, Lib.hid (by simpa using World.ownsRow_nil w w.heap.size 5 1), Below.refl _ _⟩
    case round =>
      obtain ⟨j, m, A2, c2, hjm, rfl, rfl, hO, hB⟩ := hrel
      rcases m with _ | m
      · go_wp2_with fail
        go_ret
        obtain rfl : j = 9 := by omega
        rw [hN.out]
        have e : (polyL 4).take 9 = polyL 4 := List.take_of_length_le (by rw [polyL_length, hN.out]; exact Nat.le_refl _)
        rw [e] at hO
        exact ⟨⟨A2, c2, rfl, hO.out⟩, hB⟩
      · have hT := Lib.hid (poly_take (k := 4) (j := j) (m := m) (by rw [hN.out]; exact hjm))
        rw [hV.out] at hT
        have hq0 : (0 : Int) ≤ 411 / 2 ^ m := Int.ediv_nonneg (by decide) (Int.le_of_lt (Int.pow_pos (by decide)))
        have hq1 : (411 : Int) / 2 ^ m ≤ 411 := Int.ediv_le_self _ (by decide)
        have hand := Lib.hid (and_one_i64 hq0 (by omega))
        obtain ⟨A3, c3, w3, hrun, hown3, hb3⟩ := append_one (x := bits .and .i64 (411 / 2 ^ m) 1 % 256) hO.out (by omega) hB.size rfl
        have hb4 := hb3 w.heap.size w hB (Nat.le_refl _) (Nat.le_refl _)
        rw [hand.out, ← hT.out] at hown3
        have HR := Lib.hid hrun
        have HO3 := Lib.hid hown3
        clear hrun hown3 hb3
        go_wp2_with (at_builtin; refine Lib.wpList_append_run _ rfl _ _ _ _ rfl _ _ rfl rfl _ _ HR.out ?_)
        go_roundw
        case rel => exact ⟨j + 1, m, A3, c3, by omega, by go_num, rfl, HO3, hb4⟩
        case measure => simp [intOf]
  · have HN : Hid (polyN k = 0) := Lib.hid (by unfold polyN; rw [e]; rfl)
    have HL : Hid (polyL k = []) := Lib.hid (poly_none (by rw [e]))
    clear e
    have h1 : (k == 1) = false := by simp; omega
    have h2 : (k == 2) = false := by simp; omega
    have h3 : (k == 3) = false := by simp; omega
    have h4 : (k == 4) = false := by simp; omega
    clear hk
    go_enter Tryd.func26, Tryd.ntmps26
    go_wp2_with fail
    go_loopw [5, 6] (fun p i wr => p = .slice none 0 0 ∧ i = .int .i64 (-1) ∧ Below w.heap.size w wr) (fun _ _ _ => 0)
    case atStart => exact ⟨rfl, rfl, Below.refl _ _⟩
    case round =>
      obtain ⟨rfl, rfl, hB⟩ := hrel
      go_wp2_with fail
      go_ret
      rw [HN.out, HL.out]
      exact ⟨⟨none, 0, rfl, by simpa using World.ownsRow_nil wr w.heap.size 5 1⟩, hB⟩
theorem polyN_ge {k : Int} (h : 1 < (polyN k : Int)) : (polyN k : Int) - 1 = ((genN k).2 : Nat) := by
  unfold polyN at *
  split
  · rename_i h0; rw [if_pos h0] at h; omega
  · omega
theorem polyN_le {k : Int} (h : (polyN k : Int) ≤ 1) : (0 : Int) = ((genN k).2 : Nat) := by
  unfold polyN at h
  split at h
  · omega
  · omega
set_option maxHeartbeats 1000000 in
theorem refLen_any {k : Int} {w : World} :
    Calls Tryd.prog 16 #[.int .i64 k] w fun e w' => e = .returned (.int .i64 ((genN k).2 : Nat)) ∧ Below w.heap.size w w' := by
  have hp := Lib.hid (poly_any (k := k) (w := w))
  have hn : polyN k ≤ 25 := by unfold polyN; split <;> have := genN_le k <;> omega
  go_enter Tryd.func16, Tryd.ntmps16
  go_wp2_with fail
  refine hp.out.mono ?_
  rintro e w1 ⟨⟨A2, c2, rfl, hown⟩, hb⟩
  go_wp2
  · go_ret
    exact ⟨ret_int (polyN_ge h), hb⟩
  · go_ret
    exact ⟨ret_int (polyN_le h), hb⟩
/-- The reference's Add: elementwise, without a test of the elements. -/
def addL (xs ys : List Int) : List Int := (List.range xs.length).map fun i => bits .xor .u8 (xs[i]?.getD 0) (ys[i]?.getD 0)
theorem addL_length (xs ys : List Int) : (addL xs ys).length = xs.length := by simp [addL]
set_option maxHeartbeats 1000000 in
theorem add_any {A A' : Option Addr} {n c c' : Nat} {xs ys : List Int} {w : World} (h : Rd .u8 w w.heap.size A n xs) (h' : Rd .u8 w w.heap.size A' n ys) (hn : n ≤ 1000000) :
    Calls Tryd.prog 21 #[.slice A n c, .slice A' n c'] w fun e w' => (∃ A2 c2, e = .returned (.slice A2 n c2) ∧
      w'.ownsRow w.heap.size 5 1 (.slice A2 n c2) n ((addL xs ys).map (Value.int .u8))) ∧ Below w.heap.size w w' := by
  have hl := Lib.hid h.len
  obtain ⟨i0, hi, hz0, hz1, hz2⟩ := info_parts Tryd.info_u8
  go_enter Tryd.func21, Tryd.ntmps21
  go_wp2_with fail
  go_loopw [5, 6] (fun p i wr => ∃ (k : Nat) (A2 : Option Addr) (c2 : Nat), k ≤ n ∧ i = .int .i64 k ∧ p = .slice A2 k c2 ∧ Hid (wr.ownsRow w.heap.size 5 1 (.slice A2 k c2) k (((addL xs ys).take k).map (Value.int .u8))) ∧ Below w.heap.size w wr)
    (fun _ i _ => n - (intOf i).toNat)
  case atStart => exact ⟨0, none, 0, Nat.zero_le _, rfl, rfl, Lib.hid (by simpa using World.ownsRow_nil w w.heap.size 5 1), Below.refl _ _⟩
  case round =>
    obtain ⟨k, A2, c2, hk, rfl, rfl, hO, hB⟩ := hrel
    by_cases hlt : k < n
    · obtain ⟨b, off, rfl, hb1, hc⟩ := (h.below hB).cells k hlt
      obtain ⟨b', off', rfl, hb1', hc'⟩ := (h'.below hB).cells k hlt
      have hT : Hid ((addL xs ys).take (k + 1) = (addL xs ys).take k ++ [bits .xor .u8 (xs[k]?.getD 0) (ys[k]?.getD 0)]) := Lib.hid (take_digits (f := fun i => bits .xor .u8 (xs[i]?.getD 0) (ys[i]?.getD 0)) (by rw [hl.out]; exact hlt))
      generalize xs[k]?.getD 0 = x at *
      generalize ys[k]?.getD 0 = y at *
      have hk0 : (0 : Int) ≤ (k : Int) := by omega
      have hk1 : (k : Int) < (n : Int) := by omega
      obtain ⟨z, hz⟩ : ∃ z, bits .xor .u8 x y = z := ⟨_, rfl⟩
      rw [hz] at hT
      have hbn : some b ≠ (Value.slice A2 k c2).ownBlock := fun e => by have := (hO.out.lt b e.symm).1; omega
      have hbn' : some b' ≠ (Value.slice A2 k c2).ownBlock := fun e => by have := (hO.out.lt b' e.symm).1; omega
      have hbw : b < wr.heap.size := by have := hB.size; omega
      have hbw' : b' < wr.heap.size := by have := hB.size; omega
      have hsz := hB.size
      clear h h'
      go_wp2_with fail
      go_region_held3 (fun w' => w'.cell? ⟨b, off + k, none⟩ = some (.int .u8 x) ∧ w'.cell? ⟨b', off' + k, none⟩ = some (.int .u8 y))
        (first
          | go_keep
          | (go_split_ands
             refine ⟨?_, ?_⟩
             · (rw [hgrow.cell_far _ (by simp; omega) hbn]; assumption)
             · (rw [hgrow.cell_far _ (by simp; omega) hbn']; assumption)))
        ((refine step_append_lies _ (by rfl) _ _ _ (by rfl) w.heap.size 5 i0 _ 1 1 Tryd.underlying23 hi hz0 hz1 hz2 rfl (by omega) (.slice A2 k c2) k _ (by rfl) ((hO.out.alloc _).drew)
              ⟨wr.heap.size, 0, none⟩ 1 1 [.int .u8 z] (by rfl) (by rfl) (World.news_of_block (cs := #[.int .u8 z]) (t := 5) (fr := (0, 0)) (heap_alloc_new wr _)) (by simp [Value.oneCell'])
              (by omega) (by unfold maxLen; omega) (by omega) (by simp; omega) (wr.heap.size + 1) (by simp) ?_; intro gg cap w3 hown3 hgrow hat hlt3))
      have hB3 : Below w.heap.size w w3 := (hB.alloc hB.size _).drew.grown hgrow (by simp; omega) (fun g hg => (hO.out.lt g hg).1)
      have hO3 : Hid (w3.ownsRow w.heap.size 5 1 (.slice (some ⟨gg, 0, none⟩) (k + 1) cap) (k + 1) (((addL xs ys).take (k + 1)).map (Value.int .u8))) := Lib.hid (by rw [hT.out, List.map_append]; exact hown3)
      clear hown3 hgrow
      go_wp2_with fail
      go_roundw
      case rel => exact ⟨k + 1, some ⟨gg, 0, none⟩, cap, by omega, by go_num, rfl, hO3, hB3⟩
      case measure => simp [intOf]; omega
    · obtain rfl : k = n := by omega
      clear hlt h h'
      go_wp2_with fail
      go_ret
      have e : (addL xs ys).take k = addL xs ys := List.take_of_length_le (by rw [addL_length, hl.out]; exact Nat.le_refl _)
      rw [e] at hO
      exact ⟨⟨A2, c2, rfl, hO.out⟩, hB⟩
end Go.Proofs.YtekldonfmfnmpaaDoor
