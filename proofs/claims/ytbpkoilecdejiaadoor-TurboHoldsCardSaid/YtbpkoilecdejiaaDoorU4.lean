/-
  The encoders' steps; what is known of a word when some of its places have been met. Size, inputs, examine. The lists of indices: list at both of its types with encoders's closures. tails. Single operations, run with a frame of which some slots are known.
-/
import Derived.Test.YtbpkoilecdejiaaDoorTx
import Derived.Test.YtbpkoilecdejiaaDoorT6
import Derived.Test.YtbpkoilecdejiaaDoorS3
import Derived.Test.YtbpkoilecdejiaaDoorFh
import Derived.Test.YtbpkoilecdejiaaDoorGi
namespace Go.Proofs.YtbpkoilecdejiaaDoor
/-! ### The encoders' steps; what is known of a word when some of its places have been met. -/
section
set_option maxRecDepth 100000

/-- The state ahead of step i of a code. -/
def stT (xs : List Int) (code i : Nat) : Nat := if i ≤ xs.length then stK (inI xs code) i else tsN (stK (inI xs code) xs.length) (i - xs.length)
theorem stT_zero (xs : List Int) (code : Nat) : stT xs code 0 = 0 := by unfold stT; rw [if_pos (Nat.zero_le _)]; rfl
theorem stT_lt {xs : List Int} (h : Bits xs) (code i : Nat) : stT xs code i < 8 := by
  have hb := (inI_bits h code).byte
  unfold stT
  split
  · exact stK_lt hb i
  · exact tsN_lt (stK_lt hb _) _
/-- One step of a code: its input bit u, its parity bit, the next state; where the input bit comes from. -/
structure TurnAt (xs : List Int) (code i u : Nat) : Prop where
  lt : u < 2
  s8 : stT xs code i < 8
  sys : (tbI xs)[sysN (piK xs.length) xs.length code i]?.getD 0 = (u : Int)
  par : (tbI xs)[parN xs.length code i]?.getD 0 = ((parS7 (stT xs code i) u : Nat) : Int)
  next : stT xs code (i + 1) = nextS (stT xs code i) u
  low : i < xs.length → sysN (piK xs.length) xs.length code i < xs.length ∧ xs[sysN (piK xs.length) xs.length code i]?.getD 0 = (u : Int)
  high : xs.length ≤ i → xs.length ≤ sysN (piK xs.length) xs.length code i ∧ u = tailIn (stT xs code i)
theorem bit_toNat {xs : List Int} (h : Bits xs) (i : Nat) : (xs[i]?.getD 0).toNat < 2 ∧ xs[i]?.getD 0 = ((xs[i]?.getD 0).toNat : Int) := by
  have := bits_nonneg h i
  rcases this with e | e <;> rw [e] <;> exact ⟨by decide, rfl⟩
theorem last3_ge {a b c k j : Nat} (h1 : k ≤ a) (h2 : k ≤ b) (h3 : k ≤ c) : k ≤ last3 a b c j := by
  unfold last3
  split
  · exact h1
  · split
    · exact h2
    · exact h3
theorem turn_at {xs : List Int} (hs : IsSize xs.length) (h : Bits xs) {code i : Nat} (hc : code = 1 ∨ code = 2) (hi : i < xs.length + 3) : ∃ u, TurnAt xs code i u := by
  obtain ⟨a, b⟩ := tb_code hs h hc
  have a := congrArg (fun l : List Int => l[i]?.getD 0) a
  have b := congrArg (fun l : List Int => l[i]?.getD 0) b
  simp only [List.getElem?_map, List.getElem?_range hi, Option.map_some, Option.getD_some] at a b
  have hl := inI_length xs code
  have hbi := inI_bits h code
  have s8 := stT_lt h code i
  rcases Nat.lt_or_ge i xs.length with hk | hk
  · rw [List.getElem?_append_left (by rw [hl]; exact hk)] at a
    rw [List.getElem?_append_left (by rw [paL_length]; exact hk)] at b
    obtain ⟨hu, he⟩ := bit_toNat hbi i
    have e0 : stT xs code i = stK (inI xs code) i := by unfold stT; rw [if_pos (by omega)]
    have e1 : stT xs code (i + 1) = stK (inI xs code) (i + 1) := by unfold stT; rw [if_pos (by omega)]
    have hle : (inI xs code)[i]?.getD 0 ≤ 1 := by omega
    refine ⟨((inI xs code)[i]?.getD 0).toNat, hu, s8, by rw [a]; exact he, ?_, ?_, fun _ => ?_, fun h2 => absurd h2 (by omega)⟩
    · rw [b, e0]
      unfold paL
      simp only [List.getElem?_map, List.getElem?_range hk, Option.map_some, Option.getD_some]
      unfold paK goP
      rw [if_pos hle]
    · rw [e0, e1]
      show goS _ _ = _
      unfold goS
      rw [if_pos hle]
    · refine ⟨(sysN_lt (fun j _ => piK_lt hs j) hc).2 hk, ?_⟩
      rw [← he]
      unfold sysN
      rw [if_pos hk]
      rcases hc with rfl | rfl
      · rfl
      · rw [if_neg (by decide)]
        show _ = (interI xs)[i]?.getD 0
        simp [interI, hk]
  · obtain ⟨j, rfl⟩ : ∃ j, i = xs.length + j := ⟨i - xs.length, by omega⟩
    rw [List.getElem?_append_right (by rw [hl]; omega), hl, Nat.add_sub_cancel_left, tailU_eq] at a
    rw [List.getElem?_append_right (by rw [paL_length]; omega), paL_length, Nat.add_sub_cancel_left, tailZ_eq] at b
    have e0 : stT xs code (xs.length + j) = tsN (stK (inI xs code) xs.length) j := by
      unfold stT
      split
      · obtain rfl : j = 0 := by omega
        rfl
      · rw [Nat.add_sub_cancel_left]
    have e1 : stT xs code (xs.length + j + 1) = tsN (stK (inI xs code) xs.length) (j + 1) := by
      unfold stT
      rw [if_neg (by omega), show xs.length + j + 1 - xs.length = j + 1 by omega]
    refine ⟨tailIn (stT xs code (xs.length + j)), tailIn_lt _, s8, ?_, ?_, ?_, fun h2 => absurd h2 (by omega), fun _ => ⟨?_, rfl⟩⟩
    · rw [a, e0, intsOf_get]
      have : j = 0 ∨ j = 1 ∨ j = 2 := by omega
      rcases this with rfl | rfl | rfl <;> rfl
    · rw [b, e0, intsOf_get]
      have : j = 0 ∨ j = 1 ∨ j = 2 := by omega
      rcases this with rfl | rfl | rfl <;> rfl
    · rw [e0, e1]
      rfl
    · unfold sysN
      rw [if_neg (by omega)]
      exact last3_ge (by omega) (by omega) (by omega)

/-- Of the words ys and ts the elements are the same at the places of the first cd codes and of i steps of the next. -/
def Met (ys ts : List Int) (k cd i : Nat) : Prop := ∀ code j, code = 1 ∨ code = 2 → j < k + 3 → (code < cd + 1 ∨ (code = cd + 1 ∧ j < i)) →
  ys[sysN (piK k) k code j]?.getD 0 = ts[sysN (piK k) k code j]?.getD 0 ∧ ys[parN k code j]?.getD 0 = ts[parN k code j]?.getD 0
section
variable {ys ts : List Int} {k cd i : Nat}
theorem Met.zero : Met ys ts k 0 0 := fun code j hc _ h => by omega
theorem Met.next (h : Met ys ts k cd (k + 3)) : Met ys ts k (cd + 1) 0 := fun code j hc hj ho => h code j hc hj (by omega)
theorem Met.step (h : Met ys ts k cd i) (h1 : ys[sysN (piK k) k (cd + 1) i]?.getD 0 = ts[sysN (piK k) k (cd + 1) i]?.getD 0) (h2 : ys[parN k (cd + 1) i]?.getD 0 = ts[parN k (cd + 1) i]?.getD 0) : Met ys ts k cd (i + 1) := fun code j hc hj ho => by
  by_cases e : code = cd + 1 ∧ j = i
  · obtain ⟨rfl, rfl⟩ := e
    exact ⟨h1, h2⟩
  · exact h code j hc hj (by omega)
theorem set_same {x p : Nat} (h : ys[p]?.getD 0 = ts[p]?.getD 0) (hx : x < ys.length) : (ys.set x (ts[x]?.getD 0))[p]?.getD 0 = ts[p]?.getD 0 := by
  by_cases e : x = p
  · subst e
    rw [List.getElem?_set_self hx]
    rfl
  · rw [List.getElem?_set_ne e]
    exact h
theorem set_here {x : Nat} (hx : x < ys.length) : (ys.set x (ts[x]?.getD 0))[x]?.getD 0 = ts[x]?.getD 0 := by
  rw [List.getElem?_set_self hx]
  rfl
theorem Met.set (h : Met ys ts k cd i) {x : Nat} (hx : x < ys.length) : Met (ys.set x (ts[x]?.getD 0)) ts k cd i := fun code j hc hj ho =>
  ⟨set_same (h code j hc hj ho).1 hx, set_same (h code j hc hj ho).2 hx⟩
theorem cntF_pos {f : Nat → Nat} {x : Nat} : ∀ m, 0 < cntF f m x → ∃ i, i < m ∧ f i = x
  | 0, h => absurd h (Nat.lt_irrefl 0)
  | m + 1, h => by
    rw [cntF_succ] at h
    by_cases e : f m = x
    · exact ⟨m, by omega, e⟩
    · rw [if_neg e] at h
      obtain ⟨i, hi, he⟩ := cntF_pos m h
      exact ⟨i, by omega, he⟩
theorem Met.full (h : Met ys ts k 2 0) (hs : IsSize k) (hy : ys.length = 3 * (k + 4)) (ht : ts.length = 3 * (k + 4)) : ys = ts := by
  refine list_ext0 (by rw [hy, ht]) fun x hx => ?_
  have hm := met_all hs (x := x) (by omega)
  have hp : 0 < metN (piK k) k (k + 3) (k + 3) x := by rw [hm]; split <;> omega
  unfold metN at hp
  by_cases p1 : 0 < cntF (sysN (piK k) k 1) (k + 3) x
  · obtain ⟨j, hj, rfl⟩ := cntF_pos _ p1
    exact (h 1 j (.inl rfl) hj (by omega)).1
  by_cases p2 : 0 < cntF (parN k 1) (k + 3) x
  · obtain ⟨j, hj, rfl⟩ := cntF_pos _ p2
    exact (h 1 j (.inl rfl) hj (by omega)).2
  by_cases p3 : 0 < cntF (sysN (piK k) k 2) (k + 3) x
  · obtain ⟨j, hj, rfl⟩ := cntF_pos _ p3
    exact (h 2 j (.inr rfl) hj (by omega)).1
  · obtain ⟨j, hj, rfl⟩ := cntF_pos (f := parN k 2) (m := k + 3) (x := x) (by omega)
    exact (h 2 j (.inr rfl) hj (by omega)).2
end
/-- The layout's lists, element by element. -/
theorem sysL_length (k code n : Nat) : (sysL k code n).length = n := by simp [sysL]
theorem parLay_length (k code n : Nat) : (parLay k code n).length = n := by simp [parLay]
theorem sysL_get {k code n i : Nat} (h : i < n) : (sysL k code n)[i]?.getD 0 = ((sysN (piK k) k code i : Nat) : Int) := by simp [sysL, h]
theorem parLay_get {k code n i : Nat} (h : i < n) : (parLay k code n)[i]?.getD 0 = ((parN k code i : Nat) : Int) := by simp [parLay, h]
theorem sysL_succ (k code n : Nat) : sysL k code (n + 1) = sysL k code n ++ [((sysN (piK k) k code n : Nat) : Int)] := by simp [sysL, List.range_succ]
theorem parLay_succ (k code n : Nat) : parLay k code (n + 1) = parLay k code n ++ [((parN k code n : Nat) : Int)] := by simp [parLay, List.range_succ]
theorem sysL_three (k code : Nat) : sysL k code (k + 3) = sysL k code k ++ [((k + 2 * (code - 1) : Nat) : Int), ((2 * (k + 4) + (k + 2 * (code - 1)) : Nat) : Int), (((k + 4) + (k + 2 * (code - 1)) + 1 : Nat) : Int)] := by
  rw [sysL_succ, sysL_succ, sysL_succ, List.append_assoc, List.append_assoc]
  have e0 : sysN (piK k) k code k = k + 2 * (code - 1) := by unfold sysN; rw [if_neg (Nat.lt_irrefl k), Nat.sub_self]; rfl
  have e1 : sysN (piK k) k code (k + 1) = 2 * (k + 4) + (k + 2 * (code - 1)) := by unfold sysN; rw [if_neg (by omega), Nat.add_sub_cancel_left]; rfl
  have e2 : sysN (piK k) k code (k + 2) = (k + 4) + (k + 2 * (code - 1)) + 1 := by unfold sysN; rw [if_neg (by omega), Nat.add_sub_cancel_left]; rfl
  rw [e0, e1, e2]
  rfl
theorem parLay_three (k code : Nat) : parLay k code (k + 3) = parLay k code k ++ [(((k + 4) + (k + 2 * (code - 1)) : Nat) : Int), ((k + 2 * (code - 1) + 1 : Nat) : Int), ((2 * (k + 4) + (k + 2 * (code - 1)) + 1 : Nat) : Int)] := by
  rw [parLay_succ, parLay_succ, parLay_succ, List.append_assoc, List.append_assoc]
  have e0 : parN k code k = (k + 4) + (k + 2 * (code - 1)) := by unfold parN; rw [if_neg (Nat.lt_irrefl k), Nat.sub_self]; rfl
  have e1 : parN k code (k + 1) = k + 2 * (code - 1) + 1 := by unfold parN; rw [if_neg (by omega), Nat.add_sub_cancel_left]; rfl
  have e2 : parN k code (k + 2) = 2 * (k + 4) + (k + 2 * (code - 1)) + 1 := by unfold parN; rw [if_neg (by omega), Nat.add_sub_cancel_left]; rfl
  rw [e0, e1, e2]
  rfl
/-- The first k indices: of the input itself, of the interleaved input; of the streams. -/
theorem sysL_one (k : Nat) : sysL k 1 k = (List.range k).map fun i : Nat => (i : Int) := by
  unfold sysL
  refine List.map_congr_left fun i hi => ?_
  unfold sysN
  rw [if_pos (List.mem_range.1 hi), if_pos rfl]
theorem sysL_two (k : Nat) : sysL k 2 k = ordI k k := by
  unfold sysL ordI
  refine List.map_congr_left fun i hi => ?_
  unfold sysN
  rw [if_pos (List.mem_range.1 hi), if_neg (by decide)]
  rfl
theorem parLay_k (k code : Nat) : parLay k code k = (List.range k).map fun i : Nat => ((code * (k + 4) + i : Nat) : Int) := by
  unfold parLay
  refine List.map_congr_left fun i hi => ?_
  unfold parN
  rw [if_pos (List.mem_range.1 hi)]
end

/-! ### Size, inputs, examine. -/
section
set_option maxRecDepth 100000
open Go.RowKit

theorem valid_call {n : Int} {w : World} (hK : Kinds w) : Calls Tryd.prog 32 #[.int .i64 n] w fun e w' => e = .returned (.bool (isB n)) ∧ Below w.heap.size w w' := by
  have := Valid_any (n := n) hK
  rwa [validS_isB] at this
theorem Size_any {k : Int} {w : World} (hK : Kinds w) :
    Calls Tryd.prog 15 #[.int .i64 k] w fun e w' => e = .returned (.int .i64 (sizeS k)) ∧ Below w.heap.size w w' := by
  have hV := Lib.hid (valid_call (n := k) hK)
  clear hK
  by_cases hk : isB k = true
  · obtain ⟨m, rfl, hs⟩ := isB_ex hk
    have hm := size_le hs
    have HE := Lib.hid (sizeS_size hs)
    rw [hk] at hV
    have h1 : (40 : Int) ≤ (m : Int) := by omega
    have h2 : (m : Int) ≤ 6144 := by omega
    clear hk hs
    go_enter Tryd.func15, Tryd.ntmps15
    go_wp2_with (go_at_call 32; refine hV.out.mono ?_; rintro e w1 ⟨rfl, hb1⟩)
    go_ret
    rw [HE.out]
    exact ⟨by go_num, hb1⟩
  · have hk := Bool.eq_false_iff.2 hk
    have HE := Lib.hid (sizeS_no hk)
    rw [hk] at hV
    clear hk
    go_enter Tryd.func15, Tryd.ntmps15
    go_wp2_with (go_at_call 32; refine hV.out.mono ?_; rintro e w1 ⟨rfl, hb1⟩)
    go_ret
    rw [HE.out]
    exact ⟨rfl, hb1⟩
/-- The number of input bits by a word's length. -/
def inpN (n : Nat) : Int := if n % 3 = 0 then ((n / 3 : Nat) : Int) - 4 else 0
theorem inpN_isB (n : Nat) : isB (inpN n) = true ↔ (n % 3 = 0 ∧ isB (((n / 3 : Nat) : Int) - 4) = true) := by
  unfold inpN
  by_cases h : n % 3 = 0
  · rw [if_pos h]; simp [h]
  · rw [if_neg h]
    simp [h, isB_out (n := 0) (by omega)]
theorem inputs_any {n : Nat} {w : World} (hn : n ≤ 2199023255552) : Calls Tryd.prog 33 #[.int .i64 (n : Int)] w fun e w' => e = .returned (.int .i64 (inpN n)) ∧ w' = w := by
  have hq : (n : Int).tdiv 3 = ((n / 3 : Nat) : Int) := by rw [Int.tdiv_eq_ediv_of_nonneg (by omega)]; omega
  have hr : (n : Int).tmod 3 = ((n % 3 : Nat) : Int) := by rw [IntWalk.rem_in _ _ (by omega)]; omega
  have hq1 : n / 3 ≤ 2199023255552 := by omega
  by_cases h3 : n % 3 = 0
  · have HE : Hid (inpN n = ((n / 3 : Nat) : Int) - 4) := Lib.hid (by unfold inpN; rw [if_pos h3])
    rw [h3] at hr
    clear h3
    generalize n / 3 = q at *
    go_enter Tryd.func33, Tryd.ntmps33
    go_wp2_with fail
    go_ret
    rw [HE.out]
    exact ⟨by go_num, rfl⟩
  · have HE : Hid (inpN n = 0) := Lib.hid (by unfold inpN; rw [if_neg h3])
    have hr0 : ¬ ((n % 3 : Nat) : Int) = 0 := by omega
    clear h3
    generalize n / 3 = q at *
    generalize n % 3 = r at *
    go_enter Tryd.func33, Tryd.ntmps33
    go_wp2_with fail
    go_ret
    rw [HE.out]
    exact ⟨rfl, rfl⟩
theorem exam1_any {x : Int} {w : World} (hx : 0 ≤ x ∧ x ≤ 255) : Calls Tryd.prog 38 #[.int .u8 x] w fun e w' => e = .returned (.bool (!decide (x ≤ 1))) ∧ w' = w := by
  by_cases h : x ≤ 1
  · have e : (!decide (x ≤ 1)) = false := by simp [h]
    rw [e]
    have h2 : decide (1 < x) = false := by simp; omega
    go_enter Tryd.func38, Tryd.ntmps38
    go_wp2_with fail
    go_ret
    exact ⟨ret_bool (by first | exact h2 | rfl), rfl⟩
  · have e : (!decide (x ≤ 1)) = true := by simp; omega
    rw [e]
    have h2 : decide (1 < x) = true := by simp; omega
    go_enter Tryd.func38, Tryd.ntmps38
    go_wp2_with fail
    go_ret
    exact ⟨ret_bool (by first | exact h2 | rfl), rfl⟩
set_option maxHeartbeats 1000000 in
theorem indexBig_any {A : Option Addr} {n c B : Nat} {xs : List Int} {w : World} (hR : Rd .u8 w B A n xs) (hb : Byte xs) (hn : n ≤ 2199023255552) :
    Calls Tryd.prog 48 #[.slice A n c, .func (.func 38) #[] #[]] w fun e w' => (∃ r : Int, e = .returned (.int .i64 r) ∧ decide (0 ≤ r) = !validB xs) ∧ w' = w := by
  have HL := Lib.hid hR.len
  have hcl := Lib.hid (fun (x : Int) (hx : 0 ≤ x ∧ x ≤ 255) => exam1_any (w := w) hx)
  have HB := Lib.hid hb
  clear hb
  go_enter Tryd.func48, Tryd.ntmps48
  go_wp2_with fail
  go_loop [8] (fun i => ∃ k : Nat, k ≤ n ∧ i = .int .i64 (k : Int) ∧ Hid (validB (xs.take k) = true)) (fun i => n - (intOf i).toNat)
  case atStart => exact ⟨0, Nat.zero_le _, rfl, Lib.hid rfl⟩
  case round =>
    obtain ⟨k, hk, rfl, hh⟩ := hrel
    by_cases hlt : k < n
    · obtain ⟨b, off, rfl, hbb, hcell⟩ := hR.cells k hlt
      have hkl : k < xs.length := by rw [HL.out]; exact hlt
      have hS := take_snoc xs k hkl 0
      have hx := HB.out k
      have HC := Lib.hid (hcl.out _ hx)
      have hk0 : (0 : Int) ≤ (k : Int) := by omega
      have hk1 : (k : Int) < (n : Int) := by omega
      by_cases hz : xs[k]?.getD 0 ≤ 1
      · have HE : Hid (validB (xs.take (k + 1)) = true) := Lib.hid (by rw [hS, validB_snoc, hh.out]; simpa using hz)
        have e : (!decide (xs[k]?.getD 0 ≤ 1)) = false := by simp [hz]
        rw [e] at HC
        generalize xs[k]?.getD 0 = x at *
        clear hz e hS hR hh hx hcl
        go_wp2_with (go_at_call 38; refine HC.out.mono ?_; rintro e w ⟨rfl, rfl⟩)
        go_round
        case rel => exact ⟨k + 1, by omega, by go_num, HE⟩
        case measure => simp [intOf]; omega
      · have HE : Hid (validB xs = false) := Lib.hid (validB_prefix (k := k + 1) (by rw [hS, validB_snoc]; simp [hz]))
        have e : (!decide (xs[k]?.getD 0 ≤ 1)) = true := by simp [hz]
        rw [e] at HC
        generalize xs[k]?.getD 0 = x at *
        clear hz e hS hR hh hx hcl
        go_wp2_with (go_at_call 38; refine HC.out.mono ?_; rintro e w ⟨rfl, rfl⟩)
        go_ret
        exact ⟨⟨_, rfl, by rw [HE.out]; exact decide_eq_true hk0⟩, rfl⟩
    · obtain rfl : k = n := by omega
      have HE := hh.out
      rw [List.take_of_length_le (Nat.le_of_eq HL.out)] at HE
      have HEE := Lib.hid HE
      clear HE hh hR hlt
      go_wp2_with fail
      go_ret
      exact ⟨⟨_, rfl, by rw [HEE.out]; decide⟩, rfl⟩
theorem containsBig_any {A : Option Addr} {n c B : Nat} {xs : List Int} {w : World} (hR : Rd .u8 w B A n xs) (hb : Byte xs) (hn : n ≤ 2199023255552) :
    Calls Tryd.prog 37 #[.slice A n c, .func (.func 38) #[] #[]] w fun e w' => e = .returned (.bool (!validB xs)) ∧ w' = w := by
  have hI := Lib.hid (indexBig_any (c := c) hR hb hn)
  clear hR hb
  go_enter Tryd.func37, Tryd.ntmps37
  go_wp2_with (go_at_call 48; refine hI.out.mono ?_; rintro e w ⟨⟨r, rfl, hr⟩, rfl⟩)
  go_ret
  exact ⟨ret_bool (by first | exact hr | rfl), rfl⟩
/-- What examine answers. -/
def exS (k : Int) (xs : List Int) : Int := if isB k then (if validB xs then 0 else 3) else 2
theorem examine_any {k : Int} {A : Option Addr} {n c : Nat} {xs : List Int} {w : World} (hK : Kinds w) (hR : Rd .u8 w w.heap.size A n xs) (hb : Byte xs) (hn : n ≤ 2199023255552) :
    Calls Tryd.prog 27 #[.int .i64 k, .slice A n c] w fun e w' => e = .returned (.int .i64 (exS k xs)) ∧ Below w.heap.size w w' := by
  have hV := Lib.hid (valid_call (n := k) hK)
  have hC := Lib.hid (fun (u : World) (h : Below w.heap.size w u) => containsBig_any (c := c) (hR.below h) hb hn)
  clear hK hR hb
  by_cases hk : isB k = true
  · rw [hk] at hV
    by_cases hv : validB xs = true
    · have HE : Hid (exS k xs = 0) := Lib.hid (by unfold exS; rw [hk, hv]; rfl)
      rw [hv, Bool.not_true] at hC
      clear hk hv
      go_enter Tryd.func27, Tryd.ntmps27
      go_wp2
      refine wp_scope_forward 0 rfl ?_
      go_wp2_with (go_at_call 32; refine hV.out.mono ?_; rintro e w1 ⟨rfl, hb1⟩)
      go_wp2_with (go_at_call 37; refine (hC.out _ hb1).mono ?_; rintro e w2 ⟨rfl, rfl⟩)
      refine jump_ret ?_
      go_ret
      rw [HE.out]
      exact ⟨rfl, hb1⟩
    · have hv := Bool.eq_false_iff.2 hv
      have HE : Hid (exS k xs = 3) := Lib.hid (by unfold exS; rw [hk, hv]; rfl)
      rw [hv, Bool.not_false] at hC
      clear hk hv
      go_enter Tryd.func27, Tryd.ntmps27
      go_wp2
      refine wp_scope_forward 0 rfl ?_
      go_wp2_with (go_at_call 32; refine hV.out.mono ?_; rintro e w1 ⟨rfl, hb1⟩)
      go_wp2_with (go_at_call 37; refine (hC.out _ hb1).mono ?_; rintro e w2 ⟨rfl, rfl⟩)
      go_step3
      refine ⟨rfl, ?_⟩
      go_wp2_with fail
      rw [Exit.noGoto_ret]
      go_ret
      rw [HE.out]
      exact ⟨rfl, hb1⟩
  · have hk := Bool.eq_false_iff.2 hk
    have HE : Hid (exS k xs = 2) := Lib.hid (by unfold exS; rw [hk]; rfl)
    rw [hk] at hV
    clear hk hC
    go_enter Tryd.func27, Tryd.ntmps27
    go_wp2
    refine wp_scope_forward 0 rfl ?_
    go_wp2_with (go_at_call 32; refine hV.out.mono ?_; rintro e w1 ⟨rfl, hb1⟩)
    go_step3
    refine ⟨rfl, ?_⟩
    go_wp2_with fail
    rw [Exit.noGoto_ret]
    go_ret
    rw [HE.out]
    exact ⟨rfl, hb1⟩
end

/-! ### The lists of indices: list at both of its types with encoders's closures. -/
section
set_option maxRecDepth 100000
open Go.RowKit

theorem enc1_any {x : Int} {w : World} : Calls Tryd.prog 50 #[.int .i64 x] w fun e w' => e = .returned (.int .i64 x) ∧ w' = w := by
  go_enter Tryd.func50, Tryd.ntmps50
  go_wp2_with fail
  go_ret
  exact ⟨rfl, rfl⟩
/-- A slice of a call's own: its block's cells, all of them. -/
theorem own_cell {q : IntKind} {w W : World} {T : TypeId} {n j : Nat} {xs : List Int} (h : W.ownsRow w.heap.size T 1 (.slice (some ⟨w.heap.size, 0, none⟩) n n) n (xs.map (Value.int q))) (hj : j < n) : W.cell? ⟨w.heap.size, j, none⟩ = some (.int q (xs[j]?.getD 0)) := by
  obtain ⟨b2, off2, e2, _, hc2⟩ := (Rd.of_own h).cells j hj
  injection e2 with e2
  injection e2 with e2 e3
  subst e2 e3
  rwa [Nat.zero_add] at hc2
set_option maxHeartbeats 2000000 in
theorem listIdx_any {n : Nat} {w : World} (hn : n ≤ 100000) :
    Calls Tryd.prog 49 #[.int .i64 (n : Int), .func (.func 50) #[] #[]] w fun e w' => e = .returned (.slice (some ⟨w.heap.size, 0, none⟩) n n) ∧
      w'.ownsRow w.heap.size 3 1 (.slice (some ⟨w.heap.size, 0, none⟩) n n) n ((fillL (fun i : Nat => (i : Int)) n n).map (Value.int .i64)) ∧ Below w.heap.size w w' := by
  have hmk := make_ints n (by omega)
  have HZ : Hid ((w.alloc (.cells (madeCells #[.int .i64 0] n) 3)).ownsRow w.heap.size 3 1 (.slice (some ⟨w.heap.size, 0, none⟩) n n) n ((fillL (fun i : Nat => (i : Int)) n 0).map (Value.int .i64)) ∧ Below w.heap.size w (w.alloc (.cells (madeCells #[.int .i64 0] n) 3))) := Lib.hid ⟨by
    rw [fillL_zero]; exact own_zeros_q (Nat.le_refl _) (by omega), (Below.refl _ w).alloc (Nat.le_refl _) _⟩
  have hcl := Lib.hid (fun (x : Int) (u : World) => enc1_any (x := x) (w := u))
  go_enter Tryd.func49, Tryd.ntmps49
  go_wp2_with fail
  generalize w.alloc (.cells (madeCells #[.int .i64 0] n) 3) = W0 at *
  go_loopw [11] (fun i W => ∃ j : Nat, j ≤ n ∧ i = .int .i64 (j : Int) ∧ Hid (W.ownsRow w.heap.size 3 1 (.slice (some ⟨w.heap.size, 0, none⟩) n n) n ((fillL (fun i : Nat => (i : Int)) n j).map (Value.int .i64)) ∧ Below w.heap.size w W)) (fun i _ => n - (intOf i).toNat)
  case atStart => exact ⟨0, Nat.zero_le _, rfl, HZ⟩
  case round =>
    clear HZ
    obtain ⟨j, hj, rfl, hH⟩ := hrel
    by_cases hlt : j < n
    · have hc2 := own_cell hH.out.1 hlt
      have hfr := hH.out.1.frozenAt j
      have hst := (hH.out.1.stored j (.int .i64 (j : Int))).1
      have hs := fillL_succ (fun i : Nat => (i : Int)) n j
      rw [← List.map_set, hs] at hst
      have hb2 := hH.out.2.setCell (p := ⟨w.heap.size, j, none⟩) (Nat.le_refl _) (.int .i64 (j : Int))
      have H2 := Lib.hid (And.intro hst hb2)
      have hj0 : (0 : Int) ≤ (j : Int) := by omega
      have hj1 : (j : Int) < (n : Int) := by omega
      clear hst hb2 hs hH hmk
      go_wp2_with (go_at_call 50; refine (hcl.out _ _).mono ?_; rintro e w2 ⟨rfl, he⟩; obtain rfl := he.symm)
      go_roundw
      case rel => exact ⟨j + 1, by omega, by go_num, H2⟩
      case measure => simp [intOf]; omega
    · obtain rfl : j = n := by omega
      have HO := Lib.hid hH.out
      have hj0 : ¬ (j : Int) < (j : Int) := by omega
      clear hH
      go_wp2_with fail
      go_ret
      exact ⟨rfl, HO.out.1, HO.out.2⟩
/-- The headers of the three streams. -/
def hdr3 (I n s : Nat) : Value := .slice (some ⟨I, s * n, none⟩) n n
theorem slice_cut3 {I n c p q : Nat} (h1 : p < q) (h2 : q ≤ c) (u : World) : (Instr.slice 36 (.slice (some ⟨I, 0, none⟩) n c) (some (.int .i64 (p : Int))) (some (.int .i64 (q : Int))) (some (.int .i64 (q : Int)))).run Tryd.prog u = .ok (.slice (some ⟨I, p, none⟩) (q - p) (q - p)) u := by
  have e1 : p ≤ q := by omega
  have e2 : ¬ q = p := by omega
  simp [Instr.slice, Instr.sliceBounds, Instr.sliceBound, run_underlying Tryd.underlying36, asIntOf, go_sem, h2, e1, e2]
theorem enc2_any {I C D n s : Nat} {w : World} (hs : s < 3) (hn0 : 0 < n) (hn : n ≤ 100000) (hI : w.cell? ⟨C, 0, none⟩ = some (.slice (some ⟨I, 0, none⟩) (3 * n) (3 * n))) (hD : w.cell? ⟨D, 0, none⟩ = some (.int .i64 (n : Int))) :
    Calls Tryd.prog 52 #[.int .i64 (s : Int), .pointer (some ⟨C, 0, none⟩), .pointer (some ⟨D, 0, none⟩)] w fun e w' => e = .returned (hdr3 I n s) ∧ w' = w := by
  have hle : s * n + n ≤ 3 * n := by
    have : s = 0 ∨ s = 1 ∨ s = 2 := by omega
    rcases this with rfl | rfl | rfl <;> omega
  have hrun := slice_cut3 (I := I) (n := 3 * n) (c := 3 * n) (p := s * n) (q := s * n + n) (by omega) hle
  rw [Nat.add_sub_cancel_left] at hrun
  have he1 : (s : Int) * (n : Int) = ((s * n : Nat) : Int) := by push_cast; rfl
  have he2 : ((s : Int) + 1) * (n : Int) = ((s * n + n : Nat) : Int) := by push_cast; rw [Int.add_mul, Int.one_mul]
  have hw1 : wrap64 ((s * n : Nat) : Int) = ((s * n : Nat) : Int) := IntWalk.wrap64_in _ (by omega)
  have hw2 : wrap64 ((s * n + n : Nat) : Int) = ((s * n + n : Nat) : Int) := IntWalk.wrap64_in _ (by omega)
  unfold hdr3
  generalize hp : s * n = p at *
  generalize hq : p + n = q at *
  have hs1 : (s : Int) < 3 := by omega
  have hs0 : (0 : Int) ≤ (s : Int) := by omega
  generalize 3 * n = m at *
  clear hp hq hs
  go_enter Tryd.func52, Tryd.ntmps52
  go_wp2_with fail
  go_ret
  exact ⟨rfl, rfl⟩
theorem Tryd.info_ints : (Tryd.prog.info? 36).map (fun i => (i.zero, i.size, i.bytes)) = some (some (.slice none 0 0), 1, 24) := by kernel_rfl
theorem make_three (u : World) : (Instr.makeSlice 89 (.int .i64 3) (.int .i64 3)).run Tryd.prog u =
    .ok (.slice (some ⟨u.heap.size, 0, none⟩) 3 3) (u.alloc (.cells #[.slice none 0 0, .slice none 0 0, .slice none 0 0] 36)) := by
  obtain ⟨i0, hi, hz0, hz1, hz2⟩ := info_q Tryd.info_ints
  have h := run_make (P := Tryd.prog) u 89 36 i0 (.slice none 0 0) Tryd.underlying89 hi hz0 .i64 .i64 (3 : Int) (3 : Int) (by omega) (by omega) (by rw [hz2]; omega) (by omega)
  have e : madeCells (Value.slice none 0 0).cells 3 = #[.slice none 0 0, .slice none 0 0, .slice none 0 0] := by
    apply Array.ext
    · simp [madeCells]
    · intro i h1 h2
      have : i = 0 ∨ i = 1 ∨ i = 2 := by simp at h2; omega
      rcases this with rfl | rfl | rfl <;> simp [madeCells, Value.cells]
  simpa [hz1, e] using h
/-- Three headers, the first k of which are there. -/
def up3 (f : Nat → Value) (k j : Nat) : Value := if j < k then f j else .slice none 0 0
def SL3 (w : World) (S : Nat) (f : Nat → Value) (k : Nat) : Prop := Three w S 36 (up3 f k 0) (up3 f k 1) (up3 f k 2)
theorem SL3.set {w : World} {S k : Nat} {f : Nat → Value} (h : SL3 w S f k) (hk : k < 3) : SL3 (w.setCell ⟨S, k, none⟩ (f k)) S f (k + 1) := by
  have : k = 0 ∨ k = 1 ∨ k = 2 := by omega
  rcases this with rfl | rfl | rfl
  · exact Three.set0 h (f 0)
  · exact Three.set1 h (f 1)
  · exact Three.set2 h (f 2)
theorem SL3.cell {w : World} {S k j : Nat} {f : Nat → Value} (h : SL3 w S f k) (hj : j < 3) : ∃ v, w.cell? ⟨S, j, none⟩ = some v := by
  have : j = 0 ∨ j = 1 ∨ j = 2 := by omega
  rcases this with rfl | rfl | rfl
  · exact ⟨_, Three.cell0 h⟩
  · exact ⟨_, Three.cell1 h⟩
  · exact ⟨_, Three.cell2 h⟩
set_option maxHeartbeats 2000000 in
theorem listRows_any {I C D n : Nat} {w : World} (hn0 : 0 < n) (hn : n ≤ 100000) (hC : Boxed w C 36 (.slice (some ⟨I, 0, none⟩) (3 * n) (3 * n))) (hD : Boxed w D 3 (.int .i64 (n : Int))) :
    Calls Tryd.prog 51 #[.int .i64 3, .func (.func 52) #[] #[.pointer (some ⟨C, 0, none⟩), .pointer (some ⟨D, 0, none⟩)]] w fun e w' => e = .returned (.slice (some ⟨w.heap.size, 0, none⟩) 3 3) ∧
      Three w' w.heap.size 36 (hdr3 I n 0) (hdr3 I n 1) (hdr3 I n 2) ∧ Below w.heap.size w w' := by
  have hmk := make_three
  have HZ : Hid (SL3 (w.alloc (.cells #[.slice none 0 0, .slice none 0 0, .slice none 0 0] 36)) w.heap.size (hdr3 I n) 0 ∧ Below w.heap.size w (w.alloc (.cells #[.slice none 0 0, .slice none 0 0, .slice none 0 0] 36))) := Lib.hid ⟨Three.new _ _ _ _ _, (Below.refl _ w).alloc (Nat.le_refl _) _⟩
  have hcl := Lib.hid (fun (s : Nat) (u : World) (hs : s < 3) (hb : Below w.heap.size w u) => enc2_any (w := u) hs hn0 hn (Boxed.below hC hb hC.lt).cell (Boxed.below hD hb hD.lt).cell)
  have HF : Hid (∀ W, SL3 W w.heap.size (hdr3 I n) 3 → Three W w.heap.size 36 (hdr3 I n 0) (hdr3 I n 1) (hdr3 I n 2)) := Lib.hid fun W h => h
  clear hC hD
  have HP : Hid (∀ j, ∃ p, hdr3 I n j = .slice (some ⟨I, p, none⟩) n n) := Lib.hid fun j => ⟨j * n, rfl⟩
  generalize hdr3 I n = f at *
  go_enter Tryd.func51, Tryd.ntmps51
  go_wp2_with fail
  generalize w.alloc (.cells #[.slice none 0 0, .slice none 0 0, .slice none 0 0] 36) = W0 at *
  go_loopw [11] (fun i W => ∃ j : Nat, j ≤ 3 ∧ i = .int .i64 (j : Int) ∧ Hid (SL3 W w.heap.size f j ∧ Below w.heap.size w W)) (fun i _ => 3 - (intOf i).toNat)
  case atStart => exact ⟨0, Nat.zero_le _, rfl, HZ⟩
  case round =>
    clear HZ
    obtain ⟨j, hj, rfl, hH⟩ := hrel
    by_cases hlt : j < 3
    · obtain ⟨v, hc2⟩ := hH.out.1.cell hlt
      have hfr := Three.frozen hH.out.1 j
      have H2 := Lib.hid (And.intro (hH.out.1.set hlt) (hH.out.2.setCell (p := ⟨w.heap.size, j, none⟩) (Nat.le_refl _) (f j)))
      have HC := Lib.hid (hcl.out j wr hlt hH.out.2)
      have hj0 : (0 : Int) ≤ (j : Int) := by omega
      have hj1 : (j : Int) < 3 := by omega
      obtain ⟨p, hp⟩ := HP.out j
      rw [hp] at HC H2
      clear hH hmk hcl hp
      go_wp2_with (go_at_call 52; refine HC.out.mono ?_; rintro e w2 ⟨rfl, he⟩; obtain rfl := he.symm)
      go_roundw
      case rel => exact ⟨j + 1, by omega, by go_num, H2⟩
      case measure => simp [intOf]; omega
    · obtain rfl : j = 3 := by omega
      have HO := Lib.hid hH.out
      clear hH
      go_wp2_with fail
      go_ret
      exact ⟨rfl, HF.out _ HO.out.1, HO.out.2⟩
end

/-! ### tails. -/
section
set_option maxRecDepth 100000
open Go.RowKit

/-- The i-th index of the tails. -/
def tailAt (k i : Nat) : Nat := i % 3 * (k + 4) + (k + i / 3)
/-- The streams: the boxes, the headers, the indices. -/
structure Strm (w : World) (B SB S KB I k : Nat) : Prop where
  sbox : Boxed w SB 89 (.slice (some ⟨S, 0, none⟩) 3 3)
  kbox : Boxed w KB 3 (.int .i64 (k : Int))
  rows : Three w S 36 (hdr3 I (k + 4) 0) (hdr3 I (k + 4) 1) (hdr3 I (k + 4) 2)
  idx : ∀ j, j < 3 * (k + 4) → w.cell? ⟨I, j, none⟩ = some (.int .i64 (j : Int))
  lt : SB < B ∧ KB < B ∧ S < B ∧ I < B
theorem Strm.below {w w' : World} {B SB S KB I k : Nat} (h : Strm w B SB S KB I k) (hb : Below B w w') : Strm w' B SB S KB I k := by
  obtain ⟨l1, l2, l3, l4⟩ := h.lt
  exact ⟨Boxed.below h.sbox hb l1, Boxed.below h.kbox hb l2, h.rows.below hb l3, fun j hj => (hb.cell (p := ⟨I, j, none⟩) l4).trans (h.idx j hj), h.lt⟩
theorem Strm.row {w : World} {B SB S KB I k r : Nat} (h : Strm w B SB S KB I k) (hr : r < 3) : w.cell? ⟨S, r, none⟩ = some (.slice (some ⟨I, r * (k + 4), none⟩) (k + 4) (k + 4)) := by
  have : r = 0 ∨ r = 1 ∨ r = 2 := by omega
  rcases this with rfl | rfl | rfl
  · exact h.rows.cell0
  · exact h.rows.cell1
  · exact h.rows.cell2
set_option maxHeartbeats 2000000 in
theorem tails1_any {B SB S KB I k i : Nat} {w : World} (h : Strm w B SB S KB I k) (hi : i < 12) (hk : k ≤ 6144) :
    Calls Tryd.prog 63 #[.int .i64 (i : Int), .pointer (some ⟨SB, 0, none⟩), .pointer (some ⟨KB, 0, none⟩)] w fun e w' => e = .returned (.int .i64 (tailAt k i : Nat)) ∧ ∃ m, w' = w.drewN m := by
  have hr3 : i % 3 < 3 := Nat.mod_lt _ (by decide)
  have hd4 : i / 3 < 4 := by omega
  have c1 := h.sbox.cell
  have c2 := h.kbox.cell
  have c3 := h.row hr3
  have hin : i % 3 * (k + 4) + (k + i / 3) < 3 * (k + 4) := by
    have : i % 3 = 0 ∨ i % 3 = 1 ∨ i % 3 = 2 := by omega
    rcases this with e | e | e <;> rw [e] <;> omega
  have c4 := h.idx _ hin
  have hq : (i : Int).tdiv 3 = ((i / 3 : Nat) : Int) := by rw [Int.tdiv_eq_ediv_of_nonneg (by omega)]; omega
  have hr : (i : Int).tmod 3 = ((i % 3 : Nat) : Int) := by rw [IntWalk.rem_in _ _ (by omega)]; omega
  have hlt : k + i / 3 < k + 4 := by omega
  have hsum : (k : Int) + ((i / 3 : Nat) : Int) = ((k + i / 3 : Nat) : Int) := by omega
  have hbig : k + i / 3 ≤ 10000 := by omega
  unfold tailAt
  generalize i % 3 = r at *
  generalize i / 3 = d at *
  generalize k + d = x at *
  generalize k + 4 = n at *
  generalize r * n = p at *
  have hv : ((p + x : Nat) : Int) = (p : Int) + (x : Int) := by omega
  rw [hv] at c4 ⊢
  clear hv
  have hw1 : IntKind.i64.wrap (d : Int) = (d : Int) := by rw [IntWalk.i64_in _ (by omega)]
  have hw2 : IntKind.i64.wrap (r : Int) = (r : Int) := by rw [IntWalk.i64_in _ (by omega)]
  have hw3 : IntKind.i64.wrap (x : Int) = (x : Int) := by rw [IntWalk.i64_in _ (by omega)]
  have b1 : (0 : Int) ≤ (r : Int) := by omega
  have b2 : (r : Int) < 3 := by omega
  have b3 : (0 : Int) ≤ (x : Int) := by omega
  have b4 : (x : Int) < (n : Int) := by omega
  clear h hi hin
  go_enter Tryd.func63, Tryd.ntmps63
  go_wp2_with fail
  go_quiet (fail)
  go_wp2_with fail
  go_ret
  exact ⟨rfl, _, rfl⟩
/-- The tails' indices. -/
def tailF (k i : Nat) : Int := ((tailAt k i : Nat) : Int)
set_option maxHeartbeats 2000000 in
theorem listTail_any {SB S KB I k : Nat} {w : World} (h : Strm w w.heap.size SB S KB I k) (hk : k ≤ 6144) :
    Calls Tryd.prog 49 #[.int .i64 12, .func (.func 63) #[] #[.pointer (some ⟨SB, 0, none⟩), .pointer (some ⟨KB, 0, none⟩)]] w fun e w' => e = .returned (.slice (some ⟨w.heap.size, 0, none⟩) 12 12) ∧
      w'.ownsRow w.heap.size 3 1 (.slice (some ⟨w.heap.size, 0, none⟩) 12 12) 12 ((fillL (tailF k) 12 12).map (Value.int .i64)) ∧ Below w.heap.size w w' := by
  have hmk := make_ints 12 (by omega)
  have HZ : Hid ((w.alloc (.cells (madeCells #[.int .i64 0] 12) 3)).ownsRow w.heap.size 3 1 (.slice (some ⟨w.heap.size, 0, none⟩) 12 12) 12 ((fillL (tailF k) 12 0).map (Value.int .i64)) ∧ Below w.heap.size w (w.alloc (.cells (madeCells #[.int .i64 0] 12) 3))) := Lib.hid ⟨by
    rw [fillL_zero]; exact own_zeros_q (Nat.le_refl _) (by omega), (Below.refl _ w).alloc (Nat.le_refl _) _⟩
  have hcl := Lib.hid (fun (j : Nat) (u : World) (hj : j < 12) (hb : Below w.heap.size w u) => tails1_any (i := j) (h.below hb) hj hk)
  simp only [Int.cast_ofNat_Int] at hmk
  clear h
  go_enter Tryd.func49, Tryd.ntmps49
  go_wp2_with fail
  generalize w.alloc (.cells (madeCells #[.int .i64 0] 12) 3) = W0 at *
  go_loopw [11] (fun i W => ∃ j : Nat, j ≤ 12 ∧ i = .int .i64 (j : Int) ∧ Hid (W.ownsRow w.heap.size 3 1 (.slice (some ⟨w.heap.size, 0, none⟩) 12 12) 12 ((fillL (tailF k) 12 j).map (Value.int .i64)) ∧ Below w.heap.size w W)) (fun i _ => 12 - (intOf i).toNat)
  case atStart => exact ⟨0, Nat.zero_le _, rfl, HZ⟩
  case round =>
    clear HZ
    obtain ⟨j, hj, rfl, hH⟩ := hrel
    by_cases hlt : j < 12
    · have HC := Lib.hid (hcl.out j wr hlt hH.out.2)
      have hj0 : (0 : Int) ≤ (j : Int) := by omega
      have hj1 : (j : Int) < 12 := by omega
      clear hmk hcl
      go_wp2_with fail
      refine HC.out.mono ?_
      rintro e w2 ⟨rfl, m, rfl⟩
      have ho : (wr.drewN m).ownsRow w.heap.size 3 1 (.slice (some ⟨w.heap.size, 0, none⟩) 12 12) 12 ((fillL (tailF k) 12 j).map (Value.int .i64)) := hH.out.1
      have hc2 := own_cell ho hlt
      have hfr := ho.frozenAt j
      have hst := (ho.stored j (.int .i64 ((tailAt k j : Nat) : Int))).1
      have hs := fillL_succ (tailF k) 12 j
      rw [show tailF k j = ((tailAt k j : Nat) : Int) from rfl] at hs
      rw [← List.map_set, hs] at hst
      have hb2 := (below_drewN hH.out.2 m).setCell (p := ⟨w.heap.size, j, none⟩) (Nat.le_refl _) (.int .i64 ((tailAt k j : Nat) : Int))
      have H2 := Lib.hid (And.intro hst hb2)
      clear hst hb2 hs hH HC ho
      generalize tailAt k j = v at *
      generalize wr.drewN m = wd at *
      go_wp2_with fail
      go_roundw
      case rel => exact ⟨j + 1, by omega, by go_num, H2⟩
      case measure => simp [intOf]; omega
    · obtain rfl : j = 12 := by omega
      have HO := Lib.hid hH.out
      clear hH
      go_wp2_with fail
      go_ret
      exact ⟨rfl, HO.out.1, HO.out.2⟩
theorem tails_any {S I k : Nat} {w : World} (hrows : Three w S 36 (hdr3 I (k + 4) 0) (hdr3 I (k + 4) 1) (hdr3 I (k + 4) 2)) (hidx : ∀ j, j < 3 * (k + 4) → w.cell? ⟨I, j, none⟩ = some (.int .i64 (j : Int))) (hI : I < w.heap.size) (hk : k ≤ 6144) :
    Calls Tryd.prog 53 #[.int .i64 (k : Int), .slice (some ⟨S, 0, none⟩) 3 3] w fun e w' => e = .returned (.slice (some ⟨w.heap.size + 2, 0, none⟩) 12 12) ∧
      w'.ownsRow w.heap.size 3 1 (.slice (some ⟨w.heap.size + 2, 0, none⟩) 12 12) 12 ((fillL (tailF k) 12 12).map (Value.int .i64)) ∧ Below w.heap.size w w' := by
  have b0 := Boxed.new w 3 (.int .i64 (k : Int))
  have b1 := b0.alloc (.cells #[.slice (some ⟨S, 0, none⟩) 3 3] 89)
  have b2 := Boxed.new (w.alloc (.cells #[.int .i64 (k : Int)] 3)) 89 (.slice (some ⟨S, 0, none⟩) 3 3)
  have hs2 : ((w.alloc (.cells #[.int .i64 (k : Int)] 3)).alloc (.cells #[.slice (some ⟨S, 0, none⟩) 3 3] 89)).heap.size = w.heap.size + 2 := by simp
  have hb2 : Below w.heap.size w ((w.alloc (.cells #[.int .i64 (k : Int)] 3)).alloc (.cells #[.slice (some ⟨S, 0, none⟩) 3 3] 89)) := below_two _ _
  rw [World.size_alloc] at b2
  have hst : Strm ((w.alloc (.cells #[.int .i64 (k : Int)] 3)).alloc (.cells #[.slice (some ⟨S, 0, none⟩) 3 3] 89)) (w.heap.size + 2) (w.heap.size + 1) S w.heap.size I k :=
    ⟨b2, b1, hrows.below hb2 hrows.lt, fun j hj => (hb2.cell (p := ⟨I, j, none⟩) hI).trans (hidx j hj), by omega, by omega, by have := hrows.lt; omega, by omega⟩
  have c1 := b2.cell
  rw [← hs2] at hst
  have hL := Lib.hid (listTail_any hst hk)
  rw [hs2] at hL
  clear hst hrows hidx b0 b1 b2
  have hmf := makeFunc_run
  have HF : Hid (∀ W, Below (w.heap.size + 2) ((w.alloc (.cells #[.int .i64 (k : Int)] 3)).alloc (.cells #[.slice (some ⟨S, 0, none⟩) 3 3] 89)) W → Below w.heap.size w W) := Lib.hid fun W h => hb2.trans (h.mono (by omega))
  clear hb2
  go_enter Tryd.func53, Tryd.ntmps53
  go_wp2_with fail
  generalize (w.alloc (.cells #[.int .i64 (k : Int)] 3)).alloc (.cells #[.slice (some ⟨S, 0, none⟩) 3 3] 89) = W2 at *
  go_wp2_with fail
  refine hL.out.mono ?_
  rintro e w3 ⟨rfl, ho, hb⟩
  have HO := Lib.hid (And.intro (ho.mono (show w.heap.size ≤ w.heap.size + 2 by omega)) (HF.out _ hb))
  clear ho hb
  go_wp2_with fail
  go_ret
  exact ⟨rfl, HO.out.1, HO.out.2⟩
end

/-! ### Single operations, run with a frame of which some slots are known. -/
section
set_option maxRecDepth 100000
open Go.RowKit

section
variable {ρ : Operand → Value} {w : World} {dst : Option Tmp} {ty : TypeId} {pos : String} {after : Array Edge} {guard : Option (Nat × Bool)} {x ix : Operand}
theorem ex_move {P : Program} {v : Value} (h : ρ x = v) : (execOp ρ { dst := dst, op := .move x, type := ty, pos := pos, after := after, guard := guard }).run P w = .ok (.value v) w := by
  subst h; rfl
theorem ex_load_int {b off : Nat} {v : Int} (hx : ρ x = .pointer (some ⟨b, off, none⟩)) (hc : w.cell? ⟨b, off, none⟩ = some (.int .i64 v)) :
    (execOp ρ { dst := dst, op := .load 3 x, type := ty, pos := pos, after := after, guard := guard }).run Tryd.prog w = .ok (.value (.int .i64 v)) w := by
  simp [execOp, hx, hc, go_sem]
theorem ex_load_ints {b off n c : Nat} {A : Option Addr} (hx : ρ x = .pointer (some ⟨b, off, none⟩)) (hc : w.cell? ⟨b, off, none⟩ = some (.slice A n c)) :
    (execOp ρ { dst := dst, op := .load 36 x, type := ty, pos := pos, after := after, guard := guard }).run Tryd.prog w = .ok (.value (.slice A n c)) w := by
  simp [execOp, hx, hc, go_sem]
theorem ex_index_ints {b n c j : Nat} {z : Int} (hz : z = (j : Int)) (hx : ρ x = .slice (some ⟨b, 0, none⟩) n c) (hi : ρ ix = .int .i64 z) (hj : j < n) :
    (execOp ρ { dst := dst, op := .indexAddr 36 x ix, type := ty, pos := pos, after := after, guard := guard }).run Tryd.prog w = .ok (.value (.pointer (some ⟨b, j, none⟩))) w := by
  subst hz
  have h2 : (j : Int) < (n : Int) := by omega
  simp [execOp, hx, hi, h2, go_sem, Addr.add_lit]
theorem ex_index_rows {b n c j : Nat} {z : Int} (hz : z = (j : Int)) (hx : ρ x = .slice (some ⟨b, 0, none⟩) n c) (hi : ρ ix = .int .i64 z) (hj : j < n) :
    (execOp ρ { dst := dst, op := .indexAddr 89 x ix, type := ty, pos := pos, after := after, guard := guard }).run Tryd.prog w = .ok (.value (.pointer (some ⟨b, j, none⟩))) w := by
  subst hz
  have h2 : (j : Int) < (n : Int) := by omega
  simp [execOp, hx, hi, h2, go_sem, Addr.add_lit]
theorem slice_front3i {A : Option Addr} {n c m : Nat} (hm : m ≤ c) (u : World) : (Instr.slice 36 (.slice A n c) none (some (.int .i64 (m : Int))) (some (.int .i64 (m : Int)))).run Tryd.prog u = .ok (.slice A m m) u := by
  rcases A with _ | a
  · simp [Instr.slice, Instr.sliceBounds, Instr.sliceBound, run_underlying Tryd.underlying36, asIntOf, go_sem, hm]
  · simp [Instr.slice, Instr.sliceBounds, Instr.sliceBound, run_underlying Tryd.underlying36, asIntOf, go_sem, hm]
theorem ex_cut {A : Option Addr} {n c m : Nat} {h1 h2 : Operand} (hx : ρ x = .slice A n c) (e1 : ρ h1 = .int .i64 (m : Int)) (e2 : ρ h2 = .int .i64 (m : Int)) (hm : m ≤ c) :
    (execOp ρ { dst := dst, op := .slice 36 x none (some h1) (some h2), type := ty, pos := pos, after := after, guard := guard }).run Tryd.prog w = .ok (.value (.slice A m m)) w := by
  have := slice_front3i (A := A) (n := n) hm w
  simp [execOp, hx, e1, e2, Instr.sliceAt, run_underlying Tryd.underlying36, this]
theorem ex_three {a b c : Operand} {u v z : Int} (ha : ρ a = .int .i64 u) (hb : ρ b = .int .i64 v) (hc : ρ c = .int .i64 z) :
    (execOp ρ { dst := dst, op := .buildSlice 36 3 #[(0, a), (1, b), (2, c)], type := ty, pos := pos, after := after, guard := guard }).run Tryd.prog w = .ok (.value (.slice (some ⟨w.heap.size, 0, none⟩) 3 3)) (w.alloc (.cells #[.int .i64 u, .int .i64 v, .int .i64 z] 3)) := by
  simp [execOp, ha, hb, hc, go_sem]
/-- A list of a call's own, or a later one. -/
def NewI (H k : Nat) (xs : List Int) (v : Value) (w : World) : Prop := ∃ A c, v = .slice A k c ∧ Rd .i64 w w.heap.size A k xs ∧ (∀ a, A = some a → H ≤ a.block) ∧ k ≤ c
theorem NewI.grown {H k : Nat} {xs : List Int} {v : Value} {w w' : World} (h : NewI H k xs v w) (hg : w.grownBy w' none) : NewI H k xs v w' := by
  obtain ⟨A, c, e, h1, h2⟩ := h
  exact ⟨A, c, e, (h1.grown hg (Nat.le_refl _) (fun g e => by cases e)).more hg.size, h2⟩
/-- append of three integers onto a slice without room. -/
theorem ex_append {b : Addr} {g n : Nat} {xs : List Int} {B : Nat} {u v z : Int} {s t : Operand} (hs : ρ s = .slice (some b) n n) (ht : ρ t = .slice (some ⟨g, 0, none⟩) 3 3) (hR : Rd .i64 w B (some b) n xs) (hn0 : 0 < n) (hn : n ≤ 100000)
    (hg : w.heap[g]? = some (.cells #[.int .i64 u, .int .i64 v, .int .i64 z] 3)) {H : Nat} (hH : H ≤ w.heap.size) :
    ∃ val w', (execOp ρ { dst := dst, op := .call { callee := .builtin .append, args := #[s, t], argTypes := #[36, 36] }, type := 36, pos := pos, after := after, guard := guard }).run Tryd.prog w = .ok (.value val) w' ∧ NewI H (n + 3) (xs ++ [u, v, z]) val w' ∧ w.grownBy w' none := by
  obtain ⟨i0, hi, hz0, hz1, hz2⟩ := info_q Tryd.info_int
  have hrun := run_append_grow (P := Tryd.prog) (w := w) 36 36 3 i0 (.int .i64 0) Tryd.underlying36 hi hz0 b n n (xs.map (Value.int .i64)) (by simp [hR.len, hz1])
    (fun j y hy => by
      rw [List.getElem?_map] at hy
      obtain ⟨y0, hy0, rfl⟩ := Option.map_eq_some_iff.1 hy
      obtain ⟨hj, _⟩ := List.getElem?_eq_some_iff.1 hy0
      obtain ⟨b', off', he, _, hc⟩ := hR.cells j (by rw [← hR.len]; exact hj)
      injection he with he
      subst he
      rw [hy0] at hc
      rw [Addr.add_lit]
      exact hc)
    ⟨g, 0, none⟩ 3 3 [.int .i64 u, .int .i64 v, .int .i64 z] (by simp [hz1])
    (fun j y hy => by
      have hj : j < 3 := by
        have := (List.getElem?_eq_some_iff.1 hy).1
        simpa using this
      rw [Addr.add_lit, Nat.zero_add]
      simp only [World.cell?, hg]
      have : j = 0 ∨ j = 1 ∨ j = 2 := by omega
      rcases this with rfl | rfl | rfl <;> simpa using hy)
    (by omega) (by omega) (by
      have := growslice_fits (need := n + 3) (old := n) (bytes := i0.bytes) (by omega) (by rw [hz2]; omega)
      exact this)
  have e2 : (xs.map (Value.int .i64)).toArray ++ #[Value.int .i64 u, .int .i64 v, .int .i64 z] = ((xs ++ [u, v, z]).map (Value.int .i64)).toArray := by simp
  rw [show [Value.int IntKind.i64 u, .int .i64 v, .int .i64 z].toArray = #[Value.int .i64 u, .int .i64 v, .int .i64 z] from rfl, e2] at hrun
  generalize Builtin.zeroCells (Value.int IntKind.i64 0).cells (grownCap w (n + 3) n 3 - (n + 3)) = cs at hrun
  have hgc : n + 3 ≤ grownCap w (n + 3) n 3 := grownCap_ge w _ _ _
  generalize grownCap w (n + 3) n 3 = gc at hrun hgc
  refine ⟨.slice (some ⟨w.heap.size, 0, none⟩) (n + 3) gc, w.drew.alloc (.cells (((xs ++ [u, v, z]).map (Value.int .i64)).toArray ++ cs) 3), ?_, ⟨_, _, rfl, ?_, fun a e => ?_, hgc⟩, ?_⟩
  · simp [execOp, resolve, invoke, builtin, hs, ht, hrun, Result.andThen]
  · refine ⟨by simp [hR.len], fun k hk => ⟨w.heap.size, 0, rfl, by simp, ?_⟩⟩
    have hnew : (w.drew.alloc (.cells (((xs ++ [u, v, z]).map (Value.int .i64)).toArray ++ cs) 3)).heap[w.heap.size]? = _ := World.alloc_heap_new w.drew _
    simp only [World.cell?, hnew, Nat.zero_add]
    have hl : k < (xs ++ [u, v, z]).length := by simp [hR.len]; omega
    rw [Array.getElem?_append_left (by simpa using hl), List.getElem?_toArray, List.getElem?_map, List.getElem?_eq_getElem hl]
    rfl
  · injection e with e
    subst e
    exact hH
  · exact ⟨rfl, rfl, rfl, by simp, fun j hj _ => Below.heap_alloc _ _ _ hj⟩
theorem ex_build2 {a b : Operand} {A A' : Option Addr} {n c n' c' : Nat} (ha : ρ a = .slice A n c) (hb : ρ b = .slice A' n' c') :
    (execOp ρ { dst := dst, op := .build 68 #[(1, a), (2, b)], type := ty, pos := pos, after := after, guard := guard }).run Tryd.prog w = .ok (.value (.agg #[.int .i64 0, .slice A n c, .slice A' n' c'])) w := by
  simp [execOp, ha, hb]
  rw [run_build w 68 _ #[.int .i64 0, .slice A n c, .slice A' n' c'] (by rfl)]
  rfl
theorem ex_build6 {a b : Operand} {x0 x1 x2 y0 y1 y2 : Value} (ha : ρ a = .agg #[x0, x1, x2]) (hb : ρ b = .agg #[y0, y1, y2]) :
    (execOp ρ { dst := dst, op := .build 74 #[(0, a), (1, b)], type := ty, pos := pos, after := after, guard := guard }).run Tryd.prog w = .ok (.value (.agg #[x0, x1, x2, y0, y1, y2])) w := by
  simp [execOp, ha, hb]
  rw [run_build w 74 _ #[x0, x1, x2, y0, y1, y2] (by rfl)]
  rfl
end
end
end Go.Proofs.YtbpkoilecdejiaaDoor
