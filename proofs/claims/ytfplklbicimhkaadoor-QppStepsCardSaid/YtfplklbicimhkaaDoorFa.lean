/-
  Values of permutations; at, primesOf.
-/
import Derived.Test.YtfplklbicimhkaaDoorRd
import Derived.StillTailTactics
import Derived.Deep.QuietTactic
import Derived.BigQuiet
namespace Go.Proofs.YtfplklbicimhkaaDoor
open Go.RowKit

/-- A permutation's parameters. -/
def parA (k f1 f2 : Nat) : Array Value := #[.int .i64 (k : Int), .int .i64 (f1 : Int), .int .i64 (f2 : Int)]
def parV (k f1 f2 : Nat) : Value := .agg (parA k f1 f2)
/-- The steps of 'at', as they are reckoned. -/
structure PiA (k f1 f2 i b c d p : Nat) : Prop where
  hb : (f2 : Int) * (i : Int) = (b : Int)
  hc : ((f1 : Int) + (b : Int)) % (k : Int) = (c : Int)
  hd : (c : Int) * (i : Int) = (d : Int)
  hp : (d : Int) % (k : Int) = (p : Int)
  lb : b ≤ 40000000
  lc : c ≤ 6144
  ld : d ≤ 40000000
  lp : p < k
theorem piA {k i : Nat} (h : IsSize k) (hi : i < k) : ∃ b c d, PiA k (f1N k) (f2N k) i b c d (piK k i) := by
  have hk := size_le h
  have hq := qpOk_size h
  have h1 := hq.le1
  have h2 := hq.le2
  refine ⟨f2N k * i, (f1N k + f2N k * i) % k, (f1N k + f2N k * i) % k * i, ⟨rfl, rfl, rfl, ?_, ?_, ?_, ?_, piN_lt hq i⟩⟩
  · show ((((f1N k + f2N k * i) % k * i) % k : Nat) : Int) = _
    rw [Nat.mul_mod, Nat.mod_mod, ← Nat.mul_mod, Nat.add_mul]
    rfl
  · exact Nat.le_trans (Nat.mul_le_mul (Nat.le_trans h2 hk.2) (Nat.le_of_lt (Nat.lt_of_lt_of_le hi hk.2))) (by decide)
  · exact Nat.le_trans (Nat.le_of_lt (Nat.mod_lt _ (by omega))) hk.2
  · exact Nat.le_trans (Nat.mul_le_mul (Nat.le_trans (Nat.le_of_lt (Nat.mod_lt _ (by omega))) hk.2) (Nat.le_of_lt (Nat.lt_of_lt_of_le hi hk.2))) (by decide)
set_option maxHeartbeats 2000000 in
theorem at_any {k i : Nat} {w : World} (h : IsSize k) (hi : i < k) :
    Calls Tryd.prog 32 #[parV k (f1N k) (f2N k), .int .i64 (i : Int)] w fun e w' => e = .returned (.int .i64 (piK k i : Nat)) ∧ w.grownBy w' none := by
  obtain ⟨b, c, d, hb, hc, hd, hp, lb, lc, ld, lp⟩ := piA h hi
  have hk := size_le h
  have h1 := (qpOk_size h).le1
  generalize f1N k = f1 at *
  generalize f2N k = f2 at *
  generalize piK k i = p at *
  have hk0 : (k : Int) ≠ 0 := by omega
  unfold parV parA
  have hG : w.grownBy (w.alloc (.cells #[.int .i64 (k : Int), .int .i64 (f1 : Int), .int .i64 (f2 : Int)] 56)) none := World.grownBy_alloc w _ none
  have h0 : (w.alloc (.cells #[.int .i64 (k : Int), .int .i64 (f1 : Int), .int .i64 (f2 : Int)] 56)).cell? ⟨w.heap.size, 0, none⟩ = some (.int .i64 (k : Int)) := by simp
  have h1' : (w.alloc (.cells #[.int .i64 (k : Int), .int .i64 (f1 : Int), .int .i64 (f2 : Int)] 56)).cell? ⟨w.heap.size, 1, none⟩ = some (.int .i64 (f1 : Int)) := by simp
  have h2' : (w.alloc (.cells #[.int .i64 (k : Int), .int .i64 (f1 : Int), .int .i64 (f2 : Int)] 56)).cell? ⟨w.heap.size, 2, none⟩ = some (.int .i64 (f2 : Int)) := by simp
  clear h
  go_enter Tryd.func32, Tryd.ntmps32
  go_wp2_with fail
  generalize w.alloc (.cells #[.int .i64 (k : Int), .int .i64 (f1 : Int), .int .i64 (f2 : Int)] 56) = W at *
  go_quiet (fail)
  go_wp2_with fail
  go_ret
  exact ⟨ret_int hp, hG.os, hG.tape, hG.output, hG.size, hG.block⟩
/-- An array of five integers, the first of which are l. -/
def Arr5 (w : World) (P : Nat) (t : TypeId) (l : List Nat) : Prop := ∃ arr : Array Value, w.heap[P]? = some (.cells arr t) ∧ arr.size = 5 ∧ (∀ j, j < l.length → arr[j]? = some (.int .i64 ((l[j]?.getD 0 : Nat) : Int))) ∧ ∀ j, j < 5 → ∃ x : Int, arr[j]? = some (.int .i64 x)
theorem arr_set {w : World} {B j : Nat} {t : TypeId} {arr : Array Value} {v : Value} (h : w.heap[B]? = some (.cells arr t)) : (w.setCell ⟨B, j, none⟩ v).heap[B]? = some (.cells (arr.setIfInBounds j v) t) := by
  obtain ⟨hlt, hk⟩ := Array.getElem?_eq_some_iff.1 h
  show (w.heap.modify B _)[B]? = _
  rw [Array.getElem?_eq_getElem (by rw [Array.size_modify]; exact hlt), Array.getElem_modify_self, hk]
  rfl
theorem Arr5.cell {w : World} {P : Nat} {t : TypeId} {l : List Nat} (h : Arr5 w P t l) {j : Nat} (hj : j < l.length) : w.cell? ⟨P, j, none⟩ = some (.int .i64 ((l[j]?.getD 0 : Nat) : Int)) := by
  obtain ⟨arr, h1, h2, h3, _⟩ := h
  have := h3 j hj
  simpa [World.cell?, h1] using this
theorem Arr5.any {w : World} {P : Nat} {t : TypeId} {l : List Nat} (h : Arr5 w P t l) {j : Nat} (hj : j < 5) : ∃ x : Int, w.cell? ⟨P, j, none⟩ = some (.int .i64 x) := by
  obtain ⟨arr, h1, h2, _, h3⟩ := h
  obtain ⟨x, hx⟩ := h3 j hj
  exact ⟨x, by simpa [World.cell?, h1] using hx⟩
theorem Arr5.frozen {w : World} {P : Nat} {t : TypeId} {l : List Nat} (h : Arr5 w P t l) (j : Nat) : w.frozen? ⟨P, j, none⟩ = false := by
  obtain ⟨arr, h1, _, _⟩ := h
  simp [World.frozen?, h1]
theorem Arr5.set {w : World} {P : Nat} {t : TypeId} {l : List Nat} {p : Nat} (h : Arr5 w P t l) (hl : l.length < 5) : Arr5 (w.setCell ⟨P, l.length, none⟩ (.int .i64 (p : Int))) P t (l ++ [p]) := by
  obtain ⟨arr, h1, h2, h3, h4⟩ := h
  refine ⟨_, arr_set h1, by rw [Array.size_setIfInBounds]; exact h2, fun j hj => ?_, fun j hj => ?_⟩
  · rw [Array.getElem?_setIfInBounds]
    rw [List.length_append, List.length_singleton] at hj
    by_cases he : l.length = j
    · subst he
      rw [if_pos rfl, if_pos (by omega)]
      simp
    · rw [if_neg he, h3 j (by omega), List.getElem?_append_left (by omega)]
  · rw [Array.getElem?_setIfInBounds]
    by_cases he : l.length = j
    · subst he
      rw [if_pos rfl, if_pos (by omega)]
      exact ⟨_, rfl⟩
    · rw [if_neg he]
      exact h4 j hj
def primI (k : Nat) : List Int := (primL k).map fun p : Nat => (p : Int)
theorem Arr5.rd {w : World} {P : Nat} {t : TypeId} {l : List Nat} (h : Arr5 w P t l) : Rd .i64 w w.heap.size (some ⟨P, 0, none⟩) l.length (l.map fun p : Nat => (p : Int)) := by
  refine ⟨by simp, fun j hj => ⟨P, 0, rfl, ?_, ?_⟩⟩
  · obtain ⟨arr, h1, _⟩ := h
    exact (Array.getElem?_eq_some_iff.1 h1).1
  · rw [Nat.zero_add, h.cell hj, List.getElem?_map, List.getElem?_eq_getElem hj]
    rfl
theorem slice_arr (B m : Nat) (hm : m ≤ 5) (u : World) : (Instr.sliceAt 79 (.pointer (some ⟨B, 0, none⟩)) none (some (.int .i64 (m : Int))) (some (.int .i64 (m : Int)))).run Tryd.prog u = .ok (.slice (some ⟨B, 0, none⟩) m m) u := by
  obtain rfl | rfl | rfl | rfl | rfl | rfl : m = 0 ∨ m = 1 ∨ m = 2 ∨ m = 3 ∨ m = 4 ∨ m = 5 := by omega
  all_goals kernel_rfl
set_option maxRecDepth 100000 in
set_option maxHeartbeats 4000000 in
theorem primesOf_any {k : Nat} {w : World} (hs : IsSize k) :
    Calls Tryd.prog 50 #[.int .i64 (k : Int)] w fun e w' => e = .returned (.slice (some ⟨w.heap.size, 0, none⟩) (primL k).length (primL k).length) ∧ Rd .i64 w' w'.heap.size (some ⟨w.heap.size, 0, none⟩) (primL k).length (primI k) ∧ Below w.heap.size w w' := by
  have hk := size_le hs
  have hS := Lib.hid hs
  clear hs
  go_enter Tryd.func50, Tryd.ntmps50
  go_wp2_with fail
  have hA0 : Arr5 (w.alloc (.cells #[.int .i64 0, .int .i64 0, .int .i64 0, .int .i64 0, .int .i64 0] 79)) w.heap.size 79 [] := by
    refine ⟨_, World.alloc_heap_new w _, rfl, fun j hj => absurd hj (Nat.not_lt_zero _), fun j hj => ?_⟩
    obtain rfl | rfl | rfl | rfl | rfl : j = 0 ∨ j = 1 ∨ j = 2 ∨ j = 3 ∨ j = 4 := by omega
    all_goals exact ⟨_, rfl⟩
  have hB0 := (Below.refl w.heap.size w).alloc (Nat.le_refl _) (.cells #[.int .i64 0, .int .i64 0, .int .i64 0, .int .i64 0, .int .i64 0] 79)
  have HA0 := Lib.hid hA0
  have HB0 := Lib.hid hB0
  clear hA0 hB0
  go_loopw [0, 4, 5] (fun a n d wr => ∃ (left p m : Nat) (acc : List Nat), p ≤ 102 ∧ a = .int .i64 (left : Int) ∧ n = .int .i64 (m : Int) ∧ d = .int .i64 (p : Int) ∧ Hid (PrimAt k p left acc ∧ acc.length = m) ∧ Hid (Arr5 wr w.heap.size 79 acc) ∧ Hid (Below w.heap.size w wr)) (fun _ _ d _ => 103 - (intOf d).toNat)
  case atStart => exact ⟨k, 2, 0, [], by decide, rfl, rfl, rfl, Lib.hid ⟨PrimAt.start hS.out, rfl⟩, HA0, HB0⟩
  case round =>
    clear HA0 HB0
    obtain ⟨left, p, m, acc, hp, rfl, rfl, rfl, hR, hA, hb⟩ := hrel
    obtain ⟨ra, hra⟩ := hR.out.1.rad
    have hll := hra.left_le hS.out
    have hl0 := hra.l0
    have hp2 := hra.p2
    have hm5 : m ≤ 5 := by have := hR.out.1.len hS.out; have := hR.out.2; omega
    by_cases hl : 1 < left
    · have hst := hR.out.1.step hS.out hl
      have hplt := hra.p_lt hS.out hl
      have hmi : (left : Int) % (p : Int) = ((left % p : Nat) : Int) := rfl
      clear hra
      by_cases hm : left % p = 0
      · rw [if_pos hm] at hst
        rw [hm] at hmi
        have hm4 : m < 5 := by have := hst.len hS.out; rw [List.length_append, hR.out.2] at this; exact this
        obtain ⟨x, hx⟩ := hA.out.any hm4
        have hf := hA.out.frozen m
        have hAs := hA.out.set (p := p) (by rw [hR.out.2]; exact hm4)
        rw [hR.out.2] at hAs
        have HA2 := Lib.hid hAs
        have HB2 := Lib.hid (hb.out.setCell (p := ⟨w.heap.size, m, none⟩) (Nat.le_refl _) (.int .i64 (p : Int)))
        have HST := Lib.hid hst
        have HL : Hid ((acc ++ [p]).length = m + 1) := Lib.hid (by rw [List.length_append, hR.out.2]; rfl)
        have hm4' : (m : Int) < 5 := by omega
        clear hst hm hR hA hb hAs
        generalize acc ++ [p] = acc2 at *
        go_wp2_with fail
        go_loop [0] (fun l => ∃ l2 : Nat, l = .int .i64 (l2 : Int) ∧ 0 < l2 ∧ l2 ≤ 6144 ∧ Hid (strip 13 p l2 = strip 13 p left)) (fun l => (intOf l).toNat)
        case atStart => exact ⟨left, rfl, by omega, by omega, Lib.hid rfl⟩
        case round =>
          obtain ⟨l2, rfl, h20, h2l, he⟩ := hrel
          have hmi2 : (l2 : Int) % (p : Int) = ((l2 % p : Nat) : Int) := rfl
          by_cases hm2 : l2 % p = 0
          · rw [hm2] at hmi2
            have hq : (l2 : Int) / (p : Int) = ((l2 / p : Nat) : Int) := rfl
            have e2 := Lib.hid ((strip_div hp2 h20 (by omega) hm2).symm.trans he.out)
            have l3 : 0 < l2 / p := Nat.div_pos (Nat.le_of_dvd h20 (Nat.dvd_of_mod_eq_zero hm2)) (by omega)
            have l4 : l2 / p < l2 := Nat.div_lt_self h20 (by omega)
            generalize l2 / p = l5 at *
            clear hm2 he
            go_wp2_with fail
            go_round
            case rel => exact ⟨l5, rfl, l3, by omega, e2⟩
            case measure => simp [intOf]; omega
          · have e2 := Lib.hid ((strip_no (fuel := 13) hm2).symm.trans he.out)
            have hne : ((l2 % p : Nat) : Int) ≠ 0 := by omega
            generalize l2 % p = r at *
            have HE2 := Lib.hid (e2.out ▸ HST.out : PrimAt k (p + 1) l2 acc2)
            clear he e2 HST hm2
            go_wp2_with fail
            go_roundw
            case rel => exact ⟨l2, p + 1, m + 1, acc2, by omega, rfl, by go_num, by go_num, Lib.hid ⟨HE2.out, HL.out⟩, HA2, HB2⟩
            case measure => simp [intOf]; omega
      · rw [if_neg hm] at hst
        have hne : ((left % p : Nat) : Int) ≠ 0 := by omega
        rw [strip_no hm] at hst
        generalize left % p = r at *
        have HST := Lib.hid (And.intro hst hR.out.2)
        clear hst hm hR
        go_wp2_with fail
        go_roundw
        case rel => exact ⟨left, p + 1, m, acc, by omega, rfl, rfl, by go_num, HST, hA, hb⟩
        case measure => simp [intOf]; omega
    · obtain rfl : left = 1 := by omega
      have hfin := hR.out.1.fin (Nat.le_refl 1)
      obtain rfl := hR.out.2
      subst hfin
      have HRD := Lib.hid hA.out.rd
      clear hR hra
      have hsl := slice_arr w.heap.size (primL k).length hm5 wr
      generalize hL : (primL k).length = L at *
      clear hA
      go_wp2_with fail
      go_ret
      exact ⟨by rw [hL]; rfl, by rw [hL]; exact HRD.out, hb.out⟩
end Go.Proofs.YtfplklbicimhkaaDoor
