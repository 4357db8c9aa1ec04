/-
  Values of permutations; at, primesOf. coefficients. of, Params, At. Params, At; steps and its iterator; a range over it. steps's iterator; a range over it. permuted, at both of its types. Order, Inverse, Interleave, Deinterleave, Bits. Steps; free, Free.
-/
import Derived.Test.YtbpkoilecdejiaaDoorT3
import Derived.Test.YtbpkoilecdejiaaDoorRd
import Derived.StillTailTactics
import Derived.Deep.QuietTactic
import Derived.BigQuiet
import Derived.Deep.LoopGhost
import Derived.ScopeJumps
import Derived.Shelf.Abstract
import Derived.Shelf.RegionOpen
import Derived.WalkKit
import Derived.OwnWalkIn
import Derived.TacticsInMore
import Derived.LoopNIn
import Derived.LoopIn
import Derived.Sort.QuietIn
import Derived.Test.YtbpkoilecdejiaaDoorRuns
import Derived.Test.YtbpkoilecdejiaaDoorT6
import Derived.Test.YtbpkoilecdejiaaDoorQr
namespace Go.Proofs.YtbpkoilecdejiaaDoor
/-! ### Values of permutations; at, primesOf. -/
section
open Go.RowKit

/-- A permutation's parameters. -/
def parA (k f1 f2 : Nat) : Array Value := #[.int .i64 (k : Int), .int .i64 (f1 : Int), .int .i64 (f2 : Int)]
def parV (k f1 f2 : Nat) : Value := .agg (parA k f1 f2)
/-- The steps of 'at', as they are reckoned. -/
structure PiA (k f1 f2 i b c d p : Nat) : Prop where
  hb : (f2 : Int) * (i : Int) = (b : Int)
  hc : ((f1 : Int) + (b : Int)) % (k : Int) = (c : Int)
  hd : (c : Int) * (i : Int) = (d : Int)
  hp : (d : Int) % (k : Int) = (p : Int)
  lb : b ≤ 40000000
  lc : c ≤ 6144
  ld : d ≤ 40000000
  lp : p < k
theorem piA {k i : Nat} (h : IsSize k) (hi : i < k) : ∃ b c d, PiA k (f1N k) (f2N k) i b c d (piK k i) := by
  have hk := size_le h
  have hq := qpOk_size h
  have h1 := hq.le1
  have h2 := hq.le2
  refine ⟨f2N k * i, (f1N k + f2N k * i) % k, (f1N k + f2N k * i) % k * i, ⟨rfl, rfl, rfl, ?_, ?_, ?_, ?_, piN_lt hq i⟩⟩
  · show ((((f1N k + f2N k * i) % k * i) % k : Nat) : Int) = _
    rw [Nat.mul_mod, Nat.mod_mod, ← Nat.mul_mod, Nat.add_mul]
    rfl
  · exact Nat.le_trans (Nat.mul_le_mul (Nat.le_trans h2 hk.2) (Nat.le_of_lt (Nat.lt_of_lt_of_le hi hk.2))) (by decide)
  · exact Nat.le_trans (Nat.le_of_lt (Nat.mod_lt _ (by omega))) hk.2
  · exact Nat.le_trans (Nat.mul_le_mul (Nat.le_trans (Nat.le_of_lt (Nat.mod_lt _ (by omega))) hk.2) (Nat.le_of_lt (Nat.lt_of_lt_of_le hi hk.2))) (by decide)
set_option maxHeartbeats 2000000 in
theorem at_any {k i : Nat} {w : World} (h : IsSize k) (hi : i < k) :
    Calls Tryd.prog 78 #[parV k (f1N k) (f2N k), .int .i64 (i : Int)] w fun e w' => e = .returned (.int .i64 (piK k i : Nat)) ∧ w.grownBy w' none := by
  obtain ⟨b, c, d, hb, hc, hd, hp, lb, lc, ld, lp⟩ := piA h hi
  have hk := size_le h
  have h1 := (qpOk_size h).le1
  generalize f1N k = f1 at *
  generalize f2N k = f2 at *
  generalize piK k i = p at *
  have hk0 : (k : Int) ≠ 0 := by omega
  unfold parV parA
  have hG : w.grownBy (w.alloc (.cells #[.int .i64 (k : Int), .int .i64 (f1 : Int), .int .i64 (f2 : Int)] 115)) none := World.grownBy_alloc w _ none
  have h0 : (w.alloc (.cells #[.int .i64 (k : Int), .int .i64 (f1 : Int), .int .i64 (f2 : Int)] 115)).cell? ⟨w.heap.size, 0, none⟩ = some (.int .i64 (k : Int)) := by simp
  have h1' : (w.alloc (.cells #[.int .i64 (k : Int), .int .i64 (f1 : Int), .int .i64 (f2 : Int)] 115)).cell? ⟨w.heap.size, 1, none⟩ = some (.int .i64 (f1 : Int)) := by simp
  have h2' : (w.alloc (.cells #[.int .i64 (k : Int), .int .i64 (f1 : Int), .int .i64 (f2 : Int)] 115)).cell? ⟨w.heap.size, 2, none⟩ = some (.int .i64 (f2 : Int)) := by simp
  clear h
  go_enter Tryd.func78, Tryd.ntmps78
  go_wp2_with fail
  generalize w.alloc (.cells #[.int .i64 (k : Int), .int .i64 (f1 : Int), .int .i64 (f2 : Int)] 115) = W at *
  go_quiet (fail)
  go_wp2_with fail
  go_ret
  exact ⟨ret_int hp, hG.os, hG.tape, hG.output, hG.size, hG.block⟩
/-- An array of five integers, the first of which are l. -/
def Arr5 (w : World) (P : Nat) (t : TypeId) (l : List Nat) : Prop := ∃ arr : Array Value, w.heap[P]? = some (.cells arr t) ∧ arr.size = 5 ∧ (∀ j, j < l.length → arr[j]? = some (.int .i64 ((l[j]?.getD 0 : Nat) : Int))) ∧ ∀ j, j < 5 → ∃ x : Int, arr[j]? = some (.int .i64 x)
theorem Arr5.cell {w : World} {P : Nat} {t : TypeId} {l : List Nat} (h : Arr5 w P t l) {j : Nat} (hj : j < l.length) : w.cell? ⟨P, j, none⟩ = some (.int .i64 ((l[j]?.getD 0 : Nat) : Int)) := by
  obtain ⟨arr, h1, h2, h3, _⟩ := h
  have := h3 j hj
  simpa [World.cell?, h1] using this
theorem Arr5.any {w : World} {P : Nat} {t : TypeId} {l : List Nat} (h : Arr5 w P t l) {j : Nat} (hj : j < 5) : ∃ x : Int, w.cell? ⟨P, j, none⟩ = some (.int .i64 x) := by
  obtain ⟨arr, h1, h2, _, h3⟩ := h
  obtain ⟨x, hx⟩ := h3 j hj
  exact ⟨x, by simpa [World.cell?, h1] using hx⟩
theorem Arr5.frozen {w : World} {P : Nat} {t : TypeId} {l : List Nat} (h : Arr5 w P t l) (j : Nat) : w.frozen? ⟨P, j, none⟩ = false := by
  obtain ⟨arr, h1, _, _⟩ := h
  simp [World.frozen?, h1]
theorem Arr5.set {w : World} {P : Nat} {t : TypeId} {l : List Nat} {p : Nat} (h : Arr5 w P t l) (hl : l.length < 5) : Arr5 (w.setCell ⟨P, l.length, none⟩ (.int .i64 (p : Int))) P t (l ++ [p]) := by
  obtain ⟨arr, h1, h2, h3, h4⟩ := h
  refine ⟨_, arr_set h1, by rw [Array.size_setIfInBounds]; exact h2, fun j hj => ?_, fun j hj => ?_⟩
  · rw [Array.getElem?_setIfInBounds]
    rw [List.length_append, List.length_singleton] at hj
    by_cases he : l.length = j
    · subst he
      rw [if_pos rfl, if_pos (by omega)]
      simp
    · rw [if_neg he, h3 j (by omega), List.getElem?_append_left (by omega)]
  · rw [Array.getElem?_setIfInBounds]
    by_cases he : l.length = j
    · subst he
      rw [if_pos rfl, if_pos (by omega)]
      exact ⟨_, rfl⟩
    · rw [if_neg he]
      exact h4 j hj
def primI (k : Nat) : List Int := (primL k).map fun p : Nat => (p : Int)
theorem Arr5.rd {w : World} {P : Nat} {t : TypeId} {l : List Nat} (h : Arr5 w P t l) : Rd .i64 w w.heap.size (some ⟨P, 0, none⟩) l.length (l.map fun p : Nat => (p : Int)) := by
  refine ⟨by simp, fun j hj => ⟨P, 0, rfl, ?_, ?_⟩⟩
  · obtain ⟨arr, h1, _⟩ := h
    exact (Array.getElem?_eq_some_iff.1 h1).1
  · rw [Nat.zero_add, h.cell hj, List.getElem?_map, List.getElem?_eq_getElem hj]
    rfl
theorem slice_arr (B m : Nat) (hm : m ≤ 5) (u : World) : (Instr.sliceAt 129 (.pointer (some ⟨B, 0, none⟩)) none (some (.int .i64 (m : Int))) (some (.int .i64 (m : Int)))).run Tryd.prog u = .ok (.slice (some ⟨B, 0, none⟩) m m) u := by
  obtain rfl | rfl | rfl | rfl | rfl | rfl : m = 0 ∨ m = 1 ∨ m = 2 ∨ m = 3 ∨ m = 4 ∨ m = 5 := by omega
  all_goals kernel_rfl
set_option maxRecDepth 100000 in
set_option maxHeartbeats 4000000 in
theorem primesOf_any {k : Nat} {w : World} (hs : IsSize k) :
    Calls Tryd.prog 80 #[.int .i64 (k : Int)] w fun e w' => e = .returned (.slice (some ⟨w.heap.size, 0, none⟩) (primL k).length (primL k).length) ∧ Rd .i64 w' w'.heap.size (some ⟨w.heap.size, 0, none⟩) (primL k).length (primI k) ∧ Below w.heap.size w w' := by
  have hk := size_le hs
  have hS := Lib.hid hs
  clear hs
  go_enter Tryd.func80, Tryd.ntmps80
  go_wp2_with fail
  have hA0 : Arr5 (w.alloc (.cells #[.int .i64 0, .int .i64 0, .int .i64 0, .int .i64 0, .int .i64 0] 129)) w.heap.size 129 [] := by
    refine ⟨_, World.alloc_heap_new w _, rfl, fun j hj => absurd hj (Nat.not_lt_zero _), fun j hj => ?_⟩
    obtain rfl | rfl | rfl | rfl | rfl : j = 0 ∨ j = 1 ∨ j = 2 ∨ j = 3 ∨ j = 4 := by omega
    all_goals exact ⟨_, rfl⟩
  have hB0 := (Below.refl w.heap.size w).alloc (Nat.le_refl _) (.cells #[.int .i64 0, .int .i64 0, .int .i64 0, .int .i64 0, .int .i64 0] 129)
  have HA0 := Lib.hid hA0
  have HB0 := Lib.hid hB0
  clear hA0 hB0
  go_loopw [0, 4, 5] (fun a n d wr => ∃ (left p m : Nat) (acc : List Nat), p ≤ 102 ∧ a = .int .i64 (left : Int) ∧ n = .int .i64 (m : Int) ∧ d = .int .i64 (p : Int) ∧ Hid (PrimAt k p left acc ∧ acc.length = m) ∧ Hid (Arr5 wr w.heap.size 129 acc) ∧ Hid (Below w.heap.size w wr)) (fun _ _ d _ => 103 - (intOf d).toNat)
  case atStart => exact ⟨k, 2, 0, [], by decide, rfl, rfl, rfl, Lib.hid ⟨PrimAt.start hS.out, rfl⟩, HA0, HB0⟩
  case round =>
    clear HA0 HB0
    obtain ⟨left, p, m, acc, hp, rfl, rfl, rfl, hR, hA, hb⟩ := hrel
    obtain ⟨ra, hra⟩ := hR.out.1.rad
    have hll := hra.left_le hS.out
    have hl0 := hra.l0
    have hp2 := hra.p2
    have hm5 : m ≤ 5 := by have := hR.out.1.len hS.out; have := hR.out.2; omega
    by_cases hl : 1 < left
    · have hst := hR.out.1.step hS.out hl
      have hplt := hra.p_lt hS.out hl
      have hmi : (left : Int) % (p : Int) = ((left % p : Nat) : Int) := rfl
      clear hra
      by_cases hm : left % p = 0
      · rw [if_pos hm] at hst
        rw [hm] at hmi
        have hm4 : m < 5 := by have := hst.len hS.out; rw [List.length_append, hR.out.2] at this; exact this
        obtain ⟨x, hx⟩ := hA.out.any hm4
        have hf := hA.out.frozen m
        have hAs := hA.out.set (p := p) (by rw [hR.out.2]; exact hm4)
        rw [hR.out.2] at hAs
        have HA2 := Lib.hid hAs
        have HB2 := Lib.hid (hb.out.setCell (p := ⟨w.heap.size, m, none⟩) (Nat.le_refl _) (.int .i64 (p : Int)))
        have HST := Lib.hid hst
        have HL : Hid ((acc ++ [p]).length = m + 1) := Lib.hid (by rw [List.length_append, hR.out.2]; rfl)
        have hm4' : (m : Int) < 5 := by omega
        clear hst hm hR hA hb hAs
        generalize acc ++ [p] = acc2 at *
        go_wp2_with fail
        go_loop [0] (fun l => ∃ l2 : Nat, l = .int .i64 (l2 : Int) ∧ 0 < l2 ∧ l2 ≤ 6144 ∧ Hid (strip 13 p l2 = strip 13 p left)) (fun l => (intOf l).toNat)
        case atStart => exact ⟨left, rfl, by omega, by omega, Lib.hid rfl⟩
        case round =>
          obtain ⟨l2, rfl, h20, h2l, he⟩ := hrel
          have hmi2 : (l2 : Int) % (p : Int) = ((l2 % p : Nat) : Int) := rfl
          by_cases hm2 : l2 % p = 0
          · rw [hm2] at hmi2
            have hq : (l2 : Int) / (p : Int) = ((l2 / p : Nat) : Int) := rfl
            have e2 := Lib.hid ((strip_div hp2 h20 (by omega) hm2).symm.trans he.out)
            have l3 : 0 < l2 / p := Nat.div_pos (Nat.le_of_dvd h20 (Nat.dvd_of_mod_eq_zero hm2)) (by omega)
            have l4 : l2 / p < l2 := Nat.div_lt_self h20 (by omega)
            generalize l2 / p = l5 at *
            clear hm2 he
            go_wp2_with fail
            go_round
            case rel => exact ⟨l5, rfl, l3, by omega, e2⟩
            case measure => simp [intOf]; omega
          · have e2 := Lib.hid ((strip_no (fuel := 13) hm2).symm.trans he.out)
            have hne : ((l2 % p : Nat) : Int) ≠ 0 := by omega
            generalize l2 % p = r at *
            have HE2 := Lib.hid (e2.out ▸ HST.out : PrimAt k (p + 1) l2 acc2)
            clear he e2 HST hm2
            go_wp2_with fail
            go_roundw
            case rel => exact ⟨l2, p + 1, m + 1, acc2, by omega, rfl, by go_num, by go_num, Lib.hid ⟨HE2.out, HL.out⟩, HA2, HB2⟩
            case measure => simp [intOf]; omega
      · rw [if_neg hm] at hst
        have hne : ((left % p : Nat) : Int) ≠ 0 := by omega
        rw [strip_no hm] at hst
        generalize left % p = r at *
        have HST := Lib.hid (And.intro hst hR.out.2)
        clear hst hm hR
        go_wp2_with fail
        go_roundw
        case rel => exact ⟨left, p + 1, m, acc, by omega, rfl, rfl, by go_num, HST, hA, hb⟩
        case measure => simp [intOf]; omega
    · obtain rfl : left = 1 := by omega
      have hfin := hR.out.1.fin (Nat.le_refl 1)
      obtain rfl := hR.out.2
      subst hfin
      have HRD := Lib.hid hA.out.rd
      clear hR hra
      have hsl := slice_arr w.heap.size (primL k).length hm5 wr
      generalize hL : (primL k).length = L at *
      clear hA
      go_wp2_with fail
      go_ret
      exact ⟨by rw [hL]; rfl, by rw [hL]; exact HRD.out, hb.out⟩
end

/-! ### coefficients. -/
section
open Go.RowKit

theorem coef1_any {P : Nat} {p f : Nat} {w : World} (hp : 1 ≤ p) (hc : w.cell? ⟨P, 1, none⟩ = some (.int .i64 (f : Int))) :
    Calls Tryd.prog 82 #[.int .i64 (p : Int), .pointer (some ⟨P, 0, none⟩)] w fun e w' => e = .returned (.bool (f % p == 0)) ∧ w' = w := by
  have hp0 : (p : Int) ≠ 0 := by omega
  have hm : (f : Int) % (p : Int) = ((f % p : Nat) : Int) := rfl
  by_cases h : f % p = 0
  · rw [h] at hm ⊢
    clear h
    go_enter Tryd.func82, Tryd.ntmps82
    go_wp2_with fail
    go_ret
    exact ⟨rfl, rfl⟩
  · have e : (f % p == 0) = false := by simp [h]
    rw [e]
    have hne : ((f % p : Nat) : Int) ≠ 0 := by omega
    have hb := Lib.hid (beq_eq_false_iff_ne.2 hne)
    generalize f % p = z at *
    clear h e
    go_enter Tryd.func82, Tryd.ntmps82
    go_wp2_with fail
    go_ret
    exact ⟨ret_bool hb.out, rfl⟩
theorem hitL_take {f : Nat} {l : List Nat} {k : Nat} (hk : k < l.length) (h : hitL f (l.take k) = false) : hitL f (l.take (k + 1)) = (f % (l[k]?.getD 0) == 0) := by
  unfold hitL at *
  rw [List.take_add_one, List.any_append, h, Bool.false_or, List.getElem?_eq_getElem hk]
  simp
theorem hitL_more {f : Nat} {l : List Nat} {k : Nat} (h : hitL f (l.take k) = true) : hitL f l = true := by
  unfold hitL at *
  rw [List.any_eq_true] at *
  obtain ⟨x, hx, he⟩ := h
  exact ⟨x, List.mem_of_mem_take hx, he⟩
set_option maxHeartbeats 1000000 in
theorem indexFunc_any {A : Option Addr} {n c P f B : Nat} {l : List Nat} {w : World} (hR : Rd .i64 w B A n (l.map fun p : Nat => (p : Int))) (hn : n ≤ 5) (hl : ∀ p ∈ l, 1 ≤ p) (hc : w.cell? ⟨P, 1, none⟩ = some (.int .i64 (f : Int))) :
    Calls Tryd.prog 83 #[.slice A n c, .func (.func 82) #[] #[.pointer (some ⟨P, 0, none⟩)]] w fun e w' => (∃ r : Int, e = .returned (.int .i64 r) ∧ decide (0 ≤ r) = hitL f l) ∧ w' = w := by
  have hln : l.length = n := by have := hR.len; simpa using this
  have HL := Lib.hid hln
  have hcl := Lib.hid (fun (p : Nat) (hp : 1 ≤ p) => coef1_any (p := p) hp hc)
  clear hc hln
  go_enter Tryd.func83, Tryd.ntmps83
  go_wp2_with fail
  go_loop [8] (fun i => ∃ k : Nat, k ≤ n ∧ i = .int .i64 (k : Int) ∧ Hid (hitL f (l.take k) = false)) (fun i => n - (intOf i).toNat)
  case atStart => exact ⟨0, Nat.zero_le _, rfl, Lib.hid rfl⟩
  case round =>
    obtain ⟨k, hk, rfl, hh⟩ := hrel
    by_cases hlt : k < n
    · obtain ⟨b, off, rfl, hb, hcell⟩ := hR.cells k hlt
      have hkl : k < l.length := by rw [HL.out]; exact hlt
      have hT := hitL_take hkl hh.out
      have hg : (l.map fun p : Nat => (p : Int))[k]?.getD 0 = ((l[k]?.getD 0 : Nat) : Int) := by
        rw [List.getElem?_map, List.getElem?_eq_getElem hkl]
        rfl
      rw [hg] at hcell
      have hp1 : 1 ≤ l[k]?.getD 0 := by
        rw [List.getElem?_eq_getElem hkl]
        exact hl _ (List.getElem_mem hkl)
      have HC := Lib.hid (hcl.out _ hp1)
      have hk0 : (0 : Int) ≤ (k : Int) := by omega
      have hk1 : (k : Int) < (n : Int) := by omega
      have HF : Hid (hitL f (l.take (k + 1)) = true → hitL f l = true) := Lib.hid hitL_more
      have HT := Lib.hid hT
      clear hT hg hR hl hp1 hh
      by_cases hz : (f % (l[k]?.getD 0) == 0) = true
      · have HE := HF.out (HT.out.trans hz)
        have HEE := Lib.hid HE
        rw [hz] at HC
        generalize l[k]?.getD 0 = p at *
        clear hz HT HF HE
        go_wp2_with (go_at_call 82; refine HC.out.mono ?_; rintro e w ⟨rfl, rfl⟩)
        go_ret
        exact ⟨⟨_, rfl, by rw [HEE.out]; exact decide_eq_true hk0⟩, rfl⟩
      · have hz := Bool.eq_false_iff.2 hz
        have HE := Lib.hid (HT.out.trans hz)
        rw [hz] at HC
        generalize l[k]?.getD 0 = p at *
        clear hz HT HF
        go_wp2_with (go_at_call 82; refine HC.out.mono ?_; rintro e w ⟨rfl, rfl⟩)
        go_round
        case rel => exact ⟨k + 1, by omega, by go_num, HE⟩
        case measure => simp [intOf]; omega
    · obtain rfl : k = n := by omega
      have HE := hh.out
      rw [List.take_of_length_le (Nat.le_of_eq HL.out)] at HE
      have HEE := Lib.hid HE
      clear HE hh hR hlt
      go_wp2_with fail
      go_ret
      exact ⟨⟨_, rfl, by rw [HEE.out]; decide⟩, rfl⟩
theorem containsFunc_any {A : Option Addr} {n c P f B : Nat} {l : List Nat} {w : World} (hR : Rd .i64 w B A n (l.map fun p : Nat => (p : Int))) (hn : n ≤ 5) (hl : ∀ p ∈ l, 1 ≤ p) (hc : w.cell? ⟨P, 1, none⟩ = some (.int .i64 (f : Int))) :
    Calls Tryd.prog 81 #[.slice A n c, .func (.func 82) #[] #[.pointer (some ⟨P, 0, none⟩)]] w fun e w' => e = .returned (.bool (hitL f l)) ∧ w' = w := by
  have hI := Lib.hid (indexFunc_any (c := c) hR hn hl hc)
  clear hR hl hc
  go_enter Tryd.func81, Tryd.ntmps81
  go_wp2_with (go_at_call 83; refine hI.out.mono ?_; rintro e w ⟨⟨r, rfl, hr⟩, rfl⟩)
  go_ret
  exact ⟨ret_bool (by first | exact hr | rfl), rfl⟩
theorem prodL_snoc {l : List Nat} {j : Nat} (hj : j < l.length) : prodL (l.take (j + 1)) = prodL (l.take j) * (l[j]?.getD 0) := by
  unfold prodL
  rw [List.take_add_one, List.foldl_append, List.getElem?_eq_getElem hj]
  rfl
theorem coef_results {W : World} {tmps : Array Value} {B : Nat} {k f1 f2 : Nat} {t : TypeId} (h2 : tmps.getD 2 undef = .pointer (some ⟨B, 0, none⟩)) (hL : Three W B t (.int .i64 (k : Int)) (.int .i64 (f1 : Int)) (.int .i64 (f2 : Int))) :
    (results Tryd.f76 tmps).run Tryd.prog W = .ok (parV k f1 f2) W := by
  have c0 := hL.cell0
  have c1 := hL.cell1
  have c2 := hL.cell2
  simp only [Array.getD_eq_getD_getElem?] at h2
  simp [results, Tryd.results76, go_sem, h2, c0, c1, c2, parV, parA]
set_option maxRecDepth 100000 in
set_option maxHeartbeats 4000000 in
theorem coefficients_any {k : Nat} {w : World} (hs : IsSize k) :
    Calls Tryd.prog 76 #[.int .i64 (k : Int)] w fun e w' => e = .returned (parV k (f1N k) (f2N k)) ∧ Below w.heap.size w w' := by
  have hP := Lib.hid (fun (u : World) => primesOf_any (w := u) hs)
  have hk := size_le hs
  have hS := Lib.hid hs
  have hT0 := Three.new (w.alloc (.cells #[.int .i64 0, .int .i64 0, .int .i64 0] 115)) 115 (.int .i64 (k : Int)) (.int .i64 3) (.int .i64 1)
  have hU0 := (Three.new w 115 (.int .i64 0) (.int .i64 0) (.int .i64 0)).alloc (.cells #[.int .i64 (k : Int), .int .i64 3, .int .i64 1] 115)
  have hb0 := below_two (w := w) (.cells #[.int .i64 0, .int .i64 0, .int .i64 0] 115) (.cells #[.int .i64 (k : Int), .int .i64 3, .int .i64 1] 115)
  rw [World.size_alloc] at hT0
  clear hs
  go_enter Tryd.func76, Tryd.ntmps76
  go_wp2_with fail
  have hs2 : ((w.alloc (.cells #[.int .i64 0, .int .i64 0, .int .i64 0] 115)).alloc (.cells #[.int .i64 (k : Int), .int .i64 3, .int .i64 1] 115)).heap.size = w.heap.size + 2 := by simp
  generalize (w.alloc (.cells #[.int .i64 0, .int .i64 0, .int .i64 0] 115)).alloc (.cells #[.int .i64 (k : Int), .int .i64 3, .int .i64 1] 115) = W at *
  refine (hP.out _).mono ?_
  rintro e w1 ⟨rfl, hR, hb1⟩
  rw [hs2] at hb1 hR ⊢
  have hT1 := Lib.hid (hT0.below hb1 (by omega))
  have hU1 := Lib.hid (hU0.below hb1 (by omega))
  have hB1 := Lib.hid (hb0.trans (hb1.mono (by omega)))
  have hR1 := Lib.hid hR
  have hLL : Hid (primI k = (primL k).map fun p : Nat => (p : Int)) := Lib.hid rfl
  have hp5 := prim_len hS.out
  clear hT0 hU0 hb0 hb1 hR hP hs2
  go_wp2_with fail
  have hPM := Lib.hid (fun (p : Nat) (hp : p ∈ primL k) => prim_mem hS.out hp)
  have hPP := Lib.hid (prim_prod hS.out)
  have hPT := Lib.hid (fun (j : Nat) (hj : j ≤ 5) => prim_part hS.out hj)
  have hFC := Lib.hid (f1N_cop hS.out)
  have hF64 := Lib.hid (Nat.le_of_lt (qpOk_size hS.out).le1)
  have hFF := Lib.hid (fun (f : Nat) (h1 : 3 ≤ f) (h2 : f % 2 = 1) (h3 : f ≤ 64) => hit_gcd hS.out h1 h2 h3)
  generalize hl : primL k = l at *
  clear hl
  generalize hL : l.length = L at *
  have HL := Lib.hid hL
  clear hL
  go_loopw [13] (fun i wr => ∃ j : Nat, j ≤ L ∧ i = .int .i64 (j : Int) ∧ Hid (Three wr (w.heap.size + 1) 115 (.int .i64 (k : Int)) (.int .i64 3) (.int .i64 (prodL (l.take j) : Nat))) ∧ Hid (Three wr w.heap.size 115 (.int .i64 0) (.int .i64 0) (.int .i64 0)) ∧
      Hid (Below w.heap.size w wr) ∧ Hid (Rd .i64 wr w1.heap.size (some ⟨w.heap.size + 2, 0, none⟩) L (primI k))) (fun i _ => L - (intOf i).toNat)
  case atStart => exact ⟨0, Nat.zero_le _, rfl, hT1, hU1, hB1, hR1⟩
  case round =>
    clear hT1 hU1 hB1 hR1
    obtain ⟨j, hj, rfl, hT, hU, hB, hR⟩ := hrel
    by_cases hlt : j < L
    · obtain ⟨b, off, hA, hb, hcell⟩ := hR.out.cells j hlt
      injection hA with hA
      injection hA with e1 e2
      subst e1 e2
      have hg : (primI k)[j]?.getD 0 = ((l[j]?.getD 0 : Nat) : Int) := by
        rw [hLL.out, List.getElem?_map, List.getElem?_eq_getElem (by rw [HL.out]; exact hlt)]
        rfl
      rw [hg] at hcell
      have hsn := prodL_snoc (l := l) (j := j) (by rw [HL.out]; exact hlt)
      have hle := hPT.out (j + 1) (by omega)
      have hmul : ((prodL (l.take j) : Nat) : Int) * ((l[j]?.getD 0 : Nat) : Int) = ((prodL (l.take (j + 1)) : Nat) : Int) := by rw [hsn]; rfl
      have c2 := hT.out.cell2
      have f2 := hT.out.frozen 2
      have hT2 := Lib.hid (hT.out.set2 (.int .i64 ((prodL (l.take (j + 1)) : Nat) : Int)))
      have hU2 := Lib.hid (hU.out.other (p := ⟨w.heap.size + 1, 2, none⟩) (by simp) (.int .i64 ((prodL (l.take (j + 1)) : Nat) : Int)))
      have hB2 := Lib.hid (hB.out.setCell (p := ⟨w.heap.size + 1, 2, none⟩) (by simp) (.int .i64 ((prodL (l.take (j + 1)) : Nat) : Int)))
      have hR2 := Lib.hid (hR.out.block (w' := wr.setCell ⟨w.heap.size + 1, 2, none⟩ (.int .i64 ((prodL (l.take (j + 1)) : Nat) : Int))) (fun a ha => by
        injection ha with ha
        subst ha
        exact Below.heap_setCell _ _ _ _ (by simp)))
      have hk1 : (j : Int) < (L : Int) := by omega
      rw [Nat.zero_add] at hcell
      generalize hp2 : prodL (l.take (j + 1)) = p2 at *
      have HP2 := Lib.hid hp2
      clear hp2
      generalize prodL (l.take j) = p1 at *
      generalize l[j]?.getD 0 = q at *
      clear hg hsn hT hU hB hR
      go_wp2_with fail
      go_roundw
      case rel => exact ⟨j + 1, by omega, by go_num, by rw [HP2.out]; exact hT2, hU2, hB2, hR2⟩
      case measure => simp [intOf]; omega
    · obtain rfl : j = L := by omega
      have hT3 := hT.out
      rw [List.take_of_length_le (Nat.le_of_eq HL.out), hPP.out] at hT3
      have HT3 := Lib.hid hT3
      clear hT3 hT hlt
      go_wp2_with fail
      obtain ⟨wo, rfl⟩ : ∃ wo : World, wo = wr := ⟨_, rfl⟩
      go_loopg [28] 97 (fun g _ wr => ∃ f : Nat, f ≤ 64 ∧ g = 100 - f ∧ Hid (f % 2 = 1 ∧ 3 ≤ f ∧ f ≤ f1N k) ∧ Hid (Three wr (w.heap.size + 1) 115 (.int .i64 (k : Int)) (.int .i64 (f : Int)) (.int .i64 (f2N k : Nat))) ∧ Hid (Three wr w.heap.size 115 (.int .i64 0) (.int .i64 0) (.int .i64 0)) ∧
        Hid (Below w.heap.size w wr) ∧ Hid (Rd .i64 wr w1.heap.size (some ⟨w.heap.size + 2, 0, none⟩) j (primI k)))
      case atStart => exact ⟨3, by decide, by decide, Lib.hid ⟨rfl, Nat.le_refl _, hFC.out.2⟩, HT3, hU, hB, hR⟩
      case round =>
        clear HT3 hU hB hR
        obtain ⟨f, hf, rfl, hF, hT, hU, hB, hR⟩ := hrel
        have hmf := makeFunc_run
        have hR' := hR.out
        rw [hLL.out] at hR'
        have hCF := containsFunc_any (c := j) hR' hp5 (fun p hp => by have := (hPM.out p hp).1; omega) hT.out.cell1
        rw [hFF.out f hF.out.2.1 hF.out.1 hf] at hCF
        have HCF := Lib.hid hCF
        clear hCF hR'
        by_cases hg : 1 < Nat.gcd f k
        · rw [decide_eq_true hg] at HCF
          have hnx := f1N_next hS.out hF.out.1 hF.out.2.2 hg
          have HN : Hid ((f + 2) % 2 = 1 ∧ 3 ≤ f + 2 ∧ f + 2 ≤ f1N k) := Lib.hid ⟨by have := hF.out.1; omega, by have := hF.out.2.1; omega, hnx⟩
          have hf2 : f + 2 ≤ 64 := by have := hF64.out; omega
          have c1 := hT.out.cell1
          have fr1 := hT.out.frozen 1
          have hT2 := Lib.hid (hT.out.set1 (.int .i64 ((f : Int) + 2)))
          have hU2 := Lib.hid (hU.out.other (p := ⟨w.heap.size + 1, 1, none⟩) (by simp) (.int .i64 ((f : Int) + 2)))
          have hB2 := Lib.hid (hB.out.setCell (p := ⟨w.heap.size + 1, 1, none⟩) (by simp) (.int .i64 ((f : Int) + 2)))
          have hR2 := Lib.hid (hR.out.block (w' := wr.setCell ⟨w.heap.size + 1, 1, none⟩ (.int .i64 ((f : Int) + 2))) (fun a ha => by
            injection ha with ha
            subst ha
            exact Below.heap_setCell _ _ _ _ (by simp)))
          clear hnx hF hT hU hB hR hg
          go_wp2_with (go_at_call 81; refine HCF.out.mono ?_; rintro e w9 ⟨rfl, rfl⟩)
          go_roundg (100 - (f + 2))
          case measure => omega
          case rel => exact ⟨f + 2, hf2, rfl, HN, hT2, hU2, hB2, hR2⟩
        · rw [decide_eq_false hg] at HCF
          have hg0 : 0 < Nat.gcd f k := Nat.gcd_pos_of_pos_right _ (by omega)
          have hfe := f1N_found hS.out hF.out.2.1 hF.out.1 hF.out.2.2 (by omega)
          have hT2 := hT.out
          rw [hfe] at hT2
          generalize hF1 : f1N k = F1 at *
          generalize hF2 : f2N k = F2 at *
          have HF1 := Lib.hid hF1
          have HF2 := Lib.hid hF2
          clear hF1 hF2
          have a0 := hT2.cell0
          have a1 := hT2.cell1
          have a2 := hT2.cell2
          have b0 := hU.out.cell0
          have b1 := hU.out.cell1
          have b2 := hU.out.cell2
          have g0 := hU.out.frozen 0
          have g1 := hU.out.frozen 1
          have g2 := hU.out.frozen 2
          have hU2 := Lib.hid (hU.out.put (.int .i64 (k : Int)) (.int .i64 (F1 : Int)) (.int .i64 (F2 : Int)))
          have hB2 := Lib.hid (((hB.out.setCell (p := ⟨w.heap.size, 0, none⟩) (Nat.le_refl _) (.int .i64 (k : Int))).setCell (p := ⟨w.heap.size, 1, none⟩) (Nat.le_refl _) (.int .i64 (F1 : Int))).setCell (p := ⟨w.heap.size, 2, none⟩) (Nat.le_refl _) (.int .i64 (F2 : Int)))
          clear hfe hF hT hU hB hR hg hg0 hT2
          go_wp2_with (go_at_call 81; refine HCF.out.mono ?_; rintro e w9 ⟨rfl, rfl⟩)
          refine bodyPost_ret (coef_results ?_ hU2.out) rfl ⟨by rw [HF1.out, HF2.out], hB2.out⟩
          rfl
end

/-! ### of, Params, At. -/
section
open Go.RowKit

theorem indexB_nil {w : World} : Calls Tryd.prog 79 #[.slice none 0 0, .bool false] w fun e w' => e = .returned (.int .i64 (-1)) ∧ w' = w := by
  go_enter Tryd.func79, Tryd.ntmps79
  go_wp2_with fail
  go_loop [8] (fun i => i = .int .i64 0) (fun _ => 0)
  case atStart => rfl
  case round =>
    obtain rfl := hrel
    go_wp2_with fail
    go_ret
    exact ⟨rfl, rfl⟩
theorem indexB_one {B : Nat} {v : Bool} {w : World} (hc : w.cell? ⟨B, 0, none⟩ = some (.bool v)) : Calls Tryd.prog 79 #[.slice (some ⟨B, 0, none⟩) 1 1, .bool false] w fun e w' => (∃ r : Int, e = .returned (.int .i64 r) ∧ decide (0 ≤ r) = !v) ∧ w' = w := by
  cases v
  · go_enter Tryd.func79, Tryd.ntmps79
    go_wp2_with fail
    go_loop [8] (fun i => i = .int .i64 0) (fun _ => 0)
    case atStart => rfl
    case round =>
      obtain rfl := hrel
      go_wp2_with fail
      go_ret
      exact ⟨⟨_, rfl, by decide⟩, rfl⟩
  · go_enter Tryd.func79, Tryd.ntmps79
    go_wp2_with fail
    go_loop [8] (fun i => ∃ k : Nat, k ≤ 1 ∧ i = .int .i64 (k : Int)) (fun i => 1 - (intOf i).toNat)
    case atStart => exact ⟨0, by decide, rfl⟩
    case round =>
      obtain ⟨k, hk, rfl⟩ := hrel
      by_cases h : k = 0
      · subst h
        go_wp2_with fail
        go_round
        case rel => exact ⟨1, by decide, rfl⟩
        case measure => simp [intOf]
      · obtain rfl : k = 1 := by omega
        go_wp2_with fail
        go_ret
        exact ⟨⟨_, rfl, by decide⟩, rfl⟩
theorem containsB_nil {w : World} : Calls Tryd.prog 75 #[.slice none 0 0, .bool false] w fun e w' => e = .returned (.bool false) ∧ w' = w := by
  go_enter Tryd.func75, Tryd.ntmps75
  go_wp2_with (go_at_call 79; refine indexB_nil.mono ?_; rintro e w ⟨rfl, rfl⟩)
  go_ret
  exact ⟨rfl, rfl⟩
theorem containsB_one {B : Nat} {v : Bool} {w : World} (hc : w.cell? ⟨B, 0, none⟩ = some (.bool v)) : Calls Tryd.prog 75 #[.slice (some ⟨B, 0, none⟩) 1 1, .bool false] w fun e w' => e = .returned (.bool (!v)) ∧ w' = w := by
  have hI := Lib.hid (indexB_one hc)
  clear hc
  go_enter Tryd.func75, Tryd.ntmps75
  go_wp2_with (go_at_call 79; refine hI.out.mono ?_; rintro e w ⟨⟨r, rfl, hr⟩, rfl⟩)
  go_ret
  exact ⟨ret_bool (by first | exact hr | rfl), rfl⟩
theorem of_results {W : World} {tmps : Array Value} {B : Nat} {a b c : Value} {e : Int} {t : TypeId} (h4 : tmps.getD 4 undef = .pointer (some ⟨B, 0, none⟩)) (h5 : tmps.getD 5 undef = .int .i64 e) (hL : Three W B t a b c) :
    (results Tryd.f72 tmps).run Tryd.prog W = .ok (.tuple #[.agg #[a, b, c], .int .i64 e]) W := by
  have c0 := hL.cell0
  have c1 := hL.cell1
  have c2 := hL.cell2
  simp only [Array.getD_eq_getD_getElem?] at h4 h5
  simp [results, Tryd.results72, go_sem, h4, h5, c0, c1, c2]
set_option maxRecDepth 100000 in
set_option maxHeartbeats 4000000 in
theorem of_size {k : Nat} {V : Value} {w : World} (hK : Kinds w) (hs : IsSize k) (hC : ∀ u, Below w.heap.size w u → Calls Tryd.prog 75 #[V, .bool false] u fun e w' => e = .returned (.bool false) ∧ w' = u) :
    Calls Tryd.prog 72 #[.int .i64 (k : Int), V] w fun e w' => e = .returned (.tuple #[parV k (f1N k) (f2N k), .int .i64 0]) ∧ Below w.heap.size w w' := by
  have hv := Lib.hid (fun (u : World) (h : Below w.heap.size w u) => Valid_any (n := (k : Int)) (hK.step h))
  have hco := Lib.hid (fun (u : World) => coefficients_any (w := u) hs)
  have hCC := Lib.hid hC
  have hB : Hid (validS (k : Int) = true) := Lib.hid (by rw [validS_isB, isB_nat]; exact decide_eq_true hs)
  have hT := Three.new w 117 (.int .i64 0) (.int .i64 0) (.int .i64 0)
  have hb0 := (Below.refl w.heap.size w).alloc (Nat.le_refl _) (.cells #[.int .i64 0, .int .i64 0, .int .i64 0] 117)
  have hs1 : (w.alloc (.cells #[.int .i64 0, .int .i64 0, .int .i64 0] 117)).heap.size = w.heap.size + 1 := by simp
  clear hC
  go_enter Tryd.func72, Tryd.ntmps72
  go_wp2
  refine wp_scope_forward 0 rfl ?_
  generalize w.alloc (.cells #[.int .i64 0, .int .i64 0, .int .i64 0] 117) = W at *
  go_wp2_with fail
  refine (hv.out _ hb0).mono ?_
  rintro e w1 ⟨rfl, hb1⟩
  rw [hB.out]
  rw [hs1] at hb1
  have hb2 := hb0.trans (hb1.mono (by omega))
  have hT1 := hT.below hb1 (by omega)
  have hCx := Lib.hid (hCC.out _ hb2)
  clear hb0 hT hb1 hs1 hv
  go_wp2_with (go_at_call 75; refine hCx.out.mono ?_; rintro e w1 ⟨rfl, rfl⟩)
  refine (hco.out _).mono ?_
  rintro e w2 ⟨rfl, hb3⟩
  have hT2 := hT1.below hb3 hT1.lt
  have hb4 := Lib.hid (((((hb2.trans (hb3.mono hb2.size)).setCell (p := ⟨w.heap.size, 0, none⟩) (Nat.le_refl _) (.int .i64 (k : Int))).setCell (p := ⟨w.heap.size, 1, none⟩) (Nat.le_refl _) (.int .i64 (f1N k : Nat))).setCell (p := ⟨w.heap.size, 2, none⟩) (Nat.le_refl _) (.int .i64 (f2N k : Nat))))
  have hT3 := Lib.hid (hT2.put (.int .i64 (k : Int)) (.int .i64 (f1N k : Nat)) (.int .i64 (f2N k : Nat)))
  unfold parV parA
  generalize hF1 : f1N k = F1 at *
  generalize hF2 : f2N k = F2 at *
  have HF1 := Lib.hid hF1
  have HF2 := Lib.hid hF2
  clear hF1 hF2
  have b0 := hT2.cell0
  have b1 := hT2.cell1
  have b2 := hT2.cell2
  have g0 := hT2.frozen 0
  have g1 := hT2.frozen 1
  have g2 := hT2.frozen 2
  clear hT1 hT2 hb2 hb3 hco
  go_wp2_with fail
  refine jump_ret ?_
  refine bodyPost_ret (of_results (e := 0) ?_ ?_ hT3.out) rfl ⟨by rw [HF1.out, HF2.out]; rfl, hb4.out⟩
  · rfl
  · rfl
set_option maxRecDepth 100000 in
set_option maxHeartbeats 4000000 in
theorem of_no {k : Int} {V : Value} {b : Bool} {w : World} (hK : Kinds w) (hs : isB k = false ∨ b = true) (hC : ∀ u, Below w.heap.size w u → Calls Tryd.prog 75 #[V, .bool false] u fun e w' => e = .returned (.bool b) ∧ w' = u) :
    Calls Tryd.prog 72 #[.int .i64 k, V] w fun e w' => e = .returned (.tuple #[parV 0 0 0, .int .i64 2]) ∧ Below w.heap.size w w' := by
  have hv := Lib.hid (fun (u : World) (h : Below w.heap.size w u) => Valid_any (n := k) (hK.step h))
  rw [validS_isB] at hv
  have hCC := Lib.hid hC
  have hT := Three.new w 117 (.int .i64 0) (.int .i64 0) (.int .i64 0)
  have hb0 := (Below.refl w.heap.size w).alloc (Nat.le_refl _) (.cells #[.int .i64 0, .int .i64 0, .int .i64 0] 117)
  have hs1 : (w.alloc (.cells #[.int .i64 0, .int .i64 0, .int .i64 0] 117)).heap.size = w.heap.size + 1 := by simp
  clear hC
  unfold parV parA
  by_cases hk : isB k = true
  · rw [hk] at hv
    obtain rfl : b = true := by rcases hs with h | h; (rw [hk] at h; cases h); exact h
    clear hs hk
    go_enter Tryd.func72, Tryd.ntmps72
    go_wp2
    refine wp_scope_forward 0 rfl ?_
    generalize w.alloc (.cells #[.int .i64 0, .int .i64 0, .int .i64 0] 117) = W at *
    go_wp2_with fail
    refine (hv.out _ hb0).mono ?_
    rintro e w1 ⟨rfl, hb1⟩
    rw [hs1] at hb1
    have hb2 := hb0.trans (hb1.mono (by omega))
    have hT1 := hT.below hb1 (by omega)
    have hCx := Lib.hid (hCC.out _ hb2)
    have hb4 := Lib.hid ((((hb2.setCell (p := ⟨w.heap.size, 0, none⟩) (Nat.le_refl _) (.int .i64 0)).setCell (p := ⟨w.heap.size, 1, none⟩) (Nat.le_refl _) (.int .i64 0)).setCell (p := ⟨w.heap.size, 2, none⟩) (Nat.le_refl _) (.int .i64 0)))
    have hT3 := Lib.hid (hT1.put (.int .i64 0) (.int .i64 0) (.int .i64 0))
    have b0 := hT1.cell0
    have b1 := hT1.cell1
    have b2 := hT1.cell2
    have g0 := hT1.frozen 0
    have g1 := hT1.frozen 1
    have g2 := hT1.frozen 2
    clear hb0 hT hb1 hs1 hv hT1 hb2
    go_wp2_with (go_at_call 75; refine hCx.out.mono ?_; rintro e w1 ⟨rfl, rfl⟩)
    go_step3
    refine ⟨rfl, ?_⟩
    go_wp2_with fail
    rw [Exit.noGoto_ret]
    refine bodyPost_ret (of_results (e := 2) ?_ ?_ hT3.out) rfl ⟨rfl, hb4.out⟩
    · rfl
    · rfl
  · have hk := Bool.eq_false_iff.2 hk
    rw [hk] at hv
    clear hs hk hCC
    go_enter Tryd.func72, Tryd.ntmps72
    go_wp2
    refine wp_scope_forward 0 rfl ?_
    generalize w.alloc (.cells #[.int .i64 0, .int .i64 0, .int .i64 0] 117) = W at *
    go_wp2_with fail
    refine (hv.out _ hb0).mono ?_
    rintro e w1 ⟨rfl, hb1⟩
    rw [hs1] at hb1
    have hb2 := hb0.trans (hb1.mono (by omega))
    have hT1 := hT.below hb1 (by omega)
    have hb4 := Lib.hid ((((hb2.setCell (p := ⟨w.heap.size, 0, none⟩) (Nat.le_refl _) (.int .i64 0)).setCell (p := ⟨w.heap.size, 1, none⟩) (Nat.le_refl _) (.int .i64 0)).setCell (p := ⟨w.heap.size, 2, none⟩) (Nat.le_refl _) (.int .i64 0)))
    have hT3 := Lib.hid (hT1.put (.int .i64 0) (.int .i64 0) (.int .i64 0))
    have b0 := hT1.cell0
    have b1 := hT1.cell1
    have b2 := hT1.cell2
    have g0 := hT1.frozen 0
    have g1 := hT1.frozen 1
    have g2 := hT1.frozen 2
    clear hb0 hT hb1 hs1 hv hT1 hb2
    go_wp2_with fail
    go_step3
    refine ⟨rfl, ?_⟩
    go_wp2_with fail
    rw [Exit.noGoto_ret]
    refine bodyPost_ret (of_results (e := 2) ?_ ?_ hT3.out) rfl ⟨rfl, hb4.out⟩
    · rfl
    · rfl
end

/-! ### Params, At; steps and its iterator; a range over it. -/
section
open Go.RowKit

/-- The permutation of an integer, and the number of the error: what 'of' hands back. -/
def ofV (k : Int) : Value := if isB k then parV k.toNat (f1N k.toNat) (f2N k.toNat) else parV 0 0 0
def ofE (k : Int) : Int := if isB k then 0 else 2
theorem ofV_size {k : Nat} (h : IsSize k) : ofV (k : Int) = parV k (f1N k) (f2N k) := by
  unfold ofV
  rw [isB_nat, decide_eq_true h, if_pos rfl, Int.toNat_natCast]
theorem ofE_size {k : Nat} (h : IsSize k) : ofE (k : Int) = 0 := by unfold ofE; rw [isB_nat, decide_eq_true h, if_pos rfl]
theorem ofV_no {k : Int} (h : isB k = false) : ofV k = parV 0 0 0 := by unfold ofV; rw [h]; rfl
theorem ofE_no {k : Int} (h : isB k = false) : ofE k = 2 := by unfold ofE; rw [h]; rfl
theorem of_plain {k : Int} {w : World} (hK : Kinds w) :
    Calls Tryd.prog 72 #[.int .i64 k, .slice none 0 0] w fun e w' => e = .returned (.tuple #[ofV k, .int .i64 (ofE k)]) ∧ Below w.heap.size w w' := by
  by_cases h : isB k = true
  · obtain ⟨m, rfl, hs⟩ := isB_ex h
    rw [ofV_size hs, ofE_size hs]
    exact of_size hK hs (fun u _ => containsB_nil)
  · have h := Bool.eq_false_iff.2 h
    rw [ofV_no h, ofE_no h]
    exact of_no hK (.inl h) (fun u _ => containsB_nil)
theorem of_ex (k : Int) : ∃ a b c : Nat, ofV k = parV a b c ∧ parS k = ((b : Int), (c : Int), ofE k) := by
  by_cases h : isB k = true
  · obtain ⟨m, rfl, hs⟩ := isB_ex h
    rw [ofV_size hs, ofE_size hs, parS_size hs]
    exact ⟨_, _, _, rfl, rfl⟩
  · have h := Bool.eq_false_iff.2 h
    rw [ofV_no h, ofE_no h, parS_no h]
    exact ⟨0, 0, 0, rfl, rfl⟩
theorem stepsQ_any {a b c : Nat} {w : World} :
    Calls Tryd.prog 73 #[parV a b c] w fun e w' => e = .returned (.func (.func 77) #[] #[.pointer (some ⟨w.heap.size, 0, none⟩)]) ∧ w' = w.alloc (.cells (parA a b c) 117) := by
  have hmf := makeFunc_run
  unfold parV parA
  go_enter Tryd.func73, Tryd.ntmps73
  go_wp2_with fail
  go_ret
  exact ⟨rfl, rfl⟩
end

/-! ### steps's iterator; a range over it. -/
section
open Go.RowKit Go.Shelf BigFrame

attribute [local go_sem] Oper.semAt_some

/-- What steps's iterator runs through: K indices and their images. -/
structure StepsOf (K f1 f2 : Nat) (p : Nat → Nat) : Prop where
  le : K ≤ 6144
  at_ : ∀ (i : Nat) (u : World), i < K → Calls Tryd.prog 78 #[parV K f1 f2, .int .i64 (i : Int)] u fun e u' => e = .returned (.int .i64 (p i : Nat)) ∧ u.grownBy u' none
theorem StepsOf.size {k : Nat} (h : IsSize k) : StepsOf k (f1N k) (f2N k) (piK k) := ⟨(size_le h).2, fun _ _ hi => at_any h hi⟩
theorem StepsOf.none_ : StepsOf 0 0 0 (fun i => i) := ⟨by decide, fun i _ h => absurd h (Nat.not_lt_zero i)⟩
set_option maxRecDepth 100000 in
set_option maxHeartbeats 2000000 in
theorem stepsQ_runs {n lp : Nat} (hn : 1 ≤ n) {K f1 f2 : Nat} {p : Nat → Nat} {B : Nat} {J : Nat → World → Prop} {Jx : World → Prop} {W : World} (hS : StepsOf K f1 f2 p)
    (hB : ∀ k W1, J k W1 → Three W1 B 117 (.int .i64 (K : Int)) (.int .i64 (f1 : Int)) (.int .i64 (f2 : Int)))
    (hJ : ∀ k W1 W2, J k W1 → W1.grownBy W2 none → J k W2)
    (hY : ∀ k W1, k < K → J k W1 → YieldAt Fence.wide (n - 1) Tryd.prog lp #[.int .i64 (k : Int), .int .i64 (p k : Int)] W1 fun e W' =>
      (e = .returned (.bool true) ∧ J (k + 1) W') ∨ (e = .returned (.bool false) ∧ Jx W'))
    (h0 : J 0 W) :
    CallsIn Fence.wide n Tryd.prog 77 #[.func (.yield lp) #[] #[], .pointer (some ⟨B, 0, none⟩)] W fun e W' =>
      (∃ v, e = .returned v) ∧ (J K W' ∨ Jx W') := by
  have c0 := (hB 0 W h0).cell0
  have hle := hS.le
  refine callsIn_of_wp Tryd.func77 rfl trivial ?_ rfl
  simp only [Tryd.ntmps77, List.size_toArray, List.length_cons, List.length_nil, Nat.reduceAdd, Nat.reduceSub, Array.replicate_succ, Array.replicate_zero, List.push_toArray, List.append_toArray, List.nil_append, List.cons_append]
  gi_wp2
  clear c0
  gi_loopw [7] (fun x wr => ∃ k : Nat, k ≤ K ∧ x = .int .i64 (k : Int) ∧ J k wr) (fun x _ => K - (intOf x).toNat)
  case atStart => exact ⟨0, Nat.zero_le _, rfl, h0⟩
  case round =>
    obtain ⟨k, hk, rfl, hJk⟩ := hrel
    by_cases hlt : k < K
    · have c0 := (hB k wr hJk).cell0
      have c1 := (hB k wr hJk).cell1
      have c2 := (hB k wr hJk).cell2
      have hat := callsIn_wide (n := n - 1) |>.2 (hS.at_ k wr hlt)
      unfold parV parA at hat
      have HAT := Lib.hid hat
      clear hat
      gi_wp2
      refine ⟨trivial, ?_⟩
      refine HAT.out.mono ?_
      rintro e w2 ⟨rfl, hg⟩
      obtain ⟨fn, tmps, assign, body, hy, hRd⟩ := hY k w2 hlt (hJ _ _ _ hJk hg)
      clear c0 c1 c2 HAT
      gi_wp2
      refine hRd.mono ?_
      rintro e W3 (⟨rfl, hJ3⟩ | ⟨rfl, hJx3⟩)
      · gi_wp2
        go_roundw
        case rel => exact ⟨k + 1, by omega, by go_num, hJ3⟩
        case measure => simp [intOf]; omega
      · gi_wp2
        refine bodyPost_ret (results_none rfl _ _ _) rfl ?_
        exact ⟨⟨_, rfl⟩, .inr hJx3⟩
    · obtain rfl : k = K := by omega
      gi_wp2
      go_end0
      exact ⟨⟨_, rfl⟩, .inl hJk⟩
/-- How the body of a round may be left. -/
def stepPostQ (B : Nat) (I : Nat → World → Prop) (Ix : Code → World → Prop) (k : Nat) (W : World) : Exit → Act → World → Prop
  | .normal, _, W' => KeepsFrom B W W' ∧ I k W'
  | .ret, _, W' => KeepsFrom B W W' ∧ Ix .ret W'
  | .exit id, _, W' => KeepsFrom B W W' ∧ Ix (.exit id) W'
  | .goto t, _, W' => KeepsFrom B W W' ∧ Ix (.goto t) W'
  | .panic _, _, _ => False
  | .outgrown, _, _ => False
/-- A range over steps's iterator. -/
theorem wpIn_stepsQ {n : Nat} (h1 : 2 ≤ n) {g : Operand} {ps : Array Tmp} {assign body : Code} {Q : Exit → Act → World → Prop} {a : Act} {w : World} {B K f1 f2 : Nat} {p : Nat → Nat} (hS : StepsOf K f1 f2 p)
    (hg : a.eval g = .func (.func 77) #[] #[.pointer (some ⟨B, 0, none⟩)]) (hps : ps.size = 2)
    (I : Nat → World → Prop) (Ix : Code → World → Prop) (hI : OwnFrom w.heap.size I) (hIx : ∀ c, OwnFrom w.heap.size (fun (_ : Unit) => Ix c)) (hL : ∀ k W, I k W → Three W B 117 (.int .i64 (K : Int)) (.int .i64 (f1 : Int)) (.int .i64 (f2 : Int))) (h0 : I 0 w) (a₁ : Nat → Act)
    (hassign : ∀ (lp k : Nat) (W : World) (K : Act → World → Prop), K (a₁ k) W →
      assign.wpIn (Fence.wide.inRound lp) (n - 1 - 1) Tryd.prog (Exit.then K (fun _ _ _ => False)) { tmps := (ps.zip #[.int .i64 (k : Int), .int .i64 (p k : Int)]).foldl (fun t (p, v) => t.setIfInBounds p v) a.tmps, defers := [] } W)
    (hbody : ∀ (lp k : Nat) (W : World), k < K → I k W → w.heap.size + 2 ≤ W.heap.size → body.wpIn (Fence.wide.inRound lp) (n - 1 - 1) Tryd.prog (stepPostQ w.heap.size I Ix (k + 1) W) (a₁ k) W)
    (hdone : ∀ (D : Nat) (W : World), D = w.heap.size → I K W → W.heap[D]? = some (.deferred (some [])) → Q .normal { a with defers := mkD D :: a.defers } W)
    (hstop : ∀ (D : Nat) (c : Code) (W : World), D = w.heap.size → Ix c W → W.heap[D]? = some (.deferred (some [])) → c.wpIn Fence.wide n Tryd.prog Q { a with defers := mkD D :: a.defers } W) :
    (Code.rangeFunc g ps assign body).wpIn Fence.wide n Tryd.prog Q a w := by
  refine wpIn_rangeFunc fun f0 hf0 => ?_
  obtain ⟨rc, hrc⟩ : ∃ rc : LoopState → Option Code → Obj, rc = fun st pe => .loop { state := st, pending := pe, fn := f0, tmps := a.tmps, params := ps, assign, body, defers := w.heap.size } := ⟨_, rfl⟩
  obtain ⟨L, hLp⟩ : ∃ L, w.heap.size + 1 = L := ⟨_, rfl⟩
  obtain ⟨W1, hW1⟩ : ∃ W1, (w.alloc (.deferred (some []))).alloc (rc .ready none) = W1 := ⟨_, rfl⟩
  have hsz : W1.heap.size = w.heap.size + 2 := by rw [← hW1]; simp
  have hrec1 : W1.heap[L]? = some (rc .ready none) := by
    have := World.alloc_heap_new (w.alloc (.deferred (some []))) (rc .ready none)
    rw [World.size_alloc, hLp] at this
    rw [← hW1]; exact this
  have hdef1 : W1.heap[w.heap.size]? = some (.deferred (some [])) := by
    rw [← hW1]; exact (Below.heap_alloc _ _ _ (by simp)).trans (World.alloc_heap_new w _)
  have hcell : ∀ st pe, (rc st pe).isCells = false := fun st pe => by rw [hrc]; rfl
  refine ⟨L, [mkD w.heap.size], W1, { target := .fn (.func 77) #[.pointer (some ⟨B, 0, none⟩)], args := #[.func (.yield L) #[] #[]] }, W1, 77, #[.func (.yield L) #[] #[]] ++ #[.pointer (some ⟨B, 0, none⟩)], W1, ?_, ?_, ?_, ?_, fun _ => by omega, ?_⟩
  · rw [← hW1, hrc, ← hLp]; exact run_enterLoop_outer _ _ _ _ _
  · simp only [resolve, hg]
    simp [go_sem]
  · intro f' _; trivial
  · simp [invoke, go_sem]
  refine (stepsQ_runs (n := n - 1) (lp := L) (B := B) (by omega) (J := fun k W => I k W ∧ W.heap[L]? = some (rc .ready none) ∧ W.heap[w.heap.size]? = some (.deferred (some [])))
    (Jx := fun W => ∃ c, Ix c W ∧ W.heap[L]? = some (rc .done (some c)) ∧ W.heap[w.heap.size]? = some (.deferred (some []))) hS
    (fun k W h => hL k W h.1)
    (fun k W W' h hg => ⟨hI k W W' none h.1 hg (fun r e => by cases e), (hg.block L (Array.getElem?_eq_some_iff.1 h.2.1).1 (fun e => by cases e)).trans h.2.1, (hg.block w.heap.size (Array.getElem?_eq_some_iff.1 h.2.2).1 (fun e => by cases e)).trans h.2.2⟩)
    ?_ ⟨by rw [← hW1]; exact hI.alloc _ (hI.alloc _ h0), hrec1, hdef1⟩).mono ?_
  · rintro k W hkb ⟨hi, hl, hk⟩
    have hlt : L < W.heap.size := (Array.getElem?_eq_some_iff.1 hl).1
    have hl' := hl
    rw [hrc] at hl'
    refine ⟨f0, _, assign, body, run_yield hl' (by show 2 = ps.size; rw [hps]), roundIn_of_wpIn hf0 (hassign _ k W _ ⟨_, run_beginRound hl' rfl, ?_⟩)⟩
    obtain ⟨W2, hW2⟩ : ∃ W2, W.putObj L (rc .busy none) = W2 := ⟨_, rfl⟩
    have hl2 : W2.heap[L]? = some (rc .busy none) := by rw [← hW2]; exact World.putObj_heap_same hlt
    have hk2 : W2.heap[w.heap.size]? = some (.deferred (some [])) := by rw [← hW2]; exact (World.putObj_heap_other (by omega)).trans hk
    have hi2 : I k W2 := by rw [← hW2]; exact hI.putObj _ hi (by omega) hl (hcell _ _)
    have hs2 : W2.heap.size = W.heap.size := by rw [← hW2]; simp
    have hw2 : (W.putObj L (.loop { ({ state := .ready, pending := none, fn := f0, tmps := a.tmps, params := ps, assign, body, defers := w.heap.size } : Loop) with state := .busy })) = W2 := by rw [← hW2, hrc]
    rw [hw2]
    refine wpIn_mono (hbody _ k _ hkb hi2 (by omega)) ?_
    have fin : ∀ (jump : Option Code) (W3 : World), KeepsFrom w.heap.size W2 W3 → ∃ W4, (Instr.endRound L jump).run Tryd.prog W3 = .ok (.bool jump.isNone) W4 ∧ W4 = W3.putObj L (rc (if jump.isNone then .ready else .done) jump) ∧ W3.heap[L]? = some (rc .busy none) ∧
        W4.heap[L]? = some (rc (if jump.isNone then .ready else .done) jump) ∧ W4.heap[w.heap.size]? = some (.deferred (some [])) := fun jump W3 hk3 => by
      have hl3 := hk3.same _ _ (by omega) hl2 (hcell _ _)
      have hl3' := hl3
      rw [hrc] at hl3'
      have h5 := run_endRound (P := Tryd.prog) jump hl3'
      refine ⟨_, h5, by rw [hrc], hl3, ?_, ?_⟩
      · rw [hrc]; exact World.putObj_heap_same (Array.getElem?_eq_some_iff.1 hl3).1
      · exact (World.putObj_heap_other (by omega)).trans (hk3.same _ _ (Nat.le_refl _) hk2 rfl)
    rintro e a3 W3 hp
    cases e with
    | normal =>
      obtain ⟨hk3, hi3⟩ := hp
      obtain ⟨W4, hr, h4, hl3, hl4, hk4⟩ := fin none W3 hk3
      exact ⟨_, _, hr, .inl ⟨rfl, by rw [h4]; exact hI.putObj _ hi3 (by omega) hl3 (hcell _ _), hl4, hk4⟩⟩
    | ret =>
      obtain ⟨hk3, hi3⟩ := hp
      obtain ⟨W4, hr, h4, hl3, hl4, hk4⟩ := fin (some .ret) W3 hk3
      exact ⟨_, _, hr, .inr ⟨rfl, .ret, by rw [h4]; exact (hIx _).putObj (s := ()) _ hi3 (by omega) hl3 (hcell _ _), hl4, hk4⟩⟩
    | exit id =>
      obtain ⟨hk3, hi3⟩ := hp
      obtain ⟨W4, hr, h4, hl3, hl4, hk4⟩ := fin (some (.exit id)) W3 hk3
      exact ⟨_, _, hr, .inr ⟨rfl, .exit id, by rw [h4]; exact (hIx _).putObj (s := ()) _ hi3 (by omega) hl3 (hcell _ _), hl4, hk4⟩⟩
    | goto t =>
      obtain ⟨hk3, hi3⟩ := hp
      obtain ⟨W4, hr, h4, hl3, hl4, hk4⟩ := fin (some (.goto t)) W3 hk3
      exact ⟨_, _, hr, .inr ⟨rfl, .goto t, by rw [h4]; exact (hIx _).putObj (s := ()) _ hi3 (by omega) hl3 (hcell _ _), hl4, hk4⟩⟩
    | panic ch => exact hp.elim
    | outgrown => exact hp.elim
  · rintro e W2 ⟨⟨v, rfl⟩, (⟨hi, hl, hk⟩ | ⟨c, hi, hl, hk⟩)⟩
    · have hl' := hl
      rw [hrc] at hl'
      exact ⟨none, _, run_endLoop hl' (by simp), hdone _ _ rfl (hI.putObj _ hi (by omega) hl (hcell _ _)) ((World.putObj_heap_other (by omega)).trans hk)⟩
    · have hl' := hl
      rw [hrc] at hl'
      exact ⟨some c, _, run_endLoop hl' (by simp), hstop _ c _ rfl ((hIx c).putObj (s := ()) _ hi (by omega) hl (hcell _ _)) ((World.putObj_heap_other (by omega)).trans hk)⟩
end

/-! ### permuted, at both of its types. -/
section
open Go.RowKit Go.Shelf BigFrame

attribute [local go_sem] Oper.semAt_some

/-- Where permuted's loop is: its boxes, its new slice. -/
structure PmI (w : World) (S T B C D : Nat) (q : IntKind) (EL SL FT PT : TypeId) (pl : Value) (k f1 f2 : Nat) (f : Nat → Nat) (g : Nat → Int) (j : Nat) (W : World) : Prop where
  le : j ≤ k
  place : Boxed W S FT pl
  perm : Three W T PT (.int .i64 (k : Int)) (.int .i64 (f1 : Int)) (.int .i64 (f2 : Int))
  box : Boxed W C SL (.slice (some ⟨D, 0, none⟩) k k)
  row : W.ownsRow B EL 1 (.slice (some ⟨D, 0, none⟩) k k) k ((putL f g k j).map (Value.int q))
  low : Below w.heap.size w W
section
variable {w : World} {S T B C D : Nat} {q : IntKind} {EL SL FT PT : TypeId} {pl : Value} {k f1 f2 : Nat} {f : Nat → Nat} {g : Nat → Int}
theorem ownsRow_cells {W : World} {base D n : Nat} {e : TypeId} {xs : List Value} (h : W.ownsRow base e 1 (.slice (some ⟨D, 0, none⟩) n n) n xs) : ∃ a fr, W.heap[D]? = some (.cells a e fr) := by
  rcases h.2 with ⟨h1, _⟩ | ⟨g, cap, cur, hv, _, hg, _⟩
  · cases h1
  · injection hv with hv
    injection hv with hv
    injection hv with hv
    subst hv
    exact ⟨_, _, hg⟩
theorem PmI.own {N : Nat} (hN : w.heap.size ≤ N) : OwnFrom N (PmI w S T B C D q EL SL FT PT pl k f1 f2 f g) := by
  intro j W W' row h hg hr
  have hr' : ∀ r, row = some r → ∃ o : Obj, W.heap[r]? = some o ∧ o.isCells = false := fun r e => (hr r e).2
  obtain ⟨a, fr, ha⟩ := ownsRow_cells h.row
  refine ⟨h.le, (cells_kept h.place hg hr').trans h.place, h.perm.block (cells_kept h.perm hg hr'), (cells_kept h.box hg hr').trans h.box, ownsRow_block h.row (fun b hb => ?_), h.low.grown hg h.low.size (fun r e => Nat.le_trans hN (hr r e).1)⟩
  simp only [Value.ownBlock, Option.some.injEq] at hb
  subst hb
  exact cells_kept ha hg hr'
theorem PmI.drewN {j : Nat} {W : World} (h : PmI w S T B C D q EL SL FT PT pl k f1 f2 f g j W) (m : Nat) : PmI w S T B C D q EL SL FT PT pl k f1 f2 f g j (W.drewN m) :=
  ⟨h.le, h.place, h.perm, h.box, h.row, ⟨h.low.os, h.low.tape, h.low.output, h.low.size, h.low.block⟩⟩
theorem PmI.step {j : Nat} {W : World} (h : PmI w S T B C D q EL SL FT PT pl k f1 f2 f g j W) (hj : j < k) (hSD : S ≠ D) (hTD : T ≠ D) (hCD : C ≠ D) (hD : w.heap.size ≤ D) :
    PmI w S T B C D q EL SL FT PT pl k f1 f2 f g (j + 1) (W.setCell ⟨D, f j, none⟩ (.int q (g j))) :=
  ⟨hj, (Below.heap_setCell _ _ _ _ hSD).trans h.place, h.perm.other (p := ⟨D, f j, none⟩) (Ne.symm hTD) _, (Below.heap_setCell _ _ _ _ hCD).trans h.box, putL_set h.row, h.low.setCell (p := ⟨D, f j, none⟩) hD _⟩
end
set_option maxRecDepth 100000 in
set_option maxHeartbeats 8000000 in
theorem permutedInt_in {n : Nat} (hn : 6 ≤ n) {k G : Nat} {caps : Array Value} {f : Nat → Nat} {g : Nat → Int} {w : World} (hK : Kinds w) (hs : IsSize k) (eG : ∀ args w, (callFunc G args).run Tryd.prog w = .ok (.enter G args) w)
    (hf : ∀ i, i < k → f i < k)
    (hone : ∀ i W, i < k → Below w.heap.size w W → Calls Tryd.prog G (#[.int .i64 (i : Int), .int .i64 (piK k i : Nat)] ++ caps) W fun e W' => e = .returned (.tuple #[.int .i64 (f i : Nat), .int .i64 (g i)]) ∧ ∃ m, W' = W.drewN m) :
    CallsIn Fence.wide n Tryd.prog 64 #[.int .i64 (k : Int), .func (.func G) #[] caps] w (RetQ .i64 3 w (putL f g k k, 0)) := by
  have hO := Lib.hid (fun (u : World) (h : Below w.heap.size w u) => of_plain (k := (k : Int)) (hK.step h))
  rw [ofV_size hs, ofE_size hs] at hO
  have hst := Lib.hid (fun (u : World) => stepsQ_any (a := k) (b := f1N k) (c := f2N k) (w := u))
  have hSt := StepsOf.size hs
  have hk := size_le hs
  have hmk : ∀ u : World, (Instr.makeSlice 36 (.int .i64 k) (.int .i64 k)).run Tryd.prog u = .ok (.slice (some ⟨u.heap.size, 0, none⟩) k k) (u.alloc (.cells (madeCells #[.int .i64 0] k) 3)) := make_ints k (by omega)
  have H1 := Lib.hid hone
  have HF := Lib.hid hf
  have hPL : Hid ((putL f g k k).length = k) := Lib.hid (putL_length _)
  unfold parV at hst hO
  unfold parA at hst hO
  generalize f1N k = f1 at *
  generalize f2N k = f2 at *
  clear hs hone hf
  have hn1 : 1 ≤ n := by omega
  refine callsIn_of_wp_marks Tryd.func64 rfl trivial ?_ rfl
  simp only [Tryd.ntmps64, List.size_toArray, List.length_cons, List.length_nil, Nat.reduceAdd, Nat.reduceSub, Array.replicate_succ, Array.replicate_zero, List.push_toArray, List.append_toArray, List.nil_append, List.cons_append]
  have bP := Boxed.new w 83 (.func (.func G) #[] caps)
  have hb0 := (Below.refl w.heap.size w).alloc (Nat.le_refl _) (.cells #[.func (.func G) #[] caps] 83)
  have hs0 : (w.alloc (.cells #[.func (.func G) #[] caps] 83)).heap.size = w.heap.size + 1 := by simp
  gi_wp2
  generalize w.alloc (.cells #[.func (.func G) #[] caps] 83) = W0 at *
  refine ⟨trivial, ?_⟩
  refine (callsIn_wide.2 (hO.out _ hb0)).mono ?_
  rintro e w1 ⟨rfl, hb1⟩
  rw [hs0] at hb1
  have bP1 := Boxed.below bP hb1 (by omega)
  have hb2 := hb0.trans (hb1.mono (by omega))
  clear hO bP hb0 hb1 hs0
  have hT := Three.new w1 117 (.int .i64 (k : Int)) (.int .i64 (f1 : Int)) (.int .i64 (f2 : Int))
  have c0 := hT.cell0
  have c1 := hT.cell1
  have c2 := hT.cell2
  have hZ := own_zeros_q (q := .i64) (T := 3) (w := w1.alloc (.cells #[.int .i64 (k : Int), .int .i64 (f1 : Int), .int .i64 (f2 : Int)] 117)) (B := w.heap.size) (n := k) (by have := hb2.size; simp; omega) (by omega)
  rw [World.size_alloc] at hZ
  have hT2 := (hT.alloc (.cells (madeCells #[.int .i64 0] k) 3)).alloc (.cells #[.slice (some ⟨w1.heap.size + 1, 0, none⟩) k k] 36)
  have hZ2 := hZ.alloc (.cells #[.slice (some ⟨w1.heap.size + 1, 0, none⟩) k k] 36)
  have bL := Boxed.new ((w1.alloc (.cells #[.int .i64 (k : Int), .int .i64 (f1 : Int), .int .i64 (f2 : Int)] 117)).alloc (.cells (madeCells #[.int .i64 0] k) 3)) 36 (.slice (some ⟨w1.heap.size + 1, 0, none⟩) k k)
  rw [World.size_alloc, World.size_alloc] at bL
  have bP2 := ((bP1.alloc (.cells #[.int .i64 (k : Int), .int .i64 (f1 : Int), .int .i64 (f2 : Int)] 117)).alloc (.cells (madeCells #[.int .i64 0] k) 3)).alloc (.cells #[.slice (some ⟨w1.heap.size + 1, 0, none⟩) k k] 36)
  have hb3 : Below w.heap.size w (((w1.alloc (.cells #[.int .i64 (k : Int), .int .i64 (f1 : Int), .int .i64 (f2 : Int)] 117)).alloc (.cells (madeCells #[.int .i64 0] k) 3)).alloc (.cells #[.slice (some ⟨w1.heap.size + 1, 0, none⟩) k k] 36)) := by
    have := hb2.size
    exact ((hb2.alloc (by omega) _).alloc (by simp; omega) _).alloc (by simp; omega) _
  have hs3 : (((w1.alloc (.cells #[.int .i64 (k : Int), .int .i64 (f1 : Int), .int .i64 (f2 : Int)] 117)).alloc (.cells (madeCells #[.int .i64 0] k) 3)).alloc (.cells #[.slice (some ⟨w1.heap.size + 1, 0, none⟩) k k] 36)).heap.size = w1.heap.size + 3 := by simp
  have hlt1 := hb2.size
  clear hT hZ bP1 hb2
  gi_wp2
  have hT3 := Three.new (((w1.alloc (.cells #[.int .i64 (k : Int), .int .i64 (f1 : Int), .int .i64 (f2 : Int)] 117)).alloc (.cells (madeCells #[.int .i64 0] k) 3)).alloc (.cells #[.slice (some ⟨w1.heap.size + 1, 0, none⟩) k k] 36)) 117 (.int .i64 (k : Int)) (.int .i64 (f1 : Int)) (.int .i64 (f2 : Int))
  rw [hs3] at hT3
  generalize (((w1.alloc (.cells #[.int .i64 (k : Int), .int .i64 (f1 : Int), .int .i64 (f2 : Int)] 117)).alloc (.cells (madeCells #[.int .i64 0] k) 3)).alloc (.cells #[.slice (some ⟨w1.heap.size + 1, 0, none⟩) k k] 36)) = W3 at *
  refine ⟨trivial, ?_⟩
  refine (callsIn_wide.2 (hst.out _)).mono ?_
  rintro e w4 ⟨rfl, rfl⟩
  rw [hs3]
  have hZ4 := hZ2.alloc (.cells #[.int .i64 (k : Int), .int .i64 (f1 : Int), .int .i64 (f2 : Int)] 117)
  have bL4 := bL.alloc (.cells #[.int .i64 (k : Int), .int .i64 (f1 : Int), .int .i64 (f2 : Int)] 117)
  have bP4 := bP2.alloc (.cells #[.int .i64 (k : Int), .int .i64 (f1 : Int), .int .i64 (f2 : Int)] 117)
  have hb4 := hb3.alloc hb3.size (.cells #[.int .i64 (k : Int), .int .i64 (f1 : Int), .int .i64 (f2 : Int)] 117)
  have hs4 : (W3.alloc (.cells #[.int .i64 (k : Int), .int .i64 (f1 : Int), .int .i64 (f2 : Int)] 117)).heap.size = w1.heap.size + 4 := by simp [hs3]
  generalize W3.alloc (.cells #[.int .i64 (k : Int), .int .i64 (f1 : Int), .int .i64 (f2 : Int)] 117) = W4 at *
  have hI0 : PmI w w.heap.size (w1.heap.size + 3) w.heap.size (w1.heap.size + 1 + 1) (w1.heap.size + 1) .i64 3 36 83 117 (.func (.func G) #[] caps) k f1 f2 f g 0 W4 := ⟨Nat.zero_le _, bP4, hT3, bL4, hZ4, hb4⟩
  clear hT2 hZ2 bL bP2 hb3 hs3 hT3 hZ4 bL4 bP4 hb4 c0 c1 c2 hst
  gi_wp2
  refine wpIn_stepsQ (n := n) (K := k) (f1 := f1) (f2 := f2) (p := piK k) (B := w1.heap.size + 3) (by omega) hSt rfl rfl
    (PmI w w.heap.size (w1.heap.size + 3) w.heap.size (w1.heap.size + 1 + 1) (w1.heap.size + 1) .i64 3 36 83 117 (.func (.func G) #[] caps) k f1 f2 f g) (fun _ _ => False)
    (PmI.own (by omega)) (fun _ _ _ _ _ h => h.elim) (fun _ _ h => h.perm) hI0
    (fun j => { tmps := #[.int .i64 (k : Int), .func (.func G) #[] caps, undef, .pointer (some ⟨w.heap.size, 0, none⟩), .slice none 0 0, .int .i64 0, .pointer (some ⟨w1.heap.size, 0, none⟩), .int .i64 0, .pointer (some ⟨w1.heap.size + 1 + 1, 0, none⟩), .int .i64 (j : Int), .int .i64 (piK k j : Nat), undef, undef, .tuple #[.agg #[.int .i64 (k : Int), .int .i64 (f1 : Int), .int .i64 (f2 : Int)], .int .i64 0], .int .i64 (k : Int), .tuple #[.agg #[.int .i64 (k : Int), .int .i64 (f1 : Int), .int .i64 (f2 : Int)], .int .i64 0], .agg #[.int .i64 (k : Int), .int .i64 (f1 : Int), .int .i64 (f2 : Int)], .int .i64 0, .int .i64 0, .bool false, undef, .int .i64 (k : Int), .slice (some ⟨w1.heap.size + 1, 0, none⟩) k k, .agg #[.int .i64 (k : Int), .int .i64 (f1 : Int), .int .i64 (f2 : Int)], .func (.func 77) #[] #[.pointer (some ⟨w1.heap.size + 3, 0, none⟩)], .int .i64 (j : Int), .int .i64 (piK k j : Nat), undef, undef, undef, undef, undef, undef, undef, undef, undef, undef, undef, undef], defers := [] }) ?assign ?body ?done ?stop
  case assign =>
    intro lp j W K hK
    gi_wp2
    exact hK
  case body =>
    intro lp j W hj hI hbig
    have hfj := HF.out j hj
    have HC := Lib.hid (H1.out j W hj hI.low)
    have cP := hI.place.cell
    obtain ⟨v0, cD⟩ := putL_cell hI.row hfj
    have fD := hI.row.frozenAt (f j)
    have cL := hI.box.cell
    have HST := Lib.hid (fun m => (hI.drewN m).step hj (by omega) (by omega) (by omega) (by omega))
    have hf0 : (0 : Int) ≤ ((f j : Nat) : Int) := by omega
    have hf1 : ((f j : Nat) : Int) < (k : Int) := by omega
    clear hI hI0
    generalize f j = fj at *
    generalize g j = gj at *
    gi_wp2
    refine ⟨trivial, fun _ => by omega, ?_⟩
    refine (CallsIn.inRound lp (callsIn_wide.2 HC.out)).mono ?_
    rintro e W2 ⟨rfl, m, rfl⟩
    have cD' : (W.drewN m).cell? ⟨w1.heap.size + 1, fj, none⟩ = some (.int .i64 v0) := cD
    have fD' : (W.drewN m).frozen? ⟨w1.heap.size + 1, fj, none⟩ = false := fD
    have cL' : (W.drewN m).cell? ⟨w1.heap.size + 1 + 1, 0, none⟩ = some (.slice (some ⟨w1.heap.size + 1, 0, none⟩) k k) := cL
    have hKF := (KeepsOthers.setCell (W.drewN m) ⟨w1.heap.size + 1, fj, none⟩ (.int .i64 gj)).from W4.heap.size
    clear cD fD cL cP HC
    gi_wp2
    exact ⟨⟨hKF.size, hKF.same⟩, HST.out m⟩
  case stop => intro D c W _ h; exact h.elim
  case done =>
    intro D W hD hI hKD
    have cL := hI.box.cell
    gi_wp2
    refine leaves_marks (B := w1.heap.size + 4) [D] W ⟨by simp, fun E hE => by obtain rfl := List.mem_singleton.1 hE; exact hKD⟩ (fun E hE => by obtain rfl := List.mem_singleton.1 hE; omega) (fun w2 h2 => ⟨_, results_tmp2 rfl _ _ _, ?_⟩)
    exact RetQ.mk_ hPL.out (ownsRow_block hI.row (fun b hb => by
      simp only [Value.ownBlock, Option.some.injEq] at hb
      subst hb
      exact h2.block _ (by omega))) (Nat.le_refl _) (hI.low.trans (h2.mono (by omega))) rfl
theorem permutedInt_no {k : Int} {G : Nat} {caps : Array Value} {w : World} (hK : Kinds w) (h : isB k = false) :
    Calls Tryd.prog 64 #[.int .i64 k, .func (.func G) #[] caps] w (RetQ .i64 3 w ([], 2)) := by
  have hO := Lib.hid (fun (u : World) (h : Below w.heap.size w u) => of_plain (k := k) (hK.step h))
  rw [ofV_no h, ofE_no h] at hO
  unfold parV parA at hO
  have hb0 := (Below.refl w.heap.size w).alloc (Nat.le_refl _) (.cells #[.func (.func G) #[] caps] 83)
  clear h
  go_enter Tryd.func64, Tryd.ntmps64
  go_wp2_with fail
  refine (hO.out _ hb0).mono ?_
  rintro e w1 ⟨rfl, hb1⟩
  have hb2 := hb0.trans (hb1.mono (by simp))
  have hb3 := hb2.alloc hb2.size (.cells #[.int .i64 ((0 : Nat) : Int), .int .i64 ((0 : Nat) : Int), .int .i64 ((0 : Nat) : Int)] 117)
  clear hb0 hb1 hO
  go_wp2_with fail
  go_ret2
  exact RetQ.nil_ hb3
end

/-! ### Order, Inverse, Interleave, Deinterleave, Bits. -/
section
open Go.RowKit

theorem order1_any {a b : Int} {w : World} : Calls Tryd.prog 65 #[.int .i64 a, .int .i64 b] w fun e w' => e = .returned (.tuple #[.int .i64 a, .int .i64 b]) ∧ w' = w := by
  go_enter Tryd.func65, Tryd.ntmps65
  go_wp2_with fail
  go_ret2
  exact ⟨rfl, rfl⟩
theorem putL_ord (k : Nat) : putL (fun i => i) (fun i => ((piK k i : Nat) : Int)) k k = ordI k k := by rw [putL_id]; rfl
set_option maxHeartbeats 1000000 in
theorem Order_any {k : Int} {w : World} (hK : Kinds w) : Calls Tryd.prog 54 #[.int .i64 k] w (RetQ .i64 3 w (orderS k)) := by
  by_cases h : isB k = true
  · obtain ⟨m, rfl, hs⟩ := isB_ex h
    rw [orderS_size hs]
    have hP := callsIn_wide.1 (permutedInt_in (n := 6) (by decide) (G := 65) (caps := #[]) (f := fun i => i) (g := fun i => ((piK m i : Nat) : Int)) hK hs (enters_of Tryd.func65 (by kernel_rfl) rfl) (fun _ hi => hi)
      (fun i W _ _ => (order1_any (a := (i : Int)) (b := (piK m i : Nat)) (w := W)).mono (fun e w' h => ⟨h.1, 0, h.2⟩)))
    rw [putL_ord] at hP
    have HP := Lib.hid hP
    clear hP h
    go_enter Tryd.func54, Tryd.ntmps54
    go_wp2_with (go_at_call 64; refine HP.out.mono ?_; rintro e w1 ⟨A, c, rfl, hown, hb⟩)
    go_ret2
    exact ⟨A, c, rfl, hown, hb⟩
  · have h := Bool.eq_false_iff.2 h
    rw [orderS_no h]
    have HP := Lib.hid (permutedInt_no (G := 65) (caps := #[]) hK h)
    clear h
    go_enter Tryd.func54, Tryd.ntmps54
    go_wp2_with (go_at_call 64; refine HP.out.mono ?_; rintro e w1 ⟨A, c, rfl, hown, hb⟩)
    go_ret2
    exact ⟨A, c, rfl, hown, hb⟩
end

/-! ### Steps; free, Free. -/
section
open Go.RowKit Go.Shelf BigFrame

attribute [local go_sem] Oper.semAt_some

theorem stepsOf_ex (k : Int) : ∃ (a b c : Nat) (p : Nat → Nat), ofV k = parV a b c ∧ StepsOf a b c p ∧ (orderS k).1 = (List.range a).map (fun i => ((p i : Nat) : Int)) := by
  by_cases h : isB k = true
  · obtain ⟨m, rfl, hs⟩ := isB_ex h
    rw [ofV_size hs, orderS_size hs]
    exact ⟨m, _, _, piK m, rfl, StepsOf.size hs, rfl⟩
  · have h := Bool.eq_false_iff.2 h
    rw [ofV_no h, orderS_no h]
    exact ⟨0, 0, 0, fun i => i, rfl, StepsOf.none_, rfl⟩
theorem Tryd.info_bool : (Tryd.prog.info? 4).map (fun i => (i.zero, i.size, i.bytes)) = some (some (.bool false), 1, 1) := by kernel_rfl
theorem make_bools (n : Nat) (hn : n ≤ 1000000) (u : World) : (Instr.makeSlice 123 (.int .i64 n) (.int .i64 n)).run Tryd.prog u =
    .ok (.slice (some ⟨u.heap.size, 0, none⟩) n n) (u.alloc (.cells (madeCells #[.bool false] n) 4)) := by
  obtain ⟨i0, hi, hz0, hz1, hz2⟩ := info_q Tryd.info_bool
  have h := run_make (P := Tryd.prog) u 123 4 i0 (.bool false) Tryd.underlying123 hi hz0 .i64 .i64 (n : Int) (n : Int) (by omega) (by omega) (by rw [hz2]; omega) (by omega)
  simpa [hz1, Value.cells] using h
/-- n times false, in which for each i below j the element f i has become true. -/
def putB (f : Nat → Nat) (n : Nat) : Nat → List Value
  | 0 => List.replicate n (.bool false)
  | j + 1 => (putB f n j).set (f j) (.bool true)
theorem putB_length {f : Nat → Nat} {n : Nat} : ∀ j, (putB f n j).length = n
  | 0 => by simp [putB]
  | j + 1 => by rw [putB, List.length_set, putB_length j]
theorem putB_no {f : Nat → Nat} {n x : Nat} (hx : x < n) : ∀ j, (∀ i, i < j → f i ≠ x) → (putB f n j)[x]? = some (.bool false)
  | 0, _ => by
    unfold putB
    rw [List.getElem?_replicate, if_pos hx]
  | j + 1, h => by
    rw [putB, List.getElem?_set_ne (h j (Nat.lt_succ_self j))]
    exact putB_no hx j (fun i hi => h i (by omega))
theorem own_falses {w : World} {B n : Nat} (hB : B ≤ w.heap.size) (hn : n ≤ 1000000) : (w.alloc (.cells (madeCells #[.bool false] n) 4)).ownsRow B 4 1 (.slice (some ⟨w.heap.size, 0, none⟩) n n) n (List.replicate n (.bool false)) := by
  refine ⟨by simp, .inr ⟨w.heap.size, n, madeCells #[.bool false] n, rfl, hB, heap_alloc_new w _, Nat.le_refl _, by unfold maxLen; omega, by simp [madeCells], ?_⟩⟩
  rw [toList_madeCells_one, Nat.mul_one, List.take_replicate, Nat.min_self]
/-- Where free's loop is. -/
structure FrI (w : World) (S : Nat) (k v n f1 f2 : Nat) (f : Nat → Nat) (j : Nat) (W : World) : Prop where
  le : j ≤ k
  win : Boxed W (S + 1) 3 (.int .i64 (v : Int))
  len : Boxed W (S + 2) 3 (.int .i64 (n : Int))
  box : Boxed W (S + 4) 123 (.slice (some ⟨S + 3, 0, none⟩) k k)
  ok : Boxed W (S + 5) 4 (.bool true)
  perm : Three W (S + 6) 117 (.int .i64 (k : Int)) (.int .i64 (f1 : Int)) (.int .i64 (f2 : Int))
  row : W.ownsRow S 4 1 (.slice (some ⟨S + 3, 0, none⟩) k k) k (putB f k j)
  low : Below w.heap.size w W
section
variable {w : World} {S : Nat} {k v n f1 f2 : Nat} {f : Nat → Nat}
theorem FrI.own {N : Nat} (hN : w.heap.size ≤ N) : OwnFrom N (FrI w S k v n f1 f2 f) := by
  intro j W W' row h hg hr
  have hr' : ∀ r, row = some r → ∃ o : Obj, W.heap[r]? = some o ∧ o.isCells = false := fun r e => (hr r e).2
  obtain ⟨a, fr, ha⟩ := ownsRow_cells h.row
  refine ⟨h.le, (cells_kept h.win hg hr').trans h.win, (cells_kept h.len hg hr').trans h.len, (cells_kept h.box hg hr').trans h.box, (cells_kept h.ok hg hr').trans h.ok, h.perm.block (cells_kept h.perm hg hr'), ownsRow_block h.row (fun b hb => ?_), h.low.grown hg h.low.size (fun r e => Nat.le_trans hN (hr r e).1)⟩
  simp only [Value.ownBlock, Option.some.injEq] at hb
  subst hb
  exact cells_kept ha hg hr'
theorem FrI.drewN {j : Nat} {W : World} (h : FrI w S k v n f1 f2 f j W) (m : Nat) : FrI w S k v n f1 f2 f j (W.drewN m) :=
  ⟨h.le, h.win, h.len, h.box, h.ok, h.perm, h.row, ⟨h.low.os, h.low.tape, h.low.output, h.low.size, h.low.block⟩⟩
theorem FrI.step {j : Nat} {W : World} (h : FrI w S k v n f1 f2 f j W) (hj : j < k) (hS : w.heap.size ≤ S) :
    FrI w S k v n f1 f2 f (j + 1) (W.setCell ⟨S + 3, f j, none⟩ (.bool true)) := by
  have hx : ∀ i, i ≠ 3 → (W.setCell ⟨S + 3, f j, none⟩ (.bool true)).heap[S + i]? = W.heap[S + i]? := fun i hi => Below.heap_setCell _ _ _ _ (show S + i ≠ S + 3 by omega)
  refine ⟨hj, (hx 1 (by decide)).trans h.win, (hx 2 (by decide)).trans h.len, (hx 4 (by decide)).trans h.box, (hx 5 (by decide)).trans h.ok, h.perm.block (hx 6 (by decide)), ?_, h.low.setCell (p := ⟨S + 3, f j, none⟩) (show w.heap.size ≤ S + 3 by omega) _⟩
  rw [putB]
  exact (World.ownsRow.stored h.row (f j) (.bool true)).1
end
theorem heap_old {w : World} {o x : Obj} {j : Nat} (h : w.heap[j]? = some x) : (w.alloc o).heap[j]? = some x := (Below.heap_alloc _ _ _ (Array.getElem?_eq_some_iff.1 h).1).trans h
theorem heap_new_at (w : World) (o : Obj) (s : Nat) (hs : w.heap.size = s) : (w.alloc o).heap[s]? = some o := by
  subst hs
  exact World.alloc_heap_new w o
end
end Go.Proofs.YtbpkoilecdejiaaDoor
