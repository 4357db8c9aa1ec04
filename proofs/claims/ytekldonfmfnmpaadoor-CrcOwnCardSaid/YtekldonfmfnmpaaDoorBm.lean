/-
  Bursts: the mathematics.
-/
import Derived.Test.YtekldonfmfnmpaaDoorL5
namespace Go.Proofs.YtekldonfmfnmpaaDoor
open Go.RowKit

/-- The changed places: i, and those behind it, fewer than t away, at which the pattern has a bit. -/
def mB (i t : Nat) (pat : Int) (p : Nat) : Bool := decide (p = i) || (decide (i < p) && decide (p < i + t) && decide (pat / 2 ^ (p - i) % 2 = 1))
def flipL (bs : List Bool) (i t : Nat) (pat : Int) : List Bool := (List.range bs.length).map fun p => xor (bs.getD p false) (mB i t pat p)
theorem flipL_length (bs : List Bool) (i t : Nat) (pat : Int) : (flipL bs i t pat).length = bs.length := by simp [flipL]
theorem flipL_getD {bs : List Bool} {i t : Nat} {pat : Int} {p : Nat} (h : p < bs.length) : (flipL bs i t pat).getD p false = xor (bs.getD p false) (mB i t pat p) := by
  simp [flipL, List.getD_eq_getElem?_getD, h]
theorem toI_set (bs : List Bool) (p : Nat) (b : Bool) : (toI bs).set p (bI b) = toI (bs.set p b) := by simp [toI, List.map_set]
theorem set_getD {bs : List Bool} {p j : Nat} {b : Bool} (hp : p < bs.length) : (bs.set p b).getD j false = if j = p then b else bs.getD j false := by
  rw [List.getD_eq_getElem?_getD, List.getElem?_set, List.getD_eq_getElem?_getD]
  by_cases h : p = j
  · subst h
    rw [if_pos rfl, if_pos hp, if_pos rfl]; rfl
  · rw [if_neg h, if_neg (fun e => h e.symm)]
/-- The first change. -/
theorem flipL_first {bs : List Bool} {i : Nat} {pat : Int} (hi : i < bs.length) : bs.set i (!(bs.getD i false)) = flipL bs i 1 pat := by
  refine ext_getD (by rw [List.length_set, flipL_length]) (fun p hp => ?_)
  rw [List.length_set] at hp
  rw [set_getD hi, flipL_getD hp]
  unfold mB
  by_cases h : p = i
  · subst h
    rw [if_pos rfl, decide_eq_true rfl, Bool.true_or, Bool.xor_true]
  · rw [if_neg h, decide_eq_false h, Bool.false_or]
    have : (decide (i < p) && decide (p < i + 1)) = false := by
      by_cases h2 : i < p
      · rw [decide_eq_false (show ¬ p < i + 1 by omega), Bool.and_false]
      · rw [decide_eq_false h2, Bool.false_and]
    rw [this, Bool.false_and, Bool.xor_false]
theorem flipL_at {bs : List Bool} {i t : Nat} {pat : Int} (h : i + t < bs.length) (ht : 0 < t) : (flipL bs i t pat).getD (i + t) false = bs.getD (i + t) false := by
  rw [flipL_getD h]
  unfold mB
  rw [decide_eq_false (show ¬ i + t = i by omega), decide_eq_false (show ¬ i + t < i + t by omega)]
  simp
theorem flipL_yes {bs : List Bool} {i t : Nat} {pat : Int} (h : i + t < bs.length) (ht : 0 < t) (hp : pat / 2 ^ t % 2 = 1) : (flipL bs i t pat).set (i + t) (!(bs.getD (i + t) false)) = flipL bs i (t + 1) pat := by
  refine ext_getD (by rw [List.length_set, flipL_length, flipL_length]) (fun p hpl => ?_)
  rw [List.length_set, flipL_length] at hpl
  rw [set_getD (by rw [flipL_length]; exact h), flipL_getD hpl]
  by_cases hq : p = i + t
  · subst hq
    rw [if_pos rfl, flipL_getD hpl]
    unfold mB
    rw [Nat.add_sub_cancel_left, decide_eq_true hp, decide_eq_false (show ¬ i + t = i by omega), decide_eq_true (show i < i + t by omega), decide_eq_true (show i + t < i + (t + 1) by omega)]
    simp
  · rw [if_neg hq, flipL_getD hpl]
    congr 1
    unfold mB
    have : decide (p < i + t) = decide (p < i + (t + 1)) := by
      by_cases h3 : p < i + t
      · rw [decide_eq_true h3, decide_eq_true (by omega)]
      · rw [decide_eq_false h3, decide_eq_false (by omega)]
    rw [this]
theorem flipL_no {bs : List Bool} {i t : Nat} {pat : Int} (hp : pat / 2 ^ t % 2 ≠ 1) : flipL bs i t pat = flipL bs i (t + 1) pat := by
  refine ext_getD (by rw [flipL_length, flipL_length]) (fun p hpl => ?_)
  rw [flipL_length] at hpl
  rw [flipL_getD hpl, flipL_getD hpl]
  congr 1
  unfold mB
  by_cases hq : p = i + t
  · subst hq
    rw [Nat.add_sub_cancel_left, decide_eq_false hp]
    simp
  · have : decide (p < i + t) = decide (p < i + (t + 1)) := by
      by_cases h3 : p < i + t
      · rw [decide_eq_true h3, decide_eq_true (by omega)]
      · rw [decide_eq_false h3, decide_eq_false (by omega)]
    rw [this]
theorem xorB_zeros_left {a : List Bool} {n : Nat} (h : a.length = n) : xorB (zerosB n) a = a := by
  subst h
  refine ext_getD (by rw [xorB_length]; simp [zerosB]) (fun i hi => ?_)
  rw [xorB_length] at hi
  rw [xorB_getD hi, zerosB_getD, Bool.false_xor]
/-- A word with a checksum 0 of which some elements within the checksum's length are changed has no checksum 0. -/
theorem flip_bad {g bs : List Bool} {i t : Nat} {pat : Int} (hg : g.getD (g.length - 1) false = true) (h0 : crcB g bs = zerosB g.length) (hi : i < bs.length) (ht0 : 0 < t) (ht : t ≤ g.length) (hit : i + t ≤ bs.length) :
    crcB g (flipL bs i t pat) ≠ zerosB g.length := by
  let q : List Bool := (List.range t).map fun j => mB i t pat (i + j)
  have hql : q.length = t := by simp [q]
  let M : List Bool := zerosB i ++ q ++ zerosB (bs.length - i - t)
  have hMl : M.length = bs.length := by simp [M, hql, zerosB]; omega
  have hM : ∀ p, p < bs.length → M.getD p false = mB i t pat p := by
    intro p hp
    simp only [M]
    rw [List.getD_eq_getElem?_getD]
    by_cases h1 : p < i
    · rw [List.getElem?_append_left (by simp [zerosB, hql]; omega), List.getElem?_append_left (by simp [zerosB]; omega), ← List.getD_eq_getElem?_getD, zerosB_getD]
      unfold mB
      rw [decide_eq_false (show ¬ p = i by omega), decide_eq_false (show ¬ i < p by omega)]
      rfl
    · by_cases h2 : p < i + t
      · rw [List.getElem?_append_left (by simp [zerosB, hql]; omega), List.getElem?_append_right (by simp [zerosB]; omega)]
        have e : p - (zerosB i).length = p - i := by simp [zerosB]
        rw [e]
        have h3 : p - i < t := by omega
        simp only [q, List.getElem?_map, List.getElem?_range h3, Option.map_some, Option.getD_some]
        rw [show i + (p - i) = p by omega]
      · rw [List.getElem?_append_right (by simp [zerosB, hql]; omega), ← List.getD_eq_getElem?_getD, zerosB_getD]
        unfold mB
        rw [decide_eq_false (show ¬ p = i by omega), decide_eq_false (show ¬ p < i + t by omega)]
        simp
  have hf : flipL bs i t pat = xorB bs M := by
    refine ext_getD (by rw [flipL_length, xorB_length]) (fun p hp => ?_)
    rw [flipL_length] at hp
    rw [flipL_getD hp, xorB_getD hp, hM p hp]
  rw [hf, crcB_xor g hMl.symm, h0, xorB_zeros_left (crcB_length g M)]
  refine crcB_burst (by rw [hql]; exact ht) (fun e => ?_) hg
  have h1 : q.getD 0 false = true := by
    have h4 := hM i hi
    have : q.getD 0 false = mB i t pat i := by
      simp only [q]
      rw [List.getD_eq_getElem?_getD, List.getElem?_map, List.getElem?_range ht0]
      rfl
    rw [this]
    unfold mB
    simp
  rw [e, zerosB_getD] at h1
  cases h1
theorem checkS_bad {k : Int} {bs : List Bool} (h : (genN k).2 ≠ 0) (hl : (genN k).2 ≤ bs.length) (hne : crcB (genB k) bs ≠ zerosB (genB k).length) : checkS k (toI bs) = ([], 11) := by
  unfold checkS
  rw [if_neg h, bits_valid (toI_bits bs), if_neg (by decide), toI_length, if_neg (by omega)]
  by_cases he : crcI k ((toI bs).take (bs.length - (genN k).2)) = (toI bs).drop (bs.length - (genN k).2)
  · exfalso
    apply hne
    have h1 : toI bs = (toI bs).take (bs.length - (genN k).2) ++ crcI k ((toI bs).take (bs.length - (genN k).2)) := by rw [he, List.take_append_drop]
    have h2 := crcI_residue k ((toI bs).take (bs.length - (genN k).2))
    rw [← h1] at h2
    unfold crcI at h2
    rw [toB_toI] at h2
    have h3 := congrArg toB h2
    rw [toB_toI, toB_zeros, ← genB_length] at h3
    exact h3
  · rw [if_neg he]
theorem bI_not (b : Bool) : 1 - bI b = bI (!b) := by cases b <;> rfl
end Go.Proofs.YtekldonfmfnmpaaDoor
