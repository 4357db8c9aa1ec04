/-
  Plain mathematics of bit slices: no program is named here. Plain mathematics of packing: no program is named here. Plain mathematics of bit slices: packing and unpacking undo each other, so do value and digits; the distance is a metric. No program is named here.
-/
import Derived.Test.YtoegamlpgenfcaaDoorBase
import Derived.IntWalk
namespace Go.Proofs.YtoegamlpgenfcaaDoor
/-! ### Plain mathematics of bit slices: no program is named here. -/
section
/-- Is the slice a valid bit slice? -/
def validB (xs : List Int) : Bool := xs.all fun x => decide (x ≤ 1)
theorem validB_snoc (xs : List Int) (x : Int) : validB (xs ++ [x]) = (validB xs && decide (x ≤ 1)) := by simp [validB]
theorem take_snoc {α : Type} [Inhabited α] (xs : List α) (k : Nat) (h : k < xs.length) (d : α) : xs.take (k + 1) = xs.take k ++ [xs[k]?.getD d] := by
  rw [List.take_succ_eq_append_getElem h]; simp [h]
theorem validB_prefix {xs : List Int} {k : Nat} (h : validB (xs.take k) = false) : validB xs = false := by
  have e := List.take_append_drop k xs
  rw [← e]
  simp only [validB, List.all_append] at h ⊢
  rw [h]; rfl
/-- The number of ones. -/
def weight (xs : List Int) : Int := (xs.filter fun x => x == 1).length
theorem weight_le (xs : List Int) : 0 ≤ weight xs ∧ weight xs ≤ xs.length := by
  unfold weight; exact ⟨by omega, by have := List.length_filter_le (fun x : Int => x == 1) xs; omega⟩
theorem weight_snoc (xs : List Int) (x : Int) : weight (xs ++ [x]) = weight xs + if x = 1 then 1 else 0 := by
  by_cases h : x = 1 <;> simp [weight, h]
/-- Every element is 0 or 1. -/
def Bits (xs : List Int) : Prop := ∀ x ∈ xs, x = 0 ∨ x = 1
/-- The value of the bits, the most significant first. -/
def valueOf (xs : List Int) : Int := xs.foldl (fun v x => 2 * v + x) 0
theorem valueOf_snoc (xs : List Int) (x : Int) : valueOf (xs ++ [x]) = 2 * valueOf xs + x := by simp [valueOf]
theorem bits_nonneg {xs : List Int} (hb : Bits xs) (k : Nat) : xs[k]?.getD 0 = 0 ∨ xs[k]?.getD 0 = 1 := by
  rcases Nat.lt_or_ge k xs.length with hk | hk
  · simp [hk]; exact hb _ (List.getElem_mem hk)
  · simp [hk]
theorem Bits.take {xs : List Int} (hb : Bits xs) (k : Nat) : Bits (xs.take k) := fun x hx => hb x (List.mem_of_mem_take hx)
theorem Bits.snoc {xs : List Int} {x : Int} (hb : Bits xs) (hx : x = 0 ∨ x = 1) : Bits (xs ++ [x]) := fun y hy => by
  rcases List.mem_append.1 hy with h | h
  · exact hb y h
  · simp at h; subst h; exact hx
theorem foldl_value (xs : List Int) (v : Int) : xs.foldl (fun v x => 2 * v + x) v = v * ((2 ^ xs.length : Nat) : Int) + valueOf xs := by
  induction xs generalizing v with
  | nil => simp [valueOf]
  | cons x xs ih =>
    have e : valueOf (x :: xs) = (x * ((2 ^ xs.length : Nat) : Int)) + valueOf xs := by
      show xs.foldl _ (2 * 0 + x) = _
      rw [ih]; simp
    rw [List.foldl_cons, ih, e, List.length_cons, Nat.pow_succ, Int.natCast_mul]
    generalize ((2 ^ xs.length : Nat) : Int) = P
    rw [Int.add_mul]
    have : 2 * v * P = v * (P * ((2 : Nat) : Int)) := by rw [Int.mul_comm 2 v, Int.mul_assoc, Int.mul_comm 2 P]; rfl
    omega
theorem valueOf_cons (x : Int) (xs : List Int) : valueOf (x :: xs) = x * ((2 ^ xs.length : Nat) : Int) + valueOf xs := by
  show xs.foldl _ (2 * 0 + x) = _
  rw [foldl_value]; simp
theorem valueOf_lt {xs : List Int} (hb : Bits xs) : 0 ≤ valueOf xs ∧ valueOf xs < ((2 ^ xs.length : Nat) : Int) := by
  induction xs with
  | nil => simp [valueOf]
  | cons x xs ih =>
    have h1 := ih (fun y hy => hb y (by simp [hy]))
    have h2 := hb x (by simp)
    rw [valueOf_cons, List.length_cons, Nat.pow_succ, Int.natCast_mul]
    rcases h2 with rfl | rfl <;> omega

/-! ### runs -/
/-- The runs of a list: each as its length and its element. -/
def runsL : List Int → List (Nat × Int)
  | [] => []
  | x :: xs => match runsL xs with
    | [] => [(1, x)]
    | (n, y) :: r => if x = y then (n + 1, y) :: r else (1, x) :: (n, y) :: r
theorem runsL_head (xs : List Int) : (runsL xs).head?.map (·.2) = xs.head? := by
  cases xs with
  | nil => rfl
  | cons x xs =>
    show ((match runsL xs with
      | [] => [(1, x)]
      | (n, y) :: r => if x = y then (n + 1, y) :: r else (1, x) :: (n, y) :: r).head?.map (fun p : Nat × Int => p.2)) = some x
    split
    · rfl
    · split
      · simp_all
      · rfl
theorem runsL_replicate (m : Nat) (x : Int) (t : List Int) (h : t.head? ≠ some x) : runsL (List.replicate (m + 1) x ++ t) = (m + 1, x) :: runsL t := by
  induction m with
  | zero =>
    show (match runsL t with
      | [] => [(1, x)]
      | (n, y) :: r => if x = y then (n + 1, y) :: r else (1, x) :: (n, y) :: r) = _
    have hh := runsL_head t
    split
    · rename_i e; rw [e]
    · rename_i n y r e
      rw [e] at hh ⊢
      rw [if_neg]
      intro exy
      subst exy
      exact h hh.symm
  | succ m ih =>
    rw [List.replicate_succ, List.cons_append]
    show (match runsL (List.replicate (m + 1) x ++ t) with
      | [] => [(1, x)]
      | (n, y) :: r => if x = y then (n + 1, y) :: r else (1, x) :: (n, y) :: r) = _
    rw [ih]; simp
/-- One step of the iteration: from start to end. -/
theorem runsL_step (xs : List Int) (s e : Nat) (hse : s < e) (he : e ≤ xs.length) (hall : ∀ j, s ≤ j → j < e → xs[j]?.getD 0 = xs[s]?.getD 0)
    (hend : e = xs.length ∨ xs[e]?.getD 0 ≠ xs[s]?.getD 0) : runsL (xs.drop s) = (e - s, xs[s]?.getD 0) :: runsL (xs.drop e) := by
  have h1 : xs.drop s = List.replicate (e - s - 1 + 1) (xs[s]?.getD 0) ++ xs.drop e := by
    apply List.ext_getElem?
    intro i
    rw [List.getElem?_drop, List.getElem?_append, List.length_replicate]
    by_cases hi : i < e - s - 1 + 1
    · rw [if_pos hi, List.getElem?_replicate, if_pos hi]
      have := hall (s + i) (by omega) (by omega)
      rw [← this]
      have hl : s + i < xs.length := by omega
      simp [hl]
    · rw [if_neg hi, List.getElem?_drop]
      congr 1
      omega
  rw [h1, runsL_replicate]
  · rw [show e - s - 1 + 1 = e - s by omega]
  · rw [List.head?_drop]
    intro h2
    rcases hend with h3 | h3
    · rw [h3] at h2; simp at h2
    · rw [h2] at h3; exact h3 rfl
theorem all_succ {xs : List Int} {k j : Nat} (h : ∀ t, k ≤ t → t < j → xs[t]?.getD 0 = xs[k]?.getD 0) (hx : xs[j]?.getD 0 = xs[k]?.getD 0) : ∀ t, k ≤ t → t < j + 1 → xs[t]?.getD 0 = xs[k]?.getD 0 := by
  intro t h1 h2
  rcases Nat.lt_or_ge t j with h3 | h3
  · exact h t h1 h3
  · obtain rfl : t = j := by omega
    exact hx
/-- The runs, written out, are the list. -/
theorem runsL_flat (xs : List Int) : (runsL xs).flatMap (fun p : Nat × Int => List.replicate p.1 p.2) = xs := by
  induction xs with
  | nil => rfl
  | cons x xs ih =>
    show (match runsL xs with
      | [] => [(1, x)]
      | (n, y) :: r => if x = y then (n + 1, y) :: r else (1, x) :: (n, y) :: r).flatMap (fun p : Nat × Int => List.replicate p.1 p.2) = _
    split
    · rename_i e; rw [e] at ih; simp at ih; subst ih; rfl
    · rename_i n y r e
      rw [e] at ih
      split
      · rename_i exy; subst exy; rw [← ih]; simp [List.replicate_succ]
      · rw [← ih]; simp
theorem runsL_pos (xs : List Int) : ∀ p ∈ runsL xs, 1 ≤ p.1 := by
  induction xs with
  | nil => simp [runsL]
  | cons x xs ih =>
    show ∀ p ∈ (match runsL xs with
      | [] => [(1, x)]
      | (n, y) :: r => if x = y then (n + 1, y) :: r else (1, x) :: (n, y) :: r), 1 ≤ p.1
    split
    · simp
    · rename_i n y r e
      rw [e] at ih
      split
      · intro p hp
        rcases List.mem_cons.1 hp with h | h
        · subst h; simp
        · exact ih p (by simp [h])
      · intro p hp
        rcases List.mem_cons.1 hp with h | h
        · subst h; simp
        · exact ih p h
/-- The ones among the runs. -/
def onesOf (ps : List (Nat × Int)) : Int := ps.foldl (fun (s : Int) (p : Nat × Int) => if p.2 = 1 then s + (p.1 : Int) else s) 0
theorem onesOf_snoc (ps : List (Nat × Int)) (p : Nat × Int) : onesOf (ps ++ [p]) = if p.2 = 1 then onesOf ps + p.1 else onesOf ps := by simp [onesOf]
theorem onesOf_from (ps : List (Nat × Int)) (s : Int) : ps.foldl (fun (s : Int) (p : Nat × Int) => if p.2 = 1 then s + (p.1 : Int) else s) s = s + onesOf ps := by
  induction ps generalizing s with
  | nil => simp [onesOf]
  | cons p ps ih =>
    have e : onesOf (p :: ps) = (if p.2 = 1 then (0 : Int) + p.1 else 0) + onesOf ps := by
      show ps.foldl _ (if p.2 = 1 then (0 : Int) + p.1 else 0) = _
      rw [ih]
    rw [List.foldl_cons, ih, e]
    split <;> omega
theorem weight_append (xs ys : List Int) : weight (xs ++ ys) = weight xs + weight ys := by simp [weight]
theorem weight_replicate (n : Nat) (x : Int) : weight (List.replicate n x) = if x = 1 then (n : Int) else 0 := by
  by_cases h : x = 1 <;> simp [weight, h]
theorem onesOf_flat (ps : List (Nat × Int)) : onesOf ps = weight (ps.flatMap (fun p : Nat × Int => List.replicate p.1 p.2)) := by
  induction ps with
  | nil => rfl
  | cons p ps ih =>
    rw [List.flatMap_cons, weight_append, weight_replicate, ← ih]
    show ps.foldl _ (if p.2 = 1 then (0 : Int) + p.1 else 0) = _
    rw [onesOf_from]
    split <;> omega
theorem onesOf_runs (xs : List Int) : onesOf (runsL xs) = weight xs := by rw [onesOf_flat, runsL_flat]
theorem validB_runs (xs : List Int) : validB xs = (runsL xs).all (fun p => decide (p.2 ≤ 1)) := by
  have h := runsL_flat xs
  have hp := runsL_pos xs
  rw [Bool.eq_iff_iff]
  simp only [validB, List.all_eq_true, decide_eq_true_eq]
  constructor
  · intro hx p hpm
    refine hx p.2 ?_
    rw [← h, List.mem_flatMap]
    exact ⟨p, hpm, by rw [List.mem_replicate]; exact ⟨by have := hp p hpm; omega, rfl⟩⟩
  · intro hx x hxm
    rw [← h, List.mem_flatMap] at hxm
    obtain ⟨p, hpm, hr⟩ := hxm
    rw [List.mem_replicate] at hr
    rw [hr.2]
    exact hx p hpm

/-- Every run's element is at most 1; some run's element is above 1. -/
def RunsLe (ps : List (Nat × Int)) : Prop := ∀ p ∈ ps, p.2 ≤ 1
def RunsGt (ps : List (Nat × Int)) : Prop := ∃ p ∈ ps, 1 < p.2
theorem RunsLe.snoc {ps : List (Nat × Int)} {x : Nat × Int} (h : RunsLe ps) (hx : ¬ 1 < x.2) : RunsLe (ps ++ [x]) := fun p hp => by
  rcases List.mem_append.1 hp with h1 | h1
  · exact h p h1
  · simp at h1; subst h1; omega
theorem RunsGt.snoc {ps : List (Nat × Int)} {x : Nat × Int} (hx : 1 < x.2) : RunsGt (ps ++ [x]) := ⟨x, by simp, hx⟩
theorem validB_bad {xs : List Int} {pre : List (Nat × Int)} (h : pre <+: runsL xs) (hb : RunsGt pre) : validB xs = false := by
  rw [validB_runs, List.all_eq_false]
  obtain ⟨p, hp, hx⟩ := hb
  exact ⟨p, h.subset hp, by simp; exact hx⟩
theorem validB_good {xs : List Int} (h : RunsLe (runsL xs)) : validB xs = true := by
  rw [validB_runs, List.all_eq_true]
  exact fun p hp => by simp; exact h p hp
theorem all_take_succ {rows : List BRow} {k : Nat} {r : BRow} (hr : rows[k]? = some r) (h : (rows.take k).all (fun r => validB r.xs) = true) (hv : validB r.xs = true) : (rows.take (k + 1)).all (fun r => validB r.xs) = true := by
  obtain ⟨hk, rfl⟩ := List.getElem?_eq_some_iff.1 hr
  rw [List.take_succ_eq_append_getElem hk, List.all_append, h]
  simp [hv]
theorem all_bad {rows : List BRow} {k : Nat} {r : BRow} (hr : rows[k]? = some r) (hv : validB r.xs = false) : rows.all (fun r => validB r.xs) = false := by
  rw [List.all_eq_false]
  exact ⟨r, List.mem_of_getElem? hr, by simp [hv]⟩

/-! ### a list that is filled from the left -/
def fillL (g : Nat → Int) (n k : Nat) : List Int := (List.range n).map fun j => if j < k then g j else 0
theorem fillL_zero (g : Nat → Int) (n : Nat) : fillL g n 0 = List.replicate n 0 := by
  apply List.ext_getElem <;> simp [fillL]
theorem fillL_length (g : Nat → Int) (n k : Nat) : (fillL g n k).length = n := by simp [fillL]
theorem fillL_succ (g : Nat → Int) (n k : Nat) : (fillL g n k).set k (g k) = fillL g n (k + 1) := by
  apply List.ext_getElem
  · simp [fillL]
  · intro j h1 h2
    rw [List.getElem_set]
    simp only [fillL, List.getElem_map, List.getElem_range]
    by_cases e : k = j
    · subst e; simp
    · rw [if_neg e]
      by_cases h : j < k
      · rw [if_pos h, if_pos (by omega)]
      · rw [if_neg h, if_neg (by omega)]
theorem fillL_full (g : Nat → Int) (n : Nat) : fillL g n n = (List.range n).map g := by
  apply List.map_congr_left
  intro j hj
  rw [if_pos (List.mem_range.1 hj)]

theorem shr_range {v : Int} (h : 0 ≤ v ∧ v < 18446744073709551616) (k : Nat) : 0 ≤ v / 2 ^ k ∧ v / 2 ^ k < 18446744073709551616 := by
  have hp : (0 : Int) < 2 ^ k := Int.pow_pos (by decide)
  have h1 : 0 ≤ v / 2 ^ k := Int.ediv_nonneg h.1 (by omega)
  have h2 : v / 2 ^ k ≤ v := Int.ediv_le_self _ h.1
  omega
theorem shr_byte {xs : List Int} (h : Byte xs) (i k : Nat) : 0 ≤ xs[i]?.getD 0 / 2 ^ k ∧ xs[i]?.getD 0 / 2 ^ k ≤ 255 := by
  have h0 := h i
  have hp : (0 : Int) < 2 ^ k := Int.pow_pos (by decide)
  have h1 : 0 ≤ xs[i]?.getD 0 / 2 ^ k := Int.ediv_nonneg h0.1 (by omega)
  have h2 : xs[i]?.getD 0 / 2 ^ k ≤ xs[i]?.getD 0 := Int.ediv_le_self _ h0.1
  omega
/-! ### what the functions are to return: the bytes and the error's number -/
def fromUintL (v : Int) (n : Nat) : List Int := (List.range n).map fun i => v / 2 ^ (n - 1 - i) % 2
def fromUintS (v n : Int) : List Int × Int := if n < 0 ∨ 64 < n then ([], 2) else if v / 2 ^ n.toNat ≠ 0 then ([], 4) else (fromUintL v n.toNat, 0)
def unpackL (p : List Int) (n : Nat) : List Int := (List.range n).map fun i => p[i / 8]?.getD 0 / 2 ^ (7 - i % 8) % 2
def unpackS (p : List Int) (n : Int) : List Int × Int := if n < 0 then ([], 2) else if 8 * (p.length : Int) < n then ([], 5) else (unpackL p n.toNat, 0)
def xorL (xs ys : List Int) : List Int := (List.range xs.length).map fun i => (xs[i]?.getD 0 + ys[i]?.getD 0) % 2
def xorS (xs ys : List Int) : List Int × Int := if xs.length ≠ ys.length then ([], 2) else if (validB xs && validB ys) = false then ([], 3) else (xorL xs ys, 0)
def byteAt (xs : List Int) (j : Nat) : Int := valueOf ((List.range 8).map fun t => xs[8 * j + t]?.getD 0)
def packL (xs : List Int) : List Int := (List.range ((xs.length + 7) / 8)).map (byteAt xs)
def packS (xs : List Int) : List Int × Int := if validB xs = false then ([], 3) else (packL xs, 0)
def uintS (xs : List Int) : Int × Int := if validB xs = false then (0, 3) else if 64 < xs.length then (0, 4) else (valueOf xs, 0)

/-! ### machine integers without a sign -/
theorem wrap_u (k : IntKind) (hk : k.signed = false) (n : Nat) (h : n < 2 ^ k.bits) : k.wrap (n : Int) = n := by
  have h' : (n : Int) < 2 ^ k.bits := by exact_mod_cast h
  simp only [IntKind.wrap, hk]
  simp
  exact Int.emod_eq_of_lt (by omega) h'
theorem ofInt_nat (m n : Nat) : BitVec.ofInt m (n : Int) = BitVec.ofNat m n := by simp
theorem bits_and_u (k : IntKind) (hk : k.signed = false) (a b : Nat) (ha : a < 2 ^ k.bits) (hb : b < 2 ^ k.bits) : bits .and k (a : Int) (b : Int) = ((a &&& b : Nat) : Int) := by
  have e : ((BitVec.ofInt k.bits (a : Int)) &&& (BitVec.ofInt k.bits (b : Int))).toNat = a &&& b := by
    rw [BitVec.toNat_and, ofInt_nat, ofInt_nat, BitVec.toNat_ofNat, BitVec.toNat_ofNat, Nat.mod_eq_of_lt ha, Nat.mod_eq_of_lt hb]
  simp only [bits]
  rw [e, wrap_u k hk]
  exact Nat.and_lt_two_pow _ hb
theorem bits_or_u (k : IntKind) (hk : k.signed = false) (a b : Nat) (ha : a < 2 ^ k.bits) (hb : b < 2 ^ k.bits) : bits .or k (a : Int) (b : Int) = ((a ||| b : Nat) : Int) := by
  have e : ((BitVec.ofInt k.bits (a : Int)) ||| (BitVec.ofInt k.bits (b : Int))).toNat = a ||| b := by
    rw [BitVec.toNat_or, ofInt_nat, ofInt_nat, BitVec.toNat_ofNat, BitVec.toNat_ofNat, Nat.mod_eq_of_lt ha, Nat.mod_eq_of_lt hb]
  simp only [bits]
  rw [e, wrap_u k hk]
  exact Nat.or_lt_two_pow ha hb
theorem bits_xor_u (k : IntKind) (hk : k.signed = false) (a b : Nat) (ha : a < 2 ^ k.bits) (hb : b < 2 ^ k.bits) : bits .xor k (a : Int) (b : Int) = ((a ^^^ b : Nat) : Int) := by
  have e : ((BitVec.ofInt k.bits (a : Int)) ^^^ (BitVec.ofInt k.bits (b : Int))).toNat = a ^^^ b := by
    rw [BitVec.toNat_xor, ofInt_nat, ofInt_nat, BitVec.toNat_ofNat, BitVec.toNat_ofNat, Nat.mod_eq_of_lt ha, Nat.mod_eq_of_lt hb]
  simp only [bits]
  rw [e, wrap_u k hk]
  exact Nat.xor_lt_two_pow ha hb
theorem and_one_u8 {x : Int} (h0 : 0 ≤ x) (h1 : x ≤ 255) : bits .and .u8 x 1 = x % 2 := by
  obtain ⟨n, rfl⟩ := Int.eq_ofNat_of_zero_le h0
  have := bits_and_u .u8 rfl n 1 (by simp [IntKind.bits]; omega) (by decide)
  rw [Nat.and_one_is_mod] at this
  simpa using this
theorem and_one_u64 {x : Int} (h0 : 0 ≤ x) (h1 : x < 18446744073709551616) : bits .and .u64 x 1 = x % 2 := by
  obtain ⟨n, rfl⟩ := Int.eq_ofNat_of_zero_le h0
  have := bits_and_u .u64 rfl n 1 (by simp only [IntKind.bits]; omega) (by decide)
  rw [Nat.and_one_is_mod] at this
  simpa using this
theorem and_one_u64' {x : Int} (h0 : 0 ≤ x) (h1 : x < 18446744073709551616) : bits .and .u64 x 1 % 256 = x % 2 := by
  rw [and_one_u64 h0 h1]; omega
theorem or_bit (n b : Nat) (h : b ≤ 1) : (2 * n) ||| b = 2 * n + b := by
  have := Nat.shiftLeft_add_eq_or_of_lt (i := 1) (b := b) (by omega) n
  rw [Nat.shiftLeft_eq, Nat.mul_comm] at this
  simpa using this.symm
theorem number_step {v x : Int} (h0 : 0 ≤ v) (h1 : v < 9223372036854775808) (hx : x = 0 ∨ x = 1) : bits .or .u64 (IntKind.u64.wrap (v * 2)) (IntKind.u64.wrap x) = 2 * v + x := by
  rw [IntWalk.u64_in (v * 2) (by omega), IntWalk.u64_in x (by omega)]
  obtain ⟨n, rfl⟩ := Int.eq_ofNat_of_zero_le h0
  obtain ⟨b, rfl⟩ := Int.eq_ofNat_of_zero_le (show 0 ≤ x by omega)
  have := bits_or_u .u64 rfl (2 * n) b (by simp only [IntKind.bits]; omega) (by simp only [IntKind.bits]; omega)
  rw [or_bit n b (by omega)] at this
  have e : ((n : Int) * 2) = ((2 * n : Nat) : Int) := by omega
  rw [e, this]
  omega
theorem number_step' {xs : List Int} {k n : Nat} (hb : Bits xs) (hl : xs.length = n) (hn : n ≤ 64) (hk : k < n) :
    bits .or .u64 (IntKind.u64.wrap (valueOf (xs.take k) * 2)) (IntKind.u64.wrap (xs[k]?.getD 0)) = valueOf (xs.take (k + 1)) := by
  have h1 := valueOf_lt (hb.take k)
  have h2 : 2 ^ (xs.take k).length ≤ 2 ^ 63 := by
    rw [List.length_take]
    exact Nat.pow_le_pow_right (by decide) (by omega)
  rw [number_step h1.1 (by have : 2 ^ 63 = 9223372036854775808 := rfl; omega) (bits_nonneg hb k), take_snoc xs k (by omega) 0, valueOf_snoc]
theorem validB_bits {xs : List Int} (hx : Byte xs) (h : validB xs = true) : Bits xs := fun x hm => by
  have h1 := hx.mem x hm
  simp only [validB, List.all_eq_true, decide_eq_true_eq] at h
  have := h x hm
  omega
theorem xor_bit {a b : Int} (ha : a = 0 ∨ a = 1) (hb : b = 0 ∨ b = 1) : bits .xor .u8 a b = (a + b) % 2 := by
  rcases ha with rfl | rfl <;> rcases hb with rfl | rfl <;> decide
theorem xorL_eq {xs ys : List Int} {n : Nat} (hl : xs.length = n) (hx : Bits xs) (hy : Bits ys) : ((List.range n).map fun i => bits .xor .u8 (xs[i]?.getD 0) (ys[i]?.getD 0) % 2) = xorL xs ys := by
  unfold xorL
  rw [hl]
  apply List.map_congr_left
  intro i _
  rw [xor_bit (bits_nonneg hx i) (bits_nonneg hy i)]
  omega
theorem xor_range {xs ys : List Int} (hx : Bits xs) (hy : Bits ys) (i : Nat) : 0 ≤ bits .xor .u8 (xs[i]?.getD 0) (ys[i]?.getD 0) ∧ bits .xor .u8 (xs[i]?.getD 0) (ys[i]?.getD 0) ≤ 255 := by
  rw [xor_bit (bits_nonneg hx i) (bits_nonneg hy i)]
  omega
theorem xorL_length (xs ys : List Int) : (xorL xs ys).length = xs.length := by simp [xorL]
theorem xorS_len (xs ys : List Int) : (xorS xs ys).1.length ≤ xs.length := by
  unfold xorS
  split
  · simp
  · split
    · simp
    · simp [xorL]
end

/-! ### Plain mathematics of packing: no program is named here. -/
section
theorem packL_length (xs : List Int) : (packL xs).length = (xs.length + 7) / 8 := by simp [packL]
theorem bits_chunk {xs : List Int} (h : Bits xs) (i m : Nat) : Bits ((xs.drop i).take m) := fun x hx => h x (List.mem_of_mem_drop (List.mem_of_mem_take hx))
theorem valueOf_append (xs ys : List Int) : valueOf (xs ++ ys) = valueOf xs * ((2 ^ ys.length : Nat) : Int) + valueOf ys := by
  show (xs ++ ys).foldl _ 0 = _
  rw [List.foldl_append, foldl_value]
  rfl
theorem valueOf_zeros (n : Nat) : valueOf (List.replicate n 0) = 0 := by
  induction n with
  | zero => rfl
  | succ n ih => rw [List.replicate_succ, valueOf_cons, ih]; simp
theorem byteAt_chunk {xs : List Int} {k m : Nat} (hm : m ≤ 8) (he : 8 * k + m ≤ xs.length) (hlast : m = 8 ∨ 8 * k + m = xs.length) :
    byteAt xs k = valueOf ((xs.drop (8 * k)).take m) * ((2 ^ (8 - m) : Nat) : Int) := by
  have e : (List.range 8).map (fun t => xs[8 * k + t]?.getD 0) = (xs.drop (8 * k)).take m ++ List.replicate (8 - m) 0 := by
    apply List.ext_getElem
    · simp; omega
    · intro t h1 h2
      simp only [List.length_map, List.length_range] at h1
      rw [List.getElem_append]
      have hl : ((xs.drop (8 * k)).take m).length = m := by rw [List.length_take, List.length_drop]; omega
      by_cases ht : t < m
      · rw [dif_pos (by omega)]
        have : 8 * k + t < xs.length := by omega
        simp [this]
      · rw [dif_neg (by omega)]
        have : xs.length ≤ 8 * k + t := by omega
        simp [this]
  unfold byteAt
  rw [e, valueOf_append, valueOf_zeros, List.length_replicate]
  omega
theorem byteAt_range {xs : List Int} (h : Bits xs) (k : Nat) : 0 ≤ byteAt xs k ∧ byteAt xs k ≤ 255 := by
  have hb : Bits ((List.range 8).map fun t => xs[8 * k + t]?.getD 0) := fun x hx => by
    obtain ⟨t, _, rfl⟩ := List.mem_map.1 hx
    exact bits_nonneg h _
  have := valueOf_lt hb
  simp only [List.length_map, List.length_range] at this
  unfold byteAt
  omega
theorem packL_take_succ {xs : List Int} {k : Nat} (hk : k < (xs.length + 7) / 8) : (packL xs).take (k + 1) = (packL xs).take k ++ [byteAt xs k] := by
  rw [List.take_succ_eq_append_getElem (by rw [packL_length]; exact hk)]
  simp [packL]
theorem byte_packL {xs : List Int} (h : Bits xs) : Byte (packL xs) := Byte.of_mem fun x hx => by
  obtain ⟨k, _, rfl⟩ := List.mem_map.1 hx
  exact byteAt_range h k
theorem pack_val {xs : List Int} {k m : Nat} (h : Bits xs) (hm : m ≤ 8) (he : 8 * k + m ≤ xs.length) (hlast : m = 8 ∨ 8 * k + m = xs.length) :
    IntKind.u64.wrap (valueOf ((xs.drop (8 * k)).take m) * 2 ^ (8 - m)) % 256 = byteAt xs k := by
  have h1 := byteAt_chunk hm he hlast
  have h2 := byteAt_range h k
  have h3 : ((2 ^ (8 - m) : Nat) : Int) = (2 : Int) ^ (8 - m) := by simp
  rw [h3] at h1
  rw [← h1, IntWalk.u64_in _ (by omega)]
  omega
theorem pack_val8 {xs : List Int} {k : Nat} (h : Bits xs) (he : 8 * k + 8 ≤ xs.length) : IntKind.u64.wrap (valueOf ((xs.drop (8 * k)).take 8)) % 256 = byteAt xs k := by
  have := pack_val h (Nat.le_refl 8) he (.inl rfl)
  simpa using this
theorem row_packL {xs : List Int} {k : Nat} (hk : k < (xs.length + 7) / 8) {v : Int} (hv : v = byteAt xs k) : ((packL xs).take k).map (Value.int .u8) ++ [.int .u8 v] = ((packL xs).take (k + 1)).map (Value.int .u8) := by
  rw [packL_take_succ hk, List.map_append, hv]
  rfl
/-- The lowest bits of the first n elements. -/
def lowL (xs : List Int) (n : Nat) : List Int := (List.range n).map fun i => xs[i]?.getD 0 % 2
theorem lowL_length (xs : List Int) (n : Nat) : (lowL xs n).length = n := by simp [lowL]
theorem lowL_bits (xs : List Int) (n : Nat) : Bits (lowL xs n) := fun x hx => by
  obtain ⟨i, _, rfl⟩ := List.mem_map.1 hx
  omega
theorem Bits.byte {xs : List Int} (h : Bits xs) : Byte xs := Byte.of_mem fun x hx => by have := h x hx; omega
theorem Bits.valid {xs : List Int} (h : Bits xs) : validB xs = true := by
  simp only [validB, List.all_eq_true, decide_eq_true_eq]
  intro x hx
  have := h x hx
  omega
/-! ### a list that is filled from the right -/
def fillR (g : Nat → Int) (n k : Nat) : List Int := (List.range n).map fun j => if k ≤ j then g j else 0
theorem fillR_zero (g : Nat → Int) (n : Nat) : fillR g n n = List.replicate n 0 := by
  apply List.ext_getElem
  · simp [fillR]
  · intro j h1 h2
    simp [fillR] at h1 ⊢
    omega
theorem fillR_length (g : Nat → Int) (n k : Nat) : (fillR g n k).length = n := by simp [fillR]
theorem fillR_pred (g : Nat → Int) (n k : Nat) : (fillR g n (k + 1)).set k (g k) = fillR g n k := by
  apply List.ext_getElem
  · simp [fillR]
  · intro j h1 h2
    rw [List.getElem_set]
    simp only [fillR, List.getElem_map, List.getElem_range]
    by_cases e : k = j
    · subst e; simp
    · rw [if_neg e]
      by_cases h : k ≤ j
      · rw [if_pos h, if_pos (by omega)]
      · rw [if_neg h, if_neg (by omega)]
theorem fillR_full (g : Nat → Int) (n : Nat) : fillR g n 0 = (List.range n).map g := by
  apply List.map_congr_left
  intro j hj
  rw [if_pos (Nat.zero_le _)]
theorem take_map_succ (g : Nat → Int) {n k : Nat} (hk : k < n) : ((List.range n).map g).take (k + 1) = ((List.range n).map g).take k ++ [g k] := by
  rw [List.take_succ_eq_append_getElem (by simpa using hk)]
  simp
theorem row_take {g : Nat → Int} {n k : Nat} (hk : k < n) {v : Int} (hv : v = g k) : (((List.range n).map g).take k).map (Value.int .u8) ++ [.int .u8 v] = (((List.range n).map g).take (k + 1)).map (Value.int .u8) := by
  rw [take_map_succ g hk, List.map_append, hv]
  rfl
def fromUintR (v : Int) (n : Nat) : List Int × Int := if v / 2 ^ n ≠ 0 then ([], 4) else (fromUintL v n, 0)
theorem halves (v : Int) (k : Nat) : v / 2 ^ k / 2 = v / 2 ^ (k + 1) := by
  rw [Int.ediv_ediv_of_nonneg (Int.pow_nonneg (by decide)), Int.pow_succ]
theorem number_step2 {xs : List Int} {k n : Nat} (hb : Bits xs) (hl : xs.length = n) (hn : n ≤ 64) (hk : k < n) : 2 * valueOf (xs.take k) + xs[k]?.getD 0 = valueOf (xs.take (k + 1)) ∧ 0 ≤ valueOf (xs.take k) ∧ valueOf (xs.take k) ≤ 9223372036854775807 := by
  have h1 := valueOf_lt (hb.take k)
  have h2 : 2 ^ (xs.take k).length ≤ 2 ^ 63 := by
    rw [List.length_take]
    exact Nat.pow_le_pow_right (by decide) (by omega)
  have h3 : 2 ^ 63 = 9223372036854775808 := rfl
  have h4 := bits_nonneg hb k
  refine ⟨?_, by omega, by omega⟩
  rw [take_snoc xs k (by omega) 0, valueOf_snoc]
theorem bits_range {xs : List Int} (h : Bits xs) (k : Nat) : 0 ≤ xs[k]?.getD 0 ∧ xs[k]?.getD 0 ≤ 1 := by have := bits_nonneg h k; omega
end

/-! ### Plain mathematics of bit slices: packing and unpacking undo each other, so do value and digits; the distance is a metric. No program is named here. -/
section
theorem range_map_get (f : Nat → Int) (n k : Nat) (hk : k < n) : ((List.range n).map f)[k]?.getD 0 = f k := by simp [hk]

/-- The t-th digit of the value is the t-th bit. -/
theorem valueOf_digit {l : List Int} (hb : Bits l) (t : Nat) (ht : t < l.length) : valueOf l / 2 ^ (l.length - 1 - t) % 2 = l[t]?.getD 0 := by
  have e : l = l.take (t + 1) ++ l.drop (t + 1) := (List.take_append_drop _ _).symm
  have hd : (l.drop (t + 1)).length = l.length - 1 - t := by rw [List.length_drop]; omega
  have h1 : valueOf l = valueOf (l.take (t + 1)) * ((2 ^ (l.length - 1 - t) : Nat) : Int) + valueOf (l.drop (t + 1)) := by
    conv => lhs; rw [e]
    rw [valueOf_append, hd]
  have h2 := valueOf_lt (xs := l.drop (t + 1)) (fun x hx => hb x (List.mem_of_mem_drop hx))
  rw [hd] at h2
  have h3 : ((2 ^ (l.length - 1 - t) : Nat) : Int) = (2 : Int) ^ (l.length - 1 - t) := by simp
  rw [h3] at h1 h2
  have hp : (0 : Int) < 2 ^ (l.length - 1 - t) := Int.pow_pos (by decide)
  have h4 : valueOf l / 2 ^ (l.length - 1 - t) = valueOf (l.take (t + 1)) := by
    rw [h1, Int.add_comm, Int.add_mul_ediv_right _ _ (by omega), Int.ediv_eq_zero_of_lt h2.1 h2.2]
    omega
  rw [h4, take_snoc l t ht 0, valueOf_snoc]
  have := bits_nonneg hb t
  omega

theorem unpack_pack {xs : List Int} (hb : Bits xs) : unpackL (packL xs) xs.length = xs := by
  apply List.ext_getElem
  · simp [unpackL]
  · intro i h1 h2
    have hi : i < xs.length := h2
    simp only [unpackL, List.getElem_map, List.getElem_range]
    rw [show (packL xs)[i / 8]?.getD 0 = byteAt xs (i / 8) from range_map_get _ _ _ (by omega)]
    have hb8 : Bits ((List.range 8).map fun t => xs[8 * (i / 8) + t]?.getD 0) := fun x hx => by
      obtain ⟨t, _, rfl⟩ := List.mem_map.1 hx
      exact bits_nonneg hb _
    have h := valueOf_digit hb8 (i % 8) (by simp; omega)
    simp only [List.length_map, List.length_range] at h
    rw [range_map_get _ _ _ (by omega : i % 8 < 8)] at h
    unfold byteAt
    rw [show 7 - i % 8 = 8 - 1 - i % 8 from by omega, h, show 8 * (i / 8) + i % 8 = i from by omega]
    simp [hi]

theorem fromUintL_succ (v : Int) (n : Nat) : fromUintL v (n + 1) = fromUintL (v / 2) n ++ [v % 2] := by
  unfold fromUintL
  rw [List.range_succ, List.map_append]
  congr 1
  · apply List.map_congr_left
    intro i hi
    have hi' := List.mem_range.1 hi
    rw [show n + 1 - 1 - i = 1 + (n - 1 - i) from by omega, Int.pow_add, ← Int.ediv_ediv_of_nonneg (by decide)]
    rfl
  · simp
theorem valueOf_fromUintL (n : Nat) (v : Int) (h0 : 0 ≤ v) (h1 : v < ((2 ^ n : Nat) : Int)) : valueOf (fromUintL v n) = v := by
  induction n generalizing v with
  | zero => simp at h1; have : v = 0 := by omega
            subst this; rfl
  | succ n ih =>
    rw [Nat.pow_succ, Int.natCast_mul] at h1
    rw [fromUintL_succ, valueOf_snoc, ih (v / 2) (by omega) (by omega)]
    omega
theorem fromUintL_bits (v : Int) (n : Nat) : Bits (fromUintL v n) := fun x hx => by
  obtain ⟨i, _, rfl⟩ := List.mem_map.1 hx
  omega
theorem fromUintL_length (v : Int) (n : Nat) : (fromUintL v n).length = n := by simp [fromUintL]
theorem unpackL_length (p : List Int) (n : Nat) : (unpackL p n).length = n := by simp [unpackL]
theorem unpackL_bits (p : List Int) (n : Nat) : Bits (unpackL p n) := fun x hx => by
  obtain ⟨i, _, rfl⟩ := List.mem_map.1 hx
  omega

theorem pack_unpack {xs : List Int} (hx : Byte xs) : packL (unpackL xs (8 * xs.length)) = xs := by
  apply List.ext_getElem
  · rw [packL_length, unpackL_length]; omega
  · intro j h1 h2
    have hj : j < xs.length := h2
    simp only [packL, List.getElem_map, List.getElem_range]
    have e : (List.range 8).map (fun t => (unpackL xs (8 * xs.length))[8 * j + t]?.getD 0) = fromUintL (xs[j]?.getD 0) 8 := by
      unfold fromUintL unpackL
      apply List.map_congr_left
      intro t ht
      have ht' := List.mem_range.1 ht
      rw [range_map_get _ _ _ (by omega), show (8 * j + t) / 8 = j from by omega, show 7 - (8 * j + t) % 8 = 8 - 1 - t from by omega]
    unfold byteAt
    have hr := hx j
    rw [e, valueOf_fromUintL 8 _ hr.1 (by omega)]
    simp [hj]

theorem packS_bits {xs : List Int} (hb : Bits xs) : packS xs = (packL xs, 0) := by unfold packS; rw [if_neg (by rw [hb.valid]; decide)]
theorem unpackS_ok {p : List Int} {m : Nat} (h : m ≤ 8 * p.length) : unpackS p (m : Int) = (unpackL p m, 0) := by
  unfold unpackS; rw [if_neg (by omega), if_neg (by omega)]; rfl
theorem fromUintS_ok {v : Int} {n : Nat} (h0 : 0 ≤ v) (h1 : v < ((2 ^ n : Nat) : Int)) (hn : n ≤ 64) : fromUintS v (n : Int) = (fromUintL v n, 0) := by
  unfold fromUintS
  have h3 : ((2 ^ n : Nat) : Int) = (2 : Int) ^ n := by simp
  rw [h3] at h1
  rw [if_neg (by omega), Int.toNat_natCast, if_neg (by rw [Int.ediv_eq_zero_of_lt h0 h1]; simp)]
theorem uintS_bits {xs : List Int} (hb : Bits xs) (hn : xs.length ≤ 64) : uintS xs = (valueOf xs, 0) := by
  unfold uintS; rw [if_neg (by rw [hb.valid]; decide), if_neg (by omega)]

/-! ### the metric -/
theorem xorS_bits {xs ys : List Int} (hx : Bits xs) (hy : Bits ys) (hl : xs.length = ys.length) : xorS xs ys = (xorL xs ys, 0) := by
  unfold xorS; rw [if_neg (by simp [hl]), if_neg (by rw [hx.valid, hy.valid]; decide)]
theorem xorL_bits (xs ys : List Int) : Bits (xorL xs ys) := fun x hx => by
  obtain ⟨i, _, rfl⟩ := List.mem_map.1 hx
  omega
theorem weight_range (f : Nat → Int) (n : Nat) : weight ((List.range (n + 1)).map f) = weight ((List.range n).map f) + if f n = 1 then 1 else 0 := by
  rw [List.range_succ, List.map_append]
  exact weight_snoc _ _
theorem weight_congr (f g : Nat → Int) (n : Nat) (h : ∀ i, i < n → f i = g i) : weight ((List.range n).map f) = weight ((List.range n).map g) := by
  rw [List.map_congr_left (fun i hi => h i (List.mem_range.1 hi))]
theorem weight_tri (f g k : Nat → Int) (n : Nat) (h : ∀ i, i < n → f i = 1 → g i = 1 ∨ k i = 1) : weight ((List.range n).map f) ≤ weight ((List.range n).map g) + weight ((List.range n).map k) := by
  induction n with
  | zero => simp [weight]
  | succ n ih =>
    have h1 := ih (fun i hi => h i (by omega))
    have h2 := h n (by omega)
    rw [weight_range, weight_range, weight_range]
    by_cases hf : f n = 1
    · rcases h2 hf with hg | hk
      · rw [if_pos hf, if_pos hg]; split <;> omega
      · rw [if_pos hf, if_pos hk]; split <;> omega
    · rw [if_neg hf]; split <;> split <;> omega
theorem weight_zero (f : Nat → Int) (n : Nat) : weight ((List.range n).map f) = 0 ↔ ∀ i, i < n → f i ≠ 1 := by
  induction n with
  | zero => simp [weight]
  | succ n ih =>
    have h0 := (weight_le ((List.range n).map f)).1
    rw [weight_range]
    constructor
    · intro h i hi
      by_cases e : f n = 1
      · rw [if_pos e] at h; omega
      · rw [if_neg e] at h
        rcases Nat.lt_or_ge i n with h1 | h1
        · exact ih.1 (by omega) i h1
        · rw [show i = n by omega]; exact e
    · intro h
      rw [if_neg (h n (by omega)), ih.2 (fun i hi => h i (by omega))]
      rfl
section
variable {xs ys zs : List Int} {n : Nat}
theorem dist_symm (hx : xs.length = n) (hy : ys.length = n) : weight (xorL ys xs) = weight (xorL xs ys) := by
  unfold xorL
  rw [hx, hy]
  exact weight_congr _ _ _ (fun i _ => by rw [Int.add_comm])
theorem dist_tri (bx : Bits xs) (bY : Bits ys) (bz : Bits zs) (hx : xs.length = n) (hy : ys.length = n) : weight (xorL xs zs) ≤ weight (xorL xs ys) + weight (xorL ys zs) := by
  unfold xorL
  rw [hx, hy]
  refine weight_tri _ _ _ _ (fun i _ h => ?_)
  have h1 := bits_nonneg bx i
  have h2 := bits_nonneg bY i
  have h3 := bits_nonneg bz i
  omega
theorem dist_zero (bx : Bits xs) (bY : Bits ys) (hx : xs.length = n) (hy : ys.length = n) : weight (xorL xs ys) = 0 ↔ xs = ys := by
  unfold xorL
  rw [weight_zero, hx]
  constructor
  · intro h
    apply List.ext_getElem (by omega)
    intro i h1 h2
    have h3 := h i (by omega)
    have h4 := bits_nonneg bx i
    have h5 := bits_nonneg bY i
    have h6 : xs[i]?.getD 0 = ys[i]?.getD 0 := by omega
    simpa [h1, h2] using h6
  · rintro rfl i _
    have := bits_nonneg bx i
    omega
theorem dist_add (bx : Bits xs) (bY : Bits ys) (bz : Bits zs) (hx : xs.length = n) (hy : ys.length = n) : xorL (xorL xs zs) (xorL ys zs) = xorL xs ys := by
  have e1 : (xorL xs zs).length = n := by rw [xorL_length, hx]
  unfold xorL at e1 ⊢
  rw [List.length_map, List.length_range, hx, hy]
  apply List.map_congr_left
  intro i hi
  have hi' := List.mem_range.1 hi
  rw [range_map_get _ _ _ hi', range_map_get _ _ _ hi']
  have h1 := bits_nonneg bx i
  have h2 := bits_nonneg bY i
  have h3 := bits_nonneg bz i
  omega
end
theorem shl_one {k : Nat} (hk : k < 64) : ∃ P : Int, IntKind.u64.wrap (2 ^ k) = P ∧ 1 ≤ P ∧ P ≤ 9223372036854775808 ∧ ((2 ^ k : Nat) : Int) = P := by
  have h1 : 2 ^ k ≤ 2 ^ 63 := Nat.pow_le_pow_right (by decide) (by omega)
  have h2 : 2 ^ 63 = 9223372036854775808 := rfl
  have h3 : 1 ≤ 2 ^ k := Nat.one_le_two_pow
  have h4 : ((2 ^ k : Nat) : Int) = (2 : Int) ^ k := by simp
  refine ⟨((2 ^ k : Nat) : Int), ?_, by omega, by omega, rfl⟩
  rw [← h4, IntWalk.u64_in _ (by omega)]
theorem min_three (a b c : Nat) : ∃ n : Nat, (if (c : Int) < (if b < a then (b : Int) else (a : Int)) then (c : Int) else if b < a then (b : Int) else (a : Int)) = (n : Int) ∧ n ≤ a ∧ n ≤ b ∧ n ≤ c := by
  by_cases h1 : b < a
  · rw [if_pos h1]
    by_cases h2 : (c : Int) < (b : Int)
    · exact ⟨c, by rw [if_pos h2], by omega, by omega, by omega⟩
    · exact ⟨b, by rw [if_neg h2], by omega, by omega, by omega⟩
  · rw [if_neg h1]
    by_cases h2 : (c : Int) < (a : Int)
    · exact ⟨c, by rw [if_pos h2], by omega, by omega, by omega⟩
    · exact ⟨a, by rw [if_neg h2], by omega, by omega, by omega⟩
/-! ### packing bit by bit -/
def packPart (xs : List Int) (N k : Nat) : List Int := (List.range N).map (byteAt (xs.take k))
theorem valueOf8 (f : Nat → Int) : valueOf ((List.range 8).map f) = 128 * f 0 + 64 * f 1 + 32 * f 2 + 16 * f 3 + 8 * f 4 + 4 * f 5 + 2 * f 6 + f 7 := by
  simp [valueOf, List.range, List.range.loop]
  omega
theorem take_getD_succ (xs : List Int) (k i : Nat) (hk : k < xs.length) : (xs.take (k + 1))[i]?.getD 0 = (xs.take k)[i]?.getD 0 + if i = k then xs[k]?.getD 0 else 0 := by
  rw [List.getElem?_take, List.getElem?_take]
  by_cases h1 : i < k
  · rw [if_pos (by omega), if_pos h1, if_neg (by omega)]; simp
  · by_cases h2 : i = k
    · subst h2; simp
    · rw [if_neg (by omega), if_neg h1, if_neg h2]; simp
theorem byteAt_succ (xs : List Int) (k j : Nat) (hk : k < xs.length) : byteAt (xs.take (k + 1)) j = byteAt (xs.take k) j + if j = k / 8 then xs[k]?.getD 0 * ((2 ^ (7 - k % 8) : Nat) : Int) else 0 := by
  unfold byteAt
  rw [valueOf8, valueOf8]
  simp only [take_getD_succ xs k _ hk]
  generalize xs[k]?.getD 0 = x
  by_cases hj : j = k / 8
  · rw [if_pos hj]
    have h8 : k % 8 < 8 := Nat.mod_lt _ (by decide)
    have e : k = 8 * j + k % 8 := by omega
    generalize hf : (fun s => (xs.take k)[8 * j + s]?.getD 0) = f
    have hf' : ∀ s, (xs.take k)[8 * j + s]?.getD 0 = f s := fun s => by rw [← hf]
    simp only [hf']
    generalize k % 8 = t at h8 e
    have hh : ∀ s, (8 * j + s = k) ↔ (t = s) := fun s => by omega
    simp only [hh]
    rcases (show t = 0 ∨ t = 1 ∨ t = 2 ∨ t = 3 ∨ t = 4 ∨ t = 5 ∨ t = 6 ∨ t = 7 by omega) with rfl | rfl | rfl | rfl | rfl | rfl | rfl | rfl
    all_goals
      simp
      omega
  · rw [if_neg hj, if_neg (by omega), if_neg (by omega), if_neg (by omega), if_neg (by omega), if_neg (by omega), if_neg (by omega), if_neg (by omega), if_neg (by omega)]
    omega
theorem packPart_zero (xs : List Int) (N : Nat) : packPart xs N 0 = List.replicate N 0 := by
  apply List.ext_getElem
  · simp [packPart]
  · intro j h1 h2
    simp only [packPart, List.getElem_map, List.take_zero, List.getElem_replicate]
    unfold byteAt
    rw [valueOf8]
    simp
theorem packPart_succ (xs : List Int) (N k : Nat) (hk : k < xs.length) : packPart xs N (k + 1) = if xs[k]?.getD 0 = 0 then packPart xs N k else (packPart xs N k).set (k / 8) (byteAt (xs.take (k + 1)) (k / 8)) := by
  apply List.ext_getElem
  · split <;> simp [packPart]
  · intro j h1 h2
    split
    · rename_i h0
      simp only [packPart, List.getElem_map, List.getElem_range]
      rw [byteAt_succ xs k _ hk, h0]
      split <;> simp
    · rw [List.getElem_set]
      simp only [packPart, List.getElem_map, List.getElem_range]
      by_cases e : k / 8 = j
      · rw [if_pos e, e]
      · rw [if_neg e, byteAt_succ xs k _ hk, if_neg (fun h => e h.symm)]
        omega
theorem packPart_full {xs : List Int} {n N : Nat} (hl : xs.length = n) (hN : (n + 7) / 8 = N) : packPart xs N n = packL xs := by
  unfold packPart packL
  rw [hl, hN, List.take_of_length_le (by omega)]
theorem pack_step {k : Nat} {p p' : Int} (hr : 0 ≤ p' ∧ p' ≤ 255) (h : p' = p + 1 * ((2 ^ (7 - k % 8) : Nat) : Int)) : IntKind.u8.wrap (p + IntKind.u8.wrap (2 ^ (7 - (k : Int) % 8).toNat)) = p' := by
  have e : (7 - (k : Int) % 8).toNat = 7 - k % 8 := by omega
  have h4 : ((2 ^ (7 - k % 8) : Nat) : Int) = (2 : Int) ^ (7 - k % 8) := by simp
  have h1 : 2 ^ (7 - k % 8) ≤ 2 ^ 7 := Nat.pow_le_pow_right (by decide) (by omega)
  have h3 : 1 ≤ 2 ^ (7 - k % 8) := Nat.one_le_two_pow
  rw [e, ← h4, IntWalk.u8_in ((2 ^ (7 - k % 8) : Nat) : Int) (by omega), IntWalk.u8_in _ (by omega)]
  omega
end
end Go.Proofs.YtoegamlpgenfcaaDoor
