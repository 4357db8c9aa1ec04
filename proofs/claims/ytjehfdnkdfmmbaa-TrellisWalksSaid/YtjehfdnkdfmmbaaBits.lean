/-
  Plain mathematics of bit slices: no program is named here.
-/
import Derived.Test.YtjehfdnkdfmmbaaBase
import Derived.IntWalk
namespace Go.Proofs.Ytjehfdnkdfmmbaa

/-- Is the slice a valid bit slice? -/
def validB (xs : List Int) : Bool := xs.all fun x => decide (x ≤ 1)
theorem validB_snoc (xs : List Int) (x : Int) : validB (xs ++ [x]) = (validB xs && decide (x ≤ 1)) := by simp [validB]
theorem take_snoc {α : Type} [Inhabited α] (xs : List α) (k : Nat) (h : k < xs.length) (d : α) : xs.take (k + 1) = xs.take k ++ [xs[k]?.getD d] := by
  rw [List.take_succ_eq_append_getElem h]; simp [h]
theorem validB_prefix {xs : List Int} {k : Nat} (h : validB (xs.take k) = false) : validB xs = false := by
  have e := List.take_append_drop k xs
  rw [← e]
  simp only [validB, List.all_append] at h ⊢
  rw [h]; rfl
/-- The number of ones. -/
def weight (xs : List Int) : Int := (xs.filter fun x => x == 1).length
theorem weight_le (xs : List Int) : 0 ≤ weight xs ∧ weight xs ≤ xs.length := by
  unfold weight; exact ⟨by omega, by have := List.length_filter_le (fun x : Int => x == 1) xs; omega⟩
theorem weight_snoc (xs : List Int) (x : Int) : weight (xs ++ [x]) = weight xs + if x = 1 then 1 else 0 := by
  by_cases h : x = 1 <;> simp [weight, h]
/-- Every element is 0 or 1. -/
def Bits (xs : List Int) : Prop := ∀ x ∈ xs, x = 0 ∨ x = 1
/-- The value of the bits, the most significant first. -/
def valueOf (xs : List Int) : Int := xs.foldl (fun v x => 2 * v + x) 0
theorem valueOf_snoc (xs : List Int) (x : Int) : valueOf (xs ++ [x]) = 2 * valueOf xs + x := by simp [valueOf]
theorem bits_nonneg {xs : List Int} (hb : Bits xs) (k : Nat) : xs[k]?.getD 0 = 0 ∨ xs[k]?.getD 0 = 1 := by
  rcases Nat.lt_or_ge k xs.length with hk | hk
  · simp [hk]; exact hb _ (List.getElem_mem hk)
  · simp [hk]
theorem Bits.take {xs : List Int} (hb : Bits xs) (k : Nat) : Bits (xs.take k) := fun x hx => hb x (List.mem_of_mem_take hx)
theorem Bits.snoc {xs : List Int} {x : Int} (hb : Bits xs) (hx : x = 0 ∨ x = 1) : Bits (xs ++ [x]) := fun y hy => by
  rcases List.mem_append.1 hy with h | h
  · exact hb y h
  · simp at h; subst h; exact hx
theorem foldl_value (xs : List Int) (v : Int) : xs.foldl (fun v x => 2 * v + x) v = v * ((2 ^ xs.length : Nat) : Int) + valueOf xs := by
  induction xs generalizing v with
  | nil => simp [valueOf]
  | cons x xs ih =>
    have e : valueOf (x :: xs) = (x * ((2 ^ xs.length : Nat) : Int)) + valueOf xs := by
      show xs.foldl _ (2 * 0 + x) = _
      rw [ih]; simp
    rw [List.foldl_cons, ih, e, List.length_cons, Nat.pow_succ, Int.natCast_mul]
    generalize ((2 ^ xs.length : Nat) : Int) = P
    rw [Int.add_mul]
    have : 2 * v * P = v * (P * ((2 : Nat) : Int)) := by rw [Int.mul_comm 2 v, Int.mul_assoc, Int.mul_comm 2 P]; rfl
    omega
theorem valueOf_cons (x : Int) (xs : List Int) : valueOf (x :: xs) = x * ((2 ^ xs.length : Nat) : Int) + valueOf xs := by
  show xs.foldl _ (2 * 0 + x) = _
  rw [foldl_value]; simp
theorem valueOf_lt {xs : List Int} (hb : Bits xs) : 0 ≤ valueOf xs ∧ valueOf xs < ((2 ^ xs.length : Nat) : Int) := by
  induction xs with
  | nil => simp [valueOf]
  | cons x xs ih =>
    have h1 := ih (fun y hy => hb y (by simp [hy]))
    have h2 := hb x (by simp)
    rw [valueOf_cons, List.length_cons, Nat.pow_succ, Int.natCast_mul]
    rcases h2 with rfl | rfl <;> omega

/-! ### runs -/
/-- The runs of a list: each as its length and its element. -/
def runsL : List Int → List (Nat × Int)
  | [] => []
  | x :: xs => match runsL xs with
    | [] => [(1, x)]
    | (n, y) :: r => if x = y then (n + 1, y) :: r else (1, x) :: (n, y) :: r
theorem runsL_head (xs : List Int) : (runsL xs).head?.map (·.2) = xs.head? := by
  cases xs with
  | nil => rfl
  | cons x xs =>
    show ((match runsL xs with
      | [] => [(1, x)]
      | (n, y) :: r => if x = y then (n + 1, y) :: r else (1, x) :: (n, y) :: r).head?.map (fun p : Nat × Int => p.2)) = some x
    split
    · rfl
    · split
      · simp_all
      · rfl
theorem runsL_replicate (m : Nat) (x : Int) (t : List Int) (h : t.head? ≠ some x) : runsL (List.replicate (m + 1) x ++ t) = (m + 1, x) :: runsL t := by
  induction m with
  | zero =>
    show (match runsL t with
      | [] => [(1, x)]
      | (n, y) :: r => if x = y then (n + 1, y) :: r else (1, x) :: (n, y) :: r) = _
    have hh := runsL_head t
    split
    · rename_i e; rw [e]
    · rename_i n y r e
      rw [e] at hh ⊢
      rw [if_neg]
      intro exy
      subst exy
      exact h hh.symm
  | succ m ih =>
    rw [List.replicate_succ, List.cons_append]
    show (match runsL (List.replicate (m + 1) x ++ t) with
      | [] => [(1, x)]
      | (n, y) :: r => if x = y then (n + 1, y) :: r else (1, x) :: (n, y) :: r) = _
    rw [ih]; simp
/-- One step of the iteration: from start to end. -/
theorem runsL_step (xs : List Int) (s e : Nat) (hse : s < e) (he : e ≤ xs.length) (hall : ∀ j, s ≤ j → j < e → xs[j]?.getD 0 = xs[s]?.getD 0)
    (hend : e = xs.length ∨ xs[e]?.getD 0 ≠ xs[s]?.getD 0) : runsL (xs.drop s) = (e - s, xs[s]?.getD 0) :: runsL (xs.drop e) := by
  have h1 : xs.drop s = List.replicate (e - s - 1 + 1) (xs[s]?.getD 0) ++ xs.drop e := by
    apply List.ext_getElem?
    intro i
    rw [List.getElem?_drop, List.getElem?_append, List.length_replicate]
    by_cases hi : i < e - s - 1 + 1
    · rw [if_pos hi, List.getElem?_replicate, if_pos hi]
      have := hall (s + i) (by omega) (by omega)
      rw [← this]
      have hl : s + i < xs.length := by omega
      simp [hl]
    · rw [if_neg hi, List.getElem?_drop]
      congr 1
      omega
  rw [h1, runsL_replicate]
  · rw [show e - s - 1 + 1 = e - s by omega]
  · rw [List.head?_drop]
    intro h2
    rcases hend with h3 | h3
    · rw [h3] at h2; simp at h2
    · rw [h2] at h3; exact h3 rfl
theorem all_succ {xs : List Int} {k j : Nat} (h : ∀ t, k ≤ t → t < j → xs[t]?.getD 0 = xs[k]?.getD 0) (hx : xs[j]?.getD 0 = xs[k]?.getD 0) : ∀ t, k ≤ t → t < j + 1 → xs[t]?.getD 0 = xs[k]?.getD 0 := by
  intro t h1 h2
  rcases Nat.lt_or_ge t j with h3 | h3
  · exact h t h1 h3
  · obtain rfl : t = j := by omega
    exact hx
/-- The runs, written out, are the list. -/
theorem runsL_flat (xs : List Int) : (runsL xs).flatMap (fun p : Nat × Int => List.replicate p.1 p.2) = xs := by
  induction xs with
  | nil => rfl
  | cons x xs ih =>
    show (match runsL xs with
      | [] => [(1, x)]
      | (n, y) :: r => if x = y then (n + 1, y) :: r else (1, x) :: (n, y) :: r).flatMap (fun p : Nat × Int => List.replicate p.1 p.2) = _
    split
    · rename_i e; rw [e] at ih; simp at ih; subst ih; rfl
    · rename_i n y r e
      rw [e] at ih
      split
      · rename_i exy; subst exy; rw [← ih]; simp [List.replicate_succ]
      · rw [← ih]; simp
theorem runsL_pos (xs : List Int) : ∀ p ∈ runsL xs, 1 ≤ p.1 := by
  induction xs with
  | nil => simp [runsL]
  | cons x xs ih =>
    show ∀ p ∈ (match runsL xs with
      | [] => [(1, x)]
      | (n, y) :: r => if x = y then (n + 1, y) :: r else (1, x) :: (n, y) :: r), 1 ≤ p.1
    split
    · simp
    · rename_i n y r e
      rw [e] at ih
      split
      · intro p hp
        rcases List.mem_cons.1 hp with h | h
        · subst h; simp
        · exact ih p (by simp [h])
      · intro p hp
        rcases List.mem_cons.1 hp with h | h
        · subst h; simp
        · exact ih p h
/-- The ones among the runs. -/
def onesOf (ps : List (Nat × Int)) : Int := ps.foldl (fun (s : Int) (p : Nat × Int) => if p.2 = 1 then s + (p.1 : Int) else s) 0
theorem onesOf_snoc (ps : List (Nat × Int)) (p : Nat × Int) : onesOf (ps ++ [p]) = if p.2 = 1 then onesOf ps + p.1 else onesOf ps := by simp [onesOf]
theorem onesOf_from (ps : List (Nat × Int)) (s : Int) : ps.foldl (fun (s : Int) (p : Nat × Int) => if p.2 = 1 then s + (p.1 : Int) else s) s = s + onesOf ps := by
  induction ps generalizing s with
  | nil => simp [onesOf]
  | cons p ps ih =>
    have e : onesOf (p :: ps) = (if p.2 = 1 then (0 : Int) + p.1 else 0) + onesOf ps := by
      show ps.foldl _ (if p.2 = 1 then (0 : Int) + p.1 else 0) = _
      rw [ih]
    rw [List.foldl_cons, ih, e]
    split <;> omega
theorem weight_append (xs ys : List Int) : weight (xs ++ ys) = weight xs + weight ys := by simp [weight]
theorem weight_replicate (n : Nat) (x : Int) : weight (List.replicate n x) = if x = 1 then (n : Int) else 0 := by
  by_cases h : x = 1 <;> simp [weight, h]
theorem onesOf_flat (ps : List (Nat × Int)) : onesOf ps = weight (ps.flatMap (fun p : Nat × Int => List.replicate p.1 p.2)) := by
  induction ps with
  | nil => rfl
  | cons p ps ih =>
    rw [List.flatMap_cons, weight_append, weight_replicate, ← ih]
    show ps.foldl _ (if p.2 = 1 then (0 : Int) + p.1 else 0) = _
    rw [onesOf_from]
    split <;> omega
theorem onesOf_runs (xs : List Int) : onesOf (runsL xs) = weight xs := by rw [onesOf_flat, runsL_flat]
theorem validB_runs (xs : List Int) : validB xs = (runsL xs).all (fun p => decide (p.2 ≤ 1)) := by
  have h := runsL_flat xs
  have hp := runsL_pos xs
  rw [Bool.eq_iff_iff]
  simp only [validB, List.all_eq_true, decide_eq_true_eq]
  constructor
  · intro hx p hpm
    refine hx p.2 ?_
    rw [← h, List.mem_flatMap]
    exact ⟨p, hpm, by rw [List.mem_replicate]; exact ⟨by have := hp p hpm; omega, rfl⟩⟩
  · intro hx x hxm
    rw [← h, List.mem_flatMap] at hxm
    obtain ⟨p, hpm, hr⟩ := hxm
    rw [List.mem_replicate] at hr
    rw [hr.2]
    exact hx p hpm

/-- Every run's element is at most 1; some run's element is above 1. -/
def RunsLe (ps : List (Nat × Int)) : Prop := ∀ p ∈ ps, p.2 ≤ 1
def RunsGt (ps : List (Nat × Int)) : Prop := ∃ p ∈ ps, 1 < p.2
theorem RunsLe.snoc {ps : List (Nat × Int)} {x : Nat × Int} (h : RunsLe ps) (hx : ¬ 1 < x.2) : RunsLe (ps ++ [x]) := fun p hp => by
  rcases List.mem_append.1 hp with h1 | h1
  · exact h p h1
  · simp at h1; subst h1; omega
theorem RunsGt.snoc {ps : List (Nat × Int)} {x : Nat × Int} (hx : 1 < x.2) : RunsGt (ps ++ [x]) := ⟨x, by simp, hx⟩
theorem validB_bad {xs : List Int} {pre : List (Nat × Int)} (h : pre <+: runsL xs) (hb : RunsGt pre) : validB xs = false := by
  rw [validB_runs, List.all_eq_false]
  obtain ⟨p, hp, hx⟩ := hb
  exact ⟨p, h.subset hp, by simp; exact hx⟩
theorem validB_good {xs : List Int} (h : RunsLe (runsL xs)) : validB xs = true := by
  rw [validB_runs, List.all_eq_true]
  exact fun p hp => by simp; exact h p hp
theorem all_take_succ {rows : List BRow} {k : Nat} {r : BRow} (hr : rows[k]? = some r) (h : (rows.take k).all (fun r => validB r.xs) = true) (hv : validB r.xs = true) : (rows.take (k + 1)).all (fun r => validB r.xs) = true := by
  obtain ⟨hk, rfl⟩ := List.getElem?_eq_some_iff.1 hr
  rw [List.take_succ_eq_append_getElem hk, List.all_append, h]
  simp [hv]
theorem all_bad {rows : List BRow} {k : Nat} {r : BRow} (hr : rows[k]? = some r) (hv : validB r.xs = false) : rows.all (fun r => validB r.xs) = false := by
  rw [List.all_eq_false]
  exact ⟨r, List.mem_of_getElem? hr, by simp [hv]⟩

/-! ### a list that is filled from the left -/
def fillL (g : Nat → Int) (n k : Nat) : List Int := (List.range n).map fun j => if j < k then g j else 0
theorem fillL_zero (g : Nat → Int) (n : Nat) : fillL g n 0 = List.replicate n 0 := by
  apply List.ext_getElem <;> simp [fillL]
theorem fillL_length (g : Nat → Int) (n k : Nat) : (fillL g n k).length = n := by simp [fillL]
theorem fillL_succ (g : Nat → Int) (n k : Nat) : (fillL g n k).set k (g k) = fillL g n (k + 1) := by
  apply List.ext_getElem
  · simp [fillL]
  · intro j h1 h2
    rw [List.getElem_set]
    simp only [fillL, List.getElem_map, List.getElem_range]
    by_cases e : k = j
    · subst e; simp
    · rw [if_neg e]
      by_cases h : j < k
      · rw [if_pos h, if_pos (by omega)]
      · rw [if_neg h, if_neg (by omega)]
theorem fillL_full (g : Nat → Int) (n : Nat) : fillL g n n = (List.range n).map g := by
  apply List.map_congr_left
  intro j hj
  rw [if_pos (List.mem_range.1 hj)]

theorem shr_range {v : Int} (h : 0 ≤ v ∧ v < 18446744073709551616) (k : Nat) : 0 ≤ v / 2 ^ k ∧ v / 2 ^ k < 18446744073709551616 := by
  have hp : (0 : Int) < 2 ^ k := Int.pow_pos (by decide)
  have h1 : 0 ≤ v / 2 ^ k := Int.ediv_nonneg h.1 (by omega)
  have h2 : v / 2 ^ k ≤ v := Int.ediv_le_self _ h.1
  omega
theorem shr_byte {xs : List Int} (h : Byte xs) (i k : Nat) : 0 ≤ xs[i]?.getD 0 / 2 ^ k ∧ xs[i]?.getD 0 / 2 ^ k ≤ 255 := by
  have h0 := h i
  have hp : (0 : Int) < 2 ^ k := Int.pow_pos (by decide)
  have h1 : 0 ≤ xs[i]?.getD 0 / 2 ^ k := Int.ediv_nonneg h0.1 (by omega)
  have h2 : xs[i]?.getD 0 / 2 ^ k ≤ xs[i]?.getD 0 := Int.ediv_le_self _ h0.1
  omega
/-! ### what the functions are to return: the bytes and the error's number -/
def fromUintL (v : Int) (n : Nat) : List Int := (List.range n).map fun i => v / 2 ^ (n - 1 - i) % 2
def fromUintS (v n : Int) : List Int × Int := if n < 0 ∨ 64 < n then ([], 2) else if v / 2 ^ n.toNat ≠ 0 then ([], 4) else (fromUintL v n.toNat, 0)
def unpackL (p : List Int) (n : Nat) : List Int := (List.range n).map fun i => p[i / 8]?.getD 0 / 2 ^ (7 - i % 8) % 2
def unpackS (p : List Int) (n : Int) : List Int × Int := if n < 0 then ([], 2) else if 8 * (p.length : Int) < n then ([], 5) else (unpackL p n.toNat, 0)
def xorL (xs ys : List Int) : List Int := (List.range xs.length).map fun i => (xs[i]?.getD 0 + ys[i]?.getD 0) % 2
def xorS (xs ys : List Int) : List Int × Int := if xs.length ≠ ys.length then ([], 2) else if (validB xs && validB ys) = false then ([], 3) else (xorL xs ys, 0)
def byteAt (xs : List Int) (j : Nat) : Int := valueOf ((List.range 8).map fun t => xs[8 * j + t]?.getD 0)
def packL (xs : List Int) : List Int := (List.range ((xs.length + 7) / 8)).map (byteAt xs)
def packS (xs : List Int) : List Int × Int := if validB xs = false then ([], 3) else (packL xs, 0)
def uintS (xs : List Int) : Int × Int := if validB xs = false then (0, 3) else if 64 < xs.length then (0, 4) else (valueOf xs, 0)

/-! ### machine integers without a sign -/
theorem wrap_u (k : IntKind) (hk : k.signed = false) (n : Nat) (h : n < 2 ^ k.bits) : k.wrap (n : Int) = n := by
  have h' : (n : Int) < 2 ^ k.bits := by exact_mod_cast h
  simp only [IntKind.wrap, hk]
  simp
  exact Int.emod_eq_of_lt (by omega) h'
theorem ofInt_nat (m n : Nat) : BitVec.ofInt m (n : Int) = BitVec.ofNat m n := by simp
theorem bits_and_u (k : IntKind) (hk : k.signed = false) (a b : Nat) (ha : a < 2 ^ k.bits) (hb : b < 2 ^ k.bits) : bits .and k (a : Int) (b : Int) = ((a &&& b : Nat) : Int) := by
  have e : ((BitVec.ofInt k.bits (a : Int)) &&& (BitVec.ofInt k.bits (b : Int))).toNat = a &&& b := by
    rw [BitVec.toNat_and, ofInt_nat, ofInt_nat, BitVec.toNat_ofNat, BitVec.toNat_ofNat, Nat.mod_eq_of_lt ha, Nat.mod_eq_of_lt hb]
  simp only [bits]
  rw [e, wrap_u k hk]
  exact Nat.and_lt_two_pow _ hb
theorem bits_or_u (k : IntKind) (hk : k.signed = false) (a b : Nat) (ha : a < 2 ^ k.bits) (hb : b < 2 ^ k.bits) : bits .or k (a : Int) (b : Int) = ((a ||| b : Nat) : Int) := by
  have e : ((BitVec.ofInt k.bits (a : Int)) ||| (BitVec.ofInt k.bits (b : Int))).toNat = a ||| b := by
    rw [BitVec.toNat_or, ofInt_nat, ofInt_nat, BitVec.toNat_ofNat, BitVec.toNat_ofNat, Nat.mod_eq_of_lt ha, Nat.mod_eq_of_lt hb]
  simp only [bits]
  rw [e, wrap_u k hk]
  exact Nat.or_lt_two_pow ha hb
theorem bits_xor_u (k : IntKind) (hk : k.signed = false) (a b : Nat) (ha : a < 2 ^ k.bits) (hb : b < 2 ^ k.bits) : bits .xor k (a : Int) (b : Int) = ((a ^^^ b : Nat) : Int) := by
  have e : ((BitVec.ofInt k.bits (a : Int)) ^^^ (BitVec.ofInt k.bits (b : Int))).toNat = a ^^^ b := by
    rw [BitVec.toNat_xor, ofInt_nat, ofInt_nat, BitVec.toNat_ofNat, BitVec.toNat_ofNat, Nat.mod_eq_of_lt ha, Nat.mod_eq_of_lt hb]
  simp only [bits]
  rw [e, wrap_u k hk]
  exact Nat.xor_lt_two_pow ha hb
theorem and_one_u8 {x : Int} (h0 : 0 ≤ x) (h1 : x ≤ 255) : bits .and .u8 x 1 = x % 2 := by
  obtain ⟨n, rfl⟩ := Int.eq_ofNat_of_zero_le h0
  have := bits_and_u .u8 rfl n 1 (by simp [IntKind.bits]; omega) (by decide)
  rw [Nat.and_one_is_mod] at this
  simpa using this
theorem and_one_u64 {x : Int} (h0 : 0 ≤ x) (h1 : x < 18446744073709551616) : bits .and .u64 x 1 = x % 2 := by
  obtain ⟨n, rfl⟩ := Int.eq_ofNat_of_zero_le h0
  have := bits_and_u .u64 rfl n 1 (by simp only [IntKind.bits]; omega) (by decide)
  rw [Nat.and_one_is_mod] at this
  simpa using this
theorem and_one_u64' {x : Int} (h0 : 0 ≤ x) (h1 : x < 18446744073709551616) : bits .and .u64 x 1 % 256 = x % 2 := by
  rw [and_one_u64 h0 h1]; omega
theorem or_bit (n b : Nat) (h : b ≤ 1) : (2 * n) ||| b = 2 * n + b := by
  have := Nat.shiftLeft_add_eq_or_of_lt (i := 1) (b := b) (by omega) n
  rw [Nat.shiftLeft_eq, Nat.mul_comm] at this
  simpa using this.symm
theorem number_step {v x : Int} (h0 : 0 ≤ v) (h1 : v < 9223372036854775808) (hx : x = 0 ∨ x = 1) : bits .or .u64 (IntKind.u64.wrap (v * 2)) (IntKind.u64.wrap x) = 2 * v + x := by
  rw [IntWalk.u64_in (v * 2) (by omega), IntWalk.u64_in x (by omega)]
  obtain ⟨n, rfl⟩ := Int.eq_ofNat_of_zero_le h0
  obtain ⟨b, rfl⟩ := Int.eq_ofNat_of_zero_le (show 0 ≤ x by omega)
  have := bits_or_u .u64 rfl (2 * n) b (by simp only [IntKind.bits]; omega) (by simp only [IntKind.bits]; omega)
  rw [or_bit n b (by omega)] at this
  have e : ((n : Int) * 2) = ((2 * n : Nat) : Int) := by omega
  rw [e, this]
  omega
theorem number_step' {xs : List Int} {k n : Nat} (hb : Bits xs) (hl : xs.length = n) (hn : n ≤ 64) (hk : k < n) :
    bits .or .u64 (IntKind.u64.wrap (valueOf (xs.take k) * 2)) (IntKind.u64.wrap (xs[k]?.getD 0)) = valueOf (xs.take (k + 1)) := by
  have h1 := valueOf_lt (hb.take k)
  have h2 : 2 ^ (xs.take k).length ≤ 2 ^ 63 := by
    rw [List.length_take]
    exact Nat.pow_le_pow_right (by decide) (by omega)
  rw [number_step h1.1 (by have : 2 ^ 63 = 9223372036854775808 := rfl; omega) (bits_nonneg hb k), take_snoc xs k (by omega) 0, valueOf_snoc]
theorem validB_bits {xs : List Int} (hx : Byte xs) (h : validB xs = true) : Bits xs := fun x hm => by
  have h1 := hx.mem x hm
  simp only [validB, List.all_eq_true, decide_eq_true_eq] at h
  have := h x hm
  omega
theorem xor_bit {a b : Int} (ha : a = 0 ∨ a = 1) (hb : b = 0 ∨ b = 1) : bits .xor .u8 a b = (a + b) % 2 := by
  rcases ha with rfl | rfl <;> rcases hb with rfl | rfl <;> decide
theorem xorL_eq {xs ys : List Int} {n : Nat} (hl : xs.length = n) (hx : Bits xs) (hy : Bits ys) : ((List.range n).map fun i => bits .xor .u8 (xs[i]?.getD 0) (ys[i]?.getD 0) % 2) = xorL xs ys := by
  unfold xorL
  rw [hl]
  apply List.map_congr_left
  intro i _
  rw [xor_bit (bits_nonneg hx i) (bits_nonneg hy i)]
  omega
theorem xor_range {xs ys : List Int} (hx : Bits xs) (hy : Bits ys) (i : Nat) : 0 ≤ bits .xor .u8 (xs[i]?.getD 0) (ys[i]?.getD 0) ∧ bits .xor .u8 (xs[i]?.getD 0) (ys[i]?.getD 0) ≤ 255 := by
  rw [xor_bit (bits_nonneg hx i) (bits_nonneg hy i)]
  omega
theorem xorL_length (xs ys : List Int) : (xorL xs ys).length = xs.length := by simp [xorL]
theorem xorS_len (xs ys : List Int) : (xorS xs ys).1.length ≤ xs.length := by
  unfold xorS
  split
  · simp
  · split
    · simp
    · simp [xorL]
end Go.Proofs.Ytjehfdnkdfmmbaa
