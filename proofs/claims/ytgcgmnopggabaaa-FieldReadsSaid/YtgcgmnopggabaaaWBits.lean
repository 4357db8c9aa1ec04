/-
  Bits that are appended to a packed row: one bit, eight bits, zeros. Pure mathematics.
-/
import Derived.Test.YtgcgmnopggabaaaBits3
namespace Go.Proofs.Ytgcgmnopggabaaa

theorem or_low (a b j : Nat) (h : b < 2 ^ j) : (a * 2 ^ j) ||| b = a * 2 ^ j + b := by
  have := Nat.shiftLeft_add_eq_or_of_lt h a
  rw [Nat.shiftLeft_eq] at this
  exact this.symm
theorem getD_app_lt (xs ys : List Int) (i : Nat) (h : i < xs.length) : (xs ++ ys)[i]?.getD 0 = xs[i]?.getD 0 := by rw [List.getElem?_append_left h]
theorem getD_app_ge (xs ys : List Int) (i : Nat) (h : xs.length ≤ i) : (xs ++ ys)[i]?.getD 0 = ys[i - xs.length]?.getD 0 := by rw [List.getElem?_append_right h]
theorem byteAt8 (xs : List Int) (j : Nat) : byteAt xs j = 128 * xs[8 * j]?.getD 0 + 64 * xs[8 * j + 1]?.getD 0 + 32 * xs[8 * j + 2]?.getD 0 + 16 * xs[8 * j + 3]?.getD 0 + 8 * xs[8 * j + 4]?.getD 0 + 4 * xs[8 * j + 5]?.getD 0 + 2 * xs[8 * j + 6]?.getD 0 + xs[8 * j + 7]?.getD 0 := by
  unfold byteAt
  rw [valueOf8]
  rfl
theorem byteAt_congr {xs ys : List Int} {i j : Nat} (h : ∀ t, t < 8 → xs[8 * i + t]?.getD 0 = ys[8 * j + t]?.getD 0) : byteAt xs i = byteAt ys j := by
  unfold byteAt
  congr 1
  exact List.map_congr_left fun t ht => h t (List.mem_range.1 ht)
theorem packL_get (xs : List Int) (i : Nat) (h : i < (xs.length + 7) / 8) : (packL xs)[i]? = some (byteAt xs i) := by simp [packL, h]
theorem byteAt_past (xs : List Int) (j : Nat) (h : xs.length ≤ 8 * j) : byteAt xs j = 0 := by
  rw [byteAt8]
  have e : ∀ t, xs[8 * j + t]?.getD 0 = 0 := fun t => by rw [List.getElem?_eq_none (by omega)]; rfl
  have e0 := e 0
  simp only [Nat.add_zero] at e0
  simp only [e, e0]
  omega
/-- The last byte, as far as it is filled, is a multiple of what is free. -/
theorem byteAt_last {bs : List Int} (hb : Bits bs) : ∃ a : Nat, byteAt bs (bs.length / 8) = ((a * 2 ^ (8 - bs.length % 8) : Nat) : Int) ∧ a * 2 ^ (8 - bs.length % 8) < 256 := by
  have hr := byteAt_range hb (bs.length / 8)
  have h := byteAt_chunk (xs := bs) (k := bs.length / 8) (m := bs.length % 8) (by omega) (by omega) (by omega)
  obtain ⟨v, hv⟩ := Int.eq_ofNat_of_zero_le (valueOf_lt (bits_chunk hb (8 * (bs.length / 8)) (bs.length % 8))).1
  refine ⟨v, ?_, ?_⟩
  · rw [h, hv]; simp
  · rw [h, hv] at hr
    have : ((v : Int) * ((2 ^ (8 - bs.length % 8) : Nat) : Int)) = ((v * 2 ^ (8 - bs.length % 8) : Nat) : Int) := by simp
    rw [this] at hr
    omega
theorem or_last {bs : List Int} (hb : Bits bs) {y : Int} (h0 : 0 ≤ y) (h1 : y < ((2 ^ (8 - bs.length % 8) : Nat) : Int)) : bits .or .u8 (byteAt bs (bs.length / 8)) y = byteAt bs (bs.length / 8) + y := by
  obtain ⟨a, ha, hl⟩ := byteAt_last hb
  obtain ⟨b, rfl⟩ := Int.eq_ofNat_of_zero_le h0
  have hb' : b < 2 ^ (8 - bs.length % 8) := by omega
  have h8 : 2 ^ (8 - bs.length % 8) ≤ 2 ^ 8 := Nat.pow_le_pow_right (by decide) (by omega)
  have := bits_or_u .u8 rfl (a * 2 ^ (8 - bs.length % 8)) b (by simp only [IntKind.bits]; omega) (by simp only [IntKind.bits]; omega)
  rw [or_low _ _ _ hb'] at this
  rw [ha, this]
  omega
/-! ### one bit -/
def padL (bs : List Int) : List Int := (List.range (bs.length / 8 + 1)).map (byteAt bs)
theorem padL_aligned {bs : List Int} (h : bs.length % 8 = 0) : padL bs = packL bs ++ [0] := by
  unfold padL packL
  rw [List.range_succ, List.map_append, show (bs.length + 7) / 8 = bs.length / 8 by omega]
  simp [byteAt_past bs (bs.length / 8) (by omega)]
theorem padL_not {bs : List Int} (h : bs.length % 8 ≠ 0) : padL bs = packL bs := by
  unfold padL packL
  rw [show (bs.length + 7) / 8 = bs.length / 8 + 1 by omega]
theorem byteAt_snoc (bs : List Int) (x : Int) (i : Nat) : byteAt (bs ++ [x]) i = byteAt bs i + if i = bs.length / 8 then x * ((2 ^ (7 - bs.length % 8) : Nat) : Int) else 0 := by
  have := byteAt_succ (bs ++ [x]) bs.length i (by simp)
  rw [List.take_of_length_le (by simp), List.take_left, List.getElem?_append_right (Nat.le_refl _)] at this
  simpa using this
theorem packL_snoc (bs : List Int) (x : Int) : packL (bs ++ [x]) = (padL bs).set (bs.length / 8) (byteAt (bs ++ [x]) (bs.length / 8)) := by
  apply List.ext_getElem?
  intro i
  rw [List.getElem?_set]
  by_cases hi : i < bs.length / 8 + 1
  · rw [packL_get _ _ (by simp; omega)]
    by_cases he : bs.length / 8 = i
    · rw [if_pos he, if_pos (by simp [padL]), he]
    · rw [if_neg he]
      have : (padL bs)[i]? = some (byteAt bs i) := by simp [padL, hi]
      rw [this, byteAt_snoc, if_neg (fun e => he e.symm)]
      simp
  · rw [if_neg (by omega), List.getElem?_eq_none (by simp [packL] <;> omega), List.getElem?_eq_none (by simp [padL] <;> omega)]
theorem put_or {bs : List Int} (hb : Bits bs) {x : Int} (hx : x = 0 ∨ x = 1) : bits .or .u8 (byteAt bs (bs.length / 8)) (IntKind.u8.wrap (x * 2 ^ (7 - bs.length % 8))) = byteAt (bs ++ [x]) (bs.length / 8) := by
  have h4 : ((2 ^ (7 - bs.length % 8) : Nat) : Int) = (2 : Int) ^ (7 - bs.length % 8) := by simp
  have h1 : 2 ^ (7 - bs.length % 8) ≤ 2 ^ 7 := Nat.pow_le_pow_right (by decide) (by omega)
  have h3 : 1 ≤ 2 ^ (7 - bs.length % 8) := Nat.one_le_two_pow
  have h5 : 2 ^ (8 - bs.length % 8) = 2 * 2 ^ (7 - bs.length % 8) := by rw [show 8 - bs.length % 8 = (7 - bs.length % 8) + 1 by omega, Nat.pow_succ]; omega
  have hm : 0 ≤ x * ((2 ^ (7 - bs.length % 8) : Nat) : Int) ∧ x * ((2 ^ (7 - bs.length % 8) : Nat) : Int) ≤ ((2 ^ (7 - bs.length % 8) : Nat) : Int) := by
    rcases hx with rfl | rfl <;> omega
  rw [← h4, IntWalk.u8_in _ (by omega), or_last hb (by omega) (by rw [h5]; omega), byteAt_snoc, if_pos rfl]

/-! ### whole bytes -/
theorem packL_append {bs ys : List Int} (h : bs.length % 8 = 0) : packL (bs ++ ys) = packL bs ++ packL ys := by
  apply List.ext_getElem?
  intro i
  by_cases hi : i < (bs.length + ys.length + 7) / 8
  · rw [packL_get _ _ (by simp; omega)]
    by_cases h1 : i < (bs.length + 7) / 8
    · rw [List.getElem?_append_left (by rw [packL_length]; exact h1), packL_get _ _ h1]
      exact congrArg some (byteAt_congr fun t ht => getD_app_lt _ _ _ (by omega))
    · rw [List.getElem?_append_right (by rw [packL_length]; omega), packL_length, packL_get _ _ (by omega)]
      refine congrArg some (byteAt_congr fun t ht => ?_)
      rw [getD_app_ge _ _ _ (by omega)]
      congr 2
      omega
  · rw [List.getElem?_eq_none (by rw [packL_length]; simp; omega), List.getElem?_eq_none (by simp [packL_length]; omega)]
/-- The bits of bytes. -/
def bitsOf (l : List Int) : List Int := unpackL l (8 * l.length)
theorem bitsOf_length (l : List Int) : (bitsOf l).length = 8 * l.length := unpackL_length _ _
theorem bitsOf_bits (l : List Int) : Bits (bitsOf l) := unpackL_bits _ _
theorem packL_bitsOf {bs l : List Int} (hl : Byte l) (h : bs.length % 8 = 0) : packL (bs ++ bitsOf l) = packL bs ++ l := by rw [packL_append h]; congr 1; exact pack_unpack hl
theorem bitsOf_get (l : List Int) (i : Nat) (h : i < 8 * l.length) : (bitsOf l)[i]?.getD 0 = l[i / 8]?.getD 0 / 2 ^ (7 - i % 8) % 2 := by simp [bitsOf, unpackL, h]
theorem bitsOf_snoc (l : List Int) (x : Int) : bitsOf (l ++ [x]) = bitsOf l ++ bitsOf [x] := by
  apply List.ext_getElem?
  intro i
  by_cases h1 : i < 8 * l.length
  · rw [List.getElem?_append_left (by rw [bitsOf_length]; exact h1)]
    simp only [bitsOf, unpackL]
    rw [List.getElem?_map, List.getElem?_map, List.getElem?_range (by simp; omega), List.getElem?_range (by simpa using h1)]
    simp only [Option.map_some]
    rw [List.getElem?_append_left (by omega)]
  · rw [List.getElem?_append_right (by rw [bitsOf_length]; omega), bitsOf_length]
    by_cases h2 : i < 8 * l.length + 8
    · simp only [bitsOf, unpackL]
      rw [List.getElem?_map, List.getElem?_map, List.getElem?_range (by simp; omega), List.getElem?_range (by simp; omega)]
      simp only [Option.map_some]
      rw [List.getElem?_append_right (by omega)]
      have e1 : i / 8 - l.length = 0 := by omega
      have e2 : (i - 8 * l.length) / 8 = 0 := by omega
      have e3 : (i - 8 * l.length) % 8 = i % 8 := by omega
      rw [e1, e2, e3]
    · rw [List.getElem?_eq_none (by rw [bitsOf_length]; simp; omega), List.getElem?_eq_none (by rw [bitsOf_length]; simp; omega)]

/-! ### eight bits at a position that is no multiple of 8 -/
theorem byte_or {bs : List Int} (hb : Bits bs) {x : Int} (h0 : 0 ≤ x) (h1 : x ≤ 255) : bits .or .u8 (byteAt bs (bs.length / 8)) (x / 2 ^ (bs.length % 8)) = byteAt (bs ++ bitsOf [x]) (bs.length / 8) := by
  have hu : bs.length % 8 < 8 := Nat.mod_lt _ (by decide)
  have key : byteAt (bs ++ bitsOf [x]) (bs.length / 8) = byteAt bs (bs.length / 8) + x / 2 ^ (bs.length % 8) ∧ x / 2 ^ (bs.length % 8) < ((2 ^ (8 - bs.length % 8) : Nat) : Int) ∧ 0 ≤ x / 2 ^ (bs.length % 8) := by
    rw [byteAt8, byteAt8]
    have hB : ∀ t, (bs ++ bitsOf [x])[8 * (bs.length / 8) + t]?.getD 0 = if t < bs.length % 8 then bs[8 * (bs.length / 8) + t]?.getD 0 else if t < 8 then x / 2 ^ (7 - (t - bs.length % 8)) % 2 else (bitsOf [x])[8 * (bs.length / 8) + t - bs.length]?.getD 0 := fun t => by
      split
      · exact getD_app_lt _ _ _ (by omega)
      · rw [getD_app_ge _ _ _ (by omega)]
        split
        · rw [bitsOf_get _ _ (by simp; omega)]
          have e1 : (8 * (bs.length / 8) + t - bs.length) / 8 = 0 := by omega
          have e2 : (8 * (bs.length / 8) + t - bs.length) % 8 = t - bs.length % 8 := by omega
          rw [e1, e2]
          simp
        · rfl
    have hC : ∀ t, bs.length % 8 ≤ t → bs[8 * (bs.length / 8) + t]?.getD 0 = 0 := fun t ht => by rw [List.getElem?_eq_none (by omega)]; rfl
    have hB0 := hB 0
    have hC0 := hC 0
    simp only [Nat.add_zero] at hB0 hC0
    have hB1 := hB 1
    have hB2 := hB 2
    have hB3 := hB 3
    have hB4 := hB 4
    have hB5 := hB 5
    have hB6 := hB 6
    have hB7 := hB 7
    have hC1 := hC 1
    have hC2 := hC 2
    have hC3 := hC 3
    have hC4 := hC 4
    have hC5 := hC 5
    have hC6 := hC 6
    have hC7 := hC 7
    rw [hB0, hB1, hB2, hB3, hB4, hB5, hB6, hB7]
    clear hB hC hB0 hB1 hB2 hB3 hB4 hB5 hB6 hB7
    generalize bs.length % 8 = u at *
    have : u = 0 ∨ u = 1 ∨ u = 2 ∨ u = 3 ∨ u = 4 ∨ u = 5 ∨ u = 6 ∨ u = 7 := by omega
    rcases this with rfl | rfl | rfl | rfl | rfl | rfl | rfl | rfl <;> simp at * <;> simp [*] <;> omega
  rw [key.1]
  exact or_last hb key.2.2 key.2.1
theorem byte_next {bs : List Int} {x : Int} (hu : bs.length % 8 ≠ 0) : IntKind.u8.wrap (x * 2 ^ (8 - bs.length % 8)) = byteAt (bs ++ bitsOf [x]) (bs.length / 8 + 1) := by
  have hu8 : bs.length % 8 < 8 := Nat.mod_lt _ (by decide)
  rw [byteAt8]
  have hB : ∀ t, t < 8 → (bs ++ bitsOf [x])[8 * (bs.length / 8 + 1) + t]?.getD 0 = if t < bs.length % 8 then x / 2 ^ (bs.length % 8 - 1 - t) % 2 else 0 := fun t ht => by
    rw [getD_app_ge _ _ _ (by omega)]
    split
    · rw [bitsOf_get _ _ (by simp; omega)]
      have e1 : (8 * (bs.length / 8 + 1) + t - bs.length) / 8 = 0 := by omega
      have e2 : 7 - (8 * (bs.length / 8 + 1) + t - bs.length) % 8 = bs.length % 8 - 1 - t := by omega
      rw [e1, e2]
      simp
    · rw [List.getElem?_eq_none (by rw [bitsOf_length]; simp; omega)]; rfl
  have hB0 := hB 0 (by omega)
  simp only [Nat.add_zero] at hB0
  rw [hB0, hB 1 (by omega), hB 2 (by omega), hB 3 (by omega), hB 4 (by omega), hB 5 (by omega), hB 6 (by omega), hB 7 (by omega)]
  clear hB hB0
  simp only [IntKind.wrap, IntKind.bits, IntKind.signed]
  generalize bs.length % 8 = u at *
  have : u = 1 ∨ u = 2 ∨ u = 3 ∨ u = 4 ∨ u = 5 ∨ u = 6 ∨ u = 7 := by omega
  rcases this with rfl | rfl | rfl | rfl | rfl | rfl | rfl <;> simp <;> omega
theorem packL_byte {bs : List Int} {x : Int} (hu : bs.length % 8 ≠ 0) : packL (bs ++ bitsOf [x]) = (packL bs).set (bs.length / 8) (byteAt (bs ++ bitsOf [x]) (bs.length / 8)) ++ [byteAt (bs ++ bitsOf [x]) (bs.length / 8 + 1)] := by
  apply List.ext_getElem?
  intro i
  have hl : (bitsOf [x]).length = 8 := bitsOf_length _
  by_cases hi : i < bs.length / 8 + 2
  · rw [packL_get _ _ (by rw [List.length_append, hl]; omega)]
    by_cases h1 : i < bs.length / 8 + 1
    · rw [List.getElem?_append_left (by rw [List.length_set, packL_length]; omega), List.getElem?_set]
      by_cases he : bs.length / 8 = i
      · rw [if_pos he, if_pos (by rw [packL_length]; omega), he]
      · rw [if_neg he, packL_get _ _ (by omega)]
        exact congrArg some (byteAt_congr fun t ht => getD_app_lt _ _ _ (by omega))
    · have e : i = bs.length / 8 + 1 := by omega
      subst e
      rw [List.getElem?_append_right (by rw [List.length_set, packL_length]; omega), List.length_set, packL_length, show bs.length / 8 + 1 - (bs.length + 7) / 8 = 0 by omega]
      rfl
  · rw [List.getElem?_eq_none (by rw [packL_length, List.length_append, hl]; omega), List.getElem?_eq_none (by rw [List.length_append, List.length_set, packL_length]; simp; omega)]

/-! ### zeros up to a multiple of 8 -/
def padTo (bs : List Int) : List Int := bs ++ List.replicate (8 * ((bs.length + 7) / 8) - bs.length) 0
theorem padTo_length (bs : List Int) : (padTo bs).length = 8 * ((bs.length + 7) / 8) := by simp [padTo]; omega
theorem padTo_bits {bs : List Int} (h : Bits bs) : Bits (padTo bs) := fun x hx => by
  rcases List.mem_append.1 hx with h1 | h1
  · exact h x h1
  · exact .inl (List.eq_of_mem_replicate h1)
theorem packL_padTo (bs : List Int) : packL (padTo bs) = packL bs := by
  unfold packL
  rw [padTo_length, show (8 * ((bs.length + 7) / 8) + 7) / 8 = (bs.length + 7) / 8 by omega]
  refine List.map_congr_left fun i hi => byteAt_congr fun t ht => ?_
  unfold padTo
  rcases Nat.lt_or_ge (8 * i + t) bs.length with h | h
  · exact getD_app_lt _ _ _ h
  · rw [getD_app_ge _ _ _ h, List.getElem?_eq_none (l := bs) h]
    rw [List.getElem?_replicate]
    split <;> rfl
end Go.Proofs.Ytgcgmnopggabaaa
