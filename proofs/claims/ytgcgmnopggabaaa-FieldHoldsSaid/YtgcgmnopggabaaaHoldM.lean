/-
  The law FieldHolds: the mathematics of reading back what was written.
-/
import Derived.Test.YtgcgmnopggabaaaOct
import Derived.Test.YtgcgmnopggabaaaCut
namespace Go.Proofs.Ytgcgmnopggabaaa
open Go.RowKit

theorem restL_packL {T : List Int} (hT : Bits T) (p : Nat) : restL (packL T) ((T.length + 7) / 8) p = (padTo T).drop p := by
  have h1 : unpackL (packL T) (8 * ((T.length + 7) / 8)) = padTo T := by
    have := unpack_pack (padTo_bits hT)
    rwa [packL_padTo, padTo_length] at this
  rw [← h1]
  apply List.ext_getElem?
  intro i
  rw [List.getElem?_drop]
  unfold restL unpackL
  by_cases hi : i < 8 * ((T.length + 7) / 8) - p
  · simp only [List.getElem?_map, List.getElem?_range hi, List.getElem?_range (show p + i < 8 * ((T.length + 7) / 8) by omega)]
    rfl
  · rw [List.getElem?_eq_none (by simp; omega), List.getElem?_eq_none (by simp; omega)]
theorem take_mid {P Q S : List Int} (k : Nat) (hk : k = Q.length) : ((P ++ Q ++ S).drop P.length).take k = Q := by
  subst hk
  rw [List.append_assoc, List.drop_left, List.take_left]
theorem read_field {T P S : List Int} {v wd : Int} (hT : T = P ++ fromUintL v wd.toNat ++ S) (hb : Bits T) (h0 : 0 ≤ v) (hv : (fromUintS v wd).2 = 0) :
    getE ((T.length + 7) / 8) P.length wd = 0 ∧ getV (packL T) ((T.length + 7) / 8) P.length wd = v ∧ getP ((T.length + 7) / 8) P.length wd = (P ++ fromUintL v wd.toNat).length := by
  have hw := width_ok hv
  have hl : T.length = P.length + wd.toNat + S.length := by rw [hT, List.length_append, List.length_append, fromUintL_length]
  have e : getE ((T.length + 7) / 8) P.length wd = 0 := by unfold getE; rw [if_neg (by omega), if_pos (by omega)]
  refine ⟨e, ?_, ?_⟩
  · unfold getV
    rw [if_pos e, restL_packL hb]
    have hp : ((padTo T).drop P.length).take wd.toNat = fromUintL v wd.toNat := by
      unfold padTo
      rw [hT, List.append_assoc (P ++ fromUintL v wd.toNat)]
      exact take_mid _ (fromUintL_length _ _).symm
    rw [hp]
    refine valueOf_fromUintL _ _ h0 ?_
    unfold fromUintS at hv
    rw [if_neg (by omega)] at hv
    split at hv
    · simp at hv
    · rename_i h
      have hpos : (0 : Int) < ((2 ^ wd.toNat : Nat) : Int) := by have : 0 < 2 ^ wd.toNat := Nat.pow_pos (by decide); omega
      have h' : v / ((2 ^ wd.toNat : Nat) : Int) = 0 := by have := Classical.not_not.1 h; push_cast; exact this
      have h2 := Int.lt_ediv_add_one_mul_self v hpos
      rw [h'] at h2
      omega
  · unfold getP; rw [if_pos e, List.length_append, fromUintL_length]
theorem bitAt_packL {T : List Int} (hb : Bits T) {k : Nat} (hk : k < T.length) : bitAt (packL T) k = T[k]?.getD 0 := by
  have h := restL_packL hb 0
  have h1 : (restL (packL T) ((T.length + 7) / 8) 0)[k]? = some (bitAt (packL T) (0 + k)) := by
    unfold restL
    rw [List.getElem?_map, List.getElem?_range (by omega)]
    rfl
  rw [h, List.drop_zero] at h1
  unfold padTo at h1
  rw [List.getElem?_append_left hk, Nat.zero_add] at h1
  rw [h1]; rfl
theorem read_bytes {T P S l : List Int} (hT : T = P ++ bitsOf l ++ S) (hb : Bits T) (hl : Byte l) :
    gbE ((T.length + 7) / 8) P.length l.length = 0 ∧ octL (packL T) P.length l.length = l := by
  have hln : T.length = P.length + 8 * l.length + S.length := by rw [hT, List.length_append, List.length_append, bitsOf_length]
  refine ⟨by unfold gbE; rw [if_neg (by omega), if_neg (by omega)], ?_⟩
  apply List.ext_getElem?
  intro i
  unfold octL
  by_cases hi : i < l.length
  · rw [List.getElem?_map, List.getElem?_range hi, Option.map_some]
    have h1 : octV (packL T) (P.length + 8 * i) = octV l (8 * i) := by
      unfold octV
      congr 1
      apply List.map_congr_left
      intro t ht
      have ht := List.mem_range.1 ht
      have h2 : T[P.length + 8 * i + t]?.getD 0 = (bitsOf l)[8 * i + t]?.getD 0 := by
        rw [hT, List.append_assoc, getD_app_ge _ _ _ (by omega), getD_app_lt _ _ _ (by rw [bitsOf_length]; omega), show P.length + 8 * i + t - P.length = 8 * i + t by omega]
      rw [bitAt_packL hb (by omega), h2, bitsOf_get _ _ (by omega)]
      rfl
    rw [h1, ← octV_aligned hl (by omega), show 8 * i / 8 = i by omega, List.getElem?_eq_getElem hi]
    rfl
  · rw [List.getElem?_eq_none (by simp; omega), List.getElem?_eq_none (by omega)]
theorem read_end {T : List Int} (hb : Bits T) : endE (packL T) ((T.length + 7) / 8) T.length = 0 ∧ alignE (packL T) ((T.length + 7) / 8) T.length = 0 ∧ alignP (packL T) ((T.length + 7) / 8) T.length = 8 * ((T.length + 7) / 8) := by
  have h0 : alignE (packL T) ((T.length + 7) / 8) T.length = 0 := by
    unfold alignE
    rw [restL_packL hb]
    unfold padTo
    rw [List.drop_left, List.take_replicate, valueOf_zeros]
    rfl
  refine ⟨by unfold endE; rw [if_neg (by omega), h0], h0, ?_⟩
  unfold alignP padOf
  rw [if_pos h0]
  omega
theorem bitsAll_split (fs : List (Int × Int)) (k : Nat) (hk : k < fs.length) : bitsAll fs = bitsAll (fs.take k) ++ fromUintL (fs[k]?.getD (0, 0)).1 (fs[k]?.getD (0, 0)).2.toNat ++ bitsAll (fs.drop (k + 1)) := by
  rw [← bitsAll_snoc, ← take_snocF fs k hk]
  unfold bitsAll
  rw [← List.flatMap_append, List.take_append_drop]

theorem wx_low {w : World} {B : Nat} {V : Value} {bs : List Int} (h : WrtAt w B V bs) {k : Nat} (hk : k < B) : ¬ WX B V k := by
  rintro (e | e)
  · omega
  · have := (h.own_lt k e.symm).1; omega
theorem Rd.old {q : IntKind} {w w' : World} {N n : Nat} {A : Option Addr} {xs : List Int} {X : Nat → Prop} (h : Rd q w N A n xs) (hN : N ≤ w.heap.size) (hs : Save X w w') (hX : ∀ k, k < N → ¬ X k) : Rd q w' N A n xs :=
  ⟨h.len, fun k hk => by
    obtain ⟨b, off, e, h1, h2⟩ := h.cells k hk
    exact ⟨b, off, e, h1, (hs.cell (p := ⟨b, off + k, none⟩) (Nat.lt_of_lt_of_le h1 hN) (hX b h1)).trans h2⟩⟩
/-- The law's arguments to compare with, older than the writer at B. -/
structure Old3 (w0 w : World) (B : Nat) (A1 A2 Ab : Option Addr) (nx ny nb : Nat) (gx gy : List (Int × Int)) (l : List Int) : Prop where
  x : RdF w B A1 nx gx
  y : RdF w B A2 ny gy
  b : Rd .u8 w B Ab nb l
  low : B ≤ w.heap.size
  below : Below w0.heap.size w0 w
  w0B : w0.heap.size ≤ B
variable {w0 w w' : World} {B : Nat} {A1 A2 Ab : Option Addr} {nx ny nb : Nat} {gx gy : List (Int × Int)} {l : List Int}
theorem Old3.save {X : Nat → Prop} (h : Old3 w0 w B A1 A2 Ab nx ny nb gx gy l) (hs : Save X w w') (hX : ∀ k, k < B → ¬ X k) : Old3 w0 w' B A1 A2 Ab nx ny nb gx gy l :=
  ⟨h.x.old h.low hs hX, h.y.old h.low hs hX, h.b.old h.low hs hX, Nat.le_trans h.low hs.size, Below.save h.below hs (fun i hi => by
    have h1 := h.w0B
    rcases Nat.lt_or_ge i B with h2 | h2
    · exact absurd hi (hX i h2)
    · omega) (Nat.le_refl _), h.w0B⟩
theorem Old3.step (h : Old3 w0 w B A1 A2 Ab nx ny nb gx gy l) (hb : Below w.heap.size w w') : Old3 w0 w' B A1 A2 Ab nx ny nb gx gy l :=
  h.save (X := fun k => w.heap.size ≤ k) (Save.of_below hb) (fun k hk => by have := h.low; omega)
theorem Old3.drewN (h : Old3 w0 w B A1 A2 Ab nx ny nb gx gy l) (i : Nat) : Old3 w0 (w.drewN i) B A1 A2 Ab nx ny nb gx gy l :=
  h.save (X := fun _ => False) ((Save.refl _ w).drewN i) (fun _ _ h => h)
end Go.Proofs.Ytgcgmnopggabaaa
