/-
  The writer: what it is in memory; appendBit.
-/
import Derived.Test.YtgcgmnopggabaaaV1
import Derived.Test.YtgcgmnopggabaaaWBits
import Derived.Test.YtgcgmnopggabaaaMv
import Derived.Deep.RegionLawGrows
import Derived.Deep.RegionLaw
import Derived.RegionTactic
import Derived.BigRegion
namespace Go.Proofs.Ytgcgmnopggabaaa
open Go.RowKit

/-- The writer at block B: V: the slice of its bytes; bs: the bits written. -/
structure WrtAt (w : World) (B : Nat) (V : Value) (bs : List Int) : Prop where
  blk : Two w B 29 V (.int .i64 bs.length)
  row : w.ownsRow (B + 1) 5 1 V ((bs.length + 7) / 8) ((packL bs).map (Value.int .u8))
  bits : Bits bs
  size : bs.length ≤ 1099511627776

/-- The blocks of the writer: they may turn. -/
def WX (B : Nat) (V : Value) (k : Nat) : Prop := k = B ∨ some k = V.ownBlock
/-- A step of the writer: only its blocks turn, and its row is the elder one or a new one. -/
def Turn (B : Nat) (V V' : Value) (w w' : World) : Prop := Save (WX B V) w w' ∧ ∀ k, k < w.heap.size → some k ≠ V.ownBlock → some k ≠ V'.ownBlock
theorem Turn.refl (B : Nat) (V : Value) (w : World) : Turn B V V w w := ⟨Save.refl _ _, fun _ _ h => h⟩
theorem Turn.trans {B : Nat} {V V' V2 : Value} {w w' w2 : World} (h : Turn B V V' w w') (k : Turn B V' V2 w' w2) : Turn B V V2 w w2 :=
  ⟨h.1.trans' k.1 (fun i hi hl => by
    rcases hi with rfl | hi
    · exact .inl rfl
    · exact .inr (Classical.byContradiction fun hne => h.2 i hl hne hi)), fun i hi hne => k.2 i (Nat.lt_of_lt_of_le hi h.1.size) (h.2 i hi hne)⟩
theorem WrtAt.lt {w : World} {B : Nat} {V : Value} {bs : List Int} (h : WrtAt w B V bs) : B < w.heap.size := h.blk.lt
theorem WrtAt.own_lt {w : World} {B : Nat} {V : Value} {bs : List Int} (h : WrtAt w B V bs) : ∀ g, V.ownBlock = some g → B < g ∧ g < w.heap.size := fun g hg => by
  have := h.row.lt g hg
  exact ⟨by omega, this.2⟩
/-- What keeps the writer's blocks keeps the writer. -/
theorem WrtAt.save {w w' : World} {B : Nat} {V : Value} {bs : List Int} (h : WrtAt w B V bs) {X : Nat → Prop} (hs : Save X w w') (hX : ∀ k, WX B V k → ¬ X k) : WrtAt w' B V bs :=
  ⟨h.blk.save hs (hX B (.inl rfl)), ownsRow_save h.row hs (fun g hg => hX g (.inr hg.symm)), h.bits, h.size⟩
theorem WrtAt.below {w w' : World} {B : Nat} {V : Value} {bs : List Int} (h : WrtAt w B V bs) (hb : Below w.heap.size w w') : WrtAt w' B V bs := by
  refine h.save (X := fun k => w.heap.size ≤ k) (Save.of_below hb) (fun k hk => ?_)
  rcases hk with rfl | hk
  · have := h.lt; omega
  · have := (h.own_lt k hk.symm).2; omega

set_option maxRecDepth 100000 in
set_option maxHeartbeats 1000000 in
/-- appendBit where the last byte has room. -/
theorem appendBit_some {w : World} {B g cap N j k : Nat} {bs : List Int} {x : Int} (hx : x = 0 ∨ x = 1) (hb : Bits bs) (hk : bs.length = k) (hj : j = k / 8) (hN : N = j + 1) (hsz : k < 1099511627776) (hu : k % 8 ≠ 0)
    (hT : Two w B 29 (.slice (some ⟨g, 0, none⟩) N cap) (.int .i64 k))
    (hown : w.ownsRow (B + 1) 5 1 (.slice (some ⟨g, 0, none⟩) N cap) N ((padL bs).map (Value.int .u8))) :
    Calls Try.prog 54 #[.pointer (some ⟨B, 0, none⟩), .int .u8 x] w fun e w' => e = .returned (.tuple #[]) ∧
      w' = ((w.setCell ⟨g, j, none⟩ (.int .u8 (byteAt (bs ++ [x]) j))).setCell ⟨B, 1, none⟩ (.int .i64 ((k : Int) + 1))).drew := by
  have c0 := hT.cell0
  have c1 := hT.cell1
  have f1 := hT.frozen 1
  have hgB : g ≠ B := by have := (hown.lt g rfl).1; omega
  have hc0 : w.cell? ⟨g, j, none⟩ = some (.int .u8 (byteAt bs j)) := by
    rw [hown.cellAt j (by omega)]
    subst hj hk
    simp [padL]
  have hf0 := hown.frozenAt j
  have hr0 := byteAt_range hb j
  have hor : bits .or .u8 (byteAt bs j) (IntKind.u8.wrap (x * 2 ^ (7 - (k : Int) % 8).toNat)) = byteAt (bs ++ [x]) j := by
    rw [show (7 - (k : Int) % 8).toNat = 7 - k % 8 by omega]
    subst hj hk; exact put_or hb hx
  have hBg : B ≠ g := fun e => hgB e.symm
  have hx0 : 0 ≤ x ∧ x ≤ 1 := by omega
  have hd : ((k : Int) % 8 == 0) = false := by simp; omega
  have hd2 : (0 : Int) ≤ 7 - (k : Int) % 8 := by omega
  have hd4 : (k : Int).tmod 8 = (k : Int) % 8 := IntWalk.rem_in _ _ (by omega)
  have hd5 : IntKind.i64.wrap (7 - (k : Int) % 8) = 7 - (k : Int) % 8 := IntWalk.i64_in _ (by omega)
  have hd6 : IntKind.i64.wrap ((k : Int) % 8) = (k : Int) % 8 := IntWalk.i64_in _ (by omega)
  have hi0 : (0 : Int) ≤ (N : Int) - 1 := by omega
  have hi1 : (N : Int) - 1 < (N : Int) := by omega
  have hi2 : IntKind.i64.wrap ((N : Int) - 1) = (N : Int) - 1 := IntWalk.i64_in _ (by omega)
  have hi3 : ((N : Int) - 1).toNat = j := by omega
  have hi4 : (1 : Int) ≤ (N : Int) := by omega
  have hi5 : 1 ≤ N := by omega
  have hi6 : 0 < N := by omega
  have hOR := Lib.hid hor
  clear hor hu hj hN hk
  generalize byteAt (bs ++ [x]) j = q at hOR
  generalize byteAt bs j = p at hc0 hr0 hOR
  go_enter Try.func54, Try.ntmps54
  go_wp2_with fail
  go_still_tail 18, (by kernel_rfl)
  change wpList _ _ _ _ _ w.drew
  rw [hOR.out]
  go_wp2_with fail
  go_end0
  exact ⟨rfl, rfl⟩

/-- A row that is written at one of its cells. -/
theorem turn_store {B g : Nat} {V V2 : Value} {w w1 : World} {j : Nat} {u : Value} (h : Turn B V V2 w w1) (hg : V2.ownBlock = some g) : Turn B V V2 w (w1.setCell ⟨g, j, none⟩ u) :=
  ⟨h.1.setCell (fun hl => .inr (Classical.byContradiction fun hne => h.2 g hl hne hg.symm)) _, h.2⟩
theorem turn_blk {B : Nat} {V V2 : Value} {w w1 : World} {j : Nat} {u : Value} (h : Turn B V V2 w w1) : Turn B V V2 w (w1.setCell ⟨B, j, none⟩ u) := ⟨h.1.setCell (fun _ => .inl rfl) _, h.2⟩
theorem Turn.drew {B : Nat} {V V2 : Value} {w w1 : World} (h : Turn B V V2 w w1) : Turn B V V2 w w1.drew := ⟨h.1.drew, h.2⟩
/-- The bit is in, the count is one more: the writer behind appendBit. -/
theorem wrt_put {w w1 : World} {B g cap N j k : Nat} {V : Value} {bs : List Int} {x : Int} (hx : x = 0 ∨ x = 1) (hb : Bits bs) (hk : bs.length = k) (hj : j = k / 8) (hN : N = j + 1) (hsz : k < 1099511627776) (hBg : B < g)
    (hT : Two w1 B 29 (.slice (some ⟨g, 0, none⟩) N cap) (.int .i64 k))
    (hown : w1.ownsRow (B + 1) 5 1 (.slice (some ⟨g, 0, none⟩) N cap) N ((padL bs).map (Value.int .u8))) (ht : Turn B V (.slice (some ⟨g, 0, none⟩) N cap) w w1) :
    WrtAt ((w1.setCell ⟨g, j, none⟩ (.int .u8 (byteAt (bs ++ [x]) j))).setCell ⟨B, 1, none⟩ (.int .i64 ((k : Int) + 1))).drew B (.slice (some ⟨g, 0, none⟩) N cap) (bs ++ [x]) ∧
      Turn B V (.slice (some ⟨g, 0, none⟩) N cap) w ((w1.setCell ⟨g, j, none⟩ (.int .u8 (byteAt (bs ++ [x]) j))).setCell ⟨B, 1, none⟩ (.int .i64 ((k : Int) + 1))).drew := by
  refine ⟨⟨?_, ?_, hb.snoc hx, by simp; omega⟩, (turn_blk (turn_store ht rfl)).drew⟩
  · have := (hT.other (p := ⟨g, j, none⟩) (by simp; omega) (.int .u8 (byteAt (bs ++ [x]) j))).set1 (.int .i64 ((k : Int) + 1))
    rw [List.length_append, hk]
    exact this
  · have h1 := (hown.stored j (.int .u8 (byteAt (bs ++ [x]) j))).1
    have h2 : ((padL bs).map (Value.int .u8)).set j (.int .u8 (byteAt (bs ++ [x]) j)) = (packL (bs ++ [x])).map (Value.int .u8) := by
      subst hj hk
      rw [packL_snoc, List.map_set]
    rw [h2] at h1
    have h3 := h1.kept (grownBy_setCell_at _ ⟨B, 1, none⟩ (.int .i64 ((k : Int) + 1))) (.inr (by simp [Value.ownBlock]; omega))
    rw [show ((bs ++ [x]).length + 7) / 8 = N by simp; omega]
    exact h3

set_option maxRecDepth 100000 in
set_option maxHeartbeats 2000000 in
theorem appendBit_any {w : World} {B : Nat} {V : Value} {bs : List Int} {x : Int} (hx : x = 0 ∨ x = 1) (h : WrtAt w B V bs) (hlt : bs.length < 1099511627776) :
    Calls Try.prog 54 #[.pointer (some ⟨B, 0, none⟩), .int .u8 x] w fun e w' => e = .returned (.tuple #[]) ∧ ∃ V', WrtAt w' B V' (bs ++ [x]) ∧ Turn B V V' w w' := by
  obtain ⟨k, hk⟩ : ∃ k, bs.length = k := ⟨_, rfl⟩
  have hT := h.blk
  have hown := h.row
  have hBl := h.lt
  rw [hk] at hT hown hlt
  by_cases hu : k % 8 = 0
  · obtain ⟨i0, hi, hz0, hz1, hz2⟩ := info_parts Try.info_u8
    have hK := Lib.hid hk
    have hN0 : (k + 7) / 8 = k / 8 := by omega
    rw [hN0] at hown
    obtain ⟨j, hj⟩ : ∃ j, j = k / 8 := ⟨_, rfl⟩
    rw [← hj] at hown
    have c0 := hT.cell0
    have c1 := hT.cell1
    have f0 := hT.frozen 0
    have hd : ((k : Int) % 8 == 0) = true := by simp; omega
    have hO := Lib.hid hown
    have hJ := Lib.hid hj
    have hU := Lib.hid hu
    have hVB : some B ≠ V.ownBlock := fun e => by have := (h.own_lt B e.symm).1; omega
    have hj1 : j ≤ 137438953472 := by omega
    have hor : bits .or .u8 0 (IntKind.u8.wrap (x * 2 ^ (7 - (k : Int) % 8).toNat)) = byteAt (bs ++ [x]) j := by
      rw [show (7 - (k : Int) % 8).toNat = 7 - k % 8 by omega]
      have := put_or h.bits hx
      rw [byteAt_past bs (bs.length / 8) (by omega)] at this
      subst hj hk; exact this
    have hOR := Lib.hid hor
    obtain ⟨q, hq⟩ : ∃ q, q = byteAt (bs ++ [x]) j := ⟨_, rfl⟩
    rw [← hq] at hOR
    have HQ := Lib.hid hq
    have hx0 : 0 ≤ x ∧ x ≤ 1 := by omega
    have hd2 : (0 : Int) ≤ 7 - (k : Int) % 8 := by omega
    have hd4 : (k : Int).tmod 8 = (k : Int) % 8 := IntWalk.rem_in _ _ (by omega)
    have hd5 : IntKind.i64.wrap (7 - (k : Int) % 8) = 7 - (k : Int) % 8 := IntWalk.i64_in _ (by omega)
    have hd6 : IntKind.i64.wrap ((k : Int) % 8) = (k : Int) % 8 := IntWalk.i64_in _ (by omega)
    clear hown hk hj hu hN0 hor hq
    go_enter Try.func54, Try.ntmps54
    go_wp2_with (at_builtin; refine wpList_append_lies _ rfl _ _ 25 rfl (B + 1) 5 i0 (.int .u8 0) 1 1 Try.underlying25 hi hz0 hz1 hz2 rfl (by decide) V j _ rfl (hO.out.alloc _) ⟨w.heap.size, 0, none⟩ 1 1 [.int .u8 0] rfl rfl (cell_one_new _ _ _) (by simp [Value.oneCell']) (by decide) (by unfold maxLen; omega) (by omega) (by simp; omega) (w.heap.size + 1) (by simp) ?_; intro g cap w3 hown3 hgrow3 hat hlt3; have hT3 : Two w3 B 29 V (.int .i64 k) := (hgrow3.block B (by simp; omega) hVB).trans (hT.alloc _); have hA3 := Lib.hid hat; have hG3 := Lib.hid hgrow3; clear hat hgrow3 c0 c1 f0; have e0 := hT3.cell0; have e1 := hT3.cell1; have e2 := hT3.frozen 0; have hgB : B < g := by (have := (hown3.lt g rfl).1; omega))
    obtain ⟨W4, hW4⟩ : ∃ W4, W4 = w3.setCell ⟨B, 0, none⟩ (.slice (some ⟨g, 0, none⟩) (j + 1) cap) := ⟨_, rfl⟩
    rw [← hW4]
    have hT4 : Two W4 B 29 (.slice (some ⟨g, 0, none⟩) (j + 1) cap) (.int .i64 k) := by rw [hW4]; exact hT3.set0 _
    have hown4 : W4.ownsRow (B + 1) 5 1 (.slice (some ⟨g, 0, none⟩) (j + 1) cap) (j + 1) ((padL bs).map (Value.int .u8)) := by
      rw [hW4, padL_aligned (by rw [hK.out]; exact hU.out), List.map_append]
      exact hown3.kept (grownBy_setCell_at _ ⟨B, 0, none⟩ _) (.inr (by simp [Value.ownBlock]; omega))
    have ht4 : Turn B V (.slice (some ⟨g, 0, none⟩) (j + 1) cap) w W4 := by
      rw [hW4]
      refine turn_blk ⟨((Save.refl _ w).alloc _).grown hG3.out (fun i hi hl => .inr hi.symm), fun i hi hne he => ?_⟩
      have he' : i = g := by simpa [Value.ownBlock] using he
      rcases hA3.out with h1 | h1
      · exact hne (by rw [h1, he'])
      · omega
    clear hW4 hT3 hown3 e0 e1 e2 hG3 hA3 hO hlt3 hT
    have hc0 : W4.cell? ⟨g, j, none⟩ = some (.int .u8 0) := by
      rw [hown4.cellAt j (by omega), padL_aligned (by rw [hK.out]; exact hU.out)]
      have : (packL bs).length = j := by rw [packL_length, hK.out, hJ.out]; have := hU.out; omega
      simp [this]
    have hf0 := hown4.frozenAt j
    have c0 := hT4.cell0
    have c1 := hT4.cell1
    have f1 := hT4.frozen 1
    have hBg : B ≠ g := by omega
    have hgB' : g ≠ B := by omega
    have hj0 : (0 : Int) ≤ (j : Int) := by omega
    have hj2 : (j : Int) < (j : Int) + 1 := by omega
    have hj3 : IntKind.i64.wrap (j : Int) = (j : Int) := IntWalk.i64_in _ (by omega)
    go_still_tail 18, (by kernel_rfl)
    change wpList _ _ _ _ _ W4.drew
    rw [hOR.out]
    go_wp2_with fail
    go_end0
    rw [HQ.out]
    exact ⟨rfl, _, wrt_put hx h.bits hK.out hJ.out rfl hlt hgB hT4 hown4 ht4⟩
  · obtain ⟨g, cap, hV, hg1, _⟩ := hown.form (by omega)
    subst hV
    have hN : (k + 7) / 8 = k / 8 + 1 := by omega
    rw [hN] at hown hT
    have hp := padL_not (bs := bs) (by rw [hk]; exact hu)
    rw [← hp] at hown
    refine (appendBit_some hx h.bits hk rfl rfl hlt hu hT hown).mono ?_
    rintro e w' ⟨rfl, rfl⟩
    exact ⟨rfl, _, wrt_put hx h.bits hk rfl rfl hlt (by omega) hT hown (by rw [hN]; exact Turn.refl _ _ _)⟩
end Go.Proofs.Ytgcgmnopggabaaa
