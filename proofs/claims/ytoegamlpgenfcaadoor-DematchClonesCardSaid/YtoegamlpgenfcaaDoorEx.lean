/-
  isSoft, Valid, areBits; slices.Contains of bools; examine. examine.
-/
import Derived.Test.YtoegamlpgenfcaaDoorKq
namespace Go.Proofs.YtoegamlpgenfcaaDoor
/-! ### isSoft, Valid, areBits; slices.Contains of bools; examine. -/
section
open Go.RowKit Go.Shelf

theorem bad_any {x : Int} {w : World} (hK : KLim w) : Calls Tryd.prog 76 #[.int .i64 x] w fun e w' => e = .returned (.bool (!(decide (-127 ≤ x) && decide (x ≤ 127)))) ∧ w' = w := by
  have h := Lib.hid (includes_any (v := x) (lo := -127) (hi := 127) (.inl rfl) hK rfl rfl)
  clear hK
  generalize (decide (-127 ≤ x) && decide (x ≤ 127)) = b at *
  go_enter Tryd.func76, Tryd.ntmps76
  go_wp2_with (refine h.out.mono ?_; rintro e w ⟨rfl, rfl⟩)
  go_ret
  exact ⟨rfl, rfl⟩
theorem any_soft (xs : List Int) : xs.any (fun x => !(decide (-127 ≤ x) && decide (x ≤ 127))) = !(softB xs) := by
  unfold softB
  rw [List.not_all_eq_any_not]
theorem isSoft_any {A : Option Addr} {n c B : Nat} {xs : List Int} {w : World} (hK : KLim w) (h : Rd .i64 w B A n xs) (hn : n ≤ 1000000) :
    Calls Tryd.prog 60 #[.slice A n c] w fun e w' => e = .returned (.bool (softB xs)) ∧ w' = w := by
  have hC := Lib.hid (containsFuncI_any (c := c) (enters_of Tryd.func76 (by kernel_rfl) rfl) (fun x => bad_any (x := x) hK) h (by omega))
  rw [any_soft] at hC
  clear hK h
  go_enter Tryd.func60, Tryd.ntmps60
  go_wp2_with (refine hC.out.mono ?_; rintro e w ⟨rfl, rfl⟩)
  go_ret
  exact ⟨ret_bool (by simp), rfl⟩
theorem Valid_any {A : Option Addr} {n c B : Nat} {xs : List Int} {w : World} (hK : KLim w) (h : Rd .i64 w B A n xs) (hn : n ≤ 1000000) :
    Calls Tryd.prog 39 #[.slice A n c] w fun e w' => e = .returned (.bool (softB xs)) ∧ w' = w := by
  have hC := Lib.hid (isSoft_any (c := c) hK h hn)
  clear hK h
  go_enter Tryd.func39, Tryd.ntmps39
  go_wp2_with (refine hC.out.mono ?_; rintro e w ⟨rfl, rfl⟩)
  go_ret
  exact ⟨rfl, rfl⟩
theorem noBit_any {x : Int} {w : World} : Calls Tryd.prog 69 #[.int .u8 x] w fun e w' => e = .returned (.bool (decide (1 < x))) ∧ w' = w := by
  go_enter Tryd.func69, Tryd.ntmps69
  go_wp2
  go_ret
  exact ⟨rfl, rfl⟩
theorem areBits_any {A : Option Addr} {n c B : Nat} {xs : List Int} {w : World} (h : Rd .u8 w B A n xs) (hn : n ≤ 2000000) :
    Calls Tryd.prog 52 #[.slice A n c] w fun e w' => e = .returned (.bool (validB xs)) ∧ w' = w := by
  have hC := Lib.hid (containsFunc_any (c := c) (enters_of Tryd.func69 (by kernel_rfl) rfl) (fun x => noBit_any (x := x)) h hn)
  rw [any_valid] at hC
  clear h
  go_enter Tryd.func52, Tryd.ntmps52
  go_wp2_with (refine hC.out.mono ?_; rintro e w ⟨rfl, rfl⟩)
  go_ret
  exact ⟨ret_bool (by simp), rfl⟩
/-- A slice of bools that is read. -/
structure RdB (w : World) (A : Option Addr) (n : Nat) (bs : List Bool) : Prop where
  len : bs.length = n
  cells : ∀ k, k < n → ∃ b off, A = some ⟨b, off, none⟩ ∧ b < w.heap.size ∧ w.cell? ⟨b, off + k, none⟩ = some (.bool (bs[k]?.getD false))
theorem RdB.nil_ (w : World) : RdB w none 0 [] := ⟨rfl, fun k h => absurd h (Nat.not_lt_zero k)⟩
theorem RdB.below {w w' : World} {B n : Nat} {A : Option Addr} {bs : List Bool} (h : RdB w A n bs) (hb : Below B w w') (hB : w.heap.size ≤ B) : RdB w' A n bs :=
  ⟨h.len, fun k hk => by
    obtain ⟨b, off, rfl, hl, hc⟩ := h.cells k hk
    exact ⟨b, off, rfl, Nat.lt_of_lt_of_le hl hb.size, (hb.cell (Nat.lt_of_lt_of_le hl hB)).trans hc⟩⟩
theorem RdB.one (w : World) (a : Bool) (t : TypeId) : RdB (w.alloc (.cells #[.bool a] t)) (some ⟨w.heap.size, 0, none⟩) 1 [a] := by
  refine ⟨rfl, fun k hk => ⟨w.heap.size, 0, rfl, by simp, ?_⟩⟩
  obtain rfl : k = 0 := by omega
  have h1 : (w.alloc (.cells #[.bool a] t)).heap[w.heap.size]? = some (.cells #[.bool a] t) := World.alloc_heap_new w _
  simp only [World.cell?, h1, Nat.zero_add]
  rfl
theorem RdB.two (w : World) (a b : Bool) (t : TypeId) : RdB (w.alloc (.cells #[.bool a, .bool b] t)) (some ⟨w.heap.size, 0, none⟩) 2 [a, b] := by
  refine ⟨rfl, fun k hk => ⟨w.heap.size, 0, rfl, by simp, ?_⟩⟩
  have h1 : (w.alloc (.cells #[.bool a, .bool b] t)).heap[w.heap.size]? = some (.cells #[.bool a, .bool b] t) := World.alloc_heap_new w _
  simp only [World.cell?, h1, Nat.zero_add]
  obtain rfl | rfl : k = 0 ∨ k = 1 := by omega
  all_goals rfl
end

/-! ### examine. -/
section
open Go.RowKit Go.Shelf

def exOk (A : Option Addr) (n c : Nat) : Value := .agg #[.slice A n c, .bool true]
def exNo : Value := .agg #[.slice none 0 0, .bool false]
end
end Go.Proofs.YtoegamlpgenfcaaDoor
