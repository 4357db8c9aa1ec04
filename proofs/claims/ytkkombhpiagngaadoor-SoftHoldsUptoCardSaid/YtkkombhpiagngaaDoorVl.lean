/-
  isSoft, Valid, areBits; slices.Contains of bools; examine.
-/
import Derived.Test.YtkkombhpiagngaaDoorKq
namespace Go.Proofs.YtkkombhpiagngaaDoor
open Go.RowKit Go.Shelf

theorem bad_any {x : Int} {w : World} (hK : Kinds w) : Calls Tryd.prog 50 #[.int .i64 x] w fun e w' => e = .returned (.bool (!(decide (-127 ≤ x) && decide (x ≤ 127)))) ∧ w' = w := by
  have h := Lib.hid (includes_any (v := x) (lo := -127) (hi := 127) (.inl rfl) hK rfl rfl)
  clear hK
  generalize (decide (-127 ≤ x) && decide (x ≤ 127)) = b at *
  go_enter Tryd.func50, Tryd.ntmps50
  go_wp2_with (refine h.out.mono ?_; rintro e w ⟨rfl, rfl⟩)
  go_ret
  exact ⟨rfl, rfl⟩
theorem any_soft (xs : List Int) : xs.any (fun x => !(decide (-127 ≤ x) && decide (x ≤ 127))) = !(softB xs) := by
  unfold softB
  rw [List.not_all_eq_any_not]
theorem isSoft_any {A : Option Addr} {n c B : Nat} {xs : List Int} {w : World} (hK : Kinds w) (h : Rd .i64 w B A n xs) (hn : n ≤ 1000000) :
    Calls Tryd.prog 36 #[.slice A n c] w fun e w' => e = .returned (.bool (softB xs)) ∧ w' = w := by
  have hC := Lib.hid (containsFuncI_any (c := c) (enters_of Tryd.func50 (by kernel_rfl) rfl) (fun x => bad_any (x := x) hK) h (by omega))
  rw [any_soft] at hC
  clear hK h
  go_enter Tryd.func36, Tryd.ntmps36
  go_wp2_with (refine hC.out.mono ?_; rintro e w ⟨rfl, rfl⟩)
  go_ret
  exact ⟨ret_bool (by simp), rfl⟩
theorem Valid_any {A : Option Addr} {n c B : Nat} {xs : List Int} {w : World} (hK : Kinds w) (h : Rd .i64 w B A n xs) (hn : n ≤ 1000000) :
    Calls Tryd.prog 19 #[.slice A n c] w fun e w' => e = .returned (.bool (softB xs)) ∧ w' = w := by
  have hC := Lib.hid (isSoft_any (c := c) hK h hn)
  clear hK h
  go_enter Tryd.func19, Tryd.ntmps19
  go_wp2_with (refine hC.out.mono ?_; rintro e w ⟨rfl, rfl⟩)
  go_ret
  exact ⟨rfl, rfl⟩
theorem noBit_any {x : Int} {w : World} : Calls Tryd.prog 52 #[.int .u8 x] w fun e w' => e = .returned (.bool (decide (1 < x))) ∧ w' = w := by
  go_enter Tryd.func52, Tryd.ntmps52
  go_wp2
  go_ret
  exact ⟨rfl, rfl⟩
theorem areBits_any {A : Option Addr} {n c B : Nat} {xs : List Int} {w : World} (h : Rd .u8 w B A n xs) (hn : n ≤ 2000000) :
    Calls Tryd.prog 42 #[.slice A n c] w fun e w' => e = .returned (.bool (validB xs)) ∧ w' = w := by
  have hC := Lib.hid (containsFunc_any (c := c) (enters_of Tryd.func52 (by kernel_rfl) rfl) (fun x => noBit_any (x := x)) h hn)
  rw [any_valid] at hC
  clear h
  go_enter Tryd.func42, Tryd.ntmps42
  go_wp2_with (refine hC.out.mono ?_; rintro e w ⟨rfl, rfl⟩)
  go_ret
  exact ⟨ret_bool (by simp), rfl⟩
/-- A slice of bools that is read. -/
structure RdB (w : World) (A : Option Addr) (n : Nat) (bs : List Bool) : Prop where
  len : bs.length = n
  cells : ∀ k, k < n → ∃ b off, A = some ⟨b, off, none⟩ ∧ b < w.heap.size ∧ w.cell? ⟨b, off + k, none⟩ = some (.bool (bs[k]?.getD false))
theorem RdB.nil_ (w : World) : RdB w none 0 [] := ⟨rfl, fun k h => absurd h (Nat.not_lt_zero k)⟩
theorem RdB.below {w w' : World} {B n : Nat} {A : Option Addr} {bs : List Bool} (h : RdB w A n bs) (hb : Below B w w') (hB : w.heap.size ≤ B) : RdB w' A n bs :=
  ⟨h.len, fun k hk => by
    obtain ⟨b, off, rfl, hl, hc⟩ := h.cells k hk
    exact ⟨b, off, rfl, Nat.lt_of_lt_of_le hl hb.size, (hb.cell (Nat.lt_of_lt_of_le hl hB)).trans hc⟩⟩
theorem RdB.one (w : World) (a : Bool) (t : TypeId) : RdB (w.alloc (.cells #[.bool a] t)) (some ⟨w.heap.size, 0, none⟩) 1 [a] := by
  refine ⟨rfl, fun k hk => ⟨w.heap.size, 0, rfl, by simp, ?_⟩⟩
  obtain rfl : k = 0 := by omega
  have h1 : (w.alloc (.cells #[.bool a] t)).heap[w.heap.size]? = some (.cells #[.bool a] t) := World.alloc_heap_new w _
  simp only [World.cell?, h1, Nat.zero_add]
  rfl
theorem RdB.two (w : World) (a b : Bool) (t : TypeId) : RdB (w.alloc (.cells #[.bool a, .bool b] t)) (some ⟨w.heap.size, 0, none⟩) 2 [a, b] := by
  refine ⟨rfl, fun k hk => ⟨w.heap.size, 0, rfl, by simp, ?_⟩⟩
  have h1 : (w.alloc (.cells #[.bool a, .bool b] t)).heap[w.heap.size]? = some (.cells #[.bool a, .bool b] t) := World.alloc_heap_new w _
  simp only [World.cell?, h1, Nat.zero_add]
  obtain rfl | rfl : k = 0 ∨ k = 1 := by omega
  all_goals rfl
theorem indexB_any {A : Option Addr} {n c : Nat} {bs : List Bool} {w : World} (h : RdB w A n bs) (hn : n ≤ 1000) :
    Calls Tryd.prog 55 #[.slice A n c, .bool false] w fun e w' => (∃ r : Int, e = .returned (.int .i64 r) ∧ decide (0 ≤ r) = bs.any (fun x => !x)) ∧ w' = w := by
  have hl := Lib.hid h.len
  go_enter Tryd.func55, Tryd.ntmps55
  go_wp2_with fail
  go_loop [8] (fun i => ∃ k : Nat, k ≤ n ∧ i = .int .i64 (k : Int) ∧ (bs.take k).any (fun x => !x) = false) (fun i => n - (intOf i).toNat)
  case atStart => exact ⟨0, Nat.zero_le _, rfl, rfl⟩
  case round =>
    obtain ⟨k, hk, rfl, hv⟩ := hrel
    have hV := Lib.hid hv; clear hv
    by_cases hlt : k < n
    · obtain ⟨b, off, rfl, _, hc⟩ := h.cells k hlt
      have hS := Lib.hid (take_snoc bs k (by rw [hl.out]; exact hlt) false)
      generalize bs[k]?.getD false = x at *
      cases x
      · go_wp2_with fail
        go_ret
        refine ⟨⟨_, rfl, ?_⟩, rfl⟩
        have : bs.any (fun x => !x) = true := by
          rw [List.any_eq_true]
          exact ⟨false, List.mem_of_mem_take (i := k + 1) (by rw [hS.out]; simp), rfl⟩
        rw [this]
        simp
      · go_wp2_with fail
        go_round
        case rel => exact ⟨k + 1, by omega, by go_num, by rw [hS.out, List.any_append, hV.out]; rfl⟩
        case measure => simp [intOf]; omega
    · obtain rfl : k = n := by omega
      rw [← hl.out, List.take_length] at hV
      go_wp2_with fail
      go_ret
      exact ⟨⟨_, rfl, by rw [hV.out]; rfl⟩, rfl⟩
theorem containsB_any {A : Option Addr} {n c : Nat} {bs : List Bool} {w : World} (h : RdB w A n bs) (hn : n ≤ 1000) :
    Calls Tryd.prog 48 #[.slice A n c, .bool false] w fun e w' => e = .returned (.bool (bs.any (fun x => !x))) ∧ w' = w := by
  have hI := Lib.hid (indexB_any (c := c) h hn)
  clear h
  go_enter Tryd.func48, Tryd.ntmps48
  go_wp2_with (go_at_call 55; refine hI.out.mono ?_; rintro e w ⟨⟨r, rfl, hr⟩, rfl⟩)
  go_ret
  exact ⟨ret_bool (by first | exact hr | rfl), rfl⟩
theorem examine_results {W : World} {tmps : Array Value} {B : Nat} {x y : Value} {k : Int} {t : TypeId} (h4 : tmps.getD 4 undef = .pointer (some ⟨B, 0, none⟩)) (h5 : tmps.getD 5 undef = .int .i64 k) (hT : Two W B t x y) :
    (results Tryd.f33 tmps).run Tryd.prog W = .ok (.tuple #[.agg #[x, y], .int .i64 k]) W := by
  have c0 := hT.cell0
  have c1 := hT.cell1
  simp only [Array.getD_eq_getD_getElem?] at h4 h5
  simp [results, Tryd.results33, go_sem, h4, h5, c0, c1]
end Go.Proofs.YtkkombhpiagngaaDoor
