/-
  slices.IndexFunc, ContainsFunc at bytes and at a list of integers, for any predicate; slices.
-/
import Derived.Test.YtoegamlpgenfcaaDoorApp
import Derived.Test.YtoegamlpgenfcaaDoorQ
import Derived.Shelf.Abstract
import Derived.Test.YtoegamlpgenfcaaDoorGn
import Derived.Test.YtoegamlpgenfcaaDoorDmM
namespace Go.Proofs.YtoegamlpgenfcaaDoor
open Go.RowKit Go.Shelf

/-- A literal of bytes. -/
theorem lit_rd {w : World} (xs : List Int) (t : TypeId) : Rd .u8 (w.alloc (.cells (xs.map (Value.int .u8)).toArray t)) (w.alloc (.cells (xs.map (Value.int .u8)).toArray t)).heap.size (some ⟨w.heap.size, 0, none⟩) xs.length xs :=
  (rd_lit w xs t).more (by simp)
theorem own_low {w1 w2 : World} {t : TypeId} {A : Option Addr} {n c : Nat} {xs : List Value} (h : w2.ownsRow w1.heap.size t 1 (.slice A n c) n xs) (hn : 0 < n) : ∀ a, A = some a → w1.heap.size ≤ a.block ∧ a.block < w2.heap.size := by
  rintro a rfl
  obtain ⟨g, cap, h1, h2, h3⟩ := h.form hn
  injection h1 with h1
  injection h1 with h1
  subst h1
  exact ⟨h2, h3⟩
theorem own_step {w w' : World} {base n : Nat} {t : TypeId} {V : Value} {xs : List Value} (h : w.ownsRow base t 1 V n xs) (hb : Below w.heap.size w w') : w'.ownsRow base t 1 V n xs :=
  ownsRow_save h (Save.of_below (X := fun i => w.heap.size ≤ i) hb) (fun g hg => by have := (h.lt g hg).2; omega)
theorem slice_front {A : Option Addr} {n c m : Nat} (hm : m ≤ c) (u : World) : (Instr.slice 58 (.slice A n c) none (some (.int .i64 (m : Int))) none).run Tryd.prog u = .ok (.slice A m c) u := by
  rcases A with _ | a
  · simp [Instr.slice, Instr.sliceBounds, Instr.sliceBound, run_underlying Tryd.underlying58, asIntOf, go_sem, hm]
  · simp [Instr.slice, Instr.sliceBounds, Instr.sliceBound, run_underlying Tryd.underlying58, asIntOf, go_sem, hm]
theorem Rd.take {q : IntKind} {w : World} {B n : Nat} {A : Option Addr} {xs : List Int} (h : Rd q w B A n xs) {m : Nat} (hm : m ≤ n) : Rd q w B A m (xs.take m) := by
  refine ⟨by rw [List.length_take, h.len]; omega, fun k hk => ?_⟩
  obtain ⟨b, off, e, hb, hc⟩ := h.cells k (by omega)
  exact ⟨b, off, e, hb, by rw [hc, List.getElem?_take, if_pos hk]⟩
theorem Byte.take {xs : List Int} (h : Byte xs) (m : Nat) : Byte (xs.take m) := Byte.of_mem fun x hx => h.mem x (List.mem_of_mem_take hx)
theorem Two.below {w w' : World} {B N : Nat} {t : TypeId} {x y : Value} (h : Two w B t x y) (hb : Below N w w') (hB : B < N) : Two w' B t x y := (hb.block B hB).trans h
theorem bits_valid {xs : List Int} (h : Bits xs) : validB xs = true := by
  unfold validB
  rw [List.all_eq_true]
  intro x hx
  rcases h x hx with rfl | rfl <;> decide
theorem NewB.nil_ {w w' : World} {A : Option Addr} (hb : Below w.heap.size w w') : NewB w A [] none w' := ⟨Rd.nil _ _ _ _, fun a ha => by (cases ha), hb⟩

theorem any_snoc {p : Int → Bool} {xs : List Int} {k : Nat} {x : Int} {ys : List Int} (h : xs.take (k + 1) = ys ++ [x]) : (xs.take (k + 1)).any p = (ys.any p || p x) := by rw [h]; simp
theorem any_prefix {p : Int → Bool} {xs : List Int} {k : Nat} (h : (xs.take k).any p = true) : xs.any p = true := by
  rw [List.any_eq_true] at h ⊢
  obtain ⟨x, hx, hp⟩ := h
  exact ⟨x, List.mem_of_mem_take hx, hp⟩
set_option maxHeartbeats 1000000 in
theorem indexFunc_any {G : Nat} {p : Int → Bool} {A : Option Addr} {n c B : Nat} {xs : List Int} {w : World} (eG : ∀ args w, (callFunc G args).run Tryd.prog w = .ok (.enter G args) w) (hG : ∀ x, Calls Tryd.prog G #[.int .u8 x] w fun e w' => e = .returned (.bool (p x)) ∧ w' = w) (h : Rd .u8 w B A n xs) (hn : n ≤ 2000000) :
    Calls Tryd.prog 67 #[.slice A n c, .func (.func G) #[] #[]] w fun e w' => (∃ k : Int, e = .returned (.int .i64 k) ∧ decide (0 ≤ k) = xs.any p) ∧ w' = w := by
  have hl := Lib.hid h.len
  have hb := Lib.hid hG
  clear hG
  go_enter Tryd.func67, Tryd.ntmps67
  go_wp2_with fail
  go_loop [8] (fun i => ∃ k : Nat, k ≤ n ∧ i = .int .i64 k ∧ (xs.take k).any p = false) (fun i => n - (intOf i).toNat)
  case atStart => exact ⟨0, Nat.zero_le _, rfl, rfl⟩
  case round =>
    obtain ⟨k, hk, rfl, hv⟩ := hrel
    have hV := Lib.hid hv; clear hv
    by_cases hlt : k < n
    · obtain ⟨b, off, rfl, _, hc⟩ := h.cells k hlt
      have hS := Lib.hid (any_snoc (p := p) (take_snoc xs k (by rw [hl.out]; exact hlt) 0))
      have hbk := Lib.hid (hb.out (xs[k]?.getD 0))
      generalize xs[k]?.getD 0 = x at *
      cases hx : p x
      · have HX := Lib.hid hx
        rw [hx] at hbk
        clear hx
        go_wp2_with (refine hbk.out.mono ?_; rintro e w1 ⟨rfl, rfl⟩)
        go_round
        case rel => exact ⟨k + 1, by omega, by go_num, by rw [hS.out, hV.out, HX.out]; rfl⟩
        case measure => simp [intOf]; omega
      · have HX := Lib.hid hx
        rw [hx] at hbk
        clear hx
        go_wp2_with (refine hbk.out.mono ?_; rintro e w1 ⟨rfl, rfl⟩)
        go_ret
        have hbad : xs.any p = true := any_prefix (k := k + 1) (by rw [hS.out, HX.out]; simp)
        exact ⟨⟨_, rfl, by rw [hbad]; simp⟩, rfl⟩
    · obtain rfl : k = n := by omega
      rw [← hl.out, List.take_length] at hV
      go_wp2_with fail
      go_ret
      exact ⟨⟨_, rfl, by rw [hV.out]; rfl⟩, rfl⟩
theorem containsFunc_any {G : Nat} {p : Int → Bool} {A : Option Addr} {n c B : Nat} {xs : List Int} {w : World} (eG : ∀ args w, (callFunc G args).run Tryd.prog w = .ok (.enter G args) w) (hG : ∀ x, Calls Tryd.prog G #[.int .u8 x] w fun e w' => e = .returned (.bool (p x)) ∧ w' = w) (h : Rd .u8 w B A n xs) (hn : n ≤ 2000000) :
    Calls Tryd.prog 48 #[.slice A n c, .func (.func G) #[] #[]] w fun e w' => e = .returned (.bool (xs.any p)) ∧ w' = w := by
  have hi := Lib.hid (indexFunc_any (c := c) eG hG h hn)
  clear hG
  go_enter Tryd.func48, Tryd.ntmps48
  go_wp2_with fail
  refine hi.out.mono ?_
  rintro e w1 ⟨⟨k, rfl, hk⟩, rfl⟩
  have HK := Lib.hid hk
  clear hk
  go_wp2_with fail
  go_ret
  exact ⟨ret_bool HK.out, rfl⟩
set_option maxHeartbeats 1000000 in
theorem indexFuncI_any {G : Nat} {p : Int → Bool} {A : Option Addr} {n c B : Nat} {xs : List Int} {w : World} (eG : ∀ args w, (callFunc G args).run Tryd.prog w = .ok (.enter G args) w) (hG : ∀ x, Calls Tryd.prog G #[.int .i64 x] w fun e w' => e = .returned (.bool (p x)) ∧ w' = w) (h : Rd .i64 w B A n xs) (hn : n ≤ 2000000) :
    Calls Tryd.prog 85 #[.slice A n c, .func (.func G) #[] #[]] w fun e w' => (∃ k : Int, e = .returned (.int .i64 k) ∧ decide (0 ≤ k) = xs.any p) ∧ w' = w := by
  have hl := Lib.hid h.len
  have hb := Lib.hid hG
  clear hG
  go_enter Tryd.func85, Tryd.ntmps85
  go_wp2_with fail
  go_loop [8] (fun i => ∃ k : Nat, k ≤ n ∧ i = .int .i64 k ∧ (xs.take k).any p = false) (fun i => n - (intOf i).toNat)
  case atStart => exact ⟨0, Nat.zero_le _, rfl, rfl⟩
  case round =>
    obtain ⟨k, hk, rfl, hv⟩ := hrel
    have hV := Lib.hid hv; clear hv
    by_cases hlt : k < n
    · obtain ⟨b, off, rfl, _, hc⟩ := h.cells k hlt
      have hS := Lib.hid (any_snoc (p := p) (take_snoc xs k (by rw [hl.out]; exact hlt) 0))
      have hbk := Lib.hid (hb.out (xs[k]?.getD 0))
      generalize xs[k]?.getD 0 = x at *
      cases hx : p x
      · have HX := Lib.hid hx
        rw [hx] at hbk
        clear hx
        go_wp2_with (refine hbk.out.mono ?_; rintro e w1 ⟨rfl, rfl⟩)
        go_round
        case rel => exact ⟨k + 1, by omega, by go_num, by rw [hS.out, hV.out, HX.out]; rfl⟩
        case measure => simp [intOf]; omega
      · have HX := Lib.hid hx
        rw [hx] at hbk
        clear hx
        go_wp2_with (refine hbk.out.mono ?_; rintro e w1 ⟨rfl, rfl⟩)
        go_ret
        have hbad : xs.any p = true := any_prefix (k := k + 1) (by rw [hS.out, HX.out]; simp)
        exact ⟨⟨_, rfl, by rw [hbad]; simp⟩, rfl⟩
    · obtain rfl : k = n := by omega
      rw [← hl.out, List.take_length] at hV
      go_wp2_with fail
      go_ret
      exact ⟨⟨_, rfl, by rw [hV.out]; rfl⟩, rfl⟩
theorem containsFuncI_any {G : Nat} {p : Int → Bool} {A : Option Addr} {n c B : Nat} {xs : List Int} {w : World} (eG : ∀ args w, (callFunc G args).run Tryd.prog w = .ok (.enter G args) w) (hG : ∀ x, Calls Tryd.prog G #[.int .i64 x] w fun e w' => e = .returned (.bool (p x)) ∧ w' = w) (h : Rd .i64 w B A n xs) (hn : n ≤ 2000000) :
    Calls Tryd.prog 75 #[.slice A n c, .func (.func G) #[] #[]] w fun e w' => e = .returned (.bool (xs.any p)) ∧ w' = w := by
  have hi := Lib.hid (indexFuncI_any (c := c) eG hG h hn)
  clear hG
  go_enter Tryd.func75, Tryd.ntmps75
  go_wp2_with fail
  refine hi.out.mono ?_
  rintro e w1 ⟨⟨k, rfl, hk⟩, rfl⟩
  have HK := Lib.hid hk
  clear hk
  go_wp2_with fail
  go_ret
  exact ⟨ret_bool HK.out, rfl⟩
theorem any_valid (xs : List Int) : xs.any (fun x => decide (1 < x)) = !(validB xs) := by
  unfold validB
  induction xs with
  | nil => rfl
  | cons x xs ih =>
    rw [List.any_cons, List.all_cons, ih, Bool.not_and]
    congr 1
    by_cases h : x ≤ 1
    · rw [decide_eq_true h, decide_eq_false (by omega)]; rfl
    · rw [decide_eq_false h, decide_eq_true (by omega)]; rfl
end Go.Proofs.YtoegamlpgenfcaaDoor
