/-
  requireBits.
-/
import Derived.Test.YtkdodmjhpkfhnaaDoorBd
namespace Go.Proofs.YtkdodmjhpkfhnaaDoor
open Go.RowKit

theorem bit_any {x : Int} {w : World} :
    Calls Tryd.prog 57 #[.int .u8 x] w fun e w' => e = .returned (.bool (decide (1 < x))) ∧ w' = w := by
  go_enter Tryd.func57, Tryd.ntmps57
  go_wp2
  go_ret
  exact ⟨rfl, rfl⟩
def funV (f : Nat) : Value := .func (.func f) #[] #[]
set_option maxHeartbeats 1000000 in
theorem indexFunc_any {A : Option Addr} {n c B : Nat} {xs : List Int} {w : World} (h : Rd .u8 w B A n xs) (hx : Byte xs) (hn : n ≤ 1000000) :
    Calls Tryd.prog 64 #[.slice A n c, .func (.func 57) #[] #[]] w fun e w' => (∃ k : Int, e = .returned (.int .i64 k) ∧ decide (0 ≤ k) = !(validB xs)) ∧ w' = w := by
  have hl := Lib.hid h.len
  have hb := Lib.hid (fun (x : Int) => bit_any (x := x) (w := w))
  have eG : ∀ args w, (callFunc 57 args).run Tryd.prog w = .ok (.enter 57 args) w := enters_of Tryd.func57 (by kernel_rfl) rfl
  go_enter Tryd.func64, Tryd.ntmps64
  go_wp2_with fail
  go_loop [8] (fun i => ∃ k : Nat, k ≤ n ∧ i = .int .i64 k ∧ validB (xs.take k) = true) (fun i => n - (intOf i).toNat)
  case atStart => exact ⟨0, Nat.zero_le _, rfl, rfl⟩
  case round =>
    obtain ⟨k, hk, rfl, hv⟩ := hrel
    have hV := Lib.hid hv; clear hv
    by_cases hlt : k < n
    · obtain ⟨b, off, rfl, _, hc⟩ := h.cells k hlt
      have hS := Lib.hid (take_snoc xs k (by rw [hl.out]; exact hlt) 0)
      have hB := hx k
      have hbk := Lib.hid (hb.out (xs[k]?.getD 0))
      by_cases h1 : 1 < xs[k]?.getD 0
      · have hd : decide (1 < xs[k]?.getD 0) = true := decide_eq_true h1
        have hbad : Hid (validB xs = false) := Lib.hid (by
          have : validB (xs.take (k + 1)) = false := by rw [hS.out, validB_snoc]; simp; intro _; exact h1
          exact validB_prefix this)
        go_wp2_with (go_at_call 57; refine hbk.out.mono ?_; rintro e w1 ⟨rfl, rfl⟩)
        go_ret
        exact ⟨⟨_, rfl, by rw [hbad.out]; simp⟩, rfl⟩
      · have hd : decide (1 < xs[k]?.getD 0) = false := decide_eq_false h1
        go_wp2_with (go_at_call 57; refine hbk.out.mono ?_; rintro e w1 ⟨rfl, rfl⟩)
        go_round
        case rel => exact ⟨k + 1, by omega, by go_num, by rw [hS.out, validB_snoc, hV.out]; simp; omega⟩
        case measure => simp [intOf]; omega
    · obtain rfl : k = n := by omega
      rw [← hl.out, List.take_length] at hV
      go_wp2_with fail
      go_ret
      exact ⟨⟨_, rfl, by rw [hV.out]; rfl⟩, rfl⟩
theorem containsFunc_any {A : Option Addr} {n c B : Nat} {xs : List Int} {w : World} (h : Rd .u8 w B A n xs) (hx : Byte xs) (hn : n ≤ 1000000) :
    Calls Tryd.prog 56 #[.slice A n c, .func (.func 57) #[] #[]] w fun e w' => e = .returned (.bool (!(validB xs))) ∧ w' = w := by
  have hi := Lib.hid (indexFunc_any (c := c) h hx hn)
  go_enter Tryd.func56, Tryd.ntmps56
  go_wp2_with fail
  refine hi.out.mono ?_
  rintro e w1 ⟨⟨k, rfl, hk⟩, rfl⟩
  have HK := Lib.hid hk
  clear hk
  go_wp2_with fail
  go_ret
  exact ⟨ret_bool HK.out, rfl⟩
set_option maxHeartbeats 1000000 in
theorem requireBits_any {A : Option Addr} {n c B : Nat} {rows : List BRow} {w : World} (h : Rds w B A n rows) (hn : n ≤ 1000000) (hx : ∀ r ∈ rows, Byte r.xs ∧ r.n ≤ 1000000) :
    Calls Tryd.prog 39 #[.slice A n c] w fun e w' => e = (if rows.all (fun r => validB r.xs) = true then .returned (.tuple #[]) else .panicked [{ v := failV 3, recovered := false }]) ∧ w' = w := by
  have hl := Lib.hid h.len
  have hcf := Lib.hid (fun (A : Option Addr) (n c B : Nat) (xs : List Int) => containsFunc_any (A := A) (n := n) (c := c) (B := B) (xs := xs) (w := w))
  obtain ⟨post, hpost⟩ : ∃ post : Ending, (if rows.all (fun r => validB r.xs) = true then .returned (.tuple #[]) else .panicked [{ v := failV 3, recovered := false }]) = post := ⟨_, rfl⟩
  rw [hpost]
  have hok : Hid (rows.all (fun r => validB r.xs) = true → post = .returned (.tuple #[])) := Lib.hid (fun e => by rw [← hpost, if_pos e])
  have hno : Hid (rows.all (fun r => validB r.xs) = false → post = .panicked [{ v := failV 3, recovered := false }]) := Lib.hid (fun e => by rw [← hpost, if_neg (by rw [e]; decide)])
  clear hpost
  go_enter Tryd.func39, Tryd.ntmps39
  go_wp2_with fail
  go_loop [6] (fun i => ∃ k : Nat, k ≤ n ∧ i = .int .i64 k ∧ (rows.take k).all (fun r => validB r.xs) = true) (fun i => n - (intOf i).toNat)
  case atStart => exact ⟨0, Nat.zero_le _, rfl, rfl⟩
  case round =>
    obtain ⟨k, hk, rfl, hv⟩ := hrel
    have hV := Lib.hid hv; clear hv
    by_cases hlt : k < n
    · obtain ⟨b, off, r, rfl, _, hr, hc, hR⟩ := h.cells k hlt
      obtain ⟨hB, hrn⟩ := hx r (List.mem_of_getElem? hr)
      have hck := Lib.hid (hcf.out r.a r.n r.c B r.xs hR hB hrn)
      have HR := Lib.hid hr
      clear hr
      cases hval : validB r.xs
      · have hbad := Lib.hid (hno.out (all_bad HR.out hval))
        rw [hval] at hck
        clear hval
        go_wp2_with (first | (go_at_call 56; refine hck.out.mono ?_; rintro e w1 ⟨rfl, rfl⟩) | (go_at_call 31; refine require_no.mono ?_; rintro e w2 ⟨rfl, rfl⟩))
        exact ⟨rfl, hbad.out.symm, rfl⟩
      · rw [hval] at hck
        have hT := Lib.hid (all_take_succ HR.out hV.out hval)
        clear hval
        go_wp2_with (first | (go_at_call 56; refine hck.out.mono ?_; rintro e w1 ⟨rfl, rfl⟩) | (go_at_call 31; refine require_ok.mono ?_; rintro e w2 ⟨rfl, rfl⟩))
        go_round
        case rel => exact ⟨k + 1, by omega, by go_num, hT.out⟩
        case measure => simp [intOf]; omega
    · obtain rfl : k = n := by omega
      rw [← hl.out, List.take_length] at hV
      have hgood := Lib.hid (hok.out hV.out)
      go_wp2_with fail
      go_end0
      exact ⟨hgood.out.symm, rfl⟩
end Go.Proofs.YtkdodmjhpkfhnaaDoor
