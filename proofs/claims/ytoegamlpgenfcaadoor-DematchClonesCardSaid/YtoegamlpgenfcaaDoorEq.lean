/-
  Equality: of slices of integers (slices.Equal, the reference's Equal), of parameters (made by tools/genEqs12.py).
-/
import Derived.Test.YtoegamlpgenfcaaDoorDh
import Derived.Laws.StructEq
import Derived.KernelRfl
import Derived.Deep.QuietTactic
namespace Go.Proofs.YtoegamlpgenfcaaDoor
open Go.RowKit Go.Shelf

set_option maxRecDepth 100000 in
theorem refEqual_any {A A' : Option Addr} {n c n' c' B B' : Nat} {xs ys : List Int} {w : World} (h : Rd .i64 w B A n xs) (h' : Rd .i64 w B' A' n' ys) (hn : n ≤ 140737488351232) (hn' : n' ≤ 140737488351232) :
    Calls Tryd.prog 34 #[.slice A n c, .slice A' n' c'] w fun e w' => e = .returned (.bool (decide (xs = ys))) ∧ ∃ i, w' = w.drewN i := by
  have hl := Lib.hid h.len
  have hl' := Lib.hid h'.len
  by_cases hnn : n = n'
  · subst hnn
    go_enter Tryd.func34, Tryd.ntmps34
    go_wp2_with fail
    go_loopw [5] (fun i wr => ∃ k j : Nat, k ≤ n ∧ i = .int .i64 k ∧ (xs.take k = ys.take k) ∧ wr = w.drewN j) (fun i _ => n - (intOf i).toNat)
    case atStart => exact ⟨0, 0, Nat.zero_le _, rfl, rfl, rfl⟩
    case round =>
      obtain ⟨k, j, hk, rfl, hv, rfl⟩ := hrel
      have hV := Lib.hid hv; clear hv
      by_cases hlt : k < n
      · obtain ⟨b, off, rfl, hb1, hc⟩ := h.cells k hlt
        obtain ⟨b', off', rfl, hb1', hc'⟩ := h'.cells k hlt
        have hT1 := Lib.hid (take_snoc xs k (by rw [hl.out]; exact hlt) 0)
        have hT2 := Lib.hid (take_snoc ys k (by rw [hl'.out]; exact hlt) 0)
        have hE := Lib.hid (fun e : xs = ys => show xs[k]?.getD 0 = ys[k]?.getD 0 by rw [e])
        generalize xs[k]?.getD 0 = x at *
        generalize ys[k]?.getD 0 = y at *
        have hc2 : World.cell? (w.drewN j) ⟨b, off + k, none⟩ = some (.int .i64 x) := hc
        have hc2' : World.cell? (w.drewN j) ⟨b', off' + k, none⟩ = some (.int .i64 y) := hc'
        have hk0 : (0 : Int) ≤ (k : Int) := by omega
        have hk1 : (k : Int) < (n : Int) := by omega
        clear h h' hb1 hb1'
        by_cases hxy : x = y
        · subst hxy
          go_wp2_with fail
          go_quiet (fail)
          go_wp2_with fail
          go_roundw
          case rel => exact ⟨k + 1, _, by omega, by go_num, by rw [hT1.out, hT2.out, hV.out], by first | rfl | exact drewN_two _ _ _⟩
          case measure => simp [intOf]; omega
        · have hd : (x != y) = true := by simp [hxy]
          have hE2 : Hid (¬ xs = ys) := Lib.hid (fun e => hxy (hE.out e))
          clear hxy
          go_wp2_with fail
          go_quiet (fail)
          go_wp2_with fail
          go_ret
          exact ⟨ret_bool (by simp [hE2.out]), _, by first | rfl | exact drewN_two _ _ _⟩
      · obtain rfl : k = n := by omega
        clear hlt h h'
        go_wp2_with fail
        go_ret
        have e1 := hV.out
        rw [List.take_of_length_le (Nat.le_of_eq hl.out), List.take_of_length_le (Nat.le_of_eq hl'.out)] at e1
        exact ⟨ret_bool (by simp [e1]), j, rfl⟩
  · have hd : ((n : Int) != (n' : Int)) = true := by simp; omega
    have hne : Hid (¬ xs = ys) := Lib.hid (fun e : xs = ys => hnn (by rw [← hl.out, ← hl'.out, e]))
    clear hnn h h'
    go_enter Tryd.func34, Tryd.ntmps34
    go_wp2_with fail
    go_ret
    exact ⟨ret_bool (by simp [hne.out]), 0, rfl⟩
set_option maxRecDepth 100000 in
theorem sliceEqual_any {A A' : Option Addr} {n c n' c' B B' : Nat} {xs ys : List Int} {w : World} (h : Rd .i64 w B A n xs) (h' : Rd .i64 w B' A' n' ys) (hn : n ≤ 140737488351232) (hn' : n' ≤ 140737488351232) :
    Calls Tryd.prog 37 #[.slice A n c, .slice A' n' c'] w fun e w' => e = .returned (.bool (decide (xs = ys))) ∧ ∃ i, w' = w.drewN i := by
  have hl := Lib.hid h.len
  have hl' := Lib.hid h'.len
  by_cases hnn : n = n'
  · subst hnn
    go_enter Tryd.func37, Tryd.ntmps37
    go_wp2_with fail
    go_loopw [13] (fun i wr => ∃ k j : Nat, k ≤ n ∧ i = .int .i64 k ∧ (xs.take k = ys.take k) ∧ wr = w.drewN j) (fun i _ => n - (intOf i).toNat)
    case atStart => exact ⟨0, 0, Nat.zero_le _, rfl, rfl, rfl⟩
    case round =>
      obtain ⟨k, j, hk, rfl, hv, rfl⟩ := hrel
      have hV := Lib.hid hv; clear hv
      by_cases hlt : k < n
      · obtain ⟨b, off, rfl, hb1, hc⟩ := h.cells k hlt
        obtain ⟨b', off', rfl, hb1', hc'⟩ := h'.cells k hlt
        have hT1 := Lib.hid (take_snoc xs k (by rw [hl.out]; exact hlt) 0)
        have hT2 := Lib.hid (take_snoc ys k (by rw [hl'.out]; exact hlt) 0)
        have hE := Lib.hid (fun e : xs = ys => show xs[k]?.getD 0 = ys[k]?.getD 0 by rw [e])
        generalize xs[k]?.getD 0 = x at *
        generalize ys[k]?.getD 0 = y at *
        have hc2 : World.cell? (w.drewN j) ⟨b, off + k, none⟩ = some (.int .i64 x) := hc
        have hc2' : World.cell? (w.drewN j) ⟨b', off' + k, none⟩ = some (.int .i64 y) := hc'
        have hk0 : (0 : Int) ≤ (k : Int) := by omega
        have hk1 : (k : Int) < (n : Int) := by omega
        clear h h' hb1 hb1'
        by_cases hxy : x = y
        · subst hxy
          go_wp2_with fail
          go_quiet (fail)
          go_wp2_with fail
          go_roundw
          case rel => exact ⟨k + 1, _, by omega, by go_num, by rw [hT1.out, hT2.out, hV.out], by first | rfl | exact drewN_two _ _ _⟩
          case measure => simp [intOf]; omega
        · have hd : (x != y) = true := by simp [hxy]
          have hE2 : Hid (¬ xs = ys) := Lib.hid (fun e => hxy (hE.out e))
          clear hxy
          go_wp2_with fail
          go_quiet (fail)
          go_wp2_with fail
          go_ret
          exact ⟨ret_bool (by simp [hE2.out]), _, by first | rfl | exact drewN_two _ _ _⟩
      · obtain rfl : k = n := by omega
        clear hlt h h'
        go_wp2_with fail
        go_ret
        have e1 := hV.out
        rw [List.take_of_length_le (Nat.le_of_eq hl.out), List.take_of_length_le (Nat.le_of_eq hl'.out)] at e1
        exact ⟨ret_bool (by simp [e1]), j, rfl⟩
  · have hd : ((n : Int) != (n' : Int)) = true := by simp; omega
    have hne : Hid (¬ xs = ys) := Lib.hid (fun e : xs = ys => hnn (by rw [← hl.out, ← hl'.out, e]))
    clear hnn h h'
    go_enter Tryd.func37, Tryd.ntmps37
    go_wp2_with fail
    go_ret
    exact ⟨ret_bool (by simp [hne.out]), 0, rfl⟩
theorem eq_par (a b c a' b' c' : Int) (w : World) : (Op.equalIn 10000 47 (.agg #[.int .i64 a, .int .i64 b, .int .i64 c]) (.agg #[.int .i64 a', .int .i64 b', .int .i64 c'])).run Tryd.prog w = .ok (a == a' && b == b' && c == c') w := by
  have u3 := Tryd.underlying3
  have a3 := Tryd.isAgg3
  have z3 := Tryd.sizeOf3
  have hS : Tryd.prog.underlying 47 = some (.struct (Tryd.prog.fieldsOf 47)) := by kernel_rfl
  have hp : Tryd.prog.stoodInHeld 47 = false := by kernel_rfl
  rw [show (10000 : Nat) = 9999 + 1 from rfl, run_equalIn_agg w 9999 47 _ _ hS hp]
  simp only [Program.fieldsOf, Tryd.underlying47]
  go_simp
  by_cases h1 : a = a' <;> by_cases h2 : b = b' <;> by_cases h3 : c = c' <;> simp [h1, h2, h3]
end Go.Proofs.YtoegamlpgenfcaaDoor
