/-
  The law's num, same, is; works.
-/
import Derived.Test.YtkkombhpiagngaaDoorRh
namespace Go.Proofs.YtkkombhpiagngaaDoor
open Go.RowKit Go.Shelf

theorem num_any {e : Int} {w : World} : Calls Tryd.prog 18 #[.int .i64 e] w fun r w' => r = .returned (.int .i64 e) ∧ w' = w := by
  go_enter Tryd.func18, Tryd.ntmps18
  go_wp2
  go_ret
  exact ⟨rfl, rfl⟩
set_option maxHeartbeats 1000000 in
/-- The law's same. -/
theorem sameI_any {A A' : Option Addr} {n c n' c' B B' : Nat} {xs ys : List Int} {w : World} (h : Rd .i64 w B A n xs) (h' : Rd .i64 w B' A' n' ys) (hn : n ≤ 140737488351232) (hn' : n' ≤ 140737488351232) :
    Calls Tryd.prog 17 #[.slice A n c, .slice A' n' c'] w fun e w' => e = .returned (.bool (decide (xs = ys))) ∧ ∃ i, w' = w.drewN i := by
  have hl := Lib.hid h.len
  have hl' := Lib.hid h'.len
  by_cases hnn : n = n'
  · subst hnn
    go_enter Tryd.func17, Tryd.ntmps17
    go_wp2_with fail
    go_loopw [5] (fun i wr => ∃ k j : Nat, k ≤ n ∧ i = .int .i64 k ∧ (xs.take k = ys.take k) ∧ wr = w.drewN j) (fun i _ => n - (intOf i).toNat)
    case atStart => exact ⟨0, 0, Nat.zero_le _, rfl, rfl, rfl⟩
    case round =>
      obtain ⟨k, j, hk, rfl, hv, rfl⟩ := hrel
      have hV := Lib.hid hv; clear hv
      by_cases hlt : k < n
      · obtain ⟨b, off, rfl, hb1, hc⟩ := h.cells k hlt
        obtain ⟨b', off', rfl, hb1', hc'⟩ := h'.cells k hlt
        have hT1 := Lib.hid (take_snoc xs k (by rw [hl.out]; exact hlt) 0)
        have hT2 := Lib.hid (take_snoc ys k (by rw [hl'.out]; exact hlt) 0)
        have hE := Lib.hid (fun e : xs = ys => show xs[k]?.getD 0 = ys[k]?.getD 0 by rw [e])
        generalize xs[k]?.getD 0 = x at *
        generalize ys[k]?.getD 0 = y at *
        have hc2 : World.cell? (w.drewN j) ⟨b, off + k, none⟩ = some (.int .i64 x) := hc
        have hc2' : World.cell? (w.drewN j) ⟨b', off' + k, none⟩ = some (.int .i64 y) := hc'
        have hk0 : (0 : Int) ≤ (k : Int) := by omega
        have hk1 : (k : Int) < (n : Int) := by omega
        clear h h' hb1 hb1'
        by_cases hxy : x = y
        · subst hxy
          go_wp2_with fail
          go_quiet (fail)
          go_wp2_with fail
          go_roundw
          case rel => exact ⟨k + 1, _, by omega, by go_num, by rw [hT1.out, hT2.out, hV.out], by first | rfl | exact drewN_two _ _ _⟩
          case measure => simp [intOf]; omega
        · have hd : (x != y) = true := by simp [hxy]
          have hE2 : Hid (¬ xs = ys) := Lib.hid (fun e => hxy (hE.out e))
          clear hxy
          go_wp2_with fail
          go_quiet (fail)
          go_wp2_with fail
          go_ret
          exact ⟨ret_bool (by simp [hE2.out]), _, by first | rfl | exact drewN_two _ _ _⟩
      · obtain rfl : k = n := by omega
        clear hlt h h'
        go_wp2_with fail
        go_ret
        have e1 := hV.out
        rw [List.take_of_length_le (Nat.le_of_eq hl.out), List.take_of_length_le (Nat.le_of_eq hl'.out)] at e1
        exact ⟨ret_bool (by simp [e1]), j, rfl⟩
  · have hd : ((n : Int) != (n' : Int)) = true := by simp; omega
    have hne : Hid (¬ xs = ys) := Lib.hid (fun e : xs = ys => hnn (by rw [← hl.out, ← hl'.out, e]))
    clear hnn h h'
    go_enter Tryd.func17, Tryd.ntmps17
    go_wp2_with fail
    go_ret
    exact ⟨ret_bool (by simp [hne.out]), 0, rfl⟩
theorem sameI_true {w : World} {A A' : Option Addr} {n n' c c' B B' : Nat} {xs : List Int} (h : Rd .i64 w B A n xs) (h' : Rd .i64 w B' A' n' xs) (hn : n ≤ 1000000) :
    Calls Tryd.prog 17 #[.slice A n c, .slice A' n' c'] w fun e w' => e = .returned (.bool true) ∧ Below w.heap.size w w' := by
  have e : n = n' := by rw [← h.len, ← h'.len]
  refine (sameI_any h h' (by omega) (by omega)).mono ?_
  rintro e w' ⟨rfl, i, rfl⟩
  exact ⟨ret_bool (by simp), below_drewN (Below.refl _ _) i⟩
set_option maxHeartbeats 1000000 in
theorem is_any {A A' : Option Addr} {n n' c c' B B' : Nat} {xs ys : List Int} {e no : Int} {w : World} (h : Rd .i64 w B A n xs) (h' : Rd .i64 w B' A' n' ys) (hn : n ≤ 1000000) (hn' : n' ≤ 1000000) :
    Calls Tryd.prog 32 #[.slice A n c, .int .i64 e, .int .i64 no, .slice A' n' c'] w fun r w' => r = .returned (.bool (decide (xs = ys) && (e == no))) ∧ Below w.heap.size w w' := by
  have hS := Lib.hid (sameI_any (c := c) (c' := c') h h' (by omega) (by omega))
  have hN := Lib.hid (fun (u : World) => num_any (e := e) (w := u))
  clear h h'
  cases hd : decide (xs = ys)
  · rw [hd] at hS
    go_enter Tryd.func32, Tryd.ntmps32
    go_wp2_with (first | (go_at_call 17; refine hS.out.mono ?_; rintro e w2 ⟨rfl, k, rfl⟩) | fail)
    go_ret
    exact ⟨rfl, below_drewN (Below.refl _ _) _⟩
  · rw [hd] at hS
    go_enter Tryd.func32, Tryd.ntmps32
    go_wp2_with (first | (go_at_call 17; refine hS.out.mono ?_; rintro e w2 ⟨rfl, k, rfl⟩) | (go_at_call 18; refine (hN.out _).mono ?_; rintro e w3 ⟨rfl, rfl⟩) | fail)
    go_ret
    exact ⟨rfl, below_drewN (Below.refl _ _) _⟩
end Go.Proofs.YtkkombhpiagngaaDoor
