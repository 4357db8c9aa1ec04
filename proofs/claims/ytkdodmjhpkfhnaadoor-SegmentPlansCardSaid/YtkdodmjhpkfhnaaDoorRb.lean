/-
  The reference of Sizes; same.
-/
import Derived.Test.YtkdodmjhpkfhnaaDoorRa
namespace Go.Proofs.YtkdodmjhpkfhnaaDoor
open Go.RowKit

def filtL (k : Nat) : List Int := ((List.range k).filter (fun k => decide (IsSize k))).map Int.ofNat
theorem filtL_yes {k : Nat} (h : IsSize k) : filtL (k + 1) = filtL k ++ [(k : Int)] := by simp [filtL, List.range_succ, List.filter_append, h]
theorem filtL_no {k : Nat} (h : ¬ IsSize k) : filtL (k + 1) = filtL k := by simp [filtL, List.range_succ, List.filter_append, h]
theorem filtL_mono (k : Nat) : ∀ j, (filtL k).length ≤ (filtL (k + j)).length
  | 0 => Nat.le_refl _
  | j + 1 => by
    have := filtL_mono k j
    by_cases h : IsSize (k + j)
    · rw [← Nat.add_assoc, filtL_yes h, List.length_append]; omega
    · rw [← Nat.add_assoc, filtL_no h]; exact this
theorem filtL_all : filtL 6145 = sizesL.map Int.ofNat := by unfold filtL; rw [sizesL_filter]
theorem filtL_le {k : Nat} (h : k ≤ 6145) : (filtL k).length ≤ 188 := by
  have := filtL_mono k (6145 - k)
  rw [show k + (6145 - k) = 6145 by omega, filtL_all, List.length_map, sizesL_length] at this
  exact this
/-- append of one integer. -/
theorem ints_app {w wr : World} {n : Nat} {A : Option Addr} {c : Nat} {xs : List Int} (hO : wr.ownsRow w.heap.size 3 1 (.slice A n c) n (xs.map (Value.int .i64))) (hb : Below w.heap.size w wr) (hn : n < 1000) (x : Int) :
    ∃ A2 c2 w2, (Builtin.append_ #[28, 28] 28 #[.slice A n c, .slice (some ⟨wr.heap.size, 0, none⟩) 1 1]).run Tryd.prog (wr.alloc (.cells #[.int .i64 x] 3)) = .ok (.slice A2 (n + 1) c2) w2 ∧
      w2.ownsRow w.heap.size 3 1 (.slice A2 (n + 1) c2) (n + 1) ((xs ++ [x]).map (Value.int .i64)) ∧ Below w.heap.size w w2 := by
  obtain ⟨i0, hi, hz0, hz1, hz2⟩ := info_q Tryd.info_int
  obtain ⟨A2, c2, w2, h1, h2, h3⟩ := append_one_q (P := Tryd.prog) (q := .i64) (x := x) Tryd.underlying28 hi hz0 hz1 hz2 (by decide) hO (by omega) hb.size
  exact ⟨A2, c2, w2, h1, h2, (hb.alloc hb.size _).grown h3 (by simp; have := hb.size; omega) (fun k hk => (hO.lt k hk).1)⟩
/-- Where the reference's loop is. -/
structure RszAt (w : World) (s k : Value) (w3 : World) : Prop where
  ex : ∃ (t n : Nat) (A : Option Addr) (c : Nat), t ≤ 6145 ∧ k = .int .i64 (t : Int) ∧ (filtL t).length = n ∧ s = .slice A n c ∧ w3.ownsRow w.heap.size 3 1 (.slice A n c) n ((filtL t).map (Value.int .i64)) ∧ Below w.heap.size w w3
set_option maxRecDepth 100000 in
set_option maxHeartbeats 1000000 in
theorem refSizes_any {w : World} :
    Calls Tryd.prog 14 #[] w fun e w' => ∃ A c, e = .returned (.slice A 188 c) ∧
      w'.ownsRow w.heap.size 3 1 (.slice A 188 c) 188 ((sizesL.map Int.ofNat).map (Value.int .i64)) ∧ Below w.heap.size w w' := by
  have hv := Lib.hid (fun (k : Nat) (u : World) => refValid_any (n := (k : Int)) (w := u))
  go_enter Tryd.func14, Tryd.ntmps14
  go_wp2_with fail
  go_loopw [1, 2] (fun s k wr => RszAt w s k wr) (fun _ k _ => 6145 - (intOf k).toNat)
  case atStart => exact ⟨⟨0, 0, none, 0, by decide, rfl, rfl, rfl, by simpa [filtL] using World.ownsRow_nil w w.heap.size 3 1, Below.refl _ _⟩⟩
  case round =>
    obtain ⟨⟨t, n, A, c, ht, rfl, hn, rfl, hO, hb⟩⟩ := hrel
    have hle := filtL_le ht
    have HN := Lib.hid hn
    clear hn
    by_cases ht2 : t = 6145
    · subst ht2
      have hn2 : n = 188 := by rw [← HN.out, filtL_all, List.length_map, sizesL_length]
      subst hn2
      rw [filtL_all] at hO
      have HO := Lib.hid hO
      clear hO hle
      go_wp2_with fail
      go_ret
      exact ⟨A, c, rfl, HO.out, hb⟩
    · have ht3 : t ≤ 6144 := by omega
      by_cases hs : IsSize t
      · have hB : Hid (isB (t : Int) = true) := Lib.hid (by rw [isB_nat]; exact decide_eq_true hs)
        obtain ⟨A2, c2, w2, hrun, hO2, hb2⟩ := ints_app hO hb (by have := HN.out; omega) (t : Int)
        have HR := Lib.hid hrun
        have HO2 := Lib.hid hO2
        have HS := Lib.hid hs
        clear hrun hO2 hO hs hle ht2
        go_wp2_with (first | (at_builtin; refine Lib.wpList_append_run _ rfl _ _ _ _ rfl _ _ rfl rfl _ _ HR.out ?_) | (go_at_call 16; refine (hv.out _ _).mono ?_; rintro e w1 ⟨rfl, rfl⟩; rw [hB.out]))
        go_roundw
        case rel => exact ⟨⟨t + 1, n + 1, A2, c2, by omega, by go_num, by rw [filtL_yes HS.out, List.length_append, HN.out]; rfl, by first | rfl | simp, by rw [filtL_yes HS.out]; exact HO2.out, hb2⟩⟩
        case measure => simp [intOf]; omega
      · have hB : Hid (isB (t : Int) = false) := Lib.hid (by rw [isB_nat]; exact decide_eq_false hs)
        have HS := Lib.hid hs
        have HO2 := Lib.hid hO
        clear hO hs hle ht2
        go_wp2_with (go_at_call 16; refine (hv.out _ _).mono ?_; rintro e w1 ⟨rfl, rfl⟩; rw [hB.out])
        go_roundw
        case rel => exact ⟨⟨t + 1, n, A, c, by omega, by go_num, by rw [filtL_no HS.out]; exact HN.out, rfl, by rw [filtL_no HS.out]; exact HO2.out, hb⟩⟩
        case measure => simp [intOf]; omega
theorem drewN_two' (w : World) (i j : Nat) : (w.drewN i).drewN j = w.drewN (i + j) := World.drewN_drewN _ _ _
set_option maxHeartbeats 1000000 in
/-- The law's same, of integers. -/
theorem same_any {A A' : Option Addr} {n c n' c' B B' : Nat} {xs ys : List Int} {w : World} (h : Rd .i64 w B A n xs) (h' : Rd .i64 w B' A' n' ys) (hn : n ≤ 140737488351232) (hn' : n' ≤ 140737488351232) :
    Calls Tryd.prog 12 #[.slice A n c, .slice A' n' c'] w fun e w' => e = .returned (.bool (decide (xs = ys))) ∧ ∃ i, w' = w.drewN i := by
  have hl := Lib.hid h.len
  have hl' := Lib.hid h'.len
  by_cases hnn : n = n'
  · subst hnn
    go_enter Tryd.func12, Tryd.ntmps12
    go_wp2_with fail
    go_loopw [5] (fun i wr => ∃ k j : Nat, k ≤ n ∧ i = .int .i64 k ∧ (xs.take k = ys.take k) ∧ wr = w.drewN j) (fun i _ => n - (intOf i).toNat)
    case atStart => exact ⟨0, 0, Nat.zero_le _, rfl, rfl, rfl⟩
    case round =>
      obtain ⟨k, j, hk, rfl, hv, rfl⟩ := hrel
      have hV := Lib.hid hv; clear hv
      by_cases hlt : k < n
      · obtain ⟨b, off, rfl, hb1, hc⟩ := h.cells k hlt
        obtain ⟨b', off', rfl, hb1', hc'⟩ := h'.cells k hlt
        have hT1 := Lib.hid (take_snoc xs k (by rw [hl.out]; exact hlt) 0)
        have hT2 := Lib.hid (take_snoc ys k (by rw [hl'.out]; exact hlt) 0)
        have hE := Lib.hid (fun e : xs = ys => show xs[k]?.getD 0 = ys[k]?.getD 0 by rw [e])
        generalize xs[k]?.getD 0 = x at *
        generalize ys[k]?.getD 0 = y at *
        have hc2 : World.cell? (w.drewN j) ⟨b, off + k, none⟩ = some (.int .i64 x) := hc
        have hc2' : World.cell? (w.drewN j) ⟨b', off' + k, none⟩ = some (.int .i64 y) := hc'
        have hk0 : (0 : Int) ≤ (k : Int) := by omega
        have hk1 : (k : Int) < (n : Int) := by omega
        clear h h' hb1 hb1'
        by_cases hxy : x = y
        · subst hxy
          go_wp2_with fail
          go_quiet (fail)
          go_wp2_with fail
          go_roundw
          case rel => exact ⟨k + 1, _, by omega, by go_num, by rw [hT1.out, hT2.out, hV.out], by first | rfl | exact drewN_two' _ _ _⟩
          case measure => simp [intOf]; omega
        · have hd : (x != y) = true := by simp [hxy]
          have hE2 : Hid (¬ xs = ys) := Lib.hid (fun e => hxy (hE.out e))
          clear hxy
          go_wp2_with fail
          go_quiet (fail)
          go_wp2_with fail
          go_ret
          exact ⟨ret_bool (by simp [hE2.out]), _, by first | rfl | exact drewN_two' _ _ _⟩
      · obtain rfl : k = n := by omega
        clear hlt h h'
        go_wp2_with fail
        go_ret
        have e1 := hV.out
        rw [List.take_of_length_le (Nat.le_of_eq hl.out), List.take_of_length_le (Nat.le_of_eq hl'.out)] at e1
        exact ⟨ret_bool (by simp [e1]), j, rfl⟩
  · have hd : ((n : Int) != (n' : Int)) = true := by simp; omega
    have hne : Hid (¬ xs = ys) := Lib.hid (fun e : xs = ys => hnn (by rw [← hl.out, ← hl'.out, e]))
    clear hnn h h'
    go_enter Tryd.func12, Tryd.ntmps12
    go_wp2_with fail
    go_ret
    exact ⟨ret_bool (by simp [hne.out]), 0, rfl⟩
end Go.Proofs.YtkdodmjhpkfhnaaDoor
