/-
  of, Params, At.
-/
import Derived.Test.YtfplklbicimhkaaDoorFb
import Derived.ScopeJumps
namespace Go.Proofs.YtfplklbicimhkaaDoor
open Go.RowKit

theorem indexB_nil {w : World} : Calls Tryd.prog 49 #[.slice none 0 0, .bool false] w fun e w' => e = .returned (.int .i64 (-1)) ∧ w' = w := by
  go_enter Tryd.func49, Tryd.ntmps49
  go_wp2_with fail
  go_loop [8] (fun i => i = .int .i64 0) (fun _ => 0)
  case atStart => rfl
  case round =>
    obtain rfl := hrel
    go_wp2_with fail
    go_ret
    exact ⟨rfl, rfl⟩
theorem indexB_one {B : Nat} {v : Bool} {w : World} (hc : w.cell? ⟨B, 0, none⟩ = some (.bool v)) : Calls Tryd.prog 49 #[.slice (some ⟨B, 0, none⟩) 1 1, .bool false] w fun e w' => (∃ r : Int, e = .returned (.int .i64 r) ∧ decide (0 ≤ r) = !v) ∧ w' = w := by
  cases v
  · go_enter Tryd.func49, Tryd.ntmps49
    go_wp2_with fail
    go_loop [8] (fun i => i = .int .i64 0) (fun _ => 0)
    case atStart => rfl
    case round =>
      obtain rfl := hrel
      go_wp2_with fail
      go_ret
      exact ⟨⟨_, rfl, by decide⟩, rfl⟩
  · go_enter Tryd.func49, Tryd.ntmps49
    go_wp2_with fail
    go_loop [8] (fun i => ∃ k : Nat, k ≤ 1 ∧ i = .int .i64 (k : Int)) (fun i => 1 - (intOf i).toNat)
    case atStart => exact ⟨0, by decide, rfl⟩
    case round =>
      obtain ⟨k, hk, rfl⟩ := hrel
      by_cases h : k = 0
      · subst h
        go_wp2_with fail
        go_round
        case rel => exact ⟨1, by decide, rfl⟩
        case measure => simp [intOf]
      · obtain rfl : k = 1 := by omega
        go_wp2_with fail
        go_ret
        exact ⟨⟨_, rfl, by decide⟩, rfl⟩
theorem containsB_nil {w : World} : Calls Tryd.prog 45 #[.slice none 0 0, .bool false] w fun e w' => e = .returned (.bool false) ∧ w' = w := by
  go_enter Tryd.func45, Tryd.ntmps45
  go_wp2_with (go_at_call 49; refine indexB_nil.mono ?_; rintro e w ⟨rfl, rfl⟩)
  go_ret
  exact ⟨rfl, rfl⟩
theorem containsB_one {B : Nat} {v : Bool} {w : World} (hc : w.cell? ⟨B, 0, none⟩ = some (.bool v)) : Calls Tryd.prog 45 #[.slice (some ⟨B, 0, none⟩) 1 1, .bool false] w fun e w' => e = .returned (.bool (!v)) ∧ w' = w := by
  have hI := Lib.hid (indexB_one hc)
  clear hc
  go_enter Tryd.func45, Tryd.ntmps45
  go_wp2_with (go_at_call 49; refine hI.out.mono ?_; rintro e w ⟨⟨r, rfl, hr⟩, rfl⟩)
  go_ret
  exact ⟨ret_bool (by first | exact hr | rfl), rfl⟩
theorem of_results {W : World} {tmps : Array Value} {B : Nat} {a b c : Value} {e : Int} {t : TypeId} (h4 : tmps.getD 4 undef = .pointer (some ⟨B, 0, none⟩)) (h5 : tmps.getD 5 undef = .int .i64 e) (hL : Three W B t a b c) :
    (results Tryd.f30 tmps).run Tryd.prog W = .ok (.tuple #[.agg #[a, b, c], .int .i64 e]) W := by
  have c0 := hL.cell0
  have c1 := hL.cell1
  have c2 := hL.cell2
  simp only [Array.getD_eq_getD_getElem?] at h4 h5
  simp [results, Tryd.results30, go_sem, h4, h5, c0, c1, c2]
set_option maxRecDepth 100000 in
set_option maxHeartbeats 4000000 in
theorem of_size {k : Nat} {V : Value} {w : World} (hK : Kinds w) (hs : IsSize k) (hC : ∀ u, Below w.heap.size w u → Calls Tryd.prog 45 #[V, .bool false] u fun e w' => e = .returned (.bool false) ∧ w' = u) :
    Calls Tryd.prog 30 #[.int .i64 (k : Int), V] w fun e w' => e = .returned (.tuple #[parV k (f1N k) (f2N k), .int .i64 0]) ∧ Below w.heap.size w w' := by
  have hv := Lib.hid (fun (u : World) (h : Below w.heap.size w u) => Valid_any (n := (k : Int)) (hK.step h))
  have hco := Lib.hid (fun (u : World) => coefficients_any (w := u) hs)
  have hCC := Lib.hid hC
  have hB : Hid (validS (k : Int) = true) := Lib.hid (by rw [validS_isB, isB_nat]; exact decide_eq_true hs)
  have hT := Three.new w 58 (.int .i64 0) (.int .i64 0) (.int .i64 0)
  have hb0 := (Below.refl w.heap.size w).alloc (Nat.le_refl _) (.cells #[.int .i64 0, .int .i64 0, .int .i64 0] 58)
  have hs1 : (w.alloc (.cells #[.int .i64 0, .int .i64 0, .int .i64 0] 58)).heap.size = w.heap.size + 1 := by simp
  clear hC
  go_enter Tryd.func30, Tryd.ntmps30
  go_wp2
  refine wp_scope_forward 0 rfl ?_
  generalize w.alloc (.cells #[.int .i64 0, .int .i64 0, .int .i64 0] 58) = W at *
  go_wp2_with fail
  refine (hv.out _ hb0).mono ?_
  rintro e w1 ⟨rfl, hb1⟩
  rw [hB.out]
  rw [hs1] at hb1
  have hb2 := hb0.trans (hb1.mono (by omega))
  have hT1 := hT.below hb1 (by omega)
  have hCx := Lib.hid (hCC.out _ hb2)
  clear hb0 hT hb1 hs1 hv
  go_wp2_with (go_at_call 45; refine hCx.out.mono ?_; rintro e w1 ⟨rfl, rfl⟩)
  refine (hco.out _).mono ?_
  rintro e w2 ⟨rfl, hb3⟩
  have hT2 := hT1.below hb3 hT1.lt
  have hb4 := Lib.hid (((((hb2.trans (hb3.mono hb2.size)).setCell (p := ⟨w.heap.size, 0, none⟩) (Nat.le_refl _) (.int .i64 (k : Int))).setCell (p := ⟨w.heap.size, 1, none⟩) (Nat.le_refl _) (.int .i64 (f1N k : Nat))).setCell (p := ⟨w.heap.size, 2, none⟩) (Nat.le_refl _) (.int .i64 (f2N k : Nat))))
  have hT3 := Lib.hid (hT2.put (.int .i64 (k : Int)) (.int .i64 (f1N k : Nat)) (.int .i64 (f2N k : Nat)))
  unfold parV parA
  generalize hF1 : f1N k = F1 at *
  generalize hF2 : f2N k = F2 at *
  have HF1 := Lib.hid hF1
  have HF2 := Lib.hid hF2
  clear hF1 hF2
  have b0 := hT2.cell0
  have b1 := hT2.cell1
  have b2 := hT2.cell2
  have g0 := hT2.frozen 0
  have g1 := hT2.frozen 1
  have g2 := hT2.frozen 2
  clear hT1 hT2 hb2 hb3 hco
  go_wp2_with fail
  refine jump_ret ?_
  refine bodyPost_ret (of_results (e := 0) ?_ ?_ hT3.out) rfl ⟨by rw [HF1.out, HF2.out]; rfl, hb4.out⟩
  · rfl
  · rfl
set_option maxRecDepth 100000 in
set_option maxHeartbeats 4000000 in
theorem of_no {k : Int} {V : Value} {b : Bool} {w : World} (hK : Kinds w) (hs : isB k = false ∨ b = true) (hC : ∀ u, Below w.heap.size w u → Calls Tryd.prog 45 #[V, .bool false] u fun e w' => e = .returned (.bool b) ∧ w' = u) :
    Calls Tryd.prog 30 #[.int .i64 k, V] w fun e w' => e = .returned (.tuple #[parV 0 0 0, .int .i64 2]) ∧ Below w.heap.size w w' := by
  have hv := Lib.hid (fun (u : World) (h : Below w.heap.size w u) => Valid_any (n := k) (hK.step h))
  rw [validS_isB] at hv
  have hCC := Lib.hid hC
  have hT := Three.new w 58 (.int .i64 0) (.int .i64 0) (.int .i64 0)
  have hb0 := (Below.refl w.heap.size w).alloc (Nat.le_refl _) (.cells #[.int .i64 0, .int .i64 0, .int .i64 0] 58)
  have hs1 : (w.alloc (.cells #[.int .i64 0, .int .i64 0, .int .i64 0] 58)).heap.size = w.heap.size + 1 := by simp
  clear hC
  unfold parV parA
  by_cases hk : isB k = true
  · rw [hk] at hv
    obtain rfl : b = true := by rcases hs with h | h; (rw [hk] at h; cases h); exact h
    clear hs hk
    go_enter Tryd.func30, Tryd.ntmps30
    go_wp2
    refine wp_scope_forward 0 rfl ?_
    generalize w.alloc (.cells #[.int .i64 0, .int .i64 0, .int .i64 0] 58) = W at *
    go_wp2_with fail
    refine (hv.out _ hb0).mono ?_
    rintro e w1 ⟨rfl, hb1⟩
    rw [hs1] at hb1
    have hb2 := hb0.trans (hb1.mono (by omega))
    have hT1 := hT.below hb1 (by omega)
    have hCx := Lib.hid (hCC.out _ hb2)
    have hb4 := Lib.hid ((((hb2.setCell (p := ⟨w.heap.size, 0, none⟩) (Nat.le_refl _) (.int .i64 0)).setCell (p := ⟨w.heap.size, 1, none⟩) (Nat.le_refl _) (.int .i64 0)).setCell (p := ⟨w.heap.size, 2, none⟩) (Nat.le_refl _) (.int .i64 0)))
    have hT3 := Lib.hid (hT1.put (.int .i64 0) (.int .i64 0) (.int .i64 0))
    have b0 := hT1.cell0
    have b1 := hT1.cell1
    have b2 := hT1.cell2
    have g0 := hT1.frozen 0
    have g1 := hT1.frozen 1
    have g2 := hT1.frozen 2
    clear hb0 hT hb1 hs1 hv hT1 hb2
    go_wp2_with (go_at_call 45; refine hCx.out.mono ?_; rintro e w1 ⟨rfl, rfl⟩)
    go_step3
    refine ⟨rfl, ?_⟩
    go_wp2_with fail
    rw [Exit.noGoto_ret]
    refine bodyPost_ret (of_results (e := 2) ?_ ?_ hT3.out) rfl ⟨rfl, hb4.out⟩
    · rfl
    · rfl
  · have hk := Bool.eq_false_iff.2 hk
    rw [hk] at hv
    clear hs hk hCC
    go_enter Tryd.func30, Tryd.ntmps30
    go_wp2
    refine wp_scope_forward 0 rfl ?_
    generalize w.alloc (.cells #[.int .i64 0, .int .i64 0, .int .i64 0] 58) = W at *
    go_wp2_with fail
    refine (hv.out _ hb0).mono ?_
    rintro e w1 ⟨rfl, hb1⟩
    rw [hs1] at hb1
    have hb2 := hb0.trans (hb1.mono (by omega))
    have hT1 := hT.below hb1 (by omega)
    have hb4 := Lib.hid ((((hb2.setCell (p := ⟨w.heap.size, 0, none⟩) (Nat.le_refl _) (.int .i64 0)).setCell (p := ⟨w.heap.size, 1, none⟩) (Nat.le_refl _) (.int .i64 0)).setCell (p := ⟨w.heap.size, 2, none⟩) (Nat.le_refl _) (.int .i64 0)))
    have hT3 := Lib.hid (hT1.put (.int .i64 0) (.int .i64 0) (.int .i64 0))
    have b0 := hT1.cell0
    have b1 := hT1.cell1
    have b2 := hT1.cell2
    have g0 := hT1.frozen 0
    have g1 := hT1.frozen 1
    have g2 := hT1.frozen 2
    clear hb0 hT hb1 hs1 hv hT1 hb2
    go_wp2_with fail
    go_step3
    refine ⟨rfl, ?_⟩
    go_wp2_with fail
    rw [Exit.noGoto_ret]
    refine bodyPost_ret (of_results (e := 2) ?_ ?_ hT3.out) rfl ⟨rfl, hb4.out⟩
    · rfl
    · rfl
end Go.Proofs.YtfplklbicimhkaaDoor
