/-
  Free.
-/
import Derived.Test.YtfplklbicimhkaaDoorFh
namespace Go.Proofs.YtfplklbicimhkaaDoor
open Go.RowKit

theorem of_one {k : Int} {c : Bool} {w : World} (hK : Kinds w) :
    Hid (Calls Tryd.prog 30 #[.int .i64 k, .slice (some ⟨w.heap.size, 0, none⟩) 1 1] (w.alloc (.cells #[.bool c] 4)) fun e w' => e = .returned (.tuple #[if c then ofV k else parV 0 0 0, .int .i64 (if c then ofE k else 2)]) ∧ Below w.heap.size w w') := by
  have hK1 := hK.alloc (.cells #[.bool c] 4)
  have hb0 := (Below.refl w.heap.size w).alloc (Nat.le_refl _) (.cells #[.bool c] 4)
  have hC : ∀ u, Below (w.alloc (.cells #[.bool c] 4)).heap.size (w.alloc (.cells #[.bool c] 4)) u → Calls Tryd.prog 45 #[.slice (some ⟨w.heap.size, 0, none⟩) 1 1, .bool false] u fun e w' => e = .returned (.bool (!c)) ∧ w' = u :=
    fun u hu => containsB_one ((hu.cell (p := ⟨w.heap.size, 0, none⟩) (by simp)).trans (by simp))
  refine Lib.hid ?_
  cases c
  · exact (of_no hK1 (.inr rfl) hC).mono fun e w' h => ⟨h.1, hb0.trans (h.2.mono (by simp))⟩
  · by_cases h : isB k = true
    · obtain ⟨m, rfl, hs⟩ := isB_ex h
      rw [if_pos rfl, if_pos rfl, ofV_size hs, ofE_size hs]
      exact (of_size hK1 hs hC).mono fun e w' h => ⟨h.1, hb0.trans (h.2.mono (by simp))⟩
    · have h := Bool.eq_false_iff.2 h
      rw [if_pos rfl, if_pos rfl, ofV_no h, ofE_no h]
      exact (of_no hK1 (.inl h) hC).mono fun e w' h => ⟨h.1, hb0.trans (h.2.mono (by simp))⟩
set_option maxHeartbeats 2000000 in
theorem Free_yes {k v n : Nat} {w : World} (hK : Kinds w) (hs : IsSize k) (hv : 1 ≤ v) (hn : k = v * n) :
    Calls Tryd.prog 27 #[.int .i64 (k : Int), .int .i64 (v : Int)] w fun e w' => e = .returned (.tuple #[.bool true, .int .i64 0]) ∧ Below w.heap.size w w' := by
  have hO := of_one (k := (k : Int)) (c := true) hK
  rw [if_pos rfl, if_pos rfl, ofV_size hs, ofE_size hs] at hO
  have hF := Lib.hid (fun (u : World) => callsIn_wide.1 (free_in (d := 8) (by decide) (w := u) hs hv hn))
  have hmod : (k : Int) % (v : Int) = 0 := by
    rw [hn]
    show (((v * n) % v : Nat) : Int) = _
    rw [Nat.mul_mod_right]
    rfl
  have hv0 : (v : Int) ≠ 0 := by omega
  have d1 : decide ((1 : Int) ≤ (v : Int)) = true := by simp; omega
  unfold parV parA at hO hF
  generalize f1N k = f1 at *
  generalize f2N k = f2 at *
  clear hs hn
  go_enter Tryd.func27, Tryd.ntmps27
  go_wp2_with fail
  refine hO.out.mono ?_
  rintro e w1 ⟨rfl, hb1⟩
  have hT := Three.new w1 58 (.int .i64 (k : Int)) (.int .i64 (f1 : Int)) (.int .i64 (f2 : Int))
  have c0 := hT.cell0
  have c1 := hT.cell1
  have c2 := hT.cell2
  have hb2 := hb1.alloc hb1.size (.cells #[.int .i64 (k : Int), .int .i64 (f1 : Int), .int .i64 (f2 : Int)] 58)
  clear hb1 hO hT
  go_wp2_with fail
  refine (hF.out _).mono ?_
  rintro e w2 ⟨rfl, hb3⟩
  have hb4 := hb2.trans (hb3.mono hb2.size)
  clear c0 c1 c2
  go_wp2_with fail
  go_ret2
  exact ⟨rfl, hb4⟩
set_option maxHeartbeats 2000000 in
theorem Free_no {k v : Int} {w : World} (hK : Kinds w) (h : freeS k v = false) :
    Calls Tryd.prog 27 #[.int .i64 k, .int .i64 v] w fun e w' => e = .returned (.tuple #[.bool false, .int .i64 2]) ∧ Below w.heap.size w w' := by
  by_cases hv : v < 1
  · have hO := of_one (k := k) (c := false) hK
    rw [if_neg (by decide), if_neg (by decide)] at hO
    have d1 : decide ((1 : Int) ≤ v) = false := by simp; omega
    unfold parV parA at hO
    clear h
    go_enter Tryd.func27, Tryd.ntmps27
    go_wp2_with fail
    refine hO.out.mono ?_
    rintro e w1 ⟨rfl, hb1⟩
    have hb2 := hb1.alloc hb1.size (.cells #[.int .i64 ((0 : Nat) : Int), .int .i64 ((0 : Nat) : Int), .int .i64 ((0 : Nat) : Int)] 58)
    clear hb1 hO
    go_wp2_with fail
    go_ret2
    exact ⟨rfl, hb2⟩
  · have hv1 : (1 : Int) ≤ v := by omega
    have d1 : decide ((1 : Int) ≤ v) = true := by simp; omega
    have hv0 : v ≠ 0 := by omega
    obtain ⟨c, hc⟩ : ∃ c, (k.tmod v == 0) = c := ⟨_, rfl⟩
    have hO := of_one (k := k) (c := c) hK
    have hE : (if c then ofV k else parV 0 0 0) = parV 0 0 0 ∧ (if c then ofE k else 2) = 2 := by
      cases c
      · exact ⟨rfl, rfl⟩
      · have hk : isB k = false := by
          unfold freeS at h
          have e0 : k % v = 0 := Int.emod_eq_zero_of_dvd (Int.dvd_of_tmod_eq_zero (eq_of_beq hc))
          rw [decide_eq_true hv1, decide_eq_true e0, Bool.and_true, Bool.and_true] at h
          exact h
        rw [if_pos rfl, if_pos rfl]
        exact ⟨ofV_no hk, ofE_no hk⟩
    rw [hE.1, hE.2] at hO
    unfold parV parA at hO
    clear h hE
    go_enter Tryd.func27, Tryd.ntmps27
    go_wp2_with fail
    refine hO.out.mono ?_
    rintro e w1 ⟨rfl, hb1⟩
    have hb2 := hb1.alloc hb1.size (.cells #[.int .i64 ((0 : Nat) : Int), .int .i64 ((0 : Nat) : Int), .int .i64 ((0 : Nat) : Int)] 58)
    clear hb1 hO
    go_wp2_with fail
    go_ret2
    exact ⟨rfl, hb2⟩
theorem Free_any {k v : Int} {w : World} (hK : Kinds w) :
    Calls Tryd.prog 27 #[.int .i64 k, .int .i64 v] w fun e w' => e = .returned (.tuple #[.bool (freeS k v), .int .i64 (if freeS k v then 0 else 2)]) ∧ Below w.heap.size w w' := by
  by_cases h : freeS k v = true
  · rw [h]
    obtain ⟨k', v', n, rfl, rfl, hs, hv, hn⟩ := freeS_ex h
    exact Free_yes hK hs hv hn
  · have h := Bool.eq_false_iff.2 h
    rw [h]
    exact Free_no hK h
end Go.Proofs.YtfplklbicimhkaaDoor
