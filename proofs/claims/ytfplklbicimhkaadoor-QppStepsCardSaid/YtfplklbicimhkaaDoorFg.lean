/-
  Order, Inverse, Interleave, Deinterleave, Bits.
-/
import Derived.Test.YtfplklbicimhkaaDoorFf
namespace Go.Proofs.YtfplklbicimhkaaDoor
open Go.RowKit

theorem order1_any {a b : Int} {w : World} : Calls Tryd.prog 36 #[.int .i64 a, .int .i64 b] w fun e w' => e = .returned (.tuple #[.int .i64 a, .int .i64 b]) ∧ w' = w := by
  go_enter Tryd.func36, Tryd.ntmps36
  go_wp2_with fail
  go_ret2
  exact ⟨rfl, rfl⟩
theorem inverse1_any {a b : Int} {w : World} : Calls Tryd.prog 37 #[.int .i64 a, .int .i64 b] w fun e w' => e = .returned (.tuple #[.int .i64 b, .int .i64 a]) ∧ w' = w := by
  go_enter Tryd.func37, Tryd.ntmps37
  go_wp2_with fail
  go_ret2
  exact ⟨rfl, rfl⟩
theorem putL_ord (k : Nat) : putL (fun i => i) (fun i => ((piK k i : Nat) : Int)) k k = ordI k k := by rw [putL_id]; rfl
set_option maxHeartbeats 1000000 in
theorem Order_any {k : Int} {w : World} (hK : Kinds w) : Calls Tryd.prog 16 #[.int .i64 k] w (RetQ .i64 3 w (orderS k)) := by
  by_cases h : isB k = true
  · obtain ⟨m, rfl, hs⟩ := isB_ex h
    rw [orderS_size hs]
    have hP := callsIn_wide.1 (permutedInt_in (n := 6) (by decide) (G := 36) (caps := #[]) (f := fun i => i) (g := fun i => ((piK m i : Nat) : Int)) hK hs (enters_of Tryd.func36 (by kernel_rfl) rfl) (fun _ hi => hi)
      (fun i W _ _ => (order1_any (a := (i : Int)) (b := (piK m i : Nat)) (w := W)).mono (fun e w' h => ⟨h.1, 0, h.2⟩)))
    rw [putL_ord] at hP
    have HP := Lib.hid hP
    clear hP h
    go_enter Tryd.func16, Tryd.ntmps16
    go_wp2_with (go_at_call 35; refine HP.out.mono ?_; rintro e w1 ⟨A, c, rfl, hown, hb⟩)
    go_ret2
    exact ⟨A, c, rfl, hown, hb⟩
  · have h := Bool.eq_false_iff.2 h
    rw [orderS_no h]
    have HP := Lib.hid (permutedInt_no (G := 36) (caps := #[]) hK h)
    clear h
    go_enter Tryd.func16, Tryd.ntmps16
    go_wp2_with (go_at_call 35; refine HP.out.mono ?_; rintro e w1 ⟨A, c, rfl, hown, hb⟩)
    go_ret2
    exact ⟨A, c, rfl, hown, hb⟩
set_option maxHeartbeats 1000000 in
theorem Inverse_any {k : Int} {w : World} (hK : Kinds w) : Calls Tryd.prog 17 #[.int .i64 k] w (RetQ .i64 3 w (invS k)) := by
  by_cases h : isB k = true
  · obtain ⟨m, rfl, hs⟩ := isB_ex h
    rw [invS_size hs]
    have hP := callsIn_wide.1 (permutedInt_in (n := 6) (by decide) (G := 37) (caps := #[]) (f := piK m) (g := fun i => (i : Int)) hK hs (enters_of Tryd.func37 (by kernel_rfl) rfl) (fun i _ => piK_lt hs i)
      (fun i W _ _ => (inverse1_any (a := (i : Int)) (b := (piK m i : Nat)) (w := W)).mono (fun e w' h => ⟨h.1, 0, h.2⟩)))
    rw [show putL (piK m) (fun i => (i : Int)) m m = invI m m from rfl] at hP
    have HP := Lib.hid hP
    clear hP h
    go_enter Tryd.func17, Tryd.ntmps17
    go_wp2_with (go_at_call 35; refine HP.out.mono ?_; rintro e w1 ⟨A, c, rfl, hown, hb⟩)
    go_ret2
    exact ⟨A, c, rfl, hown, hb⟩
  · have h := Bool.eq_false_iff.2 h
    rw [invS_no h]
    have HP := Lib.hid (permutedInt_no (G := 37) (caps := #[]) hK h)
    clear h
    go_enter Tryd.func17, Tryd.ntmps17
    go_wp2_with (go_at_call 35; refine HP.out.mono ?_; rintro e w1 ⟨A, c, rfl, hown, hb⟩)
    go_ret2
    exact ⟨A, c, rfl, hown, hb⟩
theorem inter1_any {A : Option Addr} {n c B L i p : Nat} {xs : List Int} {W : World} (hI : Rd .i64 W B A n xs) (hp : p < n) (hc : W.cell? ⟨L, 0, none⟩ = some (.slice A n c)) :
    Calls Tryd.prog 38 #[.int .i64 (i : Int), .int .i64 (p : Int), .pointer (some ⟨L, 0, none⟩)] W fun e W' => e = .returned (.tuple #[.int .i64 (i : Int), .int .i64 (xs[p]?.getD 0)]) ∧ ∃ m, W' = W.drewN m := by
  obtain ⟨b, off, rfl, _, hcell⟩ := hI.cells p hp
  have hp0 : (0 : Int) ≤ (p : Int) := by omega
  have hp1 : (p : Int) < (n : Int) := by omega
  generalize xs[p]?.getD 0 = x at *
  clear hI
  go_enter Tryd.func38, Tryd.ntmps38
  go_wp2_with fail
  go_quiet (fail)
  go_wp2_with fail
  go_ret2
  exact ⟨rfl, _, rfl⟩
set_option maxHeartbeats 1000000 in
theorem Interleave_any {A : Option Addr} {n c : Nat} {xs : List Int} {w : World} (hK : Kinds w) (hI : Rd .i64 w w.heap.size A n xs) : Calls Tryd.prog 21 #[.slice A n c] w (RetQ .i64 3 w (interS xs)) := by
  obtain rfl := hI.len
  have hs1 : (w.alloc (.cells #[.slice A xs.length c] 33)).heap.size = w.heap.size + 1 := by simp
  have bL := Boxed.new w 33 (.slice A xs.length c)
  have hb0 := (Below.refl w.heap.size w).alloc (Nat.le_refl _) (.cells #[.slice A xs.length c] 33)
  have hK1 := hK.alloc (.cells #[.slice A xs.length c] 33)
  have hI1 := hI.alloc (Nat.le_refl _) (.cells #[.slice A xs.length c] 33)
  by_cases h : isB (xs.length : Int) = true
  · have hs : IsSize xs.length := by rw [isB_nat] at h; simpa using h
    have hk := size_le hs
    rw [interS_size hs]
    have hP := callsIn_wide.1 (permutedInt_in (n := 6) (by decide) (G := 38) (caps := #[.pointer (some ⟨w.heap.size, 0, none⟩)]) (f := fun i => i) (g := fun i => xs[piK xs.length i]?.getD 0) hK1 hs (enters_of Tryd.func38 (by kernel_rfl) rfl) (fun _ hi => hi)
      (fun i W hi hb => by
        rw [List.append_toArray]
        exact inter1_any (i := i) (p := piK xs.length i) (hI1.below' hb (by rw [hs1]; omega)) (piK_lt hs i) ((hb.cell (p := ⟨w.heap.size, 0, none⟩) (by rw [hs1]; simp)).trans bL.cell)))
    rw [show putL (fun i => i) (fun i => xs[piK xs.length i]?.getD 0) xs.length xs.length = interI xs from putL_id] at hP
    have HP := Lib.hid hP
    have c0 := bL.cell
    clear hP h hs bL hI hI1 hK hK1
    go_enter Tryd.func21, Tryd.ntmps21
    have hmf := makeFunc_run
    go_wp2_with (go_at_call 35; refine HP.out.mono ?_; rintro e w1 ⟨A, c, rfl, hown, hb⟩)
    go_ret2
    exact ⟨A, c, rfl, hown.mono (by rw [hs1]; omega), hb0.trans (hb.mono (by rw [hs1]; omega))⟩
  · have h := Bool.eq_false_iff.2 h
    rw [interS_no h]
    have HP := Lib.hid (permutedInt_no (G := 38) (caps := #[.pointer (some ⟨w.heap.size, 0, none⟩)]) hK1 h)
    have c0 := bL.cell
    clear h bL hI hI1 hK hK1
    go_enter Tryd.func21, Tryd.ntmps21
    have hmf := makeFunc_run
    go_wp2_with (go_at_call 35; refine HP.out.mono ?_; rintro e w1 ⟨A, c, rfl, hown, hb⟩)
    go_ret2
    exact ⟨A, c, rfl, hown.mono (by rw [hs1]; omega), hb0.trans (hb.mono (by rw [hs1]; omega))⟩
theorem deinter1_any {A : Option Addr} {n c B L i p : Nat} {xs : List Int} {W : World} (hI : Rd .i64 W B A n xs) (hp : i < n) (hc : W.cell? ⟨L, 0, none⟩ = some (.slice A n c)) :
    Calls Tryd.prog 39 #[.int .i64 (i : Int), .int .i64 (p : Int), .pointer (some ⟨L, 0, none⟩)] W fun e W' => e = .returned (.tuple #[.int .i64 (p : Int), .int .i64 (xs[i]?.getD 0)]) ∧ ∃ m, W' = W.drewN m := by
  obtain ⟨b, off, rfl, _, hcell⟩ := hI.cells i hp
  have hp0 : (0 : Int) ≤ (i : Int) := by omega
  have hp1 : (i : Int) < (n : Int) := by omega
  generalize xs[i]?.getD 0 = x at *
  clear hI
  go_enter Tryd.func39, Tryd.ntmps39
  go_wp2_with fail
  go_quiet (fail)
  go_wp2_with fail
  go_ret2
  exact ⟨rfl, _, rfl⟩
set_option maxHeartbeats 1000000 in
theorem Deinterleave_any {A : Option Addr} {n c : Nat} {xs : List Int} {w : World} (hK : Kinds w) (hI : Rd .i64 w w.heap.size A n xs) : Calls Tryd.prog 22 #[.slice A n c] w (RetQ .i64 3 w (deS xs)) := by
  obtain rfl := hI.len
  have hs1 : (w.alloc (.cells #[.slice A xs.length c] 33)).heap.size = w.heap.size + 1 := by simp
  have bL := Boxed.new w 33 (.slice A xs.length c)
  have hb0 := (Below.refl w.heap.size w).alloc (Nat.le_refl _) (.cells #[.slice A xs.length c] 33)
  have hK1 := hK.alloc (.cells #[.slice A xs.length c] 33)
  have hI1 := hI.alloc (Nat.le_refl _) (.cells #[.slice A xs.length c] 33)
  by_cases h : isB (xs.length : Int) = true
  · have hs : IsSize xs.length := by rw [isB_nat] at h; simpa using h
    have hk := size_le hs
    rw [deS_size hs]
    have hP := callsIn_wide.1 (permutedInt_in (n := 6) (by decide) (G := 39) (caps := #[.pointer (some ⟨w.heap.size, 0, none⟩)]) (f := piK xs.length) (g := fun i => xs[i]?.getD 0) hK1 hs (enters_of Tryd.func39 (by kernel_rfl) rfl) (fun i _ => piK_lt hs i)
      (fun i W hi hb => by
        rw [List.append_toArray]
        exact deinter1_any (i := i) (p := piK xs.length i) (hI1.below' hb (by rw [hs1]; omega)) hi ((hb.cell (p := ⟨w.heap.size, 0, none⟩) (by rw [hs1]; simp)).trans bL.cell)))
    rw [show putL (piK xs.length) (fun i => xs[i]?.getD 0) xs.length xs.length = deI xs xs.length from rfl] at hP
    have HP := Lib.hid hP
    have c0 := bL.cell
    clear hP h hs bL hI hI1 hK hK1
    go_enter Tryd.func22, Tryd.ntmps22
    have hmf := makeFunc_run
    go_wp2_with (go_at_call 35; refine HP.out.mono ?_; rintro e w1 ⟨A, c, rfl, hown, hb⟩)
    go_ret2
    exact ⟨A, c, rfl, hown.mono (by rw [hs1]; omega), hb0.trans (hb.mono (by rw [hs1]; omega))⟩
  · have h := Bool.eq_false_iff.2 h
    rw [deS_no h]
    have HP := Lib.hid (permutedInt_no (G := 39) (caps := #[.pointer (some ⟨w.heap.size, 0, none⟩)]) hK1 h)
    have c0 := bL.cell
    clear h bL hI hI1 hK hK1
    go_enter Tryd.func22, Tryd.ntmps22
    have hmf := makeFunc_run
    go_wp2_with (go_at_call 35; refine HP.out.mono ?_; rintro e w1 ⟨A, c, rfl, hown, hb⟩)
    go_ret2
    exact ⟨A, c, rfl, hown.mono (by rw [hs1]; omega), hb0.trans (hb.mono (by rw [hs1]; omega))⟩
theorem bits1_any {A : Option Addr} {n c B L i p : Nat} {xs : List Int} {W : World} (hI : Rd .u8 W B A n xs) (hp : p < n) (hc : W.cell? ⟨L, 0, none⟩ = some (.slice A n c)) :
    Calls Tryd.prog 41 #[.int .i64 (i : Int), .int .i64 (p : Int), .pointer (some ⟨L, 0, none⟩)] W fun e W' => e = .returned (.tuple #[.int .i64 (i : Int), .int .u8 (xs[p]?.getD 0)]) ∧ ∃ m, W' = W.drewN m := by
  obtain ⟨b, off, rfl, _, hcell⟩ := hI.cells p hp
  have hp0 : (0 : Int) ≤ (p : Int) := by omega
  have hp1 : (p : Int) < (n : Int) := by omega
  generalize xs[p]?.getD 0 = x at *
  clear hI
  go_enter Tryd.func41, Tryd.ntmps41
  go_wp2_with fail
  go_quiet (fail)
  go_wp2_with fail
  go_ret2
  exact ⟨rfl, _, rfl⟩
set_option maxHeartbeats 1000000 in
theorem Bits_any {A : Option Addr} {n c : Nat} {xs : List Int} {w : World} (hK : Kinds w) (hI : Rd .u8 w w.heap.size A n xs) : Calls Tryd.prog 25 #[.slice A n c] w (RetQ .u8 5 w (interS xs)) := by
  obtain rfl := hI.len
  have hs1 : (w.alloc (.cells #[.slice A xs.length c] 43)).heap.size = w.heap.size + 1 := by simp
  have bL := Boxed.new w 43 (.slice A xs.length c)
  have hb0 := (Below.refl w.heap.size w).alloc (Nat.le_refl _) (.cells #[.slice A xs.length c] 43)
  have hK1 := hK.alloc (.cells #[.slice A xs.length c] 43)
  have hI1 := hI.alloc (Nat.le_refl _) (.cells #[.slice A xs.length c] 43)
  by_cases h : isB (xs.length : Int) = true
  · have hs : IsSize xs.length := by rw [isB_nat] at h; simpa using h
    have hk := size_le hs
    rw [interS_size hs]
    have hP := callsIn_wide.1 (permutedByte_in (n := 6) (by decide) (G := 41) (caps := #[.pointer (some ⟨w.heap.size, 0, none⟩)]) (f := fun i => i) (g := fun i => xs[piK xs.length i]?.getD 0) hK1 hs (enters_of Tryd.func41 (by kernel_rfl) rfl) (fun _ hi => hi)
      (fun i W hi hb => by
        rw [List.append_toArray]
        exact bits1_any (i := i) (p := piK xs.length i) (hI1.below' hb (by rw [hs1]; omega)) (piK_lt hs i) ((hb.cell (p := ⟨w.heap.size, 0, none⟩) (by rw [hs1]; simp)).trans bL.cell)))
    rw [show putL (fun i => i) (fun i => xs[piK xs.length i]?.getD 0) xs.length xs.length = interI xs from putL_id] at hP
    have HP := Lib.hid hP
    have c0 := bL.cell
    clear hP h hs bL hI hI1 hK hK1
    go_enter Tryd.func25, Tryd.ntmps25
    have hmf := makeFunc_run
    go_wp2_with (go_at_call 40; refine HP.out.mono ?_; rintro e w1 ⟨A, c, rfl, hown, hb⟩)
    go_ret2
    exact ⟨A, c, rfl, hown.mono (by rw [hs1]; omega), hb0.trans (hb.mono (by rw [hs1]; omega))⟩
  · have h := Bool.eq_false_iff.2 h
    rw [interS_no h]
    have HP := Lib.hid (permutedByte_no (G := 41) (caps := #[.pointer (some ⟨w.heap.size, 0, none⟩)]) hK1 h)
    have c0 := bL.cell
    clear h bL hI hI1 hK hK1
    go_enter Tryd.func25, Tryd.ntmps25
    have hmf := makeFunc_run
    go_wp2_with (go_at_call 40; refine HP.out.mono ?_; rintro e w1 ⟨A, c, rfl, hown, hb⟩)
    go_ret2
    exact ⟨A, c, rfl, hown.mono (by rw [hs1]; omega), hb0.trans (hb.mono (by rw [hs1]; omega))⟩
end Go.Proofs.YtfplklbicimhkaaDoor
