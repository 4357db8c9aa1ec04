/-
  The walks of SoftSums, SoftHards, SoftCompares.
-/
import Derived.Test.YtkkombhpiagngaaDoorL1
namespace Go.Proofs.YtkkombhpiagngaaDoor
open Go.RowKit Go.Shelf

set_option maxRecDepth 100000 in
set_option maxHeartbeats 4000000 in
theorem hards_walk {A A' : Option Addr} {n c n' c' : Nat} {m : Int} {xs bs : List Int} {w : World} (hK : Kinds w) (h : Rd .i64 w w.heap.size A n xs) (h' : Rd .u8 w w.heap.size A' n' bs) (hB : Byte bs) :
    Calls Tryd.prog 6 #[.slice A n c, .slice A' n' c', .int .i64 m] w fun e w' => e = .returned (.bool true) ∧ Below w.heap.size w w' := by
  have hW := Lib.hid (fun (u : World) (hb : Below w.heap.size w u) => works_any (hK.step hb))
  have hls := h.len
  have hls' := h'.len
  by_cases hn : n ≤ 500 ∧ n' ≤ 500
  · obtain ⟨hn, hn'⟩ := hn
    have hn1 : ¬ (500 : Int) < (n : Int) := by omega
    have hn2 : ¬ (500 : Int) < (n' : Int) := by omega
    have hS := Lib.hid (Hard_any (c := c) hK h (by omega))
    have hR := Lib.hid (fun (u : World) (hb : Below w.heap.size w u) => refHard_any (c := c) (h.step hb) (by omega))
    have hI := Lib.hid (fun (u : World) (hb : Below w.heap.size w u) => Ideal_any (c := c') (m := m) (hK.step hb) (h'.step hb) hB (by omega))
    have hJ := Lib.hid (fun (u : World) (hb : Below w.heap.size w u) => refIdeal_any (c := c') (m := m) (h'.step hb) hB (by omega))
    have hN := Lib.hid (fun (e : Int) (u : World) => num_any (e := e) (w := u))
    have hle := hardS_len xs
    have hle' := idealS_len bs m
    rw [hls] at hle
    rw [hls'] at hle'
    generalize hardS xs = r at *
    obtain ⟨ys, k⟩ := r
    generalize idealS bs m = r' at *
    obtain ⟨zs, k'⟩ := r'
    dsimp only at hle hle'
    clear hK h h' hls hls' hB
    go_enter Tryd.func6, Tryd.ntmps6
    go_wp2_with fail
    refine hS.out.mono ?_
    rintro e w1 ⟨A1, c1, rfl, o1, b1⟩
    have R1 := Rd.of_own o1
    try dsimp only at R1 ⊢
    clear hS o1
    go_wp2_with fail
    refine (hR.out _ b1).mono ?_
    rintro e w2 ⟨A2, c2, rfl, o2, b2'⟩
    have R2 := Rd.of_own o2
    have R1 := R1.step b2'
    have b2 := b1.trans (b2'.mono b1.size)
    try dsimp only at R2 ⊢
    clear hR o2 b1 b2'
    go_wp2_with fail
    refine (hI.out _ b2).mono ?_
    rintro e w3 ⟨A3, c3, rfl, o3, b3'⟩
    have R3 := Rd.of_own o3
    have R1 := R1.step b3'
    have R2 := R2.step b3'
    have b3 := b2.trans (b3'.mono b2.size)
    try dsimp only at R3 ⊢
    clear hI o3 b2 b3'
    go_wp2_with fail
    refine (hJ.out _ b3).mono ?_
    rintro e w4 ⟨A4, c4, rfl, o4, b4'⟩
    have R4 := Rd.of_own o4
    have R1 := R1.step b4'
    have R2 := R2.step b4'
    have R3 := R3.step b4'
    have b4 := b3.trans (b4'.mono b3.size)
    try dsimp only at R4 ⊢
    clear hJ o4 b3 b4'
    have k1 := R1.convert (P := Tryd.prog) Tryd.underlying38 Tryd.underlying5 c1 9 Tryd.underlying9
    have k2 := R2.convert (P := Tryd.prog) Tryd.underlying38 Tryd.underlying5 c2 9 Tryd.underlying9
    have hs := Lib.hid (sameI_true (c := c3) (c' := c4) R3 R4 (by omega))
    have B4 := Lib.hid b4
    generalize strOfNums ys = st at *
    clear R1 R2 R3 R4 b4
    go_wp2_with (first | (go_at_call 18; refine (hN.out _ _).mono ?_; rintro e w ⟨rfl, rfl⟩) | fail)
    refine hs.out.mono ?_
    rintro e w5 ⟨rfl, b5'⟩
    have B5 := Lib.hid (B4.out.trans (b5'.mono B4.out.size))
    have HW := Lib.hid (hW.out _ B5.out)
    clear hs b5' B4 hW
    go_wp2_with (first | (go_at_call 18; refine (hN.out _ _).mono ?_; rintro e w ⟨rfl, rfl⟩) | (go_at_call 14; refine HW.out.mono ?_; rintro e w6 ⟨rfl, b6⟩) | fail)
    go_ret
    exact ⟨rfl, B5.out.trans (b6.mono B5.out.size)⟩
  · have hc : (500 : Int) < (n : Int) ∨ (¬ (500 : Int) < (n : Int) ∧ (500 : Int) < (n' : Int)) := by omega
    have HW := Lib.hid (hW.out w (Below.refl _ _))
    clear hK h h' hW hn hls hls' hB
    rcases hc with h1 | ⟨h1, h2⟩
    all_goals
      go_enter Tryd.func6, Tryd.ntmps6
      go_wp2_with (first | (go_at_call 14; refine HW.out.mono ?_; rintro e w5 ⟨rfl, b5⟩) | fail)
      go_ret
      exact ⟨rfl, b5⟩
set_option maxRecDepth 100000 in
set_option maxHeartbeats 4000000 in
theorem compares_walk {A A' : Option Addr} {n c n' c' : Nat} {xs bs : List Int} {w : World} (hK : Kinds w) (h : Rd .i64 w w.heap.size A n xs) (h' : Rd .u8 w w.heap.size A' n' bs) (hB : Byte bs) :
    Calls Tryd.prog 7 #[.slice A n c, .slice A' n' c'] w fun e w' => e = .returned (.bool true) ∧ Below w.heap.size w w' := by
  have hW := Lib.hid (fun (u : World) (hb : Below w.heap.size w u) => works_any (hK.step hb))
  by_cases hn : n ≤ 500 ∧ n' ≤ 500
  · obtain ⟨hn, hn'⟩ := hn
    have hn1 : ¬ (500 : Int) < (n : Int) := by omega
    have hn2 : ¬ (500 : Int) < (n' : Int) := by omega
    have hS := Lib.hid (Compare_any (c := c) (c2 := c') hK h h' (by omega) (by omega) hB)
    have hR := Lib.hid (fun (u : World) (hb : Below w.heap.size w u) => refCompare_any (c := c) (c2 := c') (h.step hb) (h'.step hb) (by omega) (by omega) hB)
    have hI := Lib.hid (fun (u : World) (hb : Below w.heap.size w u) => Least_any (c := c) (hK.step hb) (h.step hb) (by omega))
    have hJ := Lib.hid (fun (u : World) (hb : Below w.heap.size w u) => refLeast_any (c := c) (h.step hb) (by omega))
    have hN := Lib.hid (fun (e : Int) (u : World) => num_any (e := e) (w := u))
    generalize compareS xs bs = r at *
    obtain ⟨⟨p, q⟩, k⟩ := r
    generalize leastS xs = r' at *
    obtain ⟨l, k'⟩ := r'
    clear hK h h' hB
    go_enter Tryd.func7, Tryd.ntmps7
    go_wp2_with fail
    refine hS.out.mono ?_
    rintro e w1 ⟨rfl, b1⟩
    try dsimp only
    clear hS
    go_wp2_with fail
    refine (hR.out _ b1).mono ?_
    rintro e w2 ⟨rfl, b2'⟩
    have b2 := b1.trans (b2'.mono b1.size)
    try dsimp only
    clear hR b1 b2'
    go_wp2_with fail
    refine (hI.out _ b2).mono ?_
    rintro e w3 ⟨rfl, b3'⟩
    have b3 := b2.trans (b3'.mono b2.size)
    try dsimp only
    clear hI b2 b3'
    go_wp2_with fail
    refine (hJ.out _ b3).mono ?_
    rintro e w4 ⟨rfl, b4'⟩
    have B4 := Lib.hid (b3.trans (b4'.mono b3.size))
    have HW := Lib.hid (hW.out _ B4.out)
    try dsimp only
    clear hJ b3 b4' hW
    go_wp2_with (first | (go_at_call 18; refine (hN.out _ _).mono ?_; rintro e w ⟨rfl, rfl⟩) | (go_at_call 14; refine HW.out.mono ?_; rintro e w6 ⟨rfl, b6⟩) | fail)
    go_ret
    exact ⟨rfl, B4.out.trans (b6.mono B4.out.size)⟩
  · have hc : (500 : Int) < (n : Int) ∨ (¬ (500 : Int) < (n : Int) ∧ (500 : Int) < (n' : Int)) := by omega
    have HW := Lib.hid (hW.out w (Below.refl _ _))
    clear hK h h' hW hn hB
    rcases hc with h1 | ⟨h1, h2⟩
    all_goals
      go_enter Tryd.func7, Tryd.ntmps7
      go_wp2_with (first | (go_at_call 14; refine HW.out.mono ?_; rintro e w5 ⟨rfl, b5⟩) | fail)
      go_ret
      exact ⟨rfl, b5⟩
set_option maxRecDepth 100000 in
set_option maxHeartbeats 4000000 in
theorem sums_walk {A A' : Option Addr} {n c n' c' : Nat} {xs ys : List Int} {w : World} (hK : Kinds w) (h : Rd .i64 w w.heap.size A n xs) (h' : Rd .i64 w w.heap.size A' n' ys) :
    Calls Tryd.prog 4 #[.slice A n c, .slice A' n' c'] w fun e w' => e = .returned (.bool true) ∧ Below w.heap.size w w' := by
  have hW := Lib.hid (fun (u : World) (hb : Below w.heap.size w u) => works_any (hK.step hb))
  have hls := h.len
  have hls' := h'.len
  by_cases hn : n ≤ 500 ∧ n' ≤ 500
  · obtain ⟨hn, hn'⟩ := hn
    have hn1 : ¬ (500 : Int) < (n : Int) := by omega
    have hn2 : ¬ (500 : Int) < (n' : Int) := by omega
    obtain ⟨i0, hi, hz0, hz1, hz2⟩ := info_q Tryd.info_int
    obtain ⟨A5, c5, w5, run5, o5, b5⟩ := copy_run_q (P := Tryd.prog) (t := 26) (c := c) Tryd.underlying26 hi hz0 hz1 hz2 (by decide) h (by omega)
    obtain ⟨A6, c6, w6, run6, o6, b6'⟩ := copy_run_q (P := Tryd.prog) (t := 26) (c := c') Tryd.underlying26 hi hz0 hz1 hz2 (by decide) (h'.step b5) (by omega)
    have b6 := b5.trans (b6'.mono b5.size)
    have R5 := (Rd.of_own o5).step b6'
    have R6 := Rd.of_own o6
    have hS := Lib.hid (Sum_any (c := c5) (c2 := c6) (hK.step b6) R5 R6 (by omega) (by omega))
    have hR := Lib.hid (fun (u : World) (hb : Below w.heap.size w u) => refSum_any (c := c) (c2 := c') (h.step hb) (h'.step hb) (by omega) (by omega))
    have hV := Lib.hid (fun (u : World) (hb : Below w.heap.size w u) => Valid_any (c := c) (hK.step hb) (h.step hb) (by omega))
    have hV' := Lib.hid (fun (u : World) (hb : Below w.heap.size w u) => refValid_any (c := c) (h.step hb) (by omega))
    have hN := Lib.hid (fun (e : Int) (u : World) => num_any (e := e) (w := u))
    have hQ := Lib.hid (fun (u : World) (hb : Below w.heap.size w u) => h.step hb)
    have hQ' := Lib.hid (fun (u : World) (hb : Below w.heap.size w u) => h'.step hb)
    have hle := sumS_len xs ys
    rw [hls] at hle
    generalize sumS xs ys = r at *
    obtain ⟨zs, k⟩ := r
    generalize softB xs = sb at *
    dsimp only at hle
    have H5 := Lib.hid run5
    have H6 := Lib.hid run6
    clear hK h h' hls hls' o5 o6 b5 b6' run5 run6
    go_enter Tryd.func4, Tryd.ntmps4
    go_wp2_with (first | (at_builtin; first | (refine Lib.wpList_append_run _ rfl _ _ _ _ rfl _ _ rfl rfl _ _ H5.out ?_; clear H5) | (refine Lib.wpList_append_run _ rfl _ _ _ _ rfl _ _ rfl rfl _ _ H6.out ?_)) | fail)
    refine hS.out.mono ?_
    rintro e w1 ⟨A1, c1, rfl, o1, b1'⟩
    have R1 := Rd.of_own o1
    have R5 := R5.step b1'
    have R6 := R6.step b1'
    have b1 := b6.trans (b1'.mono b6.size)
    try dsimp only at R1 ⊢
    clear hS o1 b1' b6 H6
    go_wp2_with fail
    refine (hR.out _ b1).mono ?_
    rintro e w2 ⟨A2, c2, rfl, o2, b2'⟩
    have R2 := Rd.of_own o2
    have R1 := R1.step b2'
    have R5 := R5.step b2'
    have R6 := R6.step b2'
    have b2 := b1.trans (b2'.mono b1.size)
    try dsimp only at R2 ⊢
    clear hR o2 b1 b2'
    have hs := Lib.hid (sameI_true (c := c1) (c' := c2) R1 R2 (by omega))
    have B2 := Lib.hid b2
    have P5 := Lib.hid R5
    have P6 := Lib.hid R6
    clear R1 R2 R5 R6 b2
    go_wp2_with fail
    refine hs.out.mono ?_
    rintro e w3 ⟨rfl, b3'⟩
    have B3 := Lib.hid (B2.out.trans (b3'.mono B2.out.size))
    have P5 := Lib.hid (P5.out.step b3')
    have P6 := Lib.hid (P6.out.step b3')
    have HV := Lib.hid (hV.out _ B3.out)
    have HV' := Lib.hid (hV'.out _ B3.out)
    have hs5 := Lib.hid (sameI_true (c := c) (c' := c5) (hQ.out _ B3.out) P5.out (by omega))
    clear hs b3' B2 hV hV'
    go_wp2_with (first | (go_at_call 18; refine (hN.out _ _).mono ?_; rintro e w ⟨rfl, rfl⟩) | (go_at_call 19; refine HV.out.mono ?_; rintro e w ⟨rfl, rfl⟩) | (go_at_call 20; refine HV'.out.mono ?_; rintro e w ⟨rfl, rfl⟩) | fail)
    refine hs5.out.mono ?_
    rintro e w4 ⟨rfl, b4'⟩
    have B4 := Lib.hid (B3.out.trans (b4'.mono B3.out.size))
    have hs6 := Lib.hid (sameI_true (c := c') (c' := c6) (hQ'.out _ B4.out) (P6.out.step b4') (by omega))
    clear hs5 b4' B3 HV HV' P5 P6
    go_wp2_with fail
    refine hs6.out.mono ?_
    rintro e w7 ⟨rfl, b7'⟩
    have B7 := Lib.hid (B4.out.trans (b7'.mono B4.out.size))
    have HW := Lib.hid (hW.out _ B7.out)
    clear hs6 b7' B4 hW
    go_wp2_with (first | (go_at_call 14; refine HW.out.mono ?_; rintro e w8 ⟨rfl, b8⟩) | fail)
    go_ret
    exact ⟨rfl, B7.out.trans (b8.mono B7.out.size)⟩
  · have hc : (500 : Int) < (n : Int) ∨ (¬ (500 : Int) < (n : Int) ∧ (500 : Int) < (n' : Int)) := by omega
    have HW := Lib.hid (hW.out w (Below.refl _ _))
    clear hK h h' hW hn hls hls'
    rcases hc with h1 | ⟨h1, h2⟩
    all_goals
      go_enter Tryd.func4, Tryd.ntmps4
      go_wp2_with (first | (go_at_call 14; refine HW.out.mono ?_; rintro e w5 ⟨rfl, b5⟩) | fail)
      go_ret
      exact ⟨rfl, b5⟩
end Go.Proofs.YtkkombhpiagngaaDoor
