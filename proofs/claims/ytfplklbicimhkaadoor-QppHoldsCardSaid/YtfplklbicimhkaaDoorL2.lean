/-
  The laws QppInterleaves's, QppBits's walks.
-/
import Derived.Test.YtfplklbicimhkaaDoorL1
namespace Go.Proofs.YtfplklbicimhkaaDoor
open Go.RowKit

theorem slices_eq (xs : List Int) : (deS xs).2 = (interS xs).2 ∧ (orderS xs.length).2 = (interS xs).2 ∧ (interS xs).1.length ≤ xs.length ∧ (deS xs).1.length ≤ xs.length ∧ (orderS xs.length).1.length = (interS xs).1.length ∧
    ∀ t, t < (interS xs).1.length → ∃ p : Nat, p < xs.length ∧ (orderS xs.length).1[t]?.getD 0 = (p : Int) ∧ (interS xs).1[t]?.getD 0 = xs[p]?.getD 0 := by
  by_cases h : isB (xs.length : Int) = true
  · have hs : IsSize xs.length := by rw [isB_nat] at h; simpa using h
    rw [interS_size hs, deS_size hs, orderS_size hs]
    refine ⟨rfl, rfl, Nat.le_of_eq (interI_length xs), Nat.le_of_eq (putL_length _), by rw [ordI_length, interI_length], fun t ht => ?_⟩
    rw [interI_length] at ht
    refine ⟨piK xs.length t, piK_lt hs t, ordI_pi ht, ?_⟩
    unfold interI
    rw [List.getElem?_map, List.getElem?_range ht]
    rfl
  · have h := Bool.eq_false_iff.2 h
    rw [interS_no h, deS_no h, orderS_no h]
    exact ⟨rfl, rfl, Nat.zero_le _, Nat.zero_le _, rfl, fun t ht => absurd ht (Nat.not_lt_zero t)⟩
set_option maxRecDepth 100000 in
set_option maxHeartbeats 4000000 in
theorem inters_walk {A : Option Addr} {n c : Nat} {xs : List Int} {w : World} (hK : Kinds w) (hI : Rd .i64 w w.heap.size A n xs) :
    Calls Tryd.prog 5 #[.slice A n c] w fun e w' => e = .returned (.bool true) ∧ Below w.heap.size w w' := by
  have hW := Lib.hid (fun (u : World) (h : Below w.heap.size w u) => works_any (hK.step h))
  by_cases hbig : 7000 < n
  · have hd : (7000 : Int) < (n : Int) := by omega
    clear hI
    go_enter Tryd.func5, Tryd.ntmps5
    go_wp2_with fail
    refine (hW.out _ (Below.refl _ _)).mono ?_
    rintro e w1 ⟨rfl, h1⟩
    go_wp2_with fail
    go_ret
    exact ⟨rfl, h1⟩
  · obtain rfl := hI.len
    have hd : ¬ (7000 : Int) < ((xs.length : Nat) : Int) := by omega
    obtain ⟨i0, hi, hz0, hz1, hz2⟩ := info_q Tryd.info_int
    obtain ⟨A2, c2, w2, hrun, hO2, hb2⟩ := copy_run_q (P := Tryd.prog) (c := c) Tryd.underlying33 hi hz0 hz1 hz2 (by decide) hI (by omega)
    obtain ⟨e1, _, l1, l2, _, _⟩ := slices_eq xs
    have HR := Lib.hid hrun
    have RC := Rd.of_own hO2
    have RI := hI.step hb2
    have hIn := Lib.hid (fun (u : World) (B : Option Addr) (cc : Nat) (h : Below w.heap.size w u) (hR : Rd .i64 u u.heap.size B xs.length xs) => Interleave_any (c := cc) (hK.step h) hR)
    have hDe := Lib.hid (fun (u : World) (B : Option Addr) (cc : Nat) (h : Below w.heap.size w u) (hR : Rd .i64 u u.heap.size B xs.length xs) => Deinterleave_any (c := cc) (hK.step h) hR)
    have hrI := Lib.hid (fun (u : World) (B : Option Addr) (cc : Nat) (hR : Rd .i64 u u.heap.size B xs.length xs) => refInter_any (c := cc) hR)
    have hrD := Lib.hid (fun (u : World) (B : Option Addr) (cc : Nat) (hR : Rd .i64 u u.heap.size B xs.length xs) => refDeinter_any (c := cc) hR)
    have hL : xs.length ≤ 7000 := by omega
    obtain ⟨⟨ys, a⟩, hx⟩ : ∃ p, interS xs = p := ⟨_, rfl⟩
    obtain ⟨⟨zs, b⟩, hy⟩ : ∃ p, deS xs = p := ⟨_, rfl⟩
    rw [hx] at hIn hrI e1 l1
    rw [hy] at hDe hrD e1 l2
    clear hx hy
    obtain rfl : b = a := e1
    have l1' : ys.length ≤ 1000000 := Nat.le_trans l1 (by omega)
    have l2' : zs.length ≤ 1000000 := Nat.le_trans l2 (by omega)
    have lx : xs.length ≤ 1000000 := by omega
    clear hI hrun hO2 l1 l2 hbig hL hi hz0 hz1 hz2
    go_enter Tryd.func5, Tryd.ntmps5
    go_wp2_with (at_builtin; refine Lib.wpList_append_run _ rfl _ _ _ _ rfl _ _ rfl rfl _ _ HR.out ?_)
    refine (hIn.out _ _ _ hb2 RC).mono ?_
    rintro e w3 ⟨A3, c3, rfl, o3, h3⟩
    have hb3 := hb2.trans (h3.mono hb2.size)
    have RC3 := RC.step h3
    have RI3 := RI.step h3
    have R33 := Rd.of_own o3
    clear o3 h3 hb2 RC RI
    try dsimp only at R33 ⊢
    go_wp2_with fail
    refine (hDe.out _ _ _ hb3 RC3).mono ?_
    rintro e w4 ⟨A4, c4, rfl, o4, h4⟩
    have hb4 := hb3.trans (h4.mono hb3.size)
    have RC4 := RC3.step h4
    have RI4 := RI3.step h4
    have R34 := R33.step h4
    have R44 := Rd.of_own o4
    clear o4 h4 hb3 RC3 RI3 R33
    try dsimp only at R44 ⊢
    go_wp2_with fail
    refine (hrI.out _ _ _ RI4).mono ?_
    rintro e w5 ⟨A5, c5, rfl, R55, h5⟩
    have hb5 := hb4.trans (h5.mono hb4.size)
    have RC5 := RC4.step h5
    have RI5 := RI4.step h5
    have R35 := R34.step h5
    have R45 := R44.step h5
    clear h5 hb4 RC4 RI4 R34 R44
    try dsimp only at R55 ⊢
    go_wp2_with fail
    refine (hrD.out _ _ _ RI5).mono ?_
    rintro e w6 ⟨A6, c6, rfl, R66, h6⟩
    have hb6 := hb5.trans (h6.mono hb5.size)
    have RC6 := RC5.step h6
    have RI6 := RI5.step h6
    have R36 := R35.step h6
    have R46 := R45.step h6
    have R56 := R55.step h6
    clear h6 hb5 RC5 RI5 R35 R45 R55
    try dsimp only at R66 ⊢
    have s1 := Lib.hid (same_true (c := c3) (c' := c5) l1' R36 R56)
    go_wp2_with fail
    refine s1.out.mono ?_
    rintro e w7 ⟨rfl, j, rfl⟩
    have s2 := Lib.hid (same_true (c := c4) (c' := c6) l2' (R46.drewN j) (R66.drewN j))
    have hb7 := below_drewN hb6 j
    have RC7 := RC6.drewN j
    have RI7 := RI6.drewN j
    clear s1 R36 R46 R56 R66 hb6 RC6 RI6
    generalize w6.drewN j = w7 at *
    go_wp2_with fail
    refine s2.out.mono ?_
    rintro e w8 ⟨rfl, j2, rfl⟩
    have hb8 := below_drewN hb7 j2
    have s3 := Lib.hid (same_true (c := c2) (c' := c) lx (RC7.drewN j2) (RI7.drewN j2))
    clear s2 hb7 RC7 RI7
    generalize w7.drewN j2 = w8 at *
    go_wp2_with (go_at_call 13; refine num_any.mono ?_; rintro e wn ⟨rfl, he⟩; obtain rfl := he.symm)
    refine s3.out.mono ?_
    rintro e w9 ⟨rfl, j3, rfl⟩
    have hb9 := below_drewN hb8 j3
    clear s3 hb8
    go_wp2_with fail
    refine (hW.out _ hb9).mono ?_
    rintro e w10 ⟨rfl, h10⟩
    have hb10 := hb9.trans (h10.mono hb9.size)
    go_wp2_with fail
    go_ret
    exact ⟨rfl, hb10⟩
set_option maxRecDepth 100000 in
set_option maxHeartbeats 4000000 in
theorem bits_walk {A : Option Addr} {n c : Nat} {xs : List Int} {w : World} (hK : Kinds w) (hI : Rd .u8 w w.heap.size A n xs) :
    Calls Tryd.prog 6 #[.slice A n c] w fun e w' => e = .returned (.bool true) ∧ Below w.heap.size w w' := by
  have hW := Lib.hid (fun (u : World) (h : Below w.heap.size w u) => works_any (hK.step h))
  by_cases hbig : 7000 < n
  · have hd : (7000 : Int) < (n : Int) := by omega
    clear hI
    go_enter Tryd.func6, Tryd.ntmps6
    go_wp2_with fail
    refine (hW.out _ (Below.refl _ _)).mono ?_
    rintro e w1 ⟨rfl, h1⟩
    go_wp2_with fail
    go_ret
    exact ⟨rfl, h1⟩
  · obtain rfl := hI.len
    have hd : ¬ (7000 : Int) < ((xs.length : Nat) : Int) := by omega
    obtain ⟨A2, c2, w2, hrun, hO2, hb2⟩ := copy_run (c := c) hI (by omega)
    obtain ⟨_, e1, l1, _, l3, hel⟩ := slices_eq xs
    have HR := Lib.hid hrun
    have RC := Rd.of_own hO2
    have RI := hI.step hb2
    have hIn := Lib.hid (fun (u : World) (B : Option Addr) (cc : Nat) (h : Below w.heap.size w u) (hR : Rd .u8 u u.heap.size B xs.length xs) => Bits_any (c := cc) (hK.step h) hR)
    have hO := Lib.hid (fun (u : World) => refOrder_any (k := (xs.length : Int)) (w := u))
    have hL : xs.length ≤ 7000 := by omega
    obtain ⟨⟨ys, a⟩, hx⟩ : ∃ p, interS xs = p := ⟨_, rfl⟩
    obtain ⟨⟨zs, b⟩, hy⟩ : ∃ p, orderS (xs.length : Int) = p := ⟨_, rfl⟩
    rw [hx] at hIn e1 l1 l3 hel
    rw [hy] at hO e1 l3 hel
    clear hx hy
    obtain rfl : b = a := e1
    have hl3 : zs.length = ys.length := l3
    have hel2 : ∀ t, t < ys.length → ∃ p : Nat, p < xs.length ∧ zs[t]?.getD 0 = (p : Int) ∧ ys[t]?.getD 0 = xs[p]?.getD 0 := hel
    have HEL := Lib.hid hel2
    have l1' : ys.length ≤ 7000 := Nat.le_trans l1 hL
    clear hI hrun hO2 l1 hbig hel hel2 l3
    generalize xs.length = n at *
    obtain ⟨m, hm⟩ : ∃ m, ys.length = m := ⟨_, rfl⟩
    have HM := Lib.hid hm
    have HM2 := Lib.hid (hl3.trans hm)
    rw [hm] at l1' HEL
    clear hm hl3
    go_enter Tryd.func6, Tryd.ntmps6
    go_wp2_with (at_builtin; refine Lib.wpList_append_run _ rfl _ _ _ _ rfl _ _ rfl rfl _ _ HR.out ?_)
    refine (hIn.out _ _ _ hb2 RC).mono ?_
    rintro e w3 ⟨A3, c3, rfl, o3, h3⟩
    have hb3 := hb2.trans (h3.mono hb2.size)
    have RC3 := RC.step h3
    have RI3 := RI.step h3
    have R33 := Rd.of_own o3
    clear o3 h3 hb2 RC RI
    try dsimp only at R33 ⊢
    rw [HM.out] at R33 ⊢
    go_wp2_with fail
    refine (hO.out _).mono ?_
    rintro e w4 ⟨A4, c4, rfl, o4, h4⟩
    have hb4 := hb3.trans (h4.mono hb3.size)
    have RC4 := RC3.step h4
    have RI4 := RI3.step h4
    have R34 := R33.step h4
    have R44 := Rd.of_own o4
    clear o4 h4 hb3 RC3 RI3 R33
    try dsimp only at R44 ⊢
    rw [HM2.out] at R44 ⊢
    have k1 := RC4.convert (P := Tryd.prog) Tryd.underlying43 Tryd.underlying5 c2 9 Tryd.underlying9
    have k2 := RI4.convert (P := Tryd.prog) Tryd.underlying43 Tryd.underlying5 c 9 Tryd.underlying9
    clear RC4
    go_wp2_with (go_at_call 13; refine num_any.mono ?_; rintro e wn ⟨rfl, he⟩; obtain rfl := he.symm)
    go_loopw [8] (fun i wr => ∃ t j : Nat, t ≤ m ∧ i = .int .i64 (t : Int) ∧ wr = w4.drewN j) (fun i _ => m - (intOf i).toNat)
    case atStart => exact ⟨0, 0, Nat.zero_le _, rfl, rfl⟩
    case round =>
      obtain ⟨t, j, ht, rfl, rfl⟩ := hrel
      by_cases hlt : t < m
      · obtain ⟨p, hp, hz, hy⟩ := HEL.out t hlt
        obtain ⟨b1, off1, rfl, _, g1⟩ := R34.cells t hlt
        obtain ⟨b2, off2, rfl, _, g2⟩ := R44.cells t hlt
        obtain ⟨b3, off3, rfl, _, g3⟩ := RI4.cells p hp
        rw [hy] at g1
        rw [hz] at g2
        have g1' : (w4.drewN j).cell? ⟨b1, off1 + t, none⟩ = some (.int .u8 (xs[p]?.getD 0)) := g1
        have g2' : (w4.drewN j).cell? ⟨b2, off2 + t, none⟩ = some (.int .i64 (p : Int)) := g2
        have g3' : (w4.drewN j).cell? ⟨b3, off3 + p, none⟩ = some (.int .u8 (xs[p]?.getD 0)) := g3
        have t0 : (0 : Int) ≤ (t : Int) := by omega
        have t1 : (t : Int) < (m : Int) := by omega
        have p0 : (0 : Int) ≤ (p : Int) := by omega
        have p1 : (p : Int) < (n : Int) := by omega
        generalize xs[p]?.getD 0 = x at *
        clear hz hy R34 R44 RI4 k1 k2
        go_wp2_with fail
        go_quiet (fail)
        go_wp2_with fail
        go_roundw
        case rel => exact ⟨t + 1, _, by omega, by go_num, by first | rfl | exact drewN_two' _ _ _⟩
        case measure => simp [intOf]; omega
      · obtain rfl : t = m := by omega
        have hb5 := below_drewN hb4 j
        clear hlt k1 k2 R34 R44 RI4
        go_wp2_with fail
        refine (hW.out _ hb5).mono ?_
        rintro e w5 ⟨rfl, h5⟩
        have hb6 := hb5.trans (h5.mono hb5.size)
        go_wp2_with fail
        go_ret
        exact ⟨rfl, hb6⟩
end Go.Proofs.YtfplklbicimhkaaDoor
