/-
  The law QppHolds's walk.
-/
import Derived.Test.YtfplklbicimhkaaDoorL2
namespace Go.Proofs.YtfplklbicimhkaaDoor
open Go.RowKit

/-- Deinterleaving what was interleaved. -/
theorem de_inter {xs : List Int} (h : IsSize xs.length) : deS (interI xs) = (xs, 0) := by
  have hl := interI_length xs
  have h' : IsSize (interI xs).length := by rw [hl]; exact h
  rw [deS_size h']
  congr 1
  unfold deI
  rw [hl]
  refine list_ext0 (by rw [putL_length]) fun x hx => ?_
  obtain ⟨i, hi, rfl⟩ := surj_of_inj (f := piK xs.length) (fun i _ => piK_lt h i) (piK_inj h) hx
  rw [putL_at xs.length hi hx (piK_inj h)]
  unfold interI
  rw [List.getElem?_map, List.getElem?_range hi]
  rfl
/-- What Order hands back, whatever came in. -/
structure OrdOf (k : Int) (zs : List Int) (no : Int) (m : Nat) (p : Nat → Nat) : Prop where
  no : (no == 0) = isB k
  len : zs.length = m
  le : m ≤ 6144
  k : 0 < m → k = m
  at_ : ∀ t, t < m → zs[t]?.getD 0 = ((p t : Nat) : Int)
  lt : ∀ t, t < m → p t < m
  inj : ∀ a b, a < m → b < m → p a = p b → a = b
  par : ∀ t, t < m → p t % 2 = t % 2
  zero : p 0 = 0
theorem ordOf (k : Int) : ∃ zs no m p, orderS k = (zs, no) ∧ OrdOf k zs no m p := by
  by_cases h : isB k = true
  · obtain ⟨m, rfl, hs⟩ := isB_ex h
    rw [orderS_size hs]
    refine ⟨_, _, m, piK m, rfl, ⟨by rw [h]; rfl, ordI_length _ _, (size_le hs).2, fun _ => rfl, fun t ht => ordI_pi ht, fun t _ => piK_lt hs t, piK_inj hs, fun t _ => piN_parity (qpOk_size hs) t, piN_zero⟩⟩
  · have h := Bool.eq_false_iff.2 h
    rw [orderS_no h]
    exact ⟨_, _, 0, fun i => i, rfl, ⟨by rw [h]; rfl, rfl, by decide, fun h => absurd h (Nat.lt_irrefl 0), fun t ht => absurd ht (Nat.not_lt_zero t), fun t ht => ht, fun _ _ _ _ e => e, fun _ _ => rfl, rfl⟩⟩
set_option maxRecDepth 100000 in
set_option maxHeartbeats 8000000 in
theorem holds_walk {A : Option Addr} {n c : Nat} {k : Int} {xs : List Int} {w : World} (hK : Kinds w) (hI : Rd .i64 w w.heap.size A n xs) :
    Calls Tryd.prog 9 #[.int .i64 k, .slice A n c] w fun e w' => e = .returned (.bool true) ∧ Below w.heap.size w w' := by
  have hW := Lib.hid (fun (u : World) (h : Below w.heap.size w u) => works_any (hK.step h))
  by_cases hbig : 7000 < n
  · have hd : (7000 : Int) < (n : Int) := by omega
    clear hI
    go_enter Tryd.func9, Tryd.ntmps9
    go_wp2_with fail
    refine (hW.out _ (Below.refl _ _)).mono ?_
    rintro e w1 ⟨rfl, h1⟩
    go_wp2_with fail
    go_ret
    exact ⟨rfl, h1⟩
  · obtain rfl := hI.len
    have hd : ¬ (7000 : Int) < ((xs.length : Nat) : Int) := by omega
    have hL : xs.length ≤ 7000 := by omega
    have hO := Lib.hid (Order_any (k := k) hK)
    obtain ⟨zs, no, m, p, ho, hZ⟩ := ordOf k
    rw [ho] at hO
    have HZ := Lib.hid hZ
    have hno := hZ.no
    have hV := Lib.hid (fun (u : World) => refValid_any (n := k) (w := u))
    have hVl := Lib.hid (fun (u : World) => refValid_any (n := (xs.length : Int)) (w := u))
    have hIn := Lib.hid (fun (u : World) (h : Below w.heap.size w u) (hR : Rd .i64 u u.heap.size A xs.length xs) => Interleave_any (c := c) (hK.step h) hR)
    have hDe := Lib.hid (fun (u : World) (B : Option Addr) (cc : Nat) (ys : List Int) (h : Below w.heap.size w u) (hR : Rd .i64 u u.heap.size B ys.length ys) => Deinterleave_any (c := cc) (hK.step h) hR)
    have hmk := make_ints m (by have := hZ.le; omega)
    have hm := hZ.le
    generalize isB k = bk at *
    clear ho hZ hbig
    go_enter Tryd.func9, Tryd.ntmps9
    go_wp2_with fail
    refine hO.out.mono ?_
    rintro e w1 ⟨A1, c1, rfl, o1, hb1⟩
    have R1 := Rd.of_own o1
    have RI1 := hI.step hb1
    try dsimp only at R1 ⊢
    rw [HZ.out.len] at R1 ⊢
    clear o1 hI
    go_wp2_with (first | (go_at_call 13; refine num_any.mono ?_; rintro e wn ⟨rfl, he⟩; obtain rfl := he.symm) | (go_at_call 29; refine (hV.out _).mono ?_; rintro e wn ⟨rfl, he⟩; obtain rfl := he.symm))
    have HS0 := Lib.hid (own_zeros_q (q := .i64) (T := 3) (w := w1) (B := w1.heap.size) (n := m) (Nat.le_refl _) (by omega))
    have HB0 := Lib.hid ((Below.refl w1.heap.size w1).alloc (Nat.le_refl _) (.cells (madeCells #[.int .i64 0] m) 3))
    clear hmk
    go_loopw [8] (fun i wr => ∃ t : Nat, t ≤ m ∧ i = .int .i64 (t : Int) ∧ Hid (wr.ownsRow w1.heap.size 3 1 (.slice (some ⟨w1.heap.size, 0, none⟩) m m) m ((putL p (fun _ => 1) m t).map (Value.int .i64))) ∧ Hid (Below w1.heap.size w1 wr)) (fun i _ => m - (intOf i).toNat)
    case atStart => exact ⟨0, Nat.zero_le _, rfl, HS0, HB0⟩
    case round =>
      clear HS0 HB0
      obtain ⟨t, ht, rfl, hS, hB⟩ := hrel
      by_cases hlt : t < m
      · obtain ⟨b, off, rfl, hb, hc⟩ := (R1.below hB.out).cells t hlt
        rw [HZ.out.at_ t hlt] at hc
        have hpl := HZ.out.lt t hlt
        have hpar := HZ.out.par t hlt
        have hkm := HZ.out.k (by omega)
        have c0 : wr.cell? ⟨w1.heap.size, p t, none⟩ = some (.int .i64 0) := by
          rw [World.ownsRow.cellAt hS.out _ (by omega), List.getElem?_map, List.getElem?_eq_getElem (by rw [putL_length]; exact hpl)]
          have := putL_no (f := p) (g := fun _ => 1) (n := m) (x := p t) t (fun i hi e => by
            have := HZ.out.inj i t (by omega) hlt e
            omega)
          rw [List.getElem?_eq_getElem (by rw [putL_length]; exact hpl), Option.getD_some] at this
          rw [this]
          rfl
        have f0 := hS.out.frozenAt (p t)
        have hS2 := Lib.hid (putL_set hS.out)
        have hB2 := Lib.hid (hB.out.setCell (p := ⟨w1.heap.size, p t, none⟩) (Nat.le_refl _) (.int .i64 1))
        obtain ⟨q, hq⟩ : ∃ q : Nat, t % 2 = q := ⟨_, rfl⟩
        have e1 : ((p t : Nat) : Int) % 2 = (q : Int) := by omega
        have e2 : (t : Int) % 2 = (q : Int) := by omega
        have t0 : (0 : Int) ≤ (t : Int) := by omega
        have t1 : (t : Int) < (m : Int) := by omega
        have p0 : (0 : Int) ≤ ((p t : Nat) : Int) := by omega
        have p1 : ((p t : Nat) : Int) < (m : Int) := by omega
        have d1 : decide (((p t : Nat) : Int) < 0) = false := by simp
        have d2 : decide (k ≤ ((p t : Nat) : Int)) = false := by simp; omega
        have hz0 : t = 0 → p t = 0 := fun e => by rw [e]; exact HZ.out.zero
        by_cases hz : t = 0
        · have d3 : ((t : Int) == 0) = true := by simp [hz]
          have d4 : (((p t : Nat) : Int) != 0) = false := by simp [hz0 hz]
          generalize p t = x at *
          clear hS hB hpar hkm hz hz0 hq
          go_wp2_with fail
          go_roundw
          case rel => exact ⟨t + 1, by omega, by go_num, hS2, hB2⟩
          case measure => simp [intOf]; omega
        · have d3 : ((t : Int) == 0) = false := by simp [hz]
          generalize p t = x at *
          clear hS hB hpar hkm hz hz0 hq
          go_wp2_with fail
          go_roundw
          case rel => exact ⟨t + 1, by omega, by go_num, hS2, hB2⟩
          case measure => simp [intOf]; omega
      · obtain rfl : t = m := by omega
        have hb2 := hb1.trans (hB.out.mono hb1.size)
        have RI2 := RI1.step hB.out
        clear hlt hS hB R1 RI1 hb1
        go_wp2_with fail
        refine (hIn.out _ hb2 RI2).mono ?_
        rintro e w3 ⟨A3, c3, rfl, o3, h3⟩
        have hb3 := hb2.trans (h3.mono hb2.size)
        have RI3 := RI2.step h3
        have R33 := Rd.of_own o3
        clear o3 h3 hb2 RI2
        by_cases hs : isB (xs.length : Int) = true
        · have hs' : IsSize xs.length := by rw [isB_nat] at hs; simpa using hs
          have HX := Lib.hid (interI_length xs)
          rw [interS_size hs'] at R33 ⊢
          try dsimp only at R33 ⊢
          have hDE := Lib.hid (fun (u : World) (B : Option Addr) (cc : Nat) (h : Below w.heap.size w u) (hR : Rd .i64 u u.heap.size B (interI xs).length (interI xs)) => hDe.out u B cc (interI xs) h hR)
          rw [de_inter hs'] at hDE
          clear hs hs' hVl hDe hIn
          go_wp2_with (go_at_call 13; refine num_any.mono ?_; rintro e wn ⟨rfl, he⟩; obtain rfl := he.symm)
          refine (hDE.out _ _ _ hb3 R33).mono ?_
          rintro e w4 ⟨A4, c4, rfl, o4, h4⟩
          have hb4 := hb3.trans (h4.mono hb3.size)
          have RI4 := RI3.step h4
          have R44 := Rd.of_own o4
          clear o4 h4 hb3 RI3 R33
          try dsimp only at R44 ⊢
          have s1 := Lib.hid (same_true (c := c4) (c' := c) (by omega) R44 RI4)
          clear R44 RI4
          go_wp2_with (go_at_call 13; refine num_any.mono ?_; rintro e wn ⟨rfl, he⟩; obtain rfl := he.symm)
          refine s1.out.mono ?_
          rintro e w5 ⟨rfl, j, rfl⟩
          have hb5 := below_drewN hb4 j
          go_wp2_with fail
          refine (hW.out _ hb5).mono ?_
          rintro e w6 ⟨rfl, h6⟩
          have hb6 := hb5.trans (h6.mono hb5.size)
          go_wp2_with fail
          go_ret
          exact ⟨rfl, hb6⟩
        · have hs := Bool.eq_false_iff.2 hs
          rw [hs] at hVl
          rw [interS_no hs] at R33 ⊢
          clear hs hDe hIn
          try dsimp only at R33 ⊢
          go_wp2_with (first | (go_at_call 13; refine num_any.mono ?_; rintro e wn ⟨rfl, he⟩; obtain rfl := he.symm) | (go_at_call 29; refine (hVl.out _).mono ?_; rintro e wn ⟨rfl, he⟩; obtain rfl := he.symm))
          refine (hW.out _ hb3).mono ?_
          rintro e w6 ⟨rfl, h6⟩
          have hb6 := hb3.trans (h6.mono hb3.size)
          go_wp2_with fail
          go_ret
          exact ⟨rfl, hb6⟩
end Go.Proofs.YtfplklbicimhkaaDoor
