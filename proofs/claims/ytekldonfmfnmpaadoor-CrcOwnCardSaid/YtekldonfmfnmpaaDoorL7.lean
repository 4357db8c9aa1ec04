/-
  The law CrcMasks's walk.
-/
import Derived.Test.YtekldonfmfnmpaaDoorMm
namespace Go.Proofs.YtekldonfmfnmpaaDoor
open Go.RowKit

theorem masked_cases {xs : List Int} {v : Int} (hx : Bits xs) (hv : 0 ≤ v ∧ v < 65536) : ∃ (rq : List Int) (hq : Int), checkS 3 (maskL (xs ++ crcI 3 xs) v) = (rq, hq) ∧ (((v == 0) = true ∧ (v != 0) = false ∧ hq = 0) ∨ ((v == 0) = false ∧ (v != 0) = true ∧ hq = 11)) := by
  rw [check_masked hx hv]
  by_cases h : v = 0
  · subst h
    exact ⟨xs, 0, rfl, .inl ⟨rfl, rfl, rfl⟩⟩
  · rw [if_neg h]
    exact ⟨[], 11, rfl, .inr ⟨by simpa using h, by simpa using h, rfl⟩⟩
set_option maxRecDepth 100000 in
set_option maxHeartbeats 4000000 in
theorem masks_short {v : Int} {A : Option Addr} {n c : Nat} {xs : List Int} {w : World} (hK : Kinds w) (hI : Rd .u8 w w.heap.size A n xs) (hw : 0 ≤ v ∧ v < 65536) (h2 : n < 16) (hv : validB xs = true) (hx : Bits xs) :
    Calls Tryd.prog 9 #[.slice A n c, .int .u16 v] w fun e w' => e = .returned (.bool true) ∧ Below w.heap.size w w' := by
  have HKn := Lib.hid (fun (u : World) (h : Below w.heap.size w u) => known_any (hK.step h))
  have d1 : decide ((2000 : Int) < (n : Int)) = false := by simp; omega
  have d2 : decide ((n : Int) < 16) = true := by simp; omega
  have HM := Lib.hid (mask_short (c := c) (v := v) hI h2 hv)
  have HVal := Lib.hid (fun (u : World) (h : Below w.heap.size w u) => refValid_any (c := c) (hI.below h) (by omega))
  have HV := Lib.hid hv
  have HA := Lib.hid (fun (u : World) (h : Below w.heap.size w u) => attach_ok (c := c) (k := 3) (hK.step h) (hI.step h) (by omega) (by decide) hv hx)
  have hba := hx.app (crcI_bits 3 xs)
  have hlr : (xs ++ crcI 3 xs).length = n + 16 := by rw [List.length_append, crcI_length, hI.len]; rfl
  have HLR := Lib.hid hlr
  have HMA := Lib.hid (fun (u : World) (A1 : Option Addr) (c1 : Nat) (hr : Rd .u8 u u.heap.size A1 (n + 16) (xs ++ crcI 3 xs)) => mask_any (c := c1) (v := v) hr (by omega) hw)
  rw [maskS_good hba (by omega)] at HMA
  have HLM : Hid ((maskL (xs ++ crcI 3 xs) v).length = n + 16) := Lib.hid (by rw [maskL_length, hlr])
  have HC := Lib.hid (fun (u : World) (A1 : Option Addr) (c1 : Nat) (h : Below w.heap.size w u) (hr : Rd .u8 u u.heap.size A1 (n + 16) (maskL (xs ++ crcI 3 xs) v)) (hc : n + 16 ≤ c1) => check_any (k := 3) (hK.step h) hr (by omega) hc (maskL_bits hba (by omega) hw.1).byte)
  obtain ⟨rq, hq, hck, hcase⟩ := masked_cases hx hw
  rw [hck] at HC
  obtain ⟨lq, hlq⟩ : ∃ l, rq.length = l := ⟨_, rfl⟩
  have HLQ := Lib.hid hlq
  clear hck hlr hba hv hI hK hlq hx
  generalize maskL (xs ++ crcI 3 xs) v = bm at *
  generalize xs ++ crcI 3 xs = a at *
  rcases hcase with ⟨v0, v1, rfl⟩ | ⟨v0, v1, rfl⟩
  all_goals
    go_enter Tryd.func9, Tryd.ntmps9
    go_wp2_with fail
    refine HM.out.mono ?_
    intro e w1 h1
    obtain ⟨A1, c1, rfl, ho1, hb1⟩ := h1.got (n := 0) rfl
    clear h1 ho1
    go_wp2_with fail
    refine (HVal.out _ hb1).mono ?_
    rintro e w2 ⟨rfl, rfl⟩
    rw [HV.out]
    go_wp2_with fail
    refine (HA.out _ hb1).mono ?_
    intro e w2 h2
    obtain ⟨A2, c2, rfl, ho2, hb2⟩ := h2.got HLR.out
    have hr2 := Rd.of_own ho2
    replace hb2 := hb1.trans (hb2.mono hb1.size)
    clear h2 ho2 hb1
    go_wp2_with fail
    refine (HMA.out _ _ _ hr2).mono ?_
    intro e w3 h3
    obtain ⟨A3, c3, rfl, ho3, hb3⟩ := h3.got HLM.out
    have hr3 := Rd.of_own ho3
    have hc3 := own_cap' ho3
    replace hb3 := hb2.trans (hb3.mono hb2.size)
    clear h3 ho3 hb2 hr2
    go_wp2_with fail
    refine (HC.out _ _ _ hb3 hr3 hc3).mono ?_
    intro e w4 h4
    obtain ⟨A4, c4, rfl, ho4, hb4⟩ := h4.got HLQ.out
    replace hb4 := hb3.trans (hb4.mono hb3.size)
    clear h4 ho4 hb3 hr3
    go_wp2_with fail
    refine (HKn.out _ hb4).mono ?_
    rintro e w5 ⟨rfl, hb5⟩
    replace hb5 := hb4.trans (hb5.mono hb4.size)
    go_wp2_with fail
    go_ret
    exact ⟨rfl, hb5⟩
set_option maxRecDepth 100000 in
set_option maxHeartbeats 8000000 in
theorem masks_full {v : Int} {A : Option Addr} {n c : Nat} {xs : List Int} {w : World} (hK : Kinds w) (hI : Rd .u8 w w.heap.size A n xs) (hw : 0 ≤ v ∧ v < 65536) (h2 : n ≤ 2000) (h16 : 16 ≤ n) (hv : validB xs = true) (hx : Bits xs) :
    Calls Tryd.prog 9 #[.slice A n c, .int .u16 v] w fun e w' => e = .returned (.bool true) ∧ Below w.heap.size w w' := by
  have HKn := Lib.hid (fun (u : World) (h : Below w.heap.size w u) => known_any (hK.step h))
  have d1 : decide ((2000 : Int) < (n : Int)) = false := by simp; omega
  have d2 : decide ((n : Int) < 16) = false := by simp; omega
  have hl := hI.len
  have hM := mask_any (c := c) (v := v) hI (by omega) hw
  rw [maskS_good hx (by omega)] at hM
  have HM := Lib.hid hM
  have HML : Hid ((maskL xs v).length = n) := Lib.hid (by rw [maskL_length, hl])
  have HVal := Lib.hid (fun (u : World) (h : Below w.heap.size w u) => refValid_any (c := c) (hI.below h) (by omega))
  have HV := Lib.hid hv
  have HX := Lib.hid hl
  have HI := Lib.hid (fun (u : World) (h : Below w.heap.size w u) => hI.step h)
  have HA := Lib.hid (fun (u : World) (h : Below w.heap.size w u) => attach_ok (c := c) (k := 3) (hK.step h) (hI.step h) (by omega) (by decide) hv hx)
  have hba := hx.app (crcI_bits 3 xs)
  have hlr : (xs ++ crcI 3 xs).length = n + 16 := by rw [List.length_append, crcI_length, hI.len]; rfl
  have HLR := Lib.hid hlr
  have HMA := Lib.hid (fun (u : World) (A1 : Option Addr) (c1 : Nat) (hr : Rd .u8 u u.heap.size A1 (n + 16) (xs ++ crcI 3 xs)) => mask_any (c := c1) (v := v) hr (by omega) hw)
  rw [maskS_good hba (by omega)] at HMA
  have HLM : Hid ((maskL (xs ++ crcI 3 xs) v).length = n + 16) := Lib.hid (by rw [maskL_length, hlr])
  have HC := Lib.hid (fun (u : World) (A1 : Option Addr) (c1 : Nat) (h : Below w.heap.size w u) (hr : Rd .u8 u u.heap.size A1 (n + 16) (maskL (xs ++ crcI 3 xs) v)) (hc : n + 16 ≤ c1) => check_any (k := 3) (hK.step h) hr (by omega) hc (maskL_bits hba (by omega) hw.1).byte)
  have HO := Lib.hid (fun (u : World) (h : Below w.heap.size w u) => own_any (c := c) (hI.step h) (by omega))
  have HMM := Lib.hid (fun (u : World) (A1 : Option Addr) (c1 : Nat) (hr : Rd .u8 u u.heap.size A1 n (maskL xs v)) => mask_any (c := c1) (v := v) hr (by omega) hw)
  rw [maskS_good (maskL_bits hx (by omega) hw.1) (by rw [maskL_length]; omega), maskL_twice hx (by omega) hw.1] at HMM
  have HQ0 := Lib.hid (maskQ_zero xs v)
  have HQF := Lib.hid (maskQ_full (xs := xs) (v := v) (by omega))
  have HQS := Lib.hid (fun k (hk : k < n) => maskQ_succ (xs := xs) (v := v) (k := k) (by omega))
  have HQG := Lib.hid (fun k (hk : k < n) => maskQ_get (xs := xs) (v := v) (k := k) (by omega))
  have HQL := Lib.hid (fun k => maskQ_length xs v k)
  rw [hl] at HQS HQG HQL
  obtain ⟨rq, hq, hck, hcase⟩ := masked_cases hx hw
  rw [hck] at HC
  obtain ⟨lq, hlq⟩ : ∃ l, rq.length = l := ⟨_, rfl⟩
  have HLQ := Lib.hid hlq
  clear hck hlr hba hv hI hK hlq hx hM hl
  generalize maskL (xs ++ crcI 3 xs) v = bm at *
  generalize xs ++ crcI 3 xs = a at *
  generalize maskL xs v = mx at *
  rcases hcase with ⟨v0, v1, rfl⟩ | ⟨v0, v1, rfl⟩
  all_goals
    go_enter Tryd.func9, Tryd.ntmps9
    go_wp2_with fail
    refine HM.out.mono ?_
    intro e w1 h1
    obtain ⟨A1, c1, rfl, ho1, hb1⟩ := h1.got HML.out
    have hr1 := Rd.of_own ho1
    clear h1 ho1 HM
    go_wp2_with fail
    refine (HVal.out _ hb1).mono ?_
    rintro e w2 ⟨rfl, rfl⟩
    rw [HV.out]
    go_wp2_with fail
    refine (HA.out _ hb1).mono ?_
    intro e w2 h2
    obtain ⟨A2, c2, rfl, ho2, hb2⟩ := h2.got HLR.out
    have hr2 := Rd.of_own ho2
    replace hr1 := hr1.step hb2
    replace hb2 := hb1.trans (hb2.mono hb1.size)
    clear h2 ho2 hb1 HA HVal
    go_wp2_with fail
    refine (HMA.out _ _ _ hr2).mono ?_
    intro e w3 h3
    obtain ⟨A3, c3, rfl, ho3, hb3⟩ := h3.got HLM.out
    have hr3 := Rd.of_own ho3
    have hc3 := own_cap' ho3
    replace hr1 := hr1.step hb3
    replace hb3 := hb2.trans (hb3.mono hb2.size)
    clear h3 ho3 hb2 hr2 HMA
    go_wp2_with fail
    refine (HC.out _ _ _ hb3 hr3 hc3).mono ?_
    intro e w4 h4
    obtain ⟨A4, c4, rfl, ho4, hb4⟩ := h4.got HLQ.out
    replace hr1 := hr1.step hb4
    replace hb4 := hb3.trans (hb4.mono hb3.size)
    clear h4 ho4 hb3 hr3 HC hc3
    go_wp2_with fail
    refine (HO.out _ hb4).mono ?_
    rintro e w5 ⟨A5, c5, rfl, ho5, hb5⟩
    obtain ⟨g, cap, hv5, hg1, hg2⟩ := ho5.form (by omega)
    injection hv5 with e1 _ e3
    subst e1 e3
    have HO5 := Lib.hid ho5
    clear ho5 HO hg2
    go_wp2_with fail
    go_loopw [14] (fun s wr => ∃ k : Nat, k ≤ 16 ∧ s = .int .i64 k ∧ Hid (wr.ownsRow w4.heap.size 5 1 (.slice (some ⟨g, 0, none⟩) n c5) n ((maskQ xs v k).map (Value.int .u8))) ∧ Below w4.heap.size w4 wr)
      (fun s _ => 16 - (intOf s).toNat)
    case atStart => exact ⟨0, Nat.zero_le _, rfl, Lib.hid (by rw [HQ0.out]; exact HO5.out), hb5⟩
    case round =>
      clear HO5 hb5
      obtain ⟨k, hk, rfl, hO, hB⟩ := hrel
      by_cases hlt : k < 16
      · have hkn : k < n := by omega
        have hc0 : wr.cell? ⟨g, n - 1 - k, none⟩ = some (.int .u8 (xs[n - 1 - k]?.getD 0)) := by
          rw [hO.out.cellAt (n - 1 - k) (by omega), List.getElem?_map]
          have h1 : n - 1 - k < (maskQ xs v k).length := by rw [HQL.out]; omega
          have h3 := HQG.out k hkn
          rw [List.getElem?_eq_getElem h1] at h3 ⊢
          simp only [Option.getD_some] at h3
          rw [Option.map_some, h3]
        have hf0 := hO.out.frozenAt (n - 1 - k)
        have hST := hO.out.stored (n - 1 - k) (.int .u8 (bits .xor .u8 (xs[n - 1 - k]?.getD 0) (v / 2 ^ k % 2)))
        rw [← List.map_set, ← HQS.out k hkn] at hST
        have HST := Lib.hid hST
        have hq : 0 ≤ v / 2 ^ k ∧ v / 2 ^ k < 65536 := by
          have hp : (0 : Int) < 2 ^ k := Int.pow_pos (by decide)
          exact ⟨Int.ediv_nonneg hw.1 (Int.le_of_lt hp), by have := Int.ediv_le_self (2 ^ k) hw.1; omega⟩
        have hand := and_one_u16' hq.1 hq.2
        obtain ⟨j, hj⟩ : ∃ j, n - 1 - k = j := ⟨_, rfl⟩
        rw [hj] at hc0 hf0 hST HST
        have hk1 : (j : Int) < (n : Int) := by omega
        have hk0 : (0 : Int) ≤ (j : Int) := by omega
        have hk4 : IntKind.i64.wrap ((n : Int) - 1) = (n : Int) - 1 := IntWalk.i64_in _ (by omega)
        have hk2 : IntKind.i64.wrap (j : Int) = (j : Int) := IntWalk.i64_in _ (by omega)
        have hk5 : (n : Int) - 1 - (k : Int) = (j : Int) := by omega
        clear hST hj
        generalize xs[j]?.getD 0 = x at *
        generalize v / 2 ^ k % 2 = y at *
        go_wp2_with fail
        go_still_tail 20, (by kernel_rfl)
        change wpList _ _ _ _ _ wr.drew
        go_wp2_with fail
        go_roundw
        case rel => exact ⟨k + 1, by omega, by go_num, Lib.hid HST.out.1, (hB.setCell (p := ⟨g, j, none⟩) hg1 _).drew⟩
        case measure => simp [intOf]; omega
      · obtain rfl : k = 16 := by omega
        have hO2 := hO.out
        rw [HQF.out] at hO2
        have hr5 := Rd.of_own hO2
        replace hr1 := hr1.step hB
        replace hB := hb4.trans (hB.mono hb4.size)
        have HMM2 := Lib.hid (HMM.out _ A1 c1 hr1)
        clear hlt hO hO2 HQS HQG hb4 HMM
        go_wp2_with fail
        refine HMM2.out.mono ?_
        intro e w6 h6
        obtain ⟨A6, c6, rfl, ho6, hb6⟩ := h6.got HX.out
        have hr6 := Rd.of_own ho6
        replace hr1 := hr1.step hb6
        replace hr5 := hr5.step hb6
        replace hb6 := hB.trans (hb6.mono hB.size)
        have HS := Lib.hid (same_true (c := c1) (c' := c5) hr1 hr5 (by omega))
        clear h6 ho6 hB HMM2 hr1 hr5
        go_wp2_with fail
        refine HS.out.mono ?_
        rintro e w7 ⟨rfl, hb7⟩
        replace hr6 := hr6.step hb7
        replace hb7 := hb6.trans (hb7.mono hb6.size)
        have HS2 := Lib.hid (same_true (c := c6) (c' := c) hr6 (HI.out _ hb7) (by omega))
        clear HS hb6 hr6
        go_wp2_with fail
        refine HS2.out.mono ?_
        rintro e w8 ⟨rfl, hb8⟩
        replace hb8 := hb7.trans (hb8.mono hb7.size)
        clear HS2 hb7
        go_wp2_with fail
        refine (HKn.out _ hb8).mono ?_
        rintro e w9 ⟨rfl, hb9⟩
        replace hb9 := hb8.trans (hb9.mono hb8.size)
        go_wp2_with fail
        go_ret
        exact ⟨rfl, hb9⟩
theorem masks_walk {v : Int} {A : Option Addr} {n c : Nat} {xs : List Int} {w : World} (hK : Kinds w) (hI : Rd .u8 w w.heap.size A n xs) (hx : Byte xs) (hw : 0 ≤ v ∧ v < 65536) :
    Calls Tryd.prog 9 #[.slice A n c, .int .u16 v] w fun e w' => e = .returned (.bool true) ∧ Below w.heap.size w w' := by
  by_cases h2 : 2000 < n
  · have HKn := Lib.hid (fun (u : World) (h : Below w.heap.size w u) => known_any (hK.step h))
    have d1 : decide ((2000 : Int) < (n : Int)) = true := by simp; omega
    go_enter Tryd.func9, Tryd.ntmps9
    go_wp2_with fail
    refine (HKn.out _ (Below.refl _ _)).mono ?_
    rintro e w1 ⟨rfl, hb⟩
    go_wp2_with fail
    go_ret
    exact ⟨rfl, hb⟩
  · by_cases hv : validB xs = true
    · have hb := validB_bits hx hv
      by_cases h16 : n < 16
      · exact masks_short hK hI hw h16 hv hb
      · exact masks_full hK hI hw (by omega) (by omega) hv hb
    · have hv' : validB xs = false := by simpa using hv
      have HKn := Lib.hid (fun (u : World) (h : Below w.heap.size w u) => known_any (hK.step h))
      have d1 : decide ((2000 : Int) < (n : Int)) = false := by simp; omega
      have HM := Lib.hid (mask_bit (c := c) (v := v) hI (by omega) hv')
      have HVal := Lib.hid (fun (u : World) (h : Below w.heap.size w u) => refValid_any (c := c) (hI.below h) (by omega))
      have HV := Lib.hid hv'
      clear hv hv' hI hK
      go_enter Tryd.func9, Tryd.ntmps9
      go_wp2_with fail
      refine HM.out.mono ?_
      intro e w1 h1
      obtain ⟨A1, c1, rfl, ho1, hb1⟩ := h1.got (n := 0) rfl
      clear h1 ho1
      go_wp2_with fail
      refine (HVal.out _ hb1).mono ?_
      rintro e w2 ⟨rfl, rfl⟩
      rw [HV.out]
      go_wp2_with fail
      refine (HKn.out _ hb1).mono ?_
      rintro e w3 ⟨rfl, hb3⟩
      replace hb3 := hb1.trans (hb3.mono hb1.size)
      go_wp2_with fail
      go_ret
      exact ⟨rfl, hb3⟩
end Go.Proofs.YtekldonfmfnmpaaDoor
