/-
  The walk of SoftHolds (made by tools/genL4h.py).
-/
import Derived.Test.YtkkombhpiagngaaDoorL2
namespace Go.Proofs.YtkkombhpiagngaaDoor
open Go.RowKit Go.Shelf

theorem valid_mem {bs : List Int} (hB : Byte bs) (hv : validB bs = true) : ∀ b ∈ bs, b = 0 ∨ b = 1 := fun b hb => by
  obtain ⟨j, hj, rfl⟩ := List.getElem_of_mem hb
  have := valid_bit hB hv j
  rw [List.getElem?_eq_getElem hj] at this
  exact this
theorem idealI_get {m : Int} {bs : List Int} {j : Nat} (h : j < bs.length) : (idealI m bs)[j]?.getD 0 = idealE m (bs[j]?.getD 0) := by
  unfold idealI
  rw [List.getElem?_map, List.getElem?_eq_getElem h]; rfl
theorem idealI_length (m : Int) (bs : List Int) : (idealI m bs).length = bs.length := by simp [idealI]
theorem ideal_soft {m : Int} {bs : List Int} (hm : 0 ≤ m ∧ m ≤ 127) (hb : ∀ b ∈ bs, b = 0 ∨ b = 1) : softB (idealI m bs) = true := by
  unfold softB idealI
  rw [List.all_eq_true]
  intro x hx
  obtain ⟨b, hb', rfl⟩ := List.mem_map.1 hx
  have : -127 ≤ idealE m b ∧ idealE m b ≤ 127 := by
    unfold idealE
    rcases hb b hb' with rfl | rfl <;> omega
  simp [this.1, this.2]
theorem sum_soft (a b : List Int) : softB (sumI a b) = true := by
  unfold softB sumI
  rw [List.all_eq_true]
  intro x hx
  obtain ⟨i, _, rfl⟩ := List.mem_map.1 hx
  have := addI_range (a[i]?.getD 0) (b[i]?.getD 0)
  simp [this.1, this.2]
theorem sumI_get {a b : List Int} {j : Nat} (h : j < a.length) : (sumI a b)[j]?.getD 0 = addI (a[j]?.getD 0) (b[j]?.getD 0) := by
  unfold sumI
  rw [List.getElem?_map, List.getElem?_range h]; rfl
theorem sumI_length (a b : List Int) : (sumI a b).length = a.length := by simp [sumI]
/-- What the law compares: all of the stage's theorem about ideal soft values. -/
theorem holds_math {m : Int} {xs bs : List Int} {n : Nat} (hm : 1 ≤ m ∧ m ≤ 127) (hB : Byte bs) (hv : validB bs = true) (hs : softB xs = true) (hx : xs.length = n) (hb : bs.length = n) :
    idealS bs m = (idealI m bs, 0) ∧ hardS (idealI m bs) = (bs, 0) ∧ compareS (idealI m bs) bs = ((0, 0), 0) ∧ compareS xs bs = ((wrongN xs bs n, unkN xs n), 0) ∧
      sumS xs (idealI m bs) = (sumI xs (idealI m bs), 0) ∧ compareS (sumI xs (idealI m bs)) bs = ((wrongN (sumI xs (idealI m bs)) bs n, unkN (sumI xs (idealI m bs)) n), 0) ∧ wrongN (sumI xs (idealI m bs)) bs n ≤ wrongN xs bs n := by
  have hmem := valid_mem hB hv
  have hso := ideal_soft (m := m) (bs := bs) ⟨by omega, hm.2⟩ hmem
  have hat := fun (j : Nat) => valid_bit hB hv j
  refine ⟨?_, ?_, ?_, ?_, ?_, ?_, ?_⟩
  · unfold idealS; rw [if_pos (by simp; omega), if_pos hv]
  · unfold hardS; rw [if_pos hso, hard_ideal hm.1 hmem]
  · unfold compareS
    rw [if_pos (by rw [hso, idealI_length]; simp), if_pos hv, idealI_length]
    rw [wrong_zero (fun i hi => by rw [idealI_get hi]; exact (ideal_wr hm.1 (hat i)).1), unk_zero (fun i hi => by rw [idealI_get hi]; exact (ideal_wr hm.1 (hat i)).2)]
  · unfold compareS; rw [if_pos (by rw [hs, hx, hb]; simp), if_pos hv, hx]
  · unfold sumS; rw [if_pos (by rw [hs, hso, idealI_length, hx, hb]; simp)]
  · unfold compareS; rw [if_pos (by rw [sum_soft, sumI_length, hx, hb]; simp), if_pos hv, sumI_length, hx]
  · refine wrong_mono fun i hi h => ?_
    rw [sumI_get (by omega), idealI_get (by omega)] at h
    exact add_wr hm.1 hm.2 (hat i) (softB_at hs i) h
set_option maxRecDepth 100000 in
set_option maxHeartbeats 8000000 in
theorem holds_in {A A' : Option Addr} {n c n' c' : Nat} {a b d m : Int} {xs bs : List Int} {w : World} (hK : Kinds w) (hI : Rd .i64 w w.heap.size A n xs) (hI' : Rd .u8 w w.heap.size A' n' bs) (hB : Byte bs) (hn : n ≤ 300) (hn' : n' ≤ 2000000) :
    Calls Tryd.prog 9 #[.int .i64 a, .int .i64 b, .int .i64 d, .slice A n c, .slice A' n' c', .int .i64 m] w fun e w' => e = .returned (.bool true) ∧ Below w.heap.size w w' := by
  have hn1 : ¬ (300 : Int) < (n : Int) := by omega
  have hA := Lib.hid (fun (p q : Int) => Add_any (a := p) (b := q) hK)
  have hC := Lib.hid (Clamp_any (v := a) hK)
  have e1 : addI b a = addI a b := addI_comm b a
  have e2 := Lib.hid (fun h : a ≤ d => addI_mono b h)
  have e3 := addI_zero a
  have e4 := addI_range a b
  have f4 : ¬ (127 < addI a b) := by omega
  have f5 : ¬ (addI a b < -127) := by omega
  have hS := Lib.hid (fun h => addI_assoc (a := a) (b := b) (c := d) h)
  have HK := Lib.hid hK; have HI := Lib.hid hI; have HI' := Lib.hid hI'; have HB := Lib.hid hB
  clear e4 hK hI hI' hB
  go_enter Tryd.func9, Tryd.ntmps9
  go_upto_region 4 with (first
    | (go_at_call 12; with_reducible refine (hA.out _ _).mono ?_; rintro e w ⟨rfl, rfl⟩)
    | fail)
  rename_i K2 hK2 K3 hK3
  have hT4 : Hid (∀ (a' : Act) (v : Nat → Value), v = (fun i => a'.tmps.getD i undef) → a' = { tmps := List.toArray ((.int .i64 a) :: (.int .i64 b) :: (.int .i64 d) :: (.slice A n c) :: (.slice A' n' c') :: (.int .i64 m) :: (v 6) :: (v 7) :: (v 8) :: (v 9) :: (v 10) :: (v 11) :: (v 12) :: (.int .i64 (addI a b)) :: (v 14) :: (v 15) :: (v 16) :: (v 17) :: (v 18) :: (v 19) :: (v 20) :: (v 21) :: (v 22) :: (v 23) :: (v 24) :: (v 25) :: (v 26) :: (v 27) :: (v 28) :: (v 29) :: (v 30) :: (v 31) :: (v 32) :: (v 33) :: (v 34) :: (v 35) :: (v 36) :: (v 37) :: (v 38) :: (v 39) :: (v 40) :: (v 41) :: (v 42) :: (v 43) :: (v 44) :: (v 45) :: (v 46) :: (v 47) :: (v 48) :: (v 49) :: (v 50) :: (v 51) :: (v 52) :: (v 53) :: (v 54) :: (v 55) :: (v 56) :: (v 57) :: (v 58) :: (v 59) :: (v 60) :: (v 61) :: (v 62) :: (v 63) :: (v 64) :: (v 65) :: (v 66) :: (v 67) :: (v 68) :: (v 69) :: (v 70) :: (v 71) :: (v 72) :: (v 73) :: (v 74) :: (v 75) :: (v 76) :: (v 77) :: (v 78) :: (v 79) :: (v 80) :: (v 81) :: (v 82) :: (v 83) :: (v 84) :: (v 85) :: (v 86) :: (v 87) :: (v 88) :: (v 89) :: (v 90) :: (v 91) :: (v 92) :: (v 93) :: (v 94) :: (v 95) :: (v 96) :: (v 97) :: (v 98) :: (v 99) :: (v 100) :: (v 101) :: (v 102) :: (v 103) :: (v 104) :: (v 105) :: (v 106) :: (v 107) :: (v 108) :: (v 109) :: (v 110) :: (v 111) :: (v 112) :: (v 113) :: (v 114) :: (v 115) :: (v 116) :: (v 117) :: (v 118) :: (v 119) :: (v 120) :: (v 121) :: (v 122) :: (v 123) :: (v 124) :: (v 125) :: (v 126) :: (v 127) :: (v 128) :: (v 129) :: (v 130) :: (v 131) :: (v 132) :: (v 133) :: (v 134) :: (v 135) :: (v 136) :: (v 137) :: (v 138) :: (v 139) :: (v 140) :: (v 141) :: (v 142) :: (v 143) :: (v 144) :: (v 145) :: (v 146) :: (v 147) :: (v 148) :: (v 149) :: (v 150) :: (v 151) :: (v 152) :: (v 153) :: (v 154) :: (v 155) :: (v 156) :: (v 157) :: (v 158) :: (v 159) :: (v 160) :: (v 161) :: (v 162) :: (v 163) :: (v 164) :: (v 165) :: (v 166) :: (v 167) :: (v 168) :: (v 169) :: (v 170) :: (v 171) :: (v 172) :: (v 173) :: (v 174) :: (v 175) :: (v 176) :: (v 177) :: (v 178) :: (v 179) :: (v 180) :: (v 181) :: (v 182) :: (v 183) :: (v 184) :: (v 185) :: (v 186) :: (v 187) :: (v 188) :: (v 189) :: (v 190) :: (v 191) :: (v 192) :: (v 193) :: []), defers := [] } → K2 a' w) := Lib.hid (by
    intro a' v hv ha
    clear hv
    subst ha
    refine hK2 _ _ ?_
    clear hK2 hK3 K2 K3
    go_upto_region 6 with fail
    rename_i K4 hK4 K5 hK5
    have hT9 : Hid (∀ (a' : Act) (v : Nat → Value), v = (fun i => a'.tmps.getD i undef) → a' = { tmps := List.toArray ((v 0) :: (v 1) :: (v 2) :: (.slice A n c) :: (.slice A' n' c') :: (.int .i64 m) :: (v 6) :: (v 7) :: (v 8) :: (v 9) :: (v 10) :: (v 11) :: (v 12) :: (v 13) :: (v 14) :: (v 15) :: (v 16) :: (v 17) :: (v 18) :: (v 19) :: (v 20) :: (v 21) :: (v 22) :: (v 23) :: (v 24) :: (v 25) :: (v 26) :: (v 27) :: (v 28) :: (v 29) :: (v 30) :: (v 31) :: (v 32) :: (v 33) :: (v 34) :: (v 35) :: (v 36) :: (v 37) :: (v 38) :: (v 39) :: (v 40) :: (v 41) :: (v 42) :: (v 43) :: (v 44) :: (v 45) :: (v 46) :: (v 47) :: (v 48) :: (v 49) :: (v 50) :: (v 51) :: (v 52) :: (v 53) :: (v 54) :: (v 55) :: (v 56) :: (v 57) :: (v 58) :: (v 59) :: (v 60) :: (v 61) :: (v 62) :: (v 63) :: (v 64) :: (v 65) :: (v 66) :: (v 67) :: (v 68) :: (v 69) :: (v 70) :: (v 71) :: (v 72) :: (v 73) :: (v 74) :: (v 75) :: (v 76) :: (v 77) :: (v 78) :: (v 79) :: (v 80) :: (v 81) :: (v 82) :: (v 83) :: (v 84) :: (v 85) :: (v 86) :: (v 87) :: (v 88) :: (v 89) :: (v 90) :: (v 91) :: (v 92) :: (v 93) :: (v 94) :: (v 95) :: (v 96) :: (v 97) :: (v 98) :: (v 99) :: (v 100) :: (v 101) :: (v 102) :: (v 103) :: (v 104) :: (v 105) :: (v 106) :: (v 107) :: (v 108) :: (v 109) :: (v 110) :: (v 111) :: (v 112) :: (v 113) :: (v 114) :: (v 115) :: (v 116) :: (v 117) :: (v 118) :: (v 119) :: (v 120) :: (v 121) :: (v 122) :: (v 123) :: (v 124) :: (v 125) :: (v 126) :: (v 127) :: (v 128) :: (v 129) :: (v 130) :: (v 131) :: (v 132) :: (v 133) :: (v 134) :: (v 135) :: (v 136) :: (v 137) :: (v 138) :: (v 139) :: (v 140) :: (v 141) :: (v 142) :: (v 143) :: (v 144) :: (v 145) :: (v 146) :: (v 147) :: (v 148) :: (v 149) :: (v 150) :: (v 151) :: (v 152) :: (v 153) :: (v 154) :: (v 155) :: (v 156) :: (v 157) :: (v 158) :: (v 159) :: (v 160) :: (v 161) :: (v 162) :: (v 163) :: (v 164) :: (v 165) :: (v 166) :: (v 167) :: (v 168) :: (v 169) :: (v 170) :: (v 171) :: (v 172) :: (v 173) :: (v 174) :: (v 175) :: (v 176) :: (v 177) :: (v 178) :: (v 179) :: (v 180) :: (v 181) :: (v 182) :: (v 183) :: (v 184) :: (v 185) :: (v 186) :: (v 187) :: (v 188) :: (v 189) :: (v 190) :: (v 191) :: (v 192) :: (v 193) :: []), defers := [] } → K4 a' w) := Lib.hid (by
      intro a' v hv ha
      clear hv
      subst ha
      refine hK4 _ _ ?_
      clear hK4 hK5 K4 K5 e1 e2 e3 f4 f5 hA hC hS
      have hW := Lib.hid (fun (u : World) (h : Below w.heap.size w u) => works_any (HK.out.step h))
      have hN := Lib.hid (fun (e : Int) (u : World) => num_any (e := e) (w := u))
      have hV := Lib.hid (fun (u : World) (h : Below w.heap.size w u) => refValid_any (c := c) (HI.out.step h) (by omega))
      have hD := Lib.hid (Ideal_any (c := c') (m := m) HK.out HI'.out HB.out hn')
      have hls := HI.out.len
      have hls' := HI'.out.len
      by_cases h0 : (idealS bs m).2 = 0
      · have hms : 0 ≤ m ∧ m ≤ 127 ∧ validB bs = true := by
          unfold idealS at h0
          by_cases h1 : (decide (0 ≤ m) && decide (m ≤ 127)) = true
          · rw [if_pos h1] at h0
            by_cases h2 : validB bs = true
            · simp at h1; exact ⟨h1.1, h1.2, h2⟩
            · rw [if_neg h2] at h0; cases h0
          · rw [if_neg h1] at h0; cases h0
        obtain ⟨m0, m1, hv⟩ := hms
        have hid : idealS bs m = (idealI m bs, 0) := by unfold idealS; rw [if_pos (by simp; omega), if_pos hv]
        by_cases hmain : 1 ≤ m ∧ softB xs = true ∧ n = n'
        · obtain ⟨mm, hs, hnn⟩ := hmain
          subst hnn
          obtain ⟨g1, g2, g3, g4, g5, g6, g7⟩ := holds_math ⟨mm, m1⟩ HB.out hv hs hls hls'
          have hil : Hid ((idealI m bs).length = n) := Lib.hid (by rw [idealI_length, hls'])
          have hsl : Hid ((sumI xs (idealI m bs)).length = n) := Lib.hid (by rw [sumI_length, hls])
          have hbl := Lib.hid hls'
          rw [g1] at hD
          rw [hs] at hV
          have hH := Lib.hid (fun (u : World) (A1 : Option Addr) (c1 : Nat) (hb : Below w.heap.size w u) (hR : Rd .i64 u u.heap.size A1 n (idealI m bs)) => Hard_any (c := c1) (HK.out.step hb) hR (by omega))
          have hCi := Lib.hid (fun (u : World) (A1 : Option Addr) (c1 : Nat) (hb : Below w.heap.size w u) (hR : Rd .i64 u u.heap.size A1 n (idealI m bs)) => Compare_any (c := c1) (c2 := c') (HK.out.step hb) hR (HI'.out.step hb) (by omega) (by omega) HB.out)
          have hCl := Lib.hid (fun (u : World) (hb : Below w.heap.size w u) => Compare_any (c := c) (c2 := c') (HK.out.step hb) (HI.out.step hb) (HI'.out.step hb) (by omega) (by omega) HB.out)
          have hSm := Lib.hid (fun (u : World) (A1 : Option Addr) (c1 : Nat) (hb : Below w.heap.size w u) (hR : Rd .i64 u u.heap.size A1 n (idealI m bs)) => Sum_any (c := c) (c2 := c1) (HK.out.step hb) (HI.out.step hb) hR (by omega) (by omega))
          have hCs := Lib.hid (fun (u : World) (A1 : Option Addr) (c1 : Nat) (hb : Below w.heap.size w u) (hR : Rd .i64 u u.heap.size A1 n (sumI xs (idealI m bs))) => Compare_any (c := c1) (c2 := c') (HK.out.step hb) hR (HI'.out.step hb) (by omega) (by omega) HB.out)
          rw [g2] at hH
          rw [g3] at hCi
          rw [g4] at hCl
          rw [g5] at hSm
          rw [g6] at hCs
          dsimp only at hCi hCl hCs
          have hle : ((wrongN (sumI xs (idealI m bs)) bs n : Nat) : Int) ≤ ((wrongN xs bs n : Nat) : Int) := by omega
          generalize wrongN (sumI xs (idealI m bs)) bs n = p1 at *
          generalize unkN (sumI xs (idealI m bs)) n = p2 at *
          generalize wrongN xs bs n = p3 at *
          generalize unkN xs n = p4 at *
          generalize sumI xs (idealI m bs) = ss at *
          generalize idealI m bs = is at *
          have mm' : ¬ (m < 1) := by omega
          clear h0 hid g1 g2 g3 g4 g5 g6 g7 hs hv hls hls' mm
          go_wp2_with fail
          refine hD.out.mono ?_
          rintro e w1 he
          obtain ⟨A1, c1, rfl, o1, b1⟩ := he.got hil.out
          have R1 := Rd.of_own o1
          have HV := Lib.hid (hV.out _ b1)
          have HH := Lib.hid (hH.out _ A1 c1 b1 R1)
          clear he o1 hD hV hH
          go_wp2_with (first | (go_at_call 18; refine (hN.out _ _).mono ?_; rintro e w ⟨rfl, rfl⟩) | (go_at_call 20; refine HV.out.mono ?_; rintro e w ⟨rfl, rfl⟩) | fail)
          refine HH.out.mono ?_
          rintro e w2 he
          obtain ⟨A2, c2, rfl, o2, b2'⟩ := he.got hbl.out
          have R2 := Rd.of_own o2
          have R1 := R1.step b2'
          have b2 := b1.trans (b2'.mono b1.size)
          have HC := Lib.hid (hCi.out _ A1 c1 b2 R1)
          clear he o2 b1 b2' HH hCi HV
          go_wp2_with fail
          refine HC.out.mono ?_
          rintro e w3 ⟨rfl, b3'⟩
          have R1 := R1.step b3'
          have R2 := R2.step b3'
          have b3 := b2.trans (b3'.mono b2.size)
          have HC := Lib.hid (hCl.out _ b3)
          clear b2 b3' hCl
          try dsimp only
          go_wp2_with fail
          refine HC.out.mono ?_
          rintro e w4 ⟨rfl, b4'⟩
          have R1 := R1.step b4'
          have R2 := R2.step b4'
          have b4 := b3.trans (b4'.mono b3.size)
          have HC := Lib.hid (hSm.out _ A1 c1 b4 R1)
          clear b3 b4' hSm
          try dsimp only
          go_wp2_with fail
          refine HC.out.mono ?_
          rintro e w5 he
          obtain ⟨A5, c5, rfl, o5, b5'⟩ := he.got hsl.out
          have R5 := Rd.of_own o5
          have R2 := R2.step b5'
          have b5 := b4.trans (b5'.mono b4.size)
          have HC := Lib.hid (hCs.out _ A5 c5 b5 R5)
          clear he o5 b4 b5' hCs R1 R5
          try dsimp only
          go_wp2_with fail
          refine HC.out.mono ?_
          rintro e w6 ⟨rfl, b6'⟩
          have R2 := R2.step b6'
          have b6 := b5.trans (b6'.mono b5.size)
          have RB := HI'.out.step b6
          have k1 := R2.convert (P := Tryd.prog) Tryd.underlying38 Tryd.underlying5 c2 9 Tryd.underlying9
          have k2 := RB.convert (P := Tryd.prog) Tryd.underlying38 Tryd.underlying5 c' 9 Tryd.underlying9
          have B6 := Lib.hid b6
          have HW := Lib.hid (hW.out _ b6)
          generalize strOfNums bs = st at *
          clear b5 b6' R2 RB b6 hW HI' HI HK HB
          try dsimp only
          go_wp2_with (first | (go_at_call 18; refine (hN.out _ _).mono ?_; rintro e w ⟨rfl, rfl⟩) | (go_at_call 14; refine HW.out.mono ?_; rintro e w7 ⟨rfl, b7⟩) | fail)
          go_ret
          exact ⟨rfl, B6.out.trans (b7.mono B6.out.size)⟩
        · rw [hid] at hD
          have hc : m < 1 ∨ (¬ (m < 1) ∧ softB xs = false) ∨ (¬ (m < 1) ∧ softB xs = true ∧ n ≠ n') := by
            by_cases q1 : 1 ≤ m
            · cases q2 : softB xs
              · exact .inr (.inl ⟨by omega, rfl⟩)
              · refine .inr (.inr ⟨by omega, rfl, fun q3 => hmain ⟨q1, q2, q3⟩⟩)
            · exact .inl (by omega)
          have hil : Hid ((idealI m bs).length = n') := Lib.hid (by rw [idealI_length, hls'])
          generalize idealI m bs = is at *
          clear h0 hid hmain hv hls hls'
          rcases hc with q1 | ⟨q1, q2⟩ | ⟨q1, q2, q3⟩
          · go_wp2_with fail
            refine hD.out.mono ?_
            rintro e w1 he
            obtain ⟨A1, c1, rfl, o1, b1⟩ := he.got hil.out
            have HW := Lib.hid (hW.out _ b1)
            have B1 := Lib.hid b1
            clear he o1 b1 hV hD
            go_wp2_with (first | (go_at_call 18; refine (hN.out _ _).mono ?_; rintro e w ⟨rfl, rfl⟩) | (go_at_call 14; refine HW.out.mono ?_; rintro e w5 ⟨rfl, b5⟩) | fail)
            go_ret
            exact ⟨rfl, B1.out.trans (b5.mono B1.out.size)⟩
          · rw [q2] at hV
            go_wp2_with fail
            refine hD.out.mono ?_
            rintro e w1 he
            obtain ⟨A1, c1, rfl, o1, b1⟩ := he.got hil.out
            have HW := Lib.hid (hW.out _ b1)
            have HV := Lib.hid (hV.out _ b1)
            have B1 := Lib.hid b1
            clear he o1 b1 hV hD
            go_wp2_with (first | (go_at_call 18; refine (hN.out _ _).mono ?_; rintro e w ⟨rfl, rfl⟩) | (go_at_call 20; refine HV.out.mono ?_; rintro e w ⟨rfl, rfl⟩) | (go_at_call 14; refine HW.out.mono ?_; rintro e w5 ⟨rfl, b5⟩) | fail)
            go_ret
            exact ⟨rfl, B1.out.trans (b5.mono B1.out.size)⟩
          · rw [q2] at hV
            have q4 : ((n : Int) != (n' : Int)) = true := by simp; omega
            clear q3
            go_wp2_with fail
            refine hD.out.mono ?_
            rintro e w1 he
            obtain ⟨A1, c1, rfl, o1, b1⟩ := he.got hil.out
            have HW := Lib.hid (hW.out _ b1)
            have HV := Lib.hid (hV.out _ b1)
            have B1 := Lib.hid b1
            clear he o1 b1 hV hD
            go_wp2_with (first | (go_at_call 18; refine (hN.out _ _).mono ?_; rintro e w ⟨rfl, rfl⟩) | (go_at_call 20; refine HV.out.mono ?_; rintro e w ⟨rfl, rfl⟩) | (go_at_call 14; refine HW.out.mono ?_; rintro e w5 ⟨rfl, b5⟩) | fail)
            go_ret
            exact ⟨rfl, B1.out.trans (b5.mono B1.out.size)⟩
      · generalize idealS bs m = r at *
        obtain ⟨zs, k⟩ := r
        dsimp only at h0
        have hk : (k != 0) = true := by simpa using h0
        clear h0 hls hls' hV
        go_wp2_with fail
        refine hD.out.mono ?_
        rintro e w1 ⟨A1, c1, rfl, o1, b1⟩
        have HW := Lib.hid (hW.out _ b1)
        have B1 := Lib.hid b1
        clear o1 b1 hD
        try dsimp only
        go_wp2_with (first | (go_at_call 18; refine (hN.out _ _).mono ?_; rintro e w ⟨rfl, rfl⟩) | (go_at_call 14; refine HW.out.mono ?_; rintro e w5 ⟨rfl, b5⟩) | fail)
        go_ret
        exact ⟨rfl, B1.out.trans (b5.mono B1.out.size)⟩)
    clear hK4 HK HI HI' HB e1 e2 e3 f4 f5 hC
    by_cases hsig : (0 ≤ a ∧ 0 ≤ b ∧ 0 ≤ d) ∨ (a ≤ 0 ∧ b ≤ 0 ∧ d ≤ 0)
    · have e5 := hS.out hsig
      clear hS hsig
      go_wp2_with (first
        | (go_at_call 12; with_reducible refine (hA.out _ _).mono ?_; rintro e w ⟨rfl, rfl⟩)
        | fail)
      all_goals exact hT9.out _ _ rfl rfl
    · clear hS
      go_wp2_with (first
        | (go_at_call 12; with_reducible refine (hA.out _ _).mono ?_; rintro e w ⟨rfl, rfl⟩)
        | fail)
      all_goals first | exact hT9.out _ _ rfl rfl | (exfalso; omega))
  clear hK2 HK HI HI' HB hS
  by_cases hac : a ≤ d
  · have f2 : ¬ (addI d b < addI a b) := by have := e2.out hac; omega
    clear e2
    go_wp2_with (first
      | (go_at_call 12; with_reducible refine (hA.out _ _).mono ?_; rintro e w ⟨rfl, rfl⟩)
      | (go_at_call 10; refine hC.out.mono ?_; rintro e w ⟨rfl, rfl⟩)
      | fail)
    exact hT4.out _ _ rfl rfl
  · clear e2
    go_wp2_with (first
      | (go_at_call 12; with_reducible refine (hA.out _ _).mono ?_; rintro e w ⟨rfl, rfl⟩)
      | (go_at_call 10; refine hC.out.mono ?_; rintro e w ⟨rfl, rfl⟩)
      | fail)
    exact hT4.out _ _ rfl rfl
set_option maxRecDepth 100000 in
theorem holds_walk {A A' : Option Addr} {n c n' c' : Nat} {a b d m : Int} {xs bs : List Int} {w : World} (hK : Kinds w) (hI : Rd .i64 w w.heap.size A n xs) (hI' : Rd .u8 w w.heap.size A' n' bs) (hB : Byte bs) (hn' : n' ≤ 2000000) :
    Calls Tryd.prog 9 #[.int .i64 a, .int .i64 b, .int .i64 d, .slice A n c, .slice A' n' c', .int .i64 m] w fun e w' => e = .returned (.bool true) ∧ Below w.heap.size w w' := by
  by_cases hn : n ≤ 300
  · exact holds_in hK hI hI' hB hn hn'
  · have hn1 : (300 : Int) < (n : Int) := by omega
    have HW := Lib.hid (works_any hK)
    clear hK hI hI' hB hn
    go_enter Tryd.func9, Tryd.ntmps9
    go_wp2_with (first | (go_at_call 14; refine HW.out.mono ?_; rintro e w5 ⟨rfl, b5⟩) | fail)
    go_ret
    exact ⟨rfl, b5⟩
end Go.Proofs.YtkkombhpiagngaaDoor
