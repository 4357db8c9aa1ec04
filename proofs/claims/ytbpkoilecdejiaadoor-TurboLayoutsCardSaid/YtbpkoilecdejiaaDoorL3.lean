/-
  The walk of TurboLayouts.
-/
import Derived.Test.YtbpkoilecdejiaaDoorL1
import Derived.Test.YtbpkoilecdejiaaDoorS6
namespace Go.Proofs.YtbpkoilecdejiaaDoor
set_option maxRecDepth 100000
open Go.RowKit Go.Shelf BigFrame

attribute [local go_sem] Oper.semAt_some

theorem below_grownE {w w' : World} (h : Below w.heap.size w w') : w.grownBy w' none := ⟨h.os, h.tape, h.output, h.size, fun k hk _ => h.block k hk⟩
/-- The counter, the turn, and what lay there before. -/
def EcL (wb : World) (Nc Tc t : Nat) (Ds : List Nat) (k : Nat) (W : World) : Prop :=
  (Boxed W Nc 3 (.int .i64 (k : Int)) ∧ Boxed W Tc 3 (.int .i64 (t : Int))) ∧ Below wb.heap.size wb W ∧ Marks W Ds
theorem ecL_from {wb : World} {Nc Tc t B : Nat} {Ds : List Nat} (hB : wb.heap.size ≤ B) (hD : ∀ D ∈ Ds, D < B) : OwnFrom B (EcL wb Nc Tc t Ds) :=
  OwnFrom.and (Own.from (fun k A C row hs hg hr => ⟨boxed_own Nc 3 (fun k : Nat => .int .i64 (k : Int)) k A C row hs.1 hg hr, boxed_own Tc 3 (fun _ : Nat => .int .i64 (t : Int)) k A C row hs.2 hg hr⟩) _)
    (OwnFrom.and (ownFrom_below (Nat.le_refl _) hB) (Marks.ownFrom hD))
theorem ecL_step {wb : World} {Nc Tc t : Nat} {Ds : List Nat} {k : Nat} {W : World} (h : EcL wb Nc Tc t Ds k W) (hN : wb.heap.size ≤ Nc) (hne : Tc ≠ Nc) (hD : Nc ∉ Ds) (x : Int) (hx : x = ((k + 1 : Nat) : Int)) :
    EcL wb Nc Tc t Ds (k + 1) (W.setCell ⟨Nc, 0, none⟩ (.int .i64 x)) := by
  subst hx
  exact ⟨⟨h.1.1.set _, h.1.2.other hne _⟩, h.2.1.setCell (p := ⟨Nc, 0, none⟩) hN _, h.2.2.setCell _ hD⟩
theorem lays_results {W : World} {tmps : Array Value} {B : Nat} (h6 : tmps.getD 6 undef = .pointer (some ⟨B, 0, none⟩)) (hb : Boxed W B 4 (.bool true)) :
    (results Tryd.f5 tmps).run Tryd.prog W = .ok (.bool true) W := by
  have hc := hb.cell
  simp only [Array.getD_eq_getD_getElem?] at h6
  simp [results, Tryd.results5, go_sem, h6, hc]
theorem OwnFrom.pureE {β : Type} {B : Nat} {I : β → World → Prop} (h : OwnFrom B I) (p : β → Prop) : OwnFrom B (fun s W => I s W ∧ p s) := fun s A C row hs hg hr => ⟨h s A C row hs.1 hg hr, hs.2⟩
theorem NewI.rd {H k c : Nat} {xs : List Int} {A : Option Addr} {w : World} (h : NewI H k xs (.slice A k c) w) : Rd .i64 w w.heap.size A k xs := rd_of_lst h.lst
set_option maxHeartbeats 16000000 in
theorem lays_in {d : Nat} (hd : 12 ≤ d) {k0 code many : Int} {w : World} (hKi : Kinds w) (hk : k0 ≤ 1100 ∨ isB k0 = false) :
    CallsIn Fence.wide d Tryd.prog 5 #[.int .i64 k0, .int .i64 code, .int .i64 many] w fun e w' => e = .returned (.bool true) ∧ Below w.heap.size w w' := by
  have hnil : ∀ (C : Nat) (u : World), (binOp .eql 43 (.func (.func 47) #[] #[.pointer (some ⟨C, 0, none⟩)]) .nilFunc).run Tryd.prog u = .ok (.bool false) u := fun C u => by kernel_rfl
  have h1 : 2 ≤ d := by omega
  have h1' : 1 ≤ d := by omega
  have hLY := Lib.hid (fun (u : World) (h : Below w.heap.size w u) => callsIn_wide (n := d - 1).2 (Layout_any (k := k0) (c := code) (hKi.step h)))
  have hRL := Lib.hid (fun (u : World) => callsIn_wide (n := d - 1).2 (refLayout_any (k := k0) (code := code) (w := u)))
  have hST := Lib.hid (fun (u : World) (h : Below w.heap.size w u) => callsIn_wide (n := d - 1).2 (Steps_any (k := k0) (c := code) (hKi.step h)))
  have hK := Lib.hid (fun (u : World) (h : Below w.heap.size w u) => callsIn_wide (n := d - 1).2 (works_any (hKi.step h)))
  have hNum := Lib.hid (fun (u : World) (x : Int) => callsIn_wide (n := d - 1).2 (num_any (k := x) (w := u)))
  have hRZ := Lib.hid (fun (u : World) => callsIn_wide (n := d - 1).2 (refSize_any (k := k0) (w := u)))
  have hNo := Lib.hid (fun (h : isB k0 = false) => sizeS_no h)
  unfold RetLay at hLY hRL
  unfold RetSt at hST
  have hbl := lyN_le k0 code
  generalize lyN k0 code = L at *
  generalize lyS k0 code = ss at *
  generalize lyP k0 code = ps at *
  generalize lyE k0 code = er at *
  have hIT := Lib.hid (fun (u : World) (A A' : Option Addr) (c c' : Nat) (xs : List Int) (h : Rd .i64 u u.heap.size A L xs) (h' : Rd .i64 u u.heap.size A' L xs) => callsIn_wide (n := d - 1).2 (ints_lit (c := c) (c' := c') h h' (by omega) rfl))
  clear hKi
  refine callsIn_of_wp_marks Tryd.func5 rfl trivial ?_ rfl
  simp only [Tryd.ntmps5, List.size_toArray, List.length_cons, List.length_nil, Nat.reduceAdd, Nat.reduceSub, Array.replicate_succ, Array.replicate_zero, List.push_toArray, List.append_toArray, List.nil_append, List.cons_append]
  have hbM := below_two (w := w) (.cells #[.int .i64 many] 3) (.cells #[.bool false] 4)
  have bM := (Boxed.new w 3 (.int .i64 many)).alloc (.cells #[.bool false] 4)
  have bR := Boxed.new (w.alloc (.cells #[.int .i64 many] 3)) 4 (.bool false)
  rw [World.size_alloc] at bR
  by_cases hk1 : k0 ≤ 1100
  · have hn1 : ¬ (1100 : Int) < k0 := by omega
    have hs0 : ((w.alloc (.cells #[.int .i64 many] 3)).alloc (.cells #[.bool false] 4)).heap.size = w.heap.size + 2 := by simp
    gi_wp2
    generalize (w.alloc (.cells #[.int .i64 many] 3)).alloc (.cells #[.bool false] 4) = W0 at *
    clear hRZ hNo hk
    refine ⟨trivial, ?_⟩
    gi_wp2
    refine ⟨trivial, ?_⟩
    refine (hLY.out W0 hbM).mono ?_
    rintro e w1 ⟨A7, c7, A8, c8, rfl, N7, N8, hb1⟩
    have R7 := N7.rd
    have R8 := N8.rd
    have bM1 := Boxed.below bM hb1 bM.lt
    have bR1 := Boxed.below bR hb1 bR.lt
    have hB1 := hbM.trans (hb1.mono hbM.size)
    have hz1 := hb1.size
    clear bM bR hbM N7 N8 hb1 hLY
    gi_wp2
    refine ⟨trivial, ?_⟩
    refine (hRL.out w1).mono ?_
    rintro e w2 ⟨A1, c1, A2, c2, rfl, N1, N2, hb2⟩
    have R1 := N1.rd
    have R2 := N2.rd
    have R7 := R7.step hb2
    have R8 := R8.step hb2
    have bM2 := Boxed.below bM1 hb2 bM1.lt
    have bR2 := Boxed.below bR1 hb2 bR1.lt
    have hB2 := hB1.trans (hb2.mono hB1.size)
    have hz2 := hb2.size
    have hbx := below_two (w := w2) (.cells #[.slice A1 L c1] 36) (.cells #[.slice A2 L c2] 36)
    have bS3 := (Boxed.new w2 36 (.slice A1 L c1)).alloc (.cells #[.slice A2 L c2] 36)
    have bP3 := Boxed.new (w2.alloc (.cells #[.slice A1 L c1] 36)) 36 (.slice A2 L c2)
    rw [World.size_alloc] at bP3
    have bM3 := Boxed.below bM2 hbx bM2.lt
    have bR3 := Boxed.below bR2 hbx bR2.lt
    have R1 := R1.step hbx
    have R2 := R2.step hbx
    have R7 := R7.step hbx
    have R8 := R8.step hbx
    have hB3 := hB2.trans (hbx.mono hB2.size)
    have hz3 : ((w2.alloc (.cells #[.slice A1 L c1] 36)).alloc (.cells #[.slice A2 L c2] 36)).heap.size = w2.heap.size + 2 := by simp
    have cS := bS3.cell
    have cP := bP3.cell
    clear bM1 bR1 hB1 bM2 bR2 hB2 hbx hRL hb2 N1 N2
    gi_wp2
    generalize (w2.alloc (.cells #[.slice A1 L c1] 36)).alloc (.cells #[.slice A2 L c2] 36) = W3 at *
    refine ⟨trivial, ?_⟩
    refine (hIT.out W3 _ _ _ _ _ R7 R1).mono ?_
    rintro e w4 ⟨rfl, hb⟩
    have hz4 := hb.size
    have bM3 := Boxed.below bM3 hb bM3.lt
    have bR3 := Boxed.below bR3 hb bR3.lt
    have bS3 := Boxed.below bS3 hb bS3.lt
    have bP3 := Boxed.below bP3 hb bP3.lt
    have R1 := R1.step hb
    have R2 := R2.step hb
    have R7 := R7.step hb
    have R8 := R8.step hb
    have hB3 := hB3.trans (hb.mono hB3.size)
    have cP := bP3.cell
    have cS := bS3.cell
    clear hb
    gi_wp2
    refine ⟨trivial, ?_⟩
    refine (hIT.out w4 _ _ _ _ _ R8 R2).mono ?_
    rintro e w5 ⟨rfl, hb⟩
    have hz5 := hb.size
    have bM3 := Boxed.below bM3 hb bM3.lt
    have bR3 := Boxed.below bR3 hb bR3.lt
    have bS3 := Boxed.below bS3 hb bS3.lt
    have bP3 := Boxed.below bP3 hb bP3.lt
    have R1 := R1.step hb
    have R2 := R2.step hb
    have R7 := R7.step hb
    have R8 := R8.step hb
    have hB3 := hB3.trans (hb.mono hB3.size)
    have cP := bP3.cell
    have cS := bS3.cell
    clear hb
    gi_wp2
    refine ⟨trivial, ?_⟩
    refine (hNum.out w5 _).mono ?_
    rintro e wn ⟨rfl, he⟩
    obtain rfl := he.symm
    clear he
    gi_wp2
    refine ⟨trivial, ?_⟩
    refine (hST.out w5 hB3).mono ?_
    rintro e w6 ⟨C, A6, c6, A6', c6', rfl, hCl, bC5, N5, N6, hb⟩
    have rS6 := N5.rd
    have rP6 := N6.rd
    have hz6 := hb.size
    have bM3 := Boxed.below bM3 hb bM3.lt
    have bR3 := Boxed.below bR3 hb bR3.lt
    have bS3 := Boxed.below bS3 hb bS3.lt
    have bP3 := Boxed.below bP3 hb bP3.lt
    have R1 := R1.step hb
    have R2 := R2.step hb
    have R7 := R7.step hb
    have R8 := R8.step hb
    have hB3 := hB3.trans (hb.mono hB3.size)
    have cP := bP3.cell
    have cS := bS3.cell
    clear hb hST N5 N6 hIT hNum
    have hN0 := hnil C
    obtain ⟨M, hM⟩ : ∃ M, w.heap.size = M := ⟨_, rfl⟩
    obtain ⟨Wc, hWc⟩ : ∃ Wc, w2.heap.size = Wc := ⟨_, rfl⟩
    have HM := Lib.hid hM
    rw [hM] at bM3 bR3
    rw [hWc] at bS3 bP3
    have bM5 := bM3
    have bR5 := bR3
    have bS5 := bS3
    have bP5 := bP3
    have rS := R1
    have rP := R2
    have hb5 := hB3
    have hlM := bM5.lt
    have hlR := bR5.lt
    have hlW := bS5.lt
    have hlP := bP5.lt
    have hlC := bC5.lt
    have hMW : M + 2 ≤ Wc := by omega
    clear hnil hs0 hz1 hz2 hz3 hz4 hz5 hz6 bM3 bR3 bS3 bP3 R1 R2 R7 R8 cS cP hB3 hM hCl
    rw [hWc]
    clear hWc
    rw [HM.out]
    have hT0 := Boxed.new w6 3 (.int .i64 0)
    obtain ⟨wb, hwb⟩ : ∃ wb, w6 = wb := ⟨_, rfl⟩
    subst w6
    have HB := Lib.hid h1
    gi_wp2
    have hbT : Below wb.heap.size wb (wb.alloc (.cells #[.int .i64 0] 3)) := (Below.refl _ _).alloc (Nat.le_refl _) _
    refine wpIn_loop
      (fun a' w' => ∃ (k Tc : Nat) (Ds : List Nat) (v : Nat → Value), k ≤ 2 ∧ Ds.length = k ∧ v = (fun i => a'.tmps.getD i undef) ∧
        a' = { tmps := List.toArray ((.int .i64 k0) :: (.int .i64 code) :: (.int .i64 many) :: (v 3) :: (v 4) :: (.pointer (some ⟨M, 0, none⟩)) :: (.pointer (some ⟨M + 1, 0, none⟩)) :: (.slice A7 L c7) :: (.slice A8 L c8) :: (.int .i64 er) :: (.pointer (some ⟨Wc, 0, none⟩)) :: (.pointer (some ⟨Wc + 1, 0, none⟩)) :: (.int .i64 er) :: (.func (.func 47) #[] #[.pointer (some ⟨C, 0, none⟩)]) :: (.pointer (some ⟨Tc, 0, none⟩)) :: (v 15) :: (v 16) :: (v 17) :: (v 18) :: (v 19) :: (v 20) :: (v 21) :: (v 22) :: (v 23) :: (v 24) :: (v 25) :: (v 26) :: (v 27) :: (v 28) :: (v 29) :: (v 30) :: (v 31) :: (v 32) :: (v 33) :: (v 34) :: (v 35) :: (v 36) :: (v 37) :: (v 38) :: (v 39) :: (v 40) :: (v 41) :: (v 42) :: (v 43) :: (v 44) :: (v 45) :: (v 46) :: (v 47) :: (v 48) :: (v 49) :: (v 50) :: (v 51) :: (v 52) :: (v 53) :: (v 54) :: (v 55) :: (v 56) :: (v 57) :: (v 58) :: (v 59) :: (v 60) :: (v 61) :: (v 62) :: (v 63) :: (v 64) :: (v 65) :: (v 66) :: (v 67) :: (v 68) :: (v 69) :: (v 70) :: (v 71) :: (v 72) :: (v 73) :: (v 74) :: (v 75) :: (v 76) :: (v 77) :: (v 78) :: (v 79) :: (v 80) :: (v 81) :: (v 82) :: (v 83) :: (v 84) :: (v 85) :: (v 86) :: (v 87) :: (v 88) :: (v 89) :: (v 90) :: (v 91) :: (v 92) :: (v 93) :: (v 94) :: (v 95) :: (v 96) :: (v 97) :: (v 98) :: (v 99) :: (v 100) :: (v 101) :: (v 102) :: (v 103) :: (v 104) :: (v 105) :: (v 106) :: (v 107) :: (v 108) :: (v 109) :: (v 110) :: (v 111) :: (v 112) :: (v 113) :: (v 114) :: (v 115) :: (v 116) :: (v 117) :: (v 118) :: (v 119) :: []), defers := Ds.map mkD } ∧ Below wb.heap.size wb w' ∧ Boxed w' Tc 3 (.int .i64 (k : Int)) ∧ wb.heap.size ≤ Tc ∧ Marks w' Ds ∧ (∀ D ∈ Ds, wb.heap.size ≤ D) ∧ Tc ∉ Ds)
      (fun a' _ => 2 - a'.defers.length) ?start ?round
    case start => exact ⟨0, wb.heap.size, [], _, Nat.zero_le _, rfl, rfl, rfl, hbT, hT0, Nat.le_refl _, Marks.nil _, by simp, by simp⟩
    case round =>
      rintro a' w' ⟨k, Tc, Ds, v, hk2, hDl, hv, ha, hB, hT, hTl, hMk, hDs, hTD⟩
      clear hv
      subst ha
      have hcT := hT.cell
      by_cases hlt : k < 2
      · rcases (show k = 0 ∨ k = 1 by omega) with hk | hk
        · subst hk
          have hMc := (hB.cell (p := ⟨M, 0, none⟩) (show M < wb.heap.size from hlM)).trans bM5.cell
          have hsw := hB.size
          have hDl2 := hMk.lt
          have hTw := hT.lt
          rw [show (((0 : Nat) : Int)) = 0 from rfl] at hcT
          have bN := Boxed.new w' 3 (.int .i64 0)
          have hT1 := hT.alloc (.cells #[.int .i64 0] 3)
          have hB1 := hB.alloc hB.size (.cells #[.int .i64 0] 3)
          have hMk1 := hMk.alloc (.cells #[.int .i64 0] 3)
          have hs1 : (w'.alloc (.cells #[.int .i64 0] 3)).heap.size = w'.heap.size + 1 := by simp
          obtain ⟨Nc, hNc⟩ : ∃ Nc, w'.heap.size = Nc := ⟨_, rfl⟩
          have HNC := Lib.hid hNc
          rw [hNc] at bN hs1 hsw hTw hDl2
          clear hNc
          gi_wp2
          rw [HNC.out]
          generalize w'.alloc (.cells #[.int .i64 0] 3) = w1 at *
          have hI0 : EcL wb Nc Tc 0 Ds 0 w1 := ⟨⟨bN, hT1⟩, hB1, hMk1⟩
          have HS1 := Lib.hid hs1
          have hneT : Tc ≠ Nc := by omega
          have hDN : Nc ∉ Ds := fun h => by have := hDl2 _ h; omega
          obtain ⟨J, hJ⟩ : ∃ J : Nat, (((L : Int) ≤ many ∨ L = 0) ∧ J = L) ∨ (1 ≤ L ∧ many ≤ 1 ∧ J = 1) ∨ (1 < many ∧ many < (L : Int) ∧ (J : Int) = many) := by
            by_cases h1 : (L : Int) ≤ many ∨ L = 0
            · exact ⟨_, .inl ⟨h1, rfl⟩⟩
            · by_cases h2 : many ≤ 1
              · exact ⟨1, .inr (.inl ⟨by omega, h2, rfl⟩)⟩
              · exact ⟨many.toNat, .inr (.inr ⟨by omega, by omega, by omega⟩)⟩
          clear bN hT1 hB1 hMk1 hcT hs1
          refine wpIn_tsteps (n := d) (E := C) (K := L) (B := wb.heap.size) (z := .int .i64 0) (A := A6) (A' := A6') (c := c6) (c' := c6') (ss := ss) (ps := ps) h1 (by omega) rfl rfl (fun k W => EcL wb Nc Tc 0 Ds k W ∧ (k = 0 ∨ (k : Int) < many)) (fun c W => c = .exit 2 ∧ EcL wb Nc Tc 0 Ds J W)
            (OwnFrom.pureE (ecL_from (by have := HS1.out; omega) (fun D hD => by have := hDl2 D hD; have := HS1.out; omega)) _)
            (fun c s A C row hs hg hr => ⟨hs.1, (ecL_from (by have := HS1.out; omega) (fun D hD => by have := hDl2 D hD; have := HS1.out; omega)) J A C row hs.2 hg hr⟩)
            (fun k W h => Three.below bC5 (h.1.2.1) hlC) (fun k W h => rS6.below h.1.2.1) (fun k W h => rP6.below h.1.2.1) ⟨hI0, .inl rfl⟩
            (fun k => { tmps := List.toArray ((.int .i64 k0) :: (.int .i64 code) :: (.int .i64 many) :: (v 3) :: (v 4) :: (.pointer (some ⟨M, 0, none⟩)) :: (.pointer (some ⟨M + 1, 0, none⟩)) :: (.slice A7 L c7) :: (.slice A8 L c8) :: (.int .i64 er) :: (.pointer (some ⟨Wc, 0, none⟩)) :: (.pointer (some ⟨Wc + 1, 0, none⟩)) :: (.int .i64 er) :: (.func (.func 47) #[] #[.pointer (some ⟨C, 0, none⟩)]) :: (.pointer (some ⟨Tc, 0, none⟩)) :: (.pointer (some ⟨Nc, 0, none⟩)) :: (.int .i64 (ss[k]?.getD 0)) :: (.int .i64 (ps[k]?.getD 0)) :: (v 18) :: (v 19) :: (v 20) :: (v 21) :: (v 22) :: (v 23) :: (v 24) :: (v 25) :: (v 26) :: (v 27) :: (v 28) :: (v 29) :: (v 30) :: (v 31) :: (v 32) :: (v 33) :: (v 34) :: (v 35) :: (v 36) :: (v 37) :: (v 38) :: (v 39) :: (v 40) :: (v 41) :: (v 42) :: (v 43) :: (v 44) :: (v 45) :: (v 46) :: (v 47) :: (v 48) :: (v 49) :: (v 50) :: (v 51) :: (v 52) :: (v 53) :: (v 54) :: (v 55) :: (v 56) :: (v 57) :: (v 58) :: (v 59) :: (v 60) :: (.int .i64 0) :: (.bool true) :: (v 63) :: (v 64) :: (.func (.func 47) #[] #[.pointer (some ⟨C, 0, none⟩)]) :: (.int .i64 (ss[k]?.getD 0)) :: (.int .i64 (ps[k]?.getD 0)) :: (v 68) :: (v 69) :: (v 70) :: (v 71) :: (v 72) :: (v 73) :: (v 74) :: (v 75) :: (v 76) :: (v 77) :: (v 78) :: (v 79) :: (v 80) :: (v 81) :: (v 82) :: (v 83) :: (v 84) :: (v 85) :: (v 86) :: (v 87) :: (v 88) :: (v 89) :: (v 90) :: (v 91) :: (v 92) :: (v 93) :: (v 94) :: (v 95) :: (v 96) :: (v 97) :: (v 98) :: (v 99) :: (v 100) :: (v 101) :: (v 102) :: (v 103) :: (v 104) :: (v 105) :: (v 106) :: (v 107) :: (v 108) :: (v 109) :: (v 110) :: (v 111) :: (v 112) :: (v 113) :: (v 114) :: (v 115) :: (v 116) :: (v 117) :: (v 118) :: (v 119) :: []), defers := [] }) ?assign ?body ?done ?stop
          case assign =>
            intro lp k W K hK
            gi_wp2
            exact hK
          case body =>
            rintro lp k W hk ⟨hI, hp⟩ hbig
            obtain ⟨b5, off5, rfl, _, hcz⟩ := rS.cells k hk
            obtain ⟨b6, off6, rfl, _, hcp⟩ := rP.cells k hk
            have y1 := hI.1.1.cell
            have f1 := hI.1.1.frozen
            have y2 := hI.1.2.cell
            rw [show (((0 : Nat) : Int)) = 0 from rfl] at y2
            have y3 := (hI.2.1.cell (p := ⟨Wc, 0, none⟩) (show Wc < wb.heap.size from hlW)).trans bS5.cell
            have y4 := (hI.2.1.cell (p := ⟨b5, off5 + k, none⟩) (show b5 < wb.heap.size by assumption)).trans hcz
            have y5 := (hI.2.1.cell (p := ⟨M, 0, none⟩) (show M < wb.heap.size from hlM)).trans bM5.cell
            have y6 := (hI.2.1.cell (p := ⟨Wc + 1, 0, none⟩) (show Wc + 1 < wb.heap.size from hlP)).trans bP5.cell
            have y7 := (hI.2.1.cell (p := ⟨b6, off6 + k, none⟩) (show b6 < wb.heap.size by assumption)).trans hcp
            have hk0 : (0 : Int) ≤ (k : Int) := by omega
            have hk1 : (k : Int) < (L : Int) := by omega
            have hk2 : ¬ (L : Int) ≤ (k : Int) := by omega
            have HI := Lib.hid (ecL_step hI (by omega) hneT hDN ((k : Int) + 1) (by omega))
            have hKF : Hid (KeepsFrom w1.heap.size W (W.setCell ⟨Nc, 0, none⟩ (.int .i64 ((k : Int) + 1)))) := Lib.hid ((KeepsOthers.setCell W _ _).from _)
            generalize ps[k]?.getD 0 = pk at *
            generalize ss[k]?.getD 0 = sk at *
            have hJk : Hid ((many ≤ (k : Int) + 1 → EcL wb Nc Tc 0 Ds J (W.setCell ⟨Nc, 0, none⟩ (.int .i64 ((k : Int) + 1)))) ∧ True) := Lib.hid ⟨fun hm => (show k + 1 = J by omega) ▸ HI.out, trivial⟩
            clear hI hp hJ hcz hcp rS rP rS6 rP6 bC5
            by_cases hm : many ≤ (k : Int) + 1
            · gi_wp2
              exact ⟨hKF.out, rfl, hJk.out.1 hm⟩
            · gi_wp2
              exact ⟨hKF.out, HI.out, .inr (by omega)⟩
          case done =>
            rintro D W hD ⟨hI, hp⟩ hKD
            have hJb : J = L := by omega
            have HJB := Lib.hid hJb
            clear hJb hJ
            subst hD
            have hnD : w1.heap.size ∉ Ds := fun h => by have := hDl2 _ h; have := HS1.out; omega
            have hbel := Lib.hid (hI.2.1.alloc hI.2.1.size (.cells #[.int .i64 1] 3))
            have hbox : Hid (Boxed (W.alloc (.cells #[.int .i64 1] 3)) W.heap.size 3 (.int .i64 ((1 : Nat) : Int))) := Lib.hid (Boxed.new W 3 (.int .i64 1))
            have hmk := Lib.hid ((hI.2.2.cons hKD hnD).alloc (.cells #[.int .i64 1] 3))
            have hszW := hI.2.1.size
            have hMl := (hI.2.2.cons hKD hnD).lt
            have hfin : Hid ((∀ D ∈ w1.heap.size :: Ds, wb.heap.size ≤ D) ∧ W.heap.size ∉ w1.heap.size :: Ds) := Lib.hid ⟨fun E hE => by
              rcases List.mem_cons.1 hE with rfl | hE
              · have := HS1.out; omega
              · exact hDs E hE, fun h => by have := hMl _ h; omega⟩
            clear hMl hnD
            have y1 := hI.1.1.cell
            have y2 := hI.1.2.cell
            rw [show (((0 : Nat) : Int)) = 0 from rfl] at y2
            have y3 := (hI.2.1.cell (p := ⟨Wc, 0, none⟩) (show Wc < wb.heap.size from hlW)).trans bS5.cell
            have y5 := (hI.2.1.cell (p := ⟨M, 0, none⟩) (show M < wb.heap.size from hlM)).trans bM5.cell
            clear hI hKD rS rP rS6 rP6 bC5
            gi_wp2
            all_goals first
              | exact ⟨1, by omega, W.heap.size, w1.heap.size :: Ds, by simp [hDl], ⟨rfl, rfl⟩, hbel.out, hbox.out, hszW, hmk.out, hfin.out.1, hfin.out.2⟩
              | exact ⟨⟨1, W.heap.size, w1.heap.size :: Ds, _, by omega, by simp [hDl], rfl, rfl, hbel.out, hbox.out, hszW, hmk.out, hfin.out.1, hfin.out.2⟩, by simp [hDl]⟩
              | (exfalso; omega)
              | fail
          case stop =>
            rintro D c W hD ⟨rfl, hI⟩ hKD
            have HJ := Lib.hid hJ
            subst hD
            have hnD : w1.heap.size ∉ Ds := fun h => by have := hDl2 _ h; have := HS1.out; omega
            have hbel := Lib.hid (hI.2.1.alloc hI.2.1.size (.cells #[.int .i64 1] 3))
            have hbox : Hid (Boxed (W.alloc (.cells #[.int .i64 1] 3)) W.heap.size 3 (.int .i64 ((1 : Nat) : Int))) := Lib.hid (Boxed.new W 3 (.int .i64 1))
            have hmk := Lib.hid ((hI.2.2.cons hKD hnD).alloc (.cells #[.int .i64 1] 3))
            have hszW := hI.2.1.size
            have hMl := (hI.2.2.cons hKD hnD).lt
            have hfin : Hid ((∀ D ∈ w1.heap.size :: Ds, wb.heap.size ≤ D) ∧ W.heap.size ∉ w1.heap.size :: Ds) := Lib.hid ⟨fun E hE => by
              rcases List.mem_cons.1 hE with rfl | hE
              · have := HS1.out; omega
              · exact hDs E hE, fun h => by have := hMl _ h; omega⟩
            clear hMl hnD
            have y1 := hI.1.1.cell
            have y2 := hI.1.2.cell
            rw [show (((0 : Nat) : Int)) = 0 from rfl] at y2
            have y3 := (hI.2.1.cell (p := ⟨Wc, 0, none⟩) (show Wc < wb.heap.size from hlW)).trans bS5.cell
            have y5 := (hI.2.1.cell (p := ⟨M, 0, none⟩) (show M < wb.heap.size from hlM)).trans bM5.cell
            clear hI hKD rS rP rS6 rP6 bC5
            gi_wp2
            all_goals first
              | exact ⟨1, by omega, W.heap.size, w1.heap.size :: Ds, by simp [hDl], ⟨rfl, rfl⟩, hbel.out, hbox.out, hszW, hmk.out, hfin.out.1, hfin.out.2⟩
              | exact ⟨⟨1, W.heap.size, w1.heap.size :: Ds, _, by omega, by simp [hDl], rfl, rfl, hbel.out, hbox.out, hszW, hmk.out, hfin.out.1, hfin.out.2⟩, by simp [hDl]⟩
              | (exfalso; omega)
              | fail
        · subst hk
          have hMc := (hB.cell (p := ⟨M, 0, none⟩) (show M < wb.heap.size from hlM)).trans bM5.cell
          have hsw := hB.size
          have hDl2 := hMk.lt
          have hTw := hT.lt
          rw [show (((1 : Nat) : Int)) = 1 from rfl] at hcT
          have bN := Boxed.new w' 3 (.int .i64 0)
          have hT1 := hT.alloc (.cells #[.int .i64 0] 3)
          have hB1 := hB.alloc hB.size (.cells #[.int .i64 0] 3)
          have hMk1 := hMk.alloc (.cells #[.int .i64 0] 3)
          have hs1 : (w'.alloc (.cells #[.int .i64 0] 3)).heap.size = w'.heap.size + 1 := by simp
          obtain ⟨Nc, hNc⟩ : ∃ Nc, w'.heap.size = Nc := ⟨_, rfl⟩
          have HNC := Lib.hid hNc
          rw [hNc] at bN hs1 hsw hTw hDl2
          clear hNc
          gi_wp2
          rw [HNC.out]
          generalize w'.alloc (.cells #[.int .i64 0] 3) = w1 at *
          have hI0 : EcL wb Nc Tc 1 Ds 0 w1 := ⟨⟨bN, hT1⟩, hB1, hMk1⟩
          have HS1 := Lib.hid hs1
          have hneT : Tc ≠ Nc := by omega
          have hDN : Nc ∉ Ds := fun h => by have := hDl2 _ h; omega
          obtain ⟨J, hJ⟩ : ∃ J : Nat, J = L := ⟨_, rfl⟩
          clear bN hT1 hB1 hMk1 hcT hs1
          refine wpIn_tsteps (n := d) (E := C) (K := L) (B := wb.heap.size) (z := .int .i64 0) (A := A6) (A' := A6') (c := c6) (c' := c6') (ss := ss) (ps := ps) h1 (by omega) rfl rfl (fun k W => EcL wb Nc Tc 1 Ds k W) (fun _ _ => False)
            (ecL_from (by have := HS1.out; omega) (fun D hD => by have := hDl2 D hD; have := HS1.out; omega))
            (fun c s A C row hs hg hr => hs)
            (fun k W h => Three.below bC5 (h.2.1) hlC) (fun k W h => rS6.below h.2.1) (fun k W h => rP6.below h.2.1) hI0
            (fun k => { tmps := List.toArray ((.int .i64 k0) :: (.int .i64 code) :: (.int .i64 many) :: (v 3) :: (v 4) :: (.pointer (some ⟨M, 0, none⟩)) :: (.pointer (some ⟨M + 1, 0, none⟩)) :: (.slice A7 L c7) :: (.slice A8 L c8) :: (.int .i64 er) :: (.pointer (some ⟨Wc, 0, none⟩)) :: (.pointer (some ⟨Wc + 1, 0, none⟩)) :: (.int .i64 er) :: (.func (.func 47) #[] #[.pointer (some ⟨C, 0, none⟩)]) :: (.pointer (some ⟨Tc, 0, none⟩)) :: (.pointer (some ⟨Nc, 0, none⟩)) :: (.int .i64 (ss[k]?.getD 0)) :: (.int .i64 (ps[k]?.getD 0)) :: (v 18) :: (v 19) :: (v 20) :: (v 21) :: (v 22) :: (v 23) :: (v 24) :: (v 25) :: (v 26) :: (v 27) :: (v 28) :: (v 29) :: (v 30) :: (v 31) :: (v 32) :: (v 33) :: (v 34) :: (v 35) :: (v 36) :: (v 37) :: (v 38) :: (v 39) :: (v 40) :: (v 41) :: (v 42) :: (v 43) :: (v 44) :: (v 45) :: (v 46) :: (v 47) :: (v 48) :: (v 49) :: (v 50) :: (v 51) :: (v 52) :: (v 53) :: (v 54) :: (v 55) :: (v 56) :: (v 57) :: (v 58) :: (v 59) :: (v 60) :: (.int .i64 1) :: (.bool true) :: (v 63) :: (v 64) :: (.func (.func 47) #[] #[.pointer (some ⟨C, 0, none⟩)]) :: (.int .i64 (ss[k]?.getD 0)) :: (.int .i64 (ps[k]?.getD 0)) :: (v 68) :: (v 69) :: (v 70) :: (v 71) :: (v 72) :: (v 73) :: (v 74) :: (v 75) :: (v 76) :: (v 77) :: (v 78) :: (v 79) :: (v 80) :: (v 81) :: (v 82) :: (v 83) :: (v 84) :: (v 85) :: (v 86) :: (v 87) :: (v 88) :: (v 89) :: (v 90) :: (v 91) :: (v 92) :: (v 93) :: (v 94) :: (v 95) :: (v 96) :: (v 97) :: (v 98) :: (v 99) :: (v 100) :: (v 101) :: (v 102) :: (v 103) :: (v 104) :: (v 105) :: (v 106) :: (v 107) :: (v 108) :: (v 109) :: (v 110) :: (v 111) :: (v 112) :: (v 113) :: (v 114) :: (v 115) :: (v 116) :: (v 117) :: (v 118) :: (v 119) :: []), defers := [] }) ?assign ?body ?done ?stop
          case assign =>
            intro lp k W K hK
            gi_wp2
            exact hK
          case body =>
            rintro lp k W hk hI hbig
            obtain ⟨b5, off5, rfl, _, hcz⟩ := rS.cells k hk
            obtain ⟨b6, off6, rfl, _, hcp⟩ := rP.cells k hk
            have y1 := hI.1.1.cell
            have f1 := hI.1.1.frozen
            have y2 := hI.1.2.cell
            rw [show (((1 : Nat) : Int)) = 1 from rfl] at y2
            have y3 := (hI.2.1.cell (p := ⟨Wc, 0, none⟩) (show Wc < wb.heap.size from hlW)).trans bS5.cell
            have y4 := (hI.2.1.cell (p := ⟨b5, off5 + k, none⟩) (show b5 < wb.heap.size by assumption)).trans hcz
            have y5 := (hI.2.1.cell (p := ⟨M, 0, none⟩) (show M < wb.heap.size from hlM)).trans bM5.cell
            have y6 := (hI.2.1.cell (p := ⟨Wc + 1, 0, none⟩) (show Wc + 1 < wb.heap.size from hlP)).trans bP5.cell
            have y7 := (hI.2.1.cell (p := ⟨b6, off6 + k, none⟩) (show b6 < wb.heap.size by assumption)).trans hcp
            have hk0 : (0 : Int) ≤ (k : Int) := by omega
            have hk1 : (k : Int) < (L : Int) := by omega
            have hk2 : ¬ (L : Int) ≤ (k : Int) := by omega
            have HI := Lib.hid (ecL_step hI (by omega) hneT hDN ((k : Int) + 1) (by omega))
            have hKF : Hid (KeepsFrom w1.heap.size W (W.setCell ⟨Nc, 0, none⟩ (.int .i64 ((k : Int) + 1)))) := Lib.hid ((KeepsOthers.setCell W _ _).from _)
            generalize ps[k]?.getD 0 = pk at *
            generalize ss[k]?.getD 0 = sk at *
            clear hI hJ hcz hcp rS rP rS6 rP6 bC5
            gi_wp2
            exact ⟨hKF.out, HI.out⟩
          case done =>
            rintro D W hD hI hKD
            clear hJ
            subst hD
            have hnD : w1.heap.size ∉ Ds := fun h => by have := hDl2 _ h; have := HS1.out; omega
            have hbel := Lib.hid (hI.2.1.alloc hI.2.1.size (.cells #[.int .i64 2] 3))
            have hbox : Hid (Boxed (W.alloc (.cells #[.int .i64 2] 3)) W.heap.size 3 (.int .i64 ((2 : Nat) : Int))) := Lib.hid (Boxed.new W 3 (.int .i64 2))
            have hmk := Lib.hid ((hI.2.2.cons hKD hnD).alloc (.cells #[.int .i64 2] 3))
            have hszW := hI.2.1.size
            have hMl := (hI.2.2.cons hKD hnD).lt
            have hfin : Hid ((∀ D ∈ w1.heap.size :: Ds, wb.heap.size ≤ D) ∧ W.heap.size ∉ w1.heap.size :: Ds) := Lib.hid ⟨fun E hE => by
              rcases List.mem_cons.1 hE with rfl | hE
              · have := HS1.out; omega
              · exact hDs E hE, fun h => by have := hMl _ h; omega⟩
            clear hMl hnD
            have y1 := hI.1.1.cell
            have y2 := hI.1.2.cell
            rw [show (((1 : Nat) : Int)) = 1 from rfl] at y2
            have y3 := (hI.2.1.cell (p := ⟨Wc, 0, none⟩) (show Wc < wb.heap.size from hlW)).trans bS5.cell
            have y5 := (hI.2.1.cell (p := ⟨M, 0, none⟩) (show M < wb.heap.size from hlM)).trans bM5.cell
            clear hI hKD rS rP rS6 rP6 bC5
            gi_wp2
            all_goals first
              | exact ⟨2, by omega, W.heap.size, w1.heap.size :: Ds, by simp [hDl], ⟨rfl, rfl⟩, hbel.out, hbox.out, hszW, hmk.out, hfin.out.1, hfin.out.2⟩
              | exact ⟨⟨2, W.heap.size, w1.heap.size :: Ds, _, by omega, by simp [hDl], rfl, rfl, hbel.out, hbox.out, hszW, hmk.out, hfin.out.1, hfin.out.2⟩, by simp [hDl]⟩
              | (exfalso; omega)
              | fail
          case stop =>
            rintro D c W hD hx hKD
            exact hx.elim
      · obtain rfl : k = 2 := by omega
        have hbw := hb5.trans (hB.mono hb5.size)
        have hcR := (hB.cell (p := ⟨M + 1, 0, none⟩) (show M + 1 < wb.heap.size from hlR)).trans bR5.cell
        have bRw := Boxed.below bR5 hB hlR
        have hcT2 : w'.cell? ⟨Tc, 0, none⟩ = some (.int .i64 2) := hcT
        clear hcT
        gi_wp2
        refine ⟨trivial, ?_⟩
        refine (hK.out _ hbw).mono ?_
        rintro e w9 ⟨rfl, hb9⟩
        have bR9 := Boxed.below bRw hb9 bRw.lt
        have e0 := bR9.cell
        have e1 := bR9.frozen
        have hM9 := (hMk.grown (below_grownE hb9) (fun _ _ e => by cases e)).setCell (p := ⟨M + 1, 0, none⟩) (.bool true) (fun h => by have := hDs _ h; simp only at this; omega)
        have hB9 : Below w.heap.size w (w9.setCell ⟨M + 1, 0, none⟩ (.bool true)) := (hbw.trans (hb9.mono hbw.size)).setCell (p := ⟨M + 1, 0, none⟩) (by have := HM.out; simp only; omega) _
        have bRf := Boxed.set (.bool true) bR9
        gi_wp2
        exact leaves_marks (B := wb.heap.size) Ds _ hM9 (fun E hE => hDs E hE) (fun w2 h2 => ⟨.bool true, lays_results rfl (Boxed.below bRf h2 hlR), rfl, hB9.trans (h2.mono hb5.size)⟩)
  · have hn1 : (1100 : Int) < k0 := by omega
    rw [hNo.out (by rcases hk with h | h; · exact absurd h hk1
                    · exact h)] at hRZ
    have hs0 : ((w.alloc (.cells #[.int .i64 many] 3)).alloc (.cells #[.bool false] 4)).heap.size = w.heap.size + 2 := by simp
    gi_wp2
    generalize (w.alloc (.cells #[.int .i64 many] 3)).alloc (.cells #[.bool false] 4) = W0 at *
    refine ⟨trivial, ?_⟩
    refine (hRZ.out W0).mono ?_
    rintro e wz ⟨rfl, hbz⟩
    have bM := Boxed.below bM hbz bM.lt
    have bR := Boxed.below bR hbz bR.lt
    have hbM := hbM.trans (hbz.mono hbM.size)
    have hs0 : w.heap.size + 2 ≤ wz.heap.size := by have := hbz.size; omega
    clear hbz hRZ hNo hk
    gi_wp2
    refine ⟨trivial, ?_⟩
    refine (hLY.out wz hbM).mono ?_
    rintro e w1 ⟨A7, c7, A8, c8, rfl, N7, N8, hb1⟩
    have R7 := N7.rd
    have R8 := N8.rd
    have bM1 := Boxed.below bM hb1 bM.lt
    have bR1 := Boxed.below bR hb1 bR.lt
    have hB1 := hbM.trans (hb1.mono hbM.size)
    have hz1 := hb1.size
    clear bM bR hbM N7 N8 hb1 hLY
    gi_wp2
    refine ⟨trivial, ?_⟩
    refine (hRL.out w1).mono ?_
    rintro e w2 ⟨A1, c1, A2, c2, rfl, N1, N2, hb2⟩
    have R1 := N1.rd
    have R2 := N2.rd
    have R7 := R7.step hb2
    have R8 := R8.step hb2
    have bM2 := Boxed.below bM1 hb2 bM1.lt
    have bR2 := Boxed.below bR1 hb2 bR1.lt
    have hB2 := hB1.trans (hb2.mono hB1.size)
    have hz2 := hb2.size
    have hbx := below_two (w := w2) (.cells #[.slice A1 L c1] 36) (.cells #[.slice A2 L c2] 36)
    have bS3 := (Boxed.new w2 36 (.slice A1 L c1)).alloc (.cells #[.slice A2 L c2] 36)
    have bP3 := Boxed.new (w2.alloc (.cells #[.slice A1 L c1] 36)) 36 (.slice A2 L c2)
    rw [World.size_alloc] at bP3
    have bM3 := Boxed.below bM2 hbx bM2.lt
    have bR3 := Boxed.below bR2 hbx bR2.lt
    have R1 := R1.step hbx
    have R2 := R2.step hbx
    have R7 := R7.step hbx
    have R8 := R8.step hbx
    have hB3 := hB2.trans (hbx.mono hB2.size)
    have hz3 : ((w2.alloc (.cells #[.slice A1 L c1] 36)).alloc (.cells #[.slice A2 L c2] 36)).heap.size = w2.heap.size + 2 := by simp
    have cS := bS3.cell
    have cP := bP3.cell
    clear bM1 bR1 hB1 bM2 bR2 hB2 hbx hRL hb2 N1 N2
    gi_wp2
    generalize (w2.alloc (.cells #[.slice A1 L c1] 36)).alloc (.cells #[.slice A2 L c2] 36) = W3 at *
    refine ⟨trivial, ?_⟩
    refine (hIT.out W3 _ _ _ _ _ R7 R1).mono ?_
    rintro e w4 ⟨rfl, hb⟩
    have hz4 := hb.size
    have bM3 := Boxed.below bM3 hb bM3.lt
    have bR3 := Boxed.below bR3 hb bR3.lt
    have bS3 := Boxed.below bS3 hb bS3.lt
    have bP3 := Boxed.below bP3 hb bP3.lt
    have R1 := R1.step hb
    have R2 := R2.step hb
    have R7 := R7.step hb
    have R8 := R8.step hb
    have hB3 := hB3.trans (hb.mono hB3.size)
    have cP := bP3.cell
    have cS := bS3.cell
    clear hb
    gi_wp2
    refine ⟨trivial, ?_⟩
    refine (hIT.out w4 _ _ _ _ _ R8 R2).mono ?_
    rintro e w5 ⟨rfl, hb⟩
    have hz5 := hb.size
    have bM3 := Boxed.below bM3 hb bM3.lt
    have bR3 := Boxed.below bR3 hb bR3.lt
    have bS3 := Boxed.below bS3 hb bS3.lt
    have bP3 := Boxed.below bP3 hb bP3.lt
    have R1 := R1.step hb
    have R2 := R2.step hb
    have R7 := R7.step hb
    have R8 := R8.step hb
    have hB3 := hB3.trans (hb.mono hB3.size)
    have cP := bP3.cell
    have cS := bS3.cell
    clear hb
    gi_wp2
    refine ⟨trivial, ?_⟩
    refine (hNum.out w5 _).mono ?_
    rintro e wn ⟨rfl, he⟩
    obtain rfl := he.symm
    clear he
    gi_wp2
    refine ⟨trivial, ?_⟩
    refine (hST.out w5 hB3).mono ?_
    rintro e w6 ⟨C, A6, c6, A6', c6', rfl, hCl, bC5, N5, N6, hb⟩
    have rS6 := N5.rd
    have rP6 := N6.rd
    have hz6 := hb.size
    have bM3 := Boxed.below bM3 hb bM3.lt
    have bR3 := Boxed.below bR3 hb bR3.lt
    have bS3 := Boxed.below bS3 hb bS3.lt
    have bP3 := Boxed.below bP3 hb bP3.lt
    have R1 := R1.step hb
    have R2 := R2.step hb
    have R7 := R7.step hb
    have R8 := R8.step hb
    have hB3 := hB3.trans (hb.mono hB3.size)
    have cP := bP3.cell
    have cS := bS3.cell
    clear hb hST N5 N6 hIT hNum
    have hN0 := hnil C
    obtain ⟨M, hM⟩ : ∃ M, w.heap.size = M := ⟨_, rfl⟩
    obtain ⟨Wc, hWc⟩ : ∃ Wc, w2.heap.size = Wc := ⟨_, rfl⟩
    have HM := Lib.hid hM
    rw [hM] at bM3 bR3
    rw [hWc] at bS3 bP3
    have bM5 := bM3
    have bR5 := bR3
    have bS5 := bS3
    have bP5 := bP3
    have rS := R1
    have rP := R2
    have hb5 := hB3
    have hlM := bM5.lt
    have hlR := bR5.lt
    have hlW := bS5.lt
    have hlP := bP5.lt
    have hlC := bC5.lt
    have hMW : M + 2 ≤ Wc := by omega
    clear hnil hs0 hz1 hz2 hz3 hz4 hz5 hz6 bM3 bR3 bS3 bP3 R1 R2 R7 R8 cS cP hB3 hM hCl
    rw [hWc]
    clear hWc
    rw [HM.out]
    have hT0 := Boxed.new w6 3 (.int .i64 0)
    obtain ⟨wb, hwb⟩ : ∃ wb, w6 = wb := ⟨_, rfl⟩
    subst w6
    have HB := Lib.hid h1
    gi_wp2
    have hbT : Below wb.heap.size wb (wb.alloc (.cells #[.int .i64 0] 3)) := (Below.refl _ _).alloc (Nat.le_refl _) _
    refine wpIn_loop
      (fun a' w' => ∃ (k Tc : Nat) (Ds : List Nat) (v : Nat → Value), k ≤ 2 ∧ Ds.length = k ∧ v = (fun i => a'.tmps.getD i undef) ∧
        a' = { tmps := List.toArray ((.int .i64 k0) :: (.int .i64 code) :: (.int .i64 many) :: (v 3) :: (v 4) :: (.pointer (some ⟨M, 0, none⟩)) :: (.pointer (some ⟨M + 1, 0, none⟩)) :: (.slice A7 L c7) :: (.slice A8 L c8) :: (.int .i64 er) :: (.pointer (some ⟨Wc, 0, none⟩)) :: (.pointer (some ⟨Wc + 1, 0, none⟩)) :: (.int .i64 er) :: (.func (.func 47) #[] #[.pointer (some ⟨C, 0, none⟩)]) :: (.pointer (some ⟨Tc, 0, none⟩)) :: (v 15) :: (v 16) :: (v 17) :: (v 18) :: (v 19) :: (v 20) :: (v 21) :: (v 22) :: (v 23) :: (v 24) :: (v 25) :: (v 26) :: (v 27) :: (v 28) :: (v 29) :: (v 30) :: (v 31) :: (v 32) :: (v 33) :: (v 34) :: (v 35) :: (v 36) :: (v 37) :: (v 38) :: (v 39) :: (v 40) :: (v 41) :: (v 42) :: (v 43) :: (v 44) :: (v 45) :: (v 46) :: (v 47) :: (v 48) :: (v 49) :: (v 50) :: (v 51) :: (v 52) :: (v 53) :: (v 54) :: (v 55) :: (v 56) :: (v 57) :: (v 58) :: (v 59) :: (v 60) :: (v 61) :: (v 62) :: (v 63) :: (v 64) :: (v 65) :: (v 66) :: (v 67) :: (v 68) :: (v 69) :: (v 70) :: (v 71) :: (v 72) :: (v 73) :: (v 74) :: (v 75) :: (v 76) :: (v 77) :: (v 78) :: (v 79) :: (v 80) :: (v 81) :: (v 82) :: (v 83) :: (v 84) :: (v 85) :: (v 86) :: (v 87) :: (v 88) :: (v 89) :: (v 90) :: (v 91) :: (v 92) :: (v 93) :: (v 94) :: (v 95) :: (v 96) :: (v 97) :: (v 98) :: (v 99) :: (v 100) :: (v 101) :: (v 102) :: (v 103) :: (v 104) :: (v 105) :: (v 106) :: (v 107) :: (v 108) :: (v 109) :: (v 110) :: (v 111) :: (v 112) :: (v 113) :: (v 114) :: (v 115) :: (v 116) :: (v 117) :: (v 118) :: (v 119) :: []), defers := Ds.map mkD } ∧ Below wb.heap.size wb w' ∧ Boxed w' Tc 3 (.int .i64 (k : Int)) ∧ wb.heap.size ≤ Tc ∧ Marks w' Ds ∧ (∀ D ∈ Ds, wb.heap.size ≤ D) ∧ Tc ∉ Ds)
      (fun a' _ => 2 - a'.defers.length) ?start ?round
    case start => exact ⟨0, wb.heap.size, [], _, Nat.zero_le _, rfl, rfl, rfl, hbT, hT0, Nat.le_refl _, Marks.nil _, by simp, by simp⟩
    case round =>
      rintro a' w' ⟨k, Tc, Ds, v, hk2, hDl, hv, ha, hB, hT, hTl, hMk, hDs, hTD⟩
      clear hv
      subst ha
      have hcT := hT.cell
      by_cases hlt : k < 2
      · rcases (show k = 0 ∨ k = 1 by omega) with hk | hk
        · subst hk
          have hMc := (hB.cell (p := ⟨M, 0, none⟩) (show M < wb.heap.size from hlM)).trans bM5.cell
          have hsw := hB.size
          have hDl2 := hMk.lt
          have hTw := hT.lt
          rw [show (((0 : Nat) : Int)) = 0 from rfl] at hcT
          have bN := Boxed.new w' 3 (.int .i64 0)
          have hT1 := hT.alloc (.cells #[.int .i64 0] 3)
          have hB1 := hB.alloc hB.size (.cells #[.int .i64 0] 3)
          have hMk1 := hMk.alloc (.cells #[.int .i64 0] 3)
          have hs1 : (w'.alloc (.cells #[.int .i64 0] 3)).heap.size = w'.heap.size + 1 := by simp
          obtain ⟨Nc, hNc⟩ : ∃ Nc, w'.heap.size = Nc := ⟨_, rfl⟩
          have HNC := Lib.hid hNc
          rw [hNc] at bN hs1 hsw hTw hDl2
          clear hNc
          gi_wp2
          rw [HNC.out]
          generalize w'.alloc (.cells #[.int .i64 0] 3) = w1 at *
          have hI0 : EcL wb Nc Tc 0 Ds 0 w1 := ⟨⟨bN, hT1⟩, hB1, hMk1⟩
          have HS1 := Lib.hid hs1
          have hneT : Tc ≠ Nc := by omega
          have hDN : Nc ∉ Ds := fun h => by have := hDl2 _ h; omega
          obtain ⟨J, hJ⟩ : ∃ J : Nat, (((L : Int) ≤ many ∨ L = 0) ∧ J = L) ∨ (1 ≤ L ∧ many ≤ 1 ∧ J = 1) ∨ (1 < many ∧ many < (L : Int) ∧ (J : Int) = many) := by
            by_cases h1 : (L : Int) ≤ many ∨ L = 0
            · exact ⟨_, .inl ⟨h1, rfl⟩⟩
            · by_cases h2 : many ≤ 1
              · exact ⟨1, .inr (.inl ⟨by omega, h2, rfl⟩)⟩
              · exact ⟨many.toNat, .inr (.inr ⟨by omega, by omega, by omega⟩)⟩
          clear bN hT1 hB1 hMk1 hcT hs1
          refine wpIn_tsteps (n := d) (E := C) (K := L) (B := wb.heap.size) (z := .int .i64 0) (A := A6) (A' := A6') (c := c6) (c' := c6') (ss := ss) (ps := ps) h1 (by omega) rfl rfl (fun k W => EcL wb Nc Tc 0 Ds k W ∧ (k = 0 ∨ (k : Int) < many)) (fun c W => c = .exit 2 ∧ EcL wb Nc Tc 0 Ds J W)
            (OwnFrom.pureE (ecL_from (by have := HS1.out; omega) (fun D hD => by have := hDl2 D hD; have := HS1.out; omega)) _)
            (fun c s A C row hs hg hr => ⟨hs.1, (ecL_from (by have := HS1.out; omega) (fun D hD => by have := hDl2 D hD; have := HS1.out; omega)) J A C row hs.2 hg hr⟩)
            (fun k W h => Three.below bC5 (h.1.2.1) hlC) (fun k W h => rS6.below h.1.2.1) (fun k W h => rP6.below h.1.2.1) ⟨hI0, .inl rfl⟩
            (fun k => { tmps := List.toArray ((.int .i64 k0) :: (.int .i64 code) :: (.int .i64 many) :: (v 3) :: (v 4) :: (.pointer (some ⟨M, 0, none⟩)) :: (.pointer (some ⟨M + 1, 0, none⟩)) :: (.slice A7 L c7) :: (.slice A8 L c8) :: (.int .i64 er) :: (.pointer (some ⟨Wc, 0, none⟩)) :: (.pointer (some ⟨Wc + 1, 0, none⟩)) :: (.int .i64 er) :: (.func (.func 47) #[] #[.pointer (some ⟨C, 0, none⟩)]) :: (.pointer (some ⟨Tc, 0, none⟩)) :: (.pointer (some ⟨Nc, 0, none⟩)) :: (.int .i64 (ss[k]?.getD 0)) :: (.int .i64 (ps[k]?.getD 0)) :: (v 18) :: (v 19) :: (v 20) :: (v 21) :: (v 22) :: (v 23) :: (v 24) :: (v 25) :: (v 26) :: (v 27) :: (v 28) :: (v 29) :: (v 30) :: (v 31) :: (v 32) :: (v 33) :: (v 34) :: (v 35) :: (v 36) :: (v 37) :: (v 38) :: (v 39) :: (v 40) :: (v 41) :: (v 42) :: (v 43) :: (v 44) :: (v 45) :: (v 46) :: (v 47) :: (v 48) :: (v 49) :: (v 50) :: (v 51) :: (v 52) :: (v 53) :: (v 54) :: (v 55) :: (v 56) :: (v 57) :: (v 58) :: (v 59) :: (v 60) :: (.int .i64 0) :: (.bool true) :: (v 63) :: (v 64) :: (.func (.func 47) #[] #[.pointer (some ⟨C, 0, none⟩)]) :: (.int .i64 (ss[k]?.getD 0)) :: (.int .i64 (ps[k]?.getD 0)) :: (v 68) :: (v 69) :: (v 70) :: (v 71) :: (v 72) :: (v 73) :: (v 74) :: (v 75) :: (v 76) :: (v 77) :: (v 78) :: (v 79) :: (v 80) :: (v 81) :: (v 82) :: (v 83) :: (v 84) :: (v 85) :: (v 86) :: (v 87) :: (v 88) :: (v 89) :: (v 90) :: (v 91) :: (v 92) :: (v 93) :: (v 94) :: (v 95) :: (v 96) :: (v 97) :: (v 98) :: (v 99) :: (v 100) :: (v 101) :: (v 102) :: (v 103) :: (v 104) :: (v 105) :: (v 106) :: (v 107) :: (v 108) :: (v 109) :: (v 110) :: (v 111) :: (v 112) :: (v 113) :: (v 114) :: (v 115) :: (v 116) :: (v 117) :: (v 118) :: (v 119) :: []), defers := [] }) ?assign ?body ?done ?stop
          case assign =>
            intro lp k W K hK
            gi_wp2
            exact hK
          case body =>
            rintro lp k W hk ⟨hI, hp⟩ hbig
            obtain ⟨b5, off5, rfl, _, hcz⟩ := rS.cells k hk
            obtain ⟨b6, off6, rfl, _, hcp⟩ := rP.cells k hk
            have y1 := hI.1.1.cell
            have f1 := hI.1.1.frozen
            have y2 := hI.1.2.cell
            rw [show (((0 : Nat) : Int)) = 0 from rfl] at y2
            have y3 := (hI.2.1.cell (p := ⟨Wc, 0, none⟩) (show Wc < wb.heap.size from hlW)).trans bS5.cell
            have y4 := (hI.2.1.cell (p := ⟨b5, off5 + k, none⟩) (show b5 < wb.heap.size by assumption)).trans hcz
            have y5 := (hI.2.1.cell (p := ⟨M, 0, none⟩) (show M < wb.heap.size from hlM)).trans bM5.cell
            have y6 := (hI.2.1.cell (p := ⟨Wc + 1, 0, none⟩) (show Wc + 1 < wb.heap.size from hlP)).trans bP5.cell
            have y7 := (hI.2.1.cell (p := ⟨b6, off6 + k, none⟩) (show b6 < wb.heap.size by assumption)).trans hcp
            have hk0 : (0 : Int) ≤ (k : Int) := by omega
            have hk1 : (k : Int) < (L : Int) := by omega
            have hk2 : ¬ (L : Int) ≤ (k : Int) := by omega
            have HI := Lib.hid (ecL_step hI (by omega) hneT hDN ((k : Int) + 1) (by omega))
            have hKF : Hid (KeepsFrom w1.heap.size W (W.setCell ⟨Nc, 0, none⟩ (.int .i64 ((k : Int) + 1)))) := Lib.hid ((KeepsOthers.setCell W _ _).from _)
            generalize ps[k]?.getD 0 = pk at *
            generalize ss[k]?.getD 0 = sk at *
            have hJk : Hid ((many ≤ (k : Int) + 1 → EcL wb Nc Tc 0 Ds J (W.setCell ⟨Nc, 0, none⟩ (.int .i64 ((k : Int) + 1)))) ∧ True) := Lib.hid ⟨fun hm => (show k + 1 = J by omega) ▸ HI.out, trivial⟩
            clear hI hp hJ hcz hcp rS rP rS6 rP6 bC5
            by_cases hm : many ≤ (k : Int) + 1
            · gi_wp2
              exact ⟨hKF.out, rfl, hJk.out.1 hm⟩
            · gi_wp2
              exact ⟨hKF.out, HI.out, .inr (by omega)⟩
          case done =>
            rintro D W hD ⟨hI, hp⟩ hKD
            have hJb : J = L := by omega
            have HJB := Lib.hid hJb
            clear hJb hJ
            subst hD
            have hnD : w1.heap.size ∉ Ds := fun h => by have := hDl2 _ h; have := HS1.out; omega
            have hbel := Lib.hid (hI.2.1.alloc hI.2.1.size (.cells #[.int .i64 1] 3))
            have hbox : Hid (Boxed (W.alloc (.cells #[.int .i64 1] 3)) W.heap.size 3 (.int .i64 ((1 : Nat) : Int))) := Lib.hid (Boxed.new W 3 (.int .i64 1))
            have hmk := Lib.hid ((hI.2.2.cons hKD hnD).alloc (.cells #[.int .i64 1] 3))
            have hszW := hI.2.1.size
            have hMl := (hI.2.2.cons hKD hnD).lt
            have hfin : Hid ((∀ D ∈ w1.heap.size :: Ds, wb.heap.size ≤ D) ∧ W.heap.size ∉ w1.heap.size :: Ds) := Lib.hid ⟨fun E hE => by
              rcases List.mem_cons.1 hE with rfl | hE
              · have := HS1.out; omega
              · exact hDs E hE, fun h => by have := hMl _ h; omega⟩
            clear hMl hnD
            have y1 := hI.1.1.cell
            have y2 := hI.1.2.cell
            rw [show (((0 : Nat) : Int)) = 0 from rfl] at y2
            have y3 := (hI.2.1.cell (p := ⟨Wc, 0, none⟩) (show Wc < wb.heap.size from hlW)).trans bS5.cell
            have y5 := (hI.2.1.cell (p := ⟨M, 0, none⟩) (show M < wb.heap.size from hlM)).trans bM5.cell
            clear hI hKD rS rP rS6 rP6 bC5
            gi_wp2
            all_goals first
              | exact ⟨1, by omega, W.heap.size, w1.heap.size :: Ds, by simp [hDl], ⟨rfl, rfl⟩, hbel.out, hbox.out, hszW, hmk.out, hfin.out.1, hfin.out.2⟩
              | exact ⟨⟨1, W.heap.size, w1.heap.size :: Ds, _, by omega, by simp [hDl], rfl, rfl, hbel.out, hbox.out, hszW, hmk.out, hfin.out.1, hfin.out.2⟩, by simp [hDl]⟩
              | (exfalso; omega)
              | fail
          case stop =>
            rintro D c W hD ⟨rfl, hI⟩ hKD
            have HJ := Lib.hid hJ
            subst hD
            have hnD : w1.heap.size ∉ Ds := fun h => by have := hDl2 _ h; have := HS1.out; omega
            have hbel := Lib.hid (hI.2.1.alloc hI.2.1.size (.cells #[.int .i64 1] 3))
            have hbox : Hid (Boxed (W.alloc (.cells #[.int .i64 1] 3)) W.heap.size 3 (.int .i64 ((1 : Nat) : Int))) := Lib.hid (Boxed.new W 3 (.int .i64 1))
            have hmk := Lib.hid ((hI.2.2.cons hKD hnD).alloc (.cells #[.int .i64 1] 3))
            have hszW := hI.2.1.size
            have hMl := (hI.2.2.cons hKD hnD).lt
            have hfin : Hid ((∀ D ∈ w1.heap.size :: Ds, wb.heap.size ≤ D) ∧ W.heap.size ∉ w1.heap.size :: Ds) := Lib.hid ⟨fun E hE => by
              rcases List.mem_cons.1 hE with rfl | hE
              · have := HS1.out; omega
              · exact hDs E hE, fun h => by have := hMl _ h; omega⟩
            clear hMl hnD
            have y1 := hI.1.1.cell
            have y2 := hI.1.2.cell
            rw [show (((0 : Nat) : Int)) = 0 from rfl] at y2
            have y3 := (hI.2.1.cell (p := ⟨Wc, 0, none⟩) (show Wc < wb.heap.size from hlW)).trans bS5.cell
            have y5 := (hI.2.1.cell (p := ⟨M, 0, none⟩) (show M < wb.heap.size from hlM)).trans bM5.cell
            clear hI hKD rS rP rS6 rP6 bC5
            gi_wp2
            all_goals first
              | exact ⟨1, by omega, W.heap.size, w1.heap.size :: Ds, by simp [hDl], ⟨rfl, rfl⟩, hbel.out, hbox.out, hszW, hmk.out, hfin.out.1, hfin.out.2⟩
              | exact ⟨⟨1, W.heap.size, w1.heap.size :: Ds, _, by omega, by simp [hDl], rfl, rfl, hbel.out, hbox.out, hszW, hmk.out, hfin.out.1, hfin.out.2⟩, by simp [hDl]⟩
              | (exfalso; omega)
              | fail
        · subst hk
          have hMc := (hB.cell (p := ⟨M, 0, none⟩) (show M < wb.heap.size from hlM)).trans bM5.cell
          have hsw := hB.size
          have hDl2 := hMk.lt
          have hTw := hT.lt
          rw [show (((1 : Nat) : Int)) = 1 from rfl] at hcT
          have bN := Boxed.new w' 3 (.int .i64 0)
          have hT1 := hT.alloc (.cells #[.int .i64 0] 3)
          have hB1 := hB.alloc hB.size (.cells #[.int .i64 0] 3)
          have hMk1 := hMk.alloc (.cells #[.int .i64 0] 3)
          have hs1 : (w'.alloc (.cells #[.int .i64 0] 3)).heap.size = w'.heap.size + 1 := by simp
          obtain ⟨Nc, hNc⟩ : ∃ Nc, w'.heap.size = Nc := ⟨_, rfl⟩
          have HNC := Lib.hid hNc
          rw [hNc] at bN hs1 hsw hTw hDl2
          clear hNc
          gi_wp2
          rw [HNC.out]
          generalize w'.alloc (.cells #[.int .i64 0] 3) = w1 at *
          have hI0 : EcL wb Nc Tc 1 Ds 0 w1 := ⟨⟨bN, hT1⟩, hB1, hMk1⟩
          have HS1 := Lib.hid hs1
          have hneT : Tc ≠ Nc := by omega
          have hDN : Nc ∉ Ds := fun h => by have := hDl2 _ h; omega
          obtain ⟨J, hJ⟩ : ∃ J : Nat, J = L := ⟨_, rfl⟩
          clear bN hT1 hB1 hMk1 hcT hs1
          refine wpIn_tsteps (n := d) (E := C) (K := L) (B := wb.heap.size) (z := .int .i64 0) (A := A6) (A' := A6') (c := c6) (c' := c6') (ss := ss) (ps := ps) h1 (by omega) rfl rfl (fun k W => EcL wb Nc Tc 1 Ds k W) (fun _ _ => False)
            (ecL_from (by have := HS1.out; omega) (fun D hD => by have := hDl2 D hD; have := HS1.out; omega))
            (fun c s A C row hs hg hr => hs)
            (fun k W h => Three.below bC5 (h.2.1) hlC) (fun k W h => rS6.below h.2.1) (fun k W h => rP6.below h.2.1) hI0
            (fun k => { tmps := List.toArray ((.int .i64 k0) :: (.int .i64 code) :: (.int .i64 many) :: (v 3) :: (v 4) :: (.pointer (some ⟨M, 0, none⟩)) :: (.pointer (some ⟨M + 1, 0, none⟩)) :: (.slice A7 L c7) :: (.slice A8 L c8) :: (.int .i64 er) :: (.pointer (some ⟨Wc, 0, none⟩)) :: (.pointer (some ⟨Wc + 1, 0, none⟩)) :: (.int .i64 er) :: (.func (.func 47) #[] #[.pointer (some ⟨C, 0, none⟩)]) :: (.pointer (some ⟨Tc, 0, none⟩)) :: (.pointer (some ⟨Nc, 0, none⟩)) :: (.int .i64 (ss[k]?.getD 0)) :: (.int .i64 (ps[k]?.getD 0)) :: (v 18) :: (v 19) :: (v 20) :: (v 21) :: (v 22) :: (v 23) :: (v 24) :: (v 25) :: (v 26) :: (v 27) :: (v 28) :: (v 29) :: (v 30) :: (v 31) :: (v 32) :: (v 33) :: (v 34) :: (v 35) :: (v 36) :: (v 37) :: (v 38) :: (v 39) :: (v 40) :: (v 41) :: (v 42) :: (v 43) :: (v 44) :: (v 45) :: (v 46) :: (v 47) :: (v 48) :: (v 49) :: (v 50) :: (v 51) :: (v 52) :: (v 53) :: (v 54) :: (v 55) :: (v 56) :: (v 57) :: (v 58) :: (v 59) :: (v 60) :: (.int .i64 1) :: (.bool true) :: (v 63) :: (v 64) :: (.func (.func 47) #[] #[.pointer (some ⟨C, 0, none⟩)]) :: (.int .i64 (ss[k]?.getD 0)) :: (.int .i64 (ps[k]?.getD 0)) :: (v 68) :: (v 69) :: (v 70) :: (v 71) :: (v 72) :: (v 73) :: (v 74) :: (v 75) :: (v 76) :: (v 77) :: (v 78) :: (v 79) :: (v 80) :: (v 81) :: (v 82) :: (v 83) :: (v 84) :: (v 85) :: (v 86) :: (v 87) :: (v 88) :: (v 89) :: (v 90) :: (v 91) :: (v 92) :: (v 93) :: (v 94) :: (v 95) :: (v 96) :: (v 97) :: (v 98) :: (v 99) :: (v 100) :: (v 101) :: (v 102) :: (v 103) :: (v 104) :: (v 105) :: (v 106) :: (v 107) :: (v 108) :: (v 109) :: (v 110) :: (v 111) :: (v 112) :: (v 113) :: (v 114) :: (v 115) :: (v 116) :: (v 117) :: (v 118) :: (v 119) :: []), defers := [] }) ?assign ?body ?done ?stop
          case assign =>
            intro lp k W K hK
            gi_wp2
            exact hK
          case body =>
            rintro lp k W hk hI hbig
            obtain ⟨b5, off5, rfl, _, hcz⟩ := rS.cells k hk
            obtain ⟨b6, off6, rfl, _, hcp⟩ := rP.cells k hk
            have y1 := hI.1.1.cell
            have f1 := hI.1.1.frozen
            have y2 := hI.1.2.cell
            rw [show (((1 : Nat) : Int)) = 1 from rfl] at y2
            have y3 := (hI.2.1.cell (p := ⟨Wc, 0, none⟩) (show Wc < wb.heap.size from hlW)).trans bS5.cell
            have y4 := (hI.2.1.cell (p := ⟨b5, off5 + k, none⟩) (show b5 < wb.heap.size by assumption)).trans hcz
            have y5 := (hI.2.1.cell (p := ⟨M, 0, none⟩) (show M < wb.heap.size from hlM)).trans bM5.cell
            have y6 := (hI.2.1.cell (p := ⟨Wc + 1, 0, none⟩) (show Wc + 1 < wb.heap.size from hlP)).trans bP5.cell
            have y7 := (hI.2.1.cell (p := ⟨b6, off6 + k, none⟩) (show b6 < wb.heap.size by assumption)).trans hcp
            have hk0 : (0 : Int) ≤ (k : Int) := by omega
            have hk1 : (k : Int) < (L : Int) := by omega
            have hk2 : ¬ (L : Int) ≤ (k : Int) := by omega
            have HI := Lib.hid (ecL_step hI (by omega) hneT hDN ((k : Int) + 1) (by omega))
            have hKF : Hid (KeepsFrom w1.heap.size W (W.setCell ⟨Nc, 0, none⟩ (.int .i64 ((k : Int) + 1)))) := Lib.hid ((KeepsOthers.setCell W _ _).from _)
            generalize ps[k]?.getD 0 = pk at *
            generalize ss[k]?.getD 0 = sk at *
            clear hI hJ hcz hcp rS rP rS6 rP6 bC5
            gi_wp2
            exact ⟨hKF.out, HI.out⟩
          case done =>
            rintro D W hD hI hKD
            clear hJ
            subst hD
            have hnD : w1.heap.size ∉ Ds := fun h => by have := hDl2 _ h; have := HS1.out; omega
            have hbel := Lib.hid (hI.2.1.alloc hI.2.1.size (.cells #[.int .i64 2] 3))
            have hbox : Hid (Boxed (W.alloc (.cells #[.int .i64 2] 3)) W.heap.size 3 (.int .i64 ((2 : Nat) : Int))) := Lib.hid (Boxed.new W 3 (.int .i64 2))
            have hmk := Lib.hid ((hI.2.2.cons hKD hnD).alloc (.cells #[.int .i64 2] 3))
            have hszW := hI.2.1.size
            have hMl := (hI.2.2.cons hKD hnD).lt
            have hfin : Hid ((∀ D ∈ w1.heap.size :: Ds, wb.heap.size ≤ D) ∧ W.heap.size ∉ w1.heap.size :: Ds) := Lib.hid ⟨fun E hE => by
              rcases List.mem_cons.1 hE with rfl | hE
              · have := HS1.out; omega
              · exact hDs E hE, fun h => by have := hMl _ h; omega⟩
            clear hMl hnD
            have y1 := hI.1.1.cell
            have y2 := hI.1.2.cell
            rw [show (((1 : Nat) : Int)) = 1 from rfl] at y2
            have y3 := (hI.2.1.cell (p := ⟨Wc, 0, none⟩) (show Wc < wb.heap.size from hlW)).trans bS5.cell
            have y5 := (hI.2.1.cell (p := ⟨M, 0, none⟩) (show M < wb.heap.size from hlM)).trans bM5.cell
            clear hI hKD rS rP rS6 rP6 bC5
            gi_wp2
            all_goals first
              | exact ⟨2, by omega, W.heap.size, w1.heap.size :: Ds, by simp [hDl], ⟨rfl, rfl⟩, hbel.out, hbox.out, hszW, hmk.out, hfin.out.1, hfin.out.2⟩
              | exact ⟨⟨2, W.heap.size, w1.heap.size :: Ds, _, by omega, by simp [hDl], rfl, rfl, hbel.out, hbox.out, hszW, hmk.out, hfin.out.1, hfin.out.2⟩, by simp [hDl]⟩
              | (exfalso; omega)
              | fail
          case stop =>
            rintro D c W hD hx hKD
            exact hx.elim
      · obtain rfl : k = 2 := by omega
        have hbw := hb5.trans (hB.mono hb5.size)
        have hcR := (hB.cell (p := ⟨M + 1, 0, none⟩) (show M + 1 < wb.heap.size from hlR)).trans bR5.cell
        have bRw := Boxed.below bR5 hB hlR
        have hcT2 : w'.cell? ⟨Tc, 0, none⟩ = some (.int .i64 2) := hcT
        clear hcT
        gi_wp2
        refine ⟨trivial, ?_⟩
        refine (hK.out _ hbw).mono ?_
        rintro e w9 ⟨rfl, hb9⟩
        have bR9 := Boxed.below bRw hb9 bRw.lt
        have e0 := bR9.cell
        have e1 := bR9.frozen
        have hM9 := (hMk.grown (below_grownE hb9) (fun _ _ e => by cases e)).setCell (p := ⟨M + 1, 0, none⟩) (.bool true) (fun h => by have := hDs _ h; simp only at this; omega)
        have hB9 : Below w.heap.size w (w9.setCell ⟨M + 1, 0, none⟩ (.bool true)) := (hbw.trans (hb9.mono hbw.size)).setCell (p := ⟨M + 1, 0, none⟩) (by have := HM.out; simp only; omega) _
        have bRf := Boxed.set (.bool true) bR9
        gi_wp2
        exact leaves_marks (B := wb.heap.size) Ds _ hM9 (fun E hE => hDs E hE) (fun w2 h2 => ⟨.bool true, lays_results rfl (Boxed.below bRf h2 hlR), rfl, hB9.trans (h2.mono hb5.size)⟩)
set_option maxHeartbeats 8000000 in
theorem lays_big {d : Nat} (hd : 12 ≤ d) {k0 code many : Int} {w : World} (hKi : Kinds w) (hk : 1100 < k0) (hk2 : isB k0 = true) :
    CallsIn Fence.wide d Tryd.prog 5 #[.int .i64 k0, .int .i64 code, .int .i64 many] w fun e w' => e = .returned (.bool true) ∧ Below w.heap.size w w' := by
  have h1' : 1 ≤ d := by omega
  have hK := Lib.hid (fun (u : World) (h : Below w.heap.size w u) => callsIn_wide (n := d - 1).2 (works_any (hKi.step h)))
  have hRZ := Lib.hid (fun (u : World) => callsIn_wide (n := d - 1).2 (refSize_any (k := k0) (w := u)))
  obtain ⟨m, hm, hs⟩ := isB_ex hk2
  have hp : (0 : Int) < sizeS k0 := by rw [hm, sizeS_size hs]; omega
  generalize sizeS k0 = sz at *
  clear hKi hs hm hk2
  refine callsIn_of_wp_marks Tryd.func5 rfl trivial ?_ rfl
  simp only [Tryd.ntmps5, List.size_toArray, List.length_cons, List.length_nil, Nat.reduceAdd, Nat.reduceSub, Array.replicate_succ, Array.replicate_zero, List.push_toArray, List.append_toArray, List.nil_append, List.cons_append]
  have hbM := below_two (w := w) (.cells #[.int .i64 many] 3) (.cells #[.bool false] 4)
  have bR := Boxed.new (w.alloc (.cells #[.int .i64 many] 3)) 4 (.bool false)
  rw [World.size_alloc] at bR
  gi_wp2
  generalize (w.alloc (.cells #[.int .i64 many] 3)).alloc (.cells #[.bool false] 4) = W0 at *
  refine ⟨trivial, ?_⟩
  refine (hRZ.out W0).mono ?_
  rintro e w1 ⟨rfl, hb1⟩
  have bR1 := Boxed.below bR hb1 bR.lt
  have hB1 := hbM.trans (hb1.mono hbM.size)
  gi_wp2
  refine ⟨trivial, ?_⟩
  refine (hK.out w1 hB1).mono ?_
  rintro e w9 ⟨rfl, hb9⟩
  have bR9 := Boxed.below bR1 hb9 bR1.lt
  have e0 := bR9.cell
  have e1 := bR9.frozen
  have hB9 : Below w.heap.size w (w9.setCell ⟨w.heap.size + 1, 0, none⟩ (.bool true)) := (hB1.trans (hb9.mono hB1.size)).setCell (p := ⟨w.heap.size + 1, 0, none⟩) (by simp only; omega) _
  have bRf := Boxed.set (.bool true) bR9
  have hs9 := bRf.lt
  gi_wp2
  exact leaves_marks (B := w.heap.size + 2) [] _ (Marks.nil _) (fun E hE => by simp at hE) (fun w2 h2 => ⟨.bool true, lays_results rfl (Boxed.below bRf h2 (by omega)), rfl, hB9.trans (h2.mono (by omega))⟩)
theorem lays_walk {k0 code many : Int} {w : World} (hKi : Kinds w) :
    Calls Tryd.prog 5 #[.int .i64 k0, .int .i64 code, .int .i64 many] w fun e w' => e = .returned (.bool true) ∧ Below w.heap.size w w' := by
  by_cases hk : k0 ≤ 1100
  · exact callsIn_wide.1 (lays_in (d := 14) (by decide) hKi (.inl hk))
  · by_cases hb : isB k0 = true
    · exact callsIn_wide.1 (lays_big (d := 14) (by decide) hKi (by omega) hb)
    · exact callsIn_wide.1 (lays_in (d := 14) (by decide) hKi (.inr (Bool.eq_false_iff.2 hb)))
end Go.Proofs.YtbpkoilecdejiaaDoor
