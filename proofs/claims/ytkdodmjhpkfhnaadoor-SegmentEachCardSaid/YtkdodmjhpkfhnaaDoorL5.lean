/-
  The law SegmentEach's walk.
-/
import Derived.Test.YtkdodmjhpkfhnaaDoorL1
import Derived.Test.YtkdodmjhpkfhnaaDoorEa
import Derived.Test.YtkdodmjhpkfhnaaDoorRg
import Derived.Test.YtkdodmjhpkfhnaaDoorRuns
namespace Go.Proofs.YtkdodmjhpkfhnaaDoor
open Go.RowKit Go.Shelf BigFrame

attribute [local go_sem] Oper.semAt_some

theorem below_grownE {w w' : World} (h : Below w.heap.size w w') : w.grownBy w' none := ⟨h.os, h.tape, h.output, h.size, fun k hk _ => h.block k hk⟩
theorem planS_blocks (b : Int) : (planS b).1.blocks ≤ 13 := by
  unfold planS
  split
  · exact Nat.zero_le _
  · exact (planN_ok (by omega) (by omega)).1.blocks1
/-- The counter, the turn, and what lay there before. -/
def EcI (wb : World) (Nc Tc t : Nat) (Ds : List Nat) (k : Nat) (W : World) : Prop :=
  (Boxed W Nc 3 (.int .i64 (k : Int)) ∧ Boxed W Tc 3 (.int .i64 (t : Int))) ∧ Below wb.heap.size wb W ∧ Marks W Ds
theorem ecI_from {wb : World} {Nc Tc t B : Nat} {Ds : List Nat} (hB : wb.heap.size ≤ B) (hD : ∀ D ∈ Ds, D < B) : OwnFrom B (EcI wb Nc Tc t Ds) :=
  OwnFrom.and (Own.from (fun k A C row hs hg hr => ⟨boxed_own Nc 3 (fun k : Nat => .int .i64 (k : Int)) k A C row hs.1 hg hr, boxed_own Tc 3 (fun _ : Nat => .int .i64 (t : Int)) k A C row hs.2 hg hr⟩) _)
    (OwnFrom.and (ownFrom_below (Nat.le_refl _) hB) (Marks.ownFrom hD))
theorem ecI_step {wb : World} {Nc Tc t : Nat} {Ds : List Nat} {k : Nat} {W : World} (h : EcI wb Nc Tc t Ds k W) (hN : wb.heap.size ≤ Nc) (hne : Tc ≠ Nc) (hD : Nc ∉ Ds) (x : Int) (hx : x = ((k + 1 : Nat) : Int)) :
    EcI wb Nc Tc t Ds (k + 1) (W.setCell ⟨Nc, 0, none⟩ (.int .i64 x)) := by
  subst hx
  exact ⟨⟨h.1.1.set _, h.1.2.other hne _⟩, h.2.1.setCell (p := ⟨Nc, 0, none⟩) hN _, h.2.2.setCell _ hD⟩
theorem each_results {W : World} {tmps : Array Value} {B : Nat} (h4 : tmps.getD 4 undef = .pointer (some ⟨B, 0, none⟩)) (hb : Boxed W B 4 (.bool true)) :
    (results Tryd.f5 tmps).run Tryd.prog W = .ok (.bool true) W := by
  have hc := hb.cell
  simp only [Array.getD_eq_getD_getElem?] at h4
  simp [results, Tryd.results5, go_sem, h4, hc]
theorem OwnFrom.pureE {β : Type} {B : Nat} {I : β → World → Prop} (h : OwnFrom B I) (p : β → Prop) : OwnFrom B (fun s W => I s W ∧ p s) := fun s A C row hs hg hr => ⟨h s A C row hs.1 hg hr, hs.2⟩
set_option maxRecDepth 100000 in
set_option maxHeartbeats 8000000 in
theorem each_in {d : Nat} (hd : 6 ≤ d) {b many : Int} {w : World} (hK : Kinds w) :
    CallsIn Fence.wide d Tryd.prog 5 #[.int .i64 b, .int .i64 many] w fun e w' => e = .returned (.bool true) ∧ Below w.heap.size w w' := by
  have hnil : ∀ (B : Nat) (u : World), (binOp .eql 41 (.func (.func 55) #[] #[.pointer (some ⟨B, 0, none⟩)]) .nilFunc).run Tryd.prog u = .ok (.bool false) u := fun B u => by kernel_rfl
  obtain ⟨l, z, hl⟩ : ∃ l z, planS b = (l, z) := ⟨_, _, rfl⟩
  have hbl : l.blocks ≤ 13 := by have := planS_blocks b; rw [hl] at this; exact this
  have hRE := Lib.hid (fun (u : World) => callsIn_wide (n := d - 1).2 (refEach_any (b := b) (w := u) hl hbl))
  have hEA := fun (u : World) (h : Below w.heap.size w u) => callsIn_wide (n := d - 1).2 (Each_any (b := b) (hK.step h))
  rw [hl] at hEA
  replace hEA := Lib.hid hEA
  have hW := Lib.hid (fun (u : World) (h : Below w.heap.size w u) => callsIn_wide (n := d - 1).2 (works_any (hK.step h)))
  have h1 : 2 ≤ d := by omega
  have h1' : 1 ≤ d := by omega
  clear hl
  refine callsIn_of_wp_marks Tryd.func5 rfl trivial ?_ rfl
  simp only [Tryd.ntmps5, List.size_toArray, List.length_cons, List.length_nil, Nat.reduceAdd, Nat.reduceSub, Array.replicate_succ, Array.replicate_zero, List.push_toArray, List.append_toArray, List.nil_append, List.cons_append]
  have hbM := below_two (w := w) (.cells #[.int .i64 many] 3) (.cells #[.bool false] 4)
  have bM := (Boxed.new w 3 (.int .i64 many)).alloc (.cells #[.bool false] 4)
  have bR := Boxed.new (w.alloc (.cells #[.int .i64 many] 3)) 4 (.bool false)
  rw [World.size_alloc] at bR
  gi_wp2
  generalize (w.alloc (.cells #[.int .i64 many] 3)).alloc (.cells #[.bool false] 4) = W0 at *
  refine ⟨trivial, ?_⟩
  refine (hRE.out _).mono ?_
  rintro e w3 ⟨A3, c3, rfl, ho3, hb3⟩
  have bM3 := Boxed.below bM hb3 bM.lt
  have bR3 := Boxed.below bR hb3 bR.lt
  have hr3 := Rd.of_own ho3
  replace hb3 := hbM.trans (hb3.mono hbM.size)
  have bM4 := bM3.alloc (.cells #[.slice A3 l.blocks c3] 28)
  have bR4 := bR3.alloc (.cells #[.slice A3 l.blocks c3] 28)
  have bW4 := Boxed.new w3 28 (.slice A3 l.blocks c3)
  have hr4 := hr3.alloc (Nat.le_refl _) (.cells #[.slice A3 l.blocks c3] 28)
  have hb4 := hb3.alloc hb3.size (.cells #[.slice A3 l.blocks c3] 28)
  have hlt3 := Nat.le_of_lt (bW4.lt)
  clear hbM bM bR bM3 bR3 hr3 hb3 ho3 hRE
  gi_wp2
  generalize w3.alloc (.cells #[.slice A3 l.blocks c3] 28) = W4 at *
  refine ⟨trivial, ?_⟩
  refine (hEA.out _ hb4).mono ?_
  rintro e wb ⟨B, rfl, hBw, hL, hb5⟩
  have bM5 := Boxed.below bM4 hb5 bM4.lt
  have bR5 := Boxed.below bR4 hb5 bR4.lt
  have bW5 := Boxed.below bW4 hb5 bW4.lt
  have hr5 := ((hr4.more hlt3).below hb5).more hb5.size
  replace hb5 := hb4.trans (hb5.mono hb4.size)
  have hlM := bM5.lt
  have hlR := bR5.lt
  have hlW := bW5.lt
  have hlL := hL.lt
  have hT0 := Boxed.new wb 3 (.int .i64 0)
  have hN0 := hnil B
  obtain ⟨M, hM⟩ : ∃ M, w.heap.size = M := ⟨_, rfl⟩
  obtain ⟨Wc, hWc⟩ : ∃ Wc, w3.heap.size = Wc := ⟨_, rfl⟩
  clear hnil hEA hb4 bM4 bR4 bW4 hr4 hlt3 hBw
  gi_wp2
  have hbT : Below wb.heap.size wb (wb.alloc (.cells #[.int .i64 0] 3)) := (Below.refl _ _).alloc (Nat.le_refl _) _
  rw [hM] at bM5 hlM
  rw [hM] at bR5 hlR
  rw [hWc] at bW5 hlW
  have HM := Lib.hid hM
  clear hM hWc
  refine wpIn_loop
    (fun a' w' => ∃ (k Tc : Nat) (Ds : List Nat) (u2 u8 u9 u10 u11 u12 u13 u14 u15 u16 u17 u18 u19 u20 u21 u22 u23 u24 u25 u26 u27 u28 u29 u30 u31 u32 u33 u34 u35 u36 u37 u38 u39 u40 u41 u42 u43 u44 u45 u46 u47 u48 u49 u50 u51 u52 u53 u54 u55 u56 u57 u58 u59 u60 u61 u62 u63 u64 u65 u66 u67 u68 u69 u70 u71 u72 : Value), k ≤ 2 ∧ Ds.length = k ∧
      a' = { tmps := List.toArray ((.int .i64 b) :: (.int .i64 many) :: u2 :: (.pointer (some ⟨M, 0, none⟩)) :: (.pointer (some ⟨M + 1, 0, none⟩)) :: (.pointer (some ⟨Wc, 0, none⟩)) :: (.func (.func 55) #[] #[.pointer (some ⟨B, 0, none⟩)]) :: (.pointer (some ⟨Tc, 0, none⟩)) :: u8 :: u9 :: u10 :: u11 :: u12 :: u13 :: u14 :: u15 :: u16 :: u17 :: u18 :: u19 :: u20 :: u21 :: u22 :: u23 :: u24 :: u25 :: u26 :: u27 :: u28 :: u29 :: u30 :: u31 :: u32 :: u33 :: u34 :: u35 :: u36 :: u37 :: u38 :: u39 :: u40 :: u41 :: u42 :: u43 :: u44 :: u45 :: u46 :: u47 :: u48 :: u49 :: u50 :: u51 :: u52 :: u53 :: u54 :: u55 :: u56 :: u57 :: u58 :: u59 :: u60 :: u61 :: u62 :: u63 :: u64 :: u65 :: u66 :: u67 :: u68 :: u69 :: u70 :: u71 :: u72 :: []), defers := Ds.map mkD } ∧ Below wb.heap.size wb w' ∧ Boxed w' Tc 3 (.int .i64 (k : Int)) ∧ wb.heap.size ≤ Tc ∧ Marks w' Ds ∧ (∀ D ∈ Ds, wb.heap.size ≤ D) ∧ Tc ∉ Ds)
    (fun a' _ => 2 - a'.defers.length) ?start ?round
  case start => exact ⟨0, wb.heap.size, [], _, _, _, _, _, _, _, _, _, _, _, _, _, _, _, _, _, _, _, _, _, _, _, _, _, _, _, _, _, _, _, _, _, _, _, _, _, _, _, _, _, _, _, _, _, _, _, _, _, _, _, _, _, _, _, _, _, _, _, _, _, _, _, _, _, _, Nat.zero_le _, rfl, rfl, hbT, hT0, Nat.le_refl _, Marks.nil _, by simp, by simp⟩
  case round =>
    rintro a' w' ⟨k, Tc, Ds, u2, u8, u9, u10, u11, u12, u13, u14, u15, u16, u17, u18, u19, u20, u21, u22, u23, u24, u25, u26, u27, u28, u29, u30, u31, u32, u33, u34, u35, u36, u37, u38, u39, u40, u41, u42, u43, u44, u45, u46, u47, u48, u49, u50, u51, u52, u53, u54, u55, u56, u57, u58, u59, u60, u61, u62, u63, u64, u65, u66, u67, u68, u69, u70, u71, u72, hk2, hDl, rfl, hB, hT, hTl, hMk, hDs, hTD⟩
    have hcT := hT.cell
    by_cases hlt : k < 2
    · rcases (show k = 0 ∨ k = 1 by omega) with hk | hk
      · subst hk
        have hMc := (hB.cell (p := ⟨M, 0, none⟩) (show M < wb.heap.size from hlM)).trans bM5.cell
        have hsw := hB.size
        have hDl2 := hMk.lt
        have hTw := hT.lt
        rw [show (((0 : Nat) : Int)) = 0 from rfl] at hcT
        have bN := Boxed.new w' 3 (.int .i64 0)
        have hT1 := hT.alloc (.cells #[.int .i64 0] 3)
        have hB1 := hB.alloc hB.size (.cells #[.int .i64 0] 3)
        have hMk1 := hMk.alloc (.cells #[.int .i64 0] 3)
        have hs1 : (w'.alloc (.cells #[.int .i64 0] 3)).heap.size = w'.heap.size + 1 := by simp
        obtain ⟨Nc, hNc⟩ : ∃ Nc, w'.heap.size = Nc := ⟨_, rfl⟩
        have HNC := Lib.hid hNc
        rw [hNc] at bN hs1 hsw hTw hDl2
        clear hNc
        gi_wp2
        rw [HNC.out]
        generalize w'.alloc (.cells #[.int .i64 0] 3) = w1 at *
        have hI0 : EcI wb Nc Tc 0 Ds 0 w1 := ⟨⟨bN, hT1⟩, hB1, hMk1⟩
        have HS1 := Lib.hid hs1
        have hneT : Tc ≠ Nc := by omega
        have hDN : Nc ∉ Ds := fun h => by have := hDl2 _ h; omega
        obtain ⟨J, hJ⟩ : ∃ J : Nat, (((l.blocks : Int) ≤ many ∨ l.blocks = 0) ∧ J = l.blocks) ∨ (1 ≤ l.blocks ∧ many ≤ 1 ∧ J = 1) ∨ (1 < many ∧ many < (l.blocks : Int) ∧ (J : Int) = many) := by
          by_cases h1 : (l.blocks : Int) ≤ many ∨ l.blocks = 0
          · exact ⟨_, .inl ⟨h1, rfl⟩⟩
          · by_cases h2 : many ≤ 1
            · exact ⟨1, .inr (.inl ⟨by omega, h2, rfl⟩)⟩
            · exact ⟨many.toNat, .inr (.inr ⟨by omega, by omega, by omega⟩)⟩
        clear bN hT1 hB1 hMk1 hcT hs1
        refine wpIn_each (B := B) (l := l) h1 (by omega) rfl rfl (fun k W => EcI wb Nc Tc 0 Ds k W ∧ (k = 0 ∨ (k : Int) < many)) (fun c W => c = .exit 2 ∧ EcI wb Nc Tc 0 Ds J W)
          (OwnFrom.pureE (ecI_from (by have := HS1.out; omega) (fun D hD => by have := hDl2 D hD; have := HS1.out; omega)) _)
          (fun c s A C row hs hg hr => ⟨hs.1, ecI_from (by have := HS1.out; omega) (fun D hD => by have := hDl2 D hD; have := HS1.out; omega) J A C row hs.2 hg hr⟩)
          (fun k W h => hL.below h.1.2.1 hlL) ⟨hI0, .inl rfl⟩
          (fun k => { tmps := List.toArray ((.int .i64 b) :: (.int .i64 many) :: u2 :: (.pointer (some ⟨M, 0, none⟩)) :: (.pointer (some ⟨M + 1, 0, none⟩)) :: (.pointer (some ⟨Wc, 0, none⟩)) :: (.func (.func 55) #[] #[.pointer (some ⟨B, 0, none⟩)]) :: (.pointer (some ⟨Tc, 0, none⟩)) :: (.pointer (some ⟨Nc, 0, none⟩)) :: (.int .i64 (k : Int)) :: (.int .i64 (l.size k : Int)) :: u11 :: u12 :: u13 :: u14 :: u15 :: u16 :: (.int .i64 0) :: (.bool true) :: u19 :: u20 :: (.func (.func 55) #[] #[.pointer (some ⟨B, 0, none⟩)]) :: (.int .i64 (k : Int)) :: (.int .i64 (l.size k : Int)) :: u24 :: u25 :: u26 :: u27 :: u28 :: u29 :: u30 :: u31 :: u32 :: u33 :: u34 :: u35 :: u36 :: u37 :: u38 :: u39 :: u40 :: u41 :: u42 :: u43 :: u44 :: u45 :: u46 :: u47 :: u48 :: u49 :: u50 :: u51 :: u52 :: u53 :: u54 :: u55 :: u56 :: u57 :: u58 :: u59 :: u60 :: u61 :: u62 :: u63 :: u64 :: u65 :: u66 :: u67 :: u68 :: u69 :: u70 :: u71 :: u72 :: []), defers := [] }) ?assign ?body ?done ?stop
        case assign =>
          intro lp k W K hK
          gi_wp2
          exact hK
        case body =>
          rintro lp k W hk ⟨hI, hp⟩ hbig
          obtain ⟨b5, off5, rfl, _, hcz⟩ := hr5.cells k hk
          have hel : (eachL l l.blocks)[k]?.getD 0 = (l.size k : Int) := by unfold eachL; rw [List.getElem?_map, List.getElem?_range hk]; rfl
          rw [hel] at hcz
          have c1 := hI.1.1.cell
          have f1 := hI.1.1.frozen
          have c2 := hI.1.2.cell
          rw [show (((0 : Nat) : Int)) = 0 from rfl] at c2
          have c3' := (hI.2.1.cell (p := ⟨Wc, 0, none⟩) (show Wc < wb.heap.size from hlW)).trans bW5.cell
          have c4 := (hI.2.1.cell (p := ⟨b5, off5 + k, none⟩) (show b5 < wb.heap.size by assumption)).trans hcz
          have c5 := (hI.2.1.cell (p := ⟨M, 0, none⟩) (show M < wb.heap.size from hlM)).trans bM5.cell
          have hk0 : (0 : Int) ≤ (k : Int) := by omega
          have hk1 : (k : Int) < (l.blocks : Int) := by omega
          have hk2 : ¬ (l.blocks : Int) ≤ (k : Int) := by omega
          have HI := Lib.hid (ecI_step hI (by omega) hneT hDN ((k : Int) + 1) (by omega))
          have hKF : KeepsFrom w1.heap.size W (W.setCell ⟨Nc, 0, none⟩ (.int .i64 ((k : Int) + 1))) := (KeepsOthers.setCell W _ _).from _
          have hJk : Hid ((many ≤ (k : Int) + 1 → EcI wb Nc Tc 0 Ds J (W.setCell ⟨Nc, 0, none⟩ (.int .i64 ((k : Int) + 1)))) ∧ True) := Lib.hid ⟨fun hm => (show k + 1 = J by omega) ▸ HI.out, trivial⟩
          clear hI hel hp hJ
          by_cases hm : many ≤ (k : Int) + 1
          · gi_wp2
            exact ⟨hKF, rfl, hJk.out.1 hm⟩
          · gi_wp2
            exact ⟨hKF, HI.out, .inr (by omega)⟩
        case done =>
          rintro D W hD ⟨hI, hp⟩ hKD
          have hJb : J = l.blocks := by omega
          have HJB := Lib.hid hJb
          clear hJb hJ
          subst hD
          have hnD : w1.heap.size ∉ Ds := fun h => by have := hDl2 _ h; have := HS1.out; omega
          have hbel := Lib.hid (hI.2.1.alloc hI.2.1.size (.cells #[.int .i64 1] 3))
          have hbox : Hid (Boxed (W.alloc (.cells #[.int .i64 1] 3)) W.heap.size 3 (.int .i64 ((1 : Nat) : Int))) := Lib.hid (Boxed.new W 3 (.int .i64 1))
          have hmk := Lib.hid ((hI.2.2.cons hKD hnD).alloc (.cells #[.int .i64 1] 3))
          have hszW := hI.2.1.size
          have hMl := (hI.2.2.cons hKD hnD).lt
          have hfin : Hid ((∀ D ∈ w1.heap.size :: Ds, wb.heap.size ≤ D) ∧ W.heap.size ∉ w1.heap.size :: Ds) := Lib.hid ⟨fun E hE => by
            rcases List.mem_cons.1 hE with rfl | hE
            · have := HS1.out; omega
            · exact hDs E hE, fun h => by have := hMl _ h; omega⟩
          clear hMl hnD
          have c1 := hI.1.1.cell
          have c2 := hI.1.2.cell
          rw [show (((0 : Nat) : Int)) = 0 from rfl] at c2
          have c3' := (hI.2.1.cell (p := ⟨Wc, 0, none⟩) (show Wc < wb.heap.size from hlW)).trans bW5.cell
          have c5 := (hI.2.1.cell (p := ⟨M, 0, none⟩) (show M < wb.heap.size from hlM)).trans bM5.cell
          clear hI hKD
          gi_wp2
          all_goals first
            | exact ⟨1, by omega, W.heap.size, w1.heap.size :: Ds, by simp [hDl], ⟨rfl, rfl⟩, hbel.out, hbox.out, hszW, hmk.out, hfin.out.1, hfin.out.2⟩
            | exact ⟨⟨1, W.heap.size, w1.heap.size :: Ds, _, _, _, _, _, _, _, _, _, _, _, _, _, _, _, _, _, _, _, _, _, _, _, _, _, _, _, _, _, _, _, _, _, _, _, _, _, _, _, _, _, _, _, _, _, _, _, _, _, _, _, _, _, _, _, _, _, _, _, _, _, _, _, _, _, _, by omega, by simp [hDl], rfl, hbel.out, hbox.out, hszW, hmk.out, hfin.out.1, hfin.out.2⟩, by simp [hDl]⟩
            | (exfalso; omega)
            | fail
        case stop =>
          rintro D c W hD ⟨rfl, hI⟩ hKD
          have HJ := Lib.hid hJ
          subst hD
          have hnD : w1.heap.size ∉ Ds := fun h => by have := hDl2 _ h; have := HS1.out; omega
          have hbel := Lib.hid (hI.2.1.alloc hI.2.1.size (.cells #[.int .i64 1] 3))
          have hbox : Hid (Boxed (W.alloc (.cells #[.int .i64 1] 3)) W.heap.size 3 (.int .i64 ((1 : Nat) : Int))) := Lib.hid (Boxed.new W 3 (.int .i64 1))
          have hmk := Lib.hid ((hI.2.2.cons hKD hnD).alloc (.cells #[.int .i64 1] 3))
          have hszW := hI.2.1.size
          have hMl := (hI.2.2.cons hKD hnD).lt
          have hfin : Hid ((∀ D ∈ w1.heap.size :: Ds, wb.heap.size ≤ D) ∧ W.heap.size ∉ w1.heap.size :: Ds) := Lib.hid ⟨fun E hE => by
            rcases List.mem_cons.1 hE with rfl | hE
            · have := HS1.out; omega
            · exact hDs E hE, fun h => by have := hMl _ h; omega⟩
          clear hMl hnD
          have c1 := hI.1.1.cell
          have c2 := hI.1.2.cell
          rw [show (((0 : Nat) : Int)) = 0 from rfl] at c2
          have c3' := (hI.2.1.cell (p := ⟨Wc, 0, none⟩) (show Wc < wb.heap.size from hlW)).trans bW5.cell
          have c5 := (hI.2.1.cell (p := ⟨M, 0, none⟩) (show M < wb.heap.size from hlM)).trans bM5.cell
          clear hI hKD
          gi_wp2
          all_goals first
            | exact ⟨1, by omega, W.heap.size, w1.heap.size :: Ds, by simp [hDl], ⟨rfl, rfl⟩, hbel.out, hbox.out, hszW, hmk.out, hfin.out.1, hfin.out.2⟩
            | exact ⟨⟨1, W.heap.size, w1.heap.size :: Ds, _, _, _, _, _, _, _, _, _, _, _, _, _, _, _, _, _, _, _, _, _, _, _, _, _, _, _, _, _, _, _, _, _, _, _, _, _, _, _, _, _, _, _, _, _, _, _, _, _, _, _, _, _, _, _, _, _, _, _, _, _, _, _, _, _, _, by omega, by simp [hDl], rfl, hbel.out, hbox.out, hszW, hmk.out, hfin.out.1, hfin.out.2⟩, by simp [hDl]⟩
            | (exfalso; omega)
            | fail
      · subst hk
        have hMc := (hB.cell (p := ⟨M, 0, none⟩) (show M < wb.heap.size from hlM)).trans bM5.cell
        have hsw := hB.size
        have hDl2 := hMk.lt
        have hTw := hT.lt
        rw [show (((1 : Nat) : Int)) = 1 from rfl] at hcT
        have bN := Boxed.new w' 3 (.int .i64 0)
        have hT1 := hT.alloc (.cells #[.int .i64 0] 3)
        have hB1 := hB.alloc hB.size (.cells #[.int .i64 0] 3)
        have hMk1 := hMk.alloc (.cells #[.int .i64 0] 3)
        have hs1 : (w'.alloc (.cells #[.int .i64 0] 3)).heap.size = w'.heap.size + 1 := by simp
        obtain ⟨Nc, hNc⟩ : ∃ Nc, w'.heap.size = Nc := ⟨_, rfl⟩
        have HNC := Lib.hid hNc
        rw [hNc] at bN hs1 hsw hTw hDl2
        clear hNc
        gi_wp2
        rw [HNC.out]
        generalize w'.alloc (.cells #[.int .i64 0] 3) = w1 at *
        have hI0 : EcI wb Nc Tc 1 Ds 0 w1 := ⟨⟨bN, hT1⟩, hB1, hMk1⟩
        have HS1 := Lib.hid hs1
        have hneT : Tc ≠ Nc := by omega
        have hDN : Nc ∉ Ds := fun h => by have := hDl2 _ h; omega
        obtain ⟨J, hJ⟩ : ∃ J : Nat, J = l.blocks := ⟨_, rfl⟩
        clear bN hT1 hB1 hMk1 hcT hs1
        refine wpIn_each (B := B) (l := l) h1 (by omega) rfl rfl (fun k W => EcI wb Nc Tc 1 Ds k W) (fun _ _ => False)
          (ecI_from (by have := HS1.out; omega) (fun D hD => by have := hDl2 D hD; have := HS1.out; omega))
          (fun c s A C row hs hg hr => hs)
          (fun k W h => hL.below h.2.1 hlL) hI0
          (fun k => { tmps := List.toArray ((.int .i64 b) :: (.int .i64 many) :: u2 :: (.pointer (some ⟨M, 0, none⟩)) :: (.pointer (some ⟨M + 1, 0, none⟩)) :: (.pointer (some ⟨Wc, 0, none⟩)) :: (.func (.func 55) #[] #[.pointer (some ⟨B, 0, none⟩)]) :: (.pointer (some ⟨Tc, 0, none⟩)) :: (.pointer (some ⟨Nc, 0, none⟩)) :: (.int .i64 (k : Int)) :: (.int .i64 (l.size k : Int)) :: u11 :: u12 :: u13 :: u14 :: u15 :: u16 :: (.int .i64 1) :: (.bool true) :: u19 :: u20 :: (.func (.func 55) #[] #[.pointer (some ⟨B, 0, none⟩)]) :: (.int .i64 (k : Int)) :: (.int .i64 (l.size k : Int)) :: u24 :: u25 :: u26 :: u27 :: u28 :: u29 :: u30 :: u31 :: u32 :: u33 :: u34 :: u35 :: u36 :: u37 :: u38 :: u39 :: u40 :: u41 :: u42 :: u43 :: u44 :: u45 :: u46 :: u47 :: u48 :: u49 :: u50 :: u51 :: u52 :: u53 :: u54 :: u55 :: u56 :: u57 :: u58 :: u59 :: u60 :: u61 :: u62 :: u63 :: u64 :: u65 :: u66 :: u67 :: u68 :: u69 :: u70 :: u71 :: u72 :: []), defers := [] }) ?assign ?body ?done ?stop
        case assign =>
          intro lp k W K hK
          gi_wp2
          exact hK
        case body =>
          rintro lp k W hk hI hbig
          obtain ⟨b5, off5, rfl, _, hcz⟩ := hr5.cells k hk
          have hel : (eachL l l.blocks)[k]?.getD 0 = (l.size k : Int) := by unfold eachL; rw [List.getElem?_map, List.getElem?_range hk]; rfl
          rw [hel] at hcz
          have c1 := hI.1.1.cell
          have f1 := hI.1.1.frozen
          have c2 := hI.1.2.cell
          rw [show (((1 : Nat) : Int)) = 1 from rfl] at c2
          have c3' := (hI.2.1.cell (p := ⟨Wc, 0, none⟩) (show Wc < wb.heap.size from hlW)).trans bW5.cell
          have c4 := (hI.2.1.cell (p := ⟨b5, off5 + k, none⟩) (show b5 < wb.heap.size by assumption)).trans hcz
          have c5 := (hI.2.1.cell (p := ⟨M, 0, none⟩) (show M < wb.heap.size from hlM)).trans bM5.cell
          have hk0 : (0 : Int) ≤ (k : Int) := by omega
          have hk1 : (k : Int) < (l.blocks : Int) := by omega
          have hk2 : ¬ (l.blocks : Int) ≤ (k : Int) := by omega
          have HI := Lib.hid (ecI_step hI (by omega) hneT hDN ((k : Int) + 1) (by omega))
          have hKF : KeepsFrom w1.heap.size W (W.setCell ⟨Nc, 0, none⟩ (.int .i64 ((k : Int) + 1))) := (KeepsOthers.setCell W _ _).from _
          have hJk : Hid True := Lib.hid trivial
          clear hI hel hJ
          gi_wp2
          exact ⟨hKF, HI.out⟩
        case done =>
          rintro D W hD hI hKD
          clear hJ
          subst hD
          have hnD : w1.heap.size ∉ Ds := fun h => by have := hDl2 _ h; have := HS1.out; omega
          have hbel := Lib.hid (hI.2.1.alloc hI.2.1.size (.cells #[.int .i64 2] 3))
          have hbox : Hid (Boxed (W.alloc (.cells #[.int .i64 2] 3)) W.heap.size 3 (.int .i64 ((2 : Nat) : Int))) := Lib.hid (Boxed.new W 3 (.int .i64 2))
          have hmk := Lib.hid ((hI.2.2.cons hKD hnD).alloc (.cells #[.int .i64 2] 3))
          have hszW := hI.2.1.size
          have hMl := (hI.2.2.cons hKD hnD).lt
          have hfin : Hid ((∀ D ∈ w1.heap.size :: Ds, wb.heap.size ≤ D) ∧ W.heap.size ∉ w1.heap.size :: Ds) := Lib.hid ⟨fun E hE => by
            rcases List.mem_cons.1 hE with rfl | hE
            · have := HS1.out; omega
            · exact hDs E hE, fun h => by have := hMl _ h; omega⟩
          clear hMl hnD
          have c1 := hI.1.1.cell
          have c2 := hI.1.2.cell
          rw [show (((1 : Nat) : Int)) = 1 from rfl] at c2
          have c3' := (hI.2.1.cell (p := ⟨Wc, 0, none⟩) (show Wc < wb.heap.size from hlW)).trans bW5.cell
          have c5 := (hI.2.1.cell (p := ⟨M, 0, none⟩) (show M < wb.heap.size from hlM)).trans bM5.cell
          clear hI hKD
          gi_wp2
          all_goals first
            | exact ⟨2, by omega, W.heap.size, w1.heap.size :: Ds, by simp [hDl], ⟨rfl, rfl⟩, hbel.out, hbox.out, hszW, hmk.out, hfin.out.1, hfin.out.2⟩
            | exact ⟨⟨2, W.heap.size, w1.heap.size :: Ds, _, _, _, _, _, _, _, _, _, _, _, _, _, _, _, _, _, _, _, _, _, _, _, _, _, _, _, _, _, _, _, _, _, _, _, _, _, _, _, _, _, _, _, _, _, _, _, _, _, _, _, _, _, _, _, _, _, _, _, _, _, _, _, _, _, _, by omega, by simp [hDl], rfl, hbel.out, hbox.out, hszW, hmk.out, hfin.out.1, hfin.out.2⟩, by simp [hDl]⟩
            | (exfalso; omega)
            | fail
        case stop =>
          rintro D c W hD hx hKD
          exact hx.elim
    · obtain rfl : k = 2 := by omega
      have hbw := hb5.trans (hB.mono hb5.size)
      have hcR := (hB.cell (p := ⟨M + 1, 0, none⟩) (show M + 1 < wb.heap.size from hlR)).trans bR5.cell
      have bRw := Boxed.below bR5 hB hlR
      have hcT2 : w'.cell? ⟨Tc, 0, none⟩ = some (.int .i64 2) := hcT
      clear hcT
      gi_wp2
      refine ⟨trivial, ?_⟩
      refine (hW.out _ hbw).mono ?_
      rintro e w9 ⟨rfl, hb9⟩
      have bR9 := Boxed.below bRw hb9 bRw.lt
      have e0 := bR9.cell
      have e1 := bR9.frozen
      have hM9 := (hMk.grown (below_grownE hb9) (fun _ _ e => by cases e)).setCell (p := ⟨M + 1, 0, none⟩) (.bool true) (fun h => by have := hDs _ h; simp only at this; omega)
      have hB9 : Below w.heap.size w (w9.setCell ⟨M + 1, 0, none⟩ (.bool true)) := (hbw.trans (hb9.mono hbw.size)).setCell (p := ⟨M + 1, 0, none⟩) (by have := HM.out; simp only; omega) _
      have bRf := Boxed.set (.bool true) bR9
      gi_wp2
      exact leaves_marks (B := wb.heap.size) Ds _ hM9 (fun E hE => hDs E hE) (fun w2 h2 => ⟨.bool true, each_results rfl (Boxed.below bRf h2 hlR), rfl, hB9.trans (h2.mono hb5.size)⟩)
theorem each_walk {b many : Int} {w : World} (hK : Kinds w) :
    Calls Tryd.prog 5 #[.int .i64 b, .int .i64 many] w fun e w' => e = .returned (.bool true) ∧ Below w.heap.size w w' :=
  callsIn_wide.1 (each_in (d := 8) (by decide) hK)
end Go.Proofs.YtkdodmjhpkfhnaaDoor
