/-
  GoldIterates: the walk of the law.
-/
import Derived.Test.YtofcjcmbbkiaaaaL2
namespace Go.Proofs.Ytofcjcmbbkiaaaa
open Go.RowKit Go.Shelf BigFrame

attribute [local go_sem] Oper.semAt_some

theorem below_grown4 {w w' : World} (h : Below w.heap.size w w') : w.grownBy w' none := ⟨h.os, h.tape, h.output, h.size, fun k hk _ => h.block k hk⟩
theorem two_cells (w : World) (n m : Int) (t : TypeId) : (w.alloc (.cells #[.int .i64 n, .int .i64 m] t)).cell? ⟨w.heap.size, 0, none⟩ = some (.int .i64 n) ∧ (w.alloc (.cells #[.int .i64 n, .int .i64 m] t)).cell? ⟨w.heap.size, 1, none⟩ = some (.int .i64 m) :=
  ⟨(Two.new w t _ _).cell0, (Two.new w t _ _).cell1⟩
set_option maxRecDepth 100000 in
set_option maxHeartbeats 8000000 in
theorem iterates_in {d : Nat} (hd : 6 ≤ d) {v : Nat} {x n m : Int} (hx : (v : Int) = x) (hv : v < 2147483648) (hn : 1 ≤ n ∧ n ≤ 500) (hm : 1 ≤ m ∧ m ≤ 500) {w : World} :
    CallsIn Fence.wide d Try.prog 5 #[.int .u32 x, .int .i64 n, .int .i64 m] w fun e w' => e = .returned (.bool true) ∧ Below w.heap.size w w' := by
  have h1 : 1 ≤ d := by omega
  have q1 : x < 2147483648 := by omega
  obtain ⟨n0, n1⟩ := hn
  obtain ⟨m0, m1⟩ := hm
  have hnil : ∀ (Bv : Nat) (u : World), (binOp .eql 37 (.func (.func 28) #[] #[.pointer (some ⟨Bv, 0, none⟩)]) .nilFunc).run Try.prog u = .ok (.bool false) u := fun Bv u => by kernel_rfl
  have HX := Lib.hid hx
  clear hx
  refine callsIn_of_wp_marks Try.func5 rfl trivial ?_ rfl
  simp only [Try.ntmps5, List.size_toArray, List.length_cons, List.length_nil, Nat.reduceAdd, Nat.reduceSub, Array.replicate_succ, Array.replicate_zero, List.push_toArray, List.append_toArray, List.nil_append, List.cons_append]
  gi_wp2_with (refine ⟨trivial, ?_⟩; gi_at_call 18; refine (bits_in (d - 1) _ _).mono ?_; rintro e w' ⟨rfl, rfl⟩)
  have hcl := two_cells (w.alloc (.cells #[.int .u32 x] 22)) n m 3
  rw [World.size_alloc] at hcl
  have bV := (Boxed.new w 22 (.int .u32 x)).alloc (.cells #[.int .i64 n, .int .i64 m] 3)
  have hb0 : Below w.heap.size w ((w.alloc (.cells #[.int .u32 x] 22)).alloc (.cells #[.int .i64 n, .int .i64 m] 3)) := ((Below.refl _ w).alloc (Nat.le_refl _) _).alloc (by simp) _
  have hs0 : ((w.alloc (.cells #[.int .u32 x] 22)).alloc (.cells #[.int .i64 n, .int .i64 m] 3)).heap.size = w.heap.size + 2 := by simp
  generalize (w.alloc (.cells #[.int .u32 x] 22)).alloc (.cells #[.int .i64 n, .int .i64 m] 3) = wb at *
  obtain ⟨L, hL⟩ : ∃ L, w.heap.size + 1 = L := ⟨_, rfl⟩
  obtain ⟨Bv, hBv⟩ : ∃ Bv, w.heap.size = Bv := ⟨_, rfl⟩
  have hcells : ∀ k, k < 2 → ∃ most : Nat, 1 ≤ most ∧ most ≤ 500 ∧ wb.cell? ⟨L, k, none⟩ = some (.int .i64 (most : Int)) := by
    intro k hk2
    rw [← hL]
    rcases (show k = 0 ∨ k = 1 by omega) with rfl | rfl
    · exact ⟨n.toNat, by omega, by omega, by rw [hcl.1, Int.toNat_of_nonneg (by omega)]⟩
    · exact ⟨m.toNat, by omega, by omega, by rw [hcl.2, Int.toNat_of_nonneg (by omega)]⟩
  rw [hL]
  rw [show (⟨w.heap.size, 0, none⟩ : Addr) = ⟨Bv, 0, none⟩ from by rw [hBv]]
  rw [hBv] at bV
  have HC := Lib.hid hcells
  have HNIL := Lib.hid hnil
  clear hcl hcells hnil n0 n1 m0 m1
  refine wpIn_loop
    (fun a' w' => ∃ (k : Nat) (Ds : List Nat) (u3 u4 u5 u8 u9 u10 u11 u12 u13 u14 u15 u16 u17 u18 u19 u20 u21 u22 u23 u24 u25 u26 u27 u28 u29 u30 u31 u32 u36 u37 u38 u39 u40 u41 u42 u43 u44 u45 u46 u47 u48 u49 u50 u51 u52 u53 u54 u55 u56 u57 u58 u59 u60 u61 u62 u63 u64 u65 u66 u67 u68 u69 : Value), k ≤ 2 ∧
      a' = { tmps := #[.int .u32 x, .int .i64 n, .int .i64 m, u3, u4, u5, .bool false, .func (.func 28) #[] #[.pointer (some ⟨Bv, 0, none⟩)], u8, u9, u10, u11, u12, u13, u14, u15, u16, u17, u18, u19, u20, u21, u22, u23, u24, u25, u26, u27, u28, u29, u30, u31, u32, .slice (some ⟨L, 0, none⟩) 2 2, .int .i64 2, .int .i64 (k : Int), u36, u37, u38, u39, u40, u41, u42, u43, u44, u45, u46, u47, u48, u49, u50, u51, u52, u53, u54, u55, u56, u57, u58, u59, u60, u61, u62, u63, u64, u65, u66, u67, u68, u69], defers := Ds.map mkD } ∧ Below wb.heap.size wb w' ∧ Marks w' Ds ∧ ∀ D ∈ Ds, w.heap.size ≤ D)
    (fun a' _ => 2 - (intOf (a'.tmps.getD 35 undef)).toNat) ?start ?round
  case start => exact ⟨0, [], _, _, _, _, _, _, _, _, _, _, _, _, _, _, _, _, _, _, _, _, _, _, _, _, _, _, _, _, _, _, _, _, _, _, _, _, _, _, _, _, _, _, _, _, _, _, _, _, _, _, _, _, _, _, _, _, _, _, _, _, _, _, Nat.zero_le _, rfl, Below.refl _ _, Marks.nil _, by simp⟩
  case round =>
    rintro a' w' ⟨k, Ds, u3, u4, u5, u8, u9, u10, u11, u12, u13, u14, u15, u16, u17, u18, u19, u20, u21, u22, u23, u24, u25, u26, u27, u28, u29, u30, u31, u32, u36, u37, u38, u39, u40, u41, u42, u43, u44, u45, u46, u47, u48, u49, u50, u51, u52, u53, u54, u55, u56, u57, u58, u59, u60, u61, u62, u63, u64, u65, u66, u67, u68, u69, hk2, rfl, hB, hM, hDs⟩
    by_cases hlt : k < 2
    · obtain ⟨most, p1, p2, hc⟩ := HC.out k hlt
      have hc' : w'.cell? ⟨L, k, none⟩ = some (.int .i64 (most : Int)) := (hB.cell (p := ⟨L, k, none⟩) (show L < wb.heap.size by omega)).trans hc
      clear hc
      have hsw := hB.size
      gi_wp2
      have bM0 := (Boxed.new w' 3 (.int .i64 (most : Int))).alloc (.cells #[.slice none 0 0] 30)
      have bG0 := Boxed.new (w'.alloc (.cells #[.int .i64 (most : Int)] 3)) 30 (.slice none 0 0)
      rw [World.size_alloc] at bG0
      have hb1 : Below wb.heap.size wb ((w'.alloc (.cells #[.int .i64 (most : Int)] 3)).alloc (.cells #[.slice none 0 0] 30)) := (hB.alloc hB.size _).alloc (by simp; omega) _
      have hM1 := (hM.alloc (.cells #[.int .i64 (most : Int)] 3)).alloc (.cells #[.slice none 0 0] 30)
      have hs1 : ((w'.alloc (.cells #[.int .i64 (most : Int)] 3)).alloc (.cells #[.slice none 0 0] 30)).heap.size = w'.heap.size + 2 := by simp
      have hDl := hM.lt
      have hBvW := (hb1.cell (p := ⟨Bv, 0, none⟩) (show Bv < wb.heap.size by omega)).trans bV.cell
      generalize (w'.alloc (.cells #[.int .i64 (most : Int)] 3)).alloc (.cells #[.slice none 0 0] 30) = w1 at *
      have HS1 := Lib.hid hs1
      refine wpIn_runs h1 (gf := 28) (lb := #[.pointer (some ⟨Bv, 0, none⟩)]) rfl (enters_of Try.func28 (by kernel_rfl) rfl)
        (bits_runs (n := d - 1) (v := v) (N := most) (by omega) hv (B := Bv) (by omega) (by rw [HX.out]; exact hBvW)) rfl
        (fun j W => ((Gets (w'.heap.size + 1) w'.heap.size w1.heap.size (goldL v) j W ∧ Boxed W w'.heap.size 3 (.int .i64 (most : Int))) ∧ j < most) ∧ Below wb.heap.size wb W ∧ Marks W Ds)
        (fun c W => ((c = .exit 2 ∧ Gets (w'.heap.size + 1) w'.heap.size w1.heap.size (goldL v) most W) ∧ Boxed W w'.heap.size 3 (.int .i64 (most : Int))) ∧ Below wb.heap.size wb W ∧ Marks W Ds)
        (OwnFrom.and (Own.from (fun j A B row hs hg hr => ⟨⟨gets_own _ _ _ _ j A B row hs.1.1 hg hr, boxed_own w'.heap.size _ (fun _ : Nat => .int .i64 (most : Int)) j A B row hs.1.2 hg hr⟩, hs.2⟩) _) (OwnFrom.and (ownFrom_below (Nat.le_refl _) (by omega)) (Marks.ownFrom (fun D hD => by have := hDl D hD; omega))))
        (fun c => OwnFrom.and (Own.from (fun s A B row hs hg hr => ⟨⟨hs.1.1, gets_own _ _ _ _ most A B row hs.1.2 hg hr⟩, boxed_own w'.heap.size _ (fun _ : Nat => .int .i64 (most : Int)) most A B row hs.2 hg hr⟩) _) (OwnFrom.and (ownFrom_below (Nat.le_refl _) (by omega)) (Marks.ownFrom (fun D hD => by have := hDl D hD; omega))))
        (fun j A C r hs hg l1 l2 => ⟨⟨⟨gets_span (by omega) j A C r hs.1.1.1 hg l1 l2, hs.1.1.2.kept hg (fun e => by injection e with e; omega)⟩, hs.1.2⟩, hs.2.1.grown hg (by have := hs.2.1.size; omega) (fun i e => by injection e with e; omega), hs.2.2.grown hg (fun D hD e => by have := hDl D hD; injection e with e; omega)⟩)
        (fun j W h => h.1.2)
        ⟨⟨⟨⟨_, bG0, World.ownsRow_nil _ _ _ _, fun g hg => by cases hg⟩, bM0⟩, by omega⟩, hb1, hM1⟩
        (fun j => { tmps := #[.int .u32 x, .int .i64 n, .int .i64 m, u3, u4, u5, .bool false, .func (.func 28) #[] #[.pointer (some ⟨Bv, 0, none⟩)], u8, .pointer (some ⟨w'.heap.size, 0, none⟩), .pointer (some ⟨w'.heap.size + 1, 0, none⟩), .int .u8 (goldI v j), u12, u13, u14, u15, u16, u17, u18, u19, u20, u21, u22, u23, u24, u25, u26, u27, u28, u29, u30, u31, u32, .slice (some ⟨L, 0, none⟩) 2 2, .int .i64 2, .int .i64 (k : Int), .bool true, .pointer (some ⟨L, k, none⟩), .int .i64 (most : Int), .func (.func 28) #[] #[.pointer (some ⟨Bv, 0, none⟩)], .int .u8 (goldI v j), u41, u42, u43, u44, u45, u46, u47, u48, u49, u50, u51, u52, u53, u54, u55, u56, u57, u58, u59, u60, u61, u62, u63, u64, u65, u66, u67, u68, u69], defers := [] }) ?assign ?body ?done ?stop
      case assign =>
        intro l' j W K hK
        gi_wp2
        exact hK
      case body =>
        rintro _ l' j W ⟨⟨⟨⟨V, hV, hO, hG⟩, bM⟩, hj⟩, hb, hMW⟩ hbig
        obtain ⟨A, c, rfl⟩ := ownsRow_shape hO
        obtain ⟨A2, c3, w5, hrun, b5, k5, s5, g5, bl5, ot5⟩ := gets_append (x := goldI v j) hV hO hG (by omega) (by omega) (by omega) (by omega) (by omega) (goldL_succ v j)
        have hBM := ot5 _ _ _ bM (by decide) (by omega)
        have hBL : Below wb.heap.size wb _ := hb.trans (bl5.mono hB.size)
        have hMk := hMW.keepsFrom (k5.from 0) (fun _ _ => Nat.zero_le _)
        have c1 := hV.cell
        have f1 := hV.frozen
        have d1 := b5.cell
        have e1 := b5.frozen
        have HR := Lib.hid hrun
        obtain ⟨V2, hV2, hO2, hG2⟩ := g5
        have hm2 := hBM.cell
        generalize goldI v j = y at *
        clear hV hO hG hrun b5 ot5 bl5 bM
        gi_wp2_with (gi_at_builtin; refine wpListIn_append_run rfl _ _ _ rfl _ _ _ rfl rfl HR.out ?_)
        all_goals rename_i hcase
        all_goals simp only [beq_iff_eq, beq_eq_false_iff_ne, ne_eq] at hcase
        · have hg : ∀ q, j + 1 = q → Gets (w'.heap.size + 1) w'.heap.size w1.heap.size (goldL v) q (w5.setCell ⟨w'.heap.size + 1, 0, none⟩ (.slice A2 (j + 1) c3)) := by
            intro q hq
            subst hq
            exact ⟨_, hV2, hO2, hG2⟩
          exact ⟨k5.from _, ⟨⟨rfl, hg most (by omega)⟩, hBM⟩, hBL, hMk⟩
        · have hlt2 : j + 1 < most := by omega
          exact ⟨k5.from _, s5, ⟨⟨⟨_, hV2, hO2, hG2⟩, hBM⟩, hlt2⟩, hBL, hMk⟩
      case done =>
        intro D W _ h
        exact h.elim
      case stop =>
        rintro D c W hD ⟨⟨⟨rfl, hx⟩, bM⟩, hb, hMW⟩ hKD
        obtain ⟨V, hV, hO, hG⟩ := hx
        obtain ⟨A, c, rfl⟩ := ownsRow_shape hO
        have c1 := hV.cell
        have c2 := bM.cell
        gi_wp2
        have hbW : Below w.heap.size w W := hb0.trans (hb.mono hb0.size)
        have hrd := Rd.of_own hO
        have hRS := Lib.hid (fun (u : World) => refSeq_any (m := most) (w := u) hv (by omega))
        rw [HX.out] at hRS
        have hlM : w'.heap.size < W.heap.size := bM.lt
        have hlG : w'.heap.size + 1 < W.heap.size := hV.lt
        have hSm := Lib.hid (fun (u u2 : World) (A2 : Option Addr) (cc : Nat) (h1 : Below W.heap.size W u) (h2 : Below u.heap.size u u2) (h : Rd .u8 u2 u2.heap.size A2 most (goldL v most)) => same_true (c := c) (c' := cc) ((hrd.step h1).step h2) h (by omega))
        have hW2 : Below W.heap.size W W.drew := (Below.refl _ _).drew
        clear hV hO hG hrd
        have g1 : decide (2147483648 ≤ x) = false := decide_eq_false (by omega)
        have g2 : decide (x < 2147483648) = true := decide_eq_true (by omega)
        have c1d : W.drew.cell? ⟨w'.heap.size + 1, 0, none⟩ = some (.slice A most c) := c1
        have hkeep : Hid (∀ u : World, Below W.drew.heap.size W.drew u → u.cell? ⟨w'.heap.size + 1, 0, none⟩ = some (.slice A most c)) := Lib.hid (fun u h => (World.cell?_of_block (h.block _ hlG)).trans c1d)
        refine wpIn_wide.2 ?_
        have c2d : W.drew.cell? ⟨w'.heap.size, 0, none⟩ = some (.int .i64 (most : Int)) := c2
        refine wp_region_noPanic ?_
        go_region_with (first
            | (go_at_call 17; refine (hRS.out _).mono ?_; rintro e w2 ⟨⟨A2, c2', rfl, ho2⟩, hb2⟩; have c1w := hkeep.out _ hb2)
            | (go_at_call 16; refine (hSm.out _ _ _ c2' hW2 hb2 (Rd.of_own ho2)).mono ?_; rintro e w3 ⟨rfl, hb3⟩))
        all_goals (refine NoPanic.normal ?_)
        all_goals
          have hb3W : Below W.heap.size W w3 := (hW2.trans hb2).trans (hb3.mono hb2.size)
          have hM3 := (hMW.cons hKD (fun h => by have := hDl D h; omega)).grown (below_grown4 hb3W) (fun _ _ e => by cases e)
          have hB3 : Below wb.heap.size wb w3 := hb.trans (hb3W.mono hb.size)
          clear hb2 hb3 ho2 hSm hRS c1w hkeep c1d
          gi_wp2
          refine ⟨⟨k + 1, D :: Ds, _, _, _, _, _, _, _, _, _, _, _, _, _, _, _, _, _, _, _, _, _, _, _, _, _, _, _, _, _, _, _, _, _, _, _, _, _, _, _, _, _, _, _, _, _, _, _, _, _, _, _, _, _, _, _, _, _, _, _, _, _, _, by omega, rfl, hB3, hM3, ?_⟩, ?_⟩
          · intro E hE
            rcases List.mem_cons.1 hE with rfl | hE
            · omega
            · exact hDs E hE
          · simp [intOf]; omega
    · obtain rfl : k = 2 := by omega
      have hbw := hb0.trans (hB.mono hb0.size)
      gi_wp2_with (refine ⟨trivial, ?_⟩; gi_at_call 14; refine (callsIn_wide.2 known_any).mono ?_; rintro e w9 ⟨rfl, hb9⟩)
      have hM9 := hM.grown (below_grown4 hb9) (fun _ _ e => by cases e)
      refine leaves_marks (B := w.heap.size) Ds w9 hM9 (fun E hE => hDs E hE) (fun w2 h2 => ⟨_, results_tmp rfl _ _ _, rfl, (hbw.trans (hb9.mono hbw.size)).trans h2⟩)
set_option maxRecDepth 100000 in
set_option maxHeartbeats 8000000 in
theorem iterates_no {d : Nat} (hd : 6 ≤ d) {x n m : Int} (hq : 2147483648 ≤ x ∧ x < 4294967296) (hn : 1 ≤ n ∧ n ≤ 500) (hm : 1 ≤ m ∧ m ≤ 500) {w : World} :
    CallsIn Fence.wide d Try.prog 5 #[.int .u32 x, .int .i64 n, .int .i64 m] w fun e w' => e = .returned (.bool true) ∧ Below w.heap.size w w' := by
  have h1 : 1 ≤ d := by omega
  have q1 : 2147483648 ≤ x := hq.1
  obtain ⟨n0, n1⟩ := hn
  obtain ⟨m0, m1⟩ := hm
  have hnil : ∀ (Bv : Nat) (u : World), (binOp .eql 37 (.func (.func 28) #[] #[.pointer (some ⟨Bv, 0, none⟩)]) .nilFunc).run Try.prog u = .ok (.bool false) u := fun Bv u => by kernel_rfl
  have HQ := Lib.hid hq
  clear hq
  refine callsIn_of_wp_marks Try.func5 rfl trivial ?_ rfl
  simp only [Try.ntmps5, List.size_toArray, List.length_cons, List.length_nil, Nat.reduceAdd, Nat.reduceSub, Array.replicate_succ, Array.replicate_zero, List.push_toArray, List.append_toArray, List.nil_append, List.cons_append]
  gi_wp2_with (refine ⟨trivial, ?_⟩; gi_at_call 18; refine (bits_in (d - 1) _ _).mono ?_; rintro e w' ⟨rfl, rfl⟩)
  have hcl := two_cells (w.alloc (.cells #[.int .u32 x] 22)) n m 3
  rw [World.size_alloc] at hcl
  have bV := (Boxed.new w 22 (.int .u32 x)).alloc (.cells #[.int .i64 n, .int .i64 m] 3)
  have hb0 : Below w.heap.size w ((w.alloc (.cells #[.int .u32 x] 22)).alloc (.cells #[.int .i64 n, .int .i64 m] 3)) := ((Below.refl _ w).alloc (Nat.le_refl _) _).alloc (by simp) _
  have hs0 : ((w.alloc (.cells #[.int .u32 x] 22)).alloc (.cells #[.int .i64 n, .int .i64 m] 3)).heap.size = w.heap.size + 2 := by simp
  generalize (w.alloc (.cells #[.int .u32 x] 22)).alloc (.cells #[.int .i64 n, .int .i64 m] 3) = wb at *
  obtain ⟨L, hL⟩ : ∃ L, w.heap.size + 1 = L := ⟨_, rfl⟩
  obtain ⟨Bv, hBv⟩ : ∃ Bv, w.heap.size = Bv := ⟨_, rfl⟩
  have hcells : ∀ k, k < 2 → ∃ most : Nat, 1 ≤ most ∧ most ≤ 500 ∧ wb.cell? ⟨L, k, none⟩ = some (.int .i64 (most : Int)) := by
    intro k hk2
    rw [← hL]
    rcases (show k = 0 ∨ k = 1 by omega) with rfl | rfl
    · exact ⟨n.toNat, by omega, by omega, by rw [hcl.1, Int.toNat_of_nonneg (by omega)]⟩
    · exact ⟨m.toNat, by omega, by omega, by rw [hcl.2, Int.toNat_of_nonneg (by omega)]⟩
  rw [hL]
  rw [show (⟨w.heap.size, 0, none⟩ : Addr) = ⟨Bv, 0, none⟩ from by rw [hBv]]
  rw [hBv] at bV
  have HC := Lib.hid hcells
  have HNIL := Lib.hid hnil
  clear hcl hcells hnil n0 n1 m0 m1
  refine wpIn_loop
    (fun a' w' => ∃ (k : Nat) (Ds : List Nat) (u3 u4 u5 u8 u9 u10 u11 u12 u13 u14 u15 u16 u17 u18 u19 u20 u21 u22 u23 u24 u25 u26 u27 u28 u29 u30 u31 u32 u36 u37 u38 u39 u40 u41 u42 u43 u44 u45 u46 u47 u48 u49 u50 u51 u52 u53 u54 u55 u56 u57 u58 u59 u60 u61 u62 u63 u64 u65 u66 u67 u68 u69 : Value), k ≤ 2 ∧
      a' = { tmps := #[.int .u32 x, .int .i64 n, .int .i64 m, u3, u4, u5, .bool false, .func (.func 28) #[] #[.pointer (some ⟨Bv, 0, none⟩)], u8, u9, u10, u11, u12, u13, u14, u15, u16, u17, u18, u19, u20, u21, u22, u23, u24, u25, u26, u27, u28, u29, u30, u31, u32, .slice (some ⟨L, 0, none⟩) 2 2, .int .i64 2, .int .i64 (k : Int), u36, u37, u38, u39, u40, u41, u42, u43, u44, u45, u46, u47, u48, u49, u50, u51, u52, u53, u54, u55, u56, u57, u58, u59, u60, u61, u62, u63, u64, u65, u66, u67, u68, u69], defers := Ds.map mkD } ∧ Below wb.heap.size wb w' ∧ Marks w' Ds ∧ ∀ D ∈ Ds, w.heap.size ≤ D)
    (fun a' _ => 2 - (intOf (a'.tmps.getD 35 undef)).toNat) ?start ?round
  case start => exact ⟨0, [], _, _, _, _, _, _, _, _, _, _, _, _, _, _, _, _, _, _, _, _, _, _, _, _, _, _, _, _, _, _, _, _, _, _, _, _, _, _, _, _, _, _, _, _, _, _, _, _, _, _, _, _, _, _, _, _, _, _, _, _, _, _, Nat.zero_le _, rfl, Below.refl _ _, Marks.nil _, by simp⟩
  case round =>
    rintro a' w' ⟨k, Ds, u3, u4, u5, u8, u9, u10, u11, u12, u13, u14, u15, u16, u17, u18, u19, u20, u21, u22, u23, u24, u25, u26, u27, u28, u29, u30, u31, u32, u36, u37, u38, u39, u40, u41, u42, u43, u44, u45, u46, u47, u48, u49, u50, u51, u52, u53, u54, u55, u56, u57, u58, u59, u60, u61, u62, u63, u64, u65, u66, u67, u68, u69, hk2, rfl, hB, hM, hDs⟩
    by_cases hlt : k < 2
    · obtain ⟨most, p1, p2, hc⟩ := HC.out k hlt
      have hc' : w'.cell? ⟨L, k, none⟩ = some (.int .i64 (most : Int)) := (hB.cell (p := ⟨L, k, none⟩) (show L < wb.heap.size by omega)).trans hc
      clear hc
      have hsw := hB.size
      gi_wp2
      have bM0 := (Boxed.new w' 3 (.int .i64 (most : Int))).alloc (.cells #[.slice none 0 0] 30)
      have bG0 := Boxed.new (w'.alloc (.cells #[.int .i64 (most : Int)] 3)) 30 (.slice none 0 0)
      rw [World.size_alloc] at bG0
      have hb1 : Below wb.heap.size wb ((w'.alloc (.cells #[.int .i64 (most : Int)] 3)).alloc (.cells #[.slice none 0 0] 30)) := (hB.alloc hB.size _).alloc (by simp; omega) _
      have hM1 := (hM.alloc (.cells #[.int .i64 (most : Int)] 3)).alloc (.cells #[.slice none 0 0] 30)
      have hs1 : ((w'.alloc (.cells #[.int .i64 (most : Int)] 3)).alloc (.cells #[.slice none 0 0] 30)).heap.size = w'.heap.size + 2 := by simp
      have hDl := hM.lt
      have hBvW := (hb1.cell (p := ⟨Bv, 0, none⟩) (show Bv < wb.heap.size by omega)).trans bV.cell
      generalize (w'.alloc (.cells #[.int .i64 (most : Int)] 3)).alloc (.cells #[.slice none 0 0] 30) = w1 at *
      have HS1 := Lib.hid hs1
      refine wpIn_runs h1 (gf := 28) (lb := #[.pointer (some ⟨Bv, 0, none⟩)]) rfl (enters_of Try.func28 (by kernel_rfl) rfl)
        (bits_none (n := d - 1) (N := most) (s := fun _ => .int .u8 0) (by omega) HQ.out (B := Bv) (by omega) hBvW) rfl
        (fun j W => ((Gets (w'.heap.size + 1) w'.heap.size w1.heap.size (fun _ => []) j W ∧ Boxed W w'.heap.size 3 (.int .i64 (most : Int))) ∧ j < most) ∧ Below wb.heap.size wb W ∧ Marks W Ds)
        (fun c W => ((False ∧ Gets (w'.heap.size + 1) w'.heap.size w1.heap.size (fun _ => []) most W) ∧ Boxed W w'.heap.size 3 (.int .i64 (most : Int))) ∧ Below wb.heap.size wb W ∧ Marks W Ds)
        (OwnFrom.and (Own.from (fun j A B row hs hg hr => ⟨⟨gets_own _ _ _ _ j A B row hs.1.1 hg hr, boxed_own w'.heap.size _ (fun _ : Nat => .int .i64 (most : Int)) j A B row hs.1.2 hg hr⟩, hs.2⟩) _) (OwnFrom.and (ownFrom_below (Nat.le_refl _) (by omega)) (Marks.ownFrom (fun D hD => by have := hDl D hD; omega))))
        (fun c => OwnFrom.and (Own.from (fun s A B row hs hg hr => ⟨⟨hs.1.1, gets_own _ _ _ _ most A B row hs.1.2 hg hr⟩, boxed_own w'.heap.size _ (fun _ : Nat => .int .i64 (most : Int)) most A B row hs.2 hg hr⟩) _) (OwnFrom.and (ownFrom_below (Nat.le_refl _) (by omega)) (Marks.ownFrom (fun D hD => by have := hDl D hD; omega))))
        (fun j A C r hs hg l1 l2 => ⟨⟨⟨gets_span (by omega) j A C r hs.1.1.1 hg l1 l2, hs.1.1.2.kept hg (fun e => by injection e with e; omega)⟩, hs.1.2⟩, hs.2.1.grown hg (by have := hs.2.1.size; omega) (fun i e => by injection e with e; omega), hs.2.2.grown hg (fun D hD e => by have := hDl D hD; injection e with e; omega)⟩)
        (fun j W h => h.1.2)
        ⟨⟨⟨⟨_, bG0, World.ownsRow_nil _ _ _ _, fun g hg => by cases hg⟩, bM0⟩, by omega⟩, hb1, hM1⟩
        (fun j => { tmps := #[.int .u32 x, .int .i64 n, .int .i64 m, u3, u4, u5, .bool false, .func (.func 28) #[] #[.pointer (some ⟨Bv, 0, none⟩)], u8, .pointer (some ⟨w'.heap.size, 0, none⟩), .pointer (some ⟨w'.heap.size + 1, 0, none⟩), .int .u8 0, u12, u13, u14, u15, u16, u17, u18, u19, u20, u21, u22, u23, u24, u25, u26, u27, u28, u29, u30, u31, u32, .slice (some ⟨L, 0, none⟩) 2 2, .int .i64 2, .int .i64 (k : Int), .bool true, .pointer (some ⟨L, k, none⟩), .int .i64 (most : Int), .func (.func 28) #[] #[.pointer (some ⟨Bv, 0, none⟩)], .int .u8 0, u41, u42, u43, u44, u45, u46, u47, u48, u49, u50, u51, u52, u53, u54, u55, u56, u57, u58, u59, u60, u61, u62, u63, u64, u65, u66, u67, u68, u69], defers := [] }) ?assign ?body ?done ?stop
      case assign =>
        intro l' j W K hK
        gi_wp2
        exact hK
      case body =>
        intro h
        exact absurd trivial h
      case stop =>
        rintro D c W hD ⟨⟨⟨h, _⟩, _⟩, _⟩ _
        exact h.elim
      case done =>
        rintro D W hD _ ⟨⟨⟨⟨V, hV, hO, hG⟩, bM⟩, hj⟩, hb, hMW⟩ hKD
        obtain ⟨A, c, rfl⟩ := ownsRow_shape hO
        have c1 := hV.cell
        have c2 := bM.cell
        gi_wp2
        clear hV hO hG
        have g1 : decide (2147483648 ≤ x) = true := decide_eq_true q1
        have g2 : decide (x < 2147483648) = false := decide_eq_false (by omega)
        refine wpIn_wide.2 ?_
        go_quiet (fail)
        have hM3 : Marks (W.drewN nq) (D :: Ds) := (hMW.cons hKD (fun h => by have := hDl D h; omega))
        have hB3 : Below wb.heap.size wb (W.drewN nq) := below_drewN hb nq
        gi_wp2
        refine ⟨⟨k + 1, D :: Ds, _, _, _, _, _, _, _, _, _, _, _, _, _, _, _, _, _, _, _, _, _, _, _, _, _, _, _, _, _, _, _, _, _, _, _, _, _, _, _, _, _, _, _, _, _, _, _, _, _, _, _, _, _, _, _, _, _, _, _, _, _, _, by omega, rfl, hB3, hM3, ?_⟩, ?_⟩
        · intro E hE
          rcases List.mem_cons.1 hE with rfl | hE
          · omega
          · exact hDs E hE
        · simp [intOf]; omega
    · obtain rfl : k = 2 := by omega
      have hbw := hb0.trans (hB.mono hb0.size)
      gi_wp2_with (refine ⟨trivial, ?_⟩; gi_at_call 14; refine (callsIn_wide.2 known_any).mono ?_; rintro e w9 ⟨rfl, hb9⟩)
      have hM9 := hM.grown (below_grown4 hb9) (fun _ _ e => by cases e)
      refine leaves_marks (B := w.heap.size) Ds w9 hM9 (fun E hE => hDs E hE) (fun w2 h2 => ⟨_, results_tmp rfl _ _ _, rfl, (hbw.trans (hb9.mono hbw.size)).trans h2⟩)
end Go.Proofs.Ytofcjcmbbkiaaaa
