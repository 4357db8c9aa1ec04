/-
  The law's act: a call of the buffer and of its reference. The law's act: a reset, a clone.
-/
import Derived.Test.YtoegamlpgenfcaaDoorLv
namespace Go.Proofs.YtoegamlpgenfcaaDoor
/-! ### The law's act: a call of the buffer and of its reference. -/
section
open Go.RowKit Go.Shelf

theorem put5_cell {w : World} {X : Nat} {k f l n : Int} {A : Option Addr} {N c : Nat} {B j : Nat} {v : Value} (hne : B ≠ X) (hc : w.cell? ⟨B, j, none⟩ = some v) : (((((w.setCell ⟨X, 0, none⟩ (.int .i64 k)).setCell ⟨X, 1, none⟩ (.int .i64 f)).setCell ⟨X, 2, none⟩ (.int .i64 l)).setCell ⟨X, 3, none⟩ (.slice A N c)).setCell ⟨X, 4, none⟩ (.int .i64 n)).cell? ⟨B, j, none⟩ = some v :=
  (World.cell?_of_block (a := ⟨B, j, none⟩) ((put5_save w X k f l n A N c).size |> fun _ => by
    show (((((w.setCell ⟨X, 0, none⟩ (.int .i64 k)).setCell ⟨X, 1, none⟩ (.int .i64 f)).setCell ⟨X, 2, none⟩ (.int .i64 l)).setCell ⟨X, 3, none⟩ (.slice A N c)).setCell ⟨X, 4, none⟩ (.int .i64 n)).heap[B]? = w.heap[B]?
    rw [Below.heap_setCell _ _ _ _ hne, Below.heap_setCell _ _ _ _ hne, Below.heap_setCell _ _ _ _ hne, Below.heap_setCell _ _ _ _ hne, Below.heap_setCell _ _ _ _ hne])).trans hc
/-- The reference's slice does not lie in a block of five cells. -/
theorem RefAt.apart {w : World} {s : St} {A A2 : Option Addr} {N c N2 c2 X : Nat} {k f l n : Int} {t : TypeId} (h : RefAt w s A N c) (hb : w.heap[X]? = some (.cells (bufC k f l n A2 N2 c2) t)) : ∀ a, A = some a → a.block ≠ X := by
  rintro a rfl rfl
  have hN : 5 < N := by have := h.len; have := h.ok.k0; omega
  obtain ⟨b, off, e, _, hc⟩ := h.rd.cells 5 hN
  injection e with e
  subst e
  have hn : w.cell? ⟨b, off + 5, none⟩ = none := by
    have hblk : w.heap[b]? = _ := hb
    simp only [World.cell?, hblk, bufC]
    simp
  rw [hn] at hc
  cases hc
theorem RefAt.save {w w' : World} {s t : St} {A A2 : Option Addr} {N c N2 c2 B : Nat} (h : RefAt w s A N c) (hb : BufAt w B t A2 N2 c2) (hs : Save (fun k => k = B) w w') : RefAt w' s A N c :=
  ⟨(h.rd.save hs (Nat.le_refl _) (fun a ha => h.apart hb.blk a ha)).more hs.size, h.len, h.ok, h.adr, h.cap⟩
section
variable {w : World} {X : Nat} {k f l n k0 f0 l0 n0 : Int} {A2 A0 : Option Addr} {N2 c2 N0 c0 : Nat} {s : St} {A : Option Addr} {N c B : Nat}
/-- What the result's block is given keeps a buffer and a reference. -/
theorem RefAt.put5 (h : RefAt w s A N c) (hz : w.heap[X]? = some (.cells (bufC k0 f0 l0 n0 A0 N0 c0) 30)) : RefAt (((((w.setCell ⟨X, 0, none⟩ (.int .i64 k)).setCell ⟨X, 1, none⟩ (.int .i64 f)).setCell ⟨X, 2, none⟩ (.int .i64 l)).setCell ⟨X, 3, none⟩ (.slice A2 N2 c2)).setCell ⟨X, 4, none⟩ (.int .i64 n)) s A N c :=
  ⟨(h.rd.save (put5_save w X k f l n A2 N2 c2) (Nat.le_refl _) (fun a ha => h.apart hz a ha)).more (put5_save w X k f l n A2 N2 c2).size, h.len, h.ok, h.adr, h.cap⟩
theorem BufAt.put5 (h : BufAt w B s A N c) (hz : w.heap[X]? = some (.cells (bufC k0 f0 l0 n0 A0 N0 c0) 30)) : BufAt (((((w.setCell ⟨X, 0, none⟩ (.int .i64 k)).setCell ⟨X, 1, none⟩ (.int .i64 f)).setCell ⟨X, 2, none⟩ (.int .i64 l)).setCell ⟨X, 3, none⟩ (.slice A2 N2 c2)).setCell ⟨X, 4, none⟩ (.int .i64 n)) B s A N c := by
  refine h.save (put5_save w X k f l n A2 N2 c2) ?_ ?_
  · intro e
    subst e
    have := h.blk.symm.trans hz
    simp at this
  · intro a ha e
    obtain ⟨g, hg, _⟩ := h.addr
    rw [ha] at hg
    injection hg with hg
    subst hg
    have e : g = X := e
    subst e
    rcases h.row.2 with ⟨h1, _⟩ | ⟨g', cap, cur, h1, _, h3, _⟩
    · rw [ha] at h1; cases h1
    · rw [ha] at h1
      injection h1 with e1
      injection e1 with e1
      injection e1 with e1
      subst e1
      have := h3.symm.trans hz
      simp at this
theorem save_put5 {w0 w1 : World} (hb : Below w0.heap.size w0 w1) (hs : Save (fun i => i = B) w1 w) (hX : w0.heap.size ≤ X) : Save (fun i => i = B) w0 (((((w.setCell ⟨X, 0, none⟩ (.int .i64 k)).setCell ⟨X, 1, none⟩ (.int .i64 f)).setCell ⟨X, 2, none⟩ (.int .i64 l)).setCell ⟨X, 3, none⟩ (.slice A2 N2 c2)).setCell ⟨X, 4, none⟩ (.int .i64 n)) :=
  ((Save.of_below hb).trans hs).trans' (put5_save w X k f l n A2 N2 c2) (fun i hi hl => absurd hl (by omega))
end
theorem act_results {W : World} {tmps : Array Value} {X : Nat} {v : Value} {b : Bool} {k f l n : Int} {A : Option Addr} {N c : Nat}
    (h6 : tmps.getD 6 undef = v) (h7 : tmps.getD 7 undef = .pointer (some ⟨X, 0, none⟩)) (h8 : tmps.getD 8 undef = .bool b) (hT : W.heap[X]? = some (.cells (bufC k f l n A N c) 30)) :
    (results Tryd.f13 tmps).run Tryd.prog W = .ok (.tuple #[v, .agg (bufC k f l n A N c), .bool b]) W := by
  have c0 := bufC.c0 hT
  have c1 := bufC.c1 hT
  have c2 := bufC.c2 hT
  have c3 := bufC.c3 hT
  have c4 := bufC.c4 hT
  simp only [Array.getD_eq_getD_getElem?] at h6 h7 h8
  simp [results, Tryd.results13, go_sem, h6, h7, h8, c0, c1, c2, c3, c4, bufC]
theorem BufAt.drew {w : World} {B N c : Nat} {s : St} {A : Option Addr} (h : BufAt w B s A N c) : BufAt w.drew B s A N c := ⟨h.blk, h.row, h.len, h.ok, h.low⟩
/-- What act hands back: a buffer and its reference in one state. -/
def ActR (w : World) (B : Nat) (s : St) (e : Ending) (w' : World) : Prop :=
  ∃ B2 s2 A N c A2 N2 c2, e = .returned (.tuple #[.pointer (some ⟨B2, 0, none⟩), refV s2 A2 N2 c2, .bool true]) ∧ BufAt w' B2 s2 A N c ∧ RefAt w' s2 A2 N2 c2 ∧ (s2.k = s.k ∧ s2.f = s.f ∧ s2.l = s.l) ∧ s2.n ≤ s.n + 3000 ∧ Save (fun k => k = B) w w' ∧ (B2 = B ∨ w.heap.size ≤ B2)
/-- The blocks that act begins with. -/
structure ActW (w w1 : World) (s : St) (A : Option Addr) (N c : Nat) (what rv n seed : Int) : Prop where
  eq : w1 = ((w.alloc (.cells (bufC s.k s.f s.l s.n A N c) 30)).alloc (.cells #[.int .i64 what, .int .i64 rv, .int .i64 n, .int .i64 seed] 37)).alloc (.cells (bufC 0 0 0 0 none 0 0) 30)
  low : Below w.heap.size w w1
  size : w1.heap.size = w.heap.size + 3
  ref : w1.heap[w.heap.size]? = some (.cells (bufC s.k s.f s.l s.n A N c) 30)
  act : w1.heap[w.heap.size + 1]? = some (.cells #[.int .i64 what, .int .i64 rv, .int .i64 n, .int .i64 seed] 37)
  out : w1.heap[w.heap.size + 2]? = some (.cells (bufC 0 0 0 0 none 0 0) 30)
theorem act_w (w : World) (s : St) (A : Option Addr) (N c : Nat) (what rv n seed : Int) : ∃ w1, ActW w w1 s A N c what rv n seed := by
  refine ⟨_, rfl, (((Below.refl _ w).alloc (Nat.le_refl _) _).alloc (by simp) _).alloc (by simp; omega) _, by simp, ?_, ?_, ?_⟩
  · exact (Below.heap_alloc _ _ _ (by simp; omega)).trans ((Below.heap_alloc _ _ _ (by simp)).trans (World.alloc_heap_new _ _))
  · refine (Below.heap_alloc _ _ _ (by simp)).trans ?_
    have := World.alloc_heap_new (w.alloc (.cells (bufC s.k s.f s.l s.n A N c) 30)) (.cells #[.int .i64 what, .int .i64 rv, .int .i64 n, .int .i64 seed] 37)
    rw [World.size_alloc] at this
    exact this
  · have := World.alloc_heap_new ((w.alloc (.cells (bufC s.k s.f s.l s.n A N c) 30)).alloc (.cells #[.int .i64 what, .int .i64 rv, .int .i64 n, .int .i64 seed] 37)) (.cells (bufC 0 0 0 0 none 0 0) 30)
    rw [World.size_alloc, World.size_alloc] at this
    exact this
def actV (what rv n seed : Int) : Value := .agg #[.int .i64 what, .int .i64 rv, .int .i64 n, .int .i64 seed]
set_option maxRecDepth 100000 in
set_option maxHeartbeats 8000000 in
theorem act_add {w : World} {B N c N' c' : Nat} {s : St} {A A' : Option Addr} {what rv n seed : Int} (hK : Kinds w) (hp : BufAt w B s A N c) (hr : RefAt w s A' N' c') (hn : s.n ≤ 1000000000) (hw : what = 0 ∨ what = 1 ∨ what = 2) (hs0 : -9223372036854775808 ≤ seed) (hs1 : seed ≤ 9223372036854775807) :
    Calls Tryd.prog 13 #[.pointer (some ⟨B, 0, none⟩), refV s A' N' c', actV what rv n seed] w (ActR w B s) := by
  obtain ⟨w1, hW⟩ := act_w w s A' N' c' what rv n seed
  have x0 := bufC.c0 hW.ref
  have x1 := bufC.c1 hW.ref
  have x2 := bufC.c2 hW.ref
  have x3 := bufC.c3 hW.ref
  have x4 := bufC.c4 hW.ref
  have a0 : w1.cell? ⟨w.heap.size + 1, 0, none⟩ = some (.int .i64 what) := blk_cell hW.act rfl
  have a1 : w1.cell? ⟨w.heap.size + 1, 1, none⟩ = some (.int .i64 rv) := blk_cell hW.act rfl
  have a2 : w1.cell? ⟨w.heap.size + 1, 2, none⟩ = some (.int .i64 n) := blk_cell hW.act rfl
  have a3 : w1.cell? ⟨w.heap.size + 1, 3, none⟩ = some (.int .i64 seed) := blk_cell hW.act rfl
  have hV := Lib.hid (values_any (n := n) (seed := seed) (w := w1) hs0 hs1)
  have HW := Lib.hid hW
  have HP := Lib.hid hp
  have HR := Lib.hid hr
  have HK := Lib.hid hK
  have HN := Lib.hid hn
  clear hW hp hr hK hn hs0 hs1
  unfold refV bufC actV
  go_enter Tryd.func13, Tryd.ntmps13
  go_upto_region 1 with fail
  have hw1 := HW.out.eq
  unfold bufC at hw1
  rw [← hw1]
  clear hw1
  rcases hw with rfl | rfl | rfl
  all_goals
    go_wp2_with fail
    refine hV.out.mono ?_
    rintro e w2 ⟨xs, hxl, he⟩
    obtain ⟨Av, cv, rfl, ov, bv⟩ := he.got rfl
    obtain ⟨m, hm⟩ : ∃ m, xs.length = m := ⟨_, rfl⟩
    rw [hm] at ov hxl ⊢
    have hb2 := HW.out.low.trans (bv.mono HW.out.low.size)
    have hRv := Rd.of_own ov
    have hA := Lib.hid (refAdd_buf (c := c') (c2 := cv) (rv := rv) (HR.out.below hb2) hRv (by omega) HN.out)
    have hsn := Lib.hid (addSt_n s rv xs)
    have hpar := Lib.hid (addSt_par s rv xs)
    generalize hrr : addSt s rv xs = r at *
    obtain ⟨s2, no⟩ := r
    dsimp only at hA hsn hpar
    have hX2 := blk_below HW.out.ref bv
    have hY2 := blk_below HW.out.act bv
    have hZ2 := blk_below HW.out.out bv
    have y0 := bufC.c0 hX2
    have y1 := bufC.c1 hX2
    have y2 := bufC.c2 hX2
    have y3 := bufC.c3 hX2
    have y4 := bufC.c4 hX2
    have b1 : w2.cell? ⟨w.heap.size + 1, 1, none⟩ = some (.int .i64 rv) := blk_cell hY2 rfl
    have HX2 := Lib.hid hX2
    have HY2 := Lib.hid hY2
    have HZ2 := Lib.hid hZ2
    have HB2 := Lib.hid hb2
    have HRv := Lib.hid hRv
    have HM := Lib.hid hm
    have HRR := Lib.hid hrr
    have HXL := Lib.hid hxl
    have hs2 : w.heap.size + 3 ≤ w2.heap.size := by have := bv.size; have := HW.out.size; omega
    have HS2 := Lib.hid hs2
    unfold refV bufC at hA
    clear x0 x1 x2 x3 x4 a0 a1 a2 a3 he ov bv hb2 hRv hX2 hY2 hZ2 hV hm hrr hxl hs2
    go_wp2_with fail
    refine hA.out.mono ?_
    rintro e w3 ⟨A3, N3, c3, rfl, r3, b3⟩
    unfold refV bufC
    have hY3 := blk_below HY2.out b3
    have hZ3 := blk_below HZ2.out b3
    obtain ⟨w4, hw4⟩ : ∃ W, W = w3.alloc (.cells (bufC s2.k s2.f s2.l s2.n A3 N3 c3) 30) := ⟨_, rfl⟩
    have b4 : Below w3.heap.size w3 w4 := by rw [hw4]; exact (Below.refl _ _).alloc (Nat.le_refl _) _
    have hT : w4.heap[w3.heap.size]? = some (.cells (bufC s2.k s2.f s2.l s2.n A3 N3 c3) 30) := by rw [hw4]; exact World.alloc_heap_new _ _
    have hY4 := blk_below hY3 b4
    have hZ4 := blk_below hZ3 b4
    have hb4 := HB2.out.trans ((b3.trans (b4.mono b3.size)).mono HB2.out.size)
    have hAd := Lib.hid (Add_buf (w := w4.drew) (c2 := cv) (rv := rv) (l := xs) ((HK.out.step hb4).drew) (BufAt.drew (HP.out.below hb4)) (((HRv.out.below (b3.trans (b4.mono b3.size))).more (show w2.heap.size ≤ w4.drew.heap.size from Nat.le_trans b3.size b4.size)).drew) (by have := HXL.out; omega) HN.out)
    rw [HRR.out] at hAd
    dsimp only
    have HW4 := Lib.hid hw4
    have d0 := bufC.c0 hT
    have d1 := bufC.c1 hT
    have d2 := bufC.c2 hT
    have d3 := bufC.c3 hT
    have d4 := bufC.c4 hT
    have dr : w4.cell? ⟨w.heap.size + 1, 1, none⟩ = some (.int .i64 rv) := blk_cell hY4 rfl
    have hs4 : w.heap.size + 3 ≤ w3.heap.size := by have := HS2.out; have := b3.size; omega
    have hBl := HP.out.lt
    have HT := Lib.hid hT
    have HY4 := Lib.hid hY4
    have HZ4 := Lib.hid hZ4
    have HB4 := Lib.hid hb4
    have r4 := Lib.hid (r3.below b4)
    have hN := Lib.hid (fun (e : Int) (u : World) => num12_any (e := e) (w := u))
    clear hw4 hT hY3 hZ3 hY4 hZ4 hb4 y0 y1 y2 y3 y4 b1 hA r3 b3 b4 HX2 HY2 HZ2
    go_upto_region 7 with fail
    have hw4 := HW4.out
    unfold bufC at hw4
    rw [← hw4]
    clear hw4 HW4
    go_region_held3 (fun w' => w'.cell? ⟨w3.heap.size, 0, none⟩ = some (.int .i64 (s2.k : Int)) ∧ w'.cell? ⟨w3.heap.size, 1, none⟩ = some (.int .i64 (s2.f : Int)) ∧ w'.cell? ⟨w3.heap.size, 2, none⟩ = some (.int .i64 (s2.l : Int)) ∧ w'.cell? ⟨w3.heap.size, 3, none⟩ = some (.slice A3 N3 c3) ∧ w'.cell? ⟨w3.heap.size, 4, none⟩ = some (.int .i64 (s2.n : Int)) ∧ w'.cell? ⟨w.heap.size + 1, 1, none⟩ = some (.int .i64 rv)) (first | go_keep | exact ⟨e0, e1, e2, e3, e4, er⟩ | fail) (first
      | (go_at_call 19; refine hAd.out.mono ?_; rintro e w5 ⟨A5, N5, c5, rfl, hB5, hS5⟩
         have hT5 := hS5.heap HT.out (show ¬ w3.heap.size = B by omega)
         have hY5 := hS5.heap HY4.out (show ¬ w.heap.size + 1 = B by omega)
         have hZ5 := hS5.heap HZ4.out (show ¬ w.heap.size + 2 = B by omega)
         have f0 := bufC.c0 hT5
         have f1 := bufC.c1 hT5
         have f2 := bufC.c2 hT5
         have f3 := bufC.c3 hT5
         have f4 := bufC.c4 hT5
         have fr : w5.cell? ⟨w.heap.size + 1, 1, none⟩ = some (.int .i64 rv) := blk_cell hY5 rfl
         have z0 := bufC.c0 hZ5
         have z1 := bufC.c1 hZ5
         have z2 := bufC.c2 hZ5
         have z3 := bufC.c3 hZ5
         have z4 := bufC.c4 hZ5
         have g0 := blk_frozen hZ5 0
         have g1 := blk_frozen hZ5 1
         have g2 := blk_frozen hZ5 2
         have g3 := blk_frozen hZ5 3
         have g4 := blk_frozen hZ5 4
         have hne1 : w3.heap.size ≠ w.heap.size + 1 + 1 := by omega
         have hne2 : w.heap.size + 1 ≠ w.heap.size + 1 + 1 := by omega
         have e0 := put5_cell (k := (s2.k : Int)) (f := (s2.f : Int)) (l := (s2.l : Int)) (n := (s2.n : Int)) (A := A3) (N := N3) (c := c3) hne1 f0
         have e1 := put5_cell (k := (s2.k : Int)) (f := (s2.f : Int)) (l := (s2.l : Int)) (n := (s2.n : Int)) (A := A3) (N := N3) (c := c3) hne1 f1
         have e2 := put5_cell (k := (s2.k : Int)) (f := (s2.f : Int)) (l := (s2.l : Int)) (n := (s2.n : Int)) (A := A3) (N := N3) (c := c3) hne1 f2
         have e3 := put5_cell (k := (s2.k : Int)) (f := (s2.f : Int)) (l := (s2.l : Int)) (n := (s2.n : Int)) (A := A3) (N := N3) (c := c3) hne1 f3
         have e4 := put5_cell (k := (s2.k : Int)) (f := (s2.f : Int)) (l := (s2.l : Int)) (n := (s2.n : Int)) (A := A3) (N := N3) (c := c3) hne1 f4
         have er := put5_cell (k := (s2.k : Int)) (f := (s2.f : Int)) (l := (s2.l : Int)) (n := (s2.n : Int)) (A := A3) (N := N3) (c := c3) hne2 fr
         try dsimp only)
      | (go_at_call 12; refine (hN.out _ _).mono ?_; rintro e w6 ⟨rfl, he⟩; obtain rfl := he.symm)
      | fail)
    clear f0 f1 f2 f3 f4 fr z0 z1 z2 z3 z4 g0 g1 g2 g3 g4 e0 e1 e2 e3 e4 er d0 d1 d2 d3 d4 dr hAd hN
    go_wp2_with fail
    refine bodyPost_ret (act_results (X := w.heap.size + 1 + 1) rfl rfl rfl (put5_blk hZ5)) rfl ?_
    exact ⟨B, s2, A5, N5, c5, A3, N3, c3, rfl, hB5.put5 hZ5, (r4.out.save (HP.out.below HB4.out) ⟨hS5.os, hS5.tape, hS5.output, hS5.size, hS5.block⟩).put5 hZ5, hpar.out, Nat.le_trans hsn.out (by have := HXL.out; have := HM.out; omega), save_put5 HB4.out ⟨hS5.os, hS5.tape, hS5.output, hS5.size, hS5.block⟩ (by omega), .inl rfl⟩
end

/-! ### The law's act: a reset, a clone. -/
section
open Go.RowKit Go.Shelf

set_option maxRecDepth 100000 in
set_option maxHeartbeats 8000000 in
theorem act_reset {w : World} {B N c N' c' : Nat} {s : St} {A A' : Option Addr} {rv n seed : Int} (hp : BufAt w B s A N c) (_hr : RefAt w s A' N' c') :
    Calls Tryd.prog 13 #[.pointer (some ⟨B, 0, none⟩), refV s A' N' c', actV 3 rv n seed] w (ActR w B s) := by
  obtain ⟨w1, hW⟩ := act_w w s A' N' c' 3 rv n seed
  have x0 := bufC.c0 hW.ref
  have x1 := bufC.c1 hW.ref
  have x2 := bufC.c2 hW.ref
  have a0 : w1.cell? ⟨w.heap.size + 1, 0, none⟩ = some (.int .i64 3) := blk_cell hW.act rfl
  have hA := Lib.hid (refNew_new (w := w1) hp.ok.k0 hp.ok.k1 hp.ok.f1 hp.ok.l1)
  have HW := Lib.hid hW
  have HP := Lib.hid hp
  clear hW _hr
  unfold refV bufC actV
  go_enter Tryd.func13, Tryd.ntmps13
  go_upto_region 1 with fail
  have hw1 := HW.out.eq
  unfold bufC at hw1
  rw [← hw1]
  clear hw1
  go_wp2_with fail
  refine hA.out.mono ?_
  rintro e w3 ⟨A3, N3, c3, rfl, r3, b3⟩
  have hZ3 := blk_below HW.out.out b3
  obtain ⟨s2, hs2⟩ : ∃ s2, newSt s.k s.f s.l = s2 := ⟨_, rfl⟩
  have hRs := Lib.hid (fun (u : World) (hb : Below w.heap.size w u) => Reset_buf (HP.out.below hb))
  have hpar : Hid ((s2.k = s.k ∧ s2.f = s.f ∧ s2.l = s.l) ∧ s2.n = 0) := Lib.hid (by subst hs2; exact ⟨⟨rfl, rfl, rfl⟩, rfl⟩)
  rw [hs2] at r3 hRs ⊢
  clear hs2
  obtain ⟨w4, hw4⟩ : ∃ W, W = w3.alloc (.cells (bufC s2.k s2.f s2.l s2.n A3 N3 c3) 30) := ⟨_, rfl⟩
  have b4 : Below w3.heap.size w3 w4 := by rw [hw4]; exact (Below.refl _ _).alloc (Nat.le_refl _) _
  have hT : w4.heap[w3.heap.size]? = some (.cells (bufC s2.k s2.f s2.l s2.n A3 N3 c3) 30) := by rw [hw4]; exact World.alloc_heap_new _ _
  have hZ4 := blk_below hZ3 b4
  have hb4 := HW.out.low.trans ((b3.trans (b4.mono b3.size)).mono HW.out.low.size)
  have hAd := Lib.hid (hRs.out w4.drew hb4.drew)
  unfold refV bufC
  dsimp only
  have HW4 := Lib.hid hw4
  have d0 := bufC.c0 hT
  have d1 := bufC.c1 hT
  have d2 := bufC.c2 hT
  have d3 := bufC.c3 hT
  have d4 := bufC.c4 hT
  have hs4 : w.heap.size + 3 ≤ w3.heap.size := by have := HW.out.size; have := b3.size; omega
  have hBl := HP.out.lt
  have HT := Lib.hid hT
  have HZ4 := Lib.hid hZ4
  have HB4 := Lib.hid hb4
  have r4 := Lib.hid (r3.below b4)
  have hN := Lib.hid (fun (e : Int) (u : World) => num12_any (e := e) (w := u))
  clear hw4 hT hZ3 hZ4 hb4 hA r3 b3 b4 hp x0 x1 x2 a0 hRs
  go_upto_region 10 with fail
  have hw4 := HW4.out
  unfold bufC at hw4
  rw [← hw4]
  clear hw4 HW4
  go_region_held3 (fun w' => w'.cell? ⟨w3.heap.size, 0, none⟩ = some (.int .i64 (s2.k : Int)) ∧ w'.cell? ⟨w3.heap.size, 1, none⟩ = some (.int .i64 (s2.f : Int)) ∧ w'.cell? ⟨w3.heap.size, 2, none⟩ = some (.int .i64 (s2.l : Int)) ∧ w'.cell? ⟨w3.heap.size, 3, none⟩ = some (.slice A3 N3 c3) ∧ w'.cell? ⟨w3.heap.size, 4, none⟩ = some (.int .i64 (s2.n : Int))) (first | go_keep | exact ⟨e0, e1, e2, e3, e4⟩ | fail) (first
    | (go_at_call 20; refine hAd.out.mono ?_; rintro e w5 ⟨A5, N5, c5, rfl, hB5, hS5⟩
       have hT5 := hS5.heap HT.out (show ¬ w3.heap.size = B by omega)
       have hZ5 := hS5.heap HZ4.out (show ¬ w.heap.size + 2 = B by omega)
       have f0 := bufC.c0 hT5
       have f1 := bufC.c1 hT5
       have f2 := bufC.c2 hT5
       have f3 := bufC.c3 hT5
       have f4 := bufC.c4 hT5
       have z0 := bufC.c0 hZ5
       have z1 := bufC.c1 hZ5
       have z2 := bufC.c2 hZ5
       have z3 := bufC.c3 hZ5
       have z4 := bufC.c4 hZ5
       have g0 := blk_frozen hZ5 0
       have g1 := blk_frozen hZ5 1
       have g2 := blk_frozen hZ5 2
       have g3 := blk_frozen hZ5 3
       have g4 := blk_frozen hZ5 4
       have hne1 : w3.heap.size ≠ w.heap.size + 1 + 1 := by omega
       have e0 := put5_cell (k := (s2.k : Int)) (f := (s2.f : Int)) (l := (s2.l : Int)) (n := (s2.n : Int)) (A := A3) (N := N3) (c := c3) hne1 f0
       have e1 := put5_cell (k := (s2.k : Int)) (f := (s2.f : Int)) (l := (s2.l : Int)) (n := (s2.n : Int)) (A := A3) (N := N3) (c := c3) hne1 f1
       have e2 := put5_cell (k := (s2.k : Int)) (f := (s2.f : Int)) (l := (s2.l : Int)) (n := (s2.n : Int)) (A := A3) (N := N3) (c := c3) hne1 f2
       have e3 := put5_cell (k := (s2.k : Int)) (f := (s2.f : Int)) (l := (s2.l : Int)) (n := (s2.n : Int)) (A := A3) (N := N3) (c := c3) hne1 f3
       have e4 := put5_cell (k := (s2.k : Int)) (f := (s2.f : Int)) (l := (s2.l : Int)) (n := (s2.n : Int)) (A := A3) (N := N3) (c := c3) hne1 f4
       try dsimp only)
    | (go_at_call 12; refine (hN.out _ _).mono ?_; rintro e w6 ⟨rfl, he⟩; obtain rfl := he.symm)
    | fail)
  clear f0 f1 f2 f3 f4 z0 z1 z2 z3 z4 g0 g1 g2 g3 g4 e0 e1 e2 e3 e4 d0 d1 d2 d3 d4 hAd hN
  go_wp2_with fail
  refine bodyPost_ret (act_results (X := w.heap.size + 1 + 1) rfl rfl rfl (put5_blk hZ5)) rfl ?_
  exact ⟨B, s2, A5, N5, c5, A3, N3, c3, rfl, hB5.put5 hZ5, (r4.out.save (HP.out.below HB4.out) ⟨hS5.os, hS5.tape, hS5.output, hS5.size, hS5.block⟩).put5 hZ5, hpar.out.1, by rw [hpar.out.2]; exact Nat.zero_le _, save_put5 HB4.out ⟨hS5.os, hS5.tape, hS5.output, hS5.size, hS5.block⟩ (by omega), .inl rfl⟩
set_option maxRecDepth 100000 in
set_option maxHeartbeats 8000000 in
theorem act_clone {w : World} {B N c N' c' : Nat} {s : St} {A A' : Option Addr} {what rv n seed : Int} (hp : BufAt w B s A N c) (hr : RefAt w s A' N' c') (hw : what ≠ 0 ∧ what ≠ 1 ∧ what ≠ 2 ∧ what ≠ 3) :
    Calls Tryd.prog 13 #[.pointer (some ⟨B, 0, none⟩), refV s A' N' c', actV what rv n seed] w (ActR w B s) := by
  obtain ⟨w1, hW⟩ := act_w w s A' N' c' what rv n seed
  have d0 := bufC.c0 hW.ref
  have d1 := bufC.c1 hW.ref
  have d2 := bufC.c2 hW.ref
  have d3 := bufC.c3 hW.ref
  have d4 := bufC.c4 hW.ref
  have a0 : w1.cell? ⟨w.heap.size + 1, 0, none⟩ = some (.int .i64 what) := blk_cell hW.act rfl
  have q0 : (what == 0) = false := by simpa using hw.1
  have q1 : (what == 1) = false := by simpa using hw.2.1
  have q2 : (what == 2) = false := by simpa using hw.2.2.1
  have q3 : (what == 3) = false := by simpa using hw.2.2.2
  have hAd := Lib.hid (Clone_buf (BufAt.drew (hp.below hW.low)))
  have HW := Lib.hid hW
  have HP := Lib.hid hp
  have HR := Lib.hid hr
  have hs1 := hW.size
  have hWX := Lib.hid hW.ref
  have hWZ := Lib.hid hW.out
  clear hW hr hw hp
  unfold refV bufC actV
  go_enter Tryd.func13, Tryd.ntmps13
  go_upto_region 1 with fail
  have hw1 := HW.out.eq
  unfold bufC at hw1
  rw [← hw1]
  clear hw1
  go_upto_region 11 with fail
  go_region_held3 (fun w' => w'.cell? ⟨w.heap.size, 0, none⟩ = some (.int .i64 (s.k : Int)) ∧ w'.cell? ⟨w.heap.size, 1, none⟩ = some (.int .i64 (s.f : Int)) ∧ w'.cell? ⟨w.heap.size, 2, none⟩ = some (.int .i64 (s.l : Int)) ∧ w'.cell? ⟨w.heap.size, 3, none⟩ = some (.slice A' N' c') ∧ w'.cell? ⟨w.heap.size, 4, none⟩ = some (.int .i64 (s.n : Int))) (first | go_keep | exact ⟨e0, e1, e2, e3, e4⟩ | fail) (first
    | (go_at_call 15; refine hAd.out.mono ?_; rintro e w5 ⟨v, rfl, B2, A5, N5, c5, rfl, hB2, hB5, hS5⟩
       have hT5 := (hS5.block w.heap.size (show w.heap.size < w1.heap.size by omega)).trans hWX.out
       have hZ5 := (hS5.block (w.heap.size + 2) (show w.heap.size + 2 < w1.heap.size by omega)).trans hWZ.out
       have f0 := bufC.c0 hT5
       have f1 := bufC.c1 hT5
       have f2 := bufC.c2 hT5
       have f3 := bufC.c3 hT5
       have f4 := bufC.c4 hT5
       have z0 := bufC.c0 hZ5
       have z1 := bufC.c1 hZ5
       have z2 := bufC.c2 hZ5
       have z3 := bufC.c3 hZ5
       have z4 := bufC.c4 hZ5
       have g0 := blk_frozen hZ5 0
       have g1 := blk_frozen hZ5 1
       have g2 := blk_frozen hZ5 2
       have g3 := blk_frozen hZ5 3
       have g4 := blk_frozen hZ5 4
       have hne1 : w.heap.size ≠ w.heap.size + 1 + 1 := by omega
       have e0 := put5_cell (k := (s.k : Int)) (f := (s.f : Int)) (l := (s.l : Int)) (n := (s.n : Int)) (A := A') (N := N') (c := c') hne1 f0
       have e1 := put5_cell (k := (s.k : Int)) (f := (s.f : Int)) (l := (s.l : Int)) (n := (s.n : Int)) (A := A') (N := N') (c := c') hne1 f1
       have e2 := put5_cell (k := (s.k : Int)) (f := (s.f : Int)) (l := (s.l : Int)) (n := (s.n : Int)) (A := A') (N := N') (c := c') hne1 f2
       have e3 := put5_cell (k := (s.k : Int)) (f := (s.f : Int)) (l := (s.l : Int)) (n := (s.n : Int)) (A := A') (N := N') (c := c') hne1 f3
       have e4 := put5_cell (k := (s.k : Int)) (f := (s.f : Int)) (l := (s.l : Int)) (n := (s.n : Int)) (A := A') (N := N') (c := c') hne1 f4
       try dsimp only)
    | fail)
  clear f0 f1 f2 f3 f4 z0 z1 z2 z3 z4 g0 g1 g2 g3 g4 e0 e1 e2 e3 e4 d0 d1 d2 d3 d4 hAd
  go_wp2_with fail
  refine bodyPost_ret (act_results (X := w.heap.size + 1 + 1) rfl rfl rfl (put5_blk hZ5)) rfl ?_
  have hb5 : Below w.heap.size w w5 := HW.out.low.trans (below_undrew (hS5.mono (show w.heap.size ≤ _ from HW.out.low.size)))
  exact ⟨B2, s, A5, N5, c5, A', N', c', rfl, hB5.put5 hZ5, (HR.out.below hb5).put5 hZ5, ⟨rfl, rfl, rfl⟩, Nat.le_add_right _ _, save_put5 hb5 (Save.refl _ _) (by omega), .inr (Nat.le_trans HW.out.low.size hB2)⟩
/-- A call, whichever. -/
theorem act_any {w : World} {B N c N' c' : Nat} {s : St} {A A' : Option Addr} {what rv n seed : Int} (hK : Kinds w) (hp : BufAt w B s A N c) (hr : RefAt w s A' N' c') (hn : s.n ≤ 1000000000) (hs0 : -9223372036854775808 ≤ seed) (hs1 : seed ≤ 9223372036854775807) :
    Calls Tryd.prog 13 #[.pointer (some ⟨B, 0, none⟩), refV s A' N' c', actV what rv n seed] w (ActR w B s) := by
  by_cases h : what = 0 ∨ what = 1 ∨ what = 2
  · exact act_add hK hp hr hn h hs0 hs1
  · by_cases h3 : what = 3
    · subst h3; exact act_reset hp hr
    · exact act_clone hp hr (by omega)
end
end Go.Proofs.YtoegamlpgenfcaaDoor
