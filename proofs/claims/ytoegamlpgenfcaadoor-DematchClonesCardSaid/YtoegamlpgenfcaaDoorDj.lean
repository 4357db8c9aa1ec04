/-
  Values, Streams, Received, Reset, Clone, Same. Received, Reset, Clone, Same.
-/
import Derived.Test.YtoegamlpgenfcaaDoorEq
namespace Go.Proofs.YtoegamlpgenfcaaDoor
/-! ### Values, Streams, Received, Reset, Clone, Same. -/
section
open Go.RowKit Go.Shelf

set_option maxRecDepth 100000 in
set_option maxHeartbeats 2000000 in
theorem Values_buf {w : World} {B N c : Nat} {s : St} {A : Option Addr} (h : BufAt w B s A N c) :
    Calls Tryd.prog 21 #[.pointer (some ⟨B, 0, none⟩)] w fun e w' => ∃ g c', e = .returned (.slice (some ⟨g, 0, none⟩) N c') ∧ N ≤ c' ∧ w'.ownsRow w.heap.size 3 1 (.slice (some ⟨g, 0, none⟩) N c') N (s.V.map (Value.int .i64)) ∧ Below w.heap.size w w' := by
  have hI := Lib.hid (isNone_buf h)
  obtain ⟨g, rfl, _, _, _⟩ := h.addr
  have hC := Lib.hid (cloneI_any (c := c) h.rd (by have := h.pos; omega))
  have c3 := bufC.c3 h.blk
  have hlen := Lib.hid (h.ok.len.trans h.len.symm)
  have hN := Lib.hid (show 0 < N by have := h.pos; omega)
  clear h
  go_enter Tryd.func21, Tryd.ntmps21
  go_wp2_with (first | (go_at_call 36; refine hI.out.mono ?_; rintro e w' ⟨rfl, he⟩; obtain rfl := he.symm) | fail)
  refine hC.out.mono ?_
  rintro e w1 he
  obtain ⟨A1, c1, rfl, o1, b1⟩ := he.got hlen.out
  obtain ⟨g1, cap, hv, h1, h2⟩ := o1.form hN.out
  injection hv with hv1 hv2 hv3
  subst hv1 hv3
  have hcap := own_cap' o1
  have HO := Lib.hid o1
  have HB := Lib.hid b1
  clear he o1 b1 h1 h2 hC c3
  go_wp2_with fail
  go_ret
  exact ⟨_, _, rfl, hcap, HO.out, HB.out⟩
theorem put_block (w : World) {P B : Nat} (h : B ≠ P) (a b c : Value) : (((w.setCell ⟨P, 0, none⟩ a).setCell ⟨P, 1, none⟩ b).setCell ⟨P, 2, none⟩ c).heap[B]? = w.heap[B]? := by
  rw [Below.heap_setCell _ _ _ _ h, Below.heap_setCell _ _ _ _ h, Below.heap_setCell _ _ _ _ h]
theorem own_put3 {w : World} {P base n : Nat} {t e : TypeId} {v x y z : Value} {xs : List Value} (hO : w.ownsRow base e 1 v n xs) (hT : Three w P t x y z) (hte : t ≠ e) (a b c : Value) :
    (((w.setCell ⟨P, 0, none⟩ a).setCell ⟨P, 1, none⟩ b).setCell ⟨P, 2, none⟩ c).ownsRow base e 1 v n xs := by
  refine ownsRow_save (X := fun k => k = P) hO ((((Save.refl (fun k => k = P) w).setCell (p := ⟨P, 0, none⟩) (fun _ => rfl) _).setCell (p := ⟨P, 1, none⟩) (fun _ => rfl) _).setCell (p := ⟨P, 2, none⟩) (fun _ => rfl) _) (fun g hg hgP => ?_)
  subst hgP
  rcases hO.2 with ⟨h1, _⟩ | ⟨g', cap, cur, h1, _, h3, _⟩
  · rw [h1] at hg; cases hg
  · rw [h1] at hg
    have e2 : g' = g := by simpa [Value.ownBlock] using hg
    subst e2
    have := (show w.heap[g']? = _ from hT).symm.trans h3
    simp at this
    exact hte this.2
theorem below_put3 {w w' : World} {B P : Nat} (h : Below B w w') (hP : B ≤ P) (a b c : Value) : Below B w (((w'.setCell ⟨P, 0, none⟩ a).setCell ⟨P, 1, none⟩ b).setCell ⟨P, 2, none⟩ c) :=
  ((h.setCell (p := ⟨P, 0, none⟩) hP a).setCell (p := ⟨P, 1, none⟩) hP b).setCell (p := ⟨P, 2, none⟩) hP c
theorem put_cell {w : World} {P B j : Nat} {v : Value} (h : B ≠ P) (hc : w.cell? ⟨B, j, none⟩ = some v) (a b c : Value) : (((w.setCell ⟨P, 0, none⟩ a).setCell ⟨P, 1, none⟩ b).setCell ⟨P, 2, none⟩ c).cell? ⟨B, j, none⟩ = some v :=
  (World.cell?_of_block (a := ⟨B, j, none⟩) (put_block w h a b c)).trans hc
set_option maxRecDepth 100000 in
set_option maxHeartbeats 4000000 in
theorem Streams_buf {w : World} {B N c : Nat} {s : St} {A : Option Addr} (h : BufAt w B s A N c) :
    Calls Tryd.prog 18 #[.pointer (some ⟨B, 0, none⟩)] w fun e w' => ∃ g c', e = .returned (.tuple #[.slice (some ⟨g, 0, none⟩) (s.k + 4) (s.k + 4), .slice (some ⟨g, s.k + 4, none⟩) (s.k + 4) (s.k + 4), .slice (some ⟨g, (s.k + 4) + (s.k + 4), none⟩) (s.k + 4) (s.k + 4)]) ∧
      w'.ownsRow w.heap.size 3 1 (.slice (some ⟨g, 0, none⟩) N c') N (s.V.map (Value.int .i64)) ∧ Below w.heap.size w w' := by
  have hI := Lib.hid (isNone_buf h)
  have hV := Lib.hid (fun (u : World) (hb : Below w.heap.size w u) => Values_buf (h.below hb))
  obtain ⟨L, hL⟩ : ∃ L, s.k + 4 = L := ⟨_, rfl⟩
  have hC := Lib.hid (fun (g c1 : Nat) (hc : N ≤ c1) (u : World) => cut_any (k := (s.k : Int)) (f := (s.f : Int)) (l := (s.l : Int)) (g := g) (N := N) (c := c1) (L := L) (w := u) (by omega) (by have := h.ok.k0; omega) (by have := h.ok.k1; omega) (by have := h.len; omega))
  unfold cutV at hC
  have c0 := bufC.c0 h.blk
  have c1 := bufC.c1 h.blk
  have c2 := bufC.c2 h.blk
  have HA := Lib.hid h
  have hl := h.lt
  rw [hL]
  clear h hL
  go_enter Tryd.func18, Tryd.ntmps18
  go_wp2_with (first | (go_at_call 36; refine hI.out.mono ?_; rintro e w' ⟨rfl, he⟩; obtain rfl := he.symm) | fail)
  clear hI
  have hV1 := Lib.hid (hV.out (w.alloc (.cells #[.slice none 0 0, .slice none 0 0, .slice none 0 0] 73)).drew (((Below.refl _ w).alloc (Nat.le_refl _) _).drew))
  have hV2 := Lib.hid (hV.out w.drew (Below.refl _ w).drew)
  have a0 : (w.alloc (.cells #[.slice none 0 0, .slice none 0 0, .slice none 0 0] 73)).cell? ⟨B, 0, none⟩ = some (.int .i64 (s.k : Int)) := cell_new _ c0
  have a1 : (w.alloc (.cells #[.slice none 0 0, .slice none 0 0, .slice none 0 0] 73)).cell? ⟨B, 1, none⟩ = some (.int .i64 (s.f : Int)) := cell_new _ c1
  have a2 : (w.alloc (.cells #[.slice none 0 0, .slice none 0 0, .slice none 0 0] 73)).cell? ⟨B, 2, none⟩ = some (.int .i64 (s.l : Int)) := cell_new _ c2
  have T1 := Lib.hid (Three.new w 73 (.slice none 0 0) (.slice none 0 0) (.slice none 0 0))
  clear hV
  go_region_held3 (fun w' => w'.cell? ⟨B, 0, none⟩ = some (.int .i64 (s.k : Int)) ∧ w'.cell? ⟨B, 1, none⟩ = some (.int .i64 (s.f : Int)) ∧ w'.cell? ⟨B, 2, none⟩ = some (.int .i64 (s.l : Int))) (first | go_keep | exact ⟨e0 _ _ _, e1 _ _ _, e2 _ _ _⟩ | fail) (first
    | (go_at_call 21; with_reducible refine hV1.out.mono ?_; rintro e w2 ⟨g, c', rfl, hc', o2, b2⟩
       have hs2 : w.heap.size < w2.heap.size := by have := b2.size; simp [World.drew] at this; omega
       have d0 := (b2.cell (p := ⟨B, 0, none⟩) (by simp [World.drew]; omega)).trans a0; have d1 := (b2.cell (p := ⟨B, 1, none⟩) (by simp [World.drew]; omega)).trans a1; have d2 := (b2.cell (p := ⟨B, 2, none⟩) (by simp [World.drew]; omega)).trans a2
       have T2 := Three.below (Three.drew T1.out) b2 (by simp [World.drew])
       have HO2 := Lib.hid (o2.mono (show w.heap.size ≤ (w.alloc (.cells #[.slice none 0 0, .slice none 0 0, .slice none 0 0] 73)).drew.heap.size by simp [World.drew]))
       have HB2 := Lib.hid (((Below.refl w.heap.size w).alloc (Nat.le_refl _) (.cells #[.slice none 0 0, .slice none 0 0, .slice none 0 0] 73)).trans (below_undrew (b2.mono (by simp [World.drew])))))
    | (go_at_call 21; with_reducible refine hV2.out.mono ?_; rintro e w2 ⟨g, c', rfl, hc', o2, b2⟩
       have hs2 : w.heap.size ≤ w2.heap.size := b2.size
       have d0 := (b2.cell (p := ⟨B, 0, none⟩) hl).trans c0; have d1 := (b2.cell (p := ⟨B, 1, none⟩) hl).trans c1; have d2 := (b2.cell (p := ⟨B, 2, none⟩) hl).trans c2
       have HO2 := Lib.hid (o2.mono (show w.heap.size ≤ w.drew.heap.size from Nat.le_refl _))
       have HB2 := Lib.hid (show Below w.heap.size w w2 from below_undrew b2))
    | (go_at_call 38; with_reducible refine (hC.out _ _ hc' w2).mono ?_; rintro e w3 ⟨rfl, b3⟩
       have f0 := (b3.cell (p := ⟨B, 0, none⟩) (show B < w2.heap.size by omega)).trans d0; have f1 := (b3.cell (p := ⟨B, 1, none⟩) (show B < w2.heap.size by omega)).trans d1; have f2 := (b3.cell (p := ⟨B, 2, none⟩) (show B < w2.heap.size by omega)).trans d2
       have HO3 := Lib.hid (own_below HO2.out b3)
       have HB3 := Lib.hid (HB2.out.trans (b3.mono HB2.out.size))
       first
       | (have T3 := T2.below b3 T2.lt
          have t0 := T3.cell0; have t1 := T3.cell1; have t2 := T3.cell2; have g0 := T3.frozen 0; have g1 := T3.frozen 1; have g2 := T3.frozen 2
          have HT3 := Lib.hid T3
          have e0 := put_cell (P := w.heap.size) (by omega) f0
          have e1 := put_cell (P := w.heap.size) (by omega) f1
          have e2 := put_cell (P := w.heap.size) (by omega) f2)
       | (have hs3 : w2.heap.size ≤ w3.heap.size := b3.size
          have T4 := Three.new w3 73 (.slice none 0 0) (.slice none 0 0) (.slice none 0 0)
          have t0 := T4.cell0; have t1 := T4.cell1; have t2 := T4.cell2; have g0 := T4.frozen 0; have g1 := T4.frozen 1; have g2 := T4.frozen 2
          have e0 := put_cell (P := w3.heap.size) (by omega) (cell_new (.cells #[.slice none 0 0, .slice none 0 0, .slice none 0 0] 73) f0)
          have e1 := put_cell (P := w3.heap.size) (by omega) (cell_new (.cells #[.slice none 0 0, .slice none 0 0, .slice none 0 0] 73) f1)
          have e2 := put_cell (P := w3.heap.size) (by omega) (cell_new (.cells #[.slice none 0 0, .slice none 0 0, .slice none 0 0] 73) f2)))
    | (go_at_call 38; with_reducible refine (hC.out _ _ hc' (w2.alloc (.cells #[.slice none 0 0, .slice none 0 0, .slice none 0 0] 73))).mono ?_; rintro e w3 ⟨rfl, b3⟩
       have f0 := (b3.cell (p := ⟨B, 0, none⟩) (by simp; omega)).trans (cell_new (.cells #[.slice none 0 0, .slice none 0 0, .slice none 0 0] 73) d0); have f1 := (b3.cell (p := ⟨B, 1, none⟩) (by simp; omega)).trans (cell_new (.cells #[.slice none 0 0, .slice none 0 0, .slice none 0 0] 73) d1); have f2 := (b3.cell (p := ⟨B, 2, none⟩) (by simp; omega)).trans (cell_new (.cells #[.slice none 0 0, .slice none 0 0, .slice none 0 0] 73) d2)
       have HO3 := Lib.hid (own_below (World.ownsRow.alloc HO2.out (.cells #[.slice none 0 0, .slice none 0 0, .slice none 0 0] 73)) b3)
       have HB3 := Lib.hid ((HB2.out.alloc HB2.out.size (.cells #[.slice none 0 0, .slice none 0 0, .slice none 0 0] 73)).trans (b3.mono (by have := HB2.out.size; simp; omega)))
       have T3 := Three.below (Three.new w2 73 (.slice none 0 0) (.slice none 0 0) (.slice none 0 0)) b3 (by simp)
       have t0 := T3.cell0; have t1 := T3.cell1; have t2 := T3.cell2; have g0 := T3.frozen 0; have g1 := T3.frozen 1; have g2 := T3.frozen 2
       have HT3 := Lib.hid T3
       have e0 := put_cell (P := w2.heap.size) (by omega) f0
       have e1 := put_cell (P := w2.heap.size) (by omega) f1
       have e2 := put_cell (P := w2.heap.size) (by omega) f2)
    | fail)
  all_goals
    first
    | (have T4 := Lib.hid (HT3.out.put (.slice (some ⟨g, 0, none⟩) L L) (.slice (some ⟨g, L, none⟩) L L) (.slice (some ⟨g, L + L, none⟩) L L))
       have HO4 := Lib.hid (own_put3 HO3.out HT3.out (by decide) (.slice (some ⟨g, 0, none⟩) L L) (.slice (some ⟨g, L, none⟩) L L) (.slice (some ⟨g, L + L, none⟩) L L))
       have HB4 := Lib.hid (below_put3 HB3.out (P := w2.heap.size) HB2.out.size (.slice (some ⟨g, 0, none⟩) L L) (.slice (some ⟨g, L, none⟩) L L) (.slice (some ⟨g, L + L, none⟩) L L))
       have t0 := T4.out.cell0
       have tx : (((w3.setCell ⟨w2.heap.size, 0, none⟩ (.slice (some ⟨g, 0, none⟩) L L)).setCell ⟨w2.heap.size, 1, none⟩ (.slice (some ⟨g, L, none⟩) L L)).setCell ⟨w2.heap.size, 2, none⟩ (.slice (some ⟨g, L + L, none⟩) L L)).cell? ⟨w2.heap.size, 0, none⟩ = some (.slice (some ⟨g, 0, none⟩) L L) := t0
       clear tx)
    | (have T4 := Lib.hid (HT3.out.put (.slice (some ⟨g, 0, none⟩) L L) (.slice (some ⟨g, L, none⟩) L L) (.slice (some ⟨g, L + L, none⟩) L L))
       have HO4 := Lib.hid (own_put3 HO3.out HT3.out (by decide) (.slice (some ⟨g, 0, none⟩) L L) (.slice (some ⟨g, L, none⟩) L L) (.slice (some ⟨g, L + L, none⟩) L L))
       have HB4 := Lib.hid (below_put3 HB3.out (P := w.heap.size) (Nat.le_refl _) (.slice (some ⟨g, 0, none⟩) L L) (.slice (some ⟨g, L, none⟩) L L) (.slice (some ⟨g, L + L, none⟩) L L))
       have t0 := T4.out.cell0
       have tx : (((w3.setCell ⟨w.heap.size, 0, none⟩ (.slice (some ⟨g, 0, none⟩) L L)).setCell ⟨w.heap.size, 1, none⟩ (.slice (some ⟨g, L, none⟩) L L)).setCell ⟨w.heap.size, 2, none⟩ (.slice (some ⟨g, L + L, none⟩) L L)).cell? ⟨w.heap.size, 0, none⟩ = some (.slice (some ⟨g, 0, none⟩) L L) := t0
       clear tx)
    | (have T4 := Lib.hid (Three.new w3 73 (.slice (some ⟨g, 0, none⟩) L L) (.slice (some ⟨g, L, none⟩) L L) (.slice (some ⟨g, L + L, none⟩) L L))
       have HO4 := Lib.hid (World.ownsRow.alloc HO3.out (.cells #[.slice (some ⟨g, 0, none⟩) L L, .slice (some ⟨g, L, none⟩) L L, .slice (some ⟨g, L + L, none⟩) L L] 73))
       have HB4 := Lib.hid (HB3.out.alloc HB3.out.size (.cells #[.slice (some ⟨g, 0, none⟩) L L, .slice (some ⟨g, L, none⟩) L L, .slice (some ⟨g, L + L, none⟩) L L] 73)))
    try clear t0 t1 t2 g0 g1 g2 e0 e1 e2 HT3 T3
    try clear T2
    clear c0 c1 c2 d0 d1 d2 f0 f1 f2 hC hV1 hV2 a0 a1 a2 T1 HO3 HB3 HO2 HB2 o2 b2 b3
    have t0 := T4.out.cell0
    have t1 := T4.out.cell1
    have t2 := T4.out.cell2
    go_wp2_with fail
    go_quiet (fail)
    go_wp2_with fail
    go_ret3
    exact ⟨_, _, rfl, HO4.out, below_drewN HB4.out _⟩
end

/-! ### Received, Reset, Clone, Same. -/
section
open Go.RowKit Go.Shelf

set_option maxRecDepth 100000 in
theorem Received_buf {w : World} {B N c : Nat} {s : St} {A : Option Addr} (h : BufAt w B s A N c) :
    Calls Tryd.prog 23 #[.pointer (some ⟨B, 0, none⟩)] w fun e w' => e = .returned (.int .i64 (s.n : Int)) ∧ w' = w := by
  have hI := Lib.hid (isNone_buf h)
  have c4 := bufC.c4 h.blk
  clear h
  go_enter Tryd.func23, Tryd.ntmps23
  go_wp2_with (first | (go_at_call 36; refine hI.out.mono ?_; rintro e w' ⟨rfl, he⟩; obtain rfl := he.symm) | fail)
  go_ret
  exact ⟨rfl, rfl⟩
set_option maxRecDepth 100000 in
set_option maxHeartbeats 2000000 in
theorem Reset_buf {w : World} {B N c : Nat} {s : St} {A : Option Addr} (h : BufAt w B s A N c) :
    Calls Tryd.prog 20 #[.pointer (some ⟨B, 0, none⟩)] w (TurnB w B (newSt s.k s.f s.l, 0)) := by
  have hI := Lib.hid (isNone_buf h)
  have hV := Lib.hid (initial_any (k := s.k) (f := s.f) (l := (s.l : Int)) (w := w) h.ok.k0 h.ok.k1 h.ok.f1)
  have c0 := bufC.c0 h.blk
  have c1 := bufC.c1 h.blk
  have c2 := bufC.c2 h.blk
  have HA := Lib.hid h
  have hlen := Lib.hid (newV_length s.k s.f)
  rw [← h.len] at hlen
  clear h
  go_enter Tryd.func20, Tryd.ntmps20
  go_wp2_with fail
  refine wp_scope_forward 0 rfl ?_
  go_wp2_with (first | (go_at_call 36; refine hI.out.mono ?_; rintro e w' ⟨rfl, he⟩; obtain rfl := he.symm) | fail)
  refine hV.out.mono ?_
  rintro e w1 he
  obtain ⟨A1, n1, rfl, o1, b1⟩ := he.got hlen.out
  have h1 := HA.out.below b1
  have d3 := bufC.c3 h1.blk
  have d4 := bufC.c4 h1.blk
  have e3 := blk_frozen h1.blk 3
  have e4 := blk_frozen h1.blk 4
  have HO := Lib.hid o1
  have HB := Lib.hid b1
  clear he o1 b1 h1 c0 c1 c2 hV hI
  go_wp2_with fail
  refine jump_ret ?_
  go_ret
  obtain ⟨q1, q2⟩ := BufAt.put (s' := newSt s.k s.f s.l) (n := 0) HA.out HB.out HO.out HA.out.len (newSt_ok HA.out.ok.k0 HA.out.ok.k1 HA.out.ok.f1 HA.out.ok.l1) ⟨rfl, rfl, rfl⟩ rfl
  exact ⟨_, _, _, rfl, q1, q2⟩
set_option maxRecDepth 100000 in
set_option maxHeartbeats 4000000 in
theorem Clone_buf {w : World} {B N c : Nat} {s : St} {A : Option Addr} (h : BufAt w B s A N c) :
    Calls Tryd.prog 15 #[.pointer (some ⟨B, 0, none⟩)] w fun e w' => ∃ v, e = .returned v ∧ RetB w s v w' := by
  have hI := Lib.hid (isNone_buf h)
  have hV := Lib.hid (fun (u : World) (hb : Below w.heap.size w u) => Values_buf (h.below hb))
  have hfin := Lib.hid (fun (w2 : World) (A : Option Addr) (N c : Nat) (hO : w2.ownsRow w.heap.size 3 1 (.slice A N c) N (s.V.map (Value.int .i64))) (hN : N = 3 * (s.k + 4)) (hb : Below w.heap.size w w2) => RetB.box (s := s) hO hN hb h.ok (Nat.lt_of_lt_of_le h.low (Nat.le_of_lt h.lt)))
  have c0 := bufC.c0 h.blk
  have c1 := bufC.c1 h.blk
  have c2 := bufC.c2 h.blk
  have c4 := bufC.c4 h.blk
  have hl := h.lt
  have hN := Lib.hid h.len
  clear h
  go_enter Tryd.func15, Tryd.ntmps15
  go_wp2_with (first | (go_at_call 36; refine hI.out.mono ?_; rintro e w' ⟨rfl, he⟩; obtain rfl := he.symm) | fail)
  clear hI
  go_region_held3 (fun w' => w'.cell? ⟨B, 0, none⟩ = some (.int .i64 (s.k : Int)) ∧ w'.cell? ⟨B, 1, none⟩ = some (.int .i64 (s.f : Int)) ∧ w'.cell? ⟨B, 2, none⟩ = some (.int .i64 (s.l : Int)) ∧ w'.cell? ⟨B, 4, none⟩ = some (.int .i64 (s.n : Int))) (first | go_keep) (first
    | (go_at_call 21; refine (hV.out _ (Below.refl _ w).drew).mono ?_; rintro e w2 ⟨g, c', rfl, hc', o2, b2⟩; have d0 := (b2.cell (p := ⟨B, 0, none⟩) hl).trans c0; have d1 := (b2.cell (p := ⟨B, 1, none⟩) hl).trans c1; have d2 := (b2.cell (p := ⟨B, 2, none⟩) hl).trans c2; have d4 := (b2.cell (p := ⟨B, 4, none⟩) hl).trans c4)
    | fail)
  have HO := Lib.hid o2
  have HB := Lib.hid (below_undrew b2)
  clear hV c0 c1 c2 c4 d0 d1 d2 d4 o2 b2 hc'
  go_wp2_with fail
  go_ret
  exact ⟨_, rfl, hfin.out _ _ _ _ HO.out hN.out HB.out⟩
end
end Go.Proofs.YtoegamlpgenfcaaDoor
