/-
  The law's ask: GetBytes.
-/
import Derived.Test.YtgcgmnopggabaaaAsk2
namespace Go.Proofs.Ytgcgmnopggabaaa
open Go.RowKit

set_option maxRecDepth 100000 in
set_option maxHeartbeats 2000000 in
theorem ask_bytes {w : World} {B : Nat} {A8 A : Option Addr} {n c8 m c p N : Nat} {xs : List Int} {s : AskRow} (h : Both w B A8 n c8 A m c xs p) (hg : s.Good w N) (hN : N ≤ B) (h20 : s.ln ≤ 20) (h0 : s.what = 1) :
    Calls Try.prog 18 #[.pointer (some ⟨B, 0, none⟩), rrV A m c p, .agg #[.int .i64 s.what, .int .i64 s.num, .slice s.la s.ln s.lc]] w (AskR w B A8 n c8 A m c xs (gbP n p s.num)) := by
  obtain ⟨what, num, la, ln, lc, ys⟩ := s
  simp only at h0 h20 ⊢
  subst h0
  unfold rrV
  have hBw := h.rdr.blk.lt
  obtain ⟨w1, hw1⟩ : ∃ W, W = ((w.alloc (.cells #[.slice A m c, .int .i64 p] 45)).alloc (.cells #[.int .i64 1, .int .i64 num, .slice la ln lc] 49)).alloc (.cells #[.slice none 0 0, .int .i64 0] 45) := ⟨_, rfl⟩
  have hAB : AB w.heap.size w1 A m c p #[.int .i64 1, .int .i64 num, .slice la ln lc] := by rw [hw1]; exact AB.new w A m c p _
  have hb1 : Below w.heap.size w w1 := by rw [hw1]; exact (below2 w _ _).alloc (by simp; omega) _
  have HAB := Lib.hid hAB
  have HB1 := Lib.hid hb1
  have H1 := Lib.hid (h.below hb1)
  have HG := Lib.hid hg
  have x0 := blk_cell hAB.x (j := 0) rfl
  have x1 := blk_cell hAB.x (j := 1) rfl
  have x2 := blk_cell hAB.x (j := 2) rfl
  have hNw : Hid (N ≤ w.heap.size) := Lib.hid (by omega)
  have h8 := Lib.hid h.rdr.low
  have hAl := Lib.hid (fun hm => h.ref.low hm)
  have hG := Lib.hid (getBytes_any (k := num) (h.below hb1).rdr (by have := hg.num.2; simpa using this))
  have hby := Lib.hid (gbL_byte (k := num) h.len h.rdr.pos)
  have HGW := Lib.hid hw1
  subst hw1
  clear hAB hb1 h hg
  go_enter Try.func18, Try.ntmps18
  go_wp2_with fail
  generalize ((w.alloc (.cells #[.slice A m c, .int .i64 p] 45)).alloc (.cells #[.int .i64 1, .int .i64 num, .slice la ln lc] 49)).alloc (.cells #[.slice none 0 0, .int .i64 0] 45) = w1 at *
  clear x0 x1 x2
  refine hG.out.mono ?_
  rintro e w2 ⟨Ab, cb, rfl, hob1, hR2, hS2⟩
  have hAB2 := HAB.out.save hS2 (fun i h1 _ => by omega)
  have x1 := blk_cell hAB2.x (j := 1) rfl
  have q0 := hAB2.t0.cell0
  have q1 := hAB2.t0.cell1
  have hRf := Lib.hid (rgetBytes_any (k := num) (H1.out.ref.save hS2 H1.out.apart) H1.out.len (by have := HG.out.num.2; simpa using this))
  unfold rrV RgbR rrV at hRf
  have H2 := Lib.hid (H1.out.move hR2 hS2)
  have HS2 := Lib.hid hS2
  have HAB2 := Lib.hid hAB2
  have HO1 := Lib.hid hob1
  clear hR2 hS2 hAB2 hob1
  go_wp2_with fail
  refine hRf.out.mono ?_
  rintro e w3 ⟨Ac, cc, rfl, hoc, hb3⟩
  have H3 := Lib.hid (H2.out.below hb3)
  have HAB3 := Lib.hid (HAB2.out.step hb3)
  have HB3 := Lib.hid hb3
  have HRb := Lib.hid ((Rd.of_own HO1.out).step hb3)
  have HRc := Lib.hid (Rd.of_own hoc)
  have hlb := Lib.hid (fun a (ha : Ab = some a) => (HO1.out.lt a.block (by rw [ha]; rfl)).1)
  have hlc := Lib.hid (fun a (ha : Ac = some a) => (hoc.lt a.block (by rw [ha]; rfl)).1)
  have hw12 := Lib.hid HS2.out.size
  have hw1s := Lib.hid HAB.out.low
  clear hb3 x1 q0 q1 hoc
  generalize gbE n p num = er at *
  generalize gbP n p num = pp at *
  generalize gbL xs n p num = l at *
  go_wp2_with fail
  have hRbW := HRb.out.step ((Below.refl _ w3).alloc (Nat.le_refl _) (.cells #[.slice A m c, .int .i64 pp] 45))
  have hRcW := HRc.out.step ((Below.refl _ w3).alloc (Nat.le_refl _) (.cells #[.slice A m c, .int .i64 pp] 45))
  have hob := Two.new w3 45 (.slice A m c) (.int .i64 pp)
  have hbA : Below w3.heap.size w3 (w3.alloc (.cells #[.slice A m c, .int .i64 pp] 45)) := (Below.refl _ w3).alloc (Nat.le_refl _) _
  have H4 := Lib.hid (H3.out.below hbA)
  have hAB4 := HAB3.out.step hbA
  have HB4 := Lib.hid (HB3.out.trans (hbA.mono HB3.out.size))
  have o0 := hob.cell0
  have o1 := hob.cell1
  have ho : w.heap.size + 3 ≤ w3.heap.size := HAB3.out.low
  clear hob hbA
  generalize w3.alloc (.cells #[.slice A m c, .int .i64 pp] 45) = W at *
  generalize w3.heap.size = ob at *
  have r0 : W.cell? ⟨w.heap.size + 1 + 1, 0, none⟩ = some (.slice none 0 0) := hAB4.t2.cell0
  have r1 : W.cell? ⟨w.heap.size + 1 + 1, 1, none⟩ = some (.int .i64 0) := hAB4.t2.cell1
  have rf0 : W.frozen? ⟨w.heap.size + 1 + 1, 0, none⟩ = false := hAB4.t2.frozen 0
  have rf1 : W.frozen? ⟨w.heap.size + 1 + 1, 1, none⟩ = false := hAB4.t2.frozen 1
  have hne : w.heap.size + 1 + 1 ≠ ob := by omega
  have hne2 : ob ≠ w.heap.size + 1 + 1 := by omega
  have HAB4 := Lib.hid hAB4
  clear hAB4
  have hSm : Hid (∀ w', Save (· = w.heap.size + 1 + 1) W w' → Calls Try.prog 13 #[.slice Ab l.length cb, .slice Ac l.length cc] w' fun e w'' => e = .returned (.bool true) ∧ w' = w'') := Lib.hid (fun w' hs => same_true (hRbW.saved hs (fun a ha e => by have := hlb.out a ha; have := hw1s.out; omega)) (hRcW.saved hs (fun a ha e => by have := hlc.out a ha; have := hw12.out; have := hw1s.out; omega)) hby.out)
  have hSa : Hid (Save (· = w.heap.size + 1 + 1) W W.drew) := Lib.hid ((Save.refl _ W).drew)
  have hSb : Hid (Save (· = w.heap.size + 1 + 1) W ((W.setCell ⟨w.heap.size + 1 + 1, 0, none⟩ (.slice A m c)).setCell ⟨w.heap.size + 1 + 1, 1, none⟩ (.int .i64 pp))) := Lib.hid (save_sets (Save.refl _ W) _ _)
  have hSc : Hid (Save (· = w.heap.size + 1 + 1) W ((W.setCell ⟨w.heap.size + 1 + 1, 0, none⟩ (.slice A m c)).setCell ⟨w.heap.size + 1 + 1, 1, none⟩ (.int .i64 pp)).drew) := Lib.hid (hSb.out.drew)
  clear hRbW hRcW
  go_region_held3 (fun w' => w'.cell? ⟨ob, 0, none⟩ = some (.slice A m c) ∧ w'.cell? ⟨ob, 1, none⟩ = some (.int .i64 pp))
    (first | go_keep)
    (first
      | (go_at_call 21; refine (num_any _ _).mono ?_; rintro e w5 ⟨rfl, rfl⟩)
      | (go_at_call 13; refine (hSm.out W (Save.refl _ W)).mono ?_; rintro e w5 ⟨rfl, rfl⟩)
      | (go_at_call 13; refine (hSm.out W.drew hSa.out).mono ?_; rintro e w5 ⟨rfl, rfl⟩)
      | (go_at_call 13; refine (hSm.out ((W.setCell ⟨w.heap.size + 1 + 1, 0, none⟩ (.slice A m c)).setCell ⟨w.heap.size + 1 + 1, 1, none⟩ (.int .i64 pp)) hSb.out).mono ?_; rintro e w5 ⟨rfl, rfl⟩)
      | (go_at_call 13; refine (hSm.out ((W.setCell ⟨w.heap.size + 1 + 1, 0, none⟩ (.slice A m c)).setCell ⟨w.heap.size + 1 + 1, 1, none⟩ (.int .i64 pp)).drew hSc.out).mono ?_; rintro e w5 ⟨rfl, rfl⟩))
  go_wp2_with fail
  have hF := ask_fin (x := (pp : Int)) hBw h8.out hAl.out HB1.out HS2.out HB4.out H4.out HAB4.out rfl rfl
  refine bodyPost_ret (ask_results rfl rfl (show Two (World.drew _) _ _ _ _ from hF.1)) rfl ?_
  exact hF.2.drew
end Go.Proofs.Ytgcgmnopggabaaa
