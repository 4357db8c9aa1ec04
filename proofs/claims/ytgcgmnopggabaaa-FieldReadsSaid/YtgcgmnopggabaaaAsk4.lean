/-
  The law's ask: GetAll; whole.
-/
import Derived.Test.YtgcgmnopggabaaaAsk3
namespace Go.Proofs.Ytgcgmnopggabaaa
open Go.RowKit

set_option maxRecDepth 100000 in
set_option maxHeartbeats 2000000 in
theorem ask_all {w : World} {B : Nat} {A8 A : Option Addr} {n c8 m c p N : Nat} {xs : List Int} {s : AskRow} (h : Both w B A8 n c8 A m c xs p) (hg : s.Good w N) (hN : N ≤ B) (h20 : s.ln ≤ 20) (h0 : s.what = 2) :
    Calls Try.prog 18 #[.pointer (some ⟨B, 0, none⟩), rrV A m c p, .agg #[.int .i64 s.what, .int .i64 s.num, .slice s.la s.ln s.lc]] w (AskR w B A8 n c8 A m c xs (gaPos n p s.xs)) := by
  obtain ⟨what, num, la, ln, lc, ys⟩ := s
  simp only at h0 h20 ⊢
  subst h0
  unfold rrV
  have hBw := h.rdr.blk.lt
  obtain ⟨w1, hw1⟩ : ∃ W, W = ((w.alloc (.cells #[.slice A m c, .int .i64 p] 45)).alloc (.cells #[.int .i64 2, .int .i64 num, .slice la ln lc] 49)).alloc (.cells #[.slice none 0 0, .int .i64 0] 45) := ⟨_, rfl⟩
  have hAB : AB w.heap.size w1 A m c p #[.int .i64 2, .int .i64 num, .slice la ln lc] := by rw [hw1]; exact AB.new w A m c p _
  have hb1 : Below w.heap.size w w1 := by rw [hw1]; exact (below2 w _ _).alloc (by simp; omega) _
  have HAB := Lib.hid hAB
  have HB1 := Lib.hid hb1
  have H1 := Lib.hid (h.below hb1)
  have HG := Lib.hid hg
  have x0 := blk_cell hAB.x (j := 0) rfl
  have x1 := blk_cell hAB.x (j := 1) rfl
  have x2 := blk_cell hAB.x (j := 2) rfl
  have hNw : Hid (N ≤ w.heap.size) := Lib.hid (by omega)
  have h8 := Lib.hid h.rdr.low
  have hAl := Lib.hid (fun hm => h.ref.low hm)
  have hws : Rd .i64 w1 w1.heap.size la ln ys := (hg.ints.more (Nat.le_trans hN (Nat.le_of_lt hBw))).step hb1
  have hwa : 0 < ln → ∀ a, la = some a → a.block ≠ B := fun hp a ha => by
    obtain ⟨b, off, e, hb', _⟩ := hg.ints.cells 0 hp
    simp only at e
    rw [ha] at e
    injection e with e
    subst e
    simp; omega
  have HWa := Lib.hid hwa
  have HWs := Lib.hid hws
  have hG := Lib.hid (getAll_any (c1 := lc) (h.below hb1).rdr hws (Nat.le_refl _) (by omega) hwa)
  clear hwa hws
  have HGW := Lib.hid hw1
  subst hw1
  clear hAB hb1 h hg
  go_enter Try.func18, Try.ntmps18
  go_wp2_with fail
  generalize ((w.alloc (.cells #[.slice A m c, .int .i64 p] 45)).alloc (.cells #[.int .i64 2, .int .i64 num, .slice la ln lc] 49)).alloc (.cells #[.slice none 0 0, .int .i64 0] 45) = w1 at *
  clear x0 x1 x2
  refine hG.out.mono ?_
  rintro e w2 ⟨Ab, cb, q, rfl, hob1, hR2, rfl, hS2⟩
  have hAB2 := HAB.out.save hS2 (fun i h1 _ => by omega)
  have x2 := blk_cell hAB2.x (j := 2) rfl
  have q0 := hAB2.t0.cell0
  have q1 := hAB2.t0.cell1
  have hRf := Lib.hid (rgetAll_any (c1 := lc) (H1.out.ref.save hS2 H1.out.apart) H1.out.len ((HWs.out.save0 hS2 (Nat.le_refl _) HWa.out).more hS2.size) (by omega))
  unfold rrV RgaR rrV at hRf
  have H2 := Lib.hid (H1.out.move hR2 hS2)
  have HS2 := Lib.hid hS2
  have HAB2 := Lib.hid hAB2
  have HO1 := Lib.hid hob1
  have hln : Hid ((gaL xs n p ys).length ≤ 20) := Lib.hid (by
    have h1 := HWs.out.len
    unfold gaL
    split
    · rw [gaV_len]; omega
    · simp)
  clear hR2 hS2 hAB2 hob1
  go_wp2_with fail
  refine hRf.out.mono ?_
  rintro e w3 ⟨Ac, cc, rfl, hoc, hb3⟩
  have H3 := Lib.hid (H2.out.below hb3)
  have HAB3 := Lib.hid (HAB2.out.step hb3)
  have HB3 := Lib.hid hb3
  have HRb := Lib.hid ((Rd.of_own HO1.out).step hb3)
  have HRc := Lib.hid (Rd.of_own hoc)
  have hlb := Lib.hid (fun a (ha : Ab = some a) => (HO1.out.lt a.block (by rw [ha]; rfl)).1)
  have hlc := Lib.hid (fun a (ha : Ac = some a) => (hoc.lt a.block (by rw [ha]; rfl)).1)
  have hw12 := Lib.hid HS2.out.size
  have hw1s := Lib.hid HAB.out.low
  clear hb3 x2 q0 q1 hoc
  generalize gaE n p ys = er at *
  generalize gaPos n p ys = pp at *
  generalize gaL xs n p ys = l at *
  go_wp2_with fail
  have hRbW := HRb.out.step ((Below.refl _ w3).alloc (Nat.le_refl _) (.cells #[.slice A m c, .int .i64 pp] 45))
  have hRcW := HRc.out.step ((Below.refl _ w3).alloc (Nat.le_refl _) (.cells #[.slice A m c, .int .i64 pp] 45))
  have hob := Two.new w3 45 (.slice A m c) (.int .i64 pp)
  have hbA : Below w3.heap.size w3 (w3.alloc (.cells #[.slice A m c, .int .i64 pp] 45)) := (Below.refl _ w3).alloc (Nat.le_refl _) _
  have H4 := Lib.hid (H3.out.below hbA)
  have hAB4 := HAB3.out.step hbA
  have HB4 := Lib.hid (HB3.out.trans (hbA.mono HB3.out.size))
  have o0 := hob.cell0
  have o1 := hob.cell1
  have ho : w.heap.size + 3 ≤ w3.heap.size := HAB3.out.low
  clear hob hbA
  generalize w3.alloc (.cells #[.slice A m c, .int .i64 pp] 45) = W at *
  generalize w3.heap.size = ob at *
  have r0 : W.cell? ⟨w.heap.size + 1 + 1, 0, none⟩ = some (.slice none 0 0) := hAB4.t2.cell0
  have r1 : W.cell? ⟨w.heap.size + 1 + 1, 1, none⟩ = some (.int .i64 0) := hAB4.t2.cell1
  have rf0 : W.frozen? ⟨w.heap.size + 1 + 1, 0, none⟩ = false := hAB4.t2.frozen 0
  have rf1 : W.frozen? ⟨w.heap.size + 1 + 1, 1, none⟩ = false := hAB4.t2.frozen 1
  have hne : w.heap.size + 1 + 1 ≠ ob := by omega
  have hne2 : ob ≠ w.heap.size + 1 + 1 := by omega
  have HAB4 := Lib.hid hAB4
  clear hAB4
  have hSm : Hid (∀ w', Save (· = w.heap.size + 1 + 1) W w' → Calls Try.prog 43 #[.slice Ab l.length cb, .slice Ac l.length cc] w' fun e w'' => e = .returned (.bool true) ∧ ∃ i, w'' = w'.drewN i) := Lib.hid (fun w' hs => ints_true (hRbW.saved hs (fun a ha e => by have := hlb.out a ha; have := hw1s.out; omega)) (hRcW.saved hs (fun a ha e => by have := hlc.out a ha; have := hw12.out; have := hw1s.out; omega)) (by have := hln.out; omega))
  have hSa : Hid (Save (· = w.heap.size + 1 + 1) W W.drew) := Lib.hid ((Save.refl _ W).drew)
  have hSb : Hid (Save (· = w.heap.size + 1 + 1) W ((W.setCell ⟨w.heap.size + 1 + 1, 0, none⟩ (.slice A m c)).setCell ⟨w.heap.size + 1 + 1, 1, none⟩ (.int .i64 pp))) := Lib.hid (save_sets (Save.refl _ W) _ _)
  have hSc : Hid (Save (· = w.heap.size + 1 + 1) W ((W.setCell ⟨w.heap.size + 1 + 1, 0, none⟩ (.slice A m c)).setCell ⟨w.heap.size + 1 + 1, 1, none⟩ (.int .i64 pp)).drew) := Lib.hid (hSb.out.drew)
  clear hRbW hRcW
  go_region_held3 (fun w' => w'.cell? ⟨ob, 0, none⟩ = some (.slice A m c) ∧ w'.cell? ⟨ob, 1, none⟩ = some (.int .i64 pp))
    (first | go_keep | exact ⟨o0, o1⟩)
    (first
      | (go_at_call 21; refine (num_any _ _).mono ?_; rintro e w5 ⟨rfl, rfl⟩)
      | (go_at_call 43; refine (hSm.out W (Save.refl _ W)).mono ?_; rintro e w5 ⟨rfl, di, rfl⟩)
      | (go_at_call 43; refine (hSm.out W.drew hSa.out).mono ?_; rintro e w5 ⟨rfl, di, rfl⟩)
      | (go_at_call 43; refine (hSm.out ((W.setCell ⟨w.heap.size + 1 + 1, 0, none⟩ (.slice A m c)).setCell ⟨w.heap.size + 1 + 1, 1, none⟩ (.int .i64 pp)) hSb.out).mono ?_; rintro e w5 ⟨rfl, di, rfl⟩)
      | (go_at_call 43; refine (hSm.out ((W.setCell ⟨w.heap.size + 1 + 1, 0, none⟩ (.slice A m c)).setCell ⟨w.heap.size + 1 + 1, 1, none⟩ (.int .i64 pp)).drew hSc.out).mono ?_; rintro e w5 ⟨rfl, di, rfl⟩))
  go_wp2_with fail
  have hdN : Save (fun _ => False) W (W.drewN (1 + di)) := (Save.refl _ W).drewN _
  have hF := ask_fin (x := (pp : Int)) hBw h8.out hAl.out HB1.out HS2.out (below_drewN HB4.out (1 + di)) (H4.out.save hdN (fun h => h) (fun _ _ h => h) (fun _ _ _ h => h)) (HAB4.out.save hdN (fun _ _ _ h => h)) rfl rfl
  refine bodyPost_ret (ask_results rfl rfl hF.1) rfl ?_
  exact hF.2

/-- The position after a call. -/
def askP (n p : Nat) (xs : List Int) (s : AskRow) : Nat := if s.what = 0 then getP n p s.num else if s.what = 1 then gbP n p s.num else if s.what = 2 then gaPos n p s.xs else alignP xs n p
theorem ask_any {w : World} {B : Nat} {A8 A : Option Addr} {n c8 m c p N : Nat} {xs : List Int} {s : AskRow} (h : Both w B A8 n c8 A m c xs p) (hg : s.Good w N) (hN : N ≤ B) (h20 : s.ln ≤ 20) :
    Calls Try.prog 18 #[.pointer (some ⟨B, 0, none⟩), rrV A m c p, .agg #[.int .i64 s.what, .int .i64 s.num, .slice s.la s.ln s.lc]] w (AskR w B A8 n c8 A m c xs (askP n p xs s)) := by
  by_cases h0 : s.what = 0
  · have e : askP n p xs s = getP n p s.num := by unfold askP; rw [if_pos h0]
    rw [e]; exact ask_get h hg hN h20 h0
  · by_cases h1 : s.what = 1
    · have e : askP n p xs s = gbP n p s.num := by unfold askP; rw [if_neg h0, if_pos h1]
      rw [e]; exact ask_bytes h hg hN h20 h1
    · by_cases h2 : s.what = 2
      · have e : askP n p xs s = gaPos n p s.xs := by unfold askP; rw [if_neg h0, if_neg h1, if_pos h2]
        rw [e]; exact ask_all h hg hN h20 h2
      · have e : askP n p xs s = alignP xs n p := by unfold askP; rw [if_neg h0, if_neg h1, if_neg h2]
        rw [e]; exact ask_align h hg hN h20 ⟨h0, h1, h2⟩
end Go.Proofs.Ytgcgmnopggabaaa
