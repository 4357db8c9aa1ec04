/-
  The reference's reader: Align.
-/
import Derived.Test.YtgcgmnopggabaaaRr2
namespace Go.Proofs.Ytgcgmnopggabaaa
open Go.RowKit

theorem al_results {W : World} {tmps : Array Value} {b : Nat} {x y z : Value} (h2 : tmps.getD 2 undef = .pointer (some ⟨b, 0, none⟩)) (h3 : tmps.getD 3 undef = z) (hT : Two W b 45 x y) :
    (results Try.f44 tmps).run Try.prog W = .ok (.tuple #[.agg #[x, y], z]) W := by
  have c0 := hT.cell0
  have c1 := hT.cell1
  simp only [Array.getD_eq_getD_getElem?] at h2 h3
  simp [results, Try.results44, go_sem, h2, h3, c0, c1]
def RalR (w : World) (A : Option Addr) (m c q : Nat) (er : Int) (e : Ending) (w' : World) : Prop := e = .returned (.tuple #[rrV A m c q, .int .i64 er]) ∧ Below w.heap.size w w'
theorem RalR.mk_ {w w' : World} {A : Option Addr} {m c q : Nat} {er x y : Int} (hx : x = (q : Int)) (hy : y = er) (hb : Below w.heap.size w w') : RalR w A m c q er (.returned (.tuple #[.agg #[.slice A m c, .int .i64 x], .int .i64 y])) w' := by
  subst hx hy
  exact ⟨rfl, hb⟩
set_option maxRecDepth 100000 in
set_option maxHeartbeats 1000000 in
theorem ralign2_any {w : World} {A : Option Addr} {m c p n : Nat} {xs : List Int} (h : RrAt w A m c xs p) (hn : xs.length = n) :
    Calls Try.prog 44 #[rrV A m c p] w (RalR w A m c (alignP xs n p) (alignE xs n p)) := by
  have hsz : m ≤ 8000000 := by have := h.size; have := h.len; omega
  have hm8 : m % 8 = 0 := by have := h.len; omega
  have hpos := h.pos
  have hzero := Lib.hid (show alignE xs n p = 0 ↔ ∀ k, p ≤ k → k < p + padOf p → bitAt xs k = 0 by have := align_zero (xs := xs) (p := p) (by have := h.len; omega); rwa [hn] at this)
  have hvals := Lib.hid (alignE_vals xs n p)
  have hAP : Hid (alignP xs n p = if alignE xs n p = 0 then p + padOf p else p) := Lib.hid rfl
  have hpad : padOf p = (8 - p % 8) % 8 := rfl
  have hbits := Lib.hid (bitsOf_bits xs)
  have HL := Lib.hid h.len
  generalize padOf p = pd at *
  unfold rrV
  obtain ⟨w1, hw1⟩ : ∃ W, W = (w.alloc (.cells #[.slice A m c, .int .i64 p] 45)).alloc (.cells #[.slice none 0 0, .int .i64 0] 45) := ⟨_, rfl⟩
  have hTr : Two w1 (w.heap.size + 1) 45 (.slice none 0 0) (.int .i64 0) := by rw [hw1]; exact two_new1 w _ _ _ _
  have hTp : Two w1 w.heap.size 45 (.slice A m c) (.int .i64 p) := by rw [hw1]; exact (Two.new w _ _ _).alloc _
  have hB2 : Below w.heap.size w w1 := by rw [hw1]; exact below2 w _ _
  have hrd := h.rd.below' hB2 (Nat.le_refl _)
  have HTr := Lib.hid hTr
  have HTp := Lib.hid hTp
  have HB := Lib.hid hB2
  have HR := Lib.hid hrd
  have hG := Lib.hid hw1
  clear hTr hTp hB2 hrd h hn
  subst hw1
  go_enter Try.func44, Try.ntmps44
  go_wp2_with fail
  generalize (w.alloc (.cells #[.slice A m c, .int .i64 p] 45)).alloc (.cells #[.slice none 0 0, .int .i64 0] 45) = w1 at *
  have q0 := HTp.out.cell0
  have q1 := HTp.out.cell1
  have qf1 := HTp.out.frozen 1
  have r0 := HTr.out.cell0
  have r1 := HTr.out.cell1
  have rf0 := HTr.out.frozen 0
  have rf1 := HTr.out.frozen 1
  go_loopw [4] (fun i wr => ∃ j : Nat, j ≤ pd ∧ i = .int .i64 ((p : Int) + (j : Int)) ∧ wr = w1 ∧ Hid (∀ t, p ≤ t → t < p + j → bitAt xs t = 0))
    (fun i _ => pd + p - (intOf i).toNat)
  case atStart => exact ⟨0, Nat.zero_le _, by simp, rfl, Lib.hid (fun t h1 h2 => by omega)⟩
  case round =>
    obtain ⟨j, hj, rfl, rfl, hz⟩ := hrel
    have hm : ((p : Int) + (j : Int)).tmod 8 = ((p : Int) + (j : Int)) % 8 := IntWalk.rem_in _ _ (by omega)
    by_cases hlt : j < pd
    · have hd : decide (0 < ((p : Int) + (j : Int)) % 8) = true := by simp; omega
      obtain ⟨b, off, rfl, hb, hc⟩ := HR.out.cells (p + j) (by omega)
      have hbit : (bitsOf xs)[p + j]?.getD 0 = bitAt xs (p + j) := bitsOf_get xs (p + j) (by have := HL.out; omega)
      have hb01 := bits_nonneg hbits.out (p + j)
      rw [hbit] at hc hb01
      have hk0 : (0 : Int) ≤ (p : Int) + (j : Int) := by omega
      have hk1 : (p : Int) + (j : Int) < (m : Int) := by omega
      have hk2 : ((p : Int) + (j : Int)).toNat = p + j := by omega
      have hwr : IntKind.i64.wrap ((p : Int) + (j : Int) + 1) = (p : Int) + (j : Int) + 1 := IntWalk.i64_in _ (by omega)
      by_cases h1 : bitAt xs (p + j) = 1
      · rw [h1] at hc
        have hE : Hid (alignE xs n p = 9) := Lib.hid (by
          rcases hvals.out with h0 | h0
          · have := hzero.out.1 h0 (p + j) (by omega) (by omega); omega
          · exact h0)
        have hP : Hid (alignP xs n p = p) := Lib.hid (by rw [hAP.out, hE.out]; rfl)
        clear hbit hb01 h1
        go_wp2_with fail
        have hF := two_sets HTr.out (.slice (some ⟨b, off, none⟩) m c) (.int .i64 p)
        have hS := save_sets (Save.refl (· = w.heap.size + 1) wr) (.slice (some ⟨b, off, none⟩) m c) (.int .i64 p)
        refine bodyPost_ret (al_results rfl rfl hF) rfl ?_
        rw [hP.out, hE.out]
        exact RalR.mk_ rfl rfl (Below.save HB.out hS (fun i hi => by omega) (Nat.le_refl _))
      · have h0 : bitAt xs (p + j) = 0 := by omega
        rw [h0] at hc
        have hz2 : Hid (∀ t, p ≤ t → t < p + (j + 1) → bitAt xs t = 0) := Lib.hid (fun t h2 h3 => by
          by_cases ht : t = p + j
          · rw [ht]; exact h0
          · exact hz.out t h2 (by omega))
        clear hbit hb01 h1 h0
        go_wp2_with fail
        go_roundw
        case rel => exact ⟨j + 1, by omega, by congr 1, trivial, hz2⟩
        case measure => simp [intOf]; omega
    · obtain rfl : j = pd := by omega
      have hd : decide (0 < ((p : Int) + (j : Int)) % 8) = false := by simp; omega
      have hE : Hid (alignE xs n p = 0) := Lib.hid (hzero.out.2 hz.out)
      have hP : Hid (alignP xs n p = p + j) := Lib.hid (by rw [hAP.out, hE.out]; rfl)
      have hq1 : IntKind.i64.wrap ((p : Int) + 7) = (p : Int) + 7 := IntWalk.i64_in _ (by omega)
      have hq2 : ((p : Int) + 7).tdiv 8 = ((p : Int) + 7) / 8 := Int.tdiv_eq_ediv_of_nonneg (by omega)
      have hq3 : IntKind.i64.wrap (((p : Int) + 7) / 8) = ((p : Int) + 7) / 8 := IntWalk.i64_in _ (by omega)
      have hq4 : IntKind.i64.wrap (((p : Int) + 7) / 8 * 8) = ((p : Int) + 7) / 8 * 8 := IntWalk.i64_in _ (by omega)
      clear hlt
      go_wp2_with fail
      have hF := fin3 HTr.out (.int .i64 (((p : Int) + 7) / 8 * 8)) (.slice A m c) (.int .i64 (((p : Int) + 7) / 8 * 8))
      refine bodyPost_ret (al_results rfl rfl hF.1) rfl ?_
      rw [hP.out, hE.out]
      exact RalR.mk_ (by push_cast; omega) rfl (Below.save HB.out hF.2 (fun i hi => by omega) (Nat.le_refl _))
end Go.Proofs.Ytgcgmnopggabaaa
