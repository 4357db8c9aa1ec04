/-
  The law's ask: GetBytes, GetAll, Align.
-/
import Derived.Test.YtgcgmnopggabaaaAsk
namespace Go.Proofs.Ytgcgmnopggabaaa
open Go.RowKit

theorem gbL_byte {xs : List Int} {n p : Nat} {k : Int} (hn : xs.length = n) (hp : p ≤ 8 * n) : Byte (gbL xs n p k) := by
  unfold gbL
  split
  · rename_i h
    unfold gbE at h
    split at h
    · simp at h
    · split at h
      · simp at h
      · rw [← pack_chunk xs p k.toNat (by omega)]
        exact byte_packL ((bitsOf_bits xs).drop p |>.take _)
  · exact Byte.of_mem (fun x hx => by cases hx)
theorem drewN_two (w : World) (i j : Nat) : (w.drewN i).drewN j = w.drewN (i + j) := by simp [World.drewN, Nat.add_assoc]
/-- ints of two slices that read alike. -/
theorem ints_true {w : World} {A A' : Option Addr} {n c c' B B' : Nat} {xs : List Int} (h : Rd .u64 w B A n xs) (h' : Rd .u64 w B' A' n xs) (hn : n ≤ 1000000) :
    Calls Try.prog 43 #[.slice A n c, .slice A' n c'] w fun e w' => e = .returned (.bool true) ∧ ∃ i, w' = w.drewN i := by
  have hl := h.len
  go_enter Try.func43, Try.ntmps43
  go_wp2_with fail
  go_loopw [5] (fun i wr => ∃ k j : Nat, k ≤ n ∧ i = .int .i64 k ∧ wr = w.drewN j)
    (fun i _ => n - (intOf i).toNat)
  case atStart => exact ⟨0, 0, Nat.zero_le _, rfl, rfl⟩
  case round =>
    obtain ⟨k, j, hk, rfl, rfl⟩ := hrel
    by_cases hlt : k < n
    · obtain ⟨b, off, rfl, hb, hc⟩ := h.cells k hlt
      obtain ⟨b', off', rfl, hb', hc'⟩ := h'.cells k hlt
      generalize xs[k]?.getD 0 = v at *
      have hc2 : World.cell? (w.drewN j) ⟨b, off + k, none⟩ = some (.int .u64 v) := hc
      have hc2' : World.cell? (w.drewN j) ⟨b', off' + k, none⟩ = some (.int .u64 v) := hc'
      have hk0 : (0 : Int) ≤ (k : Int) := by omega
      have hk1 : (k : Int) < (n : Int) := by omega
      go_wp2_with fail
      go_quiet (fail)
      go_wp2_with fail
      go_roundw
      case rel => exact ⟨k + 1, _, by omega, by go_num, by first | rfl | exact drewN_two _ _ _⟩
      case measure => simp [intOf]; omega
    · obtain rfl : k = n := by omega
      clear hlt
      go_wp2_with fail
      go_ret
      exact ⟨rfl, j, rfl⟩
set_option maxRecDepth 100000 in
set_option maxHeartbeats 2000000 in
theorem ask_align {w : World} {B : Nat} {A8 A : Option Addr} {n c8 m c p N : Nat} {xs : List Int} {s : AskRow} (h : Both w B A8 n c8 A m c xs p) (hg : s.Good w N) (hN : N ≤ B) (h20 : s.ln ≤ 20) (h0 : s.what ≠ 0 ∧ s.what ≠ 1 ∧ s.what ≠ 2) :
    Calls Try.prog 18 #[.pointer (some ⟨B, 0, none⟩), rrV A m c p, .agg #[.int .i64 s.what, .int .i64 s.num, .slice s.la s.ln s.lc]] w (AskR w B A8 n c8 A m c xs (alignP xs n p)) := by
  obtain ⟨what, num, la, ln, lc, ys⟩ := s
  simp only at h0 h20 ⊢
  have t0 : (what == 0) = false := by simpa using h0.1
  have t1 : (what == 1) = false := by simpa using h0.2.1
  have t2 : (what == 2) = false := by simpa using h0.2.2
  clear h0
  unfold rrV
  have hBw := h.rdr.blk.lt
  obtain ⟨w1, hw1⟩ : ∃ W, W = ((w.alloc (.cells #[.slice A m c, .int .i64 p] 45)).alloc (.cells #[.int .i64 what, .int .i64 num, .slice la ln lc] 49)).alloc (.cells #[.slice none 0 0, .int .i64 0] 45) := ⟨_, rfl⟩
  have hAB : AB w.heap.size w1 A m c p #[.int .i64 what, .int .i64 num, .slice la ln lc] := by rw [hw1]; exact AB.new w A m c p _
  have hb1 : Below w.heap.size w w1 := by rw [hw1]; exact (below2 w _ _).alloc (by simp; omega) _
  have HAB := Lib.hid hAB
  have HB1 := Lib.hid hb1
  have H1 := Lib.hid (h.below hb1)
  have HG := Lib.hid hg
  have x0 := blk_cell hAB.x (j := 0) rfl
  have x1 := blk_cell hAB.x (j := 1) rfl
  have x2 := blk_cell hAB.x (j := 2) rfl
  have hNw : Hid (N ≤ w.heap.size) := Lib.hid (by omega)
  have h8 := Lib.hid h.rdr.low
  have hAl := Lib.hid (fun hm => h.ref.low hm)
  have hG := Lib.hid (align_any (h.below hb1).rdr)
  have HGW := Lib.hid hw1
  subst hw1
  clear hAB hb1 h hg
  go_enter Try.func18, Try.ntmps18
  go_wp2_with fail
  generalize ((w.alloc (.cells #[.slice A m c, .int .i64 p] 45)).alloc (.cells #[.int .i64 what, .int .i64 num, .slice la ln lc] 49)).alloc (.cells #[.slice none 0 0, .int .i64 0] 45) = w1 at *
  clear x0 x1 x2
  refine hG.out.mono ?_
  rintro e w2 ⟨rfl, hR2, hS2⟩
  have hAB2 := HAB.out.save hS2 (fun i h1 _ => by omega)
  have q0 := hAB2.t0.cell0
  have q1 := hAB2.t0.cell1
  have hRf := Lib.hid (ralign2_any (H1.out.ref.save hS2 H1.out.apart) H1.out.len)
  unfold rrV RalR rrV at hRf
  have H2 := Lib.hid (H1.out.move hR2 hS2)
  have HS2 := Lib.hid hS2
  have HAB2 := Lib.hid hAB2
  clear hR2 hS2 hAB2
  go_wp2_with fail
  refine hRf.out.mono ?_
  rintro e w3 ⟨rfl, hb3⟩
  have H3 := Lib.hid (H2.out.below hb3)
  have HAB3 := Lib.hid (HAB2.out.step hb3)
  have HB3 := Lib.hid hb3
  clear hb3 q0 q1
  generalize alignE xs n p = er at *
  generalize alignP xs n p = pp at *
  go_wp2_with fail
  have hob := Two.new w3 45 (.slice A m c) (.int .i64 pp)
  have hbA : Below w3.heap.size w3 (w3.alloc (.cells #[.slice A m c, .int .i64 pp] 45)) := (Below.refl _ w3).alloc (Nat.le_refl _) _
  have H4 := Lib.hid (H3.out.below hbA)
  have hAB4 := HAB3.out.step hbA
  have HB4 := Lib.hid (HB3.out.trans (hbA.mono HB3.out.size))
  have o0 := hob.cell0
  have o1 := hob.cell1
  have ho : w.heap.size + 3 ≤ w3.heap.size := HAB3.out.low
  clear hob hbA
  generalize w3.alloc (.cells #[.slice A m c, .int .i64 pp] 45) = W at *
  generalize w3.heap.size = ob at *
  have r0 : W.cell? ⟨w.heap.size + 1 + 1, 0, none⟩ = some (.slice none 0 0) := hAB4.t2.cell0
  have r1 : W.cell? ⟨w.heap.size + 1 + 1, 1, none⟩ = some (.int .i64 0) := hAB4.t2.cell1
  have rf0 : W.frozen? ⟨w.heap.size + 1 + 1, 0, none⟩ = false := hAB4.t2.frozen 0
  have rf1 : W.frozen? ⟨w.heap.size + 1 + 1, 1, none⟩ = false := hAB4.t2.frozen 1
  have hne : w.heap.size + 1 + 1 ≠ ob := by omega
  have hne2 : ob ≠ w.heap.size + 1 + 1 := by omega
  have HAB4 := Lib.hid hAB4
  clear hAB4
  go_region_held3 (fun w' => w'.cell? ⟨ob, 0, none⟩ = some (.slice A m c) ∧ w'.cell? ⟨ob, 1, none⟩ = some (.int .i64 pp))
    (first | go_keep)
    (first
      | (go_at_call 21; refine (num_any _ _).mono ?_; rintro e w5 ⟨rfl, rfl⟩))
  go_wp2_with fail
  have hF := ask_fin (x := (pp : Int)) hBw h8.out hAl.out HB1.out HS2.out HB4.out H4.out HAB4.out rfl rfl
  refine bodyPost_ret (ask_results rfl rfl (show Two (World.drew _) _ _ _ _ from hF.1)) rfl ?_
  exact hF.2.drew
end Go.Proofs.Ytgcgmnopggabaaa
