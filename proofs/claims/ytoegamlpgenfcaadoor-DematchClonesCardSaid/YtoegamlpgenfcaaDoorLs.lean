/-
  The law's is: a buffer is in the state of its reference.
-/
import Derived.Test.YtoegamlpgenfcaaDoorLa3
namespace Go.Proofs.YtoegamlpgenfcaaDoor
open Go.RowKit Go.Shelf

theorem Rd.mid {q : IntKind} {w : World} {B g N lo m : Nat} {xs : List Int} (h : Rd q w B (some ⟨g, 0, none⟩) N xs) (hm : lo + m ≤ N) : Rd q w B (some ⟨g, lo, none⟩) m ((xs.drop lo).take m) := by
  refine ⟨by rw [List.length_take, List.length_drop, h.len]; omega, fun k hk => ?_⟩
  obtain ⟨b, off, e, hb, hcell⟩ := h.cells (lo + k) (by omega)
  injection e with e
  injection e with e1 e2
  subst e1 e2
  refine ⟨g, lo, rfl, hb, ?_⟩
  rw [Nat.zero_add] at hcell
  rw [hcell, List.getElem?_take, if_pos hk, List.getElem?_drop]
theorem slice_mid {g N c a m b : Nat} (hab : a + m = b) (hb : b ≤ c) (hm : 0 < m) (u : World) : (Instr.slice 28 (.slice (some ⟨g, 0, none⟩) N c) (some (.int .i64 (a : Int))) (some (.int .i64 (b : Int))) none).run Tryd.prog u = .ok (.slice (some ⟨g, a, none⟩) m (c - a)) u := by
  have e : b - a = m := by omega
  have h1 : a ≤ b := by omega
  have h2 : ¬ c = a := by omega
  by_cases e0 : a = 0
  · subst e0
    obtain rfl : m = b := by omega
    simp [Instr.slice, Instr.sliceBounds, Instr.sliceBound, run_underlying Tryd.underlying28, asIntOf, go_sem, hb, Addr.add]
  · simp [Instr.slice, Instr.sliceBounds, Instr.sliceBound, run_underlying Tryd.underlying28, asIntOf, go_sem, h1, hb, h2, Addr.add, e0, e]
theorem slice_end {g N c a m : Nat} (ha : a + m = N) (hc : N ≤ c) (hm : 0 < m) (u : World) : (Instr.slice 28 (.slice (some ⟨g, 0, none⟩) N c) (some (.int .i64 (a : Int))) none none).run Tryd.prog u = .ok (.slice (some ⟨g, a, none⟩) m (c - a)) u := by
  obtain ⟨A', h1, h2⟩ := slice_rest (g := g) (f := a) (N := N) (c := c) (by omega) hc
  have e := h2 (by omega)
  subst e
  rw [h1, show N - a = m by omega]
theorem refEq_true {A A2 : Option Addr} {n c c2 B B2 : Nat} {xs : List Int} {w : World} (h : Rd .i64 w B A n xs) (h2 : Rd .i64 w B2 A2 n xs) (hn : n ≤ 1000000) :
    Calls Tryd.prog 34 #[.slice A n c, .slice A2 n c2] w fun e w' => e = .returned (.bool true) ∧ Below w.heap.size w w' := by
  refine (refEqual_any h h2 (by omega) (by omega)).mono ?_
  rintro e w' ⟨rfl, i, rfl⟩
  exact ⟨ret_bool (by simp), below_drewN (Below.refl _ _) i⟩
set_option maxRecDepth 100000 in
set_option maxHeartbeats 8000000 in
theorem is_any {w : World} {B N c N' c' : Nat} {s : St} {A A' : Option Addr} (hp : BufAt w B s A N c) (hr : RefAt w s A' N' c') :
    Calls Tryd.prog 14 #[.pointer (some ⟨B, 0, none⟩), refV s A' N' c'] w fun e w' => e = .returned (.bool true) ∧ Below w.heap.size w w' := by
  obtain rfl : N' = N := hr.len.trans hp.len.symm
  obtain ⟨g', rfl⟩ := hr.adr
  obtain ⟨L, hL⟩ : ∃ L, s.k + 4 = L := ⟨_, rfl⟩
  obtain ⟨L2, hL2⟩ : ∃ L2, L + L = L2 := ⟨_, rfl⟩
  have hk0 := hp.ok.k0
  have hk1 := hp.ok.k1
  have hNL : N' = 3 * L := by rw [← hL]; exact hp.len
  have hcap := hr.cap
  have e1 : (s.k : Int) + 4 = (L : Int) := by omega
  have e2 : 2 * (L : Int) = (L2 : Int) := by omega
  have i1 : (44 : Int) ≤ (L : Int) := by omega
  have i2 : (L : Int) ≤ 6148 := by omega
  have i3 : (L2 : Int) ≤ 12296 := by omega
  have i6 : IntKind.i64.wrap (L2 : Int) = (L2 : Int) := IntWalk.i64_in _ (by omega)
  have i4 : (s.k : Int) ≤ 6144 := by omega
  have i5 : (40 : Int) ≤ (s.k : Int) := by omega
  have s1 := fun (u : World) => slice_ints (A := some ⟨g', 0, none⟩) (n := N') (c := c') (m := L) (by omega) u
  have s2 := fun (u : World) => slice_mid (g := g') (N := N') (c := c') (a := L) (m := L) (b := L2) hL2 (by omega) (by omega) u
  have s3 := fun (u : World) => slice_end (g := g') (N := N') (c := c') (a := L2) (m := L) (by omega) hcap (by omega) u
  obtain ⟨w1, hw1⟩ : ∃ W, W = w.alloc (.cells (bufC s.k s.f s.l s.n (some ⟨g', 0, none⟩) N' c') 30) := ⟨_, rfl⟩
  have b1 : Below w.heap.size w w1 := by rw [hw1]; exact (Below.refl _ w).alloc (Nat.le_refl _) _
  have hX : w1.heap[w.heap.size]? = some (.cells (bufC s.k s.f s.l s.n (some ⟨g', 0, none⟩) N' c') 30) := by rw [hw1]; exact World.alloc_heap_new _ _
  have hSt := Lib.hid (Streams_buf (hp.below b1))
  have HP := Lib.hid (hp.below b1)
  have HR := Lib.hid (hr.below b1)
  have HW := Lib.hid hw1
  have HX := Lib.hid hX
  have HB := Lib.hid b1
  have hLL := Lib.hid hL2
  have hN3 := Lib.hid hNL
  rw [hL] at hSt
  clear hw1 hX b1 hp hr hL hcap hL2 hNL
  unfold refV bufC
  go_enter Tryd.func14, Tryd.ntmps14
  go_upto_region 1 with fail
  have hw1 := HW.out
  unfold bufC at hw1
  rw [← hw1]
  clear hw1 HW
  go_wp2_with fail
  refine hSt.out.mono ?_
  rintro e W ⟨gs, cs, rfl, os, bs⟩
  have hXs := blk_below HX.out bs
  have f0 := bufC.c0 hXs
  have f1 := bufC.c1 hXs
  have f2 := bufC.c2 hXs
  have f3 := bufC.c3 hXs
  have f4 := bufC.c4 hXs
  have hRs := Rd.of_own os
  have HXs := Lib.hid hXs
  have P1 := Lib.hid (HP.out.below bs)
  have R1 := Lib.hid (HR.out.below bs)
  have m1 := Lib.hid ((hRs.mid (lo := 0) (m := L) (by have := hN3.out; omega)))
  have m2 := Lib.hid ((hRs.mid (lo := L) (m := L) (by have := hN3.out; omega)))
  have m3 := Lib.hid ((hRs.mid (lo := L + L) (m := L) (by have := hN3.out; omega)))
  have n1 := Lib.hid ((R1.out.rd.mid (lo := 0) (m := L) (by have := hN3.out; omega)))
  have n2 := Lib.hid ((R1.out.rd.mid (lo := L) (m := L) (by have := hN3.out; omega)))
  have n3 := Lib.hid ((R1.out.rd.mid (lo := L2) (m := L) (by have := hN3.out; have := hLL.out; omega)))
  rw [hLL.out] at m3 ⊢
  have HB1 := Lib.hid (HB.out.trans (bs.mono HB.out.size))
  have hXlt := Lib.hid (blk_lt hXs)
  have hNm : N' ≤ 1000000 := by have := hN3.out; omega
  clear os hRs hXs hSt HX HP HR HB bs hk0 hk1
  go_wp2_with fail
  have F0 := Lib.hid f0
  have F1 := Lib.hid f1
  have F2 := Lib.hid f2
  have F3 := Lib.hid f3
  have F4 := Lib.hid f4
  have hbu : Below W.heap.size W W.drew := (Below.refl _ W).drew
  have hRv := Lib.hid (fun (u : World) (hb : Below W.heap.size W u) => Values_buf (P1.out.below hb))
  have hKn := Lib.hid (fun (u : World) (hb : Below W.heap.size W u) => Known_buf (P1.out.below hb))
  have hRk := Lib.hid (fun (u : World) (hb : Below W.heap.size W u) => refKnown_any (R1.out.below hb))
  have hRc := Lib.hid (fun (u : World) (hb : Below W.heap.size W u) => Received_buf (P1.out.below hb))
  unfold refV bufC at hRk
  go_region_held3 (fun w' => w'.cell? ⟨w.heap.size, 0, none⟩ = some (.int .i64 (s.k : Int)) ∧ w'.cell? ⟨w.heap.size, 1, none⟩ = some (.int .i64 (s.f : Int)) ∧ w'.cell? ⟨w.heap.size, 2, none⟩ = some (.int .i64 (s.l : Int)) ∧ w'.cell? ⟨w.heap.size, 3, none⟩ = some (.slice (some ⟨g', 0, none⟩) N' c') ∧ w'.cell? ⟨w.heap.size, 4, none⟩ = some (.int .i64 (s.n : Int))) (first | exact ⟨f0, f1, f2, f3, f4⟩ | go_keep | fail) (first
    | (go_at_call 21; refine (hRv.out _ hbu).mono ?_; rintro e v ⟨gv, cv, rfl, hcv, ov, bv⟩
       have hVv := Rd.of_own ov
       have hbu := hbu.trans (bv.mono hbu.size)
       have f0 := (hbu.cell (p := ⟨w.heap.size, 0, none⟩) hXlt.out).trans F0.out; have f1 := (hbu.cell (p := ⟨w.heap.size, 1, none⟩) hXlt.out).trans F1.out; have f2 := (hbu.cell (p := ⟨w.heap.size, 2, none⟩) hXlt.out).trans F2.out; have f3 := (hbu.cell (p := ⟨w.heap.size, 3, none⟩) hXlt.out).trans F3.out; have f4 := (hbu.cell (p := ⟨w.heap.size, 4, none⟩) hXlt.out).trans F4.out)
    | (go_at_call 34; with_reducible refine (refEq_true (hVv) ((R1.out.below hbu).rd) (by omega)).mono ?_; rintro e v ⟨rfl, bv⟩
       have hbu := hbu.trans (bv.mono hbu.size)
       have f0 := (hbu.cell (p := ⟨w.heap.size, 0, none⟩) hXlt.out).trans F0.out; have f1 := (hbu.cell (p := ⟨w.heap.size, 1, none⟩) hXlt.out).trans F1.out; have f2 := (hbu.cell (p := ⟨w.heap.size, 2, none⟩) hXlt.out).trans F2.out; have f3 := (hbu.cell (p := ⟨w.heap.size, 3, none⟩) hXlt.out).trans F3.out; have f4 := (hbu.cell (p := ⟨w.heap.size, 4, none⟩) hXlt.out).trans F4.out)
    | (go_at_call 34; with_reducible refine (refEq_true (m1.out.step hbu) (n1.out.step hbu) (by omega)).mono ?_; rintro e v ⟨rfl, bv⟩
       have hbu := hbu.trans (bv.mono hbu.size)
       have f0 := (hbu.cell (p := ⟨w.heap.size, 0, none⟩) hXlt.out).trans F0.out; have f1 := (hbu.cell (p := ⟨w.heap.size, 1, none⟩) hXlt.out).trans F1.out; have f2 := (hbu.cell (p := ⟨w.heap.size, 2, none⟩) hXlt.out).trans F2.out; have f3 := (hbu.cell (p := ⟨w.heap.size, 3, none⟩) hXlt.out).trans F3.out; have f4 := (hbu.cell (p := ⟨w.heap.size, 4, none⟩) hXlt.out).trans F4.out)
    | (go_at_call 34; with_reducible refine (refEq_true (m2.out.step hbu) (n2.out.step hbu) (by omega)).mono ?_; rintro e v ⟨rfl, bv⟩
       have hbu := hbu.trans (bv.mono hbu.size)
       have f0 := (hbu.cell (p := ⟨w.heap.size, 0, none⟩) hXlt.out).trans F0.out; have f1 := (hbu.cell (p := ⟨w.heap.size, 1, none⟩) hXlt.out).trans F1.out; have f2 := (hbu.cell (p := ⟨w.heap.size, 2, none⟩) hXlt.out).trans F2.out; have f3 := (hbu.cell (p := ⟨w.heap.size, 3, none⟩) hXlt.out).trans F3.out; have f4 := (hbu.cell (p := ⟨w.heap.size, 4, none⟩) hXlt.out).trans F4.out)
    | (go_at_call 34; with_reducible refine (refEq_true (m3.out.step hbu) (n3.out.step hbu) (by omega)).mono ?_; rintro e v ⟨rfl, bv⟩
       have hbu := hbu.trans (bv.mono hbu.size)
       have f0 := (hbu.cell (p := ⟨w.heap.size, 0, none⟩) hXlt.out).trans F0.out; have f1 := (hbu.cell (p := ⟨w.heap.size, 1, none⟩) hXlt.out).trans F1.out; have f2 := (hbu.cell (p := ⟨w.heap.size, 2, none⟩) hXlt.out).trans F2.out; have f3 := (hbu.cell (p := ⟨w.heap.size, 3, none⟩) hXlt.out).trans F3.out; have f4 := (hbu.cell (p := ⟨w.heap.size, 4, none⟩) hXlt.out).trans F4.out)
    | (go_at_call 22; refine (hKn.out _ hbu).mono ?_; rintro e v ⟨rfl, bv⟩
       have hbu := hbu.trans (bv.mono hbu.size)
       have f0 := (hbu.cell (p := ⟨w.heap.size, 0, none⟩) hXlt.out).trans F0.out; have f1 := (hbu.cell (p := ⟨w.heap.size, 1, none⟩) hXlt.out).trans F1.out; have f2 := (hbu.cell (p := ⟨w.heap.size, 2, none⟩) hXlt.out).trans F2.out; have f3 := (hbu.cell (p := ⟨w.heap.size, 3, none⟩) hXlt.out).trans F3.out; have f4 := (hbu.cell (p := ⟨w.heap.size, 4, none⟩) hXlt.out).trans F4.out)
    | (go_at_call 35; refine (hRk.out _ hbu).mono ?_; rintro e v ⟨rfl, bv⟩
       have hbu := hbu.trans (bv.mono hbu.size)
       have f0 := (hbu.cell (p := ⟨w.heap.size, 0, none⟩) hXlt.out).trans F0.out; have f1 := (hbu.cell (p := ⟨w.heap.size, 1, none⟩) hXlt.out).trans F1.out; have f2 := (hbu.cell (p := ⟨w.heap.size, 2, none⟩) hXlt.out).trans F2.out; have f3 := (hbu.cell (p := ⟨w.heap.size, 3, none⟩) hXlt.out).trans F3.out; have f4 := (hbu.cell (p := ⟨w.heap.size, 4, none⟩) hXlt.out).trans F4.out)
    | (go_at_call 23; refine (hRc.out _ hbu).mono ?_; rintro e v2 ⟨rfl, he⟩; obtain rfl := he.symm)
    | fail)
  have hfin := Lib.hid (HB1.out.trans (hbu.mono HB1.out.size))
  clear f0 f1 f2 f3 f4 F0 F1 F2 F3 F4 hRv hKn hRk hRc m1 m2 m3 n1 n2 n3 s1 s2 s3
  go_wp2_with fail
  go_ret
  exact ⟨rfl, hfin.out⟩
end Go.Proofs.YtoegamlpgenfcaaDoor
