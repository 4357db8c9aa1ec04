/-
  The law's ask: a call of the reader and of its reference.
-/
import Derived.Test.YtgcgmnopggabaaaRr4
import Derived.Test.YtgcgmnopggabaaaOpen
namespace Go.Proofs.Ytgcgmnopggabaaa
open Go.RowKit

/-- A reader and its reference. -/
structure Both (w : World) (B : Nat) (A8 : Option Addr) (n c8 : Nat) (A : Option Addr) (m c : Nat) (xs : List Int) (p : Nat) : Prop where
  rdr : RdrAt w B A8 n c8 xs p
  ref : RrAt w A m c xs p
  apart : 0 < m → ∀ a, A = some a → a.block ≠ B
  len : xs.length = n
theorem Both.below {w w' : World} {B : Nat} {A8 A : Option Addr} {n c8 m c p : Nat} {xs : List Int} (h : Both w B A8 n c8 A m c xs p) (hb : Below w.heap.size w w') : Both w' B A8 n c8 A m c xs p :=
  ⟨h.rdr.save (X := fun i => w.heap.size ≤ i) (Save.of_below hb) (by have := h.rdr.blk.lt; omega) (fun a ha => by have := h.rdr.low a ha; omega), h.ref.step hb, h.apart, h.len⟩
/-- The reader has moved; the reference is to follow. -/
theorem Both.move {w w' : World} {B : Nat} {A8 A : Option Addr} {n c8 m c p q : Nat} {xs : List Int} (h : Both w B A8 n c8 A m c xs p) (hr : RdrAt w' B A8 n c8 xs q) (hs : Save (· = B) w w') : Both w' B A8 n c8 A m c xs q :=
  ⟨hr, ⟨(h.ref.save hs h.apart).rd, h.ref.len, by have := hr.pos; have := h.ref.len; have := h.len; omega, h.ref.cap, h.ref.size⟩, h.apart, h.len⟩
/-- What ask returns. -/
def AskR (w : World) (B : Nat) (A8 : Option Addr) (n c8 : Nat) (A : Option Addr) (m c : Nat) (xs : List Int) (q : Nat) (e : Ending) (w' : World) : Prop :=
  e = .returned (.tuple #[rrV A m c q, .bool true]) ∧ Both w' B A8 n c8 A m c xs q ∧ Save (· = B) w w'
theorem ask_results {W : World} {tmps : Array Value} {b : Nat} {x y z : Value} (h6 : tmps.getD 6 undef = .pointer (some ⟨b, 0, none⟩)) (h7 : tmps.getD 7 undef = z) (hT : Two W b 45 x y) :
    (results Try.f18 tmps).run Try.prog W = .ok (.tuple #[.agg #[x, y], z]) W := by
  have c0 := hT.cell0
  have c1 := hT.cell1
  simp only [Array.getD_eq_getD_getElem?] at h6 h7
  simp [results, Try.results18, go_sem, h6, h7, c0, c1]

/-- The boxes of ask: the reference's reader, the call, the result. -/
structure AB (s : Nat) (W : World) (A : Option Addr) (m c p : Nat) (cs : Array Value) : Prop where
  t0 : Two W s 45 (.slice A m c) (.int .i64 p)
  x : W.heap[s + 1]? = some (.cells cs 49)
  t2 : Two W (s + 2) 45 (.slice none 0 0) (.int .i64 0)
  low : s + 3 ≤ W.heap.size
theorem AB.save {s : Nat} {W W' : World} {A : Option Addr} {m c p : Nat} {cs : Array Value} {X : Nat → Prop} (h : AB s W A m c p cs) (hs : Save X W W') (hX : ∀ i, s ≤ i → i < s + 3 → ¬ X i) : AB s W' A m c p cs :=
  ⟨h.t0.save hs (hX _ (by omega) (by omega)), hs.heap h.x (hX _ (by omega) (by omega)), h.t2.save hs (hX _ (by omega) (by omega)), Nat.le_trans h.low hs.size⟩
theorem AB.step {s : Nat} {W W' : World} {A : Option Addr} {m c p : Nat} {cs : Array Value} (h : AB s W A m c p cs) (hb : Below W.heap.size W W') : AB s W' A m c p cs :=
  h.save (X := fun i => W.heap.size ≤ i) (Save.of_below hb) (fun i _ hi => by have := h.low; omega)
theorem AB.new (w : World) (A : Option Addr) (m c p : Nat) (cs : Array Value) :
    AB w.heap.size (((w.alloc (.cells #[.slice A m c, .int .i64 p] 45)).alloc (.cells cs 49)).alloc (.cells #[.slice none 0 0, .int .i64 0] 45)) A m c p cs := by
  refine ⟨((Two.new w _ _ _).alloc _).alloc _, ?_, ?_, by simp⟩
  · have h1 := World.alloc_heap_new (w.alloc (.cells #[.slice A m c, .int .i64 p] 45)) (.cells cs 49)
    rw [show (w.alloc (.cells #[.slice A m c, .int .i64 p] 45)).heap.size = w.heap.size + 1 by simp] at h1
    rw [Below.heap_alloc _ _ _ (by simp)]
    exact h1
  · have := two_new1 (w.alloc (.cells #[.slice A m c, .int .i64 p] 45)) (.cells cs 49) 45 (.slice none 0 0) (.int .i64 0)
    rwa [show (w.alloc (.cells #[.slice A m c, .int .i64 p] 45)).heap.size + 1 = w.heap.size + 2 by simp] at this

theorem Both.save {w w' : World} {B : Nat} {A8 A : Option Addr} {n c8 m c p : Nat} {xs : List Int} {X : Nat → Prop} (h : Both w B A8 n c8 A m c xs p) (hs : Save X w w') (hB : ¬ X B) (hA8 : ∀ a, A8 = some a → ¬ X a.block) (hA : 0 < m → ∀ a, A = some a → ¬ X a.block) : Both w' B A8 n c8 A m c xs p :=
  ⟨h.rdr.save hs hB hA8, h.ref.save hs hA, h.apart, h.len⟩
theorem AskR.drew {w w' : World} {B : Nat} {A8 A : Option Addr} {n c8 m c q : Nat} {xs : List Int} {e : Ending} (h : AskR w B A8 n c8 A m c xs q e w') : AskR w B A8 n c8 A m c xs q e w'.drew :=
  ⟨h.1, h.2.1.save (X := fun _ => False) ((Save.refl _ w').drew) (fun h => h) (fun _ _ h => h) (fun _ _ _ h => h), h.2.2.drew⟩
/-- The end of ask: the result's box is filled. -/
theorem ask_fin {w w1 w2 W : World} {B : Nat} {A8 A : Option Addr} {n c8 m c p q : Nat} {xs : List Int} {cs : Array Value} {x : Int} {b : Bool} (hB : B < w.heap.size) (h8 : ∀ a, A8 = some a → a.block < w.heap.size) (hA : 0 < m → ∀ a, A = some a → a.block < w.heap.size)
    (hb1 : Below w.heap.size w w1) (hs2 : Save (· = B) w1 w2) (hb4 : Below w2.heap.size w2 W) (h4 : Both W B A8 n c8 A m c xs q) (hab : AB w.heap.size W A m c p cs) (hx : x = (q : Int)) (hb : b = true) :
    Two ((W.setCell ⟨w.heap.size + 1 + 1, 0, none⟩ (.slice A m c)).setCell ⟨w.heap.size + 1 + 1, 1, none⟩ (.int .i64 x)) (w.heap.size + 1 + 1) 45 (.slice A m c) (.int .i64 x) ∧
    AskR w B A8 n c8 A m c xs q (.returned (.tuple #[.agg #[.slice A m c, .int .i64 x], .bool b])) ((W.setCell ⟨w.heap.size + 1 + 1, 0, none⟩ (.slice A m c)).setCell ⟨w.heap.size + 1 + 1, 1, none⟩ (.int .i64 x)) := by
  subst hx hb
  have hS := save_sets (Save.refl (· = w.heap.size + 1 + 1) W) (.slice A m c) (.int .i64 (q : Int))
  have hs1 : Save (· = B) w w2 := (Save.of_below hb1).trans hs2
  have hs4 : Save (· = B) w W := hs1.trans' (Save.of_below (X := fun i => w2.heap.size ≤ i) hb4) (fun i h1 h2 => by have := hb1.size; have := hs2.size; omega)
  exact ⟨two_sets hab.t2 _ _, rfl, h4.save hS (by omega) (fun a ha e => by have := h8 a ha; omega) (fun hm a ha e => by have := hA hm a ha; omega), hs4.trans' hS (fun i h1 h2 => by omega)⟩
set_option maxRecDepth 100000 in
set_option maxHeartbeats 2000000 in
theorem ask_get {w : World} {B : Nat} {A8 A : Option Addr} {n c8 m c p N : Nat} {xs : List Int} {s : AskRow} (h : Both w B A8 n c8 A m c xs p) (hg : s.Good w N) (hN : N ≤ B) (h20 : s.ln ≤ 20) (h0 : s.what = 0) :
    Calls Try.prog 18 #[.pointer (some ⟨B, 0, none⟩), rrV A m c p, .agg #[.int .i64 s.what, .int .i64 s.num, .slice s.la s.ln s.lc]] w (AskR w B A8 n c8 A m c xs (getP n p s.num)) := by
  obtain ⟨what, num, la, ln, lc, ys⟩ := s
  simp only at h0 h20 ⊢
  subst h0
  unfold rrV
  have hBw := h.rdr.blk.lt
  obtain ⟨w1, hw1⟩ : ∃ W, W = ((w.alloc (.cells #[.slice A m c, .int .i64 p] 45)).alloc (.cells #[.int .i64 0, .int .i64 num, .slice la ln lc] 49)).alloc (.cells #[.slice none 0 0, .int .i64 0] 45) := ⟨_, rfl⟩
  have hAB : AB w.heap.size w1 A m c p #[.int .i64 0, .int .i64 num, .slice la ln lc] := by rw [hw1]; exact AB.new w A m c p _
  have hb1 : Below w.heap.size w w1 := by rw [hw1]; exact (below2 w _ _).alloc (by simp; omega) _
  have HAB := Lib.hid hAB
  have HB1 := Lib.hid hb1
  have H1 := Lib.hid (h.below hb1)
  have HG := Lib.hid hg
  have x0 := blk_cell hAB.x (j := 0) rfl
  have x1 := blk_cell hAB.x (j := 1) rfl
  have x2 := blk_cell hAB.x (j := 2) rfl
  have hNw : Hid (N ≤ w.heap.size) := Lib.hid (by omega)
  have h8 := Lib.hid h.rdr.low
  have hAl := Lib.hid (fun hm => h.ref.low hm)
  have hG := Lib.hid (get_any (wd := num) (h.below hb1).rdr)
  unfold GetR at hG
  have HGW := Lib.hid hw1
  subst hw1
  clear hAB hb1 h hg
  go_enter Try.func18, Try.ntmps18
  go_wp2_with fail
  generalize ((w.alloc (.cells #[.slice A m c, .int .i64 p] 45)).alloc (.cells #[.int .i64 0, .int .i64 num, .slice la ln lc] 49)).alloc (.cells #[.slice none 0 0, .int .i64 0] 45) = w1 at *
  clear x0 x1 x2
  refine hG.out.mono ?_
  rintro e w2 ⟨rfl, hR2, hS2⟩
  have hAB2 := HAB.out.save hS2 (fun i h1 _ => by omega)
  have x1 := blk_cell hAB2.x (j := 1) rfl
  have q0 := hAB2.t0.cell0
  have q1 := hAB2.t0.cell1
  have hRf := Lib.hid (rget_any (wd := num) (H1.out.ref.save hS2 H1.out.apart) H1.out.len)
  unfold rrV at hRf
  have H2 := Lib.hid (H1.out.move hR2 hS2)
  have HS2 := Lib.hid hS2
  have HAB2 := Lib.hid hAB2
  clear hR2 hS2 hAB2
  go_wp2_with fail
  refine hRf.out.mono ?_
  rintro e w3 ⟨rfl, hb3⟩
  have H3 := Lib.hid (H2.out.below hb3)
  have HAB3 := Lib.hid (HAB2.out.step hb3)
  have HB3 := Lib.hid hb3
  clear hb3 x1 q0 q1
  generalize getE n p num = er at *
  generalize getV xs n p num = vv at *
  generalize getP n p num = pp at *
  go_wp2_with fail
  have hob := Two.new w3 45 (.slice A m c) (.int .i64 pp)
  have hbA : Below w3.heap.size w3 (w3.alloc (.cells #[.slice A m c, .int .i64 pp] 45)) := (Below.refl _ w3).alloc (Nat.le_refl _) _
  have H4 := Lib.hid (H3.out.below hbA)
  have hAB4 := HAB3.out.step hbA
  have HB4 := Lib.hid (HB3.out.trans (hbA.mono HB3.out.size))
  have o0 := hob.cell0
  have o1 := hob.cell1
  have ho : w.heap.size + 3 ≤ w3.heap.size := HAB3.out.low
  clear hob hbA
  generalize w3.alloc (.cells #[.slice A m c, .int .i64 pp] 45) = W at *
  generalize w3.heap.size = ob at *
  have r0 : W.cell? ⟨w.heap.size + 1 + 1, 0, none⟩ = some (.slice none 0 0) := hAB4.t2.cell0
  have r1 : W.cell? ⟨w.heap.size + 1 + 1, 1, none⟩ = some (.int .i64 0) := hAB4.t2.cell1
  have rf0 : W.frozen? ⟨w.heap.size + 1 + 1, 0, none⟩ = false := hAB4.t2.frozen 0
  have rf1 : W.frozen? ⟨w.heap.size + 1 + 1, 1, none⟩ = false := hAB4.t2.frozen 1
  have hne : w.heap.size + 1 + 1 ≠ ob := by omega
  have hne2 : ob ≠ w.heap.size + 1 + 1 := by omega
  have HAB4 := Lib.hid hAB4
  clear hAB4
  go_region_held3 (fun w' => w'.cell? ⟨ob, 0, none⟩ = some (.slice A m c) ∧ w'.cell? ⟨ob, 1, none⟩ = some (.int .i64 pp))
    (first | go_keep)
    (first
      | (go_at_call 21; refine (num_any _ _).mono ?_; rintro e w5 ⟨rfl, rfl⟩))
  go_wp2_with fail
  have hF := ask_fin (x := (pp : Int)) hBw h8.out hAl.out HB1.out HS2.out HB4.out H4.out HAB4.out rfl rfl
  refine bodyPost_ret (ask_results rfl rfl (show Two (World.drew _) _ _ _ _ from hF.1)) rfl ?_
  exact hF.2.drew
end Go.Proofs.Ytgcgmnopggabaaa
