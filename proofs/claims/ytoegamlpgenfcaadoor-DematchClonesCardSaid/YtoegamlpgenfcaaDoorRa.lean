/-
  The reference's New. The reference's Add.
-/
import Derived.Test.YtoegamlpgenfcaaDoorDk
import Derived.Test.YtoegamlpgenfcaaDoorRf
namespace Go.Proofs.YtoegamlpgenfcaaDoor
/-! ### The reference's New. -/
section
open Go.RowKit Go.Shelf

theorem fl2_ab {L N a b : Nat} (h : a < L) (hN : L ≤ N) : (fl2 L N a b).set a 127 = fl2 L N (a + 1) b := by
  refine list_ext0 (by rw [List.length_set, fl2_length, fl2_length]) (fun i hi => ?_)
  rw [fl2_length] at hi
  rw [set_get _ _ _ _ (by rw [fl2_length]; omega), fl2_at hi, fl2_at hi]
  by_cases e : i = a
  · subst e; rw [if_pos rfl, if_pos (by simp)]
  · rw [if_neg e]
    by_cases e2 : i < a ∨ (L ≤ i ∧ i < L + b)
    · rw [if_pos (by simp; omega), if_pos (by simp; omega)]
    · rw [if_neg (by simp; omega), if_neg (by simp; omega)]
theorem ref_results {W : World} {fn : Func} {tmps : Array Value} {X t6 t7 : Nat} {k f l n e : Int} {A : Option Addr} {N c : Nat} (hr : fn.results = #[.cell t6 30, .tmp t7])
    (h6 : tmps.getD t6 undef = .pointer (some ⟨X, 0, none⟩)) (h7 : tmps.getD t7 undef = .int .i64 e) (hT : W.heap[X]? = some (.cells (bufC k f l n A N c) 30)) :
    (results fn tmps).run Tryd.prog W = .ok (.tuple #[.agg (bufC k f l n A N c), .int .i64 e]) W := by
  have c0 := bufC.c0 hT
  have c1 := bufC.c1 hT
  have c2 := bufC.c2 hT
  have c3 := bufC.c3 hT
  have c4 := bufC.c4 hT
  simp only [Array.getD_eq_getD_getElem?] at h6 h7
  simp [results, hr, go_sem, h6, h7, c0, c1, c2, c3, c4, bufC]
section
variable {w : World} {X : Nat} {k f l n : Int} {A : Option Addr} {N c : Nat} {t : TypeId}
theorem put5_blk {k0 f0 l0 n0 : Int} {A0 : Option Addr} {N0 c0 : Nat} (h : w.heap[X]? = some (.cells (bufC k0 f0 l0 n0 A0 N0 c0) t)) : (((((w.setCell ⟨X, 0, none⟩ (.int .i64 k)).setCell ⟨X, 1, none⟩ (.int .i64 f)).setCell ⟨X, 2, none⟩ (.int .i64 l)).setCell ⟨X, 3, none⟩ (.slice A N c)).setCell ⟨X, 4, none⟩ (.int .i64 n)).heap[X]? = some (.cells (bufC k f l n A N c) t) :=
  arr_set (arr_set (arr_set (arr_set (arr_set h))))
theorem put5_save (w : World) (X : Nat) (k f l n : Int) (A : Option Addr) (N c : Nat) : Save (fun i => i = X) w (((((w.setCell ⟨X, 0, none⟩ (.int .i64 k)).setCell ⟨X, 1, none⟩ (.int .i64 f)).setCell ⟨X, 2, none⟩ (.int .i64 l)).setCell ⟨X, 3, none⟩ (.slice A N c)).setCell ⟨X, 4, none⟩ (.int .i64 n)) :=
  ((((((Save.refl (fun i => i = X) w).setCell (p := ⟨X, 0, none⟩) (fun _ => rfl) _).setCell (p := ⟨X, 1, none⟩) (fun _ => rfl) _).setCell (p := ⟨X, 2, none⟩) (fun _ => rfl) _).setCell (p := ⟨X, 3, none⟩) (fun _ => rfl) _).setCell (p := ⟨X, 4, none⟩) (fun _ => rfl) _)
theorem put5_below {w0 : World} {B : Nat} (h : Below B w0 w) (hX : B ≤ X) : Below B w0 (((((w.setCell ⟨X, 0, none⟩ (.int .i64 k)).setCell ⟨X, 1, none⟩ (.int .i64 f)).setCell ⟨X, 2, none⟩ (.int .i64 l)).setCell ⟨X, 3, none⟩ (.slice A N c)).setCell ⟨X, 4, none⟩ (.int .i64 n)) :=
  ((((h.setCell (p := ⟨X, 0, none⟩) hX _).setCell (p := ⟨X, 1, none⟩) hX _).setCell (p := ⟨X, 2, none⟩) hX _).setCell (p := ⟨X, 3, none⟩) hX _).setCell (p := ⟨X, 4, none⟩) hX _
theorem put5_own {base n' : Nat} {e : TypeId} {v : Value} {xs : List Value} (hO : w.ownsRow base e 1 v n' xs) (hX : v.ownBlock ≠ some X) : (((((w.setCell ⟨X, 0, none⟩ (.int .i64 k)).setCell ⟨X, 1, none⟩ (.int .i64 f)).setCell ⟨X, 2, none⟩ (.int .i64 l)).setCell ⟨X, 3, none⟩ (.slice A N c)).setCell ⟨X, 4, none⟩ (.int .i64 n)).ownsRow base e 1 v n' xs :=
  ownsRow_save hO (put5_save w X k f l n A N c) (fun g hg e => by subst e; exact hX hg)
end
/-- The reference hands back a buffer and a number. -/
def RetR (w : World) (k f l n : Int) (V : List Int) (N : Nat) (no : Int) (e : Ending) (w' : World) : Prop :=
  ∃ A c, e = .returned (.tuple #[.agg (bufC k f l n A N c), .int .i64 no]) ∧ w'.ownsRow w.heap.size 3 1 (.slice A N c) N (V.map (Value.int .i64)) ∧ Below w.heap.size w w'
set_option maxRecDepth 100000 in
set_option maxHeartbeats 4000000 in
theorem refNew_ok {k f l : Nat} {w : World} (h1 : 40 ≤ k) (h2 : k ≤ 6144) (h3 : f < k) (hl : 1 ≤ l) :
    Calls Tryd.prog 11 #[.int .i64 (k : Int), .int .i64 (f : Int), .int .i64 (l : Int)] w (RetR w k f l 0 (newV k f) (3 * (k + 4)) 0) := by
  have hV := Lib.hid (fun (u : World) => refValidR_any (k := (k : Int)) (f := (f : Int)) (l := (l : Int)) (w := u))
  rw [okB_of h1 h2 h3 hl] at hV
  have hnew := Lib.hid (fl2_new k f)
  obtain ⟨L, hL⟩ : ∃ L, k + 4 = L := ⟨_, rfl⟩
  obtain ⟨N, hN⟩ : ∃ N, 3 * L = N := ⟨_, rfl⟩
  rw [hL, hN] at hnew ⊢
  generalize newV k f = res at *
  have e1 : (k : Int) + 4 = (L : Int) := by omega
  have e2 : 3 * (L : Int) = (N : Int) := by omega
  have l0 : 44 ≤ (L : Int) := by omega
  have l1 : (L : Int) ≤ 6148 := by omega
  have l2 : (N : Int) ≤ 18444 := by omega
  have f1 : (f : Int) < (L : Int) := by omega
  have f2 : (L : Int) + (f : Int) < (N : Int) := by omega
  have k0 : 40 ≤ (k : Int) := by omega
  have k1 : (k : Int) ≤ 6144 := by omega
  have hmk := fun u => make_ints N (by omega) u
  obtain ⟨w1, hw1⟩ : ∃ W, W = w.alloc (.cells (bufC 0 0 0 0 none 0 0) 30) := ⟨_, rfl⟩
  obtain ⟨w2, hw2⟩ : ∃ W, W = w1.alloc (.cells (madeCells #[.int .i64 0] N) 3) := ⟨_, rfl⟩
  obtain ⟨w3, hw3⟩ : ∃ W, W = w2.alloc (.cells (bufC k f l 0 (some ⟨w.heap.size + 1, 0, none⟩) N N) 30) := ⟨_, rfl⟩
  have hs1 : w1.heap.size = w.heap.size + 1 := by rw [hw1]; simp
  have hs2 : w2.heap.size = w.heap.size + 2 := by rw [hw2]; simp [hs1]
  have hb1 : Below w.heap.size w w1 := by rw [hw1]; exact (Below.refl _ w).alloc (Nat.le_refl _) _
  have hb2 : Below w.heap.size w w2 := by rw [hw2]; exact hb1.alloc hb1.size _
  have hb3 : Below w.heap.size w w3 := by rw [hw3]; exact hb2.alloc hb2.size _
  have hO := own_zeros_q (q := .i64) (T := 3) (w := w1) (B := w.heap.size) (n := N) hb1.size (by omega)
  rw [hs1, ← fl2_zero L N, ← hw2] at hO
  have hO3 : w3.ownsRow w.heap.size 3 1 (.slice (some ⟨w.heap.size + 1, 0, none⟩) N N) N ((fl2 L N 0 0).map (Value.int .i64)) := by rw [hw3]; exact World.ownsRow.alloc hO _
  have hX : w3.heap[w.heap.size]? = some (.cells (bufC 0 0 0 0 none 0 0) 30) := by
    rw [hw3, hw2]
    refine (Below.heap_alloc _ _ _ (by simp [hs1]; omega)).trans ((Below.heap_alloc _ _ _ (by omega)).trans ?_)
    rw [hw1]; exact World.alloc_heap_new _ _
  have hY : w3.heap[w.heap.size + 2]? = some (.cells (bufC k f l 0 (some ⟨w.heap.size + 1, 0, none⟩) N N) 30) := by
    rw [hw3, ← hs2]; exact World.alloc_heap_new _ _
  have HO := Lib.hid hO3
  have HB := Lib.hid hb3
  have HX := Lib.hid hX
  have HY := Lib.hid hY
  unfold bufC at hw1 hw3
  subst hw3 hw2 hw1
  have hND := Lib.hid hN
  have hfl := Lib.hid (show f < L by omega)
  clear hO hO3 hb1 hb2 hb3 hX hY hs1 hs2 h1 h2 h3 hl hL hN
  go_enter Tryd.func11, Tryd.ntmps11
  go_wp2_with (first | (go_at_call 24; refine (hV.out _).mono ?_; rintro e w' ⟨rfl, he⟩; obtain rfl := he.symm) | fail)
  go_loopw [9] (fun i wr => ∃ j : Nat, j ≤ f ∧ i = .int .i64 (j : Int) ∧ Hid (wr.ownsRow w.heap.size 3 1 (.slice (some ⟨w.heap.size + 1, 0, none⟩) N N) N ((fl2 L N j j).map (Value.int .i64))) ∧
    Hid (wr.heap[w.heap.size]? = some (.cells (bufC 0 0 0 0 none 0 0) 30)) ∧ Hid (wr.heap[w.heap.size + 2]? = some (.cells (bufC k f l 0 (some ⟨w.heap.size + 1, 0, none⟩) N N) 30)) ∧ Hid (Below w.heap.size w wr)) (fun i _ => f - (intOf i).toNat)
  case atStart => exact ⟨0, Nat.zero_le _, rfl, HO, HX, HY, HB⟩
  case round =>
    clear HO HX HY HB hmk
    obtain ⟨j, hj, rfl, hO, hX, hY, hb⟩ := hrel
    have d3 := bufC.c3 hY.out
    by_cases hlt : j < f
    · have hz : (j : Int) < (f : Int) := by omega
      have hz0 : (0 : Int) ≤ (j : Int) := by omega
      have hzN : (j : Int) < (N : Int) := by omega
      obtain ⟨q, hq⟩ : ∃ q, L + j = q := ⟨_, rfl⟩
      have hzq : (L : Int) + (j : Int) = (q : Int) := by omega
      have hqN : (q : Int) < (N : Int) := by omega
      have hq0 : (0 : Int) ≤ (q : Int) := by omega
      obtain ⟨o1, o2, y, o3⟩ := own_put hO.out (fl2_ab (L := L) (N := N) (a := j) (b := j) (by have := hfl.out; omega) (by have := hND.out; omega)) (by rw [fl2_length]; omega)
      obtain ⟨p1, p2, y2, p3⟩ := own_put o1 (fl2_b (L := L) (N := N) (a := j + 1) (b := j) (by have := hfl.out; omega) (by have := hND.out; omega)) (by rw [fl2_length]; omega)
      rw [hq] at p1 p2 p3
      have O1 := Lib.hid p1
      have d3' : (wr.setCell ⟨w.heap.size + 1, j, none⟩ (.int .i64 127)).cell? ⟨w.heap.size + 2, 3, none⟩ = some (.slice (some ⟨w.heap.size + 1, 0, none⟩) N N) := (World.cell?_of_block (a := ⟨w.heap.size + 2, 3, none⟩) (Below.heap_setCell _ _ _ _ (by simp))).trans d3
      clear o1 p1 hO hq
      go_wp2_with fail
      go_region
      go_wp2_with fail
      go_roundw
      case rel => exact ⟨j + 1, by omega, by go_num, Lib.hid O1.out.drew, Lib.hid ((Below.heap_setCell _ _ _ _ (by simp)).trans ((Below.heap_setCell _ _ _ _ (by simp)).trans hX.out)), Lib.hid ((Below.heap_setCell _ _ _ _ (by simp)).trans ((Below.heap_setCell _ _ _ _ (by simp)).trans hY.out)),
        Lib.hid (((hb.out.setCell (p := ⟨w.heap.size + 1, j, none⟩) (by simp) _).setCell (p := ⟨w.heap.size + 1, q, none⟩) (by simp) _).drew)⟩
      case measure => simp [intOf]; omega
    · obtain rfl : j = f := by omega
      clear hlt
      have x0 := bufC.c0 hX.out
      have x1 := bufC.c1 hX.out
      have x2 := bufC.c2 hX.out
      have x3 := bufC.c3 hX.out
      have x4 := bufC.c4 hX.out
      have g0 := blk_frozen hX.out 0
      have g1 := blk_frozen hX.out 1
      have g2 := blk_frozen hX.out 2
      have g3 := blk_frozen hX.out 3
      have g4 := blk_frozen hX.out 4
      have d0 := bufC.c0 hY.out
      have d1 := bufC.c1 hY.out
      have d2 := bufC.c2 hY.out
      have d4 := bufC.c4 hY.out
      go_wp2_with fail
      have h := hO.out
      rw [hnew.out] at h
      exact bodyPost_ret (ref_results (X := w.heap.size) rfl rfl rfl (put5_blk hX.out)) rfl ⟨_, _, rfl, put5_own h (by simp [Value.ownBlock]), put5_below hb.out (Nat.le_refl _)⟩
/-- The reference's buffer as a value. -/
def refV (s : St) (A : Option Addr) (N c : Nat) : Value := .agg (bufC s.k s.f s.l s.n A N c)
structure RefAt (w : World) (s : St) (A : Option Addr) (N c : Nat) : Prop where
  rd : Rd .i64 w w.heap.size A N s.V
  len : N = 3 * (s.k + 4)
  ok : s.Ok
  adr : ∃ g, A = some ⟨g, 0, none⟩
  cap : N ≤ c
theorem RefAt.below {w w' : World} {s : St} {A : Option Addr} {N c : Nat} (h : RefAt w s A N c) (hb : Below w.heap.size w w') : RefAt w' s A N c := ⟨(h.rd.below hb).more hb.size, h.len, h.ok, h.adr, h.cap⟩
/-- A slice of one's own is the reference's. -/
theorem RefAt.of_own {w : World} {s : St} {A : Option Addr} {N c B : Nat} (hO : w.ownsRow B 3 1 (.slice A N c) N (s.V.map (Value.int .i64))) (hN : N = 3 * (s.k + 4)) (hs : s.Ok) : RefAt w s A N c := by
  obtain ⟨g, cap, hv, _, _⟩ := hO.form (by have := hs.k0; omega)
  injection hv with h1 h2 h3
  exact ⟨Rd.of_own hO, hN, hs, ⟨g, h1⟩, own_cap' hO⟩
/-- The reference hands back a buffer in the state s, and a number. -/
def RetRef (w : World) (r : St × Int) (e : Ending) (w' : World) : Prop :=
  ∃ A N c, e = .returned (.tuple #[refV r.1 A N c, .int .i64 r.2]) ∧ RefAt w' r.1 A N c ∧ Below w.heap.size w w'
theorem refNew_new {k f l : Nat} {w : World} (h1 : 40 ≤ k) (h2 : k ≤ 6144) (h3 : f < k) (hl : 1 ≤ l) :
    Calls Tryd.prog 11 #[.int .i64 (k : Int), .int .i64 (f : Int), .int .i64 (l : Int)] w (RetRef w (newSt k f l, 0)) := by
  refine (refNew_ok h1 h2 h3 hl).mono ?_
  rintro e w' ⟨A, c, rfl, hO, hb⟩
  exact ⟨A, _, c, rfl, RefAt.of_own hO rfl (newSt_ok h1 h2 h3 hl), hb⟩
set_option maxRecDepth 100000 in
set_option maxHeartbeats 4000000 in
theorem refNew_no {k f l : Int} {w : World} (h : okB k f l = false) :
    Calls Tryd.prog 11 #[.int .i64 k, .int .i64 f, .int .i64 l] w fun e w' => e = .returned (.tuple #[.agg (bufC 0 0 0 0 none 0 0), .int .i64 2]) ∧ Below w.heap.size w w' := by
  have hV := Lib.hid (fun (u : World) => refValidR_any (k := k) (f := f) (l := l) (w := u))
  rw [h] at hV
  obtain ⟨w1, hw1⟩ : ∃ W, W = w.alloc (.cells (bufC 0 0 0 0 none 0 0) 30) := ⟨_, rfl⟩
  have hX : w1.heap[w.heap.size]? = some (.cells (bufC 0 0 0 0 none 0 0) 30) := by rw [hw1]; exact World.alloc_heap_new _ _
  have hb1 : Below w.heap.size w w1 := by rw [hw1]; exact (Below.refl _ w).alloc (Nat.le_refl _) _
  have HX := Lib.hid hX
  have HB := Lib.hid hb1
  unfold bufC at hw1
  subst hw1
  clear hX hb1 h
  go_enter Tryd.func11, Tryd.ntmps11
  go_wp2_with (first | (go_at_call 24; refine (hV.out _).mono ?_; rintro e w' ⟨rfl, he⟩; obtain rfl := he.symm) | fail)
  exact bodyPost_ret (ref_results (X := w.heap.size) rfl rfl rfl HX.out) rfl ⟨rfl, HB.out⟩
end

/-! ### The reference's Add. -/
section
open Go.RowKit Go.Shelf

/-- Two fresh blocks for buffers. -/
theorem two_blk (w : World) (s : St) (A : Option Addr) (N c : Nat) : ∃ w2, w2 = ((w.alloc (.cells (bufC s.k s.f s.l s.n A N c) 30)).alloc (.cells (bufC 0 0 0 0 none 0 0) 30)) ∧ Below w.heap.size w w2 ∧ w2.heap.size = w.heap.size + 2 ∧
    w2.heap[w.heap.size]? = some (.cells (bufC s.k s.f s.l s.n A N c) 30) ∧ w2.heap[w.heap.size + 1]? = some (.cells (bufC 0 0 0 0 none 0 0) 30) := by
  refine ⟨_, rfl, ((Below.refl _ w).alloc (Nat.le_refl _) _).alloc (by simp) _, by simp, (Below.heap_alloc _ _ _ (by simp)).trans (World.alloc_heap_new _ _), ?_⟩
  have := World.alloc_heap_new (w.alloc (.cells (bufC s.k s.f s.l s.n A N c) 30)) (.cells (bufC 0 0 0 0 none 0 0) 30)
  rw [World.size_alloc] at this
  exact this
theorem addSt_bad {s : St} {rv : Int} {l : List Int} (hbad : (okV rv && okE (l.length : Int)) = false) : addSt s rv l = (s, 2) := by
  have hp : posS s.k s.f s.l rv l.length = ([], 2) := posS_no (by rw [Bool.and_assoc, hbad, Bool.and_false])
  unfold addSt
  rw [hp]
  split
  · rw [if_neg (by decide)]
  · rfl
theorem okV_cases (v : Int) : v < 0 ∨ (0 ≤ v ∧ 3 < v) ∨ (0 ≤ v ∧ v ≤ 3) := by omega
set_option maxRecDepth 100000 in
set_option maxHeartbeats 4000000 in
/-- Arguments out of range, or no soft values. -/
theorem refAdd_bad {w : World} {N c m c2 : Nat} {s : St} {A A2 : Option Addr} {rv : Int} {l : List Int} {b1 b2 b3 b4 : Bool} (h : RefAt w s A N c) (hR : Rd .i64 w w.heap.size A2 m l) (hm : m ≤ 1000000)
    (d1 : decide (rv < 0) = b1) (d2 : decide (3 < rv) = b2) (d3 : decide ((131072 : Int) < (m : Int)) = b3) (d4 : softB l = b4)
    (hbad : (b1 = true) ∨ (b1 = false ∧ b2 = true) ∨ (b1 = false ∧ b2 = false ∧ b3 = true) ∨ (b1 = false ∧ b2 = false ∧ b3 = false ∧ b4 = false)) :
    Calls Tryd.prog 33 #[refV s A N c, .int .i64 rv, .slice A2 m c2] w (RetRef w (s, 2)) := by
  obtain ⟨w2, hw2, hb2, hs2, hX, hY⟩ := two_blk w s A N c
  have hV := Lib.hid (refValid_any (c := c2) (hR.below hb2) (by omega))
  rw [d4] at hV
  have x0 := bufC.c0 hX
  have x1 := bufC.c1 hX
  have x2 := bufC.c2 hX
  have x3 := bufC.c3 hX
  have x4 := bufC.c4 hX
  have y0 := bufC.c0 hY
  have y1 := bufC.c1 hY
  have y2 := bufC.c2 hY
  have y3 := bufC.c3 hY
  have y4 := bufC.c4 hY
  have g0 := blk_frozen hY 0
  have g1 := blk_frozen hY 1
  have g2 := blk_frozen hY 2
  have g3 := blk_frozen hY 3
  have g4 := blk_frozen hY 4
  have HA := Lib.hid h
  have HB := Lib.hid hb2
  have HY := Lib.hid hY
  have hle : w.heap.size ≤ w.heap.size + 1 := Nat.le_succ _
  have HW := Lib.hid hw2
  clear hX hY hb2 hs2 h hR hw2 d4 hm
  unfold refV bufC
  go_enter Tryd.func33, Tryd.ntmps33
  go_upto_region 1 with fail
  have hw2 := HW.out
  unfold bufC at hw2
  rw [← hw2]
  clear hw2 HW
  rcases hbad with rfl | ⟨rfl, rfl⟩ | ⟨rfl, rfl, rfl⟩ | ⟨rfl, rfl, rfl, rfl⟩
  all_goals
    go_wp2_with (first | (go_at_call 55; refine hV.out.mono ?_; rintro e w' ⟨rfl, he⟩; obtain rfl := he.symm) | fail)
    have hb := put5_below (X := w.heap.size + 1) (k := (s.k : Int)) (f := (s.f : Int)) (l := (s.l : Int)) (n := (s.n : Int)) (A := A) (N := N) (c := c) HB.out hle
    exact bodyPost_ret (ref_results (X := w.heap.size + 1) rfl rfl rfl (put5_blk HY.out)) rfl ⟨A, N, c, rfl, HA.out.below hb, hb⟩
set_option maxRecDepth 100000 in
set_option maxHeartbeats 4000000 in
/-- No position to be had. -/
theorem refAdd_none {w : World} {N c m c2 : Nat} {s : St} {A A2 : Option Addr} {rv : Int} {l : List Int} (h : RefAt w s A N c) (hR : Rd .i64 w w.heap.size A2 m l) (hm : m ≤ 1000000)
    (d1 : decide (rv < 0) = false) (d2 : decide (3 < rv) = false) (d3 : decide ((131072 : Int) < (m : Int)) = false) (d4 : softB l = true) (h0 : (posS s.k s.f s.l rv m).2 ≠ 0) :
    Calls Tryd.prog 33 #[refV s A N c, .int .i64 rv, .slice A2 m c2] w (RetRef w (s, (posS s.k s.f s.l rv m).2)) := by
  obtain ⟨w2, hw2, hb2, hs2, hX, hY⟩ := two_blk w s A N c
  have hV := Lib.hid (refValid_any (c := c2) (hR.below hb2) (by omega))
  rw [d4] at hV
  obtain ⟨r, hr⟩ : ∃ r, posS s.k s.f s.l rv m = r := ⟨_, rfl⟩
  have hP := Lib.hid (refPositions_any (k := (s.k : Int)) (f := (s.f : Int)) (l := (s.l : Int)) (v := rv) (e := (m : Int)) (w := w2))
  rw [hr] at h0 hP ⊢
  obtain ⟨ps, no⟩ := r
  dsimp only at h0 ⊢
  have hno : (no != 0) = true := by simpa using h0
  have x0 := bufC.c0 hX
  have x1 := bufC.c1 hX
  have x2 := bufC.c2 hX
  have x3 := bufC.c3 hX
  have x4 := bufC.c4 hX
  have HA := Lib.hid h
  have HB := Lib.hid hb2
  have HX := Lib.hid hX
  have HY := Lib.hid hY
  have hle : w.heap.size ≤ w.heap.size + 1 := Nat.le_succ _
  have HW := Lib.hid hw2
  clear hX hY hb2 hs2 h hR hw2 d4 hm hr
  unfold refV bufC
  go_enter Tryd.func33, Tryd.ntmps33
  go_upto_region 1 with fail
  have hw2 := HW.out
  unfold bufC at hw2
  rw [← hw2]
  clear hw2 HW
  go_wp2_with (first | (go_at_call 55; refine hV.out.mono ?_; rintro e w' ⟨rfl, he⟩; obtain rfl := he.symm) | fail)
  refine hP.out.mono ?_
  rintro e w3 ⟨A3, c3, rfl, o3, b3⟩
  have hX := blk_below HX.out b3
  have hY := blk_below HY.out b3
  have x0 := bufC.c0 hX
  have x1 := bufC.c1 hX
  have x2 := bufC.c2 hX
  have x3 := bufC.c3 hX
  have x4 := bufC.c4 hX
  have y0 := bufC.c0 hY
  have y1 := bufC.c1 hY
  have y2 := bufC.c2 hY
  have y3 := bufC.c3 hY
  have y4 := bufC.c4 hY
  have g0 := blk_frozen hY 0
  have g1 := blk_frozen hY 1
  have g2 := blk_frozen hY 2
  have g3 := blk_frozen hY 3
  have g4 := blk_frozen hY 4
  have HB3 := Lib.hid (HB.out.trans (b3.mono HB.out.size))
  have HY3 := Lib.hid hY
  clear hX hY o3 b3 hP HX HY HB
  go_wp2_with fail
  have hb := put5_below (X := w.heap.size + 1) (k := (s.k : Int)) (f := (s.f : Int)) (l := (s.l : Int)) (n := (s.n : Int)) (A := A) (N := N) (c := c) HB3.out hle
  exact bodyPost_ret (ref_results (X := w.heap.size + 1) rfl rfl rfl (put5_blk HY3.out)) rfl ⟨A, N, c, rfl, HA.out.below hb, hb⟩
set_option maxRecDepth 100000 in
set_option maxHeartbeats 8000000 in
theorem refAdd_ok {w : World} {N c m c2 : Nat} {s : St} {A A2 : Option Addr} {rv : Int} {l : List Int} (h : RefAt w s A N c) (hR : Rd .i64 w w.heap.size A2 m l) (hm : m ≤ 1000000) (hn : s.n ≤ 1000000000)
    (d1 : decide (rv < 0) = false) (d2 : decide (3 < rv) = false) (d3 : decide ((131072 : Int) < (m : Int)) = false) (d4 : softB l = true) (h0 : (posS s.k s.f s.l rv m).2 = 0) :
    Calls Tryd.prog 33 #[refV s A N c, .int .i64 rv, .slice A2 m c2] w (RetRef w ({ s with V := accV s.V (posS s.k s.f s.l rv m).1 l m, n := s.n + m }, 0)) := by
  obtain ⟨w2, hw2, hb2, hs2, hX, hY⟩ := two_blk w s A N c
  have hV := Lib.hid (refValid_any (c := c2) (hR.below hb2) (by omega))
  rw [d4] at hV
  obtain ⟨r, hr⟩ : ∃ r, posS s.k s.f s.l rv m = r := ⟨_, rfl⟩
  have hP := Lib.hid (refPositions_any (k := (s.k : Int)) (f := (s.f : Int)) (l := (s.l : Int)) (v := rv) (e := (m : Int)) (w := w2))
  have hpin := pos_in h0
  rw [hr] at h0 hP hpin ⊢
  obtain ⟨ps, no⟩ := r
  dsimp only at h0 hpin ⊢
  subst h0
  have x0 := bufC.c0 hX
  have x1 := bufC.c1 hX
  have x2 := bufC.c2 hX
  have x3 := bufC.c3 hX
  have x4 := bufC.c4 hX
  have HP := Lib.hid hpin
  have HR := Lib.hid hR
  have HA := Lib.hid h
  have HB := Lib.hid hb2
  have HX := Lib.hid hX
  have HY := Lib.hid hY
  have hle : w.heap.size ≤ w.heap.size + 1 := Nat.le_succ _
  have HW := Lib.hid hw2
  have hm' : (m : Int) ≤ 1000000 := by omega
  have hn1 : (s.n : Int) ≤ 1000000000 := by omega
  have HS2 := Lib.hid hs2
  clear hX hY hb2 hs2 h hR hw2 d4 hm hr hn hpin
  unfold refV bufC
  go_enter Tryd.func33, Tryd.ntmps33
  go_upto_region 1 with fail
  have hw2 := HW.out
  unfold bufC at hw2
  rw [← hw2]
  clear hw2 HW
  go_wp2_with (first | (go_at_call 55; refine hV.out.mono ?_; rintro e w' ⟨rfl, he⟩; obtain rfl := he.symm) | fail)
  refine hP.out.mono ?_
  rintro e w3 he
  obtain ⟨A3, c3, rfl, o3, b3⟩ := he.got HP.out.1
  have hX := blk_below HX.out b3
  have hY := blk_below HY.out b3
  have hb3 := HB.out.trans (b3.mono HB.out.size)
  have hA3 := HA.out.below hb3
  obtain ⟨i0, hi, hz0, hz1, hz2⟩ := info_q Tryd.info_int
  obtain ⟨A4, c4, w4, hrun, hown4, hB4⟩ := copy_run_q (P := Tryd.prog) (c := c) Tryd.underlying28 hi hz0 hz1 hz2 (by decide) hA3.rd (by have := hA3.len; have := hA3.ok.k1; omega)
  obtain ⟨g, cap, hv, e1, e2⟩ := hown4.form (show 0 < N by have := hA3.len; omega)
  injection hv with hv1 hv2 hv3
  subst hv1 hv3
  have x0 := bufC.c0 hX
  have x1 := bufC.c1 hX
  have x2 := bufC.c2 hX
  have x3 := bufC.c3 hX
  have x4 := bufC.c4 hX
  have hX4 := blk_below hX hB4
  have hY4 := blk_below hY hB4
  have xa := cell_new (.cells #[] 3) x3
  have f3 := blk_frozen hX4 3
  have z3 := bufC.c3 hX4
  have HRun := Lib.hid hrun
  have HO4 := Lib.hid (hown4.mono (show w.heap.size ≤ w3.heap.size from hb3.size))
  have HB4 := Lib.hid (hb3.trans (hB4.mono hb3.size))
  have HX4 := Lib.hid hX4
  have HY4 := Lib.hid hY4
  have hPs := (Rd.of_own o3).below hB4
  have HPs := Lib.hid hPs
  have hb34 := hB4.size
  have hg : w.heap.size + 2 ≤ g := by have := (hown4.lt g rfl).1; have := b3.size; have := HS2.out; omega
  have HG := Lib.hid (And.intro hg (hown4.lt g rfl).1)
  have hA3b : ∀ a, A3 = some a → w.heap.size + 2 ≤ a.block := by
    rintro a rfl
    rcases o3.2 with ⟨h1, _⟩ | ⟨g3, cap3, cur3, h1, h2, _⟩
    · cases h1
    · injection h1 with e1
      injection e1 with e1
      rw [e1]
      have := HS2.out
      show w.heap.size + 2 ≤ g3
      omega
  clear hX hY hX4 hY4 o3 b3 hP HX HY HB hb3 hA3 hown4 hB4 hrun e1 e2 hv2 hPs hg he hi hz0 hz1 hz2
  go_wp2_with (at_builtin; refine Lib.wpList_append_run _ rfl _ _ _ _ rfl _ _ rfl rfl _ _ HRun.out ?_)
  have hgX : g ≠ w.heap.size := by have := HG.out; omega
  have J1 : Hid ((w4.setCell ⟨w.heap.size, 3, none⟩ (.slice (some ⟨g, 0, none⟩) N c4)).heap[w.heap.size]? = some (.cells (bufC s.k s.f s.l s.n (some ⟨g, 0, none⟩) N c4) 30)) := Lib.hid (arr_set HX4.out)
  have J2 : Hid ((w4.setCell ⟨w.heap.size, 3, none⟩ (.slice (some ⟨g, 0, none⟩) N c4)).heap[w.heap.size + 1]? = some (.cells (bufC 0 0 0 0 none 0 0) 30)) := Lib.hid ((Below.heap_setCell _ _ _ _ (by simp)).trans HY4.out)
  have J3 : Hid ((w4.setCell ⟨w.heap.size, 3, none⟩ (.slice (some ⟨g, 0, none⟩) N c4)).ownsRow w.heap.size 3 1 (.slice (some ⟨g, 0, none⟩) N c4) N ((accV s.V ps l 0).map (Value.int .i64))) :=
    Lib.hid (ownsRow_save (X := fun k => k = w.heap.size) HO4.out ((Save.refl (fun k => k = w.heap.size) w4).setCell (p := ⟨w.heap.size, 3, none⟩) (fun _ => rfl) _) (fun g' hg' e => by
      have : g = g' := by simpa [Value.ownBlock] using hg'
      subst this
      exact hgX e))
  have J5 : Hid (Rd .i64 (w4.setCell ⟨w.heap.size, 3, none⟩ (.slice (some ⟨g, 0, none⟩) N c4)) w3.heap.size A3 m ps) :=
    Lib.hid (HPs.out.save (X := fun k => k = w.heap.size) ((Save.refl (fun k => k = w.heap.size) w4).setCell (p := ⟨w.heap.size, 3, none⟩) (fun _ => rfl) _) hb34 (fun a ha e => by have := hA3b a ha; omega))
  have J4 : Hid (Below w.heap.size w (w4.setCell ⟨w.heap.size, 3, none⟩ (.slice (some ⟨g, 0, none⟩) N c4))) := Lib.hid (HB4.out.setCell (p := ⟨w.heap.size, 3, none⟩) (Nat.le_refl _) _)
  have HL := Lib.hid (fun j => (accV_length s.V ps l j).trans (HA.out.ok.len.trans HA.out.len.symm))
  have hN1 : (N : Int) ≤ 18444 := by have := HA.out.len; have := HA.out.ok.k1; omega

  clear x0 x1 x2 x3 x4 xa f3 z3 HRun HO4 HB4 HX4 HY4 hV hgX
  go_loopw [10] (fun i wr => ∃ j : Nat, j ≤ m ∧ i = .int .i64 (j : Int) ∧ Hid (wr.ownsRow w.heap.size 3 1 (.slice (some ⟨g, 0, none⟩) N c4) N ((accV s.V ps l j).map (Value.int .i64))) ∧ Hid (wr.heap[w.heap.size]? = some (.cells (bufC s.k s.f s.l s.n (some ⟨g, 0, none⟩) N c4) 30)) ∧
    Hid (wr.heap[w.heap.size + 1]? = some (.cells (bufC 0 0 0 0 none 0 0) 30)) ∧ Hid (Below w.heap.size w wr) ∧ Hid (Rd .i64 wr w3.heap.size A3 m ps)) (fun i _ => m - (intOf i).toNat)
  case atStart => exact ⟨0, Nat.zero_le _, rfl, J3, J1, J2, J4, J5⟩
  case round =>
    clear J1 J2 J3 J4 J5
    obtain ⟨j, hj, rfl, hO, hX, hY, hb, hPj⟩ := hrel
    have x3 := bufC.c3 hX.out
    by_cases hlt : j < m
    · have hz : (j : Int) < (m : Int) := by omega
      have hz0 : (0 : Int) ≤ (j : Int) := by omega
      obtain ⟨b, off, rfl, hbl, hc0⟩ := HR.out.cells j hlt
      have hc := (hb.out.cell (p := ⟨b, off + j, none⟩) hbl).trans hc0
      obtain ⟨b', off', rfl, hbl', hc'⟩ := hPj.out.cells j hlt
      obtain ⟨p, hp1, hp2⟩ := HP.out.2.2 j hlt
      rw [hp1] at hc'
      have hpN : p < N := by rw [HA.out.len]; simpa using hp2
      have hpl : p < (accV s.V ps l j).length := by rw [HL.out]; exact hpN
      have hs : (accV s.V ps l j).set p (addI ((accV s.V ps l j)[p]?.getD 0) (l[j]?.getD 0)) = accV s.V ps l (j + 1) := by
        rw [accV_succ, hp1, Int.toNat_natCast]; rfl
      have hcv := World.ownsRow.cellAt hO.out p (by rw [Nat.mul_one]; exact hpN)
      rw [List.getElem?_map, List.getElem?_eq_getElem hpl, Option.map_some] at hcv
      rw [List.getElem?_eq_getElem hpl, Option.getD_some] at hs
      obtain ⟨o2, o3, _⟩ := own_put hO.out hs hpl
      generalize (accV s.V ps l j)[p] = v at *
      generalize l[j]?.getD 0 = y at *
      have hAd := Lib.hid (fun (u : World) => (callsIn_wide (n := 5)).2 (refAdd_any (a := v) (b := y) (w := u)))
      generalize addI v y = x at *
      have hzp : (p : Int) < (N : Int) := by omega
      have hzp0 : (0 : Int) ≤ (p : Int) := by omega
      have O2 := Lib.hid o2
      clear hO hc0 hbl hbl' hp1 hp2 hpl hs o2
      go_wp2_with fail
      refine (wpIn_wide (n := 6)).1 ?_
      refine wpIn_region_quiet_tail 20 rfl (by kernel_rfl) (by kernel_rfl) ?_
      simp only [List.take_succ_cons, List.take_zero, List.drop_succ_cons, List.drop_zero]
      repeat (gi_big_quiet_step (fail))
      refine wpQuietIn_step (fun _ _ _ _ => trivial) (fun K hK => ?_)
      rw [if_pos (by rfl)]
      gi_big_quiet_op
      refine ⟨_, fun j => CallsIn.quiet_of_same (hAd.out _), hK _ ?_⟩
      clear hK K
      try simp only [Act.put, List.setIfInBounds_toArray, List.set_cons_succ, List.set_cons_zero]
      repeat (gi_big_quiet_step (fail))
      refine wpQuietIn_nil ?_
      rintro w' ⟨nq, rfl⟩
      have fx : (wr.drewN nq).frozen? ⟨g, p, none⟩ = false := o3
      have cx : (wr.drewN nq).cell? ⟨g, p, none⟩ = some (.int .i64 v) := hcv
      clear o3 hcv hc hc' x3 hAd
      gi_wp2
      have hgX : w.heap.size ≠ g := by have := HG.out.1; omega
      have hgY : w.heap.size + 1 ≠ g := by have := HG.out.1; omega
      go_wp2_with fail
      go_roundw
      case rel => exact ⟨j + 1, by omega, by go_num, O2, Lib.hid ((Below.heap_setCell _ _ _ _ hgX).trans hX.out), Lib.hid ((Below.heap_setCell _ _ _ _ hgY).trans hY.out), Lib.hid ((below_drewN hb.out nq).setCell (p := ⟨g, p, none⟩) (show w.heap.size ≤ g by have := HG.out.1; omega) _), Lib.hid ((hPj.out.drewN nq).setCell (p := ⟨g, p, none⟩) HG.out.2 _)⟩
      case measure => simp [intOf]; omega
    · obtain rfl : j = m := by omega
      clear hlt
      have x0 := bufC.c0 hX.out
      have x1 := bufC.c1 hX.out
      have x2 := bufC.c2 hX.out
      have x4 := bufC.c4 hX.out
      have f4 := blk_frozen hX.out 4
      have y0 := bufC.c0 hY.out
      have y1 := bufC.c1 hY.out
      have y2 := bufC.c2 hY.out
      have y3 := bufC.c3 hY.out
      have y4 := bufC.c4 hY.out
      have g0 := blk_frozen hY.out 0
      have g1 := blk_frozen hY.out 1
      have g2 := blk_frozen hY.out 2
      have g3 := blk_frozen hY.out 3
      have g4 := blk_frozen hY.out 4
      go_wp2_with fail
      have hgX : g ≠ w.heap.size := by have := HG.out.1; omega
      have hgY : g ≠ w.heap.size + 1 := by have := HG.out.1; omega
      have hY2 := (Below.heap_setCell wr ⟨w.heap.size, 4, none⟩ (.int .i64 ((s.n : Int) + (j : Int))) (w.heap.size + 1) (by simp)).trans hY.out
      have hO2 : (wr.setCell ⟨w.heap.size, 4, none⟩ (.int .i64 ((s.n : Int) + (j : Int)))).ownsRow w.heap.size 3 1 (.slice (some ⟨g, 0, none⟩) N c4) N ((accV s.V ps l j).map (Value.int .i64)) :=
        ownsRow_save (X := fun k => k = w.heap.size) hO.out ((Save.refl (fun k => k = w.heap.size) wr).setCell (p := ⟨w.heap.size, 4, none⟩) (fun _ => rfl) _) (fun g' hg' e => by
          have : g = g' := by simpa [Value.ownBlock] using hg'
          subst this
          exact hgX e)
      have hO3 := put5_own (X := w.heap.size + 1) (k := (s.k : Int)) (f := (s.f : Int)) (l := (s.l : Int)) (n := (s.n : Int) + (j : Int)) (A := some ⟨g, 0, none⟩) (N := N) (c := c4) hO2 (by simpa [Value.ownBlock] using hgY)
      have hb3 := put5_below (X := w.heap.size + 1) (k := (s.k : Int)) (f := (s.f : Int)) (l := (s.l : Int)) (n := (s.n : Int) + (j : Int)) (A := some ⟨g, 0, none⟩) (N := N) (c := c4) (hb.out.setCell (p := ⟨w.heap.size, 4, none⟩) (Nat.le_refl _) (.int .i64 ((s.n : Int) + (j : Int)))) hle
      exact bodyPost_ret (ref_results (X := w.heap.size + 1) rfl rfl rfl (put5_blk hY2)) rfl ⟨some ⟨g, 0, none⟩, N, c4, rfl, RefAt.of_own hO3 HA.out.len ⟨HA.out.ok.k0, HA.out.ok.k1, HA.out.ok.f1, HA.out.ok.l1, (accV_length _ _ _ _).trans HA.out.ok.len, accV_soft HA.out.ok.soft _⟩, hb3⟩
theorem refAdd_buf {w : World} {N c m c2 : Nat} {s : St} {A A2 : Option Addr} {rv : Int} {l : List Int} (h : RefAt w s A N c) (hR : Rd .i64 w w.heap.size A2 m l) (hm : m ≤ 1000000) (hn : s.n ≤ 1000000000) :
    Calls Tryd.prog 33 #[refV s A N c, .int .i64 rv, .slice A2 m c2] w (RetRef w (addSt s rv l)) := by
  have hlen := hR.len
  by_cases d1 : rv < 0
  · rw [addSt_bad (by unfold okV; simp; omega)]
    exact refAdd_bad h hR hm (decide_eq_true d1) rfl rfl rfl (.inl rfl)
  · by_cases d2 : 3 < rv
    · rw [addSt_bad (by unfold okV; simp; omega)]
      exact refAdd_bad h hR hm (decide_eq_false d1) (decide_eq_true d2) rfl rfl (.inr (.inl ⟨rfl, rfl⟩))
    · by_cases d3 : (131072 : Int) < (m : Int)
      · rw [addSt_bad (by unfold okE; simp; omega)]
        exact refAdd_bad h hR hm (decide_eq_false d1) (decide_eq_false d2) (decide_eq_true d3) rfl (.inr (.inr (.inl ⟨rfl, rfl, rfl⟩)))
      · unfold addSt
        rw [hlen]
        cases d4 : softB l
        · rw [if_neg (by simp)]
          exact refAdd_bad h hR hm (decide_eq_false d1) (decide_eq_false d2) (decide_eq_false d3) d4 (.inr (.inr (.inr ⟨rfl, rfl, rfl, rfl⟩)))
        · rw [if_pos rfl]
          by_cases h0 : (posS s.k s.f s.l rv m).2 = 0
          · rw [if_pos h0]
            exact refAdd_ok h hR hm hn (decide_eq_false d1) (decide_eq_false d2) (decide_eq_false d3) d4 h0
          · rw [if_neg h0]
            exact refAdd_none h hR hm (decide_eq_false d1) (decide_eq_false d2) (decide_eq_false d3) d4 h0
end
end Go.Proofs.YtoegamlpgenfcaaDoor
