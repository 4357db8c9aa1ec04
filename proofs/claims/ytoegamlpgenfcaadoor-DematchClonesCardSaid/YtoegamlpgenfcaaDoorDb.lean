/-
  A buffer in memory; isNone, areInRange, selection. cut: the three streams of a slice.
-/
import Derived.Test.YtoegamlpgenfcaaDoorKd
import Derived.Test.YtoegamlpgenfcaaDoorPo
import Derived.Test.YtoegamlpgenfcaaDoorUs
import Derived.Test.YtoegamlpgenfcaaDoorKnR
import Derived.Test.YtoegamlpgenfcaaDoorEx
import Derived.Test.YtoegamlpgenfcaaDoorMv
namespace Go.Proofs.YtoegamlpgenfcaaDoor
/-! ### A buffer in memory; isNone, areInRange, selection. -/
section
open Go.RowKit Go.Shelf

theorem blk_cell {w : World} {B j : Nat} {cs : Array Value} {t : TypeId} {v : Value} (h : w.heap[B]? = some (.cells cs t)) (hj : cs[j]? = some v) : w.cell? ⟨B, j, none⟩ = some v := by
  simp [World.cell?, h, hj]
theorem blk_frozen {w : World} {B : Nat} {cs : Array Value} {t : TypeId} (h : w.heap[B]? = some (.cells cs t)) (j : Nat) : w.frozen? ⟨B, j, none⟩ = false := by simp [World.frozen?, h]
theorem blk_below {w w' : World} {B : Nat} {o : Obj} (h : w.heap[B]? = some o) (hb : Below w.heap.size w w') : w'.heap[B]? = some o := (hb.block B (Array.getElem?_eq_some_iff.1 h).1).trans h
theorem blk_lt {w : World} {B : Nat} {o : Obj} (h : w.heap[B]? = some o) : B < w.heap.size := (Array.getElem?_eq_some_iff.1 h).1

/-- What a buffer holds: its parameters, its values, how many values were added. -/
structure St where
  k : Nat
  f : Nat
  l : Nat
  V : List Int
  n : Nat
structure St.Ok (s : St) : Prop where
  k0 : 40 ≤ s.k
  k1 : s.k ≤ 6144
  f1 : s.f < s.k
  l1 : 1 ≤ s.l
  len : s.V.length = 3 * (s.k + 4)
  soft : softB s.V = true
theorem St.Ok.okB {s : St} (h : s.Ok) : okB (s.k : Int) (s.f : Int) (s.l : Int) = true := okB_of h.k0 h.k1 h.f1 h.l1
/-- The cells of a buffer. -/
def bufC (k f l n : Int) (A : Option Addr) (N c : Nat) : Array Value := #[.int .i64 k, .int .i64 f, .int .i64 l, .slice A N c, .int .i64 n]
section
variable {w : World} {B : Nat} {k f l n : Int} {A : Option Addr} {N c : Nat} {t : TypeId} (h : w.heap[B]? = some (.cells (bufC k f l n A N c) t))
include h
theorem bufC.c0 : w.cell? ⟨B, 0, none⟩ = some (.int .i64 k) := blk_cell h rfl
theorem bufC.c1 : w.cell? ⟨B, 1, none⟩ = some (.int .i64 f) := blk_cell h rfl
theorem bufC.c2 : w.cell? ⟨B, 2, none⟩ = some (.int .i64 l) := blk_cell h rfl
theorem bufC.c3 : w.cell? ⟨B, 3, none⟩ = some (.slice A N c) := blk_cell h rfl
theorem bufC.c4 : w.cell? ⟨B, 4, none⟩ = some (.int .i64 n) := blk_cell h rfl
end
/-- Block B is a buffer in the state s; its N values lie at A. -/
structure BufAt (w : World) (B : Nat) (s : St) (A : Option Addr) (N c : Nat) : Prop where
  blk : w.heap[B]? = some (.cells (bufC s.k s.f s.l s.n A N c) 49)
  row : w.ownsRow 0 3 1 (.slice A N c) N (s.V.map (Value.int .i64))
  len : N = 3 * (s.k + 4)
  ok : s.Ok
  low : 1 < B
section
variable {w w' : World} {B : Nat} {s : St} {A : Option Addr} {N c : Nat}
theorem BufAt.lt (h : BufAt w B s A N c) : B < w.heap.size := blk_lt h.blk
theorem BufAt.pos (h : BufAt w B s A N c) : 132 ≤ N ∧ N ≤ 18444 := by have := h.len; have := h.ok.k0; have := h.ok.k1; omega
theorem BufAt.rd (h : BufAt w B s A N c) : Rd .i64 w w.heap.size A N s.V := Rd.of_own h.row
theorem BufAt.addr (h : BufAt w B s A N c) : ∃ g, A = some ⟨g, 0, none⟩ ∧ g ≠ B ∧ g < w.heap.size ∧ N ≤ c := by
  rcases h.row.2 with ⟨h1, h2⟩ | ⟨g, cap, cur, h1, _, h3, h4, _⟩
  · exfalso
    have h5 := h.row.1
    have := h.pos
    rw [h2] at h5
    simp at h5
    omega
  · injection h1 with e1 e2 e3
    subst e1 e3
    refine ⟨g, rfl, fun e => ?_, blk_lt h3, h4⟩
    subst e
    have := h.blk.symm.trans h3
    simp at this
/-- What keeps the buffer's block and its row keeps the buffer. -/
theorem BufAt.save {X : Nat → Prop} (h : BufAt w B s A N c) (hs : Save X w w') (hB : ¬ X B) (hA : ∀ a, A = some a → ¬ X a.block) : BufAt w' B s A N c :=
  ⟨hs.heap h.blk hB, ownsRow_save h.row hs (fun g hg => by
    obtain ⟨g', rfl, _⟩ := h.addr
    have : g' = g := by simpa [Value.ownBlock] using hg
    subst this
    exact hA _ rfl), h.len, h.ok, h.low⟩
theorem BufAt.below (h : BufAt w B s A N c) (hb : Below w.heap.size w w') : BufAt w' B s A N c :=
  h.save (X := fun _ => False) (Save.of_below hb) (fun h => h) (fun _ _ h => h)
/-- Another buffer's step keeps this one. -/
theorem BufAt.other {B2 : Nat} {s2 : St} {A2 : Option Addr} {N2 c2 : Nat} (h : BufAt w B s A N c) (h2 : BufAt w B2 s2 A2 N2 c2) (hne : B ≠ B2) (hs : Save (fun k => k = B2) w w') : BufAt w' B s A N c := by
  refine h.save hs hne (fun a ha => ?_)
  obtain ⟨g, cap, cur, h1, _, h3, _⟩ := (h.row.2).resolve_left (fun h0 => by
    obtain ⟨g, hg, _⟩ := h.addr
    rw [hg] at h0
    cases h0.1)
  injection h1 with e1
  rw [ha] at e1
  injection e1 with e1
  subst e1
  intro e
  have e : g = B2 := e
  subst e
  have := h2.blk.symm.trans h3
  simp [bufC] at this
end
/-- The zero buffer. -/
def ZeroAt (w : World) (B : Nat) : Prop := w.heap[B]? = some (.cells (bufC 0 0 0 0 none 0 0) 49)

set_option maxRecDepth 100000 in
theorem isNone_nil {w : World} : Calls Tryd.prog 36 #[.pointer none] w fun e w' => e = .returned (.bool true) ∧ w' = w := by
  go_enter Tryd.func36, Tryd.ntmps36
  go_wp2
  go_ret
  exact ⟨rfl, rfl⟩
set_option maxRecDepth 100000 in
theorem isNone_zero {w : World} {B : Nat} (h : ZeroAt w B) : Calls Tryd.prog 36 #[.pointer (some ⟨B, 0, none⟩)] w fun e w' => e = .returned (.bool true) ∧ w' = w := by
  have c3 := bufC.c3 h
  clear h
  go_enter Tryd.func36, Tryd.ntmps36
  go_wp2
  go_ret
  exact ⟨rfl, rfl⟩
set_option maxRecDepth 100000 in
theorem isNone_buf {w : World} {B : Nat} {s : St} {A : Option Addr} {N c : Nat} (h : BufAt w B s A N c) : Calls Tryd.prog 36 #[.pointer (some ⟨B, 0, none⟩)] w fun e w' => e = .returned (.bool false) ∧ w' = w := by
  have c3 := bufC.c3 h.blk
  have hN := h.pos.1
  have hz : ((N : Int) == 0) = false := by simp; omega
  clear h
  go_enter Tryd.func36, Tryd.ntmps36
  go_wp2
  go_ret
  exact ⟨rfl, rfl⟩
set_option maxRecDepth 100000 in
theorem areInRange_any {k f l : Int} {w : World} : Calls Tryd.prog 30 #[.agg #[.int .i64 k, .int .i64 f, .int .i64 l]] w fun e w' => e = .returned (.bool (okB k f l)) ∧ Below w.heap.size w w' := by
  have hS := Lib.hid (fun (u : World) => Start_any (k := k) (l := l) (v := 0) (w := u))
  have hb := (Below.refl w.heap.size w).alloc (Nat.le_refl _) (.cells #[.int .i64 k, .int .i64 f, .int .i64 l] 47)
  have hr : Hid (okB k f l = ((startS k l 0).2 == 0 && (decide (0 ≤ f) && decide (f < k)))) := Lib.hid (by
    unfold startS okB okV
    by_cases h : (decide (40 ≤ k) && decide (k ≤ 6144) && decide (0 ≤ (0 : Int)) && decide ((0 : Int) < k) && decide (1 ≤ l)) = true
    · rw [if_pos (by rw [h]; rfl)]
      simp at h
      simp [h]
    · rw [if_neg (fun h2 => h (by simpa using h2))]
      simp at h ⊢
      omega)
  rw [hr.out]
  generalize (startS k l 0).1 = a at *
  generalize (startS k l 0).2 = e at *
  clear hr
  have HB := Lib.hid hb
  clear hb
  by_cases he : e = 0
  · subst he
    by_cases hf : 0 ≤ f
    · go_enter Tryd.func30, Tryd.ntmps30
      go_wp2_with (refine (hS.out _).mono ?_; rintro e w ⟨rfl, rfl⟩)
      go_ret
      exact ⟨ret_bool (by simp [hf]), HB.out⟩
    · have hf' : decide (0 ≤ f) = false := by simpa using hf
      go_enter Tryd.func30, Tryd.ntmps30
      go_wp2_with (refine (hS.out _).mono ?_; rintro e w ⟨rfl, rfl⟩)
      go_ret
      exact ⟨ret_bool (by simp [hf']), HB.out⟩
  · have he' : (e == 0) = false := by simpa using he
    go_enter Tryd.func30, Tryd.ntmps30
    go_wp2_with (refine (hS.out _).mono ?_; rintro e w ⟨rfl, rfl⟩)
    go_ret
    exact ⟨ret_bool (by simp [he']), HB.out⟩
set_option maxRecDepth 100000 in
theorem selection_dm {k f l rv e : Int} {w : World} (hK : KCol w) :
    Calls Tryd.prog 40 #[.agg #[.int .i64 k, .int .i64 f, .int .i64 l], .int .i64 rv, .int .i64 e] w (RetQ .i64 3 w (posS k f l rv e)) := by
  have hb := (Below.refl w.heap.size w).alloc (Nat.le_refl _) (.cells #[.int .i64 k, .int .i64 f, .int .i64 l] 47)
  have hP := Lib.hid (Positions_any (k := k) (f := f) (l := l) (v := rv) (e := e) (hK.alloc (.cells #[.int .i64 k, .int .i64 f, .int .i64 l] 47)))
  have HB := Lib.hid hb
  clear hb hK
  generalize posS k f l rv e = r at *
  obtain ⟨xs, no⟩ := r
  go_enter Tryd.func40, Tryd.ntmps40
  go_wp2_with fail
  refine hP.out.mono ?_
  rintro e w1 ⟨A, c, rfl, o, b⟩
  have HO := Lib.hid (o.mono HB.out.size)
  have HB2 := Lib.hid (HB.out.trans (b.mono HB.out.size))
  clear o b hP
  try dsimp only
  go_wp2_with fail
  go_ret2
  exact ⟨A, c, rfl, HO.out, HB2.out⟩
end

/-! ### cut: the three streams of a slice. -/
section
open Go.RowKit Go.Shelf

theorem slice3 {g N c a b m : Nat} (hab : a + m = b) (hb : b ≤ c) (hm : 0 < m) (u : World) : (Instr.slice 28 (.slice (some ⟨g, 0, none⟩) N c) (some (.int .i64 (a : Int))) (some (.int .i64 (b : Int))) (some (.int .i64 (b : Int)))).run Tryd.prog u = .ok (.slice (some ⟨g, a, none⟩) m m) u := by
  have e : b - a = m := by omega
  have h1 : a ≤ b := by omega
  have h2 : ¬ b = a := by omega
  by_cases e0 : a = 0
  · subst e0
    obtain rfl : m = b := by omega
    simp [Instr.slice, Instr.sliceBounds, Instr.sliceBound, run_underlying Tryd.underlying28, asIntOf, go_sem, hb, Addr.add]
  · simp [Instr.slice, Instr.sliceBounds, Instr.sliceBound, run_underlying Tryd.underlying28, asIntOf, go_sem, h1, hb, h2, Addr.add, e0, e]
/-- The value of the three streams. -/
def cutV (g L : Nat) : Value := .agg #[.slice (some ⟨g, 0, none⟩) L L, .slice (some ⟨g, L, none⟩) L L, .slice (some ⟨g, L + L, none⟩) L L]
theorem cut_results {W : World} {tmps : Array Value} {X g L : Nat} {t : TypeId} (h4 : tmps.getD 4 undef = .pointer (some ⟨X, 0, none⟩)) (hT : Three W X t (.slice (some ⟨g, 0, none⟩) L L) (.slice (some ⟨g, L, none⟩) L L) (.slice (some ⟨g, L + L, none⟩) L L)) :
    (results Tryd.f38 tmps).run Tryd.prog W = .ok (cutV g L) W := by
  have c0 := hT.cell0
  have c1 := hT.cell1
  have c2 := hT.cell2
  simp only [Array.getD_eq_getD_getElem?] at h4
  unfold cutV
  simp [results, Tryd.results38, go_sem, h4, c0, c1, c2]
set_option maxRecDepth 100000 in
set_option maxHeartbeats 2000000 in
theorem cut_any {k f l : Int} {g N c L : Nat} {w : World} (hk : k + 4 = (L : Int)) (h1 : 44 ≤ L) (h2 : L ≤ 6148) (hc : 3 * L ≤ c) :
    Calls Tryd.prog 38 #[.agg #[.int .i64 k, .int .i64 f, .int .i64 l], .slice (some ⟨g, 0, none⟩) N c] w fun e w' => e = .returned (cutV g L) ∧ Below w.heap.size w w' := by
  obtain ⟨L2, hL2⟩ : ∃ L2, L + L = L2 := ⟨_, rfl⟩
  obtain ⟨L3, hL3⟩ : ∃ L3, 3 * L = L3 := ⟨_, rfl⟩
  have s0 := fun u => slice3 (g := g) (N := N) (c := c) (a := 0) (b := L) (m := L) (by omega) (by omega) (by omega) u
  have s1 := fun u => slice3 (g := g) (N := N) (c := c) (a := L) (b := L2) (m := L) (by omega) (by omega) (by omega) u
  have s2 := fun u => slice3 (g := g) (N := N) (c := c) (a := L2) (b := L3) (m := L) (by omega) (by omega) (by omega) u
  have m2 : 2 * (L : Int) = (L2 : Int) := by omega
  have m3 : 3 * (L : Int) = (L3 : Int) := by omega
  have l1 : (L : Int) ≤ 6148 := by omega
  have l2 : (L2 : Int) ≤ 12296 := by omega
  have l3 : (L3 : Int) ≤ 18444 := by omega
  have k0 : 40 ≤ k := by omega
  have k1 : k ≤ 6144 := by omega
  rw [show (((0 : Nat) : Int)) = 0 from rfl] at s0
  obtain ⟨w1, hw1⟩ : ∃ W, W = w.alloc (.cells #[.int .i64 k, .int .i64 f, .int .i64 l] 47) := ⟨_, rfl⟩
  obtain ⟨w2, hw2⟩ : ∃ W, W = w1.alloc (.cells #[.slice none 0 0, .slice none 0 0, .slice none 0 0] 73) := ⟨_, rfl⟩
  obtain ⟨w3, hw3⟩ : ∃ W, W = w2.alloc (.cells #[.slice none 0 0, .slice none 0 0, .slice none 0 0] 73) := ⟨_, rfl⟩
  have hb3 : Below w.heap.size w w3 := by
    subst hw3 hw2 hw1
    exact (((Below.refl _ w).alloc (Nat.le_refl _) _).alloc (by simp) _).alloc (by simp; omega) _
  have hsz : w3.heap.size = w.heap.size + 3 := by subst hw3 hw2 hw1; simp
  have hT1 : Three w3 (w.heap.size + 1) 73 (.slice none 0 0) (.slice none 0 0) (.slice none 0 0) := by
    have h := (Three.new w1 73 (.slice none 0 0) (.slice none 0 0) (.slice none 0 0)).alloc (.cells #[.slice none 0 0, .slice none 0 0, .slice none 0 0] 73)
    rw [← hw2, ← hw3, show w1.heap.size = w.heap.size + 1 by rw [hw1]; simp] at h
    exact h
  have hT2 : Three w3 (w.heap.size + 2) 73 (.slice none 0 0) (.slice none 0 0) (.slice none 0 0) := by
    have h := Three.new w2 73 (.slice none 0 0) (.slice none 0 0) (.slice none 0 0)
    rw [← hw3, show w2.heap.size = w.heap.size + 2 by rw [hw2, hw1]; simp] at h
    exact h
  have hX : ∃ X, X = w.heap.size + 2 := ⟨_, rfl⟩
  have HT : Hid (Three w3 (w.heap.size + 1) 73 (.slice none 0 0) (.slice none 0 0) (.slice none 0 0)) := Lib.hid hT1
  have HT2 : Hid (Three w3 (w.heap.size + 2) 73 (.slice none 0 0) (.slice none 0 0) (.slice none 0 0)) := Lib.hid hT2
  have HB := Lib.hid hb3
  subst hw3 hw2 hw1
  have HL := Lib.hid hL2
  clear hT1 hT2 hb3 hsz h1 h2 hc hL2 hL3 hX
  go_enter Tryd.func38, Tryd.ntmps38
  go_wp2_with fail
  go_loopw [13] (fun i wr => ∃ x y z, ((i = .int .i64 0 ∧ x = .slice none 0 0 ∧ y = .slice none 0 0 ∧ z = .slice none 0 0) ∨ (i = .int .i64 1 ∧ x = .slice (some ⟨g, 0, none⟩) L L ∧ y = .slice none 0 0 ∧ z = .slice none 0 0) ∨
      (i = .int .i64 2 ∧ x = .slice (some ⟨g, 0, none⟩) L L ∧ y = .slice (some ⟨g, L, none⟩) L L ∧ z = .slice none 0 0) ∨ (i = .int .i64 3 ∧ x = .slice (some ⟨g, 0, none⟩) L L ∧ y = .slice (some ⟨g, L, none⟩) L L ∧ z = .slice (some ⟨g, L2, none⟩) L L)) ∧
      Hid (Three wr (w.heap.size + 2) 73 x y z) ∧ Hid (Three wr (w.heap.size + 1) 73 (.slice none 0 0) (.slice none 0 0) (.slice none 0 0)) ∧ Hid (Below w.heap.size w wr)) (fun i _ => 3 - (intOf i).toNat)
  case atStart => exact ⟨_, _, _, .inl ⟨rfl, rfl, rfl, rfl⟩, HT2, HT, HB⟩
  case round =>
    obtain ⟨x, y, z, hc, T2, T1, hb⟩ := hrel
    have c0 := T2.out.cell0
    have c1 := T2.out.cell1
    have c2 := T2.out.cell2
    have f0 := T2.out.frozen 0
    have f1 := T2.out.frozen 1
    have f2 := T2.out.frozen 2
    rcases hc with ⟨rfl, rfl, rfl, rfl⟩ | ⟨rfl, rfl, rfl, rfl⟩ | ⟨rfl, rfl, rfl, rfl⟩ | ⟨rfl, rfl, rfl, rfl⟩
    · go_wp2_with fail
      go_roundw
      case rel => exact ⟨_, _, _, .inr (.inl ⟨by go_num, rfl, rfl, rfl⟩), Lib.hid (T2.out.set0 _), Lib.hid (T1.out.other (by simp) _), Lib.hid (hb.out.setCell (show w.heap.size ≤ w.heap.size + 2 by omega) _)⟩
      case measure => simp [intOf]
    · go_wp2_with fail
      go_roundw
      case rel => exact ⟨_, _, _, .inr (.inr (.inl ⟨by go_num, rfl, rfl, rfl⟩)), Lib.hid (T2.out.set1 _), Lib.hid (T1.out.other (by simp) _), Lib.hid (hb.out.setCell (show w.heap.size ≤ w.heap.size + 2 by omega) _)⟩
      case measure => simp [intOf]
    · go_wp2_with fail
      go_roundw
      case rel => exact ⟨_, _, _, .inr (.inr (.inr ⟨by go_num, rfl, rfl, rfl⟩)), Lib.hid (T2.out.set2 _), Lib.hid (T1.out.other (by simp) _), Lib.hid (hb.out.setCell (show w.heap.size ≤ w.heap.size + 2 by omega) _)⟩
      case measure => simp [intOf]
    · have d0 := T1.out.cell0
      have d1 := T1.out.cell1
      have d2 := T1.out.cell2
      have e0 := T1.out.frozen 0
      have e1 := T1.out.frozen 1
      have e2 := T1.out.frozen 2
      go_wp2_with fail
      obtain rfl := HL.out
      have hle : w.heap.size ≤ w.heap.size + 1 := Nat.le_succ _
      exact bodyPost_ret (cut_results (X := w.heap.size + 1) rfl (T1.out.put _ _ _)) rfl ⟨rfl, ((hb.out.setCell hle _).setCell hle _).setCell hle _⟩
end
end Go.Proofs.YtoegamlpgenfcaaDoor
