/-
  The walk of TurboLists.
-/
import Derived.Test.YtbpkoilecdejiaaDoorL4
namespace Go.Proofs.YtbpkoilecdejiaaDoor
set_option maxRecDepth 100000
open Go.RowKit

theorem cntF_le (f : Nat → Nat) (x : Nat) : ∀ m, cntF f m x ≤ m
  | 0 => Nat.le_refl 0
  | m + 1 => by
    have := cntF_le f x m
    rw [cntF_succ]
    split <;> omega
theorem metN_le (p : Nat → Nat) (k n m x : Nat) : metN p k n m x ≤ 2 * n + 2 * m := by
  unfold metN
  have := cntF_le (sysN p k 1) x n
  have := cntF_le (parN k 1) x n
  have := cntF_le (sysN p k 2) x m
  have := cntF_le (parN k 2) x m
  omega
theorem metL_length (k n m : Nat) : (metL k n m).length = 3 * (k + 4) := by simp [metL]
/-- The list of counts. -/
def CntI (w : World) (D N k n m : Nat) (V : World) : Prop := V.ownsRow w.heap.size 3 1 (.slice (some ⟨D, 0, none⟩) N N) N ((metL k n m).map (Value.int .i64)) ∧ Below w.heap.size w V
theorem CntI.below {w V V' : World} {D N k n m : Nat} (h : CntI w D N k n m V) (hb : Below V.heap.size V V') : CntI w D N k n m V' :=
  ⟨ownsRow_block h.1 (fun g hg => hb.block g (h.1.lt g hg).2), h.2.trans (hb.mono h.2.size)⟩
theorem CntI.cellAt {w V : World} {D N k n m x : Nat} (h : CntI w D N k n m V) (hN : N = 3 * (k + 4)) (hx : x < N) : V.cell? ⟨D, x, none⟩ = some (.int .i64 (metN (piK k) k n m x : Nat)) := by
  have hl := metL_length k n m
  rw [World.ownsRow.cellAt h.1 x (by omega), List.getElem?_map, List.getElem?_eq_getElem (by rw [hl]; omega)]
  have := metL_get (k := k) (n := n) (m := m) (j := x) (by omega)
  rw [List.getElem?_eq_getElem (by rw [hl]; omega)] at this
  exact congrArg (fun z => some (Value.int .i64 z)) this
theorem CntI.low {w V : World} {D N k n m : Nat} (h : CntI w D N k n m V) (_ : N = 3 * (k + 4)) : w.heap.size ≤ D ∧ D < V.heap.size := h.1.lt D rfl
theorem CntI.one {w V : World} {D N k n m x y : Nat} (h : CntI w D N k n m V) (hs : IsSize k) (hN : N = 3 * (k + 4)) (hi : n < k + 3) (ex : sysN (piK k) k 1 n = x) (ey : parN k 1 n = y) :
    V.cell? ⟨D, x, none⟩ = some (.int .i64 (metN (piK k) k n m x : Nat)) ∧ V.frozen? ⟨D, x, none⟩ = false ∧
    (V.setCell ⟨D, x, none⟩ (.int .i64 ((metN (piK k) k n m x : Nat) + 1))).cell? ⟨D, y, none⟩ = some (.int .i64 (metN (piK k) k n m y : Nat)) ∧ (V.setCell ⟨D, x, none⟩ (.int .i64 ((metN (piK k) k n m x : Nat) + 1))).frozen? ⟨D, y, none⟩ = false ∧
    CntI w D N k (n + 1) (m) ((V.setCell ⟨D, x, none⟩ (.int .i64 ((metN (piK k) k n m x : Nat) + 1))).setCell ⟨D, y, none⟩ (.int .i64 ((metN (piK k) k n m y : Nat) + 1))) := by
  have hx := (sysN_lt (p := piK k) (k := k) (code := 1) (i := n) (fun j _ => piK_lt hs j) (by decide)).1
  have hy := parN_lt (k := k) (code := 1) (i := n) (by decide)
  have hne := sys_ne_par (code := 1) hs (by decide) hi
  have hm := met_one (n := n) (m := m) hx hy hne
  rw [ex] at hx hne hm
  rw [ey] at hy hne hm
  have o1 := (World.ownsRow.stored h.1 x (.int .i64 ((metN (piK k) k n m x : Nat) + 1))).1
  rw [← List.map_set] at o1
  have o2 := (World.ownsRow.stored o1 y (.int .i64 ((metN (piK k) k n m y : Nat) + 1))).1
  rw [← List.map_set, hm] at o2
  refine ⟨h.cellAt hN (by omega), h.1.frozenAt x, ?_, o1.frozenAt y, o2, (h.2.setCell (p := ⟨D, x, none⟩) (h.low hN).1 _).setCell (p := ⟨D, y, none⟩) (h.low hN).1 _⟩
  rw [World.cell?_setCell_other V ⟨D, x, none⟩ ⟨D, y, none⟩ _ (fun e => hne (by injection e))]
  exact h.cellAt hN (by omega)
theorem CntI.two {w V : World} {D N k n m x y : Nat} (h : CntI w D N k n m V) (hs : IsSize k) (hN : N = 3 * (k + 4)) (hi : m < k + 3) (ex : sysN (piK k) k 2 m = x) (ey : parN k 2 m = y) :
    V.cell? ⟨D, x, none⟩ = some (.int .i64 (metN (piK k) k n m x : Nat)) ∧ V.frozen? ⟨D, x, none⟩ = false ∧
    (V.setCell ⟨D, x, none⟩ (.int .i64 ((metN (piK k) k n m x : Nat) + 1))).cell? ⟨D, y, none⟩ = some (.int .i64 (metN (piK k) k n m y : Nat)) ∧ (V.setCell ⟨D, x, none⟩ (.int .i64 ((metN (piK k) k n m x : Nat) + 1))).frozen? ⟨D, y, none⟩ = false ∧
    CntI w D N k (n) (m + 1) ((V.setCell ⟨D, x, none⟩ (.int .i64 ((metN (piK k) k n m x : Nat) + 1))).setCell ⟨D, y, none⟩ (.int .i64 ((metN (piK k) k n m y : Nat) + 1))) := by
  have hx := (sysN_lt (p := piK k) (k := k) (code := 2) (i := m) (fun j _ => piK_lt hs j) (by decide)).1
  have hy := parN_lt (k := k) (code := 2) (i := m) (by decide)
  have hne := sys_ne_par (code := 2) hs (by decide) hi
  have hm := met_two (n := n) (m := m) hx hy hne
  rw [ex] at hx hne hm
  rw [ey] at hy hne hm
  have o1 := (World.ownsRow.stored h.1 x (.int .i64 ((metN (piK k) k n m x : Nat) + 1))).1
  rw [← List.map_set] at o1
  have o2 := (World.ownsRow.stored o1 y (.int .i64 ((metN (piK k) k n m y : Nat) + 1))).1
  rw [← List.map_set, hm] at o2
  refine ⟨h.cellAt hN (by omega), h.1.frozenAt x, ?_, o1.frozenAt y, o2, (h.2.setCell (p := ⟨D, x, none⟩) (h.low hN).1 _).setCell (p := ⟨D, y, none⟩) (h.low hN).1 _⟩
  rw [World.cell?_setCell_other V ⟨D, x, none⟩ ⟨D, y, none⟩ _ (fun e => hne (by injection e))]
  exact h.cellAt hN (by omega)
/-- Layout of a block size, with lists of its own. -/
theorem lay_own {m c : Nat} {w : World} (hK : Kinds w) (hs : IsSize m) (hc : c = 1 ∨ c = 2) :
    Calls Tryd.prog 21 #[.int .i64 (m : Int), .int .i64 (c : Int)] w fun e w' => ∃ A c1 A' c1', e = .returned (.tuple #[.slice A (m + 3) c1, .slice A' (m + 3) c1', .int .i64 0]) ∧ (Rd .i64 w' w'.heap.size A (m + 3) (sysL m c (m + 3)) ∧ Rd .i64 w' w'.heap.size A' (m + 3) (parLay m c (m + 3))) ∧ ((∀ a, A = some a → w.heap.size ≤ a.block) ∧ (∀ a, A' = some a → w.heap.size ≤ a.block)) ∧ Below w.heap.size w w' := by
  obtain ⟨e1, e2, e3, e4⟩ := lyS_size hs hc
  have hL := Layout_any (k := (m : Int)) (c := (c : Int)) hK
  unfold RetLay at hL
  rw [e1, e2, e3, e4] at hL
  refine hL.mono ?_
  rintro e w' ⟨A, c1, A', c1', rfl, ⟨A2, c2, h1, h2, g1, h3⟩, ⟨A4, c4, h4, h5, g2, h6⟩, hb⟩
  injection h1 with h1 _ h1'
  injection h4 with h4 _ h4'
  subst h1 h1' h4 h4'
  exact ⟨_, _, _, _, rfl, ⟨h2, h5⟩, ⟨g1, g2⟩, hb⟩
/-- What stays readable when D is written. -/
theorem Rd.far {q : IntKind} {V : World} {A : Option Addr} {n D j B : Nat} {xs : List Int} (h : Rd q V V.heap.size A n xs) (hf : ∀ a, A = some a → B ≤ a.block) (hD : D < B) (v : Value) : Rd q (V.setCell ⟨D, j, none⟩ v) (V.setCell ⟨D, j, none⟩ v).heap.size A n xs :=
  (h.block (fun a e => Below.heap_setCell _ _ _ _ (show a.block ≠ D by have := hf a e; omega))).more (by simp [World.setCell])
set_option maxHeartbeats 16000000 in
theorem lists_walk {z : Nat} {w : World} (hKi : Kinds w) (hz : z ≤ 255) :
    Calls Tryd.prog 7 #[.int .u8 (z : Int)] w fun e w' => e = .returned (.bool true) ∧ Below w.heap.size w w' := by
  have hK := Lib.hid (fun (v : World) (h : Below w.heap.size w v) => works_to hKi h)
  have hmod : (z : Int).tmod 60 = ((z % 60 : Nat) : Int) := by rw [IntWalk.rem_in _ _ (by omega)]; omega
  have hkk : (40 : Int) + 8 * ((z % 60 : Nat) : Int) = ((sizeK z : Nat) : Int) := by unfold sizeK; omega
  have hk5 := sizeK_le z
  have hk4 : 40 ≤ sizeK z := by unfold sizeK; omega
  have hr := Nat.mod_lt z (show 0 < 60 by decide)
  have hs := Lib.hid (size_K z)
  generalize sizeK z = k at *
  generalize z % 60 = r at *
  have hL := Lib.hid (fun (v : World) (c : Nat) (hc : c = 1 ∨ c = 2) (hB : Below w.heap.size w v) => lay_own (c := c) (hKi.step hB) hs.out hc)
  obtain ⟨N, hN⟩ : ∃ N, 3 * (k + 4) = N := ⟨_, rfl⟩
  have hN1 : (3 : Int) * ((k : Int) + 4) = (N : Int) := by omega
  have hmk : ∀ u : World, (Instr.makeSlice 36 (.int .i64 (N : Int)) (.int .i64 (N : Int))).run Tryd.prog u = .ok (.slice (some ⟨u.heap.size, 0, none⟩) N N) (u.alloc (.cells (madeCells #[.int .i64 0] N) 3)) := make_ints N (by omega)
  have HZ : Hid (CntI w w.heap.size N k 0 0 (w.alloc (.cells (madeCells #[.int .i64 0] N) 3))) := Lib.hid ⟨by
    rw [metL_zero, hN]; exact own_zeros_q (Nat.le_refl _) (by omega), (Below.refl _ w).alloc (Nat.le_refl _) _⟩
  have HN := Lib.hid hN.symm
  have hN5 : N ≤ 1548 := by omega
  have hz0 : (0 : Int) ≤ (z : Int) := by omega
  have hz1 : (z : Int) ≤ 255 := by omega
  have hr0 : (0 : Int) ≤ (r : Int) := by omega
  have hr1 : (r : Int) < 60 := by omega
  have k0 : (40 : Int) ≤ (k : Int) := by omega
  have k1 : (k : Int) ≤ 512 := by omega
  obtain ⟨D, hD⟩ : ∃ D, w.heap.size = D := ⟨_, rfl⟩
  have HD := Lib.hid hD
  have hhd := hD
  clear hKi hN hr hhd
  go_enter Tryd.func7, Tryd.ntmps7
  go_wp2_with fail
  rw [hD] at HZ
  generalize w.alloc (.cells (madeCells #[.int .i64 0] N) 3) = W0 at *
  clear hD hmk
  go_loopw [5] (fun x W => ∃ cd : Nat, cd ≤ 2 ∧ x = .int .i64 ((cd : Int) + 1) ∧ Hid (CntI w D N k (if cd = 0 then 0 else k + 3) (if cd = 2 then k + 3 else 0) W)) (fun x _ => 4 - (intOf x).toNat)
  case atStart => exact ⟨0, by decide, rfl, HZ⟩
  case round =>
    clear HZ
    obtain ⟨cd, hcd, rfl, hH⟩ := hrel
    have h012 : cd = 0 ∨ cd = 1 ∨ cd = 2 := by omega
    rcases h012 with rfl | rfl | rfl
    · replace hH : Hid (CntI w D N k (0) (0) wr) := hH
      have C := Lib.hid (hL.out wr 1 (by decide) hH.out.2)
      go_wp2_with fail
      refine C.out.mono ?_
      rintro e w1 ⟨A, c1, A', c1', rfl, ⟨R, R'⟩, ⟨f1, f2⟩, hb1⟩
      have hDl := (hH.out.low HN.out).2
      have H1 := Lib.hid (And.intro (hH.out.below hb1) (And.intro R R'))
      have HF := Lib.hid (And.intro (And.intro f1 f2) hDl)
      clear C hH R R' f1 f2 hb1 hDl
      go_wp2_with (go_at_call 14; refine num_any.mono ?_; rintro e wn ⟨rfl, he⟩; obtain rfl := he.symm)
      go_loopw [9] (fun x V => ∃ i : Nat, i ≤ k + 3 ∧ x = .int .i64 (i : Int) ∧ Hid (CntI w D N k (i) (0) V ∧ Rd .i64 V V.heap.size A (k + 3) (sysL k 1 (k + 3)) ∧ Rd .i64 V V.heap.size A' (k + 3) (parLay k 1 (k + 3)))) (fun x _ => k + 3 - (intOf x).toNat)
      case atStart => exact ⟨0, Nat.zero_le _, rfl, H1⟩
      case round =>
        clear H1
        obtain ⟨i, hi, rfl, hH⟩ := hrel
        by_cases hlt : i < k + 3
        · have hlx := sysN_lt (p := piK k) (k := k) (code := 1) (i := i) (fun j _ => piK_lt hs.out j) (by decide)
          have hly := parN_lt (k := k) (code := 1) (i := i) (by decide)
          obtain ⟨b1, o1, e1, hl1, hc1⟩ := hH.out.2.1.cells i hlt
          obtain ⟨b2, o2, e2, hl2, hc2⟩ := hH.out.2.2.cells i hlt
          rw [sysL_get hlt] at hc1
          rw [parLay_get hlt] at hc2
          have hd1 : D < b1 := by have := HF.out.1.1 _ e1; have := HF.out.2; simp only at *; omega
          have hd2 : D < b2 := by have := HF.out.1.2 _ e2; have := HF.out.2; simp only at *; omega
          subst e1 e2
          obtain ⟨x, hx⟩ : ∃ x, sysN (piK k) k 1 i = x := ⟨_, rfl⟩
          obtain ⟨y, hy⟩ : ∃ y, parN k 1 i = y := ⟨_, rfl⟩
          obtain ⟨q1, q2, q3, q4, q5⟩ := hH.out.1.one hs.out HN.out hlt hx hy
          rw [hx] at hc1 hlx
          rw [hy] at hc2 hly
          have u1 := metN_le (piK k) k (i) (0) x
          have u2 := metN_le (piK k) k (i) (0) y
          rw [← HN.out] at hlx hly
          generalize metN (piK k) k (i) (0) x = u at *
          generalize metN (piK k) k (i) (0) y = v at *
          have r1 := (hH.out.2.1.far HF.out.1.1 HF.out.2 (.int .i64 ((u : Int) + 1)) (j := x)).far HF.out.1.1 HF.out.2 (.int .i64 ((v : Int) + 1)) (j := y)
          have r2 := (hH.out.2.2.far HF.out.1.2 HF.out.2 (.int .i64 ((u : Int) + 1)) (j := x)).far HF.out.1.2 HF.out.2 (.int .i64 ((v : Int) + 1)) (j := y)
          have hc3 : (wr.setCell ⟨D, x, none⟩ (.int .i64 ((u : Int) + 1))).cell? ⟨b2, o2 + i, none⟩ = some (.int .i64 (y : Int)) := by
            rw [World.cell?_setCell_other wr ⟨D, x, none⟩ ⟨b2, o2 + i, none⟩ _ (fun e => by injection e with e; omega)]
            exact hc2
          have H2 := Lib.hid (And.intro q5 (And.intro r1 r2))
          have hi0 : (0 : Int) ≤ (i : Int) := by omega
          have hi1 : (i : Int) < (k : Int) + 3 := by omega
          have x0 : (0 : Int) ≤ (x : Int) := by omega
          have x1 : (x : Int) < (N : Int) := by omega
          have y0 : (0 : Int) ≤ (y : Int) := by omega
          have y1 : (y : Int) < (N : Int) := by omega
          have u0 : (0 : Int) ≤ (u : Int) := by omega
          have u3 : (u : Int) ≤ 4000 := by omega
          have v0 : (0 : Int) ≤ (v : Int) := by omega
          have v3 : (v : Int) ≤ 4000 := by omega
          by_cases hik : i < k
          · have hik1 : (i : Int) < (k : Int) := by omega
            have hxk : (x : Int) < (k : Int) := by have := hlx.2 hik; omega
            clear hH hlx hly q5 r1 r2 hx hy u1 u2 hd1 hd2 HF hL hl1 hl2 hlt
            go_wp2_with fail
            go_roundw
            case rel => exact ⟨i + 1, by omega, by go_num, H2⟩
            case measure => simp [intOf]; omega
          · have hik1 : ¬ (i : Int) < (k : Int) := by omega
            clear hH hlx hly q5 r1 r2 hx hy u1 u2 hd1 hd2 HF hL hl1 hl2 hlt
            go_wp2_with fail
            go_roundw
            case rel => exact ⟨i + 1, by omega, by go_num, H2⟩
            case measure => simp [intOf]; omega
        · obtain rfl : i = k + 3 := by omega
          have H2 : Hid (CntI w D N k (if (1 : Nat) = 0 then 0 else k + 3) (if (1 : Nat) = 2 then k + 3 else 0) wr) := Lib.hid hH.out.1
          clear hH HF hL hlt
          go_wp2_with fail
          go_roundw
          case rel => exact ⟨1, by decide, by go_num, H2⟩
          case measure => simp [intOf]
    · replace hH : Hid (CntI w D N k (k + 3) (0) wr) := hH
      have C := Lib.hid (hL.out wr 2 (by decide) hH.out.2)
      go_wp2_with fail
      refine C.out.mono ?_
      rintro e w1 ⟨A, c1, A', c1', rfl, ⟨R, R'⟩, ⟨f1, f2⟩, hb1⟩
      have hDl := (hH.out.low HN.out).2
      have H1 := Lib.hid (And.intro (hH.out.below hb1) (And.intro R R'))
      have HF := Lib.hid (And.intro (And.intro f1 f2) hDl)
      clear C hH R R' f1 f2 hb1 hDl
      go_wp2_with (go_at_call 14; refine num_any.mono ?_; rintro e wn ⟨rfl, he⟩; obtain rfl := he.symm)
      go_loopw [9] (fun x V => ∃ i : Nat, i ≤ k + 3 ∧ x = .int .i64 (i : Int) ∧ Hid (CntI w D N k (k + 3) (i) V ∧ Rd .i64 V V.heap.size A (k + 3) (sysL k 2 (k + 3)) ∧ Rd .i64 V V.heap.size A' (k + 3) (parLay k 2 (k + 3)))) (fun x _ => k + 3 - (intOf x).toNat)
      case atStart => exact ⟨0, Nat.zero_le _, rfl, H1⟩
      case round =>
        clear H1
        obtain ⟨i, hi, rfl, hH⟩ := hrel
        by_cases hlt : i < k + 3
        · have hlx := sysN_lt (p := piK k) (k := k) (code := 2) (i := i) (fun j _ => piK_lt hs.out j) (by decide)
          have hly := parN_lt (k := k) (code := 2) (i := i) (by decide)
          obtain ⟨b1, o1, e1, hl1, hc1⟩ := hH.out.2.1.cells i hlt
          obtain ⟨b2, o2, e2, hl2, hc2⟩ := hH.out.2.2.cells i hlt
          rw [sysL_get hlt] at hc1
          rw [parLay_get hlt] at hc2
          have hd1 : D < b1 := by have := HF.out.1.1 _ e1; have := HF.out.2; simp only at *; omega
          have hd2 : D < b2 := by have := HF.out.1.2 _ e2; have := HF.out.2; simp only at *; omega
          subst e1 e2
          obtain ⟨x, hx⟩ : ∃ x, sysN (piK k) k 2 i = x := ⟨_, rfl⟩
          obtain ⟨y, hy⟩ : ∃ y, parN k 2 i = y := ⟨_, rfl⟩
          obtain ⟨q1, q2, q3, q4, q5⟩ := hH.out.1.two hs.out HN.out hlt hx hy
          rw [hx] at hc1 hlx
          rw [hy] at hc2 hly
          have u1 := metN_le (piK k) k (k + 3) (i) x
          have u2 := metN_le (piK k) k (k + 3) (i) y
          rw [← HN.out] at hlx hly
          generalize metN (piK k) k (k + 3) (i) x = u at *
          generalize metN (piK k) k (k + 3) (i) y = v at *
          have r1 := (hH.out.2.1.far HF.out.1.1 HF.out.2 (.int .i64 ((u : Int) + 1)) (j := x)).far HF.out.1.1 HF.out.2 (.int .i64 ((v : Int) + 1)) (j := y)
          have r2 := (hH.out.2.2.far HF.out.1.2 HF.out.2 (.int .i64 ((u : Int) + 1)) (j := x)).far HF.out.1.2 HF.out.2 (.int .i64 ((v : Int) + 1)) (j := y)
          have hc3 : (wr.setCell ⟨D, x, none⟩ (.int .i64 ((u : Int) + 1))).cell? ⟨b2, o2 + i, none⟩ = some (.int .i64 (y : Int)) := by
            rw [World.cell?_setCell_other wr ⟨D, x, none⟩ ⟨b2, o2 + i, none⟩ _ (fun e => by injection e with e; omega)]
            exact hc2
          have H2 := Lib.hid (And.intro q5 (And.intro r1 r2))
          have hi0 : (0 : Int) ≤ (i : Int) := by omega
          have hi1 : (i : Int) < (k : Int) + 3 := by omega
          have x0 : (0 : Int) ≤ (x : Int) := by omega
          have x1 : (x : Int) < (N : Int) := by omega
          have y0 : (0 : Int) ≤ (y : Int) := by omega
          have y1 : (y : Int) < (N : Int) := by omega
          have u0 : (0 : Int) ≤ (u : Int) := by omega
          have u3 : (u : Int) ≤ 4000 := by omega
          have v0 : (0 : Int) ≤ (v : Int) := by omega
          have v3 : (v : Int) ≤ 4000 := by omega
          by_cases hik : i < k
          · have hik1 : (i : Int) < (k : Int) := by omega
            have hxk : (x : Int) < (k : Int) := by have := hlx.2 hik; omega
            clear hH hlx hly q5 r1 r2 hx hy u1 u2 hd1 hd2 HF hL hl1 hl2 hlt
            go_wp2_with fail
            go_roundw
            case rel => exact ⟨i + 1, by omega, by go_num, H2⟩
            case measure => simp [intOf]; omega
          · have hik1 : ¬ (i : Int) < (k : Int) := by omega
            clear hH hlx hly q5 r1 r2 hx hy u1 u2 hd1 hd2 HF hL hl1 hl2 hlt
            go_wp2_with fail
            go_roundw
            case rel => exact ⟨i + 1, by omega, by go_num, H2⟩
            case measure => simp [intOf]; omega
        · obtain rfl : i = k + 3 := by omega
          have H2 : Hid (CntI w D N k (if (2 : Nat) = 0 then 0 else k + 3) (if (2 : Nat) = 2 then k + 3 else 0) wr) := Lib.hid hH.out.1
          clear hH HF hL hlt
          go_wp2_with fail
          go_roundw
          case rel => exact ⟨2, by decide, by go_num, H2⟩
          case measure => simp [intOf]
    · replace hH : Hid (CntI w D N k (k + 3) (k + 3) wr) := hH
      have HK := Lib.hid (hK.out wr hH.out.2)
      rw [show (((2 : Nat) : Int) + 1) = 3 from rfl]
      obtain ⟨W9, hW9⟩ : ∃ W9, wr = W9 := ⟨_, rfl⟩
      have HV := Lib.hid hW9
      rw [hW9] at hH HK
      clear hL hK hW9
      go_wp2_with fail
      go_loopw [10] (fun x V => ∃ j : Nat, j ≤ N ∧ x = .int .i64 (j : Int) ∧ Hid (V = W9)) (fun x _ => N - (intOf x).toNat)
      case atStart => exact ⟨0, Nat.zero_le _, rfl, HV⟩
      case round =>
        clear HV
        obtain ⟨j, hj, rfl, HV⟩ := hrel
        by_cases hlt : j < N
        · have hc := hH.out.cellAt HN.out hlt
          have hj0 : (0 : Int) ≤ (j : Int) := by omega
          have hj1 : (j : Int) < (N : Int) := by omega
          rw [met_all hs.out (by have := HN.out; omega), ← HV.out] at hc
          by_cases hjk : j < k
          · rw [if_pos hjk] at hc
            have hjk1 : (j : Int) < (k : Int) := by omega
            clear hH HK hjk
            go_wp2_with fail
            go_roundw
            case rel => exact ⟨j + 1, by omega, by go_num, HV⟩
            case measure => simp [intOf]; omega
          · rw [if_neg hjk] at hc
            have hjk1 : ¬ (j : Int) < (k : Int) := by omega
            have hjk2 : (k : Int) ≤ (j : Int) := by omega
            clear hH HK hjk
            go_wp2_with fail
            go_roundw
            case rel => exact ⟨j + 1, by omega, by go_num, HV⟩
            case measure => simp [intOf]; omega
        · obtain rfl : j = N := by omega
          rw [← HV.out] at HK
          clear hH hlt HV
          go_wp2_with fail
          refine HK.out.mono ?_
          rintro e w8 ⟨rfl, hb8⟩
          clear HK
          go_wp2_with fail
          go_ret
          exact ⟨rfl, hb8⟩
end Go.Proofs.YtbpkoilecdejiaaDoor
