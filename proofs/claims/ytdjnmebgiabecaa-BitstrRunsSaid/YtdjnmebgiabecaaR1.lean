/-
  slices.Clone, Runs, the reference's Runs: what each returns; what was there stays.
-/
import Derived.Test.YtdjnmebgiabecaaC1
import Derived.Test.YtdjnmebgiabecaaBits4
import Derived.WalkSpells
import Derived.Deep.QuietTactic
import Derived.BigQuiet
import Derived.Maps.AppendAt
namespace Go.Proofs.Ytdjnmebgiabecaa
open Go.RowKit

set_option maxHeartbeats 1000000 in
theorem clone_any {A : Option Addr} {n c B : Nat} {xs : List Int} {w : World} (hI : Rd .u8 w B A n xs) (hB : B ≤ w.heap.size) (hn : n ≤ 140737488351232) :
    Calls Try.prog 41 #[.slice A n c] w fun e w' => ∃ A2 c2, e = .returned (.slice A2 n c2) ∧
      w'.ownsRow w.heap.size 5 1 (.slice A2 n c2) n (xs.map (Value.int .u8)) ∧ Below w.heap.size w w' := by
  obtain ⟨i0, hi, hz0, hz1, hz2⟩ := info_parts Try.info_u8
  rcases A with _ | a
  · have hm : n = 0 := by
      rcases Nat.eq_zero_or_pos n with h0 | h0
      · exact h0
      · obtain ⟨_, _, h, _⟩ := hI.cells 0 h0
        cases h
    subst hm
    obtain rfl : xs = [] := List.eq_nil_of_length_eq_zero hI.len
    have hnil := fun (u : World) => Lib.run_eql_slice_nil (P := Try.prog) u 22 5 none 0 c 0 0 Try.underlying22
    go_enter Try.func41, Try.ntmps41
    go_wp2
    go_ret
    exact ⟨none, 0, rfl, by simpa using World.ownsRow_nil w w.heap.size 5 1, Below.refl _ _⟩
  · have ho : (w.alloc (.cells #[] 5)).ownsRow w.heap.size 5 1 (.slice (some ⟨w.heap.size, 0, none⟩) 0 0) 0 (([] : List Int).map (Value.int .u8)) :=
      World.ownsRow_lit w #[] 0 (Nat.le_refl _) (by unfold maxLen; omega) (by simp)
    obtain ⟨A3, c3, w3, hrun, hown3, hgrow3⟩ := run_append_rd (P := Try.prog) (t := 22) (ty := 22) (c' := c) Try.underlying22 hi hz0 hz1 hz2 ho (hI.alloc hB _) (by omega) (by simp)
    have hB3 : Below w.heap.size w w3 := ((Below.refl _ w).alloc (Nat.le_refl _) _).grown hgrow3 (by simp) (fun g hg => by simp [Value.ownBlock] at hg; omega)
    simp only [Nat.zero_add, List.nil_append] at hrun hown3
    have hO3 := Lib.hid hown3
    have hRun := Lib.hid hrun
    clear hown3 hrun ho
    have hnil := fun (u : World) => Lib.run_eql_slice_nil (P := Try.prog) u 22 5 (some a) n c 0 0 Try.underlying22
    go_enter Try.func41, Try.ntmps41
    go_wp2_with (at_builtin; refine Lib.wpList_append_run _ rfl _ _ _ _ rfl _ _ rfl rfl _ _ hRun.out ?_)
    go_ret
    exact ⟨A3, c3, rfl, hO3.out, hB3⟩

/-- Runs: the closure over a box that holds a copy. -/
theorem runs_any {A : Option Addr} {n c B : Nat} {xs : List Int} {w : World} (hI : Rd .u8 w B A n xs) (hB : B ≤ w.heap.size) (hn : n ≤ 140737488351232) :
    Calls Try.prog 30 #[.slice A n c] w fun e w' => ∃ A2 c2 Bs, e = .returned (.func (.func 42) #[] #[.pointer (some ⟨Bs, 0, none⟩)]) ∧
      w'.ownsRow w.heap.size 5 1 (.slice A2 n c2) n (xs.map (Value.int .u8)) ∧ Below w.heap.size w w' ∧ w.heap.size ≤ Bs ∧ w'.cell? ⟨Bs, 0, none⟩ = some (.slice A2 n c2) := by
  go_enter Try.func30, Try.ntmps30
  go_wp2_with fail
  refine (clone_any hI hB hn).mono ?_
  rintro e w1 ⟨A2, c2, rfl, hown, hb1⟩
  have hO := Lib.hid hown; clear hown
  go_wp2_with fail
  refine (callsIn_wide.1 (runs_in 6 A2 n c2 w1)).mono ?_
  rintro e w2 ⟨rfl, rfl⟩
  go_wp2
  go_ret
  exact ⟨A2, c2, w1.heap.size, rfl, hO.out.alloc _, hb1.alloc hb1.size _, hb1.size, (Boxed.new w1 22 (.slice A2 n c2)).cell⟩

/-! ### the reference's Runs -/
theorem Try.info_int : (Try.prog.info? 3).map (fun i => (i.zero, i.size, i.bytes)) = some (some (.int .i64 0), 1, 8) := by kernel_rfl

/-- Rows of different element types never share a block. -/
theorem own_apart {w : World} {base base' e e' n n' : Nat} {v v' : Value} {xs xs' : List Value} (h : w.ownsRow base e 1 v n xs) (h' : w.ownsRow base' e' 1 v' n' xs') (hne : e ≠ e') : v.ownBlock = none ∨ v.ownBlock ≠ v'.ownBlock := by
  rcases h.2 with ⟨rfl, _⟩ | ⟨g, cap, cur, rfl, _, hg, _⟩
  · exact .inl rfl
  · refine .inr (fun he => ?_)
    rcases h'.2 with ⟨rfl, _⟩ | ⟨g', cap', cur', rfl, _, hg', _⟩
    · simp [Value.ownBlock] at he
    · simp [Value.ownBlock] at he
      subst he
      rw [hg] at hg'
      injection hg' with h1
      injection h1 with _ h2
      exact hne h2

def lensOf (ps : List (Nat × Int)) : List Value := ps.map fun p => Value.int .i64 (p.1 : Int)
def elemsOf (ps : List (Nat × Int)) : List Value := ps.map fun p => Value.int .u8 p.2

theorem cell_new' {W : World} {a : Addr} {v : Value} (o : Obj) (h : W.cell? a = some v) : (W.alloc o).cell? a = some v := cell_new o h

set_option maxRecDepth 100000 in
set_option maxHeartbeats 2000000 in
theorem refRuns_any {A : Option Addr} {n c B : Nat} {xs : List Int} {w : World} (hI : Rd .u8 w B A n xs) (hB : B ≤ w.heap.size) (hn : n ≤ 1000000) :
    Calls Try.prog 29 #[.slice A n c] w fun e w' => ∃ A1 c1 A2 c2, e = .returned (.tuple #[.slice A1 (runsL xs).length c1, .slice A2 (runsL xs).length c2]) ∧
      w'.ownsRow w.heap.size 3 1 (.slice A1 (runsL xs).length c1) (runsL xs).length (lensOf (runsL xs)) ∧ w'.ownsRow w.heap.size 5 1 (.slice A2 (runsL xs).length c2) (runsL xs).length (elemsOf (runsL xs)) ∧ Below w.heap.size w w' := by
  obtain ⟨i0, hi, hz0, hz1, hz2⟩ := info_parts Try.info_u8
  obtain ⟨j0, kj, kz0, kz1, kz2⟩ := info_parts Try.info_int
  have hL := Lib.hid hI.len
  go_enter Try.func29, Try.ntmps29
  go_wp2_with fail
  go_loopw [4, 5, 6] (fun p q i wr => ∃ (k : Nat) (A1 : Option Addr) (c1 : Nat) (A2 : Option Addr) (c2 : Nat), k ≤ n ∧ i = .int .i64 k ∧ p = .slice A1 (runsL (xs.take k)).length c1 ∧ q = .slice A2 (runsL (xs.take k)).length c2 ∧
      wr.ownsRow w.heap.size 3 1 (.slice A1 (runsL (xs.take k)).length c1) (runsL (xs.take k)).length (lensOf (runsL (xs.take k))) ∧ wr.ownsRow w.heap.size 5 1 (.slice A2 (runsL (xs.take k)).length c2) (runsL (xs.take k)).length (elemsOf (runsL (xs.take k))) ∧ Below w.heap.size w wr)
    (fun _ _ i _ => n - (intOf i).toNat)
  case atStart => exact ⟨0, none, 0, none, 0, Nat.zero_le _, rfl, rfl, rfl, World.ownsRow_nil _ _ _ _, World.ownsRow_nil _ _ _ _, Below.refl _ _⟩
  case round =>
    obtain ⟨k, A1, c1, A2, c2, hk, rfl, rfl, rfl, ho1, ho2, hB1⟩ := hrel
    by_cases hlt : k < n
    · have hrl := runs_len (xs.take k)
      have htl : (xs.take k).length ≤ k := List.length_take_le _ _
      obtain ⟨b, off, rfl, hbB, hcell⟩ := (hI.below' hB1 hB).cells k hlt
      generalize hx : xs[k]?.getD 0 = x at hcell
      generalize hR : runsL (xs.take k) = R at ho1 ho2 hrl ⊢
      obtain ⟨r, hr⟩ : ∃ r, R.length = r := ⟨_, rfl⟩
      rw [hr] at ho1 ho2 hrl ⊢
      have HO1 := Lib.hid ho1
      have HO2 := Lib.hid ho2
      have hrR := Lib.hid hr
      have hXk := Lib.hid hx
      have hRk := Lib.hid hR
      clear ho1 ho2 hr hx hR
      by_cases hk0 : k = 0
      · have hN : Hid (runsL (xs.take (k + 1)) = R ++ [(1, x)]) := Lib.hid (by rw [← hRk.out, ← hXk.out]; exact runs_new (by rw [hL.out]; exact hlt) (.inl hk0))
        have hd0 : ((k : Int) == 0) = true := by simp [hk0]
        have hK := Lib.hid hk0; clear hk0
        go_wp2_with fail
        go_quiet (fail)
        · skip
          obtain ⟨w2, hw2⟩ : ∃ W, W = wr.drewN nq := ⟨_, rfl⟩
          rw [← hw2]
          have hO1 : Hid (w2.ownsRow w.heap.size 3 1 (.slice A1 r c1) r (lensOf R)) := Lib.hid (by rw [hw2]; exact HO1.out)
          have hO2 : Hid (w2.ownsRow w.heap.size 5 1 (.slice A2 r c2) r (elemsOf R)) := Lib.hid (by rw [hw2]; exact HO2.out)
          have hB2 : Below w.heap.size w w2 := by rw [hw2]; exact below_drewN hB1 _
          have hcell2 : w2.cell? ⟨b, off + k, none⟩ = some (.int .u8 x) := by rw [hw2]; exact hcell
          clear hw2 hB1 hcell HO1 HO2 
          have hab := own_apart hO2.out hO1.out (by decide)
          go_wp2_with (first
            | (at_builtin; refine wpList_append_own _ rfl (.tmp 27) (.tmp 28) 51 rfl w.heap.size 3 j0 (.int .i64 0) 1 8 Try.underlying51 kj kz0 kz1 kz2 rfl (by decide) _ _ _ rfl (hO1.out.alloc _) ⟨w2.heap.size, 0, none⟩ 1 1 [.int .i64 0] rfl rfl (cell_one_new _ _ _) (by simp [Value.oneCell']) (by unfold maxLen; omega) (by omega) (by have := hB2.size; simp; omega) ?_; intro v3 w3 hown3 hgrow3 _; obtain ⟨g3, d3, rfl⟩ := ownsRow_succ hown3; have hB3 : Below w.heap.size w w3 := (hB2.alloc hB2.size _).grown hgrow3 (by have := hB2.size; simp; omega) (fun g hg => (hO1.out.lt g hg).1); have h2 := Lib.hid ((hO2.out.alloc _).kept hgrow3 hab); have hcell3 : w3.cell? ⟨b, off + k, none⟩ = some (.int .u8 x) := (hgrow3.cell (cell_new' _ hcell2) (fun e => by have := (hO1.out.lt b e.symm).1; omega)); have hO3 := Lib.hid hown3; clear hown3 hgrow3)
            | (at_builtin; refine wpList_append_own _ rfl (.tmp 30) (.tmp 35) 22 rfl w.heap.size 5 i0 (.int .u8 0) 1 1 Try.underlying22 hi hz0 hz1 hz2 rfl (by decide) _ _ _ rfl (h2.out.alloc _) ⟨w3.heap.size, 0, none⟩ 1 1 [.int .u8 x] rfl rfl (cell_one_new _ _ _) (by simp [Value.oneCell']) (by unfold maxLen; omega) (by omega) (by have := hB3.size; simp; omega) ?_; intro v4 w4 hown4 hgrow4 _; obtain ⟨g4, d4, rfl⟩ := ownsRow_succ hown4; have hB4 : Below w.heap.size w w4 := (hB3.alloc hB3.size _).grown hgrow4 (by have := hB3.size; simp; omega) (fun g hg => (h2.out.lt g hg).1); have h3 := (hO3.out.alloc (.cells #[.int .u8 x] 5)).kept hgrow4 (own_apart hO3.out h2.out (by decide)); (have hc3 : w4.cell? ⟨g3, r, none⟩ = some (.int .i64 0) := by (rw [h3.cellAt r (by omega)]; simp [lensOf, hrR.out])); have hf3 := h3.frozenAt r; have hH3 := Lib.hid h3; have hH4 := Lib.hid hown4; clear h3 hown4 hgrow4))
          go_roundw
          case rel =>
            have hs := hH3.out.stored r (.int .i64 1)
            have e1 : (lensOf R ++ [Value.int .i64 0]).set r (.int .i64 1) = lensOf (R ++ [(1, x)]) := by
              rw [List.set_append_right _ _ (by simp [lensOf, hrR.out])]
              simp [lensOf, hrR.out]
            have e2 : elemsOf R ++ [Value.int .u8 x] = elemsOf (R ++ [(1, x)]) := by simp [elemsOf]
            have e3 : (R ++ [(1, x)]).length = r + 1 := by simp [hrR.out]
            have h4 := hH4.out.kept hs.2 (own_apart hH4.out hH3.out (by decide))
            rw [e1] at hs
            rw [e2] at h4
            refine ⟨k + 1, some ⟨g3, 0, none⟩, d3, some ⟨g4, 0, none⟩, d4, by omega, by go_num, ?_⟩
            rw [hN.out, e3]
            exact ⟨rfl, rfl, hs.1, h4, hB4.setCell (p := ⟨g3, r, none⟩) (hH3.out.lt g3 rfl).1 _⟩
          case measure => simp [intOf]; omega
      · obtain ⟨b', off', he', _, hcellp⟩ := (hI.below' hB1 hB).cells (k - 1) (by omega)
        injection he' with he'; injection he' with e1 e2; subst e1 e2
        generalize hy : xs[k - 1]?.getD 0 = y at hcellp
        have hYk := Lib.hid hy; clear hy
        have hd0 : ((k : Int) == 0) = false := by simp [hk0]
        have hk1 : (0 : Int) ≤ (k : Int) - 1 := by omega
        have hk2 : (k : Int) - 1 < (n : Int) := by omega
        have hk3 : IntKind.i64.wrap ((k : Int) - 1) = (k : Int) - 1 := IntWalk.i64_in _ (by omega)
        have hk4 : ((k : Int) - 1).toNat = k - 1 := by omega
        have hk5 : (k : Int) < (n : Int) := by omega
        by_cases hne : x = y
        · obtain ⟨ini, m, hi1, hi2⟩ := runs_same (xs := xs) (k := k) (by rw [hL.out]; exact hlt) (by omega) (by rw [hXk.out, hYk.out]; exact hne)
          rw [hRk.out, hXk.out] at hi1
          rw [hXk.out] at hi2
          have hml : m ≤ n := by have := runs_lengths (xs.take k) (m, x) (by rw [hRk.out, hi1]; simp); omega
          have hI1 := Lib.hid hi1
          have hI2 := Lib.hid hi2
          have hbq : (x != y) = false := by simp [hne]
          have hNE := Lib.hid hne
          clear hi1 hi2 hne
          have hr1 : ini.length + 1 = r := by rw [← hrR.out, hI1.out]; simp
          obtain ⟨g, cap, hv, hg, hgl⟩ := HO1.out.form (by omega)
          injection hv with e1 _ e3
          subst e1 e3
          have hc3 : wr.cell? ⟨g, r - 1, none⟩ = some (.int .i64 m) := by
            rw [HO1.out.cellAt (r - 1) (by omega), hI1.out]
            simp [lensOf, ← hr1]
          have hf3 := HO1.out.frozenAt (r - 1)
          have hs := HO1.out.stored (r - 1) (.int .i64 ((m : Int) + 1))
          have e1 : (lensOf R).set (r - 1) (.int .i64 ((m : Int) + 1)) = lensOf (runsL (xs.take (k + 1))) := by
            rw [hI1.out, hI2.out]
            simp [lensOf, ← hr1]
          have e2 : elemsOf R = elemsOf (runsL (xs.take (k + 1))) := by rw [hI1.out, hI2.out]; simp [elemsOf]
          have e3 : Hid ((runsL (xs.take (k + 1))).length = r) := Lib.hid (by rw [hI2.out, ← hr1]; simp)
          have h4 := HO2.out.kept hs.2 (own_apart HO2.out HO1.out (by decide))
          rw [e1] at hs
          rw [e2] at h4
          have hS := Lib.hid hs.1
          have hS4 := Lib.hid h4
          have hB4 := hB1.setCell (p := ⟨g, r - 1, none⟩) hg (.int .i64 ((m : Int) + 1))
          have hr2 : (0 : Int) ≤ (r : Int) - 1 := by omega
          have hr3 : (r : Int) - 1 < (r : Int) := by omega
          have hr4 : ((r : Int) - 1).toNat = r - 1 := by omega
          clear hs h4 e1 e2
          go_wp2_with fail
          go_quiet (fail)
          go_wp2_with fail
          go_roundw
          case rel => exact ⟨k + 1, some ⟨g, 0, none⟩, c1, A2, c2, by omega, by go_num, by rw [e3.out], by rw [e3.out], by rw [e3.out]; exact hS.out, by rw [e3.out]; exact hS4.out, below_drewN hB4 nq⟩
          case measure => simp [intOf]; omega
        · have hN : Hid (runsL (xs.take (k + 1)) = R ++ [(1, x)]) := Lib.hid (by rw [← hRk.out, ← hXk.out]; exact runs_new (by rw [hL.out]; exact hlt) (.inr (by rw [hXk.out, hYk.out]; exact hne)))
          have hbq : (x != y) = true := by simp [hne]
          clear hne
          go_wp2_with fail
          go_quiet (fail)
          obtain ⟨w2, hw2⟩ : ∃ W, W = wr.drewN nq := ⟨_, rfl⟩
          rw [← hw2]
          have hO1 : Hid (w2.ownsRow w.heap.size 3 1 (.slice A1 r c1) r (lensOf R)) := Lib.hid (by rw [hw2]; exact HO1.out)
          have hO2 : Hid (w2.ownsRow w.heap.size 5 1 (.slice A2 r c2) r (elemsOf R)) := Lib.hid (by rw [hw2]; exact HO2.out)
          have hB2 : Below w.heap.size w w2 := by rw [hw2]; exact below_drewN hB1 _
          have hcell2 : w2.cell? ⟨b, off + k, none⟩ = some (.int .u8 x) := by rw [hw2]; exact hcell
          clear hw2 hB1 hcell HO1 HO2 hcellp hk1 hk2 hk3 hk4 hd0 hbq 
          have hab := own_apart hO2.out hO1.out (by decide)
          go_wp2_with (first
            | (at_builtin; refine wpList_append_own _ rfl (.tmp 27) (.tmp 28) 51 rfl w.heap.size 3 j0 (.int .i64 0) 1 8 Try.underlying51 kj kz0 kz1 kz2 rfl (by decide) _ _ _ rfl (hO1.out.alloc _) ⟨w2.heap.size, 0, none⟩ 1 1 [.int .i64 0] rfl rfl (cell_one_new _ _ _) (by simp [Value.oneCell']) (by unfold maxLen; omega) (by omega) (by have := hB2.size; simp; omega) ?_; intro v3 w3 hown3 hgrow3 _; obtain ⟨g3, d3, rfl⟩ := ownsRow_succ hown3; have hB3 : Below w.heap.size w w3 := (hB2.alloc hB2.size _).grown hgrow3 (by have := hB2.size; simp; omega) (fun g hg => (hO1.out.lt g hg).1); have h2 := Lib.hid ((hO2.out.alloc _).kept hgrow3 hab); have hcell3 : w3.cell? ⟨b, off + k, none⟩ = some (.int .u8 x) := (hgrow3.cell (cell_new' _ hcell2) (fun e => by have := (hO1.out.lt b e.symm).1; omega)); have hO3 := Lib.hid hown3; clear hown3 hgrow3)
            | (at_builtin; refine wpList_append_own _ rfl (.tmp 30) (.tmp 35) 22 rfl w.heap.size 5 i0 (.int .u8 0) 1 1 Try.underlying22 hi hz0 hz1 hz2 rfl (by decide) _ _ _ rfl (h2.out.alloc _) ⟨w3.heap.size, 0, none⟩ 1 1 [.int .u8 x] rfl rfl (cell_one_new _ _ _) (by simp [Value.oneCell']) (by unfold maxLen; omega) (by omega) (by have := hB3.size; simp; omega) ?_; intro v4 w4 hown4 hgrow4 _; obtain ⟨g4, d4, rfl⟩ := ownsRow_succ hown4; have hB4 : Below w.heap.size w w4 := (hB3.alloc hB3.size _).grown hgrow4 (by have := hB3.size; simp; omega) (fun g hg => (h2.out.lt g hg).1); have h3 := (hO3.out.alloc (.cells #[.int .u8 x] 5)).kept hgrow4 (own_apart hO3.out h2.out (by decide)); (have hc3 : w4.cell? ⟨g3, r, none⟩ = some (.int .i64 0) := by (rw [h3.cellAt r (by omega)]; simp [lensOf, hrR.out])); have hf3 := h3.frozenAt r; have hH3 := Lib.hid h3; have hH4 := Lib.hid hown4; clear h3 hown4 hgrow4))
          go_roundw
          case rel =>
            have hs := hH3.out.stored r (.int .i64 1)
            have e1 : (lensOf R ++ [Value.int .i64 0]).set r (.int .i64 1) = lensOf (R ++ [(1, x)]) := by
              rw [List.set_append_right _ _ (by simp [lensOf, hrR.out])]
              simp [lensOf, hrR.out]
            have e2 : elemsOf R ++ [Value.int .u8 x] = elemsOf (R ++ [(1, x)]) := by simp [elemsOf]
            have e3 : (R ++ [(1, x)]).length = r + 1 := by simp [hrR.out]
            have h4 := hH4.out.kept hs.2 (own_apart hH4.out hH3.out (by decide))
            rw [e1] at hs
            rw [e2] at h4
            refine ⟨k + 1, some ⟨g3, 0, none⟩, d3, some ⟨g4, 0, none⟩, d4, by omega, by go_num, ?_⟩
            rw [hN.out, e3]
            exact ⟨rfl, rfl, hs.1, h4, hB4.setCell (p := ⟨g3, r, none⟩) (hH3.out.lt g3 rfl).1 _⟩
          case measure => simp [intOf]; omega
    · obtain rfl : k = n := by omega
      rw [List.take_of_length_le (by rw [hL.out]; exact Nat.le_refl _)] at ho1 ho2 ⊢
      have hO1 := Lib.hid ho1
      have hO2 := Lib.hid ho2
      clear ho1 ho2
      go_wp2_with fail
      go_ret2
      exact ⟨A1, c1, A2, c2, rfl, hO1.out, hO2.out, hB1⟩
end Go.Proofs.Ytdjnmebgiabecaa
