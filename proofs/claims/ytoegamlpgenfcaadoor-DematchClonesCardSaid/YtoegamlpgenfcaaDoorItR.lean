/-
  of; the iterator of the matrix indices; a range over it. The iterator of the matrix indices; a range over it.
-/
import Derived.Test.YtoegamlpgenfcaaDoorGn
import Derived.Test.YtoegamlpgenfcaaDoorGm
import Derived.Test.YtoegamlpgenfcaaDoorSm
import Derived.Test.YtoegamlpgenfcaaDoorCq
import Derived.Test.YtoegamlpgenfcaaDoorQt
import Derived.Test.YtoegamlpgenfcaaDoorGi
import Derived.Deep.RegionLaw
import Derived.Laws.EntriesVeiled
import Derived.Shelf.RegionOpen
import Derived.OwnWalkIn
import Derived.LoopNIn
import Derived.LoopIn
import Derived.Deep.QuietTactic
import Derived.BigQuiet
import Derived.Sort.LoopGhostIn
namespace Go.Proofs.YtoegamlpgenfcaaDoor
/-! ### of; the iterator of the matrix indices; a range over it. -/
section
open Go.RowKit Go.Shelf BigFrame

attribute [local go_sem] Oper.semAt_some

/-- The function value of the shift; its own memory. -/
def shiftV (s : Bool) (X : Nat) : Value := if s then .func (.func 92) #[] #[.pointer (some ⟨X, 0, none⟩)] else .func (.func 91) #[] #[]
/-- The block X holds the number of rows. -/
def RowsAt (w : World) (X R : Nat) : Prop := w.heap[X]? = some (.cells #[.int .i64 (R : Int)] 3)
theorem RowsAt.lt {w : World} {X R : Nat} (h : RowsAt w X R) : X < w.heap.size := (Array.getElem?_eq_some_iff.1 h).1
theorem RowsAt.cell {w : World} {X R : Nat} (h : RowsAt w X R) : w.cell? ⟨X, 0, none⟩ = some (.int .i64 (R : Int)) := by simp [World.cell?, show w.heap[X]? = _ from h]
theorem RowsAt.block {w w' : World} {X R : Nat} (h : RowsAt w X R) (hb : w'.heap[X]? = w.heap[X]?) : RowsAt w' X R := hb.trans h
/-- The matrix as a value. -/
def matV (R N : Nat) (s : Bool) (X : Nat) : Value := .agg #[.int .i64 (R : Int), .int .i64 (N : Int), shiftV s X]
set_option maxRecDepth 100000 in
set_option maxHeartbeats 4000000 in
theorem of_ok {d : Nat} {st : Int} {w : World} (h1 : 1 ≤ d) (h2 : d ≤ 6148) (hs : okS st = true) :
    Calls Tryd.prog 86 #[.int .i64 (d : Int), .int .i64 st] w fun e w' => (∃ X, w.heap.size ≤ X ∧ e = .returned (.tuple #[matV (rowsN d) (32 * rowsN d - d) (shB st) X, .int .i64 0]) ∧ RowsAt w' X (rowsN d)) ∧ Below w.heap.size w w' := by
  have hr := rows_le h1 h2
  have hR : rowsI (d : Int) = ((rowsN d : Nat) : Int) := by
    unfold rowsI
    rw [if_pos (by simp [okD]; omega), Int.toNat_natCast]
  have hRows := Lib.hid (fun (u : World) => Rows_any (d := (d : Int)) (w := u))
  rw [hR] at hRows
  generalize rowsN d = R at *
  obtain ⟨N, hN⟩ : ∃ N, 32 * R - d = N := ⟨_, rfl⟩
  rw [hN]
  have hne : ((R : Int) == 0) = false := by simp; omega
  have hmul : Hid (32 * (R : Int) - (d : Int) = (N : Int)) := Lib.hid (by omega)
  have s0 : ¬ (st < 0) := by simp [okS] at hs; omega
  have s1 : ¬ (3 ≤ st) := by simp [okS] at hs; omega
  have hr1 : (0 : Int) ≤ (R : Int) ∧ (R : Int) ≤ 193 := by omega
  obtain ⟨hr1, hr2⟩ := hr1
  have hd1 : (0 : Int) ≤ (d : Int) ∧ (d : Int) ≤ 6148 := by omega
  obtain ⟨hd1, hd2⟩ := hd1
  have hT := Three.new w 115 (.int .i64 0) (.int .i64 0) .nilFunc
  have hb0 := (Below.refl w.heap.size w).alloc (Nat.le_refl _) (.cells #[.int .i64 0, .int .i64 0, .nilFunc] 115)
  have hs1 : (w.alloc (.cells #[.int .i64 0, .int .i64 0, .nilFunc] 115)).heap.size = w.heap.size + 1 := by simp
  have hmf := makeFunc_run
  clear hr hR hs h1 h2 hN
  go_enter Tryd.func86, Tryd.ntmps86
  go_upto_region 1 with fail
  generalize w.alloc (.cells #[.int .i64 0, .int .i64 0, .nilFunc] 115) = W at *
  obtain ⟨B, hB⟩ : ∃ B, w.heap.size = B := ⟨_, rfl⟩
  rw [hB] at hT hb0 hs1 ⊢
  have HB := Lib.hid hB
  have hle : Hid (B ≤ W.heap.size) := Lib.hid (by omega)
  have hb1 := Lib.hid (hb0.alloc hle.out (.cells #[.int .i64 (R : Int)] 3))
  have hX : RowsAt (W.alloc (.cells #[.int .i64 (R : Int)] 3)) W.heap.size R := World.alloc_heap_new W _
  have hT1 := hT.alloc (.cells #[.int .i64 (R : Int)] 3)
  have hX0 := hX.cell
  have b0 := hT1.cell0
  have b1 := hT1.cell1
  have b2 := hT1.cell2
  have g0 := hT1.frozen 0
  have g1 := hT1.frozen 1
  have g2 := hT1.frozen 2
  have hne2 : Hid (W.heap.size ≠ B) := Lib.hid (by omega)
  have hX' := Lib.hid hX
  clear hX hT hb0 hs1 hB
  by_cases h2 : st = 2
  · subst h2
    have hT3 := Lib.hid (hT1.put (.int .i64 (R : Int)) (.int .i64 (32 * (R : Int) - (d : Int))) (shiftV true W.heap.size))
    clear hT1
    unfold shiftV at hT3
    simp only [if_true] at hT3
    go_wp2_with (go_at_call 70; refine (hRows.out _).mono ?_; rintro e W ⟨rfl, rfl⟩)
    refine bodyPost_ret (of_results (e := 0) ?_ ?_ hT3.out) rfl ⟨⟨W.heap.size, (by rw [HB.out]; exact hle.out), (by unfold matV; rw [← hmul.out]; rfl), ?_⟩, ?_⟩
    · rfl
    · rfl
    · exact hX'.out.block ((Below.heap_setCell _ _ _ _ hne2.out).trans ((Below.heap_setCell _ _ _ _ hne2.out).trans (Below.heap_setCell _ _ _ _ hne2.out)))
    · rw [HB.out]; exact ((hb1.out.setCell (p := ⟨B, 0, none⟩) (Nat.le_refl _) _).setCell (p := ⟨B, 1, none⟩) (Nat.le_refl _) _).setCell (p := ⟨B, 2, none⟩) (Nat.le_refl _) _
  · have hne3 : (st == 2) = false := by simp [h2]
    have hT3 := Lib.hid (hT1.put (.int .i64 (R : Int)) (.int .i64 (32 * (R : Int) - (d : Int))) (shiftV false W.heap.size))
    have e2 : Hid (shB st = false) := Lib.hid (by simp [shB, h2])
    clear hT1 h2
    unfold shiftV at hT3
    simp only [Bool.false_eq_true, if_false] at hT3
    go_wp2_with (go_at_call 70; refine (hRows.out _).mono ?_; rintro e W ⟨rfl, rfl⟩)
    refine bodyPost_ret (of_results (e := 0) ?_ ?_ hT3.out) rfl ⟨⟨W.heap.size, (by rw [HB.out]; exact hle.out), (by rw [e2.out]; unfold matV; rw [← hmul.out]; rfl), ?_⟩, ?_⟩
    · rfl
    · rfl
    · exact hX'.out.block ((Below.heap_setCell _ _ _ _ hne2.out).trans ((Below.heap_setCell _ _ _ _ hne2.out).trans (Below.heap_setCell _ _ _ _ hne2.out)))
    · rw [HB.out]; exact ((hb1.out.setCell (p := ⟨B, 0, none⟩) (Nat.le_refl _) _).setCell (p := ⟨B, 1, none⟩) (Nat.le_refl _) _).setCell (p := ⟨B, 2, none⟩) (Nat.le_refl _) _
set_option maxRecDepth 100000 in
set_option maxHeartbeats 4000000 in
theorem of_no {d st : Int} {w : World} (h : (okD d && okS st) = false) :
    Calls Tryd.prog 86 #[.int .i64 d, .int .i64 st] w fun e w' => e = .returned (.tuple #[.agg #[.int .i64 0, .int .i64 0, .nilFunc], .int .i64 2]) ∧ Below w.heap.size w w' := by
  have hRows := Lib.hid (fun (u : World) => Rows_any (d := d) (w := u))
  have hT := Three.new w 115 (.int .i64 0) (.int .i64 0) .nilFunc
  have hb0 := (Below.refl w.heap.size w).alloc (Nat.le_refl _) (.cells #[.int .i64 0, .int .i64 0, .nilFunc] 115)
  have hs1 : (w.alloc (.cells #[.int .i64 0, .int .i64 0, .nilFunc] 115)).heap.size = w.heap.size + 1 := by simp
  go_enter Tryd.func86, Tryd.ntmps86
  go_upto_region 1 with fail
  generalize w.alloc (.cells #[.int .i64 0, .int .i64 0, .nilFunc] 115) = W at *
  obtain ⟨B, hB⟩ : ∃ B, w.heap.size = B := ⟨_, rfl⟩
  rw [hB] at hT hb0 hs1 ⊢
  have HB := Lib.hid hB
  have hle : Hid (B ≤ W.heap.size) := Lib.hid (by omega)
  obtain ⟨r, hr⟩ : ∃ r, rowsI d = r := ⟨_, rfl⟩
  rw [hr] at hRows
  have hb1 := Lib.hid (hb0.alloc hle.out (.cells #[.int .i64 r] 3))
  have hX0 := World.cell?_alloc_lt
  have hX : (W.alloc (.cells #[.int .i64 r] 3)).cell? ⟨W.heap.size, 0, none⟩ = some (.int .i64 r) := by
    have : (W.alloc (.cells #[.int .i64 r] 3)).heap[W.heap.size]? = some (.cells #[.int .i64 r] 3) := World.alloc_heap_new W _
    simp only [World.cell?, this]
    rfl
  have hT1 := hT.alloc (.cells #[.int .i64 r] 3)
  have b0 := hT1.cell0
  have b1 := hT1.cell1
  have b2 := hT1.cell2
  have g0 := hT1.frozen 0
  have g1 := hT1.frozen 1
  have g2 := hT1.frozen 2
  have hT3 := Lib.hid (hT1.put (.int .i64 0) (.int .i64 0) .nilFunc)
  clear hX0 hT hb0 hs1 hB hT1
  by_cases h1 : okD d = true
  · have hz : (r == 0) = false := by
      rw [← hr]
      obtain ⟨k, rfl, k1, k2⟩ := okD_nat h1
      unfold rowsI
      rw [if_pos h1]
      have := rows_le k1 k2
      simp
      omega
    rw [h1, Bool.true_and] at h
    clear h1 hr
    by_cases s0 : st < 0
    · clear h
      go_wp2_with (go_at_call 70; refine (hRows.out _).mono ?_; rintro e W ⟨rfl, rfl⟩)
      refine bodyPost_ret (of_results (e := 2) ?_ ?_ hT3.out) rfl ⟨rfl, ?_⟩
      · rfl
      · rfl
      · rw [HB.out]; exact ((hb1.out.setCell (p := ⟨B, 0, none⟩) (Nat.le_refl _) _).setCell (p := ⟨B, 1, none⟩) (Nat.le_refl _) _).setCell (p := ⟨B, 2, none⟩) (Nat.le_refl _) _
    · have s1 : 3 ≤ st := by simp [okS] at h; omega
      clear h
      go_wp2_with (go_at_call 70; refine (hRows.out _).mono ?_; rintro e W ⟨rfl, rfl⟩)
      refine bodyPost_ret (of_results (e := 2) ?_ ?_ hT3.out) rfl ⟨rfl, ?_⟩
      · rfl
      · rfl
      · rw [HB.out]; exact ((hb1.out.setCell (p := ⟨B, 0, none⟩) (Nat.le_refl _) _).setCell (p := ⟨B, 1, none⟩) (Nat.le_refl _) _).setCell (p := ⟨B, 2, none⟩) (Nat.le_refl _) _
  · have hz : r = 0 := by rw [← hr]; unfold rowsI; rw [if_neg h1]
    subst hz
    clear h h1 hr
    go_wp2_with (go_at_call 70; refine (hRows.out _).mono ?_; rintro e W ⟨rfl, rfl⟩)
    refine bodyPost_ret (of_results (e := 2) ?_ ?_ hT3.out) rfl ⟨rfl, ?_⟩
    · rfl
    · rfl
    · rw [HB.out]; exact ((hb1.out.setCell (p := ⟨B, 0, none⟩) (Nat.le_refl _) _).setCell (p := ⟨B, 1, none⟩) (Nat.le_refl _) _).setCell (p := ⟨B, 2, none⟩) (Nat.le_refl _) _
end

/-! ### The iterator of the matrix indices; a range over it. -/
section
open Go.RowKit Go.Shelf BigFrame

attribute [local go_sem] Oper.semAt_some

/-- What the iterator reads: the matrix in its box, the columns, the number of rows. -/
structure MatAt (w : World) (B R N : Nat) (s : Bool) (X : Nat) : Prop where
  mat : Three w B 115 (.int .i64 (R : Int)) (.int .i64 (N : Int)) (shiftV s X)
  col : KCol w
  row : RowsAt w X R
/-- The shift is called. -/
theorem shift_any {R X m : Nat} {s : Bool} {w : World} (hm : m ≤ 100000) (hR : 1 ≤ R ∧ R ≤ 193) (hX : RowsAt w X R) :
    ∃ G lb, shiftV s X = .func (.func G) #[] lb ∧ (∀ args w, (callFunc G args).run Tryd.prog w = .ok (.enter G args) w) ∧ ∀ j, Calls Tryd.prog G (#[.int .i64 (m : Int)] ++ lb) (w.drewN j) fun e w' => e = .returned (.int .i64 (shN R s m : Nat)) ∧ w' = w.drewN j := by
  cases s
  · exact ⟨91, #[], rfl, enters_of Tryd.func91 (by kernel_rfl) rfl, fun j => shift0_any⟩
  · refine ⟨92, #[.pointer (some ⟨X, 0, none⟩)], rfl, enters_of Tryd.func92 (by kernel_rfl) rfl, fun j => ?_⟩
    have := shift1_any (m := m) (w := w.drewN j) hm hR (show (w.drewN j).cell? ⟨X, 0, none⟩ = _ from hX.cell)
    exact this
set_option maxRecDepth 100000 in
set_option maxHeartbeats 4000000 in
theorem indices_runs {n lp : Nat} (hn : 1 ≤ n) {R N X : Nat} {s : Bool} {B : Nat} {J : Nat → World → Prop} {Jx : World → Prop} {W : World} (hR : 1 ≤ R ∧ R ≤ 193)
    (hB : ∀ k W1, J k W1 → MatAt W1 B R N s X)
    (hJ : ∀ k W1 W2, J k W1 → W1.grownBy W2 none → J k W2)
    (hY : ∀ k W1, k < 32 * R → J k W1 → YieldAt Fence.wide (n - 1) Tryd.prog lp #[.int .i64 (k : Int), .int .i64 (idxN R s k : Nat)] W1 fun e W' =>
      (e = .returned (.bool true) ∧ J (k + 1) W') ∨ (e = .returned (.bool false) ∧ Jx W'))
    (h0 : J 0 W) :
    CallsIn Fence.wide n Tryd.prog 93 #[.func (.yield lp) #[] #[], .pointer (some ⟨B, 0, none⟩)] W fun e W' =>
      (∃ v, e = .returned v) ∧ (J (32 * R) W' ∨ Jx W') := by
  have c0 := (hB 0 W h0).mat.cell0
  have c1 := (hB 0 W h0).mat.cell1
  have c2 := (hB 0 W h0).mat.cell2
  have hsz := Lib.hid (callsIn_wide (n := n - 1) |>.2 (size_any (R := (R : Int)) (N := (N : Int)) (F := shiftV s X) (w := W) (by omega)))
  obtain ⟨V, hV⟩ : ∃ V, shiftV s X = V := ⟨_, rfl⟩
  rw [hV] at c2 hsz
  have HV := Lib.hid hV
  clear hV
  have hR1 : (1 : Int) ≤ (R : Int) := by omega
  have hR2 : (R : Int) ≤ 193 := by omega
  refine callsIn_of_wp Tryd.func93 rfl trivial ?_ rfl
  simp only [Tryd.ntmps93, List.size_toArray, List.length_cons, List.length_nil, Nat.reduceAdd, Nat.reduceSub, Array.replicate_succ, Array.replicate_zero, List.push_toArray, List.append_toArray, List.nil_append, List.cons_append]
  gi_wp2
  refine ⟨trivial, ?_⟩
  refine hsz.out.mono ?_
  rintro e W1 ⟨rfl, hg⟩
  have h01 := hJ _ _ _ h0 hg
  clear c0 c1 c2 hg hsz h0
  gi_wp2
  gi_loopw [6] (fun x wr => ∃ k : Nat, k ≤ 32 * R ∧ x = .int .i64 (k : Int) ∧ J k wr) (fun x _ => 32 * R - (intOf x).toNat)
  case atStart => exact ⟨0, Nat.zero_le _, rfl, h01⟩
  case round =>
    obtain ⟨k, hk, rfl, hJk⟩ := hrel
    by_cases hlt : k < 32 * R
    · have hM := hB k wr hJk
      have hq : Hid (k / R < 32) := Lib.hid (div_lt32 hlt)
      have hc := hM.col.cells _ hq.out
      have hcl := col_lt (k / R)
      obtain ⟨G, lb, hF, eG, hL⟩ := shift_any (m := mN R k) (s := s) (by have := mN_lt (k := k) (R := R) (by omega); omega) hR hM.row
      rw [HV.out] at hF
      subst hF
      have c0 := hM.mat.cell0
      have c2 := hM.mat.cell2
      rw [HV.out] at c2
      have hi : Hid (shN R s (mN R k) = idxN R s k) := Lib.hid rfl
      rw [hi.out] at hL
      have hY1 := Lib.hid (fun j => hY k (wr.drewN j) hlt (hJ _ _ _ hJk ⟨rfl, rfl, rfl, Nat.le_refl _, fun _ _ _ => rfl⟩))
      have e1 : (k : Int) / (R : Int) = ((k / R : Nat) : Int) := by push_cast; rfl
      have e2 : (k : Int) % (R : Int) = ((k % R : Nat) : Int) := by push_cast; rfl
      have e3 : Hid (((mN R k : Nat) : Int) = ((colN (k / R) : Nat) : Int) + 32 * ((k % R : Nat) : Int)) := Lib.hid (by unfold mN; push_cast; rfl)
      rw [e3.out] at hL
      have hrl : k % R < R := Nat.mod_lt _ (by omega)
      generalize idxN R s k = ix at *
      generalize mN R k = mm at *
      generalize colN (k / R) = c at *
      generalize k / R = q at *
      generalize k % R = r at *
      have HL := Lib.hid hL
      have hq0 : (q : Int) < 32 := by have := hq.out; omega
      clear hL hM hY
      gi_wp2
      refine wpIn_region_quiet_tail 17 rfl (by kernel_rfl) (by kernel_rfl) ?_
      simp only [List.take_succ_cons, List.take_zero, List.drop_succ_cons, List.drop_zero]
      repeat (gi_big_quiet_step (fail))
      refine wpQuietIn_step (fun _ _ _ _ => trivial) (fun K hK => ?_)
      rw [if_pos (by rfl)]
      gi_big_quiet_op
      refine ⟨_, fun j => (callsIn_wide.2 (HL.out j)).mono (fun e w' h => ⟨h.1, j, h.2⟩), hK _ ?_⟩
      clear hK K
      refine wpQuietIn_nil ?_
      rintro w' ⟨nq, rfl⟩
      obtain ⟨fn, tmps, assign, body, hy, hRd⟩ := hY1.out nq
      clear c0 c2 hc hY1 HL hJ hB
      gi_wp2
      refine hRd.mono ?_
      rintro e W3 (⟨rfl, hJ3⟩ | ⟨rfl, hJx3⟩)
      · gi_wp2
        go_roundw
        case rel => exact ⟨k + 1, by omega, by go_num, hJ3⟩
        case measure => simp [intOf]; omega
      · gi_wp2
        refine bodyPost_ret (results_none rfl _ _ _) rfl ?_
        exact ⟨⟨_, rfl⟩, .inr hJx3⟩
    · obtain rfl : k = 32 * R := by omega
      gi_wp2
      go_end0
      exact ⟨⟨_, rfl⟩, .inl hJk⟩
/-- A range over indices's iterator. -/
theorem wpIn_indices {n : Nat} (h1 : 2 ≤ n) {g : Operand} {ps : Array Tmp} {assign body : Code} {Q : Exit → Act → World → Prop} {a : Act} {w : World} {B R N X : Nat} {s : Bool} (hR : 1 ≤ R ∧ R ≤ 193)
    (hg : a.eval g = .func (.func 93) #[] #[.pointer (some ⟨B, 0, none⟩)]) (hps : ps.size = 2)
    (I : Nat → World → Prop) (Ix : Code → World → Prop) (hI : OwnFrom w.heap.size I) (hIx : ∀ c, OwnFrom w.heap.size (fun (_ : Unit) => Ix c)) (hL : ∀ k W, I k W → MatAt W B R N s X) (h0 : I 0 w) (a₁ : Nat → Act)
    (hassign : ∀ (lp k : Nat) (W : World) (K : Act → World → Prop), K (a₁ k) W →
      assign.wpIn (Fence.wide.inRound lp) (n - 1 - 1) Tryd.prog (Exit.then K (fun _ _ _ => False)) { tmps := (ps.zip #[.int .i64 (k : Int), .int .i64 (idxN R s k : Nat)]).foldl (fun t (p, v) => t.setIfInBounds p v) a.tmps, defers := [] } W)
    (hbody : ∀ (lp k : Nat) (W : World), k < 32 * R → I k W → w.heap.size + 2 ≤ W.heap.size → body.wpIn (Fence.wide.inRound lp) (n - 1 - 1) Tryd.prog (stepPost w.heap.size I Ix (k + 1) W) (a₁ k) W)
    (hdone : ∀ (D : Nat) (W : World), D = w.heap.size → I (32 * R) W → W.heap[D]? = some (.deferred (some [])) → Q .normal { a with defers := mkD D :: a.defers } W)
    (hstop : ∀ (D : Nat) (c : Code) (W : World), D = w.heap.size → Ix c W → W.heap[D]? = some (.deferred (some [])) → c.wpIn Fence.wide n Tryd.prog Q { a with defers := mkD D :: a.defers } W) :
    (Code.rangeFunc g ps assign body).wpIn Fence.wide n Tryd.prog Q a w := by
  refine wpIn_rangeFunc fun f0 hf0 => ?_
  obtain ⟨rc, hrc⟩ : ∃ rc : LoopState → Option Code → Obj, rc = fun st pe => .loop { state := st, pending := pe, fn := f0, tmps := a.tmps, params := ps, assign, body, defers := w.heap.size } := ⟨_, rfl⟩
  obtain ⟨L, hLp⟩ : ∃ L, w.heap.size + 1 = L := ⟨_, rfl⟩
  obtain ⟨W1, hW1⟩ : ∃ W1, (w.alloc (.deferred (some []))).alloc (rc .ready none) = W1 := ⟨_, rfl⟩
  have hsz : W1.heap.size = w.heap.size + 2 := by rw [← hW1]; simp
  have hrec1 : W1.heap[L]? = some (rc .ready none) := by
    have := World.alloc_heap_new (w.alloc (.deferred (some []))) (rc .ready none)
    rw [World.size_alloc, hLp] at this
    rw [← hW1]; exact this
  have hdef1 : W1.heap[w.heap.size]? = some (.deferred (some [])) := by
    rw [← hW1]; exact (Below.heap_alloc _ _ _ (by simp)).trans (World.alloc_heap_new w _)
  have hcell : ∀ st pe, (rc st pe).isCells = false := fun st pe => by rw [hrc]; rfl
  refine ⟨L, [mkD w.heap.size], W1, { target := .fn (.func 93) #[.pointer (some ⟨B, 0, none⟩)], args := #[.func (.yield L) #[] #[]] }, W1, 93, #[.func (.yield L) #[] #[]] ++ #[.pointer (some ⟨B, 0, none⟩)], W1, ?_, ?_, ?_, ?_, fun _ => by omega, ?_⟩
  · rw [← hW1, hrc, ← hLp]; exact run_enterLoop_outer _ _ _ _ _
  · simp only [resolve, hg]
    simp [go_sem]
  · intro f' _; trivial
  · simp [invoke, go_sem]
  refine (indices_runs (n := n - 1) (lp := L) (B := B) (by omega) (J := fun k W => I k W ∧ W.heap[L]? = some (rc .ready none) ∧ W.heap[w.heap.size]? = some (.deferred (some [])))
    (Jx := fun W => ∃ c, Ix c W ∧ W.heap[L]? = some (rc .done (some c)) ∧ W.heap[w.heap.size]? = some (.deferred (some []))) hR
    (fun k W h => hL k W h.1)
    (fun k W W' h hg => ⟨hI k W W' none h.1 hg (fun r e => by cases e), (hg.block L (Array.getElem?_eq_some_iff.1 h.2.1).1 (fun e => by cases e)).trans h.2.1, (hg.block w.heap.size (Array.getElem?_eq_some_iff.1 h.2.2).1 (fun e => by cases e)).trans h.2.2⟩)
    ?_ ⟨by rw [← hW1]; exact hI.alloc _ (hI.alloc _ h0), hrec1, hdef1⟩).mono ?_
  · rintro k W hkb ⟨hi, hl, hk⟩
    have hlt : L < W.heap.size := (Array.getElem?_eq_some_iff.1 hl).1
    have hl' := hl
    rw [hrc] at hl'
    refine ⟨f0, _, assign, body, run_yield hl' (by show 2 = ps.size; rw [hps]), roundIn_of_wpIn hf0 (hassign _ k W _ ⟨_, run_beginRound hl' rfl, ?_⟩)⟩
    obtain ⟨W2, hW2⟩ : ∃ W2, W.putObj L (rc .busy none) = W2 := ⟨_, rfl⟩
    have hl2 : W2.heap[L]? = some (rc .busy none) := by rw [← hW2]; exact World.putObj_heap_same hlt
    have hk2 : W2.heap[w.heap.size]? = some (.deferred (some [])) := by rw [← hW2]; exact (World.putObj_heap_other (by omega)).trans hk
    have hi2 : I k W2 := by rw [← hW2]; exact hI.putObj _ hi (by omega) hl (hcell _ _)
    have hs2 : W2.heap.size = W.heap.size := by rw [← hW2]; simp
    have hw2 : (W.putObj L (.loop { ({ state := .ready, pending := none, fn := f0, tmps := a.tmps, params := ps, assign, body, defers := w.heap.size } : Loop) with state := .busy })) = W2 := by rw [← hW2, hrc]
    rw [hw2]
    refine wpIn_mono (hbody _ k _ hkb hi2 (by omega)) ?_
    have fin : ∀ (jump : Option Code) (W3 : World), KeepsFrom w.heap.size W2 W3 → ∃ W4, (Instr.endRound L jump).run Tryd.prog W3 = .ok (.bool jump.isNone) W4 ∧ W4 = W3.putObj L (rc (if jump.isNone then .ready else .done) jump) ∧ W3.heap[L]? = some (rc .busy none) ∧
        W4.heap[L]? = some (rc (if jump.isNone then .ready else .done) jump) ∧ W4.heap[w.heap.size]? = some (.deferred (some [])) := fun jump W3 hk3 => by
      have hl3 := hk3.same _ _ (by omega) hl2 (hcell _ _)
      have hl3' := hl3
      rw [hrc] at hl3'
      have h5 := run_endRound (P := Tryd.prog) jump hl3'
      refine ⟨_, h5, by rw [hrc], hl3, ?_, ?_⟩
      · rw [hrc]; exact World.putObj_heap_same (Array.getElem?_eq_some_iff.1 hl3).1
      · exact (World.putObj_heap_other (by omega)).trans (hk3.same _ _ (Nat.le_refl _) hk2 rfl)
    rintro e a3 W3 hp
    cases e with
    | normal =>
      obtain ⟨hk3, hi3⟩ := hp
      obtain ⟨W4, hr, h4, hl3, hl4, hk4⟩ := fin none W3 hk3
      exact ⟨_, _, hr, .inl ⟨rfl, by rw [h4]; exact hI.putObj _ hi3 (by omega) hl3 (hcell _ _), hl4, hk4⟩⟩
    | ret =>
      obtain ⟨hk3, hi3⟩ := hp
      obtain ⟨W4, hr, h4, hl3, hl4, hk4⟩ := fin (some .ret) W3 hk3
      exact ⟨_, _, hr, .inr ⟨rfl, .ret, by rw [h4]; exact (hIx _).putObj (s := ()) _ hi3 (by omega) hl3 (hcell _ _), hl4, hk4⟩⟩
    | exit id =>
      obtain ⟨hk3, hi3⟩ := hp
      obtain ⟨W4, hr, h4, hl3, hl4, hk4⟩ := fin (some (.exit id)) W3 hk3
      exact ⟨_, _, hr, .inr ⟨rfl, .exit id, by rw [h4]; exact (hIx _).putObj (s := ()) _ hi3 (by omega) hl3 (hcell _ _), hl4, hk4⟩⟩
    | goto t =>
      obtain ⟨hk3, hi3⟩ := hp
      obtain ⟨W4, hr, h4, hl3, hl4, hk4⟩ := fin (some (.goto t)) W3 hk3
      exact ⟨_, _, hr, .inr ⟨rfl, .goto t, by rw [h4]; exact (hIx _).putObj (s := ()) _ hi3 (by omega) hl3 (hcell _ _), hl4, hk4⟩⟩
    | panic ch => exact hp.elim
    | outgrown => exact hp.elim
  · rintro e W2 ⟨⟨v, rfl⟩, (⟨hi, hl, hk⟩ | ⟨c, hi, hl, hk⟩)⟩
    · have hl' := hl
      rw [hrc] at hl'
      exact ⟨none, _, run_endLoop hl' (by simp), hdone _ _ rfl (hI.putObj _ hi (by omega) hl (hcell _ _)) ((World.putObj_heap_other (by omega)).trans hk)⟩
    · have hl' := hl
      rw [hrc] at hl'
      exact ⟨some c, _, run_endLoop hl' (by simp), hstop _ c _ rfl ((hIx c).putObj (s := ()) _ hi (by omega) hl (hcell _ _)) ((World.putObj_heap_other (by omega)).trans hk)⟩
end
end Go.Proofs.YtoegamlpgenfcaaDoor
