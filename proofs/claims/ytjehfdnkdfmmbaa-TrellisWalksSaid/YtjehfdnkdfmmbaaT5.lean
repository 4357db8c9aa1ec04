/-
  steps and its iterator; a range over it.
-/
import Derived.Shelf.Abstract
import Derived.Shelf.RegionOpen
import Derived.WalkKit
import Derived.OwnWalkIn
import Derived.TacticsInMore
import Derived.LoopNIn
import Derived.LoopIn
import Derived.Sort.QuietIn
import Derived.Test.YtjehfdnkdfmmbaaT3
import Derived.Test.YtjehfdnkdfmmbaaT4
import Derived.Test.YtjehfdnkdfmmbaaRuns
namespace Go.Proofs.Ytjehfdnkdfmmbaa
open Go.RowKit Go.Shelf BigFrame

attribute [local go_sem] Oper.semAt_some

/-- One element: the state behind it, and the number that is yielded. -/
def goS (s : Nat) (x : Int) : Nat := if x ≤ 1 then nextS s x.toNat else s
def goP (s : Nat) (x : Int) : Int := if x ≤ 1 then ((parS7 s x.toNat : Nat) : Int) else -1
/-- The state behind k elements; the k-th yielded number. -/
def stK (xs : List Int) : Nat → Nat
  | 0 => 0
  | k + 1 => goS (stK xs k) (xs[k]?.getD 0)
def paK (xs : List Int) (k : Nat) : Int := goP (stK xs k) (xs[k]?.getD 0)
theorem stK_lt {xs : List Int} (hb : Byte xs) : ∀ k, stK xs k < 8
  | 0 => (by decide : (0 : Nat) < 8)
  | k + 1 => by
    show goS _ _ < 8
    unfold goS
    have h := hb k
    split
    · exact (step_lt _ (stK_lt hb k) _ (by omega)).1
    · exact stK_lt hb k
theorem steps_any {A : Option Addr} {n c : Nat} {w : World} : Calls Try.prog 34 #[.slice A n c] w fun e w' => e = .returned (.func (.func 42) #[] #[.pointer (some ⟨w.heap.size, 0, none⟩)]) ∧ w' = w.alloc (.cells #[.slice A n c] 36) := by
  have hmf := makeFunc_run
  go_enter Try.func34, Try.ntmps34
  go_wp2_with fail
  go_ret
  exact ⟨rfl, rfl⟩
theorem Enc.zero (w : World) (t : TypeId) : Enc (w.alloc (.cells #[.int .i64 0, .int .i64 0, .int .i64 0] t)) w.heap.size 0 := ⟨t, Three.new w t (.int .i64 0) (.int .i64 0) (.int .i64 0)⟩
set_option maxRecDepth 100000 in
set_option maxHeartbeats 4000000 in
theorem steps_runs {n lp : Nat} (hn : 1 ≤ n) {xs : List Int} {A : Option Addr} {L c C Bx : Nat} {J : Nat → World → Prop} {Jx : World → Prop} {W : World} (hb : Byte xs) (hL : L ≤ 140737488355328)
    (hC : ∀ W1, J 0 W1 → W1.cell? ⟨C, 0, none⟩ = some (.slice A L c))
    (hR : ∀ k W1, J k W1 → Rd .u8 W1 Bx A L xs)
    (hJ : ∀ k W1 W2 row, J k W1 → W1.grownBy W2 row → (∀ r, row = some r → r = W.heap.size) → J k W2)
    (hY : ∀ k W1, k < L → J k W1 → W.heap.size + 1 ≤ W1.heap.size → YieldAt Fence.wide (n - 1) Try.prog lp #[.int .i64 (stK xs (k + 1) : Nat), .int .i64 (paK xs k)] W1 fun e W' =>
      (e = .returned (.bool true) ∧ J (k + 1) W' ∧ W'.heap[W.heap.size]? = W1.heap[W.heap.size]?) ∨ (e = .returned (.bool false) ∧ Jx W'))
    (h0 : J 0 W) :
    CallsIn Fence.wide n Try.prog 42 #[.func (.yield lp) #[] #[], .pointer (some ⟨C, 0, none⟩)] W fun e W' =>
      (∃ v, e = .returned v) ∧ (J L W' ∨ Jx W') := by
  have j1 : J 0 (W.alloc (.cells #[.int .i64 0, .int .i64 0, .int .i64 0] 66)) := hJ 0 _ _ none h0 (World.grownBy_alloc W _ none) (fun r e => by cases e)
  have c0 := hC _ j1
  have hJ1 := Lib.hid j1
  have hE1 : Hid (Enc (W.alloc (.cells #[.int .i64 0, .int .i64 0, .int .i64 0] 66)) W.heap.size (stK xs 0)) := Lib.hid (Enc.zero W _)
  have HS := Lib.hid (fun k => stK_lt hb k)
  have HB := Lib.hid hb
  clear hb h0 j1
  refine callsIn_of_wp Try.func42 rfl trivial ?_ rfl
  simp only [Try.ntmps42, List.size_toArray, List.length_cons, List.length_nil, Nat.reduceAdd, Nat.reduceSub, Array.replicate_succ, Array.replicate_zero, List.push_toArray, List.append_toArray, List.nil_append, List.cons_append]
  gi_wp2
  generalize W.alloc (.cells #[.int .i64 0, .int .i64 0, .int .i64 0] 66) = W0 at *
  gi_wp2
  clear c0
  gi_loopw [9] (fun x wr => ∃ k : Nat, k ≤ L ∧ x = .int .i64 (k : Int) ∧ Hid (J k wr) ∧ Hid (Enc wr W.heap.size (stK xs k))) (fun x _ => L - (intOf x).toNat)
  case atStart => exact ⟨0, Nat.zero_le _, rfl, hJ1, hE1⟩
  case round =>
    clear hJ1 hE1
    obtain ⟨k, hk, rfl, hJk, hEk⟩ := hrel
    by_cases hlt : k < L
    · obtain ⟨b, off, rfl, hbl, hcell⟩ := (hR k wr hJk.out).cells k hlt
      have hx0 := HB.out k
      have s8 := HS.out k
      have s8' := HS.out (k + 1)
      have hk0 : (0 : Int) ≤ (k : Int) := by omega
      have hk1 : (k : Int) < (L : Int) := by omega
      have hst : stK xs (k + 1) = goS (stK xs k) (xs[k]?.getD 0) := rfl
      have hpa : paK xs k = goP (stK xs k) (xs[k]?.getD 0) := rfl
      have hbe := Lib.hid (fun (v : World) => callsIn_wide (n := n - 1) |>.2 (below_any (v := xs[k]?.getD 0) (e := 2) (w := v)))
      have HY := Lib.hid (hY k)
      rw [hst, hpa] at HY
      generalize xs[k]?.getD 0 = x at *
      generalize stK xs k = s at *
      generalize hs2 : stK xs (k + 1) = s2 at *
      have HS2 := Lib.hid hs2
      clear hs2
      by_cases hx1 : x ≤ 1
      · obtain ⟨u, rfl⟩ := Int.eq_ofNat_of_zero_le hx0.1
        have hu : u < 2 := by omega
        rw [show (decide (0 ≤ ((u : Nat) : Int)) && decide (((u : Nat) : Int) < 2)) = true by simp; omega] at hbe
        have e1 : goS s ((u : Nat) : Int) = nextS s u := by unfold goS; rw [if_pos hx1]; rfl
        have e2 : goP s ((u : Nat) : Int) = ((parS7 s u : Nat) : Int) := by unfold goP; rw [if_pos hx1]; rfl
        rw [e1, e2] at HY
        rw [e1] at hst
        subst hst
        have hstep := Lib.hid (fun (v : World) (h : Enc v W.heap.size s) => callsIn_wide (n := n - 1) |>.2 (step_any h s8 hu))
        have hstate := Lib.hid (fun (v : World) => callsIn_wide (n := n - 1) |>.2 (state_any (w := v) s8'))
        unfold encV encA at hstate
        clear e1 e2 hpa hx1
        have HE2 := Lib.hid (fun (v : World) (h : Enc v W.heap.size (nextS s u)) => h.cells)
        generalize parS7 s u = p at *
        generalize nextS s u = nx at *
        generalize nx / 4 = qa at *
        generalize nx / 2 % 2 = qb at *
        generalize nx % 2 = qc at *
        gi_wp2
        refine ⟨trivial, ?_⟩
        refine (hbe.out _).mono ?_
        rintro e wr ⟨rfl, rfl⟩
        gi_wp2
        refine ⟨trivial, ?_⟩
        refine (hstep.out _ hEk.out).mono ?_
        rintro e w1 ⟨rfl, hE1, hg1⟩
        have HJ1 : Hid (J k w1) := Lib.hid (hJ _ _ _ _ hJk.out hg1 (fun r e => by injection e with e; exact e.symm))
        obtain ⟨d0, d1, d2⟩ := HE2.out _ hE1
        have HE1 := Lib.hid hE1
        clear hcell hE1 hg1 hJk hEk HE2
        gi_wp2
        refine ⟨trivial, ?_⟩
        refine (hstate.out _).mono ?_
        rintro e w2 ⟨rfl, hg2⟩
        have HJ2 : Hid (J k w2) := Lib.hid (hJ _ _ _ _ HJ1.out hg2 (fun r e => by cases e))
        have HE2 := Lib.hid (HE1.out.grown hg2 (fun e => by cases e))
        clear hg2 HJ1 HE1
        obtain ⟨fn, tmps, assign, body, hy, hRd⟩ := HY.out w2 hlt HJ2.out HE2.out.lt
        clear HY d0 d1 d2
        gi_wp2
        refine hRd.mono ?_
        rintro e W3 (⟨rfl, hJ3, hk3⟩ | ⟨rfl, hJx3⟩)
        · have HJ3 := Lib.hid hJ3
          have HE3 := Lib.hid (HE2.out.block hk3)
          clear hJ3 hk3 hy hRd
          gi_wp2
          go_roundw
          case rel => exact ⟨k + 1, by omega, by go_num, HJ3, by rw [HS2.out]; exact HE3⟩
          case measure => simp [intOf]; omega
        · have HX := Lib.hid hJx3
          clear hJx3 hy hRd
          gi_wp2
          refine bodyPost_ret (results_none rfl _ _ _) rfl ?_
          exact ⟨⟨_, rfl⟩, .inr HX.out⟩
      · have e1 : goS s x = s := by unfold goS; rw [if_neg hx1]
        have e2 : goP s x = -1 := by unfold goP; rw [if_neg hx1]
        rw [show (decide (0 ≤ x) && decide (x < 2)) = false by simp; omega] at hbe
        rw [e1, e2] at HY
        rw [e1] at hst
        subst hst
        have hstate := Lib.hid (fun (v : World) => callsIn_wide (n := n - 1) |>.2 (state_any (w := v) s8'))
        unfold encV encA at hstate
        clear e1 e2 hpa hx1
        obtain ⟨d0, d1, d2⟩ := hEk.out.cells
        have HJ1 := hJk
        have HE1 := hEk
        clear hJk hEk
        generalize s2 / 4 = qa at *
        generalize s2 / 2 % 2 = qb at *
        generalize s2 % 2 = qc at *
        gi_wp2
        refine ⟨trivial, ?_⟩
        refine (hbe.out _).mono ?_
        rintro e wr ⟨rfl, rfl⟩
        gi_wp2
        refine ⟨trivial, ?_⟩
        refine (hstate.out _).mono ?_
        rintro e w2 ⟨rfl, hg2⟩
        have HJ2 : Hid (J k w2) := Lib.hid (hJ _ _ _ _ HJ1.out hg2 (fun r e => by cases e))
        have HE2 := Lib.hid (HE1.out.grown hg2 (fun e => by cases e))
        clear hg2 HJ1 HE1
        obtain ⟨fn, tmps, assign, body, hy, hRd⟩ := HY.out w2 hlt HJ2.out HE2.out.lt
        clear HY d0 d1 d2
        gi_wp2
        refine hRd.mono ?_
        rintro e W3 (⟨rfl, hJ3, hk3⟩ | ⟨rfl, hJx3⟩)
        · have HJ3 := Lib.hid hJ3
          have HE3 := Lib.hid (HE2.out.block hk3)
          clear hJ3 hk3 hy hRd
          gi_wp2
          go_roundw
          case rel => exact ⟨k + 1, by omega, by go_num, HJ3, by rw [HS2.out]; exact HE3⟩
          case measure => simp [intOf]; omega
        · have HX := Lib.hid hJx3
          clear hJx3 hy hRd
          gi_wp2
          refine bodyPost_ret (results_none rfl _ _ _) rfl ?_
          exact ⟨⟨_, rfl⟩, .inr HX.out⟩
    · obtain rfl : k = L := by omega
      gi_wp2
      go_end0
      exact ⟨⟨_, rfl⟩, .inl hJk.out⟩
/-- How the body of a round may be left. -/
def stepPost (B : Nat) (I : Nat → World → Prop) (Ix : Code → World → Prop) (k : Nat) (W : World) : Exit → Act → World → Prop
  | .normal, _, W' => KeepsFrom B W W' ∧ W'.heap[B + 2]? = W.heap[B + 2]? ∧ I k W'
  | .ret, _, W' => KeepsFrom B W W' ∧ Ix .ret W'
  | .exit id, _, W' => KeepsFrom B W W' ∧ Ix (.exit id) W'
  | .goto t, _, W' => KeepsFrom B W W' ∧ Ix (.goto t) W'
  | .panic _, _, _ => False
  | .outgrown, _, _ => False
/-- A range over steps's iterator. -/
theorem wpIn_steps {n : Nat} (h1 : 2 ≤ n) {g : Operand} {ps : Array Tmp} {assign body : Code} {Q : Exit → Act → World → Prop} {a : Act} {w : World} {xs : List Int} {A : Option Addr} {L c C Bx : Nat} (hb : Byte xs) (hLL : L ≤ 140737488355328)
    (hg : a.eval g = .func (.func 42) #[] #[.pointer (some ⟨C, 0, none⟩)]) (hps : ps.size = 2)
    (I : Nat → World → Prop) (Ix : Code → World → Prop) (hI : OwnFrom w.heap.size I) (hIx : ∀ c, OwnFrom w.heap.size (fun (_ : Unit) => Ix c)) (hS : SpanFrom (w.heap.size + 2) 1 I)
    (hC : ∀ W, I 0 W → W.cell? ⟨C, 0, none⟩ = some (.slice A L c)) (hR : ∀ k W, I k W → Rd .u8 W Bx A L xs) (h0 : I 0 w) (a₁ : Nat → Act)
    (hassign : ∀ (lp k : Nat) (W : World) (K : Act → World → Prop), K (a₁ k) W →
      assign.wpIn (Fence.wide.inRound lp) (n - 1 - 1) Try.prog (Exit.then K (fun _ _ _ => False)) { tmps := (ps.zip #[.int .i64 (stK xs (k + 1) : Nat), .int .i64 (paK xs k)]).foldl (fun t (p, v) => t.setIfInBounds p v) a.tmps, defers := [] } W)
    (hbody : ∀ (lp k : Nat) (W : World), k < L → I k W → w.heap.size + 3 ≤ W.heap.size → body.wpIn (Fence.wide.inRound lp) (n - 1 - 1) Try.prog (stepPost w.heap.size I Ix (k + 1) W) (a₁ k) W)
    (hdone : ∀ (D : Nat) (W : World), D = w.heap.size → I L W → W.heap[D]? = some (.deferred (some [])) → Q .normal { a with defers := mkD D :: a.defers } W)
    (hstop : ∀ (D : Nat) (c : Code) (W : World), D = w.heap.size → Ix c W → W.heap[D]? = some (.deferred (some [])) → c.wpIn Fence.wide n Try.prog Q { a with defers := mkD D :: a.defers } W) :
    (Code.rangeFunc g ps assign body).wpIn Fence.wide n Try.prog Q a w := by
  refine wpIn_rangeFunc fun f0 hf0 => ?_
  obtain ⟨rc, hrc⟩ : ∃ rc : LoopState → Option Code → Obj, rc = fun st pe => .loop { state := st, pending := pe, fn := f0, tmps := a.tmps, params := ps, assign, body, defers := w.heap.size } := ⟨_, rfl⟩
  obtain ⟨Lb, hLp⟩ : ∃ Lb, w.heap.size + 1 = Lb := ⟨_, rfl⟩
  obtain ⟨W1, hW1⟩ : ∃ W1, (w.alloc (.deferred (some []))).alloc (rc .ready none) = W1 := ⟨_, rfl⟩
  have hsz : W1.heap.size = w.heap.size + 2 := by rw [← hW1]; simp
  have hrec1 : W1.heap[Lb]? = some (rc .ready none) := by
    have := World.alloc_heap_new (w.alloc (.deferred (some []))) (rc .ready none)
    rw [World.size_alloc, hLp] at this
    rw [← hW1]; exact this
  have hdef1 : W1.heap[w.heap.size]? = some (.deferred (some [])) := by
    rw [← hW1]; exact (Below.heap_alloc _ _ _ (by simp)).trans (World.alloc_heap_new w _)
  have hcell : ∀ st pe, (rc st pe).isCells = false := fun st pe => by rw [hrc]; rfl
  refine ⟨Lb, [mkD w.heap.size], W1, { target := .fn (.func 42) #[.pointer (some ⟨C, 0, none⟩)], args := #[.func (.yield Lb) #[] #[]] }, W1, 42, #[.func (.yield Lb) #[] #[]] ++ #[.pointer (some ⟨C, 0, none⟩)], W1, ?_, ?_, ?_, ?_, fun _ => by omega, ?_⟩
  · rw [← hW1, hrc, ← hLp]; exact run_enterLoop_outer _ _ _ _ _
  · simp only [resolve, hg]
    simp [go_sem]
  · intro f' _; trivial
  · simp [invoke, go_sem]
  refine (steps_runs (n := n - 1) (lp := Lb) (Bx := Bx) (c := c) (by omega) (J := fun k W => I k W ∧ W.heap[Lb]? = some (rc .ready none) ∧ W.heap[w.heap.size]? = some (.deferred (some [])))
    (Jx := fun W => ∃ c, Ix c W ∧ W.heap[Lb]? = some (rc .done (some c)) ∧ W.heap[w.heap.size]? = some (.deferred (some []))) hb hLL
    (fun W h => hC W h.1) (fun k W h => hR k W h.1)
    (fun k W W' row h hg hr => by
      rw [hsz] at hr
      refine ⟨?_, (hg.block Lb (Array.getElem?_eq_some_iff.1 h.2.1).1 (fun e => by have := hr _ e.symm; omega)).trans h.2.1, (hg.block w.heap.size (Array.getElem?_eq_some_iff.1 h.2.2).1 (fun e => by have := hr _ e.symm; omega)).trans h.2.2⟩
      cases row with
      | none => exact hI k W W' none h.1 hg (fun r e => by cases e)
      | some r => exact hS k W W' r h.1 hg (by have := hr r rfl; omega) (by have := hr r rfl; omega))
    ?_ ⟨by rw [← hW1]; exact hI.alloc _ (hI.alloc _ h0), hrec1, hdef1⟩).mono ?_
  · rintro k W hkb ⟨hi, hl, hk⟩ hbig
    have hlt : Lb < W.heap.size := (Array.getElem?_eq_some_iff.1 hl).1
    have hl' := hl
    rw [hrc] at hl'
    refine ⟨f0, _, assign, body, run_yield hl' (by show 2 = ps.size; rw [hps]), roundIn_of_wpIn hf0 (hassign _ k W _ ⟨_, run_beginRound hl' rfl, ?_⟩)⟩
    obtain ⟨W2, hW2⟩ : ∃ W2, W.putObj Lb (rc .busy none) = W2 := ⟨_, rfl⟩
    have hl2 : W2.heap[Lb]? = some (rc .busy none) := by rw [← hW2]; exact World.putObj_heap_same hlt
    have hk2 : W2.heap[w.heap.size]? = some (.deferred (some [])) := by rw [← hW2]; exact (World.putObj_heap_other (by omega)).trans hk
    have hi2 : I k W2 := by rw [← hW2]; exact hI.putObj _ hi (by omega) hl (hcell _ _)
    have he2 : W2.heap[w.heap.size + 2]? = W.heap[w.heap.size + 2]? := by rw [← hW2]; exact World.putObj_heap_other (by omega)
    have hs2 : W2.heap.size = W.heap.size := by rw [← hW2]; simp
    have hw2 : (W.putObj Lb (.loop { ({ state := .ready, pending := none, fn := f0, tmps := a.tmps, params := ps, assign, body, defers := w.heap.size } : Loop) with state := .busy })) = W2 := by rw [← hW2, hrc]
    rw [hw2]
    refine wpIn_mono (hbody _ k _ hkb hi2 (by omega)) ?_
    have fin : ∀ (jump : Option Code) (W3 : World), KeepsFrom w.heap.size W2 W3 → ∃ W4, (Instr.endRound Lb jump).run Try.prog W3 = .ok (.bool jump.isNone) W4 ∧ W4 = W3.putObj Lb (rc (if jump.isNone then .ready else .done) jump) ∧ W3.heap[Lb]? = some (rc .busy none) ∧
        W4.heap[Lb]? = some (rc (if jump.isNone then .ready else .done) jump) ∧ W4.heap[w.heap.size]? = some (.deferred (some [])) ∧ W4.heap[w.heap.size + 2]? = W3.heap[w.heap.size + 2]? := fun jump W3 hk3 => by
      have hl3 := hk3.same _ _ (by omega) hl2 (hcell _ _)
      have hl3' := hl3
      rw [hrc] at hl3'
      have h5 := run_endRound (P := Try.prog) jump hl3'
      refine ⟨_, h5, by rw [hrc], hl3, ?_, ?_, ?_⟩
      · rw [hrc]; exact World.putObj_heap_same (Array.getElem?_eq_some_iff.1 hl3).1
      · exact (World.putObj_heap_other (by omega)).trans (hk3.same _ _ (Nat.le_refl _) hk2 rfl)
      · exact World.putObj_heap_other (by omega)
    rintro e a3 W3 hp
    cases e with
    | normal =>
      obtain ⟨hk3, he3, hi3⟩ := hp
      obtain ⟨W4, hr, h4, hl3, hl4, hk4, he4⟩ := fin none W3 hk3
      exact ⟨_, _, hr, .inl ⟨rfl, ⟨by rw [h4]; exact hI.putObj _ hi3 (by omega) hl3 (hcell _ _), hl4, hk4⟩, by rw [hsz]; exact he4.trans (he3.trans he2)⟩⟩
    | ret =>
      obtain ⟨hk3, hi3⟩ := hp
      obtain ⟨W4, hr, h4, hl3, hl4, hk4, _⟩ := fin (some .ret) W3 hk3
      exact ⟨_, _, hr, .inr ⟨rfl, .ret, by rw [h4]; exact (hIx _).putObj (s := ()) _ hi3 (by omega) hl3 (hcell _ _), hl4, hk4⟩⟩
    | exit id =>
      obtain ⟨hk3, hi3⟩ := hp
      obtain ⟨W4, hr, h4, hl3, hl4, hk4, _⟩ := fin (some (.exit id)) W3 hk3
      exact ⟨_, _, hr, .inr ⟨rfl, .exit id, by rw [h4]; exact (hIx _).putObj (s := ()) _ hi3 (by omega) hl3 (hcell _ _), hl4, hk4⟩⟩
    | goto t =>
      obtain ⟨hk3, hi3⟩ := hp
      obtain ⟨W4, hr, h4, hl3, hl4, hk4, _⟩ := fin (some (.goto t)) W3 hk3
      exact ⟨_, _, hr, .inr ⟨rfl, .goto t, by rw [h4]; exact (hIx _).putObj (s := ()) _ hi3 (by omega) hl3 (hcell _ _), hl4, hk4⟩⟩
    | panic ch => exact hp.elim
    | outgrown => exact hp.elim
  · rintro e W2 ⟨⟨v, rfl⟩, (⟨hi, hl, hk⟩ | ⟨c, hi, hl, hk⟩)⟩
    · have hl' := hl
      rw [hrc] at hl'
      exact ⟨none, _, run_endLoop hl' (by simp), hdone _ _ rfl (hI.putObj _ hi (by omega) hl (hcell _ _)) ((World.putObj_heap_other (by omega)).trans hk)⟩
    · have hl' := hl
      rw [hrc] at hl'
      exact ⟨some c, _, run_endLoop hl' (by simp), hstop _ c _ rfl ((hIx c).putObj (s := ()) _ hi (by omega) hl (hcell _ _)) ((World.putObj_heap_other (by omega)).trans hk)⟩
end Go.Proofs.Ytjehfdnkdfmmbaa
