/-
  each's iterator; a range over it.
-/
import Derived.Shelf.Abstract
import Derived.Shelf.RegionOpen
import Derived.WalkKit
import Derived.OwnWalkIn
import Derived.TacticsInMore
import Derived.LoopNIn
import Derived.LoopIn
import Derived.Sort.QuietIn
import Derived.Test.YtkdodmjhpkfhnaaDoorP9
import Derived.Test.YtkdodmjhpkfhnaaDoorAt
namespace Go.Proofs.YtkdodmjhpkfhnaaDoor
open Go.RowKit Go.Shelf BigFrame

attribute [local go_sem] Oper.semAt_some

set_option maxRecDepth 100000 in
set_option maxHeartbeats 2000000 in
theorem each_runs {n lp : Nat} (hn : 1 ≤ n) {l : Lay} {B : Nat} {J : Nat → World → Prop} {Jx : World → Prop} {Jp : List PanicEntry → World → Prop} {W : World} (hsm : l.blocks ≤ 1000)
    (hB : ∀ k W1, J k W1 → LayAt W1 B 70 l)
    (hY : ∀ k W1, k < l.blocks → J k W1 → YieldAt Fence.wide (n - 1) Tryd.prog lp #[.int .i64 (k : Int), .int .i64 (l.size k : Int)] W1 fun e W' =>
      (e = .returned (.bool true) ∧ J (k + 1) W') ∨ (e = .returned (.bool false) ∧ Jx W') ∨ (∃ ch, e = .panicked ch ∧ Jp ch W'))
    (h0 : J 0 W) :
    CallsIn Fence.wide n Tryd.prog 55 #[.func (.yield lp) #[] #[], .pointer (some ⟨B, 0, none⟩)] W fun e W' =>
      ((∃ v, e = .returned v) ∧ (J l.blocks W' ∨ Jx W')) ∨ (∃ ch, e = .panicked ch ∧ Jp ch W') := by
  obtain ⟨c0, c1, c2, c3, c4, c5, c6⟩ := (hB 0 W h0).all
  refine callsIn_of_wp Tryd.func55 rfl trivial ?_ rfl
  simp only [Tryd.ntmps55, List.size_toArray, List.length_cons, List.length_nil, Nat.reduceAdd, Nat.reduceSub, Array.replicate_succ, Array.replicate_zero, List.push_toArray, List.append_toArray, List.nil_append, List.cons_append]
  gi_wp2
  clear c0 c1 c2 c3 c4 c5 c6
  gi_loopw [8] (fun x wr => ∃ k : Nat, k ≤ l.blocks ∧ x = .int .i64 (k : Int) ∧ J k wr) (fun x _ => l.blocks - (intOf x).toNat)
  case atStart => exact ⟨0, Nat.zero_le _, rfl, h0⟩
  case round =>
    obtain ⟨k, hk, rfl, hJk⟩ := hrel
    obtain ⟨c0, c1, c2, c3, c4, c5, c6⟩ := (hB k wr hJk).all
    by_cases hlt : k < l.blocks
    · obtain ⟨fn, tmps, assign, body, hy, hRd⟩ := hY k wr hlt hJk
      by_cases hs : k < l.shorts
      · have hsz : l.size k = l.short := by unfold Lay.size; rw [if_pos hs]
        rw [hsz] at hy
        gi_wp2
        refine hRd.mono ?_
        rintro e W3 (⟨rfl, hJ3⟩ | ⟨rfl, hJx3⟩ | ⟨ch, rfl, hJp3⟩)
        · gi_wp2
          go_roundw
          case rel => exact ⟨k + 1, by omega, by go_num, hJ3⟩
          case measure => simp [intOf]; omega
        · gi_wp2
          refine bodyPost_ret (results_none rfl _ _ _) rfl ?_
          exact .inl ⟨⟨_, rfl⟩, .inr hJx3⟩
        · exact ⟨rfl, .inr ⟨ch, rfl, hJp3⟩⟩
      · have hsz : l.size k = l.long := by unfold Lay.size; rw [if_neg hs]
        rw [hsz] at hy
        gi_wp2
        refine hRd.mono ?_
        rintro e W3 (⟨rfl, hJ3⟩ | ⟨rfl, hJx3⟩ | ⟨ch, rfl, hJp3⟩)
        · gi_wp2
          go_roundw
          case rel => exact ⟨k + 1, by omega, by go_num, hJ3⟩
          case measure => simp [intOf]; omega
        · gi_wp2
          refine bodyPost_ret (results_none rfl _ _ _) rfl ?_
          exact .inl ⟨⟨_, rfl⟩, .inr hJx3⟩
        · exact ⟨rfl, .inr ⟨ch, rfl, hJp3⟩⟩
    · obtain rfl : k = l.blocks := by omega
      gi_wp2
      go_end0
      exact .inl ⟨⟨_, rfl⟩, .inl hJk⟩
/-- How the body of a round may be left. -/
def eachPost (B : Nat) (I : Nat → World → Prop) (Ix : Code → World → Prop) (Ip : List PanicEntry → World → Prop) (k : Nat) (W : World) : Exit → Act → World → Prop
  | .normal, _, W' => KeepsFrom B W W' ∧ I k W'
  | .ret, _, W' => KeepsFrom B W W' ∧ Ix .ret W'
  | .exit id, _, W' => KeepsFrom B W W' ∧ Ix (.exit id) W'
  | .goto t, _, W' => KeepsFrom B W W' ∧ Ix (.goto t) W'
  | .panic ch, a, W' => a.defers = [] ∧ KeepsFrom B W W' ∧ Ip ch W'
  | .outgrown, _, _ => False
/-- A range over each's iterator. -/
theorem wpAt_each {n f0 : Nat} {fn0 : Func} (hf0 : Tryd.prog.funcs[f0]? = some fn0) (h1 : 2 ≤ n) {g : Operand} {ps : Array Tmp} {assign body : Code} {Q : Exit → Act → World → Prop} {a : Act} {w : World} {B : Nat} {l : Lay} (hsm : l.blocks ≤ 1000)
    (hg : a.eval g = .func (.func 55) #[] #[.pointer (some ⟨B, 0, none⟩)]) (hps : ps.size = 2)
    (I : Nat → World → Prop) (Ix : Code → World → Prop) (Ip : List PanicEntry → World → Prop) (hI : OwnFrom w.heap.size I) (hIx : ∀ c, OwnFrom w.heap.size (fun (_ : Unit) => Ix c)) (hL : ∀ k W, I k W → LayAt W B 70 l) (h0 : I 0 w) (a₁ : Nat → Act)
    (hassign : ∀ (lp k : Nat) (W : World) (K : Act → World → Prop), K (a₁ k) W →
      assign.wpIn (Fence.wide.inRound lp) (n - 1 - 1) Tryd.prog (Exit.then K (fun _ _ _ => False)) { tmps := (ps.zip #[.int .i64 (k : Int), .int .i64 (l.size k : Int)]).foldl (fun t (p, v) => t.setIfInBounds p v) a.tmps, defers := [] } W)
    (hbody : ∀ (lp k : Nat) (W : World), k < l.blocks → I k W → w.heap.size + 2 ≤ W.heap.size → body.wpIn (Fence.wide.inRound lp) (n - 1 - 1) Tryd.prog (eachPost w.heap.size I Ix Ip (k + 1) W) (a₁ k) W)
    (hdone : ∀ (D : Nat) (W : World), D = w.heap.size → I l.blocks W → W.heap[D]? = some (.deferred (some [])) → Q .normal { a with defers := mkD D :: a.defers } W)
    (hstop : ∀ (D : Nat) (c : Code) (W : World), D = w.heap.size → Ix c W → W.heap[D]? = some (.deferred (some [])) → wpAt f0 Tryd.prog c Q { a with defers := mkD D :: a.defers } W)
    (hpanic : ∀ (D : Nat) (ch : List PanicEntry) (W : World), D = w.heap.size → Ip ch W → W.heap[D]? = some (.deferred (some [])) → Q (.panic ch) { a with defers := mkD D :: a.defers } W) :
    wpAt f0 Tryd.prog (Code.rangeFunc g ps assign body) Q a w := by
  refine wpAt_rangeFunc (n := n - 1) hg (enters_of Tryd.func55 (by kernel_rfl) rfl) ?_
  obtain ⟨rc, hrc⟩ : ∃ rc : LoopState → Option Code → Obj, rc = fun st pe => .loop { state := st, pending := pe, fn := f0, tmps := a.tmps, params := ps, assign, body, defers := w.heap.size } := ⟨_, rfl⟩
  obtain ⟨L, hLp⟩ : ∃ L, w.heap.size + 1 = L := ⟨_, rfl⟩
  obtain ⟨W1, hW1⟩ : ∃ W1, (w.alloc (.deferred (some []))).alloc (rc .ready none) = W1 := ⟨_, rfl⟩
  have hW1' : (w.alloc (.deferred (some []))).alloc (.loop { state := .ready, pending := none, fn := f0, tmps := a.tmps, params := ps, assign, body, defers := w.heap.size }) = W1 := by rw [← hW1, hrc]
  rw [hW1', hLp]
  have hsz : W1.heap.size = w.heap.size + 2 := by rw [← hW1]; simp
  have hrec1 : W1.heap[L]? = some (rc .ready none) := by
    have := World.alloc_heap_new (w.alloc (.deferred (some []))) (rc .ready none)
    rw [World.size_alloc, hLp] at this
    rw [← hW1]; exact this
  have hdef1 : W1.heap[w.heap.size]? = some (.deferred (some [])) := by
    rw [← hW1]; exact (Below.heap_alloc _ _ _ (by simp)).trans (World.alloc_heap_new w _)
  have hcell : ∀ st pe, (rc st pe).isCells = false := fun st pe => by rw [hrc]; rfl
  refine (each_runs (n := n - 1) (lp := L) (l := l) (B := B) (by omega) (J := fun k W => I k W ∧ W.heap[L]? = some (rc .ready none) ∧ W.heap[w.heap.size]? = some (.deferred (some [])))
    (Jx := fun W => ∃ c, Ix c W ∧ W.heap[L]? = some (rc .done (some c)) ∧ W.heap[w.heap.size]? = some (.deferred (some [])))
    (Jp := fun ch W => Ip ch W ∧ W.heap[w.heap.size]? = some (.deferred (some []))) hsm
    (fun k W h => hL k W h.1) ?_ ⟨by rw [← hW1]; exact hI.alloc _ (hI.alloc _ h0), hrec1, hdef1⟩).mono ?_
  · rintro k W hkb ⟨hi, hl, hk⟩
    have hlt : L < W.heap.size := (Array.getElem?_eq_some_iff.1 hl).1
    have hl' := hl
    rw [hrc] at hl'
    refine ⟨f0, _, assign, body, run_yield hl' (by show 2 = ps.size; rw [hps]), roundIn_of_wpIn_p hf0 (hassign _ k W _ ⟨_, run_beginRound hl' rfl, ?_⟩)⟩
    obtain ⟨W2, hW2⟩ : ∃ W2, W.putObj L (rc .busy none) = W2 := ⟨_, rfl⟩
    have hl2 : W2.heap[L]? = some (rc .busy none) := by rw [← hW2]; exact World.putObj_heap_same hlt
    have hk2 : W2.heap[w.heap.size]? = some (.deferred (some [])) := by rw [← hW2]; exact (World.putObj_heap_other (by omega)).trans hk
    have hi2 : I k W2 := by rw [← hW2]; exact hI.putObj _ hi (by omega) hl (hcell _ _)
    have hs2 : W2.heap.size = W.heap.size := by rw [← hW2]; simp
    have hw2 : (W.putObj L (.loop { ({ state := .ready, pending := none, fn := f0, tmps := a.tmps, params := ps, assign, body, defers := w.heap.size } : Loop) with state := .busy })) = W2 := by rw [← hW2, hrc]
    rw [hw2]
    refine wpIn_mono (hbody _ k _ hkb hi2 (by omega)) ?_
    have fin : ∀ (jump : Option Code) (W3 : World), KeepsFrom w.heap.size W2 W3 → ∃ W4, (Instr.endRound L jump).run Tryd.prog W3 = .ok (.bool jump.isNone) W4 ∧ W4 = W3.putObj L (rc (if jump.isNone then .ready else .done) jump) ∧ W3.heap[L]? = some (rc .busy none) ∧
        W4.heap[L]? = some (rc (if jump.isNone then .ready else .done) jump) ∧ W4.heap[w.heap.size]? = some (.deferred (some [])) := fun jump W3 hk3 => by
      have hl3 := hk3.same _ _ (by omega) hl2 (hcell _ _)
      have hl3' := hl3
      rw [hrc] at hl3'
      have h5 := run_endRound (P := Tryd.prog) jump hl3'
      refine ⟨_, h5, by rw [hrc], hl3, ?_, ?_⟩
      · rw [hrc]; exact World.putObj_heap_same (Array.getElem?_eq_some_iff.1 hl3).1
      · exact (World.putObj_heap_other (by omega)).trans (hk3.same _ _ (Nat.le_refl _) hk2 rfl)
    rintro e a3 W3 hp
    cases e with
    | normal =>
      obtain ⟨hk3, hi3⟩ := hp
      obtain ⟨W4, hr, h4, hl3, hl4, hk4⟩ := fin none W3 hk3
      exact ⟨_, _, hr, .inl ⟨rfl, by rw [h4]; exact hI.putObj _ hi3 (by omega) hl3 (hcell _ _), hl4, hk4⟩⟩
    | ret =>
      obtain ⟨hk3, hi3⟩ := hp
      obtain ⟨W4, hr, h4, hl3, hl4, hk4⟩ := fin (some .ret) W3 hk3
      exact ⟨_, _, hr, .inr (.inl ⟨rfl, .ret, by rw [h4]; exact (hIx _).putObj (s := ()) _ hi3 (by omega) hl3 (hcell _ _), hl4, hk4⟩)⟩
    | exit id =>
      obtain ⟨hk3, hi3⟩ := hp
      obtain ⟨W4, hr, h4, hl3, hl4, hk4⟩ := fin (some (.exit id)) W3 hk3
      exact ⟨_, _, hr, .inr (.inl ⟨rfl, .exit id, by rw [h4]; exact (hIx _).putObj (s := ()) _ hi3 (by omega) hl3 (hcell _ _), hl4, hk4⟩)⟩
    | goto t =>
      obtain ⟨hk3, hi3⟩ := hp
      obtain ⟨W4, hr, h4, hl3, hl4, hk4⟩ := fin (some (.goto t)) W3 hk3
      exact ⟨_, _, hr, .inr (.inl ⟨rfl, .goto t, by rw [h4]; exact (hIx _).putObj (s := ()) _ hi3 (by omega) hl3 (hcell _ _), hl4, hk4⟩)⟩
    | panic ch =>
      obtain ⟨hd3, hk3, hi3⟩ := hp
      exact ⟨hd3, .inr (.inr ⟨ch, rfl, hi3, hk3.same _ _ (Nat.le_refl _) hk2 rfl⟩)⟩
    | outgrown => exact hp.elim
  · rintro e W2 (⟨⟨v, rfl⟩, (⟨hi, hl, hk⟩ | ⟨c, hi, hl, hk⟩)⟩ | ⟨ch, rfl, hi, hk⟩)
    · have hl' := hl
      rw [hrc] at hl'
      exact ⟨none, _, run_endLoop hl' (by simp), hdone _ _ rfl (hI.putObj _ hi (by omega) hl (hcell _ _)) ((World.putObj_heap_other (by omega)).trans hk)⟩
    · have hl' := hl
      rw [hrc] at hl'
      exact ⟨some c, _, run_endLoop hl' (by simp), hstop _ c _ rfl ((hIx c).putObj (s := ()) _ hi (by omega) hl (hcell _ _)) ((World.putObj_heap_other (by omega)).trans hk)⟩
    · exact hpanic _ ch _ rfl hi hk
/-- A range over each's iterator, where no round panics. -/
theorem wpIn_each {n : Nat} (h1 : 2 ≤ n) {g : Operand} {ps : Array Tmp} {assign body : Code} {Q : Exit → Act → World → Prop} {a : Act} {w : World} {B : Nat} {l : Lay} (hsm : l.blocks ≤ 1000)
    (hg : a.eval g = .func (.func 55) #[] #[.pointer (some ⟨B, 0, none⟩)]) (hps : ps.size = 2)
    (I : Nat → World → Prop) (Ix : Code → World → Prop) (hI : OwnFrom w.heap.size I) (hIx : ∀ c, OwnFrom w.heap.size (fun (_ : Unit) => Ix c)) (hL : ∀ k W, I k W → LayAt W B 70 l) (h0 : I 0 w) (a₁ : Nat → Act)
    (hassign : ∀ (lp k : Nat) (W : World) (K : Act → World → Prop), K (a₁ k) W →
      assign.wpIn (Fence.wide.inRound lp) (n - 1 - 1) Tryd.prog (Exit.then K (fun _ _ _ => False)) { tmps := (ps.zip #[.int .i64 (k : Int), .int .i64 (l.size k : Int)]).foldl (fun t (p, v) => t.setIfInBounds p v) a.tmps, defers := [] } W)
    (hbody : ∀ (lp k : Nat) (W : World), k < l.blocks → I k W → w.heap.size + 2 ≤ W.heap.size → body.wpIn (Fence.wide.inRound lp) (n - 1 - 1) Tryd.prog (eachPost w.heap.size I Ix (fun _ _ => False) (k + 1) W) (a₁ k) W)
    (hdone : ∀ (D : Nat) (W : World), D = w.heap.size → I l.blocks W → W.heap[D]? = some (.deferred (some [])) → Q .normal { a with defers := mkD D :: a.defers } W)
    (hstop : ∀ (D : Nat) (c : Code) (W : World), D = w.heap.size → Ix c W → W.heap[D]? = some (.deferred (some [])) → c.wpIn Fence.wide n Tryd.prog Q { a with defers := mkD D :: a.defers } W) :
    (Code.rangeFunc g ps assign body).wpIn Fence.wide n Tryd.prog Q a w := by
  refine wpIn_rangeFunc fun f0 hf0 => ?_
  obtain ⟨rc, hrc⟩ : ∃ rc : LoopState → Option Code → Obj, rc = fun st pe => .loop { state := st, pending := pe, fn := f0, tmps := a.tmps, params := ps, assign, body, defers := w.heap.size } := ⟨_, rfl⟩
  obtain ⟨L, hLp⟩ : ∃ L, w.heap.size + 1 = L := ⟨_, rfl⟩
  obtain ⟨W1, hW1⟩ : ∃ W1, (w.alloc (.deferred (some []))).alloc (rc .ready none) = W1 := ⟨_, rfl⟩
  have hsz : W1.heap.size = w.heap.size + 2 := by rw [← hW1]; simp
  have hrec1 : W1.heap[L]? = some (rc .ready none) := by
    have := World.alloc_heap_new (w.alloc (.deferred (some []))) (rc .ready none)
    rw [World.size_alloc, hLp] at this
    rw [← hW1]; exact this
  have hdef1 : W1.heap[w.heap.size]? = some (.deferred (some [])) := by
    rw [← hW1]; exact (Below.heap_alloc _ _ _ (by simp)).trans (World.alloc_heap_new w _)
  have hcell : ∀ st pe, (rc st pe).isCells = false := fun st pe => by rw [hrc]; rfl
  refine ⟨L, [mkD w.heap.size], W1, { target := .fn (.func 55) #[.pointer (some ⟨B, 0, none⟩)], args := #[.func (.yield L) #[] #[]] }, W1, 55, #[.func (.yield L) #[] #[]] ++ #[.pointer (some ⟨B, 0, none⟩)], W1, ?_, ?_, ?_, ?_, fun _ => by omega, ?_⟩
  · rw [← hW1, hrc, ← hLp]; exact run_enterLoop_outer _ _ _ _ _
  · simp only [resolve, hg]
    simp [go_sem]
  · intro f' _; trivial
  · simp [invoke, go_sem]
  refine (each_runs (n := n - 1) (lp := L) (l := l) (B := B) (by omega) (J := fun k W => I k W ∧ W.heap[L]? = some (rc .ready none) ∧ W.heap[w.heap.size]? = some (.deferred (some [])))
    (Jx := fun W => ∃ c, Ix c W ∧ W.heap[L]? = some (rc .done (some c)) ∧ W.heap[w.heap.size]? = some (.deferred (some [])))
    (Jp := fun _ _ => False) hsm
    (fun k W h => hL k W h.1) ?_ ⟨by rw [← hW1]; exact hI.alloc _ (hI.alloc _ h0), hrec1, hdef1⟩).mono ?_
  · rintro k W hkb ⟨hi, hl, hk⟩
    have hlt : L < W.heap.size := (Array.getElem?_eq_some_iff.1 hl).1
    have hl' := hl
    rw [hrc] at hl'
    refine ⟨f0, _, assign, body, run_yield hl' (by show 2 = ps.size; rw [hps]), roundIn_of_wpIn hf0 (hassign _ k W _ ⟨_, run_beginRound hl' rfl, ?_⟩)⟩
    obtain ⟨W2, hW2⟩ : ∃ W2, W.putObj L (rc .busy none) = W2 := ⟨_, rfl⟩
    have hl2 : W2.heap[L]? = some (rc .busy none) := by rw [← hW2]; exact World.putObj_heap_same hlt
    have hk2 : W2.heap[w.heap.size]? = some (.deferred (some [])) := by rw [← hW2]; exact (World.putObj_heap_other (by omega)).trans hk
    have hi2 : I k W2 := by rw [← hW2]; exact hI.putObj _ hi (by omega) hl (hcell _ _)
    have hs2 : W2.heap.size = W.heap.size := by rw [← hW2]; simp
    have hw2 : (W.putObj L (.loop { ({ state := .ready, pending := none, fn := f0, tmps := a.tmps, params := ps, assign, body, defers := w.heap.size } : Loop) with state := .busy })) = W2 := by rw [← hW2, hrc]
    rw [hw2]
    refine wpIn_mono (hbody _ k _ hkb hi2 (by omega)) ?_
    have fin : ∀ (jump : Option Code) (W3 : World), KeepsFrom w.heap.size W2 W3 → ∃ W4, (Instr.endRound L jump).run Tryd.prog W3 = .ok (.bool jump.isNone) W4 ∧ W4 = W3.putObj L (rc (if jump.isNone then .ready else .done) jump) ∧ W3.heap[L]? = some (rc .busy none) ∧
        W4.heap[L]? = some (rc (if jump.isNone then .ready else .done) jump) ∧ W4.heap[w.heap.size]? = some (.deferred (some [])) := fun jump W3 hk3 => by
      have hl3 := hk3.same _ _ (by omega) hl2 (hcell _ _)
      have hl3' := hl3
      rw [hrc] at hl3'
      have h5 := run_endRound (P := Tryd.prog) jump hl3'
      refine ⟨_, h5, by rw [hrc], hl3, ?_, ?_⟩
      · rw [hrc]; exact World.putObj_heap_same (Array.getElem?_eq_some_iff.1 hl3).1
      · exact (World.putObj_heap_other (by omega)).trans (hk3.same _ _ (Nat.le_refl _) hk2 rfl)
    rintro e a3 W3 hp
    cases e with
    | normal =>
      obtain ⟨hk3, hi3⟩ := hp
      obtain ⟨W4, hr, h4, hl3, hl4, hk4⟩ := fin none W3 hk3
      exact ⟨_, _, hr, .inl ⟨rfl, by rw [h4]; exact hI.putObj _ hi3 (by omega) hl3 (hcell _ _), hl4, hk4⟩⟩
    | ret =>
      obtain ⟨hk3, hi3⟩ := hp
      obtain ⟨W4, hr, h4, hl3, hl4, hk4⟩ := fin (some .ret) W3 hk3
      exact ⟨_, _, hr, .inr (.inl ⟨rfl, .ret, by rw [h4]; exact (hIx _).putObj (s := ()) _ hi3 (by omega) hl3 (hcell _ _), hl4, hk4⟩)⟩
    | exit id =>
      obtain ⟨hk3, hi3⟩ := hp
      obtain ⟨W4, hr, h4, hl3, hl4, hk4⟩ := fin (some (.exit id)) W3 hk3
      exact ⟨_, _, hr, .inr (.inl ⟨rfl, .exit id, by rw [h4]; exact (hIx _).putObj (s := ()) _ hi3 (by omega) hl3 (hcell _ _), hl4, hk4⟩)⟩
    | goto t =>
      obtain ⟨hk3, hi3⟩ := hp
      obtain ⟨W4, hr, h4, hl3, hl4, hk4⟩ := fin (some (.goto t)) W3 hk3
      exact ⟨_, _, hr, .inr (.inl ⟨rfl, .goto t, by rw [h4]; exact (hIx _).putObj (s := ()) _ hi3 (by omega) hl3 (hcell _ _), hl4, hk4⟩)⟩
    | panic ch => exact hp.2.2.elim
    | outgrown => exact hp.elim
  · rintro e W2 (⟨⟨v, rfl⟩, (⟨hi, hl, hk⟩ | ⟨c, hi, hl, hk⟩)⟩ | ⟨ch, rfl, hi⟩)
    · have hl' := hl
      rw [hrc] at hl'
      exact ⟨none, _, run_endLoop hl' (by simp), hdone _ _ rfl (hI.putObj _ hi (by omega) hl (hcell _ _)) ((World.putObj_heap_other (by omega)).trans hk)⟩
    · have hl' := hl
      rw [hrc] at hl'
      exact ⟨some c, _, run_endLoop hl' (by simp), hstop _ c _ rfl ((hIx c).putObj (s := ()) _ hi (by omega) hl (hcell _ _)) ((World.putObj_heap_other (by omega)).trans hk)⟩
    · exact hi.elim
end Go.Proofs.YtkdodmjhpkfhnaaDoor
