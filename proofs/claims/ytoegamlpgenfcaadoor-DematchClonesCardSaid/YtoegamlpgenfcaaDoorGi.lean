/-
  A region that draws its order, by what is known of the operations that are done: the frame enters by the values of its slots alone. No program is named here. A region that draws its order, inside a fence (within a round, too): by what is known of the operations that are done. No program is named here.
-/
import Derived.Orders
import Derived.RowKit
import Derived.Laws.Append
import Derived.Laws.Tables
import Derived.WalkSpells
import Derived.Deep.QuietTactic
import Derived.Test.YtoegamlpgenfcaaDoorBase
import Derived.OrdersIn
import Derived.RangeFuncCalls
import Derived.Test.YtoegamlpgenfcaaDoorRuns
namespace Go.Proofs.YtoegamlpgenfcaaDoor
/-! ### A region that draws its order, by what is known of the operations that are done: the frame enters by the values of its slots alone. No program is named here. -/
section
set_option maxRecDepth 100000
open Go.RowKit

/-- A function turned at one place. -/
def upd {α : Type} (f : Nat → α) (i : Nat) (v : α) (j : Nat) : α := if j = i then v else f j
theorem upd_same {α : Type} (f : Nat → α) (i : Nat) (v : α) : upd f i v i = v := if_pos rfl
theorem upd_other {α : Type} (f : Nat → α) {i j : Nat} (v : α) (h : j ≠ i) : upd f i v j = f j := if_neg h

/-- What the walk knows of the frame: the slots below base are as they were, those from base on hold V. -/
structure FrameAt (base : Nat) (a0 a : Act) (V : Nat → Value) (N : Nat) : Prop where
  defers : a.defers = a0.defers
  sz : a.tmps.size = a0.tmps.size
  low : ∀ t, t < base → a.tmps.getD t undef = a0.tmps.getD t undef
  at_ : ∀ j, j < N → a.tmps.getD (base + j) undef = V j
  high : ∀ t, base + N ≤ t → a.tmps.getD t undef = a0.tmps.getD t undef
theorem FrameAt.put {base N i : Nat} {a0 a : Act} {V : Nat → Value} (h : FrameAt base a0 a V N) (hi : i < N) (hN : base + N ≤ a0.tmps.size) (v : Value) : FrameAt base a0 (a.put (some (base + i)) v) (upd V i v) N := by
  refine ⟨h.defers, by simp [Act.put, h.sz], fun t ht => ?_, fun j hj => ?_, fun t ht => ?_⟩
  · rw [← h.low t ht]
    simp only [Act.put, Array.getD_eq_getD_getElem?, Array.getElem?_setIfInBounds]
    rw [if_neg (by omega)]
  · simp only [Act.put, Array.getD_eq_getD_getElem?, Array.getElem?_setIfInBounds]
    by_cases e : i = j
    · subst e
      rw [if_pos rfl, if_pos (by rw [h.sz]; omega), upd_same]
      rfl
    · rw [if_neg (by omega), upd_other _ _ (Ne.symm e), ← h.at_ j hj, Array.getD_eq_getD_getElem?]
  · rw [← h.high t ht]
    simp only [Act.put, Array.getD_eq_getD_getElem?, Array.getElem?_setIfInBounds]
    rw [if_neg (by omega)]
theorem FrameAt.eval {base N j : Nat} {a0 a : Act} {V : Nat → Value} (h : FrameAt base a0 a V N) (hj : j < N) {t : Nat} (ht : t = base + j) : a.eval (.tmp t) = V j := by
  subst ht
  exact h.at_ j hj
theorem FrameAt.evalLow {base N t : Nat} {a0 a : Act} {V : Nat → Value} (h : FrameAt base a0 a V N) (ht : t < base) {v : Value} (hv : a0.tmps.getD t undef = v) : a.eval (.tmp t) = v := (h.low t ht).trans hv

theorem none_listed (n i : Nat) : (Array.replicate n false).getD i false = false := by
  simp only [Array.getD_eq_getD_getElem?, Array.getElem?_replicate]
  split <;> rfl
section
variable {P : Program} {ops : Array Oper} {Q : Exit → Act → World → Prop}
theorem wpOp_value {i : Nat} {o : Oper} {a : Act} {w w' : World} {v : Value} {K : Act → World → Prop} (ho : ops[i]? = some o) (hg : o.guard = none) (hrun : (execOp a.eval o).run P w = .ok (.value v) w') (hK : K (a.put o.dst v) w') : wpOp P ops Q i K a w := by
  unfold wpOp
  simp only [ho]
  rw [if_pos (by simp [Region.wanted, hg])]
  refine .inl ?_
  unfold Oper.wp
  rw [hrun]
  exact hK
theorem wpOp_skip {i : Nat} {o : Oper} {a : Act} {w w' : World} {K : Act → World → Prop} (ho : ops[i]? = some o) (hg : o.guard = none) (hd : o.dst = none) (hrun : (execOp a.eval o).run P w = .ok .skip w') (hK : K a w') : wpOp P ops Q i K a w := by
  unfold wpOp
  simp only [ho]
  rw [if_pos (by simp [Region.wanted, hg])]
  refine .inl ?_
  unfold Oper.wp
  rw [hrun]
  show K (a.put o.dst undef) w'
  rw [hd]
  exact hK
theorem ready_mem {listed : Array Bool} {i : Nat} (h : i ∈ Region.ready .any ops listed) : i < ops.size ∧ listed.getD i true = false ∧ ∀ o, ops[i]? = some o → ∀ e ∈ o.after, Region.binds .any e = true → listed.getD e.on false = true := by
  unfold Region.ready at h
  rw [List.mem_filter, List.mem_range] at h
  obtain ⟨h1, h2⟩ := h
  rw [Bool.and_eq_true, Bool.not_eq_true'] at h2
  refine ⟨h1, h2.1, fun o ho e he hb => ?_⟩
  have h3 := h2.2
  rw [ho] at h3
  simp only [Option.map_some, Option.getD_some, Array.all_eq_true, Bool.or_eq_true, Bool.not_eq_true'] at h3
  obtain ⟨k, hk, rfl⟩ := Array.getElem_of_mem he
  rcases h3 k hk with h4 | h4
  · rw [hb] at h4; cases h4
  · exact h4
/-- How many of the first N are not yet listed. -/
def cntL (listed : Array Bool) (N : Nat) : Nat := ((List.range N).filter fun i => !listed.getD i false).length
theorem cntL_set {listed : Array Bool} {N i : Nat} (hi : i < N) (hs : N ≤ listed.size) (hf : listed.getD i true = false) : cntL (listed.setIfInBounds i true) N + 1 ≤ cntL listed N := by
  unfold cntL
  induction N with
  | zero => omega
  | succ N ih =>
    simp only [List.range_succ, List.filter_append, List.length_append]
    by_cases e : i = N
    · subst e
      have h1 : listed.getD i false = false := by
        simp only [Array.getD_eq_getD_getElem?] at hf ⊢
        rw [Array.getElem?_eq_getElem (by omega)] at hf ⊢
        exact hf
      have h2 : (listed.setIfInBounds i true).getD i false = true := by
        simp only [Array.getD_eq_getD_getElem?, Array.getElem?_setIfInBounds, if_true]
        rw [if_pos (by omega)]
        rfl
      have h3 : (List.range i).filter (fun j => !(listed.setIfInBounds i true).getD j false) = (List.range i).filter (fun j => !listed.getD j false) := by
        refine List.filter_congr fun j hj => ?_
        have hj := List.mem_range.1 hj
        simp only [Array.getD_eq_getD_getElem?, Array.getElem?_setIfInBounds]
        rw [if_neg (by omega)]
      rw [h3]
      simp only [List.filter_cons, List.filter_nil, h1, h2, Bool.not_true, Bool.not_false, Bool.false_eq_true, if_true, if_false, List.length_cons, List.length_nil]
      omega
    · have h1 : (listed.setIfInBounds i true).getD N false = listed.getD N false := by
        simp only [Array.getD_eq_getD_getElem?, Array.getElem?_setIfInBounds]
        rw [if_neg e]
      have := ih (by omega) (by omega)
      simp only [List.filter_cons, List.filter_nil, h1]
      omega
theorem cntL_zero {listed : Array Bool} {N : Nat} (h : cntL listed N = 0) : ∀ i, i < N → listed.getD i false = true := fun i hi => by
  unfold cntL at h
  have := List.eq_nil_of_length_eq_zero h
  rw [List.filter_eq_nil_iff] at this
  simpa using this i (List.mem_range.2 hi)
/-- Is an operation ready as long as the first N are not all done? -/
def readyB (ops : Array Oper) (N : Nat) : Bool := (List.range N).all fun i => ((ops[i]?).map (·.after.all fun e => decide (e.on < i))).getD false
theorem some_ready {listed : Array Bool} {N : Nat} (hb : readyB ops N = true) (hs : listed.size = ops.size) (hN : N ≤ ops.size) (h : 0 < cntL listed N) : Region.ready .any ops listed ≠ [] := by
  have : ∃ i, i < N ∧ listed.getD i false = false := by
    rcases Classical.em (∃ i, i < N ∧ listed.getD i false = false) with h1 | h1
    · exact h1
    · exfalso
      have : cntL listed N = 0 := by
        unfold cntL
        rw [List.length_eq_zero_iff, List.filter_eq_nil_iff]
        intro i hi
        have := List.mem_range.1 hi
        by_cases e : listed.getD i false = false
        · exact absurd ⟨i, this, e⟩ h1
        · simpa using e
      omega
  obtain ⟨i0, hi0, hf0⟩ := this
  -- the least that is not listed
  have hleast : ∃ i, i < N ∧ listed.getD i false = false ∧ ∀ j, j < i → listed.getD j false = true := by
    clear h
    induction i0 using Nat.strongRecOn with
    | _ i ih =>
      rcases Classical.em (∃ j, j < i ∧ listed.getD j false = false) with ⟨j, hj, hf⟩ | hn
      · exact ih j hj (by omega) hf
      · exact ⟨i, hi0, hf0, fun j hj => by
          by_cases e : listed.getD j false = true
          · exact e
          · exact absurd ⟨j, hj, Bool.eq_false_iff.2 e⟩ hn⟩
  obtain ⟨i, hi, hf, hl⟩ := hleast
  have hm : i ∈ Region.ready .any ops listed := by
    unfold Region.ready
    rw [List.mem_filter, List.mem_range]
    refine ⟨by omega, ?_⟩
    rw [Bool.and_eq_true, Bool.not_eq_true']
    have hb1 := List.all_eq_true.1 hb i (List.mem_range.2 hi)
    refine ⟨?_, ?_⟩
    · simp only [Array.getD_eq_getD_getElem?] at hf ⊢
      rw [Array.getElem?_eq_getElem (by omega)] at hf ⊢
      exact hf
    · rw [Array.getElem?_eq_getElem (by omega)] at hb1 ⊢
      simp only [Option.map_some, Option.getD_some, Array.all_eq_true, decide_eq_true_eq] at hb1 ⊢
      intro k hk
      rw [hl _ (hb1 k hk), Bool.or_true]
  intro e
  rw [e] at hm
  cases hm
/-- The first N operations in whatever order: a predicate S on what is done, on the values, on the world; behind them the rest (from N on), of which each waits for all the first N. -/
theorem wpAny_steps {N base : Nat} {a0 : Act} {w0 : World} (hN : N ≤ ops.size) (hrd : readyB ops N = true) (hfit : base + N ≤ a0.tmps.size)
    (hrest : ∀ i o, N ≤ i → ops[i]? = some o → ∀ j, j < N → ∃ e ∈ o.after, Region.binds .any e = true ∧ e.on = j)
    (S : (Nat → Bool) → (Nat → Value) → World → Prop)
    (hstep : ∀ i L V a w, i < N → S L V w → L i = false → FrameAt base a0 a V N → (∀ o, ops[i]? = some o → ∀ e ∈ o.after, Region.binds .any e = true → L e.on = true) →
      ∃ o v w', ops[i]? = some o ∧ o.guard = none ∧ o.dst = some (base + i) ∧ (execOp a.eval o).run P w = .ok (.value v) w' ∧ S (upd L i true) (upd V i v) w')
    (hlast : ∀ L V a w, (∀ i, i < N → L i = true) → S L V w → FrameAt base a0 a V N → wpAny P .any ops Q (ops.size - N) (Array.replicate N true ++ Array.replicate (ops.size - N) false) a w)
    (V0 : Nat → Value) (h0 : S (fun _ => false) V0 w0) (hV0 : ∀ j, j < N → a0.tmps.getD (base + j) undef = V0 j) :
    wpAny P .any ops Q ops.size (Array.replicate ops.size false) a0 w0 := by
  suffices H : ∀ (c : Nat) (listed : Array Bool) (V : Nat → Value) (a : Act) (w : World), cntL listed N = c → listed.size = ops.size → (∀ i, N ≤ i → listed.getD i false = false) → S (fun i => listed.getD i false) V w → FrameAt base a0 a V N →
      wpAny P .any ops Q (c + (ops.size - N)) listed a w by
    have hc : cntL (Array.replicate ops.size false) N = N := by
      unfold cntL
      rw [List.filter_eq_self.2]
      · exact List.length_range
      · intro i _
        rw [none_listed]
        rfl
    have := H N (Array.replicate ops.size false) V0 a0 w0 hc (by simp) (fun i _ => none_listed _ i) ?_ ⟨rfl, rfl, fun _ _ => rfl, hV0, fun _ _ => rfl⟩
    · rwa [show N + (ops.size - N) = ops.size by omega] at this
    · have e : (fun i => (Array.replicate ops.size false).getD i false) = fun _ => false := funext fun i => none_listed _ i
      rw [e]; exact h0
  intro c
  induction c with
  | zero =>
    intro listed V a w hc hs hr hS hF
    have hall := cntL_zero hc
    have e : listed = Array.replicate N true ++ Array.replicate (ops.size - N) false := by
      apply Array.ext
      · simp [hs]; omega
      · intro i h1 h2
        rcases Nat.lt_or_ge i N with h | h
        · have := hall i h
          simp only [Array.getD_eq_getD_getElem?, Array.getElem?_eq_getElem h1, Option.getD_some] at this
          rw [this, Array.getElem_append_left (by simpa using h)]
          simp
        · have := hr i h
          simp only [Array.getD_eq_getD_getElem?, Array.getElem?_eq_getElem h1, Option.getD_some] at this
          rw [this, Array.getElem_append_right (by simpa using h)]
          simp
    rw [Nat.zero_add, e]
    exact hlast _ V a w hall hS hF
  | succ c ih =>
    intro listed V a w hc hs hr hS hF
    rw [show c + 1 + (ops.size - N) = (c + (ops.size - N)) + 1 by omega]
    refine ⟨fun hn => absurd hn (some_ready hrd hs hN (by omega)), fun i hm => ?_⟩
    obtain ⟨hi, hf, hafter⟩ := ready_mem hm
    have hiN : i < N := by
      rcases Nat.lt_or_ge i N with h | h
      · exact h
      · exfalso
        have : cntL listed N = 0 := by
          unfold cntL
          rw [List.length_eq_zero_iff, List.filter_eq_nil_iff]
          intro j hj
          obtain ⟨e, he, hb, rfl⟩ := hrest i _ h (Array.getElem?_eq_getElem hi) j (List.mem_range.1 hj)
          simpa using hafter _ (Array.getElem?_eq_getElem hi) e he hb
        omega
    have hLi : (fun i => listed.getD i false) i = false := by
      simp only [Array.getD_eq_getD_getElem?] at hf ⊢
      rw [Array.getElem?_eq_getElem (by omega)] at hf ⊢
      exact hf
    obtain ⟨o, v, w', ho, hg, hd, hrun, hS'⟩ := hstep i _ V a w hiN hS hLi hF (fun o ho e he hb => hafter o ho e he hb)
    refine wpOp_value ho hg hrun ?_
    rw [hd]
    have hcs := cntL_set hiN (by omega) hf
    have hc2 : cntL (listed.setIfInBounds i true) N = c := by
      have h1 : cntL listed N ≤ cntL (listed.setIfInBounds i true) N + 1 := by
        clear hcs hc hS hF hS' hrun ih hf hLi hafter hm
        unfold cntL
        have hsplit : ∀ M, ((List.range M).filter fun j => !listed.getD j false).length ≤ ((List.range M).filter fun j => !(listed.setIfInBounds i true).getD j false).length + if i < M then 1 else 0 := by
          intro M
          induction M with
          | zero => simp
          | succ M ihM =>
            simp only [List.range_succ, List.filter_append, List.length_append, List.filter_cons, List.filter_nil]
            by_cases e : i = M
            · subst e
              rw [if_neg (Nat.lt_irrefl i)] at ihM
              rw [if_pos (Nat.lt_succ_self i)]
              split <;> split <;> simp only [List.length_cons, List.length_nil] <;> omega
            · have h1 : (listed.setIfInBounds i true).getD M false = listed.getD M false := by
                simp only [Array.getD_eq_getD_getElem?, Array.getElem?_setIfInBounds]
                rw [if_neg e]
              rw [h1]
              by_cases h2 : i < M
              · rw [if_pos h2] at ihM
                have e3 : (if i < M + 1 then (1 : Nat) else 0) = 1 := if_pos (by omega)
                rw [e3]
                omega
              · rw [if_neg h2] at ihM
                have e3 : (if i < M + 1 then (1 : Nat) else 0) = 0 := if_neg (by omega)
                rw [e3]
                omega
        have := hsplit N
        rw [if_pos hiN] at this
        exact this
      omega
    refine ih _ (upd V i v) _ w' hc2 (by simp [hs]) (fun j hj => ?_) ?_ (hF.put hiN hfit v)
    · have h1 := hr j hj
      simp only [Array.getD_eq_getD_getElem?, Array.getElem?_setIfInBounds] at h1 ⊢
      rw [if_neg (by omega)]
      exact h1
    · have e : (fun j => (listed.setIfInBounds i true).getD j false) = upd (fun j => listed.getD j false) i true := funext fun j => by
        simp only [Array.getD_eq_getD_getElem?, Array.getElem?_setIfInBounds, upd]
        by_cases hij : i = j
        · subst hij
          simp only [if_true]
          rw [if_pos (by omega)]
          rfl
        · rw [if_neg hij, if_neg (Ne.symm hij)]
      rw [e]; exact hS'
/-- One last operation. -/
theorem wpAny_one {N : Nat} {listed : Array Bool} {a : Act} {w : World} (hr : Region.ready .any ops listed = [N]) (hd : Region.ready .any ops (listed.setIfInBounds N true) = []) (h : wpOp P ops Q N (fun a w => Q .normal a w) a w) : wpAny P .any ops Q 1 listed a w := by
  refine ⟨fun hn => (by rw [hr] at hn; cases hn), fun i hm => ?_⟩
  rw [hr, List.mem_singleton] at hm
  subst hm
  exact wpOp_mono (fun a w h => ⟨hd, h⟩) h
end
end

/-! ### A region that draws its order, inside a fence (within a round, too): by what is known of the operations that are done. No program is named here. -/
section
set_option maxRecDepth 100000
open Go.RowKit

section
variable {F : Fence} {n : Nat} {P : Program} {ops : Array Oper} {Q : Exit → Act → World → Prop}
theorem wpOpIn_value {i : Nat} {o : Oper} {a : Act} {w w' : World} {v : Value} {K : Act → World → Prop} (hF : ∀ f, F.fn f) (ho : ops[i]? = some o) (hw : Region.wanted o (yielded ops a.tmps) = true) (hnd : ∀ c, o.op ≠ .defer c) (hrun : (execOp a.eval o).run P w = .ok (.value v) w') (hK : K (a.put o.dst v) w') : wpOpIn F n P ops Q i K a w := by
  unfold wpOpIn
  simp only [ho]
  rw [if_pos hw]
  refine ⟨fun f _ => hF f, ?_⟩
  rw [Oper.semAt_eq F.round _ _ hnd, hrun]
  exact hK
theorem wpOpIn_unwanted {i : Nat} {o : Oper} {a : Act} {w : World} {K : Act → World → Prop} (hF : ∀ f, F.fn f) (ho : ops[i]? = some o) (hw : Region.wanted o (yielded ops a.tmps) = false) (hK : K (a.put o.dst undef) w) : wpOpIn F n P ops Q i K a w := by
  unfold wpOpIn
  simp only [ho]
  rw [if_neg (by rw [hw]; exact Bool.false_ne_true)]
  exact ⟨fun f _ => hF f, hK⟩
theorem wpOpIn_round {i l : Nat} {o : Oper} {a : Act} {w w' : World} {fn tmps} {assign body : Code} {K : Act → World → Prop} {R : Ending → World → Prop} (hF : ∀ f, F.fn f) (hd : F.depth.isSome = true → 1 ≤ n) (ho : ops[i]? = some o) (hw : Region.wanted o (yielded ops a.tmps) = true) (hnd : ∀ c, o.op ≠ .defer c) (hrun : (execOp a.eval o).run P w = .ok (.round l fn tmps assign body) w')
    (hR : RoundIn F (n - 1) P l fn tmps assign body w' R) (hK : ∀ v w'', R (.returned v) w'' → K (a.put o.dst v) w'') (hp : ∀ c w'', ¬ R (.panicked c) w'') (hg : ∀ w'', ¬ R .outgrown w'') : wpOpIn F n P ops Q i K a w := by
  unfold wpOpIn
  simp only [ho]
  rw [if_pos hw]
  refine ⟨fun f _ => hF f, ?_⟩
  rw [Oper.semAt_eq F.round _ _ hnd, hrun]
  refine ⟨hd, hR.mono ?_⟩
  rintro e w'' he
  cases e with
  | returned v => exact hK v w'' he
  | panicked c => exact (hp c w'' he).elim
  | outgrown => exact (hg w'' he).elim
theorem wpOpIn_enter {i f : Nat} {args : Array Value} {o : Oper} {a : Act} {w w' : World} {K : Act → World → Prop} {R : Ending → World → Prop} (hF : ∀ f, F.fn f) (hd : F.depth.isSome = true → 1 ≤ n) (ho : ops[i]? = some o) (hw : Region.wanted o (yielded ops a.tmps) = true) (hnd : ∀ c, o.op ≠ .defer c) (hrun : (execOp a.eval o).run P w = .ok (.enter f args) w')
    (hC : CallsIn F (n - 1) P f args w' R) (hK : ∀ v w'', R (.returned v) w'' → K (a.put o.dst v) w'') (hp : ∀ c w'', ¬ R (.panicked c) w'') (hg : ∀ w'', ¬ R .outgrown w'') : wpOpIn F n P ops Q i K a w := by
  unfold wpOpIn
  simp only [ho]
  rw [if_pos hw]
  refine ⟨fun f _ => hF f, ?_⟩
  rw [Oper.semAt_eq F.round _ _ hnd, hrun]
  refine ⟨hd, hC.mono ?_⟩
  rintro e w'' he
  cases e with
  | returned v => exact hK v w'' he
  | panicked c => exact (hp c w'' he).elim
  | outgrown => exact (hg w'' he).elim
theorem wanted_none {o : Oper} {y : Nat → Option Bool} (h : o.guard = none) : Region.wanted o y = true := by simp [Region.wanted, h]
theorem wanted_at {o : Oper} {a : Act} {j t : Nat} {g : Oper} {want b : Bool} (h : o.guard = some (j, want)) (hg : ops[j]? = some g) (hd : g.dst = some t) (ht : t < a.tmps.size) (hb : a.tmps.getD t undef = .bool b) : Region.wanted o (yielded ops a.tmps) = (b == want) := by
  have h1 : a.tmps[t]? = some (.bool b) := by
    rw [Array.getD_eq_getD_getElem?, Array.getElem?_eq_getElem ht] at hb
    rw [Array.getElem?_eq_getElem ht]
    exact congrArg some hb
  simp [Region.wanted, h, yielded, hg, hd, h1]
theorem wpAnyIn_steps {base : Nat} {a0 : Act} {w0 : World} (hrd : readyB ops ops.size = true) (hfit : base + ops.size ≤ a0.tmps.size)
    (S : (Nat → Bool) → (Nat → Value) → World → Prop)
    (hstep : ∀ i L V a w K, i < ops.size → S L V w → L i = false → FrameAt base a0 a V ops.size → (∀ o, ops[i]? = some o → ∀ e ∈ o.after, Region.binds .any e = true → L e.on = true) →
      (∀ v w', S (upd L i true) (upd V i v) w' → K (a.put (some (base + i)) v) w') → wpOpIn F n P ops Q i K a w)
    (hlast : ∀ L V a w, (∀ i, i < ops.size → L i = true) → S L V w → FrameAt base a0 a V ops.size → Q .normal a w)
    (V0 : Nat → Value) (h0 : S (fun _ => false) V0 w0) (hV0 : ∀ j, j < ops.size → a0.tmps.getD (base + j) undef = V0 j) :
    wpAnyIn F n P .any ops Q ops.size (Array.replicate ops.size false) a0 w0 := by
  suffices H : ∀ (c : Nat) (listed : Array Bool) (V : Nat → Value) (a : Act) (w : World), cntL listed ops.size ≤ c → listed.size = ops.size → S (fun i => listed.getD i false) V w → FrameAt base a0 a V ops.size →
      wpAnyIn F n P .any ops Q c listed a w by
    have hc : cntL (Array.replicate ops.size false) ops.size = ops.size := by
      unfold cntL
      rw [List.filter_eq_self.2]
      · exact List.length_range
      · intro i _
        rw [none_listed]
        rfl
    refine H ops.size (Array.replicate ops.size false) V0 a0 w0 (by rw [hc]; exact Nat.le_refl _) (by simp) ?_ ⟨rfl, rfl, fun _ _ => rfl, hV0, fun _ _ => rfl⟩
    have e : (fun i => (Array.replicate ops.size false).getD i false) = fun _ => false := funext fun i => none_listed _ i
    rw [e]; exact h0
  intro c
  induction c with
  | zero =>
    intro listed V a w hc hs hS hF
    have hall := cntL_zero (Nat.le_zero.1 hc)
    have hr : Region.ready .any ops listed = [] := by
      rcases hr : Region.ready .any ops listed with _ | ⟨i, l⟩
      · rfl
      · have hm : i ∈ Region.ready .any ops listed := by rw [hr]; simp
        obtain ⟨hi, hf, _⟩ := ready_mem hm
        have := hall i hi
        simp only [Array.getD_eq_getD_getElem?] at this hf
        rw [Array.getElem?_eq_getElem (by omega)] at this hf
        simp only [Option.getD_some] at this hf
        rw [hf] at this
        cases this
    exact ⟨hr, hlast _ V a w hall hS hF⟩
  | succ c ih =>
    intro listed V a w hc hs hS hF
    refine ⟨fun hn => ?_, fun i hm => ?_⟩
    · have h0 : cntL listed ops.size = 0 := by
        rcases Nat.eq_zero_or_pos (cntL listed ops.size) with h | h
        · exact h
        · exact absurd hn (some_ready hrd hs (Nat.le_refl _) h)
      exact hlast _ V a w (cntL_zero h0) hS hF
    · obtain ⟨hi, hf, hafter⟩ := ready_mem hm
      have hLi : (fun i => listed.getD i false) i = false := by
        simp only [Array.getD_eq_getD_getElem?] at hf ⊢
        rw [Array.getElem?_eq_getElem (by omega)] at hf ⊢
        exact hf
      have hcs := cntL_set hi (by omega) hf
      refine hstep i _ V a w _ hi hS hLi hF (fun o ho e he hb => hafter o ho e he hb) (fun v w' hS' => ?_)
      refine ih _ (upd V i v) _ w' (by omega) (by simp [hs]) ?_ (hF.put hi hfit v)
      have e : (fun j => (listed.setIfInBounds i true).getD j false) = upd (fun j => listed.getD j false) i true := funext fun j => by
        simp only [Array.getD_eq_getD_getElem?, Array.getElem?_setIfInBounds, upd]
        by_cases hij : i = j
        · subst hij
          simp only [if_true]
          rw [if_pos (by omega)]
          rfl
        · rw [if_neg hij, if_neg (Ne.symm hij)]
      rw [e]; exact hS'
end
end
end Go.Proofs.YtoegamlpgenfcaaDoor
