/-
  TurboHolds: the region that appends to two rows.
-/
import Derived.Test.YtbpkoilecdejiaaDoorS4
namespace Go.Proofs.YtbpkoilecdejiaaDoor
set_option maxRecDepth 100000
open Go.RowKit

section
variable {P : Program} {ops : Array Oper} {Q : Exit → Act → World → Prop}
/-- What is done is closed: what a done operation waits for is done. -/
def ClosedL (ops : Array Oper) (L : Nat → Bool) : Prop := ∀ i o, ops[i]? = some o → L i = true → ∀ e ∈ o.after, Region.binds .any e = true → L e.on = true
/-- FrameAt, and what lies behind. -/
structure FrameH (base : Nat) (a0 a : Act) (V : Nat → Value) (N : Nat) : Prop extends FrameAt base a0 a V N where
  high : ∀ t, base + N ≤ t → a.tmps.getD t undef = a0.tmps.getD t undef
theorem FrameH.put {base N i : Nat} {a0 a : Act} {V : Nat → Value} (h : FrameH base a0 a V N) (hi : i < N) (hN : base + N ≤ a0.tmps.size) (v : Value) : FrameH base a0 (a.put (some (base + i)) v) (upd V i v) N := by
  refine ⟨h.toFrameAt.put hi hN v, fun t ht => ?_⟩
  rw [← h.high t ht]
  simp only [Act.put, Array.getD_eq_getD_getElem?, Array.getElem?_setIfInBounds]
  rw [if_neg (by omega)]
/-- wpAny_steps, where the rest waits for the first N by way of others. -/
theorem wpAny_stepsC {N base : Nat} {a0 : Act} {w0 : World} (hN : N ≤ ops.size) (hrd : readyB ops N = true) (hfit : base + N ≤ a0.tmps.size)
    (hrest : ∀ i o (L : Nat → Bool), N ≤ i → ops[i]? = some o → ClosedL ops L → (∀ e ∈ o.after, Region.binds .any e = true → L e.on = true) → ∀ j, j < N → L j = true)
    (S : (Nat → Bool) → (Nat → Value) → World → Prop)
    (hstep : ∀ i L V a w, i < N → S L V w → L i = false → FrameH base a0 a V N → ClosedL ops L → (∀ o, ops[i]? = some o → ∀ e ∈ o.after, Region.binds .any e = true → L e.on = true) →
      ∃ o v w', ops[i]? = some o ∧ o.guard = none ∧ o.dst = some (base + i) ∧ (execOp a.eval o).run P w = .ok (.value v) w' ∧ S (upd L i true) (upd V i v) w')
    (hlast : ∀ L V a w, (∀ i, i < N → L i = true) → S L V w → FrameH base a0 a V N → wpAny P .any ops Q (ops.size - N) (Array.replicate N true ++ Array.replicate (ops.size - N) false) a w)
    (V0 : Nat → Value) (h0 : S (fun _ => false) V0 w0) (hV0 : ∀ j, j < N → a0.tmps.getD (base + j) undef = V0 j) :
    wpAny P .any ops Q ops.size (Array.replicate ops.size false) a0 w0 := by
  suffices H : ∀ (c : Nat) (listed : Array Bool) (V : Nat → Value) (a : Act) (w : World), cntL listed N = c → listed.size = ops.size → (∀ i, N ≤ i → listed.getD i false = false) → S (fun i => listed.getD i false) V w → FrameH base a0 a V N → ClosedL ops (fun i => listed.getD i false) →
      wpAny P .any ops Q (c + (ops.size - N)) listed a w by
    have hc : cntL (Array.replicate ops.size false) N = N := by
      unfold cntL
      rw [List.filter_eq_self.2]
      · exact List.length_range
      · intro i _
        rw [none_listed]
        rfl
    have := H N (Array.replicate ops.size false) V0 a0 w0 hc (by simp) (fun i _ => none_listed _ i) ?_ ⟨⟨rfl, rfl, fun _ _ => rfl, hV0⟩, fun _ _ => rfl⟩ (fun i o _ hi => by simp only [none_listed] at hi; cases hi)
    · rwa [show N + (ops.size - N) = ops.size by omega] at this
    · have e : (fun i => (Array.replicate ops.size false).getD i false) = fun _ => false := funext fun i => none_listed _ i
      rw [e]; exact h0
  intro c
  induction c with
  | zero =>
    intro listed V a w hc hs hr hS hF hC
    have hall := cntL_zero hc
    have e : listed = Array.replicate N true ++ Array.replicate (ops.size - N) false := by
      apply Array.ext
      · simp [hs]; omega
      · intro i h1 h2
        rcases Nat.lt_or_ge i N with h | h
        · have := hall i h
          simp only [Array.getD_eq_getD_getElem?, Array.getElem?_eq_getElem h1, Option.getD_some] at this
          rw [this, Array.getElem_append_left (by simpa using h)]
          simp
        · have := hr i h
          simp only [Array.getD_eq_getD_getElem?, Array.getElem?_eq_getElem h1, Option.getD_some] at this
          rw [this, Array.getElem_append_right (by simpa using h)]
          simp
    rw [Nat.zero_add, e]
    exact hlast _ V a w hall hS hF
  | succ c ih =>
    intro listed V a w hc hs hr hS hF hC
    rw [show c + 1 + (ops.size - N) = (c + (ops.size - N)) + 1 by omega]
    refine ⟨fun hn => absurd hn (some_ready hrd hs hN (by omega)), fun i hm => ?_⟩
    obtain ⟨hi, hf, hafter⟩ := ready_mem hm
    have hiN : i < N := by
      rcases Nat.lt_or_ge i N with h | h
      · exact h
      · exfalso
        have : cntL listed N = 0 := by
          unfold cntL
          rw [List.length_eq_zero_iff, List.filter_eq_nil_iff]
          intro j hj
          have := hrest i _ (fun i => listed.getD i false) h (Array.getElem?_eq_getElem hi) hC (fun e he hb => hafter _ (Array.getElem?_eq_getElem hi) e he hb) j (List.mem_range.1 hj)
          simpa using this
        omega
    have hLi : (fun i => listed.getD i false) i = false := by
      simp only [Array.getD_eq_getD_getElem?] at hf ⊢
      rw [Array.getElem?_eq_getElem (by omega)] at hf ⊢
      exact hf
    obtain ⟨o, v, w', ho, hg, hd, hrun, hS'⟩ := hstep i _ V a w hiN hS hLi hF hC (fun o ho e he hb => hafter o ho e he hb)
    refine wpOp_value ho hg hrun ?_
    rw [hd]
    have hcs := cntL_set hiN (by omega) hf
    have hc2 : cntL (listed.setIfInBounds i true) N = c := by
      have h1 : cntL listed N ≤ cntL (listed.setIfInBounds i true) N + 1 := by
        clear hcs hc hS hF hS' hrun ih hf hLi hafter hm
        unfold cntL
        have hsplit : ∀ M, ((List.range M).filter fun j => !listed.getD j false).length ≤ ((List.range M).filter fun j => !(listed.setIfInBounds i true).getD j false).length + if i < M then 1 else 0 := by
          intro M
          induction M with
          | zero => simp
          | succ M ihM =>
            simp only [List.range_succ, List.filter_append, List.length_append, List.filter_cons, List.filter_nil]
            by_cases e : i = M
            · subst e
              rw [if_neg (Nat.lt_irrefl i)] at ihM
              rw [if_pos (Nat.lt_succ_self i)]
              split <;> split <;> simp only [List.length_cons, List.length_nil] <;> omega
            · have h1 : (listed.setIfInBounds i true).getD M false = listed.getD M false := by
                simp only [Array.getD_eq_getD_getElem?, Array.getElem?_setIfInBounds]
                rw [if_neg e]
              rw [h1]
              by_cases h2 : i < M
              · rw [if_pos h2] at ihM
                have e3 : (if i < M + 1 then (1 : Nat) else 0) = 1 := if_pos (by omega)
                rw [e3]
                omega
              · rw [if_neg h2] at ihM
                have e3 : (if i < M + 1 then (1 : Nat) else 0) = 0 := if_neg (by omega)
                rw [e3]
                omega
        have := hsplit N
        rw [if_pos hiN] at this
        exact this
      omega
    refine ih _ (upd V i v) _ w' hc2 (by simp [hs]) (fun j hj => ?_) ?_ (hF.put hiN hfit v) ?_
    · have h1 := hr j hj
      simp only [Array.getD_eq_getD_getElem?, Array.getElem?_setIfInBounds] at h1 ⊢
      rw [if_neg (by omega)]
      exact h1
    · have e : (fun j => (listed.setIfInBounds i true).getD j false) = upd (fun j => listed.getD j false) i true := funext fun j => by
        simp only [Array.getD_eq_getD_getElem?, Array.getElem?_setIfInBounds, upd]
        by_cases hij : i = j
        · subst hij
          simp only [if_true]
          rw [if_pos (by omega)]
          rfl
        · rw [if_neg hij, if_neg (Ne.symm hij)]
      rw [e]; exact hS'
    · have grow : ∀ j, listed.getD j false = true → (listed.setIfInBounds i true).getD j false = true := fun j h => by
        simp only [Array.getD_eq_getD_getElem?, Array.getElem?_setIfInBounds] at h ⊢
        by_cases hij : i = j
        · subst hij
          rw [if_pos rfl, if_pos (by omega)]
          rfl
        · rw [if_neg hij]; exact h
      intro i' o' ho' hi' e he hb
      refine grow _ ?_
      by_cases hij : i = i'
      · subst hij
        exact hafter o' ho' e he hb
      · refine hC i' o' ho' ?_ e he hb
        simp only [Array.getD_eq_getD_getElem?, Array.getElem?_setIfInBounds] at hi' ⊢
        rw [if_neg hij] at hi'
        exact hi'
end
section
variable {ρ : Operand → Value} {w : World} {dst : Option Tmp} {ty : TypeId} {pos : String} {after : Array Edge} {guard : Option (Nat × Bool)} {x ix : Operand}
theorem eh_loadI {b off : Nat} {v : Int} (hx : ρ x = .pointer (some ⟨b, off, none⟩)) (hc : w.cell? ⟨b, off, none⟩ = some (.int .i64 v)) :
    (execOp ρ { dst := dst, op := .load 3 x, type := ty, pos := pos, after := after, guard := guard }).run Tryd.prog w = .ok (.value (.int .i64 v)) w := by
  simp [execOp, hx, hc, go_sem]
theorem eh_indexI {b off n c j : Nat} (hx : ρ x = .slice (some ⟨b, off, none⟩) n c) (hi : ρ ix = .int .i64 (j : Int)) (hj : j < n) :
    (execOp ρ { dst := dst, op := .indexAddr 36 x ix, type := ty, pos := pos, after := after, guard := guard }).run Tryd.prog w = .ok (.value (.pointer (some ⟨b, off + j, none⟩))) w := by
  have h2 : (j : Int) < (n : Int) := by omega
  simp [execOp, hx, hi, h2, go_sem, Addr.add_lit]
theorem eh_indexB {b off n c j : Nat} (hx : ρ x = .slice (some ⟨b, off, none⟩) n c) (hi : ρ ix = .int .i64 (j : Int)) (hj : j < n) :
    (execOp ρ { dst := dst, op := .indexAddr 22 x ix, type := ty, pos := pos, after := after, guard := guard }).run Tryd.prog w = .ok (.value (.pointer (some ⟨b, off + j, none⟩))) w := by
  have h2 : (j : Int) < (n : Int) := by omega
  simp [execOp, hx, hi, h2, go_sem, Addr.add_lit]
theorem eh_one {a : Operand} {u : Int} (ha : ρ a = .int .u8 u) :
    (execOp ρ { dst := dst, op := .buildSlice 22 1 #[(0, a)], type := ty, pos := pos, after := after, guard := guard }).run Tryd.prog w = .ok (.value (.slice (some ⟨w.heap.size, 0, none⟩) 1 1)) (w.alloc (.cells #[.int .u8 u] 5)) := by
  simp [execOp, ha, go_sem]
/-- append onto one's own: where the new row lies. -/
theorem eh_append {base B n m c' : Nat} {V : Value} {A : Option Addr} {xs ys : List Int} {s t : Operand} (hs : ρ s = V) (ht : ρ t = .slice A m c') (hO : w.ownsRow base 5 1 V n (xs.map (Value.int .u8))) (hR : Rd .u8 w B A m ys) (hlim : n + m ≤ 1000000) (hbase : base ≤ w.heap.size) :
    ∃ A2 c2 w', (execOp ρ { dst := dst, op := .call { callee := .builtin .append, args := #[s, t], argTypes := #[22, 22] }, type := 22, pos := pos, after := after, guard := guard }).run Tryd.prog w = .ok (.value (.slice A2 (n + m) c2)) w' ∧
      w'.ownsRow base 5 1 (.slice A2 (n + m) c2) (n + m) ((xs ++ ys).map (Value.int .u8)) ∧ w.grownBy w' V.ownBlock ∧ ((Value.slice A2 (n + m) c2).ownBlock = V.ownBlock ∨ (Value.slice A2 (n + m) c2).ownBlock = some w.heap.size) := by
  obtain ⟨i0, hi, hz0, hz1, hz2⟩ := info_parts Tryd.info_u8
  obtain ⟨V2, w2, h1, h2, h3, h4⟩ := run_append_q (P := Tryd.prog) (ty := 22) (c' := c') Tryd.underlying22 hi hz0 hz1 hz2 (by decide) hO hR hlim hbase
  obtain ⟨A2, c2, rfl⟩ := ownsRow_shape h2
  refine ⟨A2, c2, w2, ?_, h2, h3, h4⟩
  simp [execOp, resolve, invoke, builtin, hs, ht, h1, Result.andThen]
end
/-- A block of one byte. -/
theorem rd_one {w : World} {g : Nat} {u : Int} (h : w.heap[g]? = some (.cells #[.int .u8 u] 5)) : Rd .u8 w w.heap.size (some ⟨g, 0, none⟩) 1 [u] := by
  refine ⟨rfl, fun k hk => ⟨g, 0, rfl, (Array.getElem?_eq_some_iff.1 h).1, ?_⟩⟩
  obtain rfl : k = 0 := by omega
  simp only [World.cell?, h]
  rfl
/-- What is known within the region: two rows, each of which gets one more. -/
structure RH (H : Nat) (W8 : World) (R1 R2 : Value) (n : Nat) (xs ys : List Int) (u v : Int) (pl : Nat → Value) (L : Nat → Bool) (V : Nat → Value) (w : World) : Prop where
  pv : ∀ i, i ≠ 8 → i ≠ 9 → i ≠ 18 → i ≠ 19 → L i = true → V i = pl i
  l1 : L 8 = true → ∃ g, V 8 = .slice (some ⟨g, 0, none⟩) 1 1 ∧ w.heap[g]? = some (.cells #[.int .u8 u] 5) ∧ W8.heap.size ≤ g
  l2 : L 18 = true → ∃ g, V 18 = .slice (some ⟨g, 0, none⟩) 1 1 ∧ w.heap[g]? = some (.cells #[.int .u8 v] 5) ∧ W8.heap.size ≤ g
  o1 : L 9 = false → w.ownsRow H 5 1 R1 n (xs.map (Value.int .u8))
  o2 : L 19 = false → w.ownsRow H 5 1 R2 n (ys.map (Value.int .u8))
  n1 : L 9 = true → ∃ A c, V 9 = .slice A (n + 1) c ∧ w.ownsRow H 5 1 (V 9) (n + 1) ((xs ++ [u]).map (Value.int .u8)) ∧ ∀ g, (V 9).ownBlock = some g → R1.ownBlock = some g ∨ W8.heap.size ≤ g
  n2 : L 19 = true → ∃ A c, V 19 = .slice A (n + 1) c ∧ w.ownsRow H 5 1 (V 19) (n + 1) ((ys ++ [v]).map (Value.int .u8)) ∧ ∀ g, (V 9).ownBlock = some g → (V 19).ownBlock ≠ some g
  low : Below H W8 w
section
variable {H : Nat} {W8 : World} {R1 R2 : Value} {n : Nat} {xs ys : List Int} {u v : Int} {pl : Nat → Value} {L : Nat → Bool} {V : Nat → Value} {w w' : World}
/-- A step that does not touch the memory. -/
theorem RH.pure {i : Nat} (h : RH H W8 R1 R2 n xs ys u v pl L V w) (h8 : i ≠ 8) (h9 : i ≠ 9) (h18 : i ≠ 18) (h19 : i ≠ 19) : RH H W8 R1 R2 n xs ys u v pl (upd L i true) (upd V i (pl i)) w := by
  have e : ∀ {α : Type} (f : Nat → α) (z : α) (j : Nat), j ≠ i → upd f i z j = f j := fun f z j hj => upd_other f z hj
  refine ⟨fun j a b c d hl => ?_, ?_, ?_, ?_, ?_, ?_, ?_, h.low⟩
  · by_cases ei : j = i
    · subst ei; rw [upd_same]
    · rw [e L true j ei] at hl
      rw [e V _ j ei]; exact h.pv j a b c d hl
  · rw [e L true 8 h8.symm, e V _ 8 h8.symm]; exact h.l1
  · rw [e L true 18 h18.symm, e V _ 18 h18.symm]; exact h.l2
  · rw [e L true 9 h9.symm]; exact h.o1
  · rw [e L true 19 h19.symm]; exact h.o2
  · rw [e L true 9 h9.symm, e V _ 9 h9.symm]; exact h.n1
  · rw [e L true 19 h19.symm, e V _ 19 h19.symm, e V _ 9 h9.symm]; exact h.n2
/-- What is kept where the memory grows, a row that is none of these changes, or the block before. -/
theorem RH.alloc (h : RH H W8 R1 R2 n xs ys u v pl L V w) (hH : H ≤ W8.heap.size) (ob : Obj) : RH H W8 R1 R2 n xs ys u v pl L V (w.alloc ob) := by
  have hle : H ≤ w.heap.size := Nat.le_trans hH h.low.size
  have kp : ∀ {g : Nat} {z : Obj}, w.heap[g]? = some z → (w.alloc ob).heap[g]? = some z := fun hg => (Below.heap_alloc _ _ _ (Array.getElem?_eq_some_iff.1 hg).1).trans hg
  refine ⟨h.pv, fun hl => ?_, fun hl => ?_, fun hl => (h.o1 hl).alloc _, fun hl => (h.o2 hl).alloc _, fun hl => ?_, fun hl => ?_, h.low.alloc hle _⟩
  · obtain ⟨g, a, b, c⟩ := h.l1 hl; exact ⟨g, a, kp b, c⟩
  · obtain ⟨g, a, b, c⟩ := h.l2 hl; exact ⟨g, a, kp b, c⟩
  · obtain ⟨A, c, a, b, d⟩ := h.n1 hl; exact ⟨A, c, a, b.alloc _, d⟩
  · obtain ⟨A, c, a, b, d⟩ := h.n2 hl; exact ⟨A, c, a, b.alloc _, d⟩
theorem RH.lit1 (h : RH H W8 R1 R2 n xs ys u v pl L V w) (hH : H ≤ W8.heap.size) : RH H W8 R1 R2 n xs ys u v pl (upd L 8 true) (upd V 8 (.slice (some ⟨w.heap.size, 0, none⟩) 1 1)) (w.alloc (.cells #[.int .u8 u] 5)) := by
  have k := h.alloc hH (.cells #[.int .u8 u] 5)
  refine ⟨fun j a b c d hl => ?_, fun _ => ⟨w.heap.size, rfl, World.alloc_heap_new w _, h.low.size⟩, k.l2, k.o1, k.o2, k.n1, k.n2, k.low⟩
  rw [upd_other _ _ a] at hl ⊢
  exact k.pv j a b c d hl
theorem RH.lit2 (h : RH H W8 R1 R2 n xs ys u v pl L V w) (hH : H ≤ W8.heap.size) : RH H W8 R1 R2 n xs ys u v pl (upd L 18 true) (upd V 18 (.slice (some ⟨w.heap.size, 0, none⟩) 1 1)) (w.alloc (.cells #[.int .u8 v] 5)) := by
  have k := h.alloc hH (.cells #[.int .u8 v] 5)
  refine ⟨fun j a b c d hl => ?_, k.l1, fun _ => ⟨w.heap.size, rfl, World.alloc_heap_new w _, h.low.size⟩, k.o1, k.o2, k.n1, k.n2, k.low⟩
  rw [upd_other _ _ c] at hl ⊢
  exact k.pv j a b c d hl
theorem RH.app1 {A2 : Option Addr} {c2 : Nat} (h : RH H W8 R1 R2 n xs ys u v pl L V w) (hH : H ≤ W8.heap.size) (h9 : L 9 = false) (h19 : L 19 = false) (hap : ∀ g, R1.ownBlock = some g → R2.ownBlock ≠ some g) (hlt : ∀ g, R1.ownBlock = some g → g < W8.heap.size)
    (hO : w'.ownsRow H 5 1 (.slice A2 (n + 1) c2) (n + 1) ((xs ++ [u]).map (Value.int .u8))) (hg : w.grownBy w' R1.ownBlock) (hb : (Value.slice A2 (n + 1) c2).ownBlock = R1.ownBlock ∨ (Value.slice A2 (n + 1) c2).ownBlock = some w.heap.size) :
    RH H W8 R1 R2 n xs ys u v pl (upd L 9 true) (upd V 9 (.slice A2 (n + 1) c2)) w' := by
  have hle : H ≤ w.heap.size := Nat.le_trans hH h.low.size
  have kp : ∀ {g : Nat} {z : Obj}, W8.heap.size ≤ g → w.heap[g]? = some z → w'.heap[g]? = some z := fun hw hz => (hg.block _ (Array.getElem?_eq_some_iff.1 hz).1 (fun e => by have := hlt _ e.symm; omega)).trans hz
  refine ⟨fun j a b c d hl => ?_, fun hl => ?_, fun hl => ?_, fun hl => (by cases hl), fun _ => ?_, fun _ => ⟨A2, c2, rfl, hO, fun g hg2 => ?_⟩, fun hl => ?_, h.low.grown hg hle (fun g e => ((h.o1 h9).lt g e).1)⟩
  · rw [upd_other _ _ b] at hl ⊢
    exact h.pv j a b c d hl
  · obtain ⟨g, a, b, c⟩ := h.l1 hl; exact ⟨g, a, kp c b, c⟩
  · obtain ⟨g, a, b, c⟩ := h.l2 hl; exact ⟨g, a, kp c b, c⟩
  · exact ownsRow_block (h.o2 h19) (fun g hg2 => hg.block g ((h.o2 h19).lt g hg2).2 (fun e => hap g e.symm hg2))
  · rcases hb with hb | hb
    · exact .inl (by rw [← hb]; exact hg2)
    · have e : some w.heap.size = some g := hb.symm.trans hg2
      injection e with e
      exact .inr (by have := h.low.size; omega)
  · have : upd L 9 true 19 = L 19 := rfl
    rw [this, h19] at hl
    cases hl
theorem RH.app2 {A2 : Option Addr} {c2 : Nat} (h : RH H W8 R1 R2 n xs ys u v pl L V w) (hH : H ≤ W8.heap.size) (h9 : L 9 = true) (h19 : L 19 = false) (hap : ∀ g, R1.ownBlock = some g → R2.ownBlock ≠ some g) (hlt : ∀ g, R2.ownBlock = some g → g < W8.heap.size)
    (hO : w'.ownsRow H 5 1 (.slice A2 (n + 1) c2) (n + 1) ((ys ++ [v]).map (Value.int .u8))) (hg : w.grownBy w' R2.ownBlock) (hb : (Value.slice A2 (n + 1) c2).ownBlock = R2.ownBlock ∨ (Value.slice A2 (n + 1) c2).ownBlock = some w.heap.size) :
    RH H W8 R1 R2 n xs ys u v pl (upd L 19 true) (upd V 19 (.slice A2 (n + 1) c2)) w' := by
  have hle : H ≤ w.heap.size := Nat.le_trans hH h.low.size
  have kp : ∀ {g : Nat} {z : Obj}, W8.heap.size ≤ g → w.heap[g]? = some z → w'.heap[g]? = some z := fun hw hz => (hg.block _ (Array.getElem?_eq_some_iff.1 hz).1 (fun e => by have := hlt _ e.symm; omega)).trans hz
  obtain ⟨A1, c1, v1, r1, d1⟩ := h.n1 h9
  have far : ∀ g, (V 9).ownBlock = some g → R2.ownBlock ≠ some g := fun g e e2 => by
    rcases d1 g e with e1 | e1
    · exact hap g e1 e2
    · have := hlt g e2; omega
  refine ⟨fun j a b c d hl => ?_, fun hl => ?_, fun hl => ?_, fun hl => ?_, fun hl => (by cases hl), fun _ => ⟨A1, c1, v1, ?_, d1⟩, fun _ => ⟨A2, c2, rfl, hO, fun g e e2 => ?_⟩, h.low.grown hg hle (fun g e => ((h.o2 h19).lt g e).1)⟩
  · rw [upd_other _ _ d] at hl ⊢
    exact h.pv j a b c d hl
  · obtain ⟨g, a, b, c⟩ := h.l1 hl; exact ⟨g, a, kp c b, c⟩
  · obtain ⟨g, a, b, c⟩ := h.l2 hl; exact ⟨g, a, kp c b, c⟩
  · have : upd L 19 true 9 = L 9 := rfl
    rw [this, h9] at hl
    cases hl
  · exact ownsRow_block r1 (fun g e => hg.block g (r1.lt g e).2 (fun e2 => far g e e2.symm))
  · have hlt1 := (r1.lt g e).2
    rcases hb with hb | hb
    · exact far g e (by rw [← hb]; exact e2)
    · have e3 : some w.heap.size = some g := hb.symm.trans e2
      injection e3 with e3
      omega
end
noncomputable def opsH (id : Nat) : Code → Option (Array Oper)
  | .region i ops _ => if i = id then some ops else none
  | .seq a b => (opsH id a).orElse fun _ => opsH id b
  | .cond _ a b => (opsH id a).orElse fun _ => opsH id b
  | .block _ b => opsH id b
  | .loop b => opsH id b
  | _ => none
noncomputable def hOps19 : Array Oper := ((Tryd.f9.body.bind (opsH 19)).getD #[])
theorem hOps19_size : hOps19.size = 22 := by kernel_rfl
theorem hOps19_rd : readyB hOps19 20 = true := by kernel_rfl
theorem lt20 {i : Nat} (h : i < 20) : i = 0 ∨ i = 1 ∨ i = 2 ∨ i = 3 ∨ i = 4 ∨ i = 5 ∨ i = 6 ∨ i = 7 ∨ i = 8 ∨ i = 9 ∨ i = 10 ∨ i = 11 ∨ i = 12 ∨ i = 13 ∨ i = 14 ∨ i = 15 ∨ i = 16 ∨ i = 17 ∨ i = 18 ∨ i = 19 := by omega
/-- The values of the operations that don't touch the memory. -/
def plH (R1 R2 P S R : Value) (j x1 x2 : Nat) (aS aX aR aY : Addr) (u v : Int) (i : Nat) : Value :=
  [R1, P, S, .int .i64 (j : Int), .pointer (some aS), .int .i64 (x1 : Int), .pointer (some aX), .int .u8 u, undef, undef, R2, P, R, .int .i64 (j : Int), .pointer (some aR), .int .i64 (x2 : Int), .pointer (some aY), .int .u8 v].getD i undef
set_option maxHeartbeats 4000000 in
theorem h19_step {H : Nat} {W8 : World} {R1 R2 : Value} {n : Nat} {xs ys : List Int} {u v : Int} {bP oP N cP bS oS bR oR m cS cR j x1 x2 : Nat} {a0 : Act}
    (h15 : a0.tmps.getD 15 undef = R1) (h16 : a0.tmps.getD 16 undef = R2) (h7 : a0.tmps.getD 7 undef = .slice (some ⟨bP, oP, none⟩) N cP) (h12 : a0.tmps.getD 12 undef = .slice (some ⟨bS, oS, none⟩) m cS) (h13 : a0.tmps.getD 13 undef = .slice (some ⟨bR, oR, none⟩) m cR) (h17 : a0.tmps.getD 17 undef = .int .i64 (j : Int))
    (hj : j < m) (hx1 : x1 < N) (hx2 : x2 < N) (bl : bP < H ∧ bS < H ∧ bR < H) (cs : W8.cell? ⟨bS, oS + j, none⟩ = some (.int .i64 (x1 : Int))) (cr : W8.cell? ⟨bR, oR + j, none⟩ = some (.int .i64 (x2 : Int)))
    (cx : W8.cell? ⟨bP, oP + x1, none⟩ = some (.int .u8 u)) (cy : W8.cell? ⟨bP, oP + x2, none⟩ = some (.int .u8 v)) (hn : n ≤ 900000) (hH : H ≤ W8.heap.size)
    (hap : ∀ g, R1.ownBlock = some g → R2.ownBlock ≠ some g) (hl1 : ∀ g, R1.ownBlock = some g → g < W8.heap.size) (hl2 : ∀ g, R2.ownBlock = some g → g < W8.heap.size)
    (i : Nat) (L : Nat → Bool) (V : Nat → Value) (a : Act) (w : World) (hi : i < 20) (hS : RH H W8 R1 R2 n xs ys u v (plH R1 R2 (.slice (some ⟨bP, oP, none⟩) N cP) (.slice (some ⟨bS, oS, none⟩) m cS) (.slice (some ⟨bR, oR, none⟩) m cR) j x1 x2 ⟨bS, oS + j, none⟩ ⟨bP, oP + x1, none⟩ ⟨bR, oR + j, none⟩ ⟨bP, oP + x2, none⟩ u v) L V w) (hL : L i = false) (hF : FrameAt 99 a0 a V 20) (hC : L 19 = true → L 9 = true)
    (hafter : ∀ (t : Nat) (e : Edge), ((hOps19[i]?).bind fun o => o.after[t]?) = some e → Region.binds .any e = true → L e.on = true) :
    ∃ o z w', hOps19[i]? = some o ∧ o.guard = none ∧ o.dst = some (99 + i) ∧ (execOp a.eval o).run Tryd.prog w = .ok (.value z) w' ∧ RH H W8 R1 R2 n xs ys u v (plH R1 R2 (.slice (some ⟨bP, oP, none⟩) N cP) (.slice (some ⟨bS, oS, none⟩) m cS) (.slice (some ⟨bR, oR, none⟩) m cR) j x1 x2 ⟨bS, oS + j, none⟩ ⟨bP, oP + x1, none⟩ ⟨bR, oR + j, none⟩ ⟨bP, oP + x2, none⟩ u v) (upd L i true) (upd V i z) w' := by
  have hle : H ≤ w.heap.size := Nat.le_trans hH hS.low.size
  have hc := lt20 hi
  rcases hc with rfl | rfl | rfl | rfl | rfl | rfl | rfl | rfl | rfl | rfl | rfl | rfl | rfl | rfl | rfl | rfl | rfl | rfl | rfl | rfl
  · exact ⟨_, _, w, rfl, rfl, rfl, ey_move (hF.evalLow (t := 15) (by decide) h15), hS.pure (i := 0) (by decide) (by decide) (by decide) (by decide)⟩
  · exact ⟨_, _, w, rfl, rfl, rfl, ey_move (hF.evalLow (t := 7) (by decide) h7), hS.pure (i := 1) (by decide) (by decide) (by decide) (by decide)⟩
  · exact ⟨_, _, w, rfl, rfl, rfl, ey_move (hF.evalLow (t := 12) (by decide) h12), hS.pure (i := 2) (by decide) (by decide) (by decide) (by decide)⟩
  · exact ⟨_, _, w, rfl, rfl, rfl, ey_move (hF.evalLow (t := 17) (by decide) h17), hS.pure (i := 3) (by decide) (by decide) (by decide) (by decide)⟩
  · exact ⟨_, _, w, rfl, rfl, rfl, eh_indexI ((hF.eval (j := 2) (by decide) rfl).trans (hS.pv 2 (by decide) (by decide) (by decide) (by decide) (hafter 0 ⟨2, .data⟩ rfl rfl))) ((hF.eval (j := 3) (by decide) rfl).trans (hS.pv 3 (by decide) (by decide) (by decide) (by decide) (hafter 1 ⟨3, .data⟩ rfl rfl))) hj, hS.pure (i := 4) (by decide) (by decide) (by decide) (by decide)⟩
  · exact ⟨_, _, w, rfl, rfl, rfl, eh_loadI ((hF.eval (j := 4) (by decide) rfl).trans (hS.pv 4 (by decide) (by decide) (by decide) (by decide) (hafter 0 ⟨4, .data⟩ rfl rfl))) ((hS.low.cell (show _ < H from bl.2.1)).trans cs), hS.pure (i := 5) (by decide) (by decide) (by decide) (by decide)⟩
  · exact ⟨_, _, w, rfl, rfl, rfl, eh_indexB ((hF.eval (j := 1) (by decide) rfl).trans (hS.pv 1 (by decide) (by decide) (by decide) (by decide) (hafter 0 ⟨1, .data⟩ rfl rfl))) ((hF.eval (j := 5) (by decide) rfl).trans (hS.pv 5 (by decide) (by decide) (by decide) (by decide) (hafter 1 ⟨5, .data⟩ rfl rfl))) hx1, hS.pure (i := 6) (by decide) (by decide) (by decide) (by decide)⟩
  · exact ⟨_, _, w, rfl, rfl, rfl, ey_load ((hF.eval (j := 6) (by decide) rfl).trans (hS.pv 6 (by decide) (by decide) (by decide) (by decide) (hafter 0 ⟨6, .data⟩ rfl rfl))) ((hS.low.cell (show _ < H from bl.1)).trans cx), hS.pure (i := 7) (by decide) (by decide) (by decide) (by decide)⟩
  · exact ⟨_, _, _, rfl, rfl, rfl, eh_one ((hF.eval (j := 7) (by decide) rfl).trans (hS.pv 7 (by decide) (by decide) (by decide) (by decide) (hafter 0 ⟨7, .data⟩ rfl rfl))), hS.lit1 hH⟩
  · obtain ⟨g, hv, hg, _⟩ := hS.l1 (hafter 1 ⟨8, .data⟩ rfl rfl)
    have e19 : L 19 = false := by
      rcases hb : L 19 with _ | _
      · rfl
      · rw [hC hb] at hL; cases hL
    obtain ⟨A2, c2, w2, r1, r2, r3, r4⟩ := eh_append (dst := some 108) (pos := _) (after := _) (guard := none) ((hF.eval (j := 0) (by decide) rfl).trans (hS.pv 0 (by decide) (by decide) (by decide) (by decide) (hafter 0 ⟨0, .data⟩ rfl rfl))) ((hF.eval (j := 8) (by decide) rfl).trans hv) (hS.o1 hL) (rd_one hg) (by omega) hle
    exact ⟨_, _, w2, rfl, rfl, rfl, r1, hS.app1 hH hL e19 hap hl1 r2 r3 r4⟩
  · exact ⟨_, _, w, rfl, rfl, rfl, ey_move (hF.evalLow (t := 16) (by decide) h16), hS.pure (i := 10) (by decide) (by decide) (by decide) (by decide)⟩
  · exact ⟨_, _, w, rfl, rfl, rfl, ey_move (hF.evalLow (t := 7) (by decide) h7), hS.pure (i := 11) (by decide) (by decide) (by decide) (by decide)⟩
  · exact ⟨_, _, w, rfl, rfl, rfl, ey_move (hF.evalLow (t := 13) (by decide) h13), hS.pure (i := 12) (by decide) (by decide) (by decide) (by decide)⟩
  · exact ⟨_, _, w, rfl, rfl, rfl, ey_move (hF.evalLow (t := 17) (by decide) h17), hS.pure (i := 13) (by decide) (by decide) (by decide) (by decide)⟩
  · exact ⟨_, _, w, rfl, rfl, rfl, eh_indexI ((hF.eval (j := 12) (by decide) rfl).trans (hS.pv 12 (by decide) (by decide) (by decide) (by decide) (hafter 0 ⟨12, .data⟩ rfl rfl))) ((hF.eval (j := 13) (by decide) rfl).trans (hS.pv 13 (by decide) (by decide) (by decide) (by decide) (hafter 1 ⟨13, .data⟩ rfl rfl))) hj, hS.pure (i := 14) (by decide) (by decide) (by decide) (by decide)⟩
  · exact ⟨_, _, w, rfl, rfl, rfl, eh_loadI ((hF.eval (j := 14) (by decide) rfl).trans (hS.pv 14 (by decide) (by decide) (by decide) (by decide) (hafter 0 ⟨14, .data⟩ rfl rfl))) ((hS.low.cell (show _ < H from bl.2.2)).trans cr), hS.pure (i := 15) (by decide) (by decide) (by decide) (by decide)⟩
  · exact ⟨_, _, w, rfl, rfl, rfl, eh_indexB ((hF.eval (j := 11) (by decide) rfl).trans (hS.pv 11 (by decide) (by decide) (by decide) (by decide) (hafter 0 ⟨11, .data⟩ rfl rfl))) ((hF.eval (j := 15) (by decide) rfl).trans (hS.pv 15 (by decide) (by decide) (by decide) (by decide) (hafter 1 ⟨15, .data⟩ rfl rfl))) hx2, hS.pure (i := 16) (by decide) (by decide) (by decide) (by decide)⟩
  · exact ⟨_, _, w, rfl, rfl, rfl, ey_load ((hF.eval (j := 16) (by decide) rfl).trans (hS.pv 16 (by decide) (by decide) (by decide) (by decide) (hafter 0 ⟨16, .data⟩ rfl rfl))) ((hS.low.cell (show _ < H from bl.1)).trans cy), hS.pure (i := 17) (by decide) (by decide) (by decide) (by decide)⟩
  · exact ⟨_, _, _, rfl, rfl, rfl, eh_one ((hF.eval (j := 17) (by decide) rfl).trans (hS.pv 17 (by decide) (by decide) (by decide) (by decide) (hafter 0 ⟨17, .data⟩ rfl rfl))), hS.lit2 hH⟩
  · obtain ⟨g, hv, hg, _⟩ := hS.l2 (hafter 1 ⟨18, .data⟩ rfl rfl)
    have e9 := hafter 2 ⟨9, .chain⟩ rfl rfl
    obtain ⟨A2, c2, w2, r1, r2, r3, r4⟩ := eh_append (dst := some 118) (pos := _) (after := _) (guard := none) ((hF.eval (j := 10) (by decide) rfl).trans (hS.pv 10 (by decide) (by decide) (by decide) (by decide) (hafter 0 ⟨10, .data⟩ rfl rfl))) ((hF.eval (j := 18) (by decide) rfl).trans hv) (hS.o2 hL) (rd_one hg) (by omega) hle
    exact ⟨_, _, w2, rfl, rfl, rfl, r1, hS.app2 hH e9 hL hap hl2 r2 r3 r4⟩
theorem closed_at {ops : Array Oper} {L : Nat → Bool} (h : ClosedL ops L) {i t k : Nat} {g : Ground} (hi : L i = true) (he : ((ops[i]?).bind fun o => o.after[t]?) = some ⟨k, g⟩) (hb : Region.binds .any ⟨k, g⟩ = true) : L k = true := by
  obtain ⟨o, ho, h2⟩ := Option.bind_eq_some_iff.1 he
  exact h i o ho hi ⟨k, g⟩ (Array.mem_of_getElem? h2) hb
theorem last_at {ops : Array Oper} {L : Nat → Bool} {i t k : Nat} {g : Ground} {o : Oper} (ho : ops[i]? = some o) (h : ∀ e ∈ o.after, Region.binds .any e = true → L e.on = true) (he : ((ops[i]?).bind fun o => o.after[t]?) = some ⟨k, g⟩) (hb : Region.binds .any ⟨k, g⟩ = true) : L k = true := by
  obtain ⟨o', ho', h2⟩ := Option.bind_eq_some_iff.1 he
  obtain rfl : o' = o := Option.some.inj (ho'.symm.trans ho)
  exact h ⟨k, g⟩ (Array.mem_of_getElem? h2) hb
theorem h19_all {L : Nat → Bool} (hC : ClosedL hOps19 L) (h19 : L 19 = true) : ∀ j, j < 20 → L j = true := by
  have e9 : L 9 = true := closed_at hC (t := 2) (g := .chain) h19 rfl rfl
  have e18 : L 18 = true := closed_at hC (t := 1) (g := .data) h19 rfl rfl
  have e10 : L 10 = true := closed_at hC (t := 0) (g := .data) h19 rfl rfl
  have e0 : L 0 = true := closed_at hC (t := 0) (g := .data) e9 rfl rfl
  have e8 : L 8 = true := closed_at hC (t := 1) (g := .data) e9 rfl rfl
  have e7 : L 7 = true := closed_at hC (t := 0) (g := .data) e8 rfl rfl
  have e6 : L 6 = true := closed_at hC (t := 0) (g := .data) e7 rfl rfl
  have e1 : L 1 = true := closed_at hC (t := 0) (g := .data) e6 rfl rfl
  have e5 : L 5 = true := closed_at hC (t := 1) (g := .data) e6 rfl rfl
  have e4 : L 4 = true := closed_at hC (t := 0) (g := .data) e5 rfl rfl
  have e2 : L 2 = true := closed_at hC (t := 0) (g := .data) e4 rfl rfl
  have e3 : L 3 = true := closed_at hC (t := 1) (g := .data) e4 rfl rfl
  have e17 : L 17 = true := closed_at hC (t := 0) (g := .data) e18 rfl rfl
  have e16 : L 16 = true := closed_at hC (t := 0) (g := .data) e17 rfl rfl
  have e11 : L 11 = true := closed_at hC (t := 0) (g := .data) e16 rfl rfl
  have e15 : L 15 = true := closed_at hC (t := 1) (g := .data) e16 rfl rfl
  have e14 : L 14 = true := closed_at hC (t := 0) (g := .data) e15 rfl rfl
  have e12 : L 12 = true := closed_at hC (t := 0) (g := .data) e14 rfl rfl
  have e13 : L 13 = true := closed_at hC (t := 1) (g := .data) e14 rfl rfl
  intro j hj
  have hc := lt20 hj
  rcases hc with rfl | rfl | rfl | rfl | rfl | rfl | rfl | rfl | rfl | rfl | rfl | rfl | rfl | rfl | rfl | rfl | rfl | rfl | rfl | rfl <;> assumption
set_option maxHeartbeats 4000000 in
theorem h19_wp {H : Nat} {W8 : World} {R1 R2 : Value} {n : Nat} {xs ys : List Int} {u v : Int} {bP oP N cP bS oS bR oR m cS cR j x1 x2 id : Nat} {a0 : Act} {Q : Exit → Act → World → Prop}
    (h15 : a0.tmps.getD 15 undef = R1) (h16 : a0.tmps.getD 16 undef = R2) (h7 : a0.tmps.getD 7 undef = .slice (some ⟨bP, oP, none⟩) N cP) (h12 : a0.tmps.getD 12 undef = .slice (some ⟨bS, oS, none⟩) m cS) (h13 : a0.tmps.getD 13 undef = .slice (some ⟨bR, oR, none⟩) m cR) (h17 : a0.tmps.getD 17 undef = .int .i64 (j : Int))
    (hj : j < m) (hx1 : x1 < N) (hx2 : x2 < N) (bl : bP < H ∧ bS < H ∧ bR < H) (cs : W8.cell? ⟨bS, oS + j, none⟩ = some (.int .i64 (x1 : Int))) (cr : W8.cell? ⟨bR, oR + j, none⟩ = some (.int .i64 (x2 : Int)))
    (cx : W8.cell? ⟨bP, oP + x1, none⟩ = some (.int .u8 u)) (cy : W8.cell? ⟨bP, oP + x2, none⟩ = some (.int .u8 v)) (hn : n ≤ 900000) (hH : H ≤ W8.heap.size) (hsz : a0.tmps.size = 154)
    (ho1 : W8.ownsRow H 5 1 R1 n (xs.map (Value.int .u8))) (ho2 : W8.ownsRow H 5 1 R2 n (ys.map (Value.int .u8))) (hap : ∀ g, R1.ownBlock = some g → R2.ownBlock ≠ some g)
    (hq : ∀ (a : Act) (w' : World) (A : Option Addr) (c : Nat) (A' : Option Addr) (c' : Nat), (∀ t, t < 99 ∨ 119 ≤ t → t ≠ 15 → t ≠ 16 → a.tmps.getD t undef = a0.tmps.getD t undef) → a.tmps.size = a0.tmps.size → a.defers = a0.defers → a.tmps.getD 15 undef = .slice A (n + 1) c → a.tmps.getD 16 undef = .slice A' (n + 1) c' →
      w'.ownsRow H 5 1 (.slice A (n + 1) c) (n + 1) ((xs ++ [u]).map (Value.int .u8)) → w'.ownsRow H 5 1 (.slice A' (n + 1) c') (n + 1) ((ys ++ [v]).map (Value.int .u8)) → (∀ g, (Value.slice A (n + 1) c).ownBlock = some g → (Value.slice A' (n + 1) c').ownBlock ≠ some g) → Below H W8 w' → Q .normal a w') :
    (Code.region id hOps19 true).wp Tryd.prog Q a0 W8 := by
  refine wp_region_any (by kernel_rfl) ?_
  change wpAny _ _ _ _ _ _ a0 W8.drew
  refine wpAny_stepsC (N := 20) (base := 99) (by rw [hOps19_size]; decide) hOps19_rd (by rw [hsz]; decide) ?rest (RH H W8 R1 R2 n xs ys u v (plH R1 R2 (.slice (some ⟨bP, oP, none⟩) N cP) (.slice (some ⟨bS, oS, none⟩) m cS) (.slice (some ⟨bR, oR, none⟩) m cR) j x1 x2 ⟨bS, oS + j, none⟩ ⟨bP, oP + x1, none⟩ ⟨bR, oR + j, none⟩ ⟨bP, oP + x2, none⟩ u v)) ?step ?last (fun j => a0.tmps.getD (99 + j) undef) ?h0 (fun _ _ => rfl)
  case rest =>
    intro i o L hi ho hC hl
    have hi2 := (Array.getElem?_eq_some_iff.1 ho).1
    rw [hOps19_size] at hi2
    obtain rfl | rfl : i = 20 ∨ i = 21 := by omega
    · exact h19_all hC (last_at (t := 1) (g := .chain) ho hl rfl rfl)
    · exact h19_all hC (last_at (t := 0) (g := .data) ho hl rfl rfl)
  case h0 => exact ⟨fun _ _ _ _ _ h => (by cases h), fun h => (by cases h), fun h => (by cases h), fun _ => ho1, fun _ => ho2, fun h => (by cases h), fun h => (by cases h), (Below.refl _ _).drew⟩
  case step =>
    intro i L V a w hi hS hL hF hC hafter
    exact h19_step h15 h16 h7 h12 h13 h17 hj hx1 hx2 bl cs cr cx cy hn hH hap (fun g e => (ho1.lt g e).2) (fun g e => (ho2.lt g e).2) i L V a w hi hS hL hF.toFrameAt (fun h => closed_at hC (t := 2) (g := .chain) h rfl rfl) (fun t e h hb => by
      obtain ⟨o, ho, he⟩ := Option.bind_eq_some_iff.1 h
      exact hafter o ho e (Array.mem_of_getElem? he) hb)
  case last =>
    intro L V a w hL hS hF
    obtain ⟨A, c, hv, hO1, _⟩ := hS.n1 (hL 9 (by decide))
    obtain ⟨A', c', hv', hO2, hd⟩ := hS.n2 (hL 19 (by decide))
    rw [hv] at hO1 hd
    rw [hv'] at hO2 hd
    have hev := (hF.eval (j := 9) (by decide) rfl).trans hv
    have hev' := (hF.eval (j := 19) (by decide) rfl).trans hv'
    rw [show hOps19.size - 20 = 2 by rw [hOps19_size]]
    refine wpAny_two (N := 20) (M := 21) (by kernel_rfl) (by kernel_rfl) (by kernel_rfl) ?_
    refine wpOp_valueD (t := 15) rfl rfl rfl (ey_assign hev) ?_
    have hev2 : (a.put (some 15) (.slice A (n + 1) c)).eval (.tmp 118) = .slice A' (n + 1) c' := by
      rw [← hev']
      simp [Act.put, Act.eval, Array.getD_eq_getD_getElem?]
    refine wpOp_valueD (t := 16) rfl rfl rfl (ey_assign hev2) ?_
    have hs15 : 15 < a.tmps.size := by rw [hF.sz, hsz]; decide
    have hs16 : 16 < a.tmps.size := by rw [hF.sz, hsz]; decide
    refine hq _ w A c A' c' (fun t ht hne hne3 => ?_) ?_ hF.defers ?_ ?_ hO1 hO2 hd hS.low
    · simp only [Act.put, Array.getD_eq_getD_getElem?, Array.getElem?_setIfInBounds]
      rw [if_neg (Ne.symm hne3), if_neg (Ne.symm hne), ← Array.getD_eq_getD_getElem?, ht.elim (hF.low t) (hF.high t), Array.getD_eq_getD_getElem?]
    · simp [Act.put, hF.sz]
    · simp only [Act.put, Array.getD_eq_getD_getElem?, Array.getElem?_setIfInBounds, Array.size_setIfInBounds]
      rw [if_neg (by decide), if_pos trivial, if_pos hs15]
      rfl
    · simp only [Act.put, Array.getD_eq_getD_getElem?, Array.getElem?_setIfInBounds, Array.size_setIfInBounds]
      rw [if_pos trivial, if_pos hs16]
      rfl
end Go.Proofs.YtbpkoilecdejiaaDoor
