/-
  A slice of byte slices of the call's own, that is appended to; a region that draws its order, walked by an invariant.
-/
import Derived.Test.YtkdodmjhpkfhnaaDoorPa
import Derived.Maps.AppendAt
import Derived.OrdersIn
namespace Go.Proofs.YtkdodmjhpkfhnaaDoor
open Go.RowKit

/-! ### A region by an invariant on what is done -/
theorem wpAnyIn_inv {F : Fence} {n : Nat} {P : Program} {ops : Array Oper} {Q : Exit → Act → World → Prop} (Inv : Array Bool → Act → World → Prop) (cnt : Array Bool → Nat)
    (h0 : ∀ listed a w, Inv listed a w → cnt listed = 0 → Region.ready .any ops listed = [])
    (hQ : ∀ listed a w, Inv listed a w → Region.ready .any ops listed = [] → Q .normal a w)
    (hstep : ∀ listed a w, Inv listed a w → ∀ i ∈ Region.ready .any ops listed, cnt (listed.setIfInBounds i true) < cnt listed ∧ wpOpIn F n P ops Q i (Inv (listed.setIfInBounds i true)) a w) :
    ∀ (fuel : Nat) (listed : Array Bool) (a : Act) (w : World), cnt listed ≤ fuel → Inv listed a w → wpAnyIn F n P .any ops Q fuel listed a w := by
  intro fuel
  induction fuel with
  | zero =>
    intro listed a w hc hi
    have hr := h0 listed a w hi (by omega)
    exact ⟨hr, hQ listed a w hi hr⟩
  | succ fuel ih =>
    intro listed a w hc hi
    refine ⟨hQ listed a w hi, fun i hm => ?_⟩
    obtain ⟨h1, h2⟩ := hstep listed a w hi i hm
    exact wpOpIn_mono (fun a w h => ih _ a w (by omega) h) h2

/-! ### Families of rows -/
def hdr (r : BRow) : Value := .slice r.a r.n r.c
/-- One row of a family: what is said of it (Z) hangs on its block alone. -/
structure Row1 (N0 : Nat) (X : Nat → Prop) (C : Nat) (Z : World → BRow → Prop) (W : World) (r : BRow) : Prop where
  z : Z W r
  cells : ∀ a, r.a = some a → ∃ o, W.heap[a.block]? = some o ∧ o.isCells = true
  low : ∀ a, r.a = some a → N0 ≤ a.block ∨ ¬ X a.block
  box : ∀ a, r.a = some a → a.block ≠ C
structure Fam (N0 : Nat) (X : Nat → Prop) (C : Nat) (Z : World → BRow → Prop) (W : World) (V : Value) (k : Nat) (rows : List BRow) : Prop where
  len : rows.length = k
  own : W.ownsRow N0 46 1 V k (rows.map hdr)
  row : ∀ r ∈ rows, Row1 N0 X C Z W r
  outer : ∀ r ∈ rows, ∀ a, r.a = some a → V.ownBlock ≠ some a.block
  outerC : V.ownBlock ≠ some C
  asc : ∀ (i j : Nat) (ri rj : BRow) (a b : Addr), rows[i]? = some ri → rows[j]? = some rj → i < j → ri.a = some a → rj.a = some b → b.block < N0 ∨ a.block < b.block
/-- What is said of a row abides where its block does. -/
def Abides (Z : World → BRow → Prop) : Prop := ∀ W W' r, Z W r → (∀ a, r.a = some a → W'.heap[a.block]? = W.heap[a.block]?) → W.heap.size ≤ W'.heap.size → Z W' r
section
variable {N0 C k : Nat} {X : Nat → Prop} {Z : World → BRow → Prop} {W W' : World} {V : Value} {rows : List BRow}
theorem Row1.keep {r : BRow} (hZ : Abides Z) (h : Row1 N0 X C Z W r) (hk : ∀ j o, W.heap[j]? = some o → o.isCells = true → (N0 ≤ j ∨ ¬ X j) → j ≠ C → W'.heap[j]? = some o) (hs : W.heap.size ≤ W'.heap.size) : Row1 N0 X C Z W' r := by
  have hb : ∀ a, r.a = some a → W'.heap[a.block]? = W.heap[a.block]? := fun a ha => by
    obtain ⟨o, ho, hc⟩ := h.cells a ha
    rw [ho]; exact hk _ o ho hc (h.low a ha) (h.box a ha)
  exact ⟨hZ _ _ _ h.z hb hs, fun a ha => by rw [hb a ha]; exact h.cells a ha, h.low, h.box⟩
theorem Fam.keep (hZ : Abides Z) (h : Fam N0 X C Z W V k rows) (hk : ∀ j o, W.heap[j]? = some o → o.isCells = true → (N0 ≤ j ∨ ¬ X j) → j ≠ C → W'.heap[j]? = some o) (hs : W.heap.size ≤ W'.heap.size) : Fam N0 X C Z W' V k rows := by
  refine ⟨h.len, ?_, fun r hr => (h.row r hr).keep hZ hk hs, h.outer, h.outerC, h.asc⟩
  refine ⟨h.own.1, ?_⟩
  rcases h.own.2 with h2 | ⟨g, cap, cur, hv, hb, hg, rest⟩
  · exact .inl h2
  · refine .inr ⟨g, cap, cur, hv, hb, hk g _ hg rfl (.inl hb) (fun e => h.outerC ?_), rest⟩
    rw [hv, ← e]
    rfl
theorem Fam.nil (W : World) (g cap : Nat) (cur : Array Value) (hg : W.heap[g]? = some (.cells cur 46 (0, 0))) (hb : N0 ≤ g) (hcm : cap ≤ maxLen) (hcs : cur.size = cap * 1) (hC : g ≠ C) : Fam N0 X C Z W (.slice (some ⟨g, 0, none⟩) 0 cap) 0 [] :=
  ⟨rfl, ⟨rfl, .inr ⟨g, cap, cur, rfl, hb, hg, Nat.zero_le _, hcm, hcs, by simp⟩⟩, by simp, by simp, by intro e; simp only [Value.ownBlock, Option.some.injEq] at e; exact hC e, by simp⟩
theorem Tryd.info_u8s : (Tryd.prog.info? 46).map (fun i => (i.zero, i.size, i.bytes)) = some (some (.slice none 0 0), 1, 24) := by kernel_rfl
/-- append of one row. -/
theorem Fam.append {A : Option Addr} {c : Nat} {r : BRow} (hZ : Abides Z) (h : Fam N0 X C Z W (.slice A k c) k rows) (hr : Row1 N0 X C Z W r) (hnew : ∀ a, r.a = some a → a.block < N0 ∨ (∀ s ∈ rows, ∀ b, s.a = some b → b.block < a.block)) (hne : ∀ a, r.a = some a → (Value.slice A k c).ownBlock ≠ some a.block)
    (hN : N0 ≤ W.heap.size) (hCs : C < W.heap.size) (hk : k ≤ 1000) :
    ∃ A2 c2 w2, (Builtin.append_ #[48, 48] 48 #[.slice A k c, .slice (some ⟨W.heap.size, 0, none⟩) 1 1]).run Tryd.prog (W.alloc (.cells #[hdr r] 46)) = .ok (.slice A2 (k + 1) c2) w2 ∧
      Fam N0 X C Z w2 (.slice A2 (k + 1) c2) (k + 1) (rows ++ [r]) ∧ (W.alloc (.cells #[hdr r] 46)).grownBy w2 (Value.slice A k c).ownBlock := by
  obtain ⟨i0, hi, hz0, hz1, hz2⟩ := info_q Tryd.info_u8s
  have hO' : (W.alloc (.cells #[hdr r] 46)).ownsRow N0 46 1 (.slice A k c) k (rows.map hdr) := h.own.alloc _
  obtain ⟨V2, w2, h1, h2, h3, _, h5⟩ := run_append_own_at (P := Tryd.prog) (w := W.alloc (.cells #[hdr r] 46)) N0 48 48 46 i0 (.slice none 0 0) 1 24 Tryd.underlying48 hi hz0 hz1 hz2 rfl (by decide) _ k _ hO' ⟨W.heap.size, 0, none⟩ 1 1 [hdr r] rfl
    (by
      intro j u hu
      rcases j with _ | j
      · simp at hu; subst hu; simp [Addr.add]
      · simp at hu) (by simp [hdr, Value.oneCell']) (by unfold maxLen; omega) (by omega) (by simp; omega)
  obtain ⟨A2, c2, rfl⟩ := ownsRow_shape h2
  refine ⟨A2, c2, w2, h1, ?_, h3⟩
  rw [World.size_alloc] at h5
  have hbk : ∀ j o, W.heap[j]? = some o → some j ≠ (Value.slice A k c).ownBlock → w2.heap[j]? = some o := fun j o ho hj => by
    have hjl := (Array.getElem?_eq_some_iff.1 ho).1
    exact (h3.block j (by simp; omega) hj).trans ((Below.heap_alloc _ _ _ hjl).trans ho)
  have hs2 : W.heap.size ≤ w2.heap.size := Nat.le_trans (by simp) h3.size
  have hrow : ∀ s, Row1 N0 X C Z W s → (∀ a, s.a = some a → (Value.slice A k c).ownBlock ≠ some a.block) → Row1 N0 X C Z w2 s := fun s hs ho => by
    have hb : ∀ a, s.a = some a → w2.heap[a.block]? = W.heap[a.block]? := fun a ha => by
      obtain ⟨o, hoo, _⟩ := hs.cells a ha
      rw [hoo]; exact hbk _ o hoo (fun e => ho a ha e.symm)
    exact ⟨hZ _ _ _ hs.z hb hs2, fun a ha => by rw [hb a ha]; exact hs.cells a ha, hs.low, hs.box⟩
  have hout : ∀ s, Row1 N0 X C Z W s → (∀ a, s.a = some a → (Value.slice A k c).ownBlock ≠ some a.block) → ∀ a, s.a = some a → (Value.slice A2 (k + 1) c2).ownBlock ≠ some a.block := fun s hs ho a ha => by
    rcases h5 with h5 | h5
    · rw [h5]; exact ho a ha
    · rw [h5]
      obtain ⟨o, hoo, _⟩ := hs.cells a ha
      have := (Array.getElem?_eq_some_iff.1 hoo).1
      intro e; injection e with e; omega
  refine ⟨by rw [List.length_append, h.len]; rfl, by rw [List.map_append]; exact h2, fun s hs => ?_, fun s hs => ?_, ?_, ?_⟩
  · rcases List.mem_append.1 hs with hs | hs
    · exact hrow s (h.row s hs) (h.outer s hs)
    · obtain rfl := List.mem_singleton.1 hs
      exact hrow s hr hne
  · rcases List.mem_append.1 hs with hs | hs
    · exact hout s (h.row s hs) (h.outer s hs)
    · obtain rfl := List.mem_singleton.1 hs
      exact hout s hr hne
  · rcases h5 with h5 | h5
    · rw [h5]; exact h.outerC
    · rw [h5]; intro e; injection e with e; omega
  · intro i j ri rj a b hi hj hij ha hb
    rcases Nat.lt_trichotomy j rows.length with hjl | hjl | hjl
    · rw [List.getElem?_append_left (by omega)] at hi hj
      exact h.asc i j ri rj a b hi hj hij ha hb
    · rw [List.getElem?_append_left (by omega)] at hi
      rw [List.getElem?_append_right (by omega), hjl, Nat.sub_self] at hj
      simp only [List.getElem?_cons_zero, Option.some.injEq] at hj
      subst hj
      rcases hnew b hb with h6 | h6
      · exact .inl h6
      · exact .inr (h6 ri (List.mem_of_getElem? hi) a ha)
    · rw [List.getElem?_eq_none (by simp; omega)] at hj
      cases hj
end
end Go.Proofs.YtkdodmjhpkfhnaaDoor
