/-
  The reference's Encode: its three regions that append. The reference's Encode, where it answers a word.
-/
import Derived.Test.YtbpkoilecdejiaaDoorS3
import Derived.Test.YtbpkoilecdejiaaDoorGi
namespace Go.Proofs.YtbpkoilecdejiaaDoor
/-! ### The reference's Encode: its three regions that append. -/
section
set_option maxRecDepth 100000
open Go.RowKit

section
variable {ρ : Operand → Value} {w : World} {dst : Option Tmp} {ty : TypeId} {pos : String} {after : Array Edge} {guard : Option (Nat × Bool)} {x ix : Operand}
theorem ey_move {P : Program} {v : Value} (h : ρ x = v) : (execOp ρ { dst := dst, op := .move x, type := ty, pos := pos, after := after, guard := guard }).run P w = .ok (.value v) w := by
  subst h; rfl
theorem ey_assign {P : Program} {v : Value} (h : ρ x = v) : (execOp ρ { dst := dst, op := .assign x, type := ty, pos := pos, after := after, guard := guard }).run P w = .ok (.value v) w := by
  subst h; rfl
theorem ey_load {b off : Nat} {v : Int} (hx : ρ x = .pointer (some ⟨b, off, none⟩)) (hc : w.cell? ⟨b, off, none⟩ = some (.int .u8 v)) :
    (execOp ρ { dst := dst, op := .load 5 x, type := ty, pos := pos, after := after, guard := guard }).run Tryd.prog w = .ok (.value (.int .u8 v)) w := by
  simp [execOp, hx, hc, go_sem]
theorem ey_index {b j : Nat} {z : Int} (hz : z = (j : Int)) (hx : ρ x = .pointer (some ⟨b, 0, none⟩)) (hi : ρ ix = .int .i64 z) (hj : j < 3) :
    (execOp ρ { dst := dst, op := .indexAddr 61 x ix, type := ty, pos := pos, after := after, guard := guard }).run Tryd.prog w = .ok (.value (.pointer (some ⟨b, j, none⟩))) w := by
  subst hz
  have h2 : (j : Int) < 3 := by omega
  simp [execOp, hx, hi, h2, go_sem, Addr.add_lit]
theorem ey_none : (execOp ρ { dst := dst, op := .buildSlice 22 0 #[], type := ty, pos := pos, after := after, guard := guard }).run Tryd.prog w = .ok (.value (.slice (some ⟨w.heap.size, 0, none⟩) 0 0)) (w.alloc (.cells #[] 5)) := by
  simp [execOp, go_sem]
theorem ey_four {a b c d : Operand} {u v z y : Int} (ha : ρ a = .int .u8 u) (hb : ρ b = .int .u8 v) (hc : ρ c = .int .u8 z) (hd : ρ d = .int .u8 y) :
    (execOp ρ { dst := dst, op := .buildSlice 22 4 #[(0, a), (1, b), (2, c), (3, d)], type := ty, pos := pos, after := after, guard := guard }).run Tryd.prog w = .ok (.value (.slice (some ⟨w.heap.size, 0, none⟩) 4 4)) (w.alloc (.cells #[.int .u8 u, .int .u8 v, .int .u8 z, .int .u8 y] 5)) := by
  simp [execOp, ha, hb, hc, hd, go_sem]
/-- append onto one's own. -/
theorem ey_append {base B n m c' : Nat} {V : Value} {A : Option Addr} {xs ys : List Int} {s t : Operand} (hs : ρ s = V) (ht : ρ t = .slice A m c') (hO : w.ownsRow base 5 1 V n (xs.map (Value.int .u8))) (hR : Rd .u8 w B A m ys) (hlim : n + m ≤ 1000000) (hbase : base ≤ w.heap.size) :
    ∃ A2 c2 w', (execOp ρ { dst := dst, op := .call { callee := .builtin .append, args := #[s, t], argTypes := #[22, 22] }, type := 22, pos := pos, after := after, guard := guard }).run Tryd.prog w = .ok (.value (.slice A2 (n + m) c2)) w' ∧
      w'.ownsRow base 5 1 (.slice A2 (n + m) c2) (n + m) ((xs ++ ys).map (Value.int .u8)) ∧ w.grownBy w' V.ownBlock := by
  obtain ⟨i0, hi, hz0, hz1, hz2⟩ := info_parts Tryd.info_u8
  obtain ⟨V2, w2, h1, h2, h3, _⟩ := run_append_q (P := Tryd.prog) (ty := 22) (c' := c') Tryd.underlying22 hi hz0 hz1 hz2 (by decide) hO hR hlim hbase
  obtain ⟨A2, c2, rfl⟩ := ownsRow_shape h2
  refine ⟨A2, c2, w2, ?_, h2, h3⟩
  simp [execOp, resolve, invoke, builtin, hs, ht, h1, Result.andThen]
end
/-- What is known within the region. -/
structure RgS (H : Nat) (W8 : World) (OUT : Option Value) (n0 : Nat) (xs0 : List Int) (Vin : Value) (n1 : Nat) (ys : List Int) (p : Nat → Value) (q : Nat → Int) (L : Nat → Bool) (V : Nat → Value) (w : World) : Prop where
  m0 : L 0 = true → V 0 = OUT.getD (V 0)
  i1 : L 1 = true → V 1 = Vin
  px : ∀ j, j < 4 → L (3 + 2 * j) = true → V (3 + 2 * j) = p j
  pv : ∀ j, j < 4 → L (4 + 2 * j) = true → V (4 + 2 * j) = .int .u8 (q j)
  d12 : L 12 = true → L 2 = true ∧ L 11 = true
  d2 : L 2 = true → L 0 = true
  o0 : L 2 = false → (L 0 = true ∨ OUT.isSome = true) → w.ownsRow H 5 1 (OUT.getD (V 0)) n0 (xs0.map (Value.int .u8))
  o2 : L 2 = true → L 12 = false → ∃ A c, V 2 = .slice A (n0 + n1) c ∧ w.ownsRow H 5 1 (V 2) (n0 + n1) ((xs0 ++ ys).map (Value.int .u8))
  f : L 11 = true → L 12 = false → ∃ g, V 11 = .slice (some ⟨g, 0, none⟩) 4 4 ∧ w.heap[g]? = some (.cells #[.int .u8 (q 0), .int .u8 (q 1), .int .u8 (q 2), .int .u8 (q 3)] 5) ∧ (L 2 = false → (L 0 = true ∨ OUT.isSome = true) → (OUT.getD (V 0)).ownBlock ≠ some g)
  o12 : L 12 = true → ∃ A c, V 12 = .slice A (n0 + n1 + 4) c ∧ w.ownsRow H 5 1 (V 12) (n0 + n1 + 4) ((xs0 ++ ys ++ [q 0, q 1, q 2, q 3]).map (Value.int .u8))
  low : Below H W8 w
  hw : H ≤ W8.heap.size
theorem odd_at {p : Nat → Value} (a : Nat) : ∀ j, 3 + 2 * a = 3 + 2 * j → p a = p j := fun j h => by rw [show a = j by omega]
theorem even_at {q : Nat → Int} (a : Nat) : ∀ j, 4 + 2 * a = 4 + 2 * j → Value.int .u8 (q a) = .int .u8 (q j) := fun j h => by rw [show a = j by omega]
theorem odd_no {X : Nat → Prop} (a : Nat) : ∀ j, 3 + 2 * a = 4 + 2 * j → X j := fun j h => by omega
theorem even_no {X : Nat → Prop} (a : Nat) : ∀ j, 4 + 2 * a = 3 + 2 * j → X j := fun j h => by omega
theorem lt13 {i : Nat} (h : i < 13) : i = 0 ∨ i = 1 ∨ i = 2 ∨ i = 3 ∨ i = 4 ∨ i = 5 ∨ i = 6 ∨ i = 7 ∨ i = 8 ∨ i = 9 ∨ i = 10 ∨ i = 11 ∨ i = 12 := by omega
section
variable {H : Nat} {W8 : World} {OUT : Option Value} {n0 : Nat} {xs0 : List Int} {Vin : Value} {n1 : Nat} {ys : List Int} {p : Nat → Value} {q : Nat → Int} {L : Nat → Bool} {V : Nat → Value} {w w' : World}
/-- A step that does not touch the memory. -/
theorem RgS.pure {i : Nat} {v : Value} (h : RgS H W8 OUT n0 xs0 Vin n1 ys p q L V w) (hL : L i = false) (hi : i = 1 ∨ (3 ≤ i ∧ i ≤ 10) ∨ (i = 0 ∧ OUT.isSome = true)) (h0 : i = 0 → v = OUT.getD v) (h1 : i = 1 → v = Vin) (hp : ∀ j, i = 3 + 2 * j → v = p j) (hv : ∀ j, i = 4 + 2 * j → v = .int .u8 (q j)) : RgS H W8 OUT n0 xs0 Vin n1 ys p q (upd L i true) (upd V i v) w := by
  have e : ∀ {α : Type} (f : Nat → α) (u : α) (j : Nat), j ≠ i → upd f i u j = f j := fun f u j hj => upd_other f u hj
  have hg : ∀ u, OUT.isSome = true → OUT.getD u = OUT.getD (V 0) := fun u hs => by
    cases OUT with
    | none => cases hs
    | some z => rfl
  have hX : (OUT.isSome = true ∨ i ≠ 0) := by
    rcases hi with h | h | h
    · exact .inr (by omega)
    · exact .inr (by omega)
    · exact .inl h.2
  have eX : OUT.getD (upd V i v 0) = OUT.getD (V 0) := by
    rcases hX with hs | hn
    · exact hg _ hs
    · rw [e V v 0 (Ne.symm hn)]
  have hor : (upd L i true 0 = true ∨ OUT.isSome = true) → (L 0 = true ∨ OUT.isSome = true) := fun ho => by
    rcases hX with hs | hn
    · exact .inr hs
    · rwa [e L true 0 (Ne.symm hn)] at ho
  have n2 : (2 : Nat) ≠ i := by omega
  have n11 : (11 : Nat) ≠ i := by omega
  have n12 : (12 : Nat) ≠ i := by omega
  refine ⟨fun hl => ?_, fun hl => ?_, fun j hj hl => ?_, fun j hj hl => ?_, ?_, ?_, ?_, ?_, ?_, ?_, h.low, h.hw⟩
  · by_cases ei : 0 = i
    · subst ei; rw [upd_same]; exact h0 rfl
    · rw [e L true 0 ei] at hl
      rw [e V v 0 ei]; exact h.m0 hl
  · by_cases ei : 1 = i
    · subst ei; rw [upd_same]; exact h1 rfl
    · rw [e L true 1 ei] at hl
      rw [e V v 1 ei]; exact h.i1 hl
  · by_cases ei : 3 + 2 * j = i
    · subst ei; rw [upd_same]; exact hp j rfl
    · rw [e L true _ ei] at hl
      rw [e V v _ ei]; exact h.px j hj hl
  · by_cases ei : 4 + 2 * j = i
    · subst ei; rw [upd_same]; exact hv j rfl
    · rw [e L true _ ei] at hl
      rw [e V v _ ei]; exact h.pv j hj hl
  · rw [e L true 12 n12, e L true 2 n2, e L true 11 n11]; exact h.d12
  · rw [e L true 2 n2]
    intro hl
    by_cases ei : 0 = i
    · subst ei; exact upd_same _ _ _
    · rw [e L true 0 ei]; exact h.d2 hl
  · rw [e L true 2 n2, eX]; exact fun hl ho => h.o0 hl (hor ho)
  · rw [e L true 2 n2, e L true 12 n12, e V v 2 n2]; exact h.o2
  · rw [e L true 11 n11, e L true 12 n12, e V v 11 n11, e L true 2 n2, eX]
    intro a b
    obtain ⟨g, g1, g2, g3⟩ := h.f a b
    exact ⟨g, g1, g2, fun c d => g3 c (hor d)⟩
  · rw [e L true 12 n12, e V v 12 n12]; exact h.o12
end
noncomputable def opsOfR (id : Nat) : Code → Option (Array Oper)
  | .region i ops _ => if i = id then some ops else none
  | .seq a b => (opsOfR id a).orElse fun _ => opsOfR id b
  | _ => none
noncomputable def rgOps16 : Array Oper := ((Tryd.f12.body.bind (opsOfR 16)).getD #[])
theorem rgOps16_size : rgOps16.size = 14 := by kernel_rfl
theorem rgOps16_rd : readyB rgOps16 13 = true := by kernel_rfl
set_option maxHeartbeats 4000000 in
theorem rg16_step {H : Nat} {W8 : World} {A : Option Addr} {n1 c : Nat} {ys : List Int} {ad : Nat → Addr} {q : Nat → Int} {a0 : Act} {X Z U Y : Nat} (hin : a0.tmps.getD 0 undef = .slice A n1 c) (h15 : a0.tmps.getD 15 undef = .pointer (some ⟨X, 0, none⟩)) (h16 : a0.tmps.getD 16 undef = .pointer (some ⟨Z, 0, none⟩)) (h17 : a0.tmps.getD 17 undef = .pointer (some ⟨U, 0, none⟩)) (h18 : a0.tmps.getD 18 undef = .pointer (some ⟨Y, 0, none⟩))
    (had : ad 0 = ⟨X, 0, none⟩ ∧ ad 1 = ⟨Z, 1, none⟩ ∧ ad 2 = ⟨U, 0, none⟩ ∧ ad 3 = ⟨Y, 1, none⟩)
    (hR : Rd .u8 W8 H A n1 ys) (hlim : 0 + n1 ≤ 900000) (hcell : ∀ j, j < 4 → W8.cell? (ad j) = some (.int .u8 (q j)) ∧ (ad j).block < H)
    (i : Nat) (L : Nat → Bool) (V : Nat → Value) (a : Act) (w : World) (hi : i < 13) (hS : RgS H W8 none 0 [] (.slice A n1 c) n1 ys (fun j => .pointer (some (ad j))) q L V w) (hL : L i = false) (hF : FrameAt 70 a0 a V 13)
    (hafter : ∀ (t : Nat) (e : Edge), ((rgOps16[i]?).bind fun o => o.after[t]?) = some e → Region.binds .any e = true → L e.on = true) :
    ∃ o v w', rgOps16[i]? = some o ∧ o.guard = none ∧ o.dst = some (70 + i) ∧ (execOp a.eval o).run Tryd.prog w = .ok (.value v) w' ∧ RgS H W8 none 0 [] (.slice A n1 c) n1 ys (fun j => .pointer (some (ad j))) q (upd L i true) (upd V i v) w' := by
  obtain ⟨ha0, ha1, ha2, ha3⟩ := had
  have hle : H ≤ w.heap.size := Nat.le_trans hS.hw hS.low.size
  have hc := lt13 hi
  rcases hc with rfl | rfl | rfl | rfl | rfl | rfl | rfl | rfl | rfl | rfl | rfl | rfl | rfl
  · refine ⟨_, _, _, rfl, rfl, rfl, ey_none, ?_⟩
    have e2 : L 2 = false := by
      rcases hb : L 2 with _ | _
      · rfl
      · rw [hS.d2 hb] at hL; cases hL
    have e12 : L 12 = false := by
      rcases hb : L 12 with _ | _
      · rfl
      · rw [(hS.d12 hb).1] at e2; cases e2
    have hown := (own_empty w 5).mono hle
    refine ⟨fun _ => rfl, hS.i1, fun j hj hl => ?_, fun j hj hl => ?_, hS.d12, fun _ => rfl, fun _ _ => hown, ?_, ?_, ?_, hS.low.alloc (by omega) _, hS.hw⟩
    · rw [upd_other _ _ (by omega)] at hl ⊢; exact hS.px j hj hl
    · rw [upd_other _ _ (by omega)] at hl ⊢; exact hS.pv j hj hl
    · intro hl; rw [show upd L 0 true 2 = L 2 from rfl, e2] at hl; cases hl
    · intro hl hl2
      obtain ⟨g, g1, g2, _⟩ := hS.f hl hl2
      have hg := (Array.getElem?_eq_some_iff.1 g2).1
      exact ⟨g, g1, (Below.heap_alloc _ _ _ hg).trans g2, fun _ _ e => by
        have e' : some w.heap.size = some g := e
        injection e' with e'
        omega⟩
    · intro hl; rw [show upd L 0 true 12 = L 12 from rfl, e12] at hl; cases hl
  · exact ⟨_, _, w, rfl, rfl, rfl, ey_move (hF.evalLow (t := 0) (by decide) hin), hS.pure (i := 1) hL (.inl rfl) (fun h => by cases h) (fun _ => rfl) (fun j h => by omega) (fun j h => by omega)⟩
  · have q0 := hafter 0 ⟨0, .data⟩ rfl rfl
    have q1 := hafter 1 ⟨1, .data⟩ rfl rfl
    have e12 : L 12 = false := by
      rcases hb : L 12 with _ | _
      · rfl
      · rw [(hS.d12 hb).1] at hL; cases hL
    obtain ⟨A2, c2, w2, hrun, hO, hg⟩ := ey_append (dst := some 72) (pos := _) (after := _) (guard := none) ((hF.eval (j := 0) (by decide) rfl).trans (hS.m0 q0)) ((hF.eval (j := 1) (by decide) rfl).trans (hS.i1 q1)) (hS.o0 hL (.inl q0)) (hR.below hS.low) (by omega) hle
    have hbl := hS.low.grown hg hle (fun g e => ((hS.o0 hL (.inl q0)).lt g e).1)
    refine ⟨_, _, w2, rfl, rfl, rfl, hrun, ?_⟩
    refine ⟨hS.m0, hS.i1, fun j hj hl => ?_, fun j hj hl => ?_, fun h => ⟨rfl, (hS.d12 h).2⟩, fun _ => q0, fun h => (by cases h), fun _ _ => ⟨A2, c2, rfl, hO⟩, fun hl hl2 => ?_, fun hl => ?_, hbl, hS.hw⟩
    · rw [upd_other _ _ (by omega)] at hl ⊢; exact hS.px j hj hl
    · rw [upd_other _ _ (by omega)] at hl ⊢; exact hS.pv j hj hl
    · obtain ⟨g, g1, g2, g3⟩ := hS.f hl hl2
      exact ⟨g, g1, (hg.block g (Array.getElem?_eq_some_iff.1 g2).1 (fun e => g3 hL (.inl q0) e.symm)).trans g2, fun h => by cases h⟩
    · rw [show upd L 2 true 12 = L 12 from rfl, e12] at hl; cases hl
  · refine ⟨_, .pointer (some (ad 0)), w, rfl, rfl, rfl, ?_, hS.pure (i := 3) hL (.inr (.inl ⟨by decide, by decide⟩)) (fun h => by cases h) (fun h => by cases h) (odd_at (p := fun j => .pointer (some (ad j))) 0) (odd_no 0)⟩
    rw [ha0]
    exact ey_index (j := 0) rfl (hF.evalLow (t := 15) (by decide) h15) rfl (by decide)
  · have q1 := hafter 0 ⟨3, .data⟩ rfl rfl
    have hv := (hF.eval (j := 3) (by decide) rfl).trans (hS.px 0 (by decide) q1)
    have hcl := (hS.low.cell (hcell 0 (by decide)).2).trans (hcell 0 (by decide)).1
    simp only [ha0] at hv hcl
    exact ⟨_, _, w, rfl, rfl, rfl, ey_load hv hcl, hS.pure (i := 4) hL (.inr (.inl ⟨by decide, by decide⟩)) (fun h => by cases h) (fun h => by cases h) (even_no 0) (even_at (q := q) 0)⟩
  · refine ⟨_, .pointer (some (ad 1)), w, rfl, rfl, rfl, ?_, hS.pure (i := 5) hL (.inr (.inl ⟨by decide, by decide⟩)) (fun h => by cases h) (fun h => by cases h) (odd_at (p := fun j => .pointer (some (ad j))) 1) (odd_no 1)⟩
    rw [ha1]
    exact ey_index (j := 1) rfl (hF.evalLow (t := 16) (by decide) h16) rfl (by decide)
  · have q1 := hafter 0 ⟨5, .data⟩ rfl rfl
    have hv := (hF.eval (j := 5) (by decide) rfl).trans (hS.px 1 (by decide) q1)
    have hcl := (hS.low.cell (hcell 1 (by decide)).2).trans (hcell 1 (by decide)).1
    simp only [ha1] at hv hcl
    exact ⟨_, _, w, rfl, rfl, rfl, ey_load hv hcl, hS.pure (i := 6) hL (.inr (.inl ⟨by decide, by decide⟩)) (fun h => by cases h) (fun h => by cases h) (even_no 1) (even_at (q := q) 1)⟩
  · refine ⟨_, .pointer (some (ad 2)), w, rfl, rfl, rfl, ?_, hS.pure (i := 7) hL (.inr (.inl ⟨by decide, by decide⟩)) (fun h => by cases h) (fun h => by cases h) (odd_at (p := fun j => .pointer (some (ad j))) 2) (odd_no 2)⟩
    rw [ha2]
    exact ey_index (j := 0) rfl (hF.evalLow (t := 17) (by decide) h17) rfl (by decide)
  · have q1 := hafter 0 ⟨7, .data⟩ rfl rfl
    have hv := (hF.eval (j := 7) (by decide) rfl).trans (hS.px 2 (by decide) q1)
    have hcl := (hS.low.cell (hcell 2 (by decide)).2).trans (hcell 2 (by decide)).1
    simp only [ha2] at hv hcl
    exact ⟨_, _, w, rfl, rfl, rfl, ey_load hv hcl, hS.pure (i := 8) hL (.inr (.inl ⟨by decide, by decide⟩)) (fun h => by cases h) (fun h => by cases h) (even_no 2) (even_at (q := q) 2)⟩
  · refine ⟨_, .pointer (some (ad 3)), w, rfl, rfl, rfl, ?_, hS.pure (i := 9) hL (.inr (.inl ⟨by decide, by decide⟩)) (fun h => by cases h) (fun h => by cases h) (odd_at (p := fun j => .pointer (some (ad j))) 3) (odd_no 3)⟩
    rw [ha3]
    exact ey_index (j := 1) rfl (hF.evalLow (t := 18) (by decide) h18) rfl (by decide)
  · have q1 := hafter 0 ⟨9, .data⟩ rfl rfl
    have hv := (hF.eval (j := 9) (by decide) rfl).trans (hS.px 3 (by decide) q1)
    have hcl := (hS.low.cell (hcell 3 (by decide)).2).trans (hcell 3 (by decide)).1
    simp only [ha3] at hv hcl
    exact ⟨_, _, w, rfl, rfl, rfl, ey_load hv hcl, hS.pure (i := 10) hL (.inr (.inl ⟨by decide, by decide⟩)) (fun h => by cases h) (fun h => by cases h) (even_no 3) (even_at (q := q) 3)⟩
  · have q4 := hafter 0 ⟨4, .data⟩ rfl rfl
    have q6 := hafter 1 ⟨6, .data⟩ rfl rfl
    have q8 := hafter 2 ⟨8, .data⟩ rfl rfl
    have q10 := hafter 3 ⟨10, .data⟩ rfl rfl
    have e12 : L 12 = false := by
      rcases hb : L 12 with _ | _
      · rfl
      · rw [(hS.d12 hb).2] at hL; cases hL
    refine ⟨_, _, _, rfl, rfl, rfl, ey_four ((hF.eval (j := 4) (by decide) rfl).trans (hS.pv 0 (by decide) q4)) ((hF.eval (j := 6) (by decide) rfl).trans (hS.pv 1 (by decide) q6)) ((hF.eval (j := 8) (by decide) rfl).trans (hS.pv 2 (by decide) q8)) ((hF.eval (j := 10) (by decide) rfl).trans (hS.pv 3 (by decide) q10)), ?_⟩
    refine ⟨hS.m0, hS.i1, fun j hj hl => ?_, fun j hj hl => ?_, fun h => ⟨(hS.d12 h).1, rfl⟩, hS.d2, fun hl ho => (hS.o0 hl ho).alloc _, fun hl hl2 => ?_, fun _ _ => ⟨w.heap.size, rfl, World.alloc_heap_new w _, fun hl ho e => by have := ((hS.o0 hl ho).lt _ e).2; omega⟩, fun hl => ?_, hS.low.alloc (by omega) _, hS.hw⟩
    · rw [upd_other _ _ (by omega)] at hl ⊢; exact hS.px j hj hl
    · rw [upd_other _ _ (by omega)] at hl ⊢; exact hS.pv j hj hl
    · obtain ⟨A2, c2, g1, g2⟩ := hS.o2 hl hl2
      exact ⟨A2, c2, g1, g2.alloc _⟩
    · rw [show upd L 11 true 12 = L 12 from rfl, e12] at hl; cases hl
  · have q2 := hafter 0 ⟨2, .data⟩ rfl rfl
    have q11 := hafter 1 ⟨11, .data⟩ rfl rfl
    obtain ⟨A2, c2, g1, g2⟩ := hS.o2 q2 hL
    obtain ⟨g, f1, f2, _⟩ := hS.f q11 hL
    have hR4 : Rd .u8 w (g + 1) (some ⟨g, 0, none⟩) 4 [q 0, q 1, q 2, q 3] := by
      refine ⟨rfl, fun k hk => ⟨g, 0, rfl, Nat.lt_succ_self g, ?_⟩⟩
      simp only [World.cell?, f2, Nat.zero_add]
      have : k = 0 ∨ k = 1 ∨ k = 2 ∨ k = 3 := by omega
      rcases this with rfl | rfl | rfl | rfl <;> rfl
    obtain ⟨A3, c3, w3, hrun, hO, hg⟩ := ey_append (dst := some 82) (pos := _) (after := _) (guard := none) (hF.eval (j := 2) (by decide) rfl) ((hF.eval (j := 11) (by decide) rfl).trans f1) g2 hR4 (by omega) hle
    have hbl := hS.low.grown hg hle (fun b e => (g2.lt b e).1)
    refine ⟨_, _, w3, rfl, rfl, rfl, hrun, ?_⟩
    refine ⟨hS.m0, hS.i1, fun j hj hl => ?_, fun j hj hl => ?_, fun _ => ⟨q2, q11⟩, hS.d2, fun hl => ?_, fun _ h => (by cases h), fun _ h => (by cases h), fun _ => ⟨A3, c3, rfl, hO⟩, hbl, hS.hw⟩
    · rw [upd_other _ _ (by omega)] at hl ⊢; exact hS.px j hj hl
    · rw [upd_other _ _ (by omega)] at hl ⊢; exact hS.pv j hj hl
    · rw [show upd L 12 true 2 = L 2 from rfl, q2] at hl; cases hl
noncomputable def rgOps17 : Array Oper := ((Tryd.f12.body.bind (opsOfR 17)).getD #[])
theorem rgOps17_size : rgOps17.size = 14 := by kernel_rfl
theorem rgOps17_rd : readyB rgOps17 13 = true := by kernel_rfl
set_option maxHeartbeats 4000000 in
theorem rg17_step {H : Nat} {W8 : World} {OUT : Value} {n0 : Nat} {xs0 : List Int} {A : Option Addr} {n1 c : Nat} {ys : List Int} {ad : Nat → Addr} {q : Nat → Int} {a0 : Act} {X Z U Y : Nat} (h19 : a0.tmps.getD 19 undef = OUT) (hin : a0.tmps.getD 7 undef = .slice A n1 c) (h15 : a0.tmps.getD 15 undef = .pointer (some ⟨X, 0, none⟩)) (h16 : a0.tmps.getD 16 undef = .pointer (some ⟨Z, 0, none⟩)) (h17 : a0.tmps.getD 17 undef = .pointer (some ⟨U, 0, none⟩)) (h18 : a0.tmps.getD 18 undef = .pointer (some ⟨Y, 0, none⟩))
    (had : ad 0 = ⟨Z, 0, none⟩ ∧ ad 1 = ⟨X, 2, none⟩ ∧ ad 2 = ⟨Y, 0, none⟩ ∧ ad 3 = ⟨U, 2, none⟩)
    (hR : Rd .u8 W8 H A n1 ys) (hlim : n0 + n1 ≤ 900000) (hcell : ∀ j, j < 4 → W8.cell? (ad j) = some (.int .u8 (q j)) ∧ (ad j).block < H)
    (i : Nat) (L : Nat → Bool) (V : Nat → Value) (a : Act) (w : World) (hi : i < 13) (hS : RgS H W8 (some OUT) n0 xs0 (.slice A n1 c) n1 ys (fun j => .pointer (some (ad j))) q L V w) (hL : L i = false) (hF : FrameAt 83 a0 a V 13)
    (hafter : ∀ (t : Nat) (e : Edge), ((rgOps17[i]?).bind fun o => o.after[t]?) = some e → Region.binds .any e = true → L e.on = true) :
    ∃ o v w', rgOps17[i]? = some o ∧ o.guard = none ∧ o.dst = some (83 + i) ∧ (execOp a.eval o).run Tryd.prog w = .ok (.value v) w' ∧ RgS H W8 (some OUT) n0 xs0 (.slice A n1 c) n1 ys (fun j => .pointer (some (ad j))) q (upd L i true) (upd V i v) w' := by
  obtain ⟨ha0, ha1, ha2, ha3⟩ := had
  have hle : H ≤ w.heap.size := Nat.le_trans hS.hw hS.low.size
  have hc := lt13 hi
  rcases hc with rfl | rfl | rfl | rfl | rfl | rfl | rfl | rfl | rfl | rfl | rfl | rfl | rfl
  · exact ⟨_, _, w, rfl, rfl, rfl, ey_move (hF.evalLow (t := 19) (by decide) h19), hS.pure (i := 0) hL (.inr (.inr ⟨rfl, rfl⟩)) (fun _ => rfl) (fun h => by cases h) (fun j h => by omega) (fun j h => by omega)⟩
  · exact ⟨_, _, w, rfl, rfl, rfl, ey_move (hF.evalLow (t := 7) (by decide) hin), hS.pure (i := 1) hL (.inl rfl) (fun h => by cases h) (fun _ => rfl) (fun j h => by omega) (fun j h => by omega)⟩
  · have q0 := hafter 0 ⟨0, .data⟩ rfl rfl
    have q1 := hafter 1 ⟨1, .data⟩ rfl rfl
    have e12 : L 12 = false := by
      rcases hb : L 12 with _ | _
      · rfl
      · rw [(hS.d12 hb).1] at hL; cases hL
    obtain ⟨A2, c2, w2, hrun, hO, hg⟩ := ey_append (dst := some 85) (pos := _) (after := _) (guard := none) ((hF.eval (j := 0) (by decide) rfl).trans (hS.m0 q0)) ((hF.eval (j := 1) (by decide) rfl).trans (hS.i1 q1)) (hS.o0 hL (.inl q0)) (hR.below hS.low) (by omega) hle
    have hbl := hS.low.grown hg hle (fun g e => ((hS.o0 hL (.inl q0)).lt g e).1)
    refine ⟨_, _, w2, rfl, rfl, rfl, hrun, ?_⟩
    refine ⟨hS.m0, hS.i1, fun j hj hl => ?_, fun j hj hl => ?_, fun h => ⟨rfl, (hS.d12 h).2⟩, fun _ => q0, fun h => (by cases h), fun _ _ => ⟨A2, c2, rfl, hO⟩, fun hl hl2 => ?_, fun hl => ?_, hbl, hS.hw⟩
    · rw [upd_other _ _ (by omega)] at hl ⊢; exact hS.px j hj hl
    · rw [upd_other _ _ (by omega)] at hl ⊢; exact hS.pv j hj hl
    · obtain ⟨g, g1, g2, g3⟩ := hS.f hl hl2
      exact ⟨g, g1, (hg.block g (Array.getElem?_eq_some_iff.1 g2).1 (fun e => g3 hL (.inl q0) e.symm)).trans g2, fun h => by cases h⟩
    · rw [show upd L 2 true 12 = L 12 from rfl, e12] at hl; cases hl
  · refine ⟨_, .pointer (some (ad 0)), w, rfl, rfl, rfl, ?_, hS.pure (i := 3) hL (.inr (.inl ⟨by decide, by decide⟩)) (fun h => by cases h) (fun h => by cases h) (odd_at (p := fun j => .pointer (some (ad j))) 0) (odd_no 0)⟩
    rw [ha0]
    exact ey_index (j := 0) rfl (hF.evalLow (t := 16) (by decide) h16) rfl (by decide)
  · have q1 := hafter 0 ⟨3, .data⟩ rfl rfl
    have hv := (hF.eval (j := 3) (by decide) rfl).trans (hS.px 0 (by decide) q1)
    have hcl := (hS.low.cell (hcell 0 (by decide)).2).trans (hcell 0 (by decide)).1
    simp only [ha0] at hv hcl
    exact ⟨_, _, w, rfl, rfl, rfl, ey_load hv hcl, hS.pure (i := 4) hL (.inr (.inl ⟨by decide, by decide⟩)) (fun h => by cases h) (fun h => by cases h) (even_no 0) (even_at (q := q) 0)⟩
  · refine ⟨_, .pointer (some (ad 1)), w, rfl, rfl, rfl, ?_, hS.pure (i := 5) hL (.inr (.inl ⟨by decide, by decide⟩)) (fun h => by cases h) (fun h => by cases h) (odd_at (p := fun j => .pointer (some (ad j))) 1) (odd_no 1)⟩
    rw [ha1]
    exact ey_index (j := 2) rfl (hF.evalLow (t := 15) (by decide) h15) rfl (by decide)
  · have q1 := hafter 0 ⟨5, .data⟩ rfl rfl
    have hv := (hF.eval (j := 5) (by decide) rfl).trans (hS.px 1 (by decide) q1)
    have hcl := (hS.low.cell (hcell 1 (by decide)).2).trans (hcell 1 (by decide)).1
    simp only [ha1] at hv hcl
    exact ⟨_, _, w, rfl, rfl, rfl, ey_load hv hcl, hS.pure (i := 6) hL (.inr (.inl ⟨by decide, by decide⟩)) (fun h => by cases h) (fun h => by cases h) (even_no 1) (even_at (q := q) 1)⟩
  · refine ⟨_, .pointer (some (ad 2)), w, rfl, rfl, rfl, ?_, hS.pure (i := 7) hL (.inr (.inl ⟨by decide, by decide⟩)) (fun h => by cases h) (fun h => by cases h) (odd_at (p := fun j => .pointer (some (ad j))) 2) (odd_no 2)⟩
    rw [ha2]
    exact ey_index (j := 0) rfl (hF.evalLow (t := 18) (by decide) h18) rfl (by decide)
  · have q1 := hafter 0 ⟨7, .data⟩ rfl rfl
    have hv := (hF.eval (j := 7) (by decide) rfl).trans (hS.px 2 (by decide) q1)
    have hcl := (hS.low.cell (hcell 2 (by decide)).2).trans (hcell 2 (by decide)).1
    simp only [ha2] at hv hcl
    exact ⟨_, _, w, rfl, rfl, rfl, ey_load hv hcl, hS.pure (i := 8) hL (.inr (.inl ⟨by decide, by decide⟩)) (fun h => by cases h) (fun h => by cases h) (even_no 2) (even_at (q := q) 2)⟩
  · refine ⟨_, .pointer (some (ad 3)), w, rfl, rfl, rfl, ?_, hS.pure (i := 9) hL (.inr (.inl ⟨by decide, by decide⟩)) (fun h => by cases h) (fun h => by cases h) (odd_at (p := fun j => .pointer (some (ad j))) 3) (odd_no 3)⟩
    rw [ha3]
    exact ey_index (j := 2) rfl (hF.evalLow (t := 17) (by decide) h17) rfl (by decide)
  · have q1 := hafter 0 ⟨9, .data⟩ rfl rfl
    have hv := (hF.eval (j := 9) (by decide) rfl).trans (hS.px 3 (by decide) q1)
    have hcl := (hS.low.cell (hcell 3 (by decide)).2).trans (hcell 3 (by decide)).1
    simp only [ha3] at hv hcl
    exact ⟨_, _, w, rfl, rfl, rfl, ey_load hv hcl, hS.pure (i := 10) hL (.inr (.inl ⟨by decide, by decide⟩)) (fun h => by cases h) (fun h => by cases h) (even_no 3) (even_at (q := q) 3)⟩
  · have q4 := hafter 0 ⟨4, .data⟩ rfl rfl
    have q6 := hafter 1 ⟨6, .data⟩ rfl rfl
    have q8 := hafter 2 ⟨8, .data⟩ rfl rfl
    have q10 := hafter 3 ⟨10, .data⟩ rfl rfl
    have e12 : L 12 = false := by
      rcases hb : L 12 with _ | _
      · rfl
      · rw [(hS.d12 hb).2] at hL; cases hL
    refine ⟨_, _, _, rfl, rfl, rfl, ey_four ((hF.eval (j := 4) (by decide) rfl).trans (hS.pv 0 (by decide) q4)) ((hF.eval (j := 6) (by decide) rfl).trans (hS.pv 1 (by decide) q6)) ((hF.eval (j := 8) (by decide) rfl).trans (hS.pv 2 (by decide) q8)) ((hF.eval (j := 10) (by decide) rfl).trans (hS.pv 3 (by decide) q10)), ?_⟩
    refine ⟨hS.m0, hS.i1, fun j hj hl => ?_, fun j hj hl => ?_, fun h => ⟨(hS.d12 h).1, rfl⟩, hS.d2, fun hl ho => (hS.o0 hl ho).alloc _, fun hl hl2 => ?_, fun _ _ => ⟨w.heap.size, rfl, World.alloc_heap_new w _, fun hl ho e => by have := ((hS.o0 hl ho).lt _ e).2; omega⟩, fun hl => ?_, hS.low.alloc (by omega) _, hS.hw⟩
    · rw [upd_other _ _ (by omega)] at hl ⊢; exact hS.px j hj hl
    · rw [upd_other _ _ (by omega)] at hl ⊢; exact hS.pv j hj hl
    · obtain ⟨A2, c2, g1, g2⟩ := hS.o2 hl hl2
      exact ⟨A2, c2, g1, g2.alloc _⟩
    · rw [show upd L 11 true 12 = L 12 from rfl, e12] at hl; cases hl
  · have q2 := hafter 0 ⟨2, .data⟩ rfl rfl
    have q11 := hafter 1 ⟨11, .data⟩ rfl rfl
    obtain ⟨A2, c2, g1, g2⟩ := hS.o2 q2 hL
    obtain ⟨g, f1, f2, _⟩ := hS.f q11 hL
    have hR4 : Rd .u8 w (g + 1) (some ⟨g, 0, none⟩) 4 [q 0, q 1, q 2, q 3] := by
      refine ⟨rfl, fun k hk => ⟨g, 0, rfl, Nat.lt_succ_self g, ?_⟩⟩
      simp only [World.cell?, f2, Nat.zero_add]
      have : k = 0 ∨ k = 1 ∨ k = 2 ∨ k = 3 := by omega
      rcases this with rfl | rfl | rfl | rfl <;> rfl
    obtain ⟨A3, c3, w3, hrun, hO, hg⟩ := ey_append (dst := some 95) (pos := _) (after := _) (guard := none) (hF.eval (j := 2) (by decide) rfl) ((hF.eval (j := 11) (by decide) rfl).trans f1) g2 hR4 (by omega) hle
    have hbl := hS.low.grown hg hle (fun b e => (g2.lt b e).1)
    refine ⟨_, _, w3, rfl, rfl, rfl, hrun, ?_⟩
    refine ⟨hS.m0, hS.i1, fun j hj hl => ?_, fun j hj hl => ?_, fun _ => ⟨q2, q11⟩, hS.d2, fun hl => ?_, fun _ h => (by cases h), fun _ h => (by cases h), fun _ => ⟨A3, c3, rfl, hO⟩, hbl, hS.hw⟩
    · rw [upd_other _ _ (by omega)] at hl ⊢; exact hS.px j hj hl
    · rw [upd_other _ _ (by omega)] at hl ⊢; exact hS.pv j hj hl
    · rw [show upd L 12 true 2 = L 2 from rfl, q2] at hl; cases hl
noncomputable def rgOps18 : Array Oper := ((Tryd.f12.body.bind (opsOfR 18)).getD #[])
theorem rgOps18_size : rgOps18.size = 15 := by kernel_rfl
theorem rgOps18_rd : readyB rgOps18 13 = true := by kernel_rfl
set_option maxHeartbeats 4000000 in
theorem rg18_step {H : Nat} {W8 : World} {OUT : Value} {n0 : Nat} {xs0 : List Int} {A : Option Addr} {n1 c : Nat} {ys : List Int} {ad : Nat → Addr} {q : Nat → Int} {a0 : Act} {X Z U Y : Nat} (h19 : a0.tmps.getD 19 undef = OUT) (hin : a0.tmps.getD 12 undef = .slice A n1 c) (h15 : a0.tmps.getD 15 undef = .pointer (some ⟨X, 0, none⟩)) (h16 : a0.tmps.getD 16 undef = .pointer (some ⟨Z, 0, none⟩)) (h17 : a0.tmps.getD 17 undef = .pointer (some ⟨U, 0, none⟩)) (h18 : a0.tmps.getD 18 undef = .pointer (some ⟨Y, 0, none⟩))
    (had : ad 0 = ⟨X, 1, none⟩ ∧ ad 1 = ⟨Z, 2, none⟩ ∧ ad 2 = ⟨U, 1, none⟩ ∧ ad 3 = ⟨Y, 2, none⟩)
    (hR : Rd .u8 W8 H A n1 ys) (hlim : n0 + n1 ≤ 900000) (hcell : ∀ j, j < 4 → W8.cell? (ad j) = some (.int .u8 (q j)) ∧ (ad j).block < H)
    (i : Nat) (L : Nat → Bool) (V : Nat → Value) (a : Act) (w : World) (hi : i < 13) (hS : RgS H W8 (some OUT) n0 xs0 (.slice A n1 c) n1 ys (fun j => .pointer (some (ad j))) q L V w) (hL : L i = false) (hF : FrameAt 96 a0 a V 13)
    (hafter : ∀ (t : Nat) (e : Edge), ((rgOps18[i]?).bind fun o => o.after[t]?) = some e → Region.binds .any e = true → L e.on = true) :
    ∃ o v w', rgOps18[i]? = some o ∧ o.guard = none ∧ o.dst = some (96 + i) ∧ (execOp a.eval o).run Tryd.prog w = .ok (.value v) w' ∧ RgS H W8 (some OUT) n0 xs0 (.slice A n1 c) n1 ys (fun j => .pointer (some (ad j))) q (upd L i true) (upd V i v) w' := by
  obtain ⟨ha0, ha1, ha2, ha3⟩ := had
  have hle : H ≤ w.heap.size := Nat.le_trans hS.hw hS.low.size
  have hc := lt13 hi
  rcases hc with rfl | rfl | rfl | rfl | rfl | rfl | rfl | rfl | rfl | rfl | rfl | rfl | rfl
  · exact ⟨_, _, w, rfl, rfl, rfl, ey_move (hF.evalLow (t := 19) (by decide) h19), hS.pure (i := 0) hL (.inr (.inr ⟨rfl, rfl⟩)) (fun _ => rfl) (fun h => by cases h) (fun j h => by omega) (fun j h => by omega)⟩
  · exact ⟨_, _, w, rfl, rfl, rfl, ey_move (hF.evalLow (t := 12) (by decide) hin), hS.pure (i := 1) hL (.inl rfl) (fun h => by cases h) (fun _ => rfl) (fun j h => by omega) (fun j h => by omega)⟩
  · have q0 := hafter 0 ⟨0, .data⟩ rfl rfl
    have q1 := hafter 1 ⟨1, .data⟩ rfl rfl
    have e12 : L 12 = false := by
      rcases hb : L 12 with _ | _
      · rfl
      · rw [(hS.d12 hb).1] at hL; cases hL
    obtain ⟨A2, c2, w2, hrun, hO, hg⟩ := ey_append (dst := some 98) (pos := _) (after := _) (guard := none) ((hF.eval (j := 0) (by decide) rfl).trans (hS.m0 q0)) ((hF.eval (j := 1) (by decide) rfl).trans (hS.i1 q1)) (hS.o0 hL (.inl q0)) (hR.below hS.low) (by omega) hle
    have hbl := hS.low.grown hg hle (fun g e => ((hS.o0 hL (.inl q0)).lt g e).1)
    refine ⟨_, _, w2, rfl, rfl, rfl, hrun, ?_⟩
    refine ⟨hS.m0, hS.i1, fun j hj hl => ?_, fun j hj hl => ?_, fun h => ⟨rfl, (hS.d12 h).2⟩, fun _ => q0, fun h => (by cases h), fun _ _ => ⟨A2, c2, rfl, hO⟩, fun hl hl2 => ?_, fun hl => ?_, hbl, hS.hw⟩
    · rw [upd_other _ _ (by omega)] at hl ⊢; exact hS.px j hj hl
    · rw [upd_other _ _ (by omega)] at hl ⊢; exact hS.pv j hj hl
    · obtain ⟨g, g1, g2, g3⟩ := hS.f hl hl2
      exact ⟨g, g1, (hg.block g (Array.getElem?_eq_some_iff.1 g2).1 (fun e => g3 hL (.inl q0) e.symm)).trans g2, fun h => by cases h⟩
    · rw [show upd L 2 true 12 = L 12 from rfl, e12] at hl; cases hl
  · refine ⟨_, .pointer (some (ad 0)), w, rfl, rfl, rfl, ?_, hS.pure (i := 3) hL (.inr (.inl ⟨by decide, by decide⟩)) (fun h => by cases h) (fun h => by cases h) (odd_at (p := fun j => .pointer (some (ad j))) 0) (odd_no 0)⟩
    rw [ha0]
    exact ey_index (j := 1) rfl (hF.evalLow (t := 15) (by decide) h15) rfl (by decide)
  · have q1 := hafter 0 ⟨3, .data⟩ rfl rfl
    have hv := (hF.eval (j := 3) (by decide) rfl).trans (hS.px 0 (by decide) q1)
    have hcl := (hS.low.cell (hcell 0 (by decide)).2).trans (hcell 0 (by decide)).1
    simp only [ha0] at hv hcl
    exact ⟨_, _, w, rfl, rfl, rfl, ey_load hv hcl, hS.pure (i := 4) hL (.inr (.inl ⟨by decide, by decide⟩)) (fun h => by cases h) (fun h => by cases h) (even_no 0) (even_at (q := q) 0)⟩
  · refine ⟨_, .pointer (some (ad 1)), w, rfl, rfl, rfl, ?_, hS.pure (i := 5) hL (.inr (.inl ⟨by decide, by decide⟩)) (fun h => by cases h) (fun h => by cases h) (odd_at (p := fun j => .pointer (some (ad j))) 1) (odd_no 1)⟩
    rw [ha1]
    exact ey_index (j := 2) rfl (hF.evalLow (t := 16) (by decide) h16) rfl (by decide)
  · have q1 := hafter 0 ⟨5, .data⟩ rfl rfl
    have hv := (hF.eval (j := 5) (by decide) rfl).trans (hS.px 1 (by decide) q1)
    have hcl := (hS.low.cell (hcell 1 (by decide)).2).trans (hcell 1 (by decide)).1
    simp only [ha1] at hv hcl
    exact ⟨_, _, w, rfl, rfl, rfl, ey_load hv hcl, hS.pure (i := 6) hL (.inr (.inl ⟨by decide, by decide⟩)) (fun h => by cases h) (fun h => by cases h) (even_no 1) (even_at (q := q) 1)⟩
  · refine ⟨_, .pointer (some (ad 2)), w, rfl, rfl, rfl, ?_, hS.pure (i := 7) hL (.inr (.inl ⟨by decide, by decide⟩)) (fun h => by cases h) (fun h => by cases h) (odd_at (p := fun j => .pointer (some (ad j))) 2) (odd_no 2)⟩
    rw [ha2]
    exact ey_index (j := 1) rfl (hF.evalLow (t := 17) (by decide) h17) rfl (by decide)
  · have q1 := hafter 0 ⟨7, .data⟩ rfl rfl
    have hv := (hF.eval (j := 7) (by decide) rfl).trans (hS.px 2 (by decide) q1)
    have hcl := (hS.low.cell (hcell 2 (by decide)).2).trans (hcell 2 (by decide)).1
    simp only [ha2] at hv hcl
    exact ⟨_, _, w, rfl, rfl, rfl, ey_load hv hcl, hS.pure (i := 8) hL (.inr (.inl ⟨by decide, by decide⟩)) (fun h => by cases h) (fun h => by cases h) (even_no 2) (even_at (q := q) 2)⟩
  · refine ⟨_, .pointer (some (ad 3)), w, rfl, rfl, rfl, ?_, hS.pure (i := 9) hL (.inr (.inl ⟨by decide, by decide⟩)) (fun h => by cases h) (fun h => by cases h) (odd_at (p := fun j => .pointer (some (ad j))) 3) (odd_no 3)⟩
    rw [ha3]
    exact ey_index (j := 2) rfl (hF.evalLow (t := 18) (by decide) h18) rfl (by decide)
  · have q1 := hafter 0 ⟨9, .data⟩ rfl rfl
    have hv := (hF.eval (j := 9) (by decide) rfl).trans (hS.px 3 (by decide) q1)
    have hcl := (hS.low.cell (hcell 3 (by decide)).2).trans (hcell 3 (by decide)).1
    simp only [ha3] at hv hcl
    exact ⟨_, _, w, rfl, rfl, rfl, ey_load hv hcl, hS.pure (i := 10) hL (.inr (.inl ⟨by decide, by decide⟩)) (fun h => by cases h) (fun h => by cases h) (even_no 3) (even_at (q := q) 3)⟩
  · have q4 := hafter 0 ⟨4, .data⟩ rfl rfl
    have q6 := hafter 1 ⟨6, .data⟩ rfl rfl
    have q8 := hafter 2 ⟨8, .data⟩ rfl rfl
    have q10 := hafter 3 ⟨10, .data⟩ rfl rfl
    have e12 : L 12 = false := by
      rcases hb : L 12 with _ | _
      · rfl
      · rw [(hS.d12 hb).2] at hL; cases hL
    refine ⟨_, _, _, rfl, rfl, rfl, ey_four ((hF.eval (j := 4) (by decide) rfl).trans (hS.pv 0 (by decide) q4)) ((hF.eval (j := 6) (by decide) rfl).trans (hS.pv 1 (by decide) q6)) ((hF.eval (j := 8) (by decide) rfl).trans (hS.pv 2 (by decide) q8)) ((hF.eval (j := 10) (by decide) rfl).trans (hS.pv 3 (by decide) q10)), ?_⟩
    refine ⟨hS.m0, hS.i1, fun j hj hl => ?_, fun j hj hl => ?_, fun h => ⟨(hS.d12 h).1, rfl⟩, hS.d2, fun hl ho => (hS.o0 hl ho).alloc _, fun hl hl2 => ?_, fun _ _ => ⟨w.heap.size, rfl, World.alloc_heap_new w _, fun hl ho e => by have := ((hS.o0 hl ho).lt _ e).2; omega⟩, fun hl => ?_, hS.low.alloc (by omega) _, hS.hw⟩
    · rw [upd_other _ _ (by omega)] at hl ⊢; exact hS.px j hj hl
    · rw [upd_other _ _ (by omega)] at hl ⊢; exact hS.pv j hj hl
    · obtain ⟨A2, c2, g1, g2⟩ := hS.o2 hl hl2
      exact ⟨A2, c2, g1, g2.alloc _⟩
    · rw [show upd L 11 true 12 = L 12 from rfl, e12] at hl; cases hl
  · have q2 := hafter 0 ⟨2, .data⟩ rfl rfl
    have q11 := hafter 1 ⟨11, .data⟩ rfl rfl
    obtain ⟨A2, c2, g1, g2⟩ := hS.o2 q2 hL
    obtain ⟨g, f1, f2, _⟩ := hS.f q11 hL
    have hR4 : Rd .u8 w (g + 1) (some ⟨g, 0, none⟩) 4 [q 0, q 1, q 2, q 3] := by
      refine ⟨rfl, fun k hk => ⟨g, 0, rfl, Nat.lt_succ_self g, ?_⟩⟩
      simp only [World.cell?, f2, Nat.zero_add]
      have : k = 0 ∨ k = 1 ∨ k = 2 ∨ k = 3 := by omega
      rcases this with rfl | rfl | rfl | rfl <;> rfl
    obtain ⟨A3, c3, w3, hrun, hO, hg⟩ := ey_append (dst := some 108) (pos := _) (after := _) (guard := none) (hF.eval (j := 2) (by decide) rfl) ((hF.eval (j := 11) (by decide) rfl).trans f1) g2 hR4 (by omega) hle
    have hbl := hS.low.grown hg hle (fun b e => (g2.lt b e).1)
    refine ⟨_, _, w3, rfl, rfl, rfl, hrun, ?_⟩
    refine ⟨hS.m0, hS.i1, fun j hj hl => ?_, fun j hj hl => ?_, fun _ => ⟨q2, q11⟩, hS.d2, fun hl => ?_, fun _ h => (by cases h), fun _ h => (by cases h), fun _ => ⟨A3, c3, rfl, hO⟩, hbl, hS.hw⟩
    · rw [upd_other _ _ (by omega)] at hl ⊢; exact hS.px j hj hl
    · rw [upd_other _ _ (by omega)] at hl ⊢; exact hS.pv j hj hl
    · rw [show upd L 12 true 2 = L 2 from rfl, q2] at hl; cases hl
theorem wpOp_valueD {P : Program} {ops : Array Oper} {Q : Exit → Act → World → Prop} {i t : Nat} {o : Oper} {a : Act} {w w' : World} {v : Value} {K : Act → World → Prop} (ho : ops[i]? = some o) (hg : o.guard = none) (hd : o.dst = some t) (hrun : (execOp a.eval o).run P w = .ok (.value v) w') (hK : K (a.put (some t) v) w') : wpOp P ops Q i K a w := wpOp_value ho hg hrun (by rw [hd]; exact hK)
theorem wpAny_two {P : Program} {ops : Array Oper} {Q : Exit → Act → World → Prop} {N M : Nat} {listed : Array Bool} {a : Act} {w : World} (hr : Region.ready .any ops listed = [N]) (hr2 : Region.ready .any ops (listed.setIfInBounds N true) = [M]) (hd : Region.ready .any ops ((listed.setIfInBounds N true).setIfInBounds M true) = [])
    (h : wpOp P ops Q N (wpOp P ops Q M (fun a w => Q .normal a w)) a w) : wpAny P .any ops Q 2 listed a w := by
  refine ⟨fun hn => (by rw [hr] at hn; cases hn), fun i hm => ?_⟩
  rw [hr, List.mem_singleton] at hm
  subst hm
  exact wpOp_mono (fun a w h => wpAny_one hr2 hd h) h
theorem rgOps16_last13 : ((rgOps16[13]?).map fun o => (List.range 13).all fun j => o.after.any fun e => Region.binds .any e && (e.on == j)) = some true := by kernel_rfl
set_option maxHeartbeats 2000000 in
theorem rg16_wp {H : Nat} {W8 : World} {A : Option Addr} {n1 c : Nat} {ys : List Int} {ad : Nat → Addr} {q : Nat → Int} {a0 : Act} {X Z U Y id : Nat} {Q : Exit → Act → World → Prop} (hin : a0.tmps.getD 0 undef = .slice A n1 c) (h15 : a0.tmps.getD 15 undef = .pointer (some ⟨X, 0, none⟩)) (h16 : a0.tmps.getD 16 undef = .pointer (some ⟨Z, 0, none⟩)) (h17 : a0.tmps.getD 17 undef = .pointer (some ⟨U, 0, none⟩)) (h18 : a0.tmps.getD 18 undef = .pointer (some ⟨Y, 0, none⟩))
    (had : ad 0 = ⟨X, 0, none⟩ ∧ ad 1 = ⟨Z, 1, none⟩ ∧ ad 2 = ⟨U, 0, none⟩ ∧ ad 3 = ⟨Y, 1, none⟩)
    (hR : Rd .u8 W8 H A n1 ys) (hlim : 0 + n1 ≤ 900000) (hcell : ∀ j, j < 4 → W8.cell? (ad j) = some (.int .u8 (q j)) ∧ (ad j).block < H) (hH : H ≤ W8.heap.size) (hsz : a0.tmps.size = 109)
    (hq : ∀ (a : Act) (w' : World) (A2 : Option Addr) (c2 : Nat), (∀ t, t < 70 → t ≠ 19 → a.tmps.getD t undef = a0.tmps.getD t undef) → a.tmps.size = a0.tmps.size → a.defers = a0.defers → a.tmps.getD 19 undef = .slice A2 (0 + n1 + 4) c2 → w'.ownsRow H 5 1 (.slice A2 (0 + n1 + 4) c2) (0 + n1 + 4) (([] ++ ys ++ [q 0, q 1, q 2, q 3]).map (Value.int .u8)) → Below H W8 w' → Q .normal a w') : (Code.region id rgOps16 true).wp Tryd.prog Q a0 W8 := by
  refine wp_region_any (by kernel_rfl) ?_
  change wpAny _ _ _ _ _ _ a0 W8.drew
  refine wpAny_steps (N := 13) (base := 70) (by rw [rgOps16_size]; decide) rgOps16_rd (by rw [hsz]; decide) ?rest (RgS H W8 none 0 [] (.slice A n1 c) n1 ys (fun j => .pointer (some (ad j))) q) ?step ?last (fun j => a0.tmps.getD (70 + j) undef) ?h0 (fun _ _ => rfl)
  case rest =>
    intro i o hi ho j hj
    have hi2 := (Array.getElem?_eq_some_iff.1 ho).1
    rw [rgOps16_size] at hi2
    obtain rfl : i = 13 := by omega
    have hl := rgOps16_last13
    rw [ho] at hl
    simp only [Option.map_some, Option.some.injEq, List.all_eq_true, List.mem_range, Array.any_eq_true, Bool.and_eq_true, beq_iff_eq] at hl
    obtain ⟨t, ht, h1, h2⟩ := hl j hj
    exact ⟨_, Array.getElem_mem ht, h1, h2⟩
  case h0 => exact ⟨fun h => (by cases h), fun h => (by cases h), fun j _ h => (by cases h), fun j _ h => (by cases h), fun h => (by cases h), fun h => (by cases h), fun _ h => (by rcases h with h | h <;> cases h), fun h => (by cases h), fun h => (by cases h), fun h => (by cases h), (Below.refl _ _).drew, hH⟩
  case step =>
    intro i L V a w hi hS hL hF hafter
    exact rg16_step hin h15 h16 h17 h18 had hR hlim hcell i L V a w hi hS hL hF (fun t e h hb => by
      obtain ⟨o, ho, he⟩ := Option.bind_eq_some_iff.1 h
      exact hafter o ho e (Array.mem_of_getElem? he) hb)
  case last =>
    intro L V a w hL hS hF
    obtain ⟨A2, c2, hv, hO2⟩ := hS.o12 (hL 12 (by decide))
    rw [hv] at hO2
    have hev := (hF.eval (j := 12) (by decide) rfl).trans hv
    rw [show rgOps16.size - 13 = 1 by rw [rgOps16_size]]
    refine wpAny_one (N := 13) (by kernel_rfl) (by kernel_rfl) ?_
    refine wpOp_valueD (t := 19) rfl rfl rfl (ey_assign hev) ?_
    have hs19 : 19 < a.tmps.size := by rw [hF.sz, hsz]; decide
    refine hq _ w A2 c2 (fun t ht hne => ?_) ?_ hF.defers ?_ hO2 hS.low
    · simp only [Act.put, Array.getD_eq_getD_getElem?, Array.getElem?_setIfInBounds]
      rw [if_neg (Ne.symm hne), ← Array.getD_eq_getD_getElem?, hF.low t ht, Array.getD_eq_getD_getElem?]
    · simp [Act.put, hF.sz]
    · simp only [Act.put, Array.getD_eq_getD_getElem?, Array.getElem?_setIfInBounds, if_true]
      rw [if_pos hs19]
      rfl
theorem rgOps17_last13 : ((rgOps17[13]?).map fun o => (List.range 13).all fun j => o.after.any fun e => Region.binds .any e && (e.on == j)) = some true := by kernel_rfl
set_option maxHeartbeats 2000000 in
theorem rg17_wp {H : Nat} {W8 : World} {OUT : Value} {n0 : Nat} {xs0 : List Int} {A : Option Addr} {n1 c : Nat} {ys : List Int} {ad : Nat → Addr} {q : Nat → Int} {a0 : Act} {X Z U Y id : Nat} {Q : Exit → Act → World → Prop} (h19 : a0.tmps.getD 19 undef = OUT) (hO : W8.ownsRow H 5 1 OUT n0 (xs0.map (Value.int .u8))) (hin : a0.tmps.getD 7 undef = .slice A n1 c) (h15 : a0.tmps.getD 15 undef = .pointer (some ⟨X, 0, none⟩)) (h16 : a0.tmps.getD 16 undef = .pointer (some ⟨Z, 0, none⟩)) (h17 : a0.tmps.getD 17 undef = .pointer (some ⟨U, 0, none⟩)) (h18 : a0.tmps.getD 18 undef = .pointer (some ⟨Y, 0, none⟩))
    (had : ad 0 = ⟨Z, 0, none⟩ ∧ ad 1 = ⟨X, 2, none⟩ ∧ ad 2 = ⟨Y, 0, none⟩ ∧ ad 3 = ⟨U, 2, none⟩)
    (hR : Rd .u8 W8 H A n1 ys) (hlim : n0 + n1 ≤ 900000) (hcell : ∀ j, j < 4 → W8.cell? (ad j) = some (.int .u8 (q j)) ∧ (ad j).block < H) (hH : H ≤ W8.heap.size) (hsz : a0.tmps.size = 109)
    (hq : ∀ (a : Act) (w' : World) (A2 : Option Addr) (c2 : Nat), (∀ t, t < 83 → t ≠ 19 → a.tmps.getD t undef = a0.tmps.getD t undef) → a.tmps.size = a0.tmps.size → a.defers = a0.defers → a.tmps.getD 19 undef = .slice A2 (n0 + n1 + 4) c2 → w'.ownsRow H 5 1 (.slice A2 (n0 + n1 + 4) c2) (n0 + n1 + 4) ((xs0 ++ ys ++ [q 0, q 1, q 2, q 3]).map (Value.int .u8)) → Below H W8 w' → Q .normal a w') : (Code.region id rgOps17 true).wp Tryd.prog Q a0 W8 := by
  refine wp_region_any (by kernel_rfl) ?_
  change wpAny _ _ _ _ _ _ a0 W8.drew
  refine wpAny_steps (N := 13) (base := 83) (by rw [rgOps17_size]; decide) rgOps17_rd (by rw [hsz]; decide) ?rest (RgS H W8 (some OUT) n0 xs0 (.slice A n1 c) n1 ys (fun j => .pointer (some (ad j))) q) ?step ?last (fun j => a0.tmps.getD (83 + j) undef) ?h0 (fun _ _ => rfl)
  case rest =>
    intro i o hi ho j hj
    have hi2 := (Array.getElem?_eq_some_iff.1 ho).1
    rw [rgOps17_size] at hi2
    obtain rfl : i = 13 := by omega
    have hl := rgOps17_last13
    rw [ho] at hl
    simp only [Option.map_some, Option.some.injEq, List.all_eq_true, List.mem_range, Array.any_eq_true, Bool.and_eq_true, beq_iff_eq] at hl
    obtain ⟨t, ht, h1, h2⟩ := hl j hj
    exact ⟨_, Array.getElem_mem ht, h1, h2⟩
  case h0 => exact ⟨fun h => (by cases h), fun h => (by cases h), fun j _ h => (by cases h), fun j _ h => (by cases h), fun h => (by cases h), fun h => (by cases h), fun _ _ => hO, fun h => (by cases h), fun h => (by cases h), fun h => (by cases h), (Below.refl _ _).drew, hH⟩
  case step =>
    intro i L V a w hi hS hL hF hafter
    exact rg17_step h19 hin h15 h16 h17 h18 had hR hlim hcell i L V a w hi hS hL hF (fun t e h hb => by
      obtain ⟨o, ho, he⟩ := Option.bind_eq_some_iff.1 h
      exact hafter o ho e (Array.mem_of_getElem? he) hb)
  case last =>
    intro L V a w hL hS hF
    obtain ⟨A2, c2, hv, hO2⟩ := hS.o12 (hL 12 (by decide))
    rw [hv] at hO2
    have hev := (hF.eval (j := 12) (by decide) rfl).trans hv
    rw [show rgOps17.size - 13 = 1 by rw [rgOps17_size]]
    refine wpAny_one (N := 13) (by kernel_rfl) (by kernel_rfl) ?_
    refine wpOp_valueD (t := 19) rfl rfl rfl (ey_assign hev) ?_
    have hs19 : 19 < a.tmps.size := by rw [hF.sz, hsz]; decide
    refine hq _ w A2 c2 (fun t ht hne => ?_) ?_ hF.defers ?_ hO2 hS.low
    · simp only [Act.put, Array.getD_eq_getD_getElem?, Array.getElem?_setIfInBounds]
      rw [if_neg (Ne.symm hne), ← Array.getD_eq_getD_getElem?, hF.low t ht, Array.getD_eq_getD_getElem?]
    · simp [Act.put, hF.sz]
    · simp only [Act.put, Array.getD_eq_getD_getElem?, Array.getElem?_setIfInBounds, if_true]
      rw [if_pos hs19]
      rfl
theorem rgOps18_last13 : ((rgOps18[13]?).map fun o => (List.range 13).all fun j => o.after.any fun e => Region.binds .any e && (e.on == j)) = some true := by kernel_rfl
theorem rgOps18_last14 : ((rgOps18[14]?).map fun o => (List.range 13).all fun j => o.after.any fun e => Region.binds .any e && (e.on == j)) = some true := by kernel_rfl
set_option maxHeartbeats 2000000 in
theorem rg18_wp {H : Nat} {W8 : World} {OUT : Value} {n0 : Nat} {xs0 : List Int} {A : Option Addr} {n1 c : Nat} {ys : List Int} {ad : Nat → Addr} {q : Nat → Int} {a0 : Act} {X Z U Y id : Nat} {Q : Exit → Act → World → Prop} (h19 : a0.tmps.getD 19 undef = OUT) (hO : W8.ownsRow H 5 1 OUT n0 (xs0.map (Value.int .u8))) (hin : a0.tmps.getD 12 undef = .slice A n1 c) (h15 : a0.tmps.getD 15 undef = .pointer (some ⟨X, 0, none⟩)) (h16 : a0.tmps.getD 16 undef = .pointer (some ⟨Z, 0, none⟩)) (h17 : a0.tmps.getD 17 undef = .pointer (some ⟨U, 0, none⟩)) (h18 : a0.tmps.getD 18 undef = .pointer (some ⟨Y, 0, none⟩))
    (had : ad 0 = ⟨X, 1, none⟩ ∧ ad 1 = ⟨Z, 2, none⟩ ∧ ad 2 = ⟨U, 1, none⟩ ∧ ad 3 = ⟨Y, 2, none⟩)
    (hR : Rd .u8 W8 H A n1 ys) (hlim : n0 + n1 ≤ 900000) (hcell : ∀ j, j < 4 → W8.cell? (ad j) = some (.int .u8 (q j)) ∧ (ad j).block < H) (hH : H ≤ W8.heap.size) (hsz : a0.tmps.size = 109)
    (hq : ∀ (a : Act) (w' : World) (A2 : Option Addr) (c2 : Nat), (∀ t, t < 96 → t ≠ 2 → t ≠ 3 → a.tmps.getD t undef = a0.tmps.getD t undef) → a.tmps.size = a0.tmps.size → a.defers = a0.defers → a.tmps.getD 2 undef = .slice A2 (n0 + n1 + 4) c2 → a.tmps.getD 3 undef = .int .i64 0 → w'.ownsRow H 5 1 (.slice A2 (n0 + n1 + 4) c2) (n0 + n1 + 4) ((xs0 ++ ys ++ [q 0, q 1, q 2, q 3]).map (Value.int .u8)) → Below H W8 w' → Q .normal a w') : (Code.region id rgOps18 true).wp Tryd.prog Q a0 W8 := by
  refine wp_region_any (by kernel_rfl) ?_
  change wpAny _ _ _ _ _ _ a0 W8.drew
  refine wpAny_steps (N := 13) (base := 96) (by rw [rgOps18_size]; decide) rgOps18_rd (by rw [hsz]; decide) ?rest (RgS H W8 (some OUT) n0 xs0 (.slice A n1 c) n1 ys (fun j => .pointer (some (ad j))) q) ?step ?last (fun j => a0.tmps.getD (96 + j) undef) ?h0 (fun _ _ => rfl)
  case rest =>
    intro i o hi ho j hj
    have hi2 := (Array.getElem?_eq_some_iff.1 ho).1
    rw [rgOps18_size] at hi2
    obtain rfl | rfl : i = 13 ∨ i = 14 := by omega
    · have hl := rgOps18_last13
      rw [ho] at hl
      simp only [Option.map_some, Option.some.injEq, List.all_eq_true, List.mem_range, Array.any_eq_true, Bool.and_eq_true, beq_iff_eq] at hl
      obtain ⟨t, ht, h1, h2⟩ := hl j hj
      exact ⟨_, Array.getElem_mem ht, h1, h2⟩
    · have hl := rgOps18_last14
      rw [ho] at hl
      simp only [Option.map_some, Option.some.injEq, List.all_eq_true, List.mem_range, Array.any_eq_true, Bool.and_eq_true, beq_iff_eq] at hl
      obtain ⟨t, ht, h1, h2⟩ := hl j hj
      exact ⟨_, Array.getElem_mem ht, h1, h2⟩
  case h0 => exact ⟨fun h => (by cases h), fun h => (by cases h), fun j _ h => (by cases h), fun j _ h => (by cases h), fun h => (by cases h), fun h => (by cases h), fun _ _ => hO, fun h => (by cases h), fun h => (by cases h), fun h => (by cases h), (Below.refl _ _).drew, hH⟩
  case step =>
    intro i L V a w hi hS hL hF hafter
    exact rg18_step h19 hin h15 h16 h17 h18 had hR hlim hcell i L V a w hi hS hL hF (fun t e h hb => by
      obtain ⟨o, ho, he⟩ := Option.bind_eq_some_iff.1 h
      exact hafter o ho e (Array.mem_of_getElem? he) hb)
  case last =>
    intro L V a w hL hS hF
    obtain ⟨A2, c2, hv, hO2⟩ := hS.o12 (hL 12 (by decide))
    rw [hv] at hO2
    have hev := (hF.eval (j := 12) (by decide) rfl).trans hv
    rw [show rgOps18.size - 13 = 2 by rw [rgOps18_size]]
    refine wpAny_two (N := 13) (M := 14) (by kernel_rfl) (by kernel_rfl) (by kernel_rfl) ?_
    refine wpOp_valueD (t := 2) rfl rfl rfl (ey_assign hev) ?_
    refine wpOp_valueD (t := 3) rfl rfl rfl (ey_assign (v := .int .i64 0) rfl) ?_
    have hs2 : 2 < a.tmps.size := by rw [hF.sz, hsz]; decide
    have hs3 : 3 < a.tmps.size := by rw [hF.sz, hsz]; decide
    refine hq _ w A2 c2 (fun t ht hne hne3 => ?_) ?_ hF.defers ?_ ?_ hO2 hS.low
    · simp only [Act.put, Array.getD_eq_getD_getElem?, Array.getElem?_setIfInBounds]
      rw [if_neg (Ne.symm hne3), if_neg (Ne.symm hne), ← Array.getD_eq_getD_getElem?, hF.low t ht, Array.getD_eq_getD_getElem?]
    · simp [Act.put, hF.sz]
    · simp only [Act.put, Array.getD_eq_getD_getElem?, Array.getElem?_setIfInBounds, Array.size_setIfInBounds]
      rw [if_neg (by decide), if_pos trivial, if_pos hs2]
      rfl
    · simp only [Act.put, Array.getD_eq_getD_getElem?, Array.getElem?_setIfInBounds, Array.size_setIfInBounds]
      rw [if_pos trivial, if_pos hs3]
      rfl
end

/-! ### The reference's Encode, where it answers a word. -/
section
set_option maxRecDepth 100000
open Go.RowKit

theorem refEnc_results {W : World} {tmps : Array Value} {x y : Value} (h2 : tmps.getD 2 undef = x) (h3 : tmps.getD 3 undef = y) :
    (results Tryd.f12 tmps).run Tryd.prog W = .ok (.tuple #[x, y]) W := by
  simp only [Array.getD_eq_getD_getElem?] at h2 h3
  simp [results, Tryd.results12, go_sem, h2, h3]
/-- One of four. -/
def pick4 {α : Type} (a b c d : α) (j : Nat) : α := if j = 0 then a else if j = 1 then b else if j = 2 then c else d
theorem lt4 {j : Nat} (h : j < 4) : j = 0 ∨ j = 1 ∨ j = 2 ∨ j = 3 := by omega
set_option maxHeartbeats 4000000 in
theorem refEnc_ok {A : Option Addr} {n c : Nat} {xs : List Int} {w : World} (hI : Rd .u8 w w.heap.size A n xs) (hx : Bits xs) (hs : IsSize n) :
    Calls Tryd.prog 12 #[.slice A n c] w (RetBytes 5 w (tbI xs, 0)) := by
  have hO := Lib.hid (refOrder_any (k := (n : Int)) (w := w))
  rw [orderS_size hs] at hO
  have hol := ordI_length n n
  have hk := size_le hs
  have hb := hx.byte
  have hv := valid_of_bits hx
  have hln := hI.len
  have hxi := inter_bits hx
  have hvi := valid_of_bits hxi
  have hbi := hxi.byte
  have hil : (interI xs).length = n := by rw [inter_length, hln]
  have HE := Lib.hid (fun (u : World) (h : Rd .u8 u u.heap.size A n xs) => refEncode_any (c := c) h hb (by omega))
  have HE2 := Lib.hid (fun (u : World) (A : Option Addr) (c : Nat) (h : Rd .u8 u u.heap.size A n (interI xs)) => refEncode_any (c := c) h hbi (by omega))
  rw [show encR xs = paL xs n by unfold encR; rw [if_pos hv, hln], show encN xs = stK xs n by unfold encN; rw [if_pos hv, hln], show encE xs = 0 by unfold encE; rw [if_pos hv]] at HE
  rw [show encR (interI xs) = paL (interI xs) n by unfold encR; rw [if_pos hvi, hil], show encN (interI xs) = stK (interI xs) n by unfold encN; rw [if_pos hvi, hil], show encE (interI xs) = 0 by unfold encE; rw [if_pos hvi]] at HE2
  have hs8 := stK_lt hb n
  have ht8 := stK_lt hbi n
  have hT1 := Lib.hid (fun (u : World) => refTail_any (w := u) hs8)
  have hT2 := Lib.hid (fun (u : World) => refTail_any (w := u) ht8)
  have hform := tbI_form hx
  rw [hln] at hform
  unfold end0 end1 end2 at hform
  rw [(tail_split _ hs8).1, (tail_split _ hs8).2, b3_eq, b3_eq] at hT1
  rw [(tail_split _ ht8).1, (tail_split _ ht8).2, b3_eq, b3_eq] at hT2
  have HTL := Lib.hid (tbI_length xs)
  rw [hln] at HTL
  have hp1 := Lib.hid (paL_length xs n)
  have hp2 := Lib.hid (paL_length (interI xs) n)
  have hfull := fillL_full (fun i => xs[piK n i]?.getD 0) n
  have hin : interI xs = (List.range n).map (fun i => xs[piK n i]?.getD 0) := by unfold interI; rw [hln]
  rw [← hin] at hfull
  have HPI := Lib.hid (fun i => piK_lt hs i)
  have HX := Lib.hid hx
  have HFU := Lib.hid hfull
  have HI := Lib.hid hI
  have HFO := Lib.hid hform
  have hmk := make_bytes n n (Nat.le_refl _) (by omega)
  clear hb hv hxi hvi hbi hil hI hx hform hin hfull hs
  generalize stK xs n = s at *
  generalize stK (interI xs) n = t at *
  generalize paL xs n = ps at *
  generalize paL (interI xs) n = qs at *
  generalize tbI xs = W at *
  go_enter Tryd.func12, Tryd.ntmps12
  go_wp2_with fail
  refine hO.out.mono ?_
  rintro e w1 ⟨A1, c1, rfl, hO1, hb1⟩
  simp only [hol] at hO1 ⊢
  have HR1 := Rd.of_own hO1
  have HI1 := HI.out.step hb1
  clear hO hO1
  go_wp2_with fail
  refine (HE.out _ HI1).mono ?_
  rintro e w2 ⟨A2, c2, rfl, hO2, hb2⟩
  rw [hp1.out] at hO2 ⊢
  have HP2 := Rd.of_own hO2
  have HR2 := HR1.step hb2
  have HI2 := HI1.step hb2
  have hb02 := hb1.trans (hb2.mono hb1.size)
  clear HE hO2 HR1 HI1 hb1 hb2
  have HZ : Hid ((w2.alloc (.cells (madeCells #[.int .u8 0] n) 5)).ownsRow w2.heap.size 5 1 (.slice (some ⟨w2.heap.size, 0, none⟩) n n) n ((fillL (fun i => xs[piK n i]?.getD 0) n 0).map (Value.int .u8)) ∧ Below w2.heap.size w2 (w2.alloc (.cells (madeCells #[.int .u8 0] n) 5))) := Lib.hid ⟨by
    rw [fillL_zero]; exact own_zeros (Nat.le_refl _) (by omega) (Nat.le_refl _), (Below.refl _ w2).alloc (Nat.le_refl _) _⟩
  have h02 := Lib.hid hb02
  have hP2 := Lib.hid HP2
  have hR2 := Lib.hid HR2
  have hI2 := Lib.hid HI2
  clear HP2 HR2 HI2 hb02 HI
  go_wp2_with fail
  generalize w2.alloc (.cells (madeCells #[.int .u8 0] n) 5) = W0 at *
  go_loopw [11] (fun i W' => ∃ j : Nat, j ≤ n ∧ i = .int .i64 (j : Int) ∧ Hid (W'.ownsRow w2.heap.size 5 1 (.slice (some ⟨w2.heap.size, 0, none⟩) n n) n ((fillL (fun i => xs[piK n i]?.getD 0) n j).map (Value.int .u8)) ∧ Below w2.heap.size w2 W')) (fun i _ => n - (intOf i).toNat)
  case atStart => exact ⟨0, Nat.zero_le _, rfl, HZ⟩
  case round =>
    clear HZ
    obtain ⟨j, hj, rfl, hH⟩ := hrel
    by_cases hlt : j < n
    · have hq := HPI.out j
      obtain ⟨b, off, rfl, hbl, hcell⟩ := (hI2.out.below hH.out.2).cells (piK n j) hq
      obtain ⟨b1, off1, rfl, hbl1, hcell1⟩ := (hR2.out.below hH.out.2).cells j hlt
      rw [ordI_pi hlt] at hcell1
      have hx := bits_nonneg HX.out (piK n j)
      have hs := fillL_succ (fun i => xs[piK n i]?.getD 0) n j
      have hst := (hH.out.1.stored j (.int .u8 (xs[piK n j]?.getD 0))).1
      have hfr := hH.out.1.frozenAt j
      obtain ⟨b2, off2, e2, _, hc2⟩ := (Rd.of_own hH.out.1).cells j hlt
      injection e2 with e2
      injection e2 with e2 e3
      subst e2 e3
      rw [Nat.zero_add] at hc2
      rw [← List.map_set] at hst
      rw [hs] at hst
      have hb2 := hH.out.2.setCell (p := ⟨w2.heap.size, j, none⟩) (Nat.le_refl _) (.int .u8 (xs[piK n j]?.getD 0))
      have H2 := Lib.hid (And.intro hst hb2)
      have hj0 : (0 : Int) ≤ (j : Int) := by omega
      have hj1 : (j : Int) < (n : Int) := by omega
      have hq0 : (0 : Int) ≤ ((piK n j : Nat) : Int) := by omega
      have hq1 : ((piK n j : Nat) : Int) < (n : Int) := by omega
      generalize xs[piK n j]?.getD 0 = x at *
      generalize piK n j = q at *
      clear hst hb2 hs hH hT1 hT2 HE2 hI2 hR2 hP2 hmk HFO
      go_wp2_with fail
      go_roundw
      case rel => exact ⟨j + 1, by omega, by go_num, H2⟩
      case measure => simp [intOf]; omega
    · obtain rfl : j = n := by omega
      have hO3 := hH.out.1
      have hb3 := hH.out.2
      rw [HFU.out] at hO3
      have hM3 := Rd.of_own hO3
      have hI3 := hI2.out.step hb3
      have hP3 := hP2.out.step hb3
      have hb03 := h02.out.trans (hb3.mono h02.out.size)
      clear hO3 hb3 hH hI2 hR2 hP2 h02 hmk HPI HFU
      go_wp2_with fail
      refine (HE2.out _ _ _ hM3).mono ?_
      rintro e w4 ⟨A4, c4, rfl, hO4, hb4⟩
      rw [hp2.out] at hO4 ⊢
      have hQ4 := Rd.of_own hO4
      have hI4 := hI3.step hb4
      have hP4 := hP3.step hb4
      have hb04 := hb03.trans (hb4.mono hb03.size)
      clear hO4 hI3 hP3 hM3 hb4 hb03 HE2
      generalize tu s 0 = x0 at *
      generalize tu s 1 = x1 at *
      generalize tu s 2 = x2 at *
      generalize tz s 0 = z0 at *
      generalize tz s 1 = z1 at *
      generalize tz s 2 = z2 at *
      generalize tu t 0 = u0 at *
      generalize tu t 1 = u1 at *
      generalize tu t 2 = u2 at *
      generalize tz t 0 = v0 at *
      generalize tz t 1 = v1 at *
      generalize tz t 2 = v2 at *
      go_wp2_with fail
      refine (hT1.out _).mono ?_
      rintro e w5 ⟨rfl, hb5⟩
      have hQ5 := hQ4.step hb5
      have hI5 := hI4.step hb5
      have hP5 := hP4.step hb5
      have hb05 := hb04.trans (hb5.mono hb04.size)
      clear hQ4 hI4 hP4 hb04 hb5 hT1
      have t1 := (Three.new w5 61 (.int .u8 (x0 : Int)) (.int .u8 (x1 : Int)) (.int .u8 (x2 : Int))).alloc (.cells #[.int .u8 (z0 : Int), .int .u8 (z1 : Int), .int .u8 (z2 : Int)] 61)
      have t2 := Three.new (w5.alloc (.cells #[.int .u8 (x0 : Int), .int .u8 (x1 : Int), .int .u8 (x2 : Int)] 61)) 61 (.int .u8 (z0 : Int)) (.int .u8 (z1 : Int)) (.int .u8 (z2 : Int))
      rw [World.size_alloc] at t2
      have hb56 : Below w5.heap.size w5 ((w5.alloc (.cells #[.int .u8 (x0 : Int), .int .u8 (x1 : Int), .int .u8 (x2 : Int)] 61)).alloc (.cells #[.int .u8 (z0 : Int), .int .u8 (z1 : Int), .int .u8 (z2 : Int)] 61)) := below_two _ _
      obtain ⟨W6, hW6⟩ : ∃ W6, ((w5.alloc (.cells #[.int .u8 (x0 : Int), .int .u8 (x1 : Int), .int .u8 (x2 : Int)] 61)).alloc (.cells #[.int .u8 (z0 : Int), .int .u8 (z1 : Int), .int .u8 (z2 : Int)] 61)) = W6 := ⟨_, rfl⟩
      rw [hW6] at t1 t2 hb56
      have hQ6 := hQ5.step hb56
      have hI6 := hI5.step hb56
      have hP6 := hP5.step hb56
      have hb06 := hb05.trans (hb56.mono hb05.size)
      clear hQ5 hI5 hP5 hb05 hb56
      go_wp2_with fail
      refine (hT2.out _).mono ?_
      rintro e w7 ⟨rfl, hb7⟩
      have hQ7 := hQ6.step hb7
      have hI7 := hI6.step hb7
      have hP7 := hP6.step hb7
      have hb07 := hb06.trans (hb7.mono hb06.size)
      have t17 := t1.below hb7 t1.lt
      have t27 := t2.below hb7 t2.lt
      clear hQ6 hI6 hP6 hb06 t1 t2 hb7 hT2
      have t3 := (Three.new w7 61 (.int .u8 (u0 : Int)) (.int .u8 (u1 : Int)) (.int .u8 (u2 : Int))).alloc (.cells #[.int .u8 (v0 : Int), .int .u8 (v1 : Int), .int .u8 (v2 : Int)] 61)
      have t4 := Three.new (w7.alloc (.cells #[.int .u8 (u0 : Int), .int .u8 (u1 : Int), .int .u8 (u2 : Int)] 61)) 61 (.int .u8 (v0 : Int)) (.int .u8 (v1 : Int)) (.int .u8 (v2 : Int))
      rw [World.size_alloc] at t4
      have hb78 : Below w7.heap.size w7 ((w7.alloc (.cells #[.int .u8 (u0 : Int), .int .u8 (u1 : Int), .int .u8 (u2 : Int)] 61)).alloc (.cells #[.int .u8 (v0 : Int), .int .u8 (v1 : Int), .int .u8 (v2 : Int)] 61)) := below_two _ _
      obtain ⟨W8, hW8⟩ : ∃ W8, ((w7.alloc (.cells #[.int .u8 (u0 : Int), .int .u8 (u1 : Int), .int .u8 (u2 : Int)] 61)).alloc (.cells #[.int .u8 (v0 : Int), .int .u8 (v1 : Int), .int .u8 (v2 : Int)] 61)) = W8 := ⟨_, rfl⟩
      rw [hW8] at t3 t4 hb78
      have hQ8 := hQ7.step hb78
      have hI8 := hI7.step hb78
      have hP8 := hP7.step hb78
      have hb08 := hb07.trans (hb78.mono hb07.size)
      have t18 := t17.below hb78 t17.lt
      have t28 := t27.below hb78 t27.lt
      have t38 := t3
      have t48 := t4
      have HC : Hid (∀ V : World, Below W8.heap.size W8 V → V.cell? ⟨w5.heap.size, 0, none⟩ = some (.int .u8 (x0 : Int)) ∧ V.cell? ⟨w5.heap.size, 1, none⟩ = some (.int .u8 (x1 : Int)) ∧ V.cell? ⟨w5.heap.size, 2, none⟩ = some (.int .u8 (x2 : Int)) ∧ V.cell? ⟨w5.heap.size + 1, 0, none⟩ = some (.int .u8 (z0 : Int)) ∧ V.cell? ⟨w5.heap.size + 1, 1, none⟩ = some (.int .u8 (z1 : Int)) ∧ V.cell? ⟨w5.heap.size + 1, 2, none⟩ = some (.int .u8 (z2 : Int)) ∧ V.cell? ⟨w7.heap.size, 0, none⟩ = some (.int .u8 (u0 : Int)) ∧ V.cell? ⟨w7.heap.size, 1, none⟩ = some (.int .u8 (u1 : Int)) ∧ V.cell? ⟨w7.heap.size, 2, none⟩ = some (.int .u8 (u2 : Int)) ∧ V.cell? ⟨w7.heap.size + 1, 0, none⟩ = some (.int .u8 (v0 : Int)) ∧ V.cell? ⟨w7.heap.size + 1, 1, none⟩ = some (.int .u8 (v1 : Int)) ∧ V.cell? ⟨w7.heap.size + 1, 2, none⟩ = some (.int .u8 (v2 : Int))) := Lib.hid (fun V h => ⟨(t18.below h t18.lt).cell0, (t18.below h t18.lt).cell1, (t18.below h t18.lt).cell2, (t28.below h t28.lt).cell0, (t28.below h t28.lt).cell1, (t28.below h t28.lt).cell2, (t38.below h t38.lt).cell0, (t38.below h t38.lt).cell1, (t38.below h t38.lt).cell2, (t48.below h t48.lt).cell0, (t48.below h t48.lt).cell1, (t48.below h t48.lt).cell2⟩)
      have HX8 := Lib.hid (And.intro hI8 (And.intro hP8 (And.intro hQ8 hb08)))
      clear hQ7 hI7 hP7 hQ8 hI8 hP8 hb07 hb08 hb78 t17 t27 t3 t4 HX
      have hjn : j ≤ 6144 := hk.2
      go_wp2_with fail
      refine rg16_wp (H := W8.heap.size) (A := A) (n1 := j) (c := c) (ys := xs) (ad := (pick4 (⟨w5.heap.size, 0, none⟩ : Addr) (⟨w5.heap.size + 1, 1, none⟩ : Addr) (⟨w7.heap.size, 0, none⟩ : Addr) (⟨w7.heap.size + 1, 1, none⟩ : Addr))) (q := (pick4 ((x0 : Nat) : Int) ((z1 : Nat) : Int) ((u0 : Nat) : Int) ((v1 : Nat) : Int))) rfl rfl rfl rfl rfl ⟨rfl, rfl, rfl, rfl⟩ HX8.out.1 (by omega) (fun k hk => by
        have h4 := lt4 hk
        rcases h4 with rfl | rfl | rfl | rfl
        · exact ⟨(t18.below (Below.refl _ W8) t18.lt).cell0, t18.lt⟩
        · exact ⟨(t28.below (Below.refl _ W8) t28.lt).cell1, t28.lt⟩
        · exact ⟨(t38.below (Below.refl _ W8) t38.lt).cell0, t38.lt⟩
        · exact ⟨(t48.below (Below.refl _ W8) t48.lt).cell1, t48.lt⟩) (Nat.le_refl _) rfl ?_
      intro a9 w9 B1 d1 hk9 hz9 hd9 h19 ho9 hb9
      have f0 := hk9 0 (by decide) (by decide)
      have f7 := hk9 7 (by decide) (by decide)
      have f12 := hk9 12 (by decide) (by decide)
      have f15 := hk9 15 (by decide) (by decide)
      have f16 := hk9 16 (by decide) (by decide)
      have f17 := hk9 17 (by decide) (by decide)
      have f18 := hk9 18 (by decide) (by decide)
      have hz9' : a9.tmps.size = 109 := hz9
      have hd9' : a9.defers = [] := hd9
      clear hk9 hz9 hd9
      go_wp2_with fail
      refine rg17_wp (H := W8.heap.size) (W8 := w9) (OUT := .slice B1 (0 + j + 4) d1) (n0 := 0 + j + 4) (xs0 := [] ++ xs ++ [(pick4 ((x0 : Nat) : Int) ((z1 : Nat) : Int) ((u0 : Nat) : Int) ((v1 : Nat) : Int)) 0, (pick4 ((x0 : Nat) : Int) ((z1 : Nat) : Int) ((u0 : Nat) : Int) ((v1 : Nat) : Int)) 1, (pick4 ((x0 : Nat) : Int) ((z1 : Nat) : Int) ((u0 : Nat) : Int) ((v1 : Nat) : Int)) 2, (pick4 ((x0 : Nat) : Int) ((z1 : Nat) : Int) ((u0 : Nat) : Int) ((v1 : Nat) : Int)) 3]) (A := A2) (n1 := j) (c := c2) (ys := ps) (ad := (pick4 (⟨w5.heap.size + 1, 0, none⟩ : Addr) (⟨w5.heap.size, 2, none⟩ : Addr) (⟨w7.heap.size + 1, 0, none⟩ : Addr) (⟨w7.heap.size, 2, none⟩ : Addr))) (q := (pick4 ((z0 : Nat) : Int) ((x2 : Nat) : Int) ((v0 : Nat) : Int) ((u2 : Nat) : Int))) h19 ho9 f7 f15 f16 f17 f18 ⟨rfl, rfl, rfl, rfl⟩ (HX8.out.2.1.below hb9) (by omega) (fun k hk => by
        have h4 := lt4 hk
        rcases h4 with rfl | rfl | rfl | rfl
        · exact ⟨(t28.below hb9 t28.lt).cell0, t28.lt⟩
        · exact ⟨(t18.below hb9 t18.lt).cell2, t18.lt⟩
        · exact ⟨(t48.below hb9 t48.lt).cell0, t48.lt⟩
        · exact ⟨(t38.below hb9 t38.lt).cell2, t38.lt⟩) hb9.size hz9' ?_
      intro a10 w10 B2 d2 hk10 hz10 hd10 h19b ho10 hb10
      have k12 := (hk10 12 (by decide) (by decide)).trans f12
      have k15 := (hk10 15 (by decide) (by decide)).trans f15
      have k16 := (hk10 16 (by decide) (by decide)).trans f16
      have k17 := (hk10 17 (by decide) (by decide)).trans f17
      have k18 := (hk10 18 (by decide) (by decide)).trans f18
      have hz10' := hz10.trans hz9'
      have hd10' := hd10.trans hd9'
      have hb10' := hb9.trans hb10
      clear hk10 hz10 hd10 f0 f7 f12 f15 f16 f17 f18 h19 hz9' hd9'
      go_wp2_with fail
      refine rg18_wp (H := W8.heap.size) (W8 := w10) (OUT := .slice B2 (0 + j + 4 + j + 4) d2) (n0 := 0 + j + 4 + j + 4) (xs0 := ([] ++ xs ++ [(pick4 ((x0 : Nat) : Int) ((z1 : Nat) : Int) ((u0 : Nat) : Int) ((v1 : Nat) : Int)) 0, (pick4 ((x0 : Nat) : Int) ((z1 : Nat) : Int) ((u0 : Nat) : Int) ((v1 : Nat) : Int)) 1, (pick4 ((x0 : Nat) : Int) ((z1 : Nat) : Int) ((u0 : Nat) : Int) ((v1 : Nat) : Int)) 2, (pick4 ((x0 : Nat) : Int) ((z1 : Nat) : Int) ((u0 : Nat) : Int) ((v1 : Nat) : Int)) 3]) ++ ps ++ [(pick4 ((z0 : Nat) : Int) ((x2 : Nat) : Int) ((v0 : Nat) : Int) ((u2 : Nat) : Int)) 0, (pick4 ((z0 : Nat) : Int) ((x2 : Nat) : Int) ((v0 : Nat) : Int) ((u2 : Nat) : Int)) 1, (pick4 ((z0 : Nat) : Int) ((x2 : Nat) : Int) ((v0 : Nat) : Int) ((u2 : Nat) : Int)) 2, (pick4 ((z0 : Nat) : Int) ((x2 : Nat) : Int) ((v0 : Nat) : Int) ((u2 : Nat) : Int)) 3]) (A := A4) (n1 := j) (c := c4) (ys := qs) (ad := (pick4 (⟨w5.heap.size, 1, none⟩ : Addr) (⟨w5.heap.size + 1, 2, none⟩ : Addr) (⟨w7.heap.size, 1, none⟩ : Addr) (⟨w7.heap.size + 1, 2, none⟩ : Addr))) (q := (pick4 ((x1 : Nat) : Int) ((z2 : Nat) : Int) ((u1 : Nat) : Int) ((v2 : Nat) : Int))) h19b ho10 k12 k15 k16 k17 k18 ⟨rfl, rfl, rfl, rfl⟩ (HX8.out.2.2.1.below hb10') (by omega) (fun k hk => by
        have h4 := lt4 hk
        rcases h4 with rfl | rfl | rfl | rfl
        · exact ⟨(t18.below hb10' t18.lt).cell1, t18.lt⟩
        · exact ⟨(t28.below hb10' t28.lt).cell2, t28.lt⟩
        · exact ⟨(t38.below hb10' t38.lt).cell1, t38.lt⟩
        · exact ⟨(t48.below hb10' t48.lt).cell2, t48.lt⟩) hb10'.size hz10' ?_
      intro a11 w11 B3 d3 hk11 hz11 hd11 h2 h3 ho11 hb11
      have hd11' := hd11.trans hd10'
      have hbE := hb10'.trans hb11
      have hWL : W.length = 0 + j + 4 + j + 4 + j + 4 := by rw [HTL.out]; omega
      have hWE : W = ((([] ++ xs ++ [(pick4 ((x0 : Nat) : Int) ((z1 : Nat) : Int) ((u0 : Nat) : Int) ((v1 : Nat) : Int)) 0, (pick4 ((x0 : Nat) : Int) ((z1 : Nat) : Int) ((u0 : Nat) : Int) ((v1 : Nat) : Int)) 1, (pick4 ((x0 : Nat) : Int) ((z1 : Nat) : Int) ((u0 : Nat) : Int) ((v1 : Nat) : Int)) 2, (pick4 ((x0 : Nat) : Int) ((z1 : Nat) : Int) ((u0 : Nat) : Int) ((v1 : Nat) : Int)) 3]) ++ ps ++ [(pick4 ((z0 : Nat) : Int) ((x2 : Nat) : Int) ((v0 : Nat) : Int) ((u2 : Nat) : Int)) 0, (pick4 ((z0 : Nat) : Int) ((x2 : Nat) : Int) ((v0 : Nat) : Int) ((u2 : Nat) : Int)) 1, (pick4 ((z0 : Nat) : Int) ((x2 : Nat) : Int) ((v0 : Nat) : Int) ((u2 : Nat) : Int)) 2, (pick4 ((z0 : Nat) : Int) ((x2 : Nat) : Int) ((v0 : Nat) : Int) ((u2 : Nat) : Int)) 3]) ++ qs) ++ [(pick4 ((x1 : Nat) : Int) ((z2 : Nat) : Int) ((u1 : Nat) : Int) ((v2 : Nat) : Int)) 0, (pick4 ((x1 : Nat) : Int) ((z2 : Nat) : Int) ((u1 : Nat) : Int) ((v2 : Nat) : Int)) 1, (pick4 ((x1 : Nat) : Int) ((z2 : Nat) : Int) ((u1 : Nat) : Int) ((v2 : Nat) : Int)) 2, (pick4 ((x1 : Nat) : Int) ((z2 : Nat) : Int) ((u1 : Nat) : Int) ((v2 : Nat) : Int)) 3] := by rw [HFO.out]; simp [intsOf, pick4]
      rw [← hWE] at ho11
      have HF := Lib.hid (RetBytes.mk_ (k := 0) hWL ho11 HX8.out.2.2.2.size (HX8.out.2.2.2.trans (hbE.mono HX8.out.2.2.2.size)) rfl)
      clear ho11 hWE hWL
      go_wp2
      exact bodyPost_ret (refEnc_results h2 h3) hd11' HF.out
theorem refEnc_any {A : Option Addr} {n c : Nat} {xs : List Int} {w : World} (hI : Rd .u8 w w.heap.size A n xs) (hb : Byte xs) (hn : n ≤ 100000) :
    Calls Tryd.prog 12 #[.slice A n c] w (RetBytes 5 w (tbS xs)) := by
  by_cases hk : isB (n : Int) = true
  · by_cases hv : validB xs = true
    · have hs : IsSize n := by rw [isB_nat] at hk; simpa using hk
      have e : tbS xs = (tbI xs, 0) := by unfold tbS; rw [hI.len, hk, hv]; rfl
      rw [e]
      exact refEnc_ok hI (validB_bits hb hv) hs
    · exact refEnc_no hI hb hn (.inr (Bool.eq_false_iff.2 hv))
  · exact refEnc_no hI hb hn (.inl (Bool.eq_false_iff.2 hk))
end
end Go.Proofs.YtbpkoilecdejiaaDoor
