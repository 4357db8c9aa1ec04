/-
  TurboHolds: the region that puts the word together.
-/
import Derived.Test.YtbpkoilecdejiaaDoorRh
import Derived.Test.YtbpkoilecdejiaaDoorV8
namespace Go.Proofs.YtbpkoilecdejiaaDoor
set_option maxRecDepth 100000
open Go.RowKit

section
variable {ρ : Operand → Value} {w : World} {dst : Option Tmp} {ty : TypeId} {pos : String} {after : Array Edge} {guard : Option (Nat × Bool)} {x : Operand}
theorem ei_front {A : Option Addr} {n c m : Nat} {h1 : Operand} (hx : ρ x = .slice A n c) (e1 : ρ h1 = .int .i64 (m : Int)) (hm : m ≤ c) :
    (execOp ρ { dst := dst, op := .slice 22 x none (some h1) none, type := ty, pos := pos, after := after, guard := guard }).run Tryd.prog w = .ok (.value (.slice A m c)) w := by
  have h := slice_frontB (A := A) (n := n) hm w
  simp [execOp, hx, e1, go_sem, h]
theorem ei_back {A : Option Addr} {n c m : Nat} {h1 : Operand} (hx : ρ x = .slice A n c) (e1 : ρ h1 = .int .i64 (m : Int)) (hm : m ≤ n) :
    (execOp ρ { dst := dst, op := .slice 22 x (some h1) none none, type := ty, pos := pos, after := after, guard := guard }).run Tryd.prog w = .ok (.value (.slice (if c = m then A else A.map (·.add m)) (n - m) (c - m))) w := by
  have h : (Instr.slice 22 (.slice A n c) (some (.int .i64 (m : Int))) none none).run Tryd.prog w = .ok (.slice (if c = m then A else A.map (·.add m)) (n - m) (c - m)) w := by
    simp [Instr.slice, Instr.sliceBounds, Instr.sliceBound, run_underlying Tryd.underlying22, asIntOf, go_sem, hm]
  simp [execOp, hx, e1, go_sem, h]
end
/-- Two rows of one's own that lie apart, as far as they are there. -/
structure Two3 (H : Nat) (w : World) (b1 b2 : Bool) (V1 V2 : Value) (n1 n2 : Nat) (l1 l2 : List Int) : Prop where
  o1 : b1 = true → w.ownsRow H 5 1 V1 n1 (l1.map (Value.int .u8))
  o2 : b2 = true → w.ownsRow H 5 1 V2 n2 (l2.map (Value.int .u8))
  ap : b1 = true → b2 = true → ∀ g, V1.ownBlock = some g → V2.ownBlock ≠ some g
section
variable {H : Nat} {w w' : World} {b1 b2 : Bool} {V1 V2 : Value} {n1 n2 : Nat} {l1 l2 : List Int}
theorem Two3.new1 (h : Two3 H w b1 b2 V1 V2 n1 n2 l1 l2) (hH : H ≤ w.heap.size) : Two3 H (w.alloc (.cells #[] 5)) true b2 (.slice (some ⟨w.heap.size, 0, none⟩) 0 0) V2 0 n2 [] l2 :=
  ⟨fun _ => (own_empty w 5).mono hH, fun hb => (h.o2 hb).alloc _, fun _ hb g e e2 => by
    have e' : some w.heap.size = some g := e
    injection e' with e'
    have := ((h.o2 hb).lt g e2).2
    omega⟩
theorem Two3.new2 (h : Two3 H w b1 b2 V1 V2 n1 n2 l1 l2) (hH : H ≤ w.heap.size) : Two3 H (w.alloc (.cells #[] 5)) b1 true V1 (.slice (some ⟨w.heap.size, 0, none⟩) 0 0) n1 0 l1 [] :=
  ⟨fun hb => (h.o1 hb).alloc _, fun _ => (own_empty w 5).mono hH, fun hb _ g e e2 => by
    have e' : some w.heap.size = some g := e2
    injection e' with e'
    have := ((h.o1 hb).lt g e).2
    omega⟩
theorem Two3.app1 {V3 : Value} {n3 : Nat} {l3 : List Int} (h : Two3 H w true b2 V1 V2 n1 n2 l1 l2) (hO : w'.ownsRow H 5 1 V3 n3 (l3.map (Value.int .u8))) (hg : w.grownBy w' V1.ownBlock) (hb : V3.ownBlock = V1.ownBlock ∨ V3.ownBlock = some w.heap.size) : Two3 H w' true b2 V3 V2 n3 n2 l3 l2 :=
  ⟨fun _ => hO, fun hb2 => ownsRow_block (h.o2 hb2) (fun g e => hg.block g ((h.o2 hb2).lt g e).2 (fun e2 => h.ap rfl hb2 g e2.symm e)), fun _ hb2 g e e2 => by
    rcases hb with hb | hb
    · exact h.ap rfl hb2 g (hb.symm.trans e) e2
    · have e3 : some w.heap.size = some g := hb.symm.trans e
      injection e3 with e3
      have := ((h.o2 hb2).lt g e2).2
      omega⟩
theorem Two3.app2 {V3 : Value} {n3 : Nat} {l3 : List Int} (h : Two3 H w b1 true V1 V2 n1 n2 l1 l2) (hO : w'.ownsRow H 5 1 V3 n3 (l3.map (Value.int .u8))) (hg : w.grownBy w' V2.ownBlock) (hb : V3.ownBlock = V2.ownBlock ∨ V3.ownBlock = some w.heap.size) : Two3 H w' b1 true V1 V3 n1 n3 l1 l3 :=
  ⟨fun hb1 => ownsRow_block (h.o1 hb1) (fun g e => hg.block g ((h.o1 hb1).lt g e).2 (fun e2 => h.ap hb1 rfl g e e2.symm)), fun _ => hO, fun hb1 _ g e e2 => by
    rcases hb with hb | hb
    · exact h.ap hb1 rfl g e (hb.symm.trans e2)
    · have e3 : some w.heap.size = some g := hb.symm.trans e2
      injection e3 with e3
      have := ((h.o1 hb1).lt g e).2
      omega⟩
end
/-- The latest row of either chain; lengths and elements of the rows. -/
def cur1 (L : Nat → Bool) : Nat := if L 8 then 8 else if L 4 then 4 else 0
def cur2 (L : Nat → Bool) : Nat := if L 17 then 17 else if L 13 then 13 else 9
def rowN (K M i : Nat) : Nat := if i = 4 then 0 + K else if i = 8 then 0 + K + K else if i = 13 then 0 + M else if i = 17 then 0 + M + M else 0
def rowL (a b c d : List Int) (i : Nat) : List Int := if i = 4 then [] ++ a else if i = 8 then [] ++ a ++ b else if i = 13 then [] ++ c else if i = 17 then [] ++ c ++ d else []
/-- What is known within the region. -/
structure RG (H : Nat) (W8 : World) (K M : Nat) (a b c d : List Int) (pl : Nat → Value) (L : Nat → Bool) (V : Nat → Value) (w : World) : Prop where
  pv : ∀ i, i ≠ 0 → i ≠ 4 → i ≠ 8 → i ≠ 9 → i ≠ 13 → i ≠ 17 → i ≠ 18 → L i = true → V i = pl i
  tw : L 18 = false → Two3 H w (L 0) (L 9) (V (cur1 L)) (V (cur2 L)) (rowN K M (cur1 L)) (rowN K M (cur2 L)) (rowL a b c d (cur1 L)) (rowL a b c d (cur2 L))
  fin : L 18 = true → ∃ A c', V 18 = .slice A (0 + K + K + (0 + M + M)) c' ∧ w.ownsRow H 5 1 (V 18) (0 + K + K + (0 + M + M)) (([] ++ a ++ b ++ ([] ++ c ++ d)).map (Value.int .u8))
  low : Below H W8 w
section
variable {H : Nat} {W8 : World} {K M : Nat} {a b c d : List Int} {pl : Nat → Value} {L : Nat → Bool} {V : Nat → Value} {w w' : World}
theorem cur1_cases (L : Nat → Bool) : cur1 L = 0 ∨ cur1 L = 4 ∨ cur1 L = 8 := by unfold cur1; (repeat' split) <;> simp
theorem cur2_cases (L : Nat → Bool) : cur2 L = 9 ∨ cur2 L = 13 ∨ cur2 L = 17 := by unfold cur2; (repeat' split) <;> simp
/-- A step that does not touch the memory. -/
theorem RG.pure {i : Nat} (h : RG H W8 K M a b c d pl L V w) (hi : i ≠ 0 ∧ i ≠ 4 ∧ i ≠ 8 ∧ i ≠ 9 ∧ i ≠ 13 ∧ i ≠ 17 ∧ i ≠ 18) : RG H W8 K M a b c d pl (upd L i true) (upd V i (pl i)) w := by
  have e : ∀ {α : Type} (f : Nat → α) (z : α) (j : Nat), j ≠ i → upd f i z j = f j := fun f z j hj => upd_other f z hj
  obtain ⟨i0, i4, i8, i9, i13, i17, i18⟩ := hi
  have c1 : cur1 (upd L i true) = cur1 L := by unfold cur1; rw [e L true 8 i8.symm, e L true 4 i4.symm]
  have c2 : cur2 (upd L i true) = cur2 L := by unfold cur2; rw [e L true 17 i17.symm, e L true 13 i13.symm]
  have v1 : upd V i (pl i) (cur1 L) = V (cur1 L) := e _ _ _ (by rcases cur1_cases L with h | h | h <;> rw [h] <;> omega)
  have v2 : upd V i (pl i) (cur2 L) = V (cur2 L) := e _ _ _ (by rcases cur2_cases L with h | h | h <;> rw [h] <;> omega)
  refine ⟨fun j a1 a2 a3 a4 a5 a6 a7 hl => ?_, ?_, ?_, h.low⟩
  · by_cases ei : j = i
    · subst ei; rw [upd_same]
    · rw [e L true j ei] at hl
      rw [e V _ j ei]; exact h.pv j a1 a2 a3 a4 a5 a6 a7 hl
  · rw [e L true 18 i18.symm, e L true 0 i0.symm, e L true 9 i9.symm, c1, c2, v1, v2]; exact h.tw
  · rw [e L true 18 i18.symm, e V _ 18 i18.symm]; exact h.fin
end
noncomputable def hOps20 : Array Oper := ((Tryd.f9.body.bind (opsH 20)).getD #[])
theorem hOps20_size : hOps20.size = 20 := by kernel_rfl
theorem hOps20_rd : readyB hOps20 19 = true := by kernel_rfl
theorem lt19 {i : Nat} (h : i < 19) : i = 0 ∨ i = 1 ∨ i = 2 ∨ i = 3 ∨ i = 4 ∨ i = 5 ∨ i = 6 ∨ i = 7 ∨ i = 8 ∨ i = 9 ∨ i = 10 ∨ i = 11 ∨ i = 12 ∨ i = 13 ∨ i = 14 ∨ i = 15 ∨ i = 16 ∨ i = 17 ∨ i = 18 := by omega
def plG (S1 S2 P1 P2 Q1 Q2 : Value) (K : Nat) (i : Nat) : Value :=
  [undef, S1, .int .i64 (K : Int), P1, undef, S2, .int .i64 (K : Int), P2, undef, undef, S1, .int .i64 (K : Int), Q1, undef, S2, .int .i64 (K : Int), Q2].getD i undef
theorem own_to {w : World} {H n n' : Nat} {V V' : Value} {l l' : List Int} (h : w.ownsRow H 5 1 V n (l.map (Value.int .u8))) (e1 : V = V') (e2 : n = n') (e3 : l = l') : w.ownsRow H 5 1 V' n' (l'.map (Value.int .u8)) := by subst e1 e2 e3; exact h
set_option maxHeartbeats 8000000 in
theorem h20_step {H : Nat} {W8 : World} {K M n : Nat} {a b c d : List Int} {Ai Ap : Option Addr} {ci cp : Nat} {a0 : Act}
    (h15 : a0.tmps.getD 15 undef = .slice Ai n ci) (h16 : a0.tmps.getD 16 undef = .slice Ap n cp) (h6 : a0.tmps.getD 6 undef = .int .i64 (K : Int)) (hM : n - K = M) (hKn : K ≤ n) (hci : n ≤ ci) (hcp : n ≤ cp) (hn : n ≤ 100000)
    (ra : Rd .u8 W8 H Ai K a) (rb : Rd .u8 W8 H Ap K b) (rc : Rd .u8 W8 H (if ci = K then Ai else Ai.map (·.add K)) M c) (rd : Rd .u8 W8 H (if cp = K then Ap else Ap.map (·.add K)) M d) (hH : H ≤ W8.heap.size)
    (i : Nat) (L : Nat → Bool) (V : Nat → Value) (a1 : Act) (w : World) (hi : i < 19) (hS : RG H W8 K M a b c d (plG (.slice Ai n ci) (.slice Ap n cp) (.slice Ai K ci) (.slice Ap K cp) (.slice (if ci = K then Ai else Ai.map (·.add K)) M (ci - K)) (.slice (if cp = K then Ap else Ap.map (·.add K)) M (cp - K)) K) L V w) (hL : L i = false) (hF : FrameAt 119 a0 a1 V 19) (hC : ClosedL hOps20 L)
    (hafter : ∀ (t : Nat) (e : Edge), ((hOps20[i]?).bind fun o => o.after[t]?) = some e → Region.binds .any e = true → L e.on = true) :
    ∃ o z w', hOps20[i]? = some o ∧ o.guard = none ∧ o.dst = some (119 + i) ∧ (execOp a1.eval o).run Tryd.prog w = .ok (.value z) w' ∧ RG H W8 K M a b c d (plG (.slice Ai n ci) (.slice Ap n cp) (.slice Ai K ci) (.slice Ap K cp) (.slice (if ci = K then Ai else Ai.map (·.add K)) M (ci - K)) (.slice (if cp = K then Ap else Ap.map (·.add K)) M (cp - K)) K) (upd L i true) (upd V i z) w' := by
  have hle : H ≤ w.heap.size := Nat.le_trans hH hS.low.size
  have no : ∀ {p q : Nat}, (L q = true → L p = true) → L p = false → L q = false := fun {p q} h hp => by
    rcases hb : L q with _ | _
    · rfl
    · rw [h hb] at hp; cases hp
  have c4 : L 4 = true → L 0 = true := fun h => closed_at hC (t := 0) (g := .data) h rfl rfl
  have c8 : L 8 = true → L 4 = true := fun h => closed_at hC (t := 0) (g := .data) h rfl rfl
  have c13 : L 13 = true → L 9 = true := fun h => closed_at hC (t := 0) (g := .data) h rfl rfl
  have c17 : L 17 = true → L 13 = true := fun h => closed_at hC (t := 0) (g := .data) h rfl rfl
  have c18 : L 18 = true → L 8 = true := fun h => closed_at hC (t := 0) (g := .data) h rfl rfl
  have c18' : L 18 = true → L 17 = true := fun h => closed_at hC (t := 1) (g := .data) h rfl rfl
  have hc := lt19 hi
  rcases hc with rfl | rfl | rfl | rfl | rfl | rfl | rfl | rfl | rfl | rfl | rfl | rfl | rfl | rfl | rfl | rfl | rfl | rfl | rfl
  · refine ⟨_, _, _, rfl, rfl, rfl, ey_none, ?_⟩
    have e4 := no c4 hL
    have e8 := no c8 e4
    have e18 := no c18 e8
    have k1 : cur1 (upd L 0 true) = 0 := by unfold cur1; rw [show upd L 0 true 8 = L 8 from rfl, show upd L 0 true 4 = L 4 from rfl, e8, e4]; rfl
    have k2 : cur2 (upd L 0 true) = cur2 L := rfl
    have v2 : ∀ z, upd V 0 z (cur2 L) = V (cur2 L) := fun z => upd_other _ _ (by rcases cur2_cases L with h | h | h <;> rw [h] <;> omega)
    refine ⟨fun j a1 a2 a3 a4 a5 a6 a7 hl => by rw [upd_other _ _ a1] at hl ⊢; exact hS.pv j a1 a2 a3 a4 a5 a6 a7 hl, fun _ => ?_, fun hl => ?_, hS.low.alloc hle _⟩
    · rw [k1, k2, v2]
      exact (hS.tw e18).new1 hle
    · rw [show upd L 0 true 18 = L 18 from rfl, e18] at hl; cases hl
  · exact ⟨_, _, w, rfl, rfl, rfl, ey_move (hF.evalLow (t := 15) (by decide) h15), hS.pure (i := 1) (by decide)⟩
  · exact ⟨_, _, w, rfl, rfl, rfl, ey_move (hF.evalLow (t := 6) (by decide) h6), hS.pure (i := 2) (by decide)⟩
  · exact ⟨_, _, w, rfl, rfl, rfl, ei_front ((hF.eval (j := 1) (by decide) rfl).trans (hS.pv 1 (by decide) (by decide) (by decide) (by decide) (by decide) (by decide) (by decide) (hafter 0 ⟨1, .data⟩ rfl rfl))) ((hF.eval (j := 2) (by decide) rfl).trans (hS.pv 2 (by decide) (by decide) (by decide) (by decide) (by decide) (by decide) (by decide) (hafter 1 ⟨2, .data⟩ rfl rfl))) (by omega), hS.pure (i := 3) (by decide)⟩
  · have qs := (hafter 1 ⟨3, .data⟩ rfl rfl)
    have e0 := (hafter 0 ⟨0, .data⟩ rfl rfl)
    have e8 := no c8 hL
    have e18 := no c18 e8
    have k0 : cur1 L = 0 := by unfold cur1; rw [e8, hL]; rfl
    have k1 : cur1 (upd L 4 true) = 4 := by unfold cur1; rw [show upd L 4 true 8 = L 8 from rfl, e8]; rfl
    have k2 : cur2 (upd L 4 true) = cur2 L := rfl
    have v2 : ∀ z, upd V 4 z (cur2 L) = V (cur2 L) := fun z => upd_other _ _ (by rcases cur2_cases L with h | h | h <;> rw [h] <;> omega)
    have T := hS.tw e18
    rw [k0, e0] at T
    have own := T.o1 rfl
    rw [show rowN K M 0 = 0 from rfl, show rowL a b c d 0 = [] from rfl] at own
    obtain ⟨A2, c2, w2, r1, r2, r3, r4⟩ := eh_append (dst := some 123) (pos := _) (after := _) (guard := none) (hF.eval (j := 0) (by decide) rfl) ((hF.eval (j := 3) (by decide) rfl).trans (hS.pv 3 (by decide) (by decide) (by decide) (by decide) (by decide) (by decide) (by decide) qs)) own (ra.below hS.low) (by omega) hle
    refine ⟨_, _, w2, rfl, rfl, rfl, r1, fun j a1 a2 a3 a4 a5 a6 a7 hl => by rw [upd_other _ _ a2] at hl ⊢; exact hS.pv j a1 a2 a3 a4 a5 a6 a7 hl, fun _ => ?_, fun hl => ?_, hS.low.grown r3 hle (fun g e => (own.lt g e).1)⟩
    · rw [k1, k2, v2, show upd L 4 true 0 = true from e0]
      exact T.app1 r2 r3 r4
    · rw [show upd L 4 true 18 = L 18 from rfl, e18] at hl; cases hl
  · exact ⟨_, _, w, rfl, rfl, rfl, ey_move (hF.evalLow (t := 16) (by decide) h16), hS.pure (i := 5) (by decide)⟩
  · exact ⟨_, _, w, rfl, rfl, rfl, ey_move (hF.evalLow (t := 6) (by decide) h6), hS.pure (i := 6) (by decide)⟩
  · exact ⟨_, _, w, rfl, rfl, rfl, ei_front ((hF.eval (j := 5) (by decide) rfl).trans (hS.pv 5 (by decide) (by decide) (by decide) (by decide) (by decide) (by decide) (by decide) (hafter 0 ⟨5, .data⟩ rfl rfl))) ((hF.eval (j := 6) (by decide) rfl).trans (hS.pv 6 (by decide) (by decide) (by decide) (by decide) (by decide) (by decide) (by decide) (hafter 1 ⟨6, .data⟩ rfl rfl))) (by omega), hS.pure (i := 7) (by decide)⟩
  · have qs := (hafter 1 ⟨7, .data⟩ rfl rfl)
    have e4 := (hafter 0 ⟨4, .data⟩ rfl rfl)
    have e0 := c4 e4
    have e18 := no c18 hL
    have k0 : cur1 L = 4 := by unfold cur1; rw [hL, e4]; rfl
    have k1 : cur1 (upd L 8 true) = 8 := rfl
    have k2 : cur2 (upd L 8 true) = cur2 L := rfl
    have v2 : ∀ z, upd V 8 z (cur2 L) = V (cur2 L) := fun z => upd_other _ _ (by rcases cur2_cases L with h | h | h <;> rw [h] <;> omega)
    have T := hS.tw e18
    rw [k0, e0] at T
    have own := T.o1 rfl
    rw [show rowN K M 4 = 0 + K from rfl, show rowL a b c d 4 = [] ++ a from rfl] at own
    obtain ⟨A2, c2, w2, r1, r2, r3, r4⟩ := eh_append (dst := some 127) (pos := _) (after := _) (guard := none) (hF.eval (j := 4) (by decide) rfl) ((hF.eval (j := 7) (by decide) rfl).trans (hS.pv 7 (by decide) (by decide) (by decide) (by decide) (by decide) (by decide) (by decide) qs)) own (rb.below hS.low) (by omega) hle
    refine ⟨_, _, w2, rfl, rfl, rfl, r1, fun j a1 a2 a3 a4 a5 a6 a7 hl => by rw [upd_other _ _ a3] at hl ⊢; exact hS.pv j a1 a2 a3 a4 a5 a6 a7 hl, fun _ => ?_, fun hl => ?_, hS.low.grown r3 hle (fun g e => (own.lt g e).1)⟩
    · rw [k1, k2, v2, show upd L 8 true 0 = true from e0]
      exact T.app1 r2 r3 r4
    · rw [show upd L 8 true 18 = L 18 from rfl, e18] at hl; cases hl
  · refine ⟨_, _, _, rfl, rfl, rfl, ey_none, ?_⟩
    have e13 := no c13 hL
    have e17 := no c17 e13
    have e18 := no c18' e17
    have k1 : cur1 (upd L 9 true) = cur1 L := rfl
    have k2 : cur2 (upd L 9 true) = 9 := by unfold cur2; rw [show upd L 9 true 17 = L 17 from rfl, show upd L 9 true 13 = L 13 from rfl, e17, e13]; rfl
    have v2 : ∀ z, upd V 9 z (cur1 L) = V (cur1 L) := fun z => upd_other _ _ (by rcases cur1_cases L with h | h | h <;> rw [h] <;> omega)
    refine ⟨fun j a1 a2 a3 a4 a5 a6 a7 hl => by rw [upd_other _ _ a4] at hl ⊢; exact hS.pv j a1 a2 a3 a4 a5 a6 a7 hl, fun _ => ?_, fun hl => ?_, hS.low.alloc hle _⟩
    · rw [k1, k2, v2]
      exact (hS.tw e18).new2 hle
    · rw [show upd L 9 true 18 = L 18 from rfl, e18] at hl; cases hl
  · exact ⟨_, _, w, rfl, rfl, rfl, ey_move (hF.evalLow (t := 15) (by decide) h15), hS.pure (i := 10) (by decide)⟩
  · exact ⟨_, _, w, rfl, rfl, rfl, ey_move (hF.evalLow (t := 6) (by decide) h6), hS.pure (i := 11) (by decide)⟩
  · exact ⟨_, _, w, rfl, rfl, rfl, hM ▸ ei_back ((hF.eval (j := 10) (by decide) rfl).trans (hS.pv 10 (by decide) (by decide) (by decide) (by decide) (by decide) (by decide) (by decide) (hafter 0 ⟨10, .data⟩ rfl rfl))) ((hF.eval (j := 11) (by decide) rfl).trans (hS.pv 11 (by decide) (by decide) (by decide) (by decide) (by decide) (by decide) (by decide) (hafter 1 ⟨11, .data⟩ rfl rfl))) hKn, hS.pure (i := 12) (by decide)⟩
  · have qs := (hafter 1 ⟨12, .data⟩ rfl rfl)
    have e9 := (hafter 0 ⟨9, .data⟩ rfl rfl)
    have e17 := no c17 hL
    have e18 := no c18' e17
    have k0 : cur2 L = 9 := by unfold cur2; rw [e17, hL]; rfl
    have k2 : cur2 (upd L 13 true) = 13 := by unfold cur2; rw [show upd L 13 true 17 = L 17 from rfl, e17]; rfl
    have k1 : cur1 (upd L 13 true) = cur1 L := rfl
    have v2 : ∀ z, upd V 13 z (cur1 L) = V (cur1 L) := fun z => upd_other _ _ (by rcases cur1_cases L with h | h | h <;> rw [h] <;> omega)
    have T := hS.tw e18
    rw [k0, e9] at T
    have own := T.o2 rfl
    rw [show rowN K M 9 = 0 from rfl, show rowL a b c d 9 = [] from rfl] at own
    obtain ⟨A2, c2, w2, r1, r2, r3, r4⟩ := eh_append (dst := some 132) (pos := _) (after := _) (guard := none) (hF.eval (j := 9) (by decide) rfl) ((hF.eval (j := 12) (by decide) rfl).trans (hS.pv 12 (by decide) (by decide) (by decide) (by decide) (by decide) (by decide) (by decide) qs)) own (rc.below hS.low) (by omega) hle
    refine ⟨_, _, w2, rfl, rfl, rfl, r1, fun j a1 a2 a3 a4 a5 a6 a7 hl => by rw [upd_other _ _ a5] at hl ⊢; exact hS.pv j a1 a2 a3 a4 a5 a6 a7 hl, fun _ => ?_, fun hl => ?_, hS.low.grown r3 hle (fun g e => (own.lt g e).1)⟩
    · rw [k1, k2, v2, show upd L 13 true 9 = true from e9]
      exact T.app2 r2 r3 r4
    · rw [show upd L 13 true 18 = L 18 from rfl, e18] at hl; cases hl
  · exact ⟨_, _, w, rfl, rfl, rfl, ey_move (hF.evalLow (t := 16) (by decide) h16), hS.pure (i := 14) (by decide)⟩
  · exact ⟨_, _, w, rfl, rfl, rfl, ey_move (hF.evalLow (t := 6) (by decide) h6), hS.pure (i := 15) (by decide)⟩
  · exact ⟨_, _, w, rfl, rfl, rfl, hM ▸ ei_back ((hF.eval (j := 14) (by decide) rfl).trans (hS.pv 14 (by decide) (by decide) (by decide) (by decide) (by decide) (by decide) (by decide) (hafter 0 ⟨14, .data⟩ rfl rfl))) ((hF.eval (j := 15) (by decide) rfl).trans (hS.pv 15 (by decide) (by decide) (by decide) (by decide) (by decide) (by decide) (by decide) (hafter 1 ⟨15, .data⟩ rfl rfl))) hKn, hS.pure (i := 16) (by decide)⟩
  · have qs := (hafter 1 ⟨16, .data⟩ rfl rfl)
    have e13 := (hafter 0 ⟨13, .data⟩ rfl rfl)
    have e9 := c13 e13
    have e18 := no c18' hL
    have k0 : cur2 L = 13 := by unfold cur2; rw [hL, e13]; rfl
    have k2 : cur2 (upd L 17 true) = 17 := rfl
    have k1 : cur1 (upd L 17 true) = cur1 L := rfl
    have v2 : ∀ z, upd V 17 z (cur1 L) = V (cur1 L) := fun z => upd_other _ _ (by rcases cur1_cases L with h | h | h <;> rw [h] <;> omega)
    have T := hS.tw e18
    rw [k0, e9] at T
    have own := T.o2 rfl
    rw [show rowN K M 13 = 0 + M from rfl, show rowL a b c d 13 = [] ++ c from rfl] at own
    obtain ⟨A2, c2, w2, r1, r2, r3, r4⟩ := eh_append (dst := some 136) (pos := _) (after := _) (guard := none) (hF.eval (j := 13) (by decide) rfl) ((hF.eval (j := 16) (by decide) rfl).trans (hS.pv 16 (by decide) (by decide) (by decide) (by decide) (by decide) (by decide) (by decide) qs)) own (rd.below hS.low) (by omega) hle
    refine ⟨_, _, w2, rfl, rfl, rfl, r1, fun j a1 a2 a3 a4 a5 a6 a7 hl => by rw [upd_other _ _ a6] at hl ⊢; exact hS.pv j a1 a2 a3 a4 a5 a6 a7 hl, fun _ => ?_, fun hl => ?_, hS.low.grown r3 hle (fun g e => (own.lt g e).1)⟩
    · rw [k1, k2, v2, show upd L 17 true 9 = true from e9]
      exact T.app2 r2 r3 r4
    · rw [show upd L 17 true 18 = L 18 from rfl, e18] at hl; cases hl
  · have e8 := (hafter 0 ⟨8, .data⟩ rfl rfl)
    have e17 := (hafter 1 ⟨17, .data⟩ rfl rfl)
    have e0 := c4 (c8 e8)
    have e9 := c13 (c17 e17)
    have k1 : cur1 L = 8 := by unfold cur1; rw [e8]; rfl
    have k2 : cur2 L = 17 := by unfold cur2; rw [e17]; rfl
    have T := hS.tw hL
    rw [k1, k2, e0, e9] at T
    have own := T.o1 rfl
    have own2 := T.o2 rfl
    rw [show rowN K M 8 = 0 + K + K from rfl, show rowL a b c d 8 = [] ++ a ++ b from rfl] at own
    rw [show rowN K M 17 = 0 + M + M from rfl, show rowL a b c d 17 = [] ++ c ++ d from rfl] at own2
    obtain ⟨A3, c3, hv3⟩ := ownsRow_shape own2
    have R3 := Rd.of_own (hv3 ▸ own2)
    obtain ⟨A2, c2, w2, r1, r2, r3, r4⟩ := eh_append (dst := some 137) (pos := _) (after := _) (guard := none) (hF.eval (j := 8) (by decide) rfl) ((hF.eval (j := 17) (by decide) rfl).trans hv3) own R3 (by omega) hle
    refine ⟨_, _, w2, rfl, rfl, rfl, r1, fun j a1 a2 a3 a4 a5 a6 a7 hl => by rw [upd_other _ _ a7] at hl ⊢; exact hS.pv j a1 a2 a3 a4 a5 a6 a7 hl, fun hl => (by cases hl), fun _ => ⟨A2, c2, rfl, r2⟩, hS.low.grown r3 hle (fun g e => (own.lt g e).1)⟩
theorem h20_last : ((hOps20[19]?).map fun o => (List.range 19).all fun j => o.after.any fun e => Region.binds .any e && (e.on == j)) = some true := by kernel_rfl
set_option maxHeartbeats 4000000 in
theorem h20_wp {H : Nat} {W8 : World} {K M n id : Nat} {a b c d : List Int} {Ai Ap : Option Addr} {ci cp : Nat} {a0 : Act} {Q : Exit → Act → World → Prop}
    (h15 : a0.tmps.getD 15 undef = .slice Ai n ci) (h16 : a0.tmps.getD 16 undef = .slice Ap n cp) (h6 : a0.tmps.getD 6 undef = .int .i64 (K : Int)) (hM : n - K = M) (hKn : K ≤ n) (hci : n ≤ ci) (hcp : n ≤ cp) (hn : n ≤ 100000)
    (ra : Rd .u8 W8 H Ai K a) (rb : Rd .u8 W8 H Ap K b) (rc : Rd .u8 W8 H (if ci = K then Ai else Ai.map (·.add K)) M c) (rd : Rd .u8 W8 H (if cp = K then Ap else Ap.map (·.add K)) M d) (hH : H ≤ W8.heap.size) (hsz : a0.tmps.size = 154)
    (hq : ∀ (a1 : Act) (w' : World) (A : Option Addr) (c' : Nat), (∀ t, t < 119 ∨ 138 ≤ t → t ≠ 18 → a1.tmps.getD t undef = a0.tmps.getD t undef) → a1.tmps.size = a0.tmps.size → a1.defers = a0.defers → a1.tmps.getD 18 undef = .slice A (0 + K + K + (0 + M + M)) c' →
      w'.ownsRow H 5 1 (.slice A (0 + K + K + (0 + M + M)) c') (0 + K + K + (0 + M + M)) (([] ++ a ++ b ++ ([] ++ c ++ d)).map (Value.int .u8)) → Below H W8 w' → Q .normal a1 w') :
    (Code.region id hOps20 true).wp Tryd.prog Q a0 W8 := by
  refine wp_region_any (by kernel_rfl) ?_
  change wpAny _ _ _ _ _ _ a0 W8.drew
  refine wpAny_stepsC (N := 19) (base := 119) (by rw [hOps20_size]; decide) hOps20_rd (by rw [hsz]; decide) ?rest (RG H W8 K M a b c d (plG (.slice Ai n ci) (.slice Ap n cp) (.slice Ai K ci) (.slice Ap K cp) (.slice (if ci = K then Ai else Ai.map (·.add K)) M (ci - K)) (.slice (if cp = K then Ap else Ap.map (·.add K)) M (cp - K)) K)) ?step ?last (fun j => a0.tmps.getD (119 + j) undef) ?h0 (fun _ _ => rfl)
  case rest =>
    intro i o L hi ho hC hl j hj
    have hi2 := (Array.getElem?_eq_some_iff.1 ho).1
    rw [hOps20_size] at hi2
    obtain rfl : i = 19 := by omega
    have hk := h20_last
    rw [ho] at hk
    simp only [Option.map_some, Option.some.injEq, List.all_eq_true, List.mem_range, Array.any_eq_true, Bool.and_eq_true, beq_iff_eq] at hk
    obtain ⟨t, ht, h1, h2⟩ := hk j hj
    rw [← h2]
    exact hl _ (Array.getElem_mem ht) h1
  case h0 => exact ⟨fun _ _ _ _ _ _ _ _ h => (by cases h), fun _ => ⟨fun h => (by cases h), fun h => (by cases h), fun h => (by cases h)⟩, fun h => (by cases h), (Below.refl _ _).drew⟩
  case step =>
    intro i L V a1 w hi hS hL hF hC hafter
    exact h20_step h15 h16 h6 hM hKn hci hcp hn ra rb rc rd hH i L V a1 w hi hS hL hF.toFrameAt hC (fun t e h hb => by
      obtain ⟨o, ho, he⟩ := Option.bind_eq_some_iff.1 h
      exact hafter o ho e (Array.mem_of_getElem? he) hb)
  case last =>
    intro L V a1 w hL hS hF
    obtain ⟨A, c', hv, hO⟩ := hS.fin (hL 18 (by decide))
    rw [hv] at hO
    have hev := (hF.eval (j := 18) (by decide) rfl).trans hv
    rw [show hOps20.size - 19 = 1 by rw [hOps20_size]]
    refine wpAny_one (N := 19) (by kernel_rfl) (by kernel_rfl) ?_
    refine wpOp_valueD (t := 18) rfl rfl rfl (ey_assign hev) ?_
    have hs18 : 18 < a1.tmps.size := by rw [hF.sz, hsz]; decide
    refine hq _ w A c' (fun t ht hne => ?_) ?_ hF.defers ?_ hO hS.low
    · simp only [Act.put, Array.getD_eq_getD_getElem?, Array.getElem?_setIfInBounds]
      rw [if_neg (Ne.symm hne), ← Array.getD_eq_getD_getElem?, ht.elim (hF.low t) (hF.high t), Array.getD_eq_getD_getElem?]
    · simp [Act.put, hF.sz]
    · simp only [Act.put, Array.getD_eq_getD_getElem?, Array.getElem?_setIfInBounds, if_true]
      rw [if_pos hs18]
      rfl
end Go.Proofs.YtbpkoilecdejiaaDoor
