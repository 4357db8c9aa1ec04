/-
  The region of places's iterator that yields twice. A range over an encoder's steps; the region that yields twice, with its exit. places's iterator. places's iterator, the whole. A range over places's iterator.
-/
import Derived.Test.YtbpkoilecdejiaaDoorU9
import Derived.Test.YtbpkoilecdejiaaDoorGi
namespace Go.Proofs.YtbpkoilecdejiaaDoor
/-! ### The region of places's iterator that yields twice. -/
section
set_option maxRecDepth 100000
open Go.RowKit Go.Shelf BigFrame

attribute [local go_sem] Oper.semAt_some

noncomputable def opsIn (id : Nat) : Code → Option (Array Oper)
  | .region i ops _ => if i = id then some ops else none
  | .seq a b => (opsIn id a).orElse fun _ => opsIn id b
  | .block _ c => opsIn id c
  | .loop c => opsIn id c
  | .scope c => opsIn id c
  | .rangeFunc _ _ a b => (opsIn id a).orElse fun _ => opsIn id b
  | _ => none
noncomputable def plOps : Array Oper := ((Tryd.f39.body.bind (opsIn 8)).getD #[])
theorem plOps_size : plOps.size = 14 := by kernel_rfl
theorem plOps_rd : readyB plOps plOps.size = true := by kernel_rfl
section
variable {P : Program} {ρ : Operand → Value} {w : World} {dst : Option Tmp} {ty : TypeId} {pos : String} {after : Array Edge} {guard : Option (Nat × Bool)} {x y : Operand}
theorem ex_load_yield {b lp : Nat} (hx : ρ x = .pointer (some ⟨b, 0, none⟩)) (hc : w.cell? ⟨b, 0, none⟩ = some (.func (.yield lp) #[] #[])) :
    (execOp ρ { dst := dst, op := .load 73 x, type := ty, pos := pos, after := after, guard := guard }).run Tryd.prog w = .ok (.value (.func (.yield lp) #[] #[])) w := by
  simp [execOp, hx, hc, go_sem]
theorem ex_not {b : Bool} (hx : ρ x = .bool b) : (execOp ρ { dst := dst, op := .unOp .not 4 x, type := ty, pos := pos, after := after, guard := guard }).run P w = .ok (.value (.bool (!b))) w := by
  simp [execOp, hx, go_sem]
theorem ex_pick {c a b : Operand} {t : Bool} {u v : Value} (hc : ρ c = .bool t) (ha : ρ a = u) (hb : ρ b = v) : (execOp ρ { dst := dst, op := .pick c a b, type := ty, pos := pos, after := after, guard := guard }).run P w = .ok (.value (if t then u else v)) w := by
  simp [execOp, hc, ha, hb, asBool]
theorem ex_field0 {b : Nat} (hx : ρ x = .pointer (some ⟨b, 0, none⟩)) :
    (execOp ρ { dst := dst, op := .fieldAddr 68 x 0, type := ty, pos := pos, after := after, guard := guard }).run Tryd.prog w = .ok (.value (.pointer (some ⟨b, 0, none⟩))) w := by
  simp [execOp, hx, go_sem]
theorem ex_yield {lp : Nat} {f a b : Operand} {u v : Value} {fn tmps} {assign body : Code} (hf : ρ f = .func (.yield lp) #[] #[]) (ha : ρ a = u) (hb : ρ b = v) (hy : (Instr.yield lp #[u, v]).run Tryd.prog w = .ok (.round lp fn tmps assign body) w) :
    (execOp ρ { dst := dst, op := .call { callee := .value f, args := #[a, b], argTypes := #[3, 5] }, type := ty, pos := pos, after := after, guard := guard }).run Tryd.prog w = .ok (.round lp fn tmps assign body) w := by
  simp [execOp, resolve, hf, ha, hb, invoke, go_sem, hy]
theorem ex_encode {a b : Operand} {u v : Value} (hf : ρ (.func 42) = .func (.func 42) #[] #[]) (ha : ρ a = u) (hb : ρ b = v) :
    (execOp ρ { dst := dst, op := .call { callee := .value (.func 42), args := #[a, b], argTypes := #[66, 5] }, type := ty, pos := pos, after := after, guard := guard }).run Tryd.prog w = .ok (.enter 42 #[u, v]) w := by
  simp [execOp, resolve, hf, ha, hb, invoke, go_sem]
end
/-- Where the region is: what is known of the values and of the world. -/
structure PlS (Fy : Value) (x y : Int) (u p : Nat) (Ep : Value) (P0 P1 P2 P3 PX : World → Prop) (L : Nat → Bool) (V : Nat → Value) (w : World) : Prop where
  v0 : L 0 = true → V 0 = Fy
  v1 : L 1 = true → V 1 = .int .i64 x
  v2 : L 2 = true → V 2 = .int .u8 (u : Int)
  dep : L 3 = true → L 0 = true ∧ L 1 = true ∧ L 2 = true
  no : L 3 = false → P0 w ∧ ∀ j, 3 < j → L j = false
  o12 : L 12 = true → L 11 = true
  o13 : L 13 = true → L 12 = true
  yes : L 3 = true → ∃ b, V 3 = .bool b ∧ (L 4 = true → V 4 = .bool (!b)) ∧ (L 5 = true → V 5 = .bool (!b)) ∧ (b = false → PX w ∧ (L 13 = true → V 13 = .bool true)) ∧
    (b = true → (L 6 = true → V 6 = Fy) ∧ (L 7 = true → V 7 = .int .i64 y) ∧ (L 8 = true → V 8 = Ep) ∧ (L 9 = true → V 9 = .int .u8 (u : Int)) ∧
      (L 10 = false → P1 w ∧ L 11 = false) ∧ (L 10 = true → V 10 = .int .u8 (p : Int) ∧ (L 11 = false → P2 w)) ∧
      (L 11 = true → (L 10 = true ∧ L 6 = true) ∧ ∃ b2, V 11 = .bool b2 ∧ (b2 = true → P3 w) ∧ (b2 = false → PX w) ∧ (L 12 = true → V 12 = .bool (!b2)) ∧ (L 13 = true → V 13 = .bool (!b2))))
section
variable {Fy : Value} {x y : Int} {u p : Nat} {Ep : Value} {P0 P1 P2 P3 PX : World → Prop} {L : Nat → Bool} {V : Nat → Value} {w w' : World}
theorem PlS.low {i : Nat} {v : Value} (h : PlS Fy x y u p Ep P0 P1 P2 P3 PX L V w) (hi : i < 3) (hL : L i = false) (h0 : i = 0 → v = Fy) (h1 : i = 1 → v = .int .i64 x) (h2 : i = 2 → v = .int .u8 (u : Int)) : PlS Fy x y u p Ep P0 P1 P2 P3 PX (upd L i true) (upd V i v) w := by
  have h3 : L 3 = false := by
    rcases hb : L 3 with _ | _
    · rfl
    · obtain ⟨a, b, c⟩ := h.dep hb
      have : i = 0 ∨ i = 1 ∨ i = 2 := by omega
      rcases this with rfl | rfl | rfl
      · rw [a] at hL; cases hL
      · rw [b] at hL; cases hL
      · rw [c] at hL; cases hL
  have e3 : upd L i true 3 = L 3 := upd_other _ _ (by omega)
  refine ⟨fun hl => ?_, fun hl => ?_, fun hl => ?_, fun hl => ?_, fun _ => ⟨(h.no h3).1, fun j hj => ?_⟩, ?_, ?_, fun hl => ?_⟩
  · by_cases e : 0 = i
    · subst e; rw [upd_same]; exact h0 rfl
    · rw [upd_other _ _ e] at hl ⊢; exact h.v0 hl
  · by_cases e : 1 = i
    · subst e; rw [upd_same]; exact h1 rfl
    · rw [upd_other _ _ e] at hl ⊢; exact h.v1 hl
  · by_cases e : 2 = i
    · subst e; rw [upd_same]; exact h2 rfl
    · rw [upd_other _ _ e] at hl ⊢; exact h.v2 hl
  · rw [e3, h3] at hl; cases hl
  · rw [upd_other _ _ (by omega)]; exact (h.no h3).2 j hj
  · rw [upd_other _ _ (by omega), upd_other _ _ (by omega)]; exact h.o12
  · rw [upd_other _ _ (by omega), upd_other _ _ (by omega)]; exact h.o13
  · rw [e3, h3] at hl; cases hl
theorem PlS.three {j : Nat} (h : PlS Fy x y u p Ep P0 P1 P2 P3 PX L V w) (hj : 3 < j) (hl : L j = true) : L 3 = true := by
  rcases hb : L 3 with _ | _
  · rw [(h.no hb).2 j hj] at hl; cases hl
  · rfl
/-- Behind the first yield. -/
def PlY (Fy : Value) (y : Int) (u p : Nat) (Ep : Value) (P1 P2 P3 PX : World → Prop) (L : Nat → Bool) (V : Nat → Value) (w : World) : Prop := ∃ b, V 3 = .bool b ∧ (L 4 = true → V 4 = .bool (!b)) ∧ (L 5 = true → V 5 = .bool (!b)) ∧ (b = false → PX w ∧ (L 13 = true → V 13 = .bool true)) ∧
    (b = true → (L 6 = true → V 6 = Fy) ∧ (L 7 = true → V 7 = .int .i64 y) ∧ (L 8 = true → V 8 = Ep) ∧ (L 9 = true → V 9 = .int .u8 (u : Int)) ∧
      (L 10 = false → P1 w ∧ L 11 = false) ∧ (L 10 = true → V 10 = .int .u8 (p : Int) ∧ (L 11 = false → P2 w)) ∧
      (L 11 = true → (L 10 = true ∧ L 6 = true) ∧ ∃ b2, V 11 = .bool b2 ∧ (b2 = true → P3 w) ∧ (b2 = false → PX w) ∧ (L 12 = true → V 12 = .bool (!b2)) ∧ (L 13 = true → V 13 = .bool (!b2))))
theorem PlS.high {i : Nat} {v : Value} (h : PlS Fy x y u p Ep P0 P1 P2 P3 PX L V w) (hi : 3 < i) (h3 : L 3 = true) (hy : PlY Fy y u p Ep P1 P2 P3 PX (upd L i true) (upd V i v) w') (g12 : i = 12 → L 11 = true := by intro h; cases h) (g13 : i = 13 → L 12 = true := by intro h; cases h) : PlS Fy x y u p Ep P0 P1 P2 P3 PX (upd L i true) (upd V i v) w' := by
  have e : ∀ j, j < 4 → upd L i true j = L j := fun j hj => upd_other _ _ (by omega)
  have f : ∀ j, j < 4 → upd V i v j = V j := fun j hj => upd_other _ _ (by omega)
  refine ⟨?_, ?_, ?_, ?_, ?_, fun hl => ?_, fun hl => ?_, fun _ => hy⟩
  · rw [e 0 (by decide), f 0 (by decide)]; exact h.v0
  · rw [e 1 (by decide), f 1 (by decide)]; exact h.v1
  · rw [e 2 (by decide), f 2 (by decide)]; exact h.v2
  · rw [e 3 (by decide), e 0 (by decide), e 1 (by decide), e 2 (by decide)]; exact h.dep
  · rw [e 3 (by decide), h3]; intro hl; cases hl
  · by_cases e11 : 11 = i
    · subst e11; exact upd_same _ _ _
    · rw [upd_other _ _ e11]
      by_cases e12 : 12 = i
      · exact g12 e12.symm
      · rw [upd_other _ _ e12] at hl; exact h.o12 hl
  · by_cases e12 : 12 = i
    · subst e12; exact upd_same _ _ _
    · rw [upd_other _ _ e12]
      by_cases e13 : 13 = i
      · exact g13 e13.symm
      · rw [upd_other _ _ e13] at hl; exact h.o13 hl
end
theorem lt14 {i : Nat} (h : i < 14) : i = 0 ∨ i = 1 ∨ i = 2 ∨ i = 3 ∨ i = 4 ∨ i = 5 ∨ i = 6 ∨ i = 7 ∨ i = 8 ∨ i = 9 ∨ i = 10 ∨ i = 11 ∨ i = 12 ∨ i = 13 := by omega
/-- What a round that yields is told by its caller. -/
def YRet (Pt Pf : World → Prop) (e : Ending) (w : World) : Prop := (e = .returned (.bool true) ∧ Pt w) ∨ (e = .returned (.bool false) ∧ Pf w)
set_option maxHeartbeats 4000000 in
theorem pl_step {m lp l2 Y E : Nat} {a0 : Act} {x y : Int} {u p : Nat} {P0 P1 P2 P3 PX : World → Prop} {Q : Exit → Act → World → Prop} (hsz : a0.tmps.size = 38)
    (h2 : a0.tmps.getD 2 undef = .pointer (some ⟨Y, 0, none⟩)) (h4 : a0.tmps.getD 4 undef = .pointer (some ⟨E, 0, none⟩)) (h5 : a0.tmps.getD 5 undef = .int .i64 x) (h6 : a0.tmps.getD 6 undef = .int .i64 y) (h7 : a0.tmps.getD 7 undef = .int .u8 (u : Int))
    (b0 : ∀ w, P0 w → w.cell? ⟨Y, 0, none⟩ = some (.func (.yield lp) #[] #[])) (b1 : ∀ w, P1 w → w.cell? ⟨Y, 0, none⟩ = some (.func (.yield lp) #[] #[])) (b2 : ∀ w, P2 w → w.cell? ⟨Y, 0, none⟩ = some (.func (.yield lp) #[] #[]))
    (hY1 : ∀ w, P0 w → YieldAt Fence.wide m Tryd.prog lp #[.int .i64 x, .int .u8 (u : Int)] w (YRet P1 PX)) (hE : ∀ w, P1 w → Calls Tryd.prog 42 #[.pointer (some ⟨E, 0, none⟩), .int .u8 (u : Int)] w fun e w' => e = .returned (.int .u8 (p : Int)) ∧ P2 w')
    (hY2 : ∀ w, P2 w → YieldAt Fence.wide m Tryd.prog lp #[.int .i64 y, .int .u8 (p : Int)] w (YRet P3 PX))
    (i : Nat) (L : Nat → Bool) (V : Nat → Value) (a : Act) (w : World) (K : Act → World → Prop) (hi : i < 14) (hS : PlS (.func (.yield lp) #[] #[]) x y u p (.pointer (some ⟨E, 0, none⟩)) P0 P1 P2 P3 PX L V w) (hL : L i = false) (hF : FrameAt 23 a0 a V 14)
    (hafter : ∀ (t : Nat) (e : Edge), ((plOps[i]?).bind fun o => o.after[t]?) = some e → Region.binds .any e = true → L e.on = true)
    (hK : ∀ v w', PlS (.func (.yield lp) #[] #[]) x y u p (.pointer (some ⟨E, 0, none⟩)) P0 P1 P2 P3 PX (upd L i true) (upd V i v) w' → K (a.put (some (23 + i)) v) w') : wpOpIn (Fence.wide.inRound l2) m Tryd.prog plOps Q i K a w := by
  have hFn : ∀ f, (Fence.wide.inRound l2).fn f := fun _ => trivial
  have hwt : ∀ {o : Oper} {b : Bool}, o.guard = some (5, false) → V 5 = .bool (!b) → Region.wanted o (yielded plOps a.tmps) = b := fun {o b} hg hv => by
    have := wanted_at (ops := plOps) (a := a) (j := 5) (t := 28) (want := false) (b := !b) hg rfl rfl (by rw [hF.sz, hsz]; decide) ((hF.at_ 5 (by decide)).trans hv)
    rw [this]
    cases b <;> rfl
  have hc := lt14 hi
  rcases hc with rfl | rfl | rfl | rfl | rfl | rfl | rfl | rfl | rfl | rfl | rfl | rfl | rfl | rfl
  · have h3 : L 3 = false := by
      rcases hb : L 3 with _ | _
      · rfl
      · rw [(hS.dep hb).1] at hL; cases hL
    exact wpOpIn_value hFn rfl (wanted_none rfl) (fun c h => by cases h) (ex_load_yield (hF.evalLow (t := 2) (by decide) h2) (b0 w (hS.no h3).1)) (hK _ _ (hS.low (by decide) hL (fun _ => rfl) (fun h => by cases h) (fun h => by cases h)))
  · exact wpOpIn_value hFn rfl (wanted_none rfl) (fun c h => by cases h) (ex_move (hF.evalLow (t := 5) (by decide) h5)) (hK _ _ (hS.low (by decide) hL (fun h => by cases h) (fun _ => rfl) (fun h => by cases h)))
  · exact wpOpIn_value hFn rfl (wanted_none rfl) (fun c h => by cases h) (ex_move (hF.evalLow (t := 7) (by decide) h7)) (hK _ _ (hS.low (by decide) hL (fun h => by cases h) (fun h => by cases h) (fun _ => rfl)))
  · have q0 := hafter 0 ⟨0, .data⟩ rfl rfl
    have q1 := hafter 1 ⟨1, .data⟩ rfl rfl
    have q2 := hafter 2 ⟨2, .data⟩ rfl rfl
    obtain ⟨hp, hno⟩ := hS.no hL
    obtain ⟨fn, tmps, assign, body, hy, hR⟩ := yield_any (l2 := l2) (m' := m - 1) (hY1 w hp)
    refine wpOpIn_round (R := YRet P1 PX) hFn (fun h => by cases h) rfl (wanted_none rfl) (fun c h => by cases h) (ex_yield ((hF.eval (j := 0) (by decide) rfl).trans (hS.v0 q0)) ((hF.eval (j := 1) (by decide) rfl).trans (hS.v1 q1)) ((hF.eval (j := 2) (by decide) rfl).trans (hS.v2 q2)) hy) hR ?_ (fun c w' h => by rcases h with ⟨h, _⟩ | ⟨h, _⟩ <;> cases h) (fun w' h => by rcases h with ⟨h, _⟩ | ⟨h, _⟩ <;> cases h)
    have fl : ∀ j, 3 < j → upd L 3 true j = false := fun j hj => (upd_other _ _ (by omega)).trans (hno j hj)
    have vac : ∀ {j : Nat} {X : Prop}, 3 < j → upd L 3 true j = true → X := fun hj h => by rw [fl _ hj] at h; cases h
    have mk : ∀ (b : Bool) (w' : World), (b = true → P1 w') → (b = false → PX w') → PlS (.func (.yield lp) #[] #[]) x y u p (.pointer (some ⟨E, 0, none⟩)) P0 P1 P2 P3 PX (upd L 3 true) (upd V 3 (.bool b)) w' := fun b w' g1 g2 =>
      ⟨hS.v0, hS.v1, hS.v2, fun _ => ⟨q0, q1, q2⟩, fun h => (by cases h), fun h => vac (j := 12) (by decide) h, fun h => vac (j := 13) (by decide) h, fun _ => ⟨b, rfl, fun h => vac (j := 4) (by decide) h, fun h => vac (j := 5) (by decide) h, fun h => ⟨g2 h, fun h => vac (j := 13) (by decide) h⟩,
        fun h => ⟨fun h => vac (j := 6) (by decide) h, fun h => vac (j := 7) (by decide) h, fun h => vac (j := 8) (by decide) h, fun h => vac (j := 9) (by decide) h, fun _ => ⟨g1 h, fl 11 (by decide)⟩, fun h => vac (j := 10) (by decide) h, fun h => vac (j := 11) (by decide) h⟩⟩⟩
    rintro v w' (⟨h, hp1⟩ | ⟨h, hpx⟩)
    · injection h with h
      subst h
      exact hK _ _ (mk true w' (fun _ => hp1) (fun h => by cases h))
    · injection h with h
      subst h
      exact hK _ _ (mk false w' (fun h => by cases h) (fun _ => hpx))
  · have q3 := hafter 0 ⟨3, .data⟩ rfl rfl
    obtain ⟨b, e3, q4, q5, qf, qt⟩ := hS.yes q3
    exact wpOpIn_value hFn rfl (wanted_none rfl) (fun c h => by cases h) (ex_not ((hF.eval (j := 3) (by decide) rfl).trans e3)) (hK _ _ (hS.high (by decide) q3 ⟨b, e3, fun _ => rfl, q5, qf, qt⟩))
  · have q4 := hafter 0 ⟨4, .data⟩ rfl rfl
    have q3 := hS.three (j := 4) (by decide) q4
    obtain ⟨b, e3, e4, q5, qf, qt⟩ := hS.yes q3
    exact wpOpIn_value hFn rfl (wanted_none rfl) (fun c h => by cases h) (ex_move ((hF.eval (j := 4) (by decide) rfl).trans (e4 q4))) (hK _ _ (hS.high (by decide) q3 ⟨b, e3, e4, fun _ => rfl, qf, qt⟩))
  · have q5 := hafter 0 ⟨5, .guard⟩ rfl rfl
    have q3 := hS.three (j := 5) (by decide) q5
    obtain ⟨b, e3, e4, e5, qf, qt⟩ := hS.yes q3
    have hw := hwt (o := plOps[6]) rfl (e5 q5)
    cases b
    · exact wpOpIn_unwanted hFn rfl hw (hK _ _ (hS.high (by decide) q3 ⟨false, e3, e4, e5, qf, fun h => by cases h⟩))
    · obtain ⟨v6, v7, v8, v9, n10, v10, v11⟩ := qt rfl
      have h11 : L 11 = false := by
        rcases hb : L 11 with _ | _
        · rfl
        · rw [(v11 hb).1.2] at hL; cases hL
      have hcell : w.cell? ⟨Y, 0, none⟩ = some (.func (.yield lp) #[] #[]) := by
        rcases hb : L 10 with _ | _
        · exact b1 w (n10 hb).1
        · exact b2 w ((v10 hb).2 h11)
      exact wpOpIn_value hFn rfl hw (fun c h => by cases h) (ex_load_yield (hF.evalLow (t := 2) (by decide) h2) hcell) (hK _ _ (hS.high (by decide) q3 ⟨true, e3, e4, e5, fun h => (by cases h), fun _ => ⟨fun _ => rfl, v7, v8, v9, n10, v10, fun h => ⟨⟨(v11 h).1.1, rfl⟩, (v11 h).2⟩⟩⟩))
  · have q5 := hafter 0 ⟨5, .guard⟩ rfl rfl
    have q3 := hS.three (j := 5) (by decide) q5
    obtain ⟨b, e3, e4, e5, qf, qt⟩ := hS.yes q3
    have hw := hwt (o := plOps[7]) rfl (e5 q5)
    cases b
    · exact wpOpIn_unwanted hFn rfl hw (hK _ _ (hS.high (by decide) q3 ⟨false, e3, e4, e5, qf, fun h => by cases h⟩))
    · obtain ⟨v6, v7, v8, v9, n10, v10, v11⟩ := qt rfl
      exact wpOpIn_value hFn rfl hw (fun c h => by cases h) (ex_move (hF.evalLow (t := 6) (by decide) h6)) (hK _ _ (hS.high (by decide) q3 ⟨true, e3, e4, e5, fun h => (by cases h), fun _ => ⟨v6, fun _ => rfl, v8, v9, n10, v10, v11⟩⟩))
  · have q5 := hafter 0 ⟨5, .guard⟩ rfl rfl
    have q3 := hS.three (j := 5) (by decide) q5
    obtain ⟨b, e3, e4, e5, qf, qt⟩ := hS.yes q3
    have hw := hwt (o := plOps[8]) rfl (e5 q5)
    cases b
    · exact wpOpIn_unwanted hFn rfl hw (hK _ _ (hS.high (by decide) q3 ⟨false, e3, e4, e5, qf, fun h => by cases h⟩))
    · obtain ⟨v6, v7, v8, v9, n10, v10, v11⟩ := qt rfl
      exact wpOpIn_value hFn rfl hw (fun c h => by cases h) (ex_field0 (hF.evalLow (t := 4) (by decide) h4)) (hK _ _ (hS.high (by decide) q3 ⟨true, e3, e4, e5, fun h => (by cases h), fun _ => ⟨v6, v7, fun _ => rfl, v9, n10, v10, v11⟩⟩))
  · have q5 := hafter 0 ⟨5, .guard⟩ rfl rfl
    have q3 := hS.three (j := 5) (by decide) q5
    obtain ⟨b, e3, e4, e5, qf, qt⟩ := hS.yes q3
    have hw := hwt (o := plOps[9]) rfl (e5 q5)
    cases b
    · exact wpOpIn_unwanted hFn rfl hw (hK _ _ (hS.high (by decide) q3 ⟨false, e3, e4, e5, qf, fun h => by cases h⟩))
    · obtain ⟨v6, v7, v8, v9, n10, v10, v11⟩ := qt rfl
      exact wpOpIn_value hFn rfl hw (fun c h => by cases h) (ex_move (hF.evalLow (t := 7) (by decide) h7)) (hK _ _ (hS.high (by decide) q3 ⟨true, e3, e4, e5, fun h => (by cases h), fun _ => ⟨v6, v7, v8, fun _ => rfl, n10, v10, v11⟩⟩))
  · have q8 := hafter 0 ⟨8, .data⟩ rfl rfl
    have q9 := hafter 1 ⟨9, .data⟩ rfl rfl
    have q5 := hafter 2 ⟨5, .chain⟩ rfl rfl
    have q3 := hS.three (j := 5) (by decide) q5
    obtain ⟨b, e3, e4, e5, qf, qt⟩ := hS.yes q3
    have hw := hwt (o := plOps[10]) rfl (e5 q5)
    cases b
    · exact wpOpIn_unwanted hFn rfl hw (hK _ _ (hS.high (by decide) q3 ⟨false, e3, e4, e5, qf, fun h => by cases h⟩))
    · obtain ⟨v6, v7, v8, v9, n10, v10, v11⟩ := qt rfl
      obtain ⟨hp1, h11⟩ := n10 hL
      refine wpOpIn_enter hFn (fun h => by cases h) rfl hw (fun c h => by cases h) (ex_encode rfl ((hF.eval (j := 8) (by decide) rfl).trans (v8 q8)) ((hF.eval (j := 9) (by decide) rfl).trans (v9 q9))) (CallsIn.inRound l2 (callsIn_wide.2 (hE w hp1))) ?_ (fun c w' h => by cases h.1) (fun w' h => by cases h.1)
      rintro v w' ⟨h, hp2⟩
      injection h with h
      subst h
      exact hK _ _ (hS.high (by decide) q3 ⟨true, e3, e4, e5, fun h => (by cases h), fun _ => ⟨v6, v7, v8, v9, fun h => (by cases h), fun _ => ⟨rfl, fun _ => hp2⟩, fun h => (by rw [show upd L 10 true 11 = L 11 from rfl, h11] at h; cases h)⟩⟩)
  · have q6 := hafter 0 ⟨6, .data⟩ rfl rfl
    have q7 := hafter 1 ⟨7, .data⟩ rfl rfl
    have q10 := hafter 2 ⟨10, .data⟩ rfl rfl
    have q5 := hafter 4 ⟨5, .guard⟩ rfl rfl
    have q3 := hS.three (j := 5) (by decide) q5
    obtain ⟨b, e3, e4, e5, qf, qt⟩ := hS.yes q3
    have hw := hwt (o := plOps[11]) rfl (e5 q5)
    cases b
    · exact wpOpIn_unwanted hFn rfl hw (hK _ _ (hS.high (by decide) q3 ⟨false, e3, e4, e5, qf, fun h => by cases h⟩))
    · obtain ⟨v6, v7, v8, v9, n10, v10, v11⟩ := qt rfl
      obtain ⟨e10, hp2⟩ := v10 q10
      obtain ⟨fn, tmps, assign, body, hy, hR⟩ := yield_any (l2 := l2) (m' := m - 1) (hY2 w (hp2 hL))
      refine wpOpIn_round (R := YRet P3 PX) hFn (fun h => by cases h) rfl hw (fun c h => by cases h) (ex_yield ((hF.eval (j := 6) (by decide) rfl).trans (v6 q6)) ((hF.eval (j := 7) (by decide) rfl).trans (v7 q7)) ((hF.eval (j := 10) (by decide) rfl).trans e10) hy) hR ?_ (fun c w' h => by rcases h with ⟨h, _⟩ | ⟨h, _⟩ <;> cases h) (fun w' h => by rcases h with ⟨h, _⟩ | ⟨h, _⟩ <;> cases h)
      have h12 : L 12 = false := by
        rcases hb : L 12 with _ | _
        · rfl
        · rw [hS.o12 hb] at hL; cases hL
      have h13 : L 13 = false := by
        rcases hb : L 13 with _ | _
        · rfl
        · rw [hS.o13 hb] at h12; cases h12
      have mk : ∀ (b2 : Bool) (w' : World), (b2 = true → P3 w') → (b2 = false → PX w') → PlS (.func (.yield lp) #[] #[]) x y u p (.pointer (some ⟨E, 0, none⟩)) P0 P1 P2 P3 PX (upd L 11 true) (upd V 11 (.bool b2)) w' := fun b2 w' g1 g2 =>
        hS.high (by decide) q3 ⟨true, e3, e4, e5, fun h => (by cases h), fun _ => ⟨v6, v7, v8, v9, fun h => (by rw [show upd L 11 true 10 = L 10 from rfl, q10] at h; cases h), fun _ => ⟨e10, fun h => (by cases h)⟩, fun _ => ⟨⟨q10, q6⟩, b2, rfl, g1, g2, fun h => (by rw [show upd L 11 true 12 = L 12 from rfl, h12] at h; cases h), fun h => (by rw [show upd L 11 true 13 = L 13 from rfl, h13] at h; cases h)⟩⟩⟩
      rintro v w' (⟨h, hp1⟩ | ⟨h, hpx⟩)
      · injection h with h
        subst h
        exact hK _ _ (mk true w' (fun _ => hp1) (fun h => by cases h))
      · injection h with h
        subst h
        exact hK _ _ (mk false w' (fun h => by cases h) (fun _ => hpx))
  · have q11 := hafter 0 ⟨11, .data⟩ rfl rfl
    have q5 := hafter 1 ⟨5, .guard⟩ rfl rfl
    have q3 := hS.three (j := 5) (by decide) q5
    obtain ⟨b, e3, e4, e5, qf, qt⟩ := hS.yes q3
    have hw := hwt (o := plOps[12]) rfl (e5 q5)
    cases b
    · exact wpOpIn_unwanted hFn rfl hw (hK _ _ (hS.high (by decide) q3 ⟨false, e3, e4, e5, qf, fun h => by cases h⟩ (fun _ => q11)))
    · obtain ⟨v6, v7, v8, v9, n10, v10, v11⟩ := qt rfl
      obtain ⟨d, c2, e11, g1, g2, _, e13⟩ := v11 q11
      exact wpOpIn_value hFn rfl hw (fun c h => by cases h) (ex_not ((hF.eval (j := 11) (by decide) rfl).trans e11)) (hK _ _ (hS.high (by decide) q3 ⟨true, e3, e4, e5, fun h => (by cases h), fun _ => ⟨v6, v7, v8, v9, n10, v10, fun _ => ⟨d, c2, e11, g1, g2, fun _ => rfl, e13⟩⟩⟩ (fun _ => q11)))
  · have q5 := hafter 0 ⟨5, .data⟩ rfl rfl
    have q12 := hafter 1 ⟨12, .data⟩ rfl rfl
    have q3 := hS.three (j := 5) (by decide) q5
    obtain ⟨b, e3, e4, e5, qf, qt⟩ := hS.yes q3
    have hrun := ex_pick (P := Tryd.prog) (w := w) (dst := some 36) (ty := 4) (pos := "turbo.go:172") (after := #[{ on := 5, ground := Ground.data }, { on := 12, ground := Ground.data }]) (guard := none) (c := .tmp 28) (a := .const (.bool true)) (b := .tmp 35) ((hF.eval (j := 5) (by decide) rfl).trans (e5 q5)) rfl (hF.eval (j := 12) (by decide) rfl)
    cases b
    · exact wpOpIn_value hFn rfl (wanted_none rfl) (fun c h => by cases h) hrun (hK _ _ (hS.high (by decide) q3 ⟨false, e3, e4, e5, fun h => ⟨(qf h).1, fun _ => rfl⟩, fun h => by cases h⟩ (g13 := fun _ => q12)))
    · obtain ⟨v6, v7, v8, v9, n10, v10, v11⟩ := qt rfl
      have q11 := hS.o12 q12
      obtain ⟨d, c2, e11, g1, g2, e12, _⟩ := v11 q11
      rw [e12 q12] at hrun
      exact wpOpIn_value hFn rfl (wanted_none rfl) (fun c h => by cases h) hrun (hK _ _ (hS.high (by decide) q3 ⟨true, e3, e4, e5, fun h => (by cases h), fun _ => ⟨v6, v7, v8, v9, n10, v10, fun _ => ⟨d, c2, e11, g1, g2, e12, fun _ => rfl⟩⟩⟩ (g13 := fun _ => q12)))
end

/-! ### A range over an encoder's steps; the region that yields twice, with its exit. -/
section
set_option maxRecDepth 100000
open Go.RowKit Go.Shelf BigFrame

attribute [local go_sem] Oper.semAt_some

/-- A range over steps's iterator. -/
theorem wpIn_tsteps {n : Nat} (h1 : 2 ≤ n) {g : Operand} {pt : Array Tmp} {assign body : Code} {Q : Exit → Act → World → Prop} {a : Act} {w : World} {E K B : Nat} {z : Value} {A A' : Option Addr} {c c' : Nat} {ss ps : List Int} (hm : K ≤ 10000)
    (hg : a.eval g = .func (.func 47) #[] #[.pointer (some ⟨E, 0, none⟩)]) (hps : pt.size = 2)
    (I : Nat → World → Prop) (Ix : Code → World → Prop) (hI : OwnFrom w.heap.size I) (hIx : ∀ c, OwnFrom w.heap.size (fun (_ : Unit) => Ix c)) (hE : ∀ k W, I k W → Three W E 68 z (.slice A K c) (.slice A' K c')) (hR1 : ∀ k W, I k W → Rd .i64 W B A K ss) (hR2 : ∀ k W, I k W → Rd .i64 W B A' K ps) (h0 : I 0 w) (a₁ : Nat → Act)
    (hassign : ∀ (lp k : Nat) (W : World) (K : Act → World → Prop), K (a₁ k) W →
      assign.wpIn (Fence.wide.inRound lp) (n - 1 - 1) Tryd.prog (Exit.then K (fun _ _ _ => False)) { tmps := (pt.zip #[.int .i64 (ss[k]?.getD 0), .int .i64 (ps[k]?.getD 0)]).foldl (fun t (p, v) => t.setIfInBounds p v) a.tmps, defers := [] } W)
    (hbody : ∀ (lp k : Nat) (W : World), k < K → I k W → w.heap.size + 2 ≤ W.heap.size → body.wpIn (Fence.wide.inRound lp) (n - 1 - 1) Tryd.prog (stepPostQ w.heap.size I Ix (k + 1) W) (a₁ k) W)
    (hdone : ∀ (D : Nat) (W : World), D = w.heap.size → I K W → W.heap[D]? = some (.deferred (some [])) → Q .normal { a with defers := mkD D :: a.defers } W)
    (hstop : ∀ (D : Nat) (c : Code) (W : World), D = w.heap.size → Ix c W → W.heap[D]? = some (.deferred (some [])) → c.wpIn Fence.wide n Tryd.prog Q { a with defers := mkD D :: a.defers } W) :
    (Code.rangeFunc g pt assign body).wpIn Fence.wide n Tryd.prog Q a w := by
  refine wpIn_rangeFunc fun f0 hf0 => ?_
  obtain ⟨rc, hrc⟩ : ∃ rc : LoopState → Option Code → Obj, rc = fun st pe => .loop { state := st, pending := pe, fn := f0, tmps := a.tmps, params := pt, assign, body, defers := w.heap.size } := ⟨_, rfl⟩
  obtain ⟨L, hLp⟩ : ∃ L, w.heap.size + 1 = L := ⟨_, rfl⟩
  obtain ⟨W1, hW1⟩ : ∃ W1, (w.alloc (.deferred (some []))).alloc (rc .ready none) = W1 := ⟨_, rfl⟩
  have hsz : W1.heap.size = w.heap.size + 2 := by rw [← hW1]; simp
  have hrec1 : W1.heap[L]? = some (rc .ready none) := by
    have := World.alloc_heap_new (w.alloc (.deferred (some []))) (rc .ready none)
    rw [World.size_alloc, hLp] at this
    rw [← hW1]; exact this
  have hdef1 : W1.heap[w.heap.size]? = some (.deferred (some [])) := by
    rw [← hW1]; exact (Below.heap_alloc _ _ _ (by simp)).trans (World.alloc_heap_new w _)
  have hcell : ∀ st pe, (rc st pe).isCells = false := fun st pe => by rw [hrc]; rfl
  refine ⟨L, [mkD w.heap.size], W1, { target := .fn (.func 47) #[.pointer (some ⟨E, 0, none⟩)], args := #[.func (.yield L) #[] #[]] }, W1, 47, #[.func (.yield L) #[] #[]] ++ #[.pointer (some ⟨E, 0, none⟩)], W1, ?_, ?_, ?_, ?_, fun _ => by omega, ?_⟩
  · rw [← hW1, hrc, ← hLp]; exact run_enterLoop_outer _ _ _ _ _
  · simp only [resolve, hg]
    simp [go_sem]
  · intro f' _; trivial
  · simp [invoke, go_sem]
  refine (tsteps_runs (n := n - 1) (lp := L) (B := B) (ss := ss) (ps := ps) (by omega) hm (J := fun k W => I k W ∧ W.heap[L]? = some (rc .ready none) ∧ W.heap[w.heap.size]? = some (.deferred (some [])))
    (Jx := fun W => ∃ c, Ix c W ∧ W.heap[L]? = some (rc .done (some c)) ∧ W.heap[w.heap.size]? = some (.deferred (some []))) 
    (fun k W h => hE k W h.1) (fun k W h => hR1 k W h.1) (fun k W h => hR2 k W h.1)
    ?_ ⟨by rw [← hW1]; exact hI.alloc _ (hI.alloc _ h0), hrec1, hdef1⟩).mono ?_
  · rintro k W hkb ⟨hi, hl, hk⟩
    have hlt : L < W.heap.size := (Array.getElem?_eq_some_iff.1 hl).1
    have hl' := hl
    rw [hrc] at hl'
    refine ⟨f0, _, assign, body, run_yield hl' (by show 2 = pt.size; rw [hps]), roundIn_of_wpIn hf0 (hassign _ k W _ ⟨_, run_beginRound hl' rfl, ?_⟩)⟩
    obtain ⟨W2, hW2⟩ : ∃ W2, W.putObj L (rc .busy none) = W2 := ⟨_, rfl⟩
    have hl2 : W2.heap[L]? = some (rc .busy none) := by rw [← hW2]; exact World.putObj_heap_same hlt
    have hk2 : W2.heap[w.heap.size]? = some (.deferred (some [])) := by rw [← hW2]; exact (World.putObj_heap_other (by omega)).trans hk
    have hi2 : I k W2 := by rw [← hW2]; exact hI.putObj _ hi (by omega) hl (hcell _ _)
    have hs2 : W2.heap.size = W.heap.size := by rw [← hW2]; simp
    have hw2 : (W.putObj L (.loop { ({ state := .ready, pending := none, fn := f0, tmps := a.tmps, params := pt, assign, body, defers := w.heap.size } : Loop) with state := .busy })) = W2 := by rw [← hW2, hrc]
    rw [hw2]
    refine wpIn_mono (hbody _ k _ hkb hi2 (by omega)) ?_
    have fin : ∀ (jump : Option Code) (W3 : World), KeepsFrom w.heap.size W2 W3 → ∃ W4, (Instr.endRound L jump).run Tryd.prog W3 = .ok (.bool jump.isNone) W4 ∧ W4 = W3.putObj L (rc (if jump.isNone then .ready else .done) jump) ∧ W3.heap[L]? = some (rc .busy none) ∧
        W4.heap[L]? = some (rc (if jump.isNone then .ready else .done) jump) ∧ W4.heap[w.heap.size]? = some (.deferred (some [])) := fun jump W3 hk3 => by
      have hl3 := hk3.same _ _ (by omega) hl2 (hcell _ _)
      have hl3' := hl3
      rw [hrc] at hl3'
      have h5 := run_endRound (P := Tryd.prog) jump hl3'
      refine ⟨_, h5, by rw [hrc], hl3, ?_, ?_⟩
      · rw [hrc]; exact World.putObj_heap_same (Array.getElem?_eq_some_iff.1 hl3).1
      · exact (World.putObj_heap_other (by omega)).trans (hk3.same _ _ (Nat.le_refl _) hk2 rfl)
    rintro e a3 W3 hp
    cases e with
    | normal =>
      obtain ⟨hk3, hi3⟩ := hp
      obtain ⟨W4, hr, h4, hl3, hl4, hk4⟩ := fin none W3 hk3
      exact ⟨_, _, hr, .inl ⟨rfl, by rw [h4]; exact hI.putObj _ hi3 (by omega) hl3 (hcell _ _), hl4, hk4⟩⟩
    | ret =>
      obtain ⟨hk3, hi3⟩ := hp
      obtain ⟨W4, hr, h4, hl3, hl4, hk4⟩ := fin (some .ret) W3 hk3
      exact ⟨_, _, hr, .inr ⟨rfl, .ret, by rw [h4]; exact (hIx _).putObj (s := ()) _ hi3 (by omega) hl3 (hcell _ _), hl4, hk4⟩⟩
    | exit id =>
      obtain ⟨hk3, hi3⟩ := hp
      obtain ⟨W4, hr, h4, hl3, hl4, hk4⟩ := fin (some (.exit id)) W3 hk3
      exact ⟨_, _, hr, .inr ⟨rfl, .exit id, by rw [h4]; exact (hIx _).putObj (s := ()) _ hi3 (by omega) hl3 (hcell _ _), hl4, hk4⟩⟩
    | goto t =>
      obtain ⟨hk3, hi3⟩ := hp
      obtain ⟨W4, hr, h4, hl3, hl4, hk4⟩ := fin (some (.goto t)) W3 hk3
      exact ⟨_, _, hr, .inr ⟨rfl, .goto t, by rw [h4]; exact (hIx _).putObj (s := ()) _ hi3 (by omega) hl3 (hcell _ _), hl4, hk4⟩⟩
    | panic ch => exact hp.elim
    | outgrown => exact hp.elim
  · rintro e W2 ⟨⟨v, rfl⟩, (⟨hi, hl, hk⟩ | ⟨c, hi, hl, hk⟩)⟩
    · have hl' := hl
      rw [hrc] at hl'
      exact ⟨none, _, run_endLoop hl' (by simp), hdone _ _ rfl (hI.putObj _ hi (by omega) hl (hcell _ _)) ((World.putObj_heap_other (by omega)).trans hk)⟩
    · have hl' := hl
      rw [hrc] at hl'
      exact ⟨some c, _, run_endLoop hl' (by simp), hstop _ c _ rfl ((hIx c).putObj (s := ()) _ hi (by omega) hl (hcell _ _)) ((World.putObj_heap_other (by omega)).trans hk)⟩

set_option maxHeartbeats 1000000 in
theorem pl_region {m lp l2 Y E : Nat} {a0 : Act} {x y : Int} {u p : Nat} {P0 P1 P2 P3 PX : World → Prop} {Q : Exit → Act → World → Prop} {w : World} {id : Nat} (hsz : a0.tmps.size = 38)
    (h2 : a0.tmps.getD 2 undef = .pointer (some ⟨Y, 0, none⟩)) (h4 : a0.tmps.getD 4 undef = .pointer (some ⟨E, 0, none⟩)) (h5 : a0.tmps.getD 5 undef = .int .i64 x) (h6 : a0.tmps.getD 6 undef = .int .i64 y) (h7 : a0.tmps.getD 7 undef = .int .u8 (u : Int))
    (b0 : ∀ w, P0 w → w.cell? ⟨Y, 0, none⟩ = some (.func (.yield lp) #[] #[])) (b1 : ∀ w, P1 w → w.cell? ⟨Y, 0, none⟩ = some (.func (.yield lp) #[] #[])) (b2 : ∀ w, P2 w → w.cell? ⟨Y, 0, none⟩ = some (.func (.yield lp) #[] #[]))
    (hY1 : ∀ w, P0 w → YieldAt Fence.wide m Tryd.prog lp #[.int .i64 x, .int .u8 (u : Int)] w (YRet P1 PX)) (hE : ∀ w, P1 w → Calls Tryd.prog 42 #[.pointer (some ⟨E, 0, none⟩), .int .u8 (u : Int)] w fun e w' => e = .returned (.int .u8 (p : Int)) ∧ P2 w')
    (hY2 : ∀ w, P2 w → YieldAt Fence.wide m Tryd.prog lp #[.int .i64 y, .int .u8 (p : Int)] w (YRet P3 PX)) (h0 : P0 w.drew)
    (hq : ∀ (a : Act) (w : World) (b : Bool), a.eval (.tmp 36) = .bool b → (b = false → P3 w) → (b = true → PX w) → Q .normal a w) : (Code.region id plOps true).wpIn (Fence.wide.inRound l2) m Tryd.prog Q a0 w := by
  refine wpIn_region_any (by kernel_rfl) ?_
  change wpAnyIn _ _ _ _ _ _ _ _ a0 w.drew
  refine wpAnyIn_steps (base := 23) plOps_rd (by rw [plOps_size, hsz]; decide) (PlS (.func (.yield lp) #[] #[]) x y u p (.pointer (some ⟨E, 0, none⟩)) P0 P1 P2 P3 PX) ?step ?last (fun j => a0.tmps.getD (23 + j) undef) ?h0 (fun _ _ => rfl)
  case h0 => exact ⟨fun h => (by cases h), fun h => (by cases h), fun h => (by cases h), fun h => (by cases h), fun _ => ⟨h0, fun _ _ => rfl⟩, fun h => (by cases h), fun h => (by cases h), fun h => (by cases h)⟩
  case step =>
    intro i L V a w K hi hS hL hF hafter hK
    rw [plOps_size] at hi hF
    exact pl_step hsz h2 h4 h5 h6 h7 b0 b1 b2 hY1 hE hY2 i L V a w K hi hS hL hF (fun t e h hb => by
      obtain ⟨o, ho, he⟩ := Option.bind_eq_some_iff.1 h
      exact hafter o ho e (Array.mem_of_getElem? he) hb) hK
  case last =>
    intro L V a w hL hS hF
    rw [plOps_size] at hL hF
    obtain ⟨b, e3, e4, e5, qf, qt⟩ := hS.yes (hL 3 (by decide))
    cases b
    · exact hq a w true ((hF.eval (j := 13) (by decide) rfl).trans ((qf rfl).2 (hL 13 (by decide)))) (fun h => by cases h) (fun _ => (qf rfl).1)
    · obtain ⟨v6, v7, v8, v9, n10, v10, v11⟩ := qt rfl
      obtain ⟨_, c2, e11, g1, g2, e12, e13⟩ := v11 (hL 11 (by decide))
      refine hq a w (!c2) ((hF.eval (j := 13) (by decide) rfl).trans (e13 (hL 13 (by decide)))) (fun h => g1 ?_) (fun h => g2 ?_)
      · cases c2
        · cases h
        · rfl
      · cases c2
        · rfl
        · cases h
end

/-! ### places's iterator. -/
section
set_option maxRecDepth 100000
open Go.RowKit Go.Shelf BigFrame

attribute [local go_sem] Oper.semAt_some

/-- Of what lies from block B on nothing has turned. -/
def KeepsUp (B : Nat) (W W' : World) : Prop := W.heap.size ≤ W'.heap.size ∧ ∀ j, B ≤ j → j < W.heap.size → W'.heap[j]? = W.heap[j]?
theorem KeepsUp.refl (B : Nat) (W : World) : KeepsUp B W W := ⟨Nat.le_refl _, fun _ _ _ => rfl⟩
theorem KeepsUp.from {B : Nat} {W W' : World} (h : KeepsUp B W W') {B' : Nat} (hB : B ≤ B') : KeepsFrom B' W W' := ⟨h.1, fun k _ hk ho _ => (h.2 k (Nat.le_trans hB hk) (Array.getElem?_eq_some_iff.1 ho).1).trans ho⟩
/-- A list whose cells lie in the blocks from H to U. -/
def LstI (H U k : Nat) (xs : List Int) (v : Value) (w : World) : Prop := ∃ A c, v = .slice A k c ∧ Rd .i64 w U A k xs ∧ ∀ a, A = some a → H ≤ a.block
theorem LstI.keep {H U k : Nat} {xs : List Int} {v : Value} {w w' : World} (h : LstI H U k xs v w) (hk : ∀ b, H ≤ b → b < U → w'.heap[b]? = w.heap[b]?) : LstI H U k xs v w' := by
  obtain ⟨A, c, e, h1, h2⟩ := h
  refine ⟨A, c, e, ⟨h1.len, fun j hj => ?_⟩, h2⟩
  obtain ⟨b, off, ea, hb, hc⟩ := h1.cells j hj
  exact ⟨b, off, ea, hb, (World.cell?_of_block (hk b (h2 _ ea) hb)).trans hc⟩
structure Lst4 (H U k : Nat) (x1 y1 x2 y2 : Value) (w : World) : Prop where
  s1 : LstI H U k (sysL (k - 3) 1 k) x1 w
  p1 : LstI H U k (parLay (k - 3) 1 k) y1 w
  s2 : LstI H U k (sysL (k - 3) 2 k) x2 w
  p2 : LstI H U k (parLay (k - 3) 2 k) y2 w
theorem Lst4.keep {H U k : Nat} {x1 y1 x2 y2 : Value} {w w' : World} (h : Lst4 H U k x1 y1 x2 y2 w) (hk : ∀ b, H ≤ b → b < U → w'.heap[b]? = w.heap[b]?) : Lst4 H U k x1 y1 x2 y2 w' := ⟨h.s1.keep hk, h.p1.keep hk, h.s2.keep hk, h.p2.keep hk⟩
theorem LstI.low {H H' U k : Nat} {xs : List Int} {v : Value} {w : World} (h : LstI H U k xs v w) (hH : H' ≤ H) : LstI H' U k xs v w := by
  obtain ⟨A, c, e, h1, h2⟩ := h
  exact ⟨A, c, e, h1, fun a ha => Nat.le_trans hH (h2 a ha)⟩
theorem Lst4.low {H H' U k : Nat} {x1 y1 x2 y2 : Value} {w : World} (h : Lst4 H U k x1 y1 x2 y2 w) (hH : H' ≤ H) : Lst4 H' U k x1 y1 x2 y2 w := ⟨h.s1.low hH, h.p1.low hH, h.s2.low hH, h.p2.low hH⟩
theorem NewI.lst {H k : Nat} {xs : List Int} {v : Value} {w : World} (h : NewI H k xs v w) : LstI H w.heap.size k xs v w := by
  obtain ⟨A, c, e, h1, h2⟩ := h
  exact ⟨A, c, e, h1, h2.1⟩
theorem EncL.four {H k : Nat} {x1 y1 x2 y2 : Value} {w : World} (h : EncL H k x1 y1 x2 y2 w) : Lst4 H w.heap.size (k + 3) x1 y1 x2 y2 w := ⟨h.1.lst, h.2.1.lst, h.2.2.1.lst, h.2.2.2.lst⟩
/-- What the outer loop keeps: the yield's box, the lists, the marks. -/
structure PlV (H U k : Nat) (Fy x1 y1 x2 y2 : Value) (Ds : List Nat) (w : World) : Prop where
  yb : Boxed w H 73 Fy
  el : Lst4 H U (k + 3) x1 y1 x2 y2 w
  mks : Marks w Ds
  dl : ∀ D ∈ Ds, U ≤ D
  hu : H < U
  us : U ≤ w.heap.size
section
variable {H U k : Nat} {Fy x1 y1 x2 y2 : Value} {Ds : List Nat} {w w' : World}
theorem PlV.keep (h : PlV H U k Fy x1 y1 x2 y2 Ds w) (hk : ∀ b, H ≤ b → b < w.heap.size → w'.heap[b]? = w.heap[b]?) (hs : w.heap.size ≤ w'.heap.size) : PlV H U k Fy x1 y1 x2 y2 Ds w' :=
  ⟨(hk H (Nat.le_refl _) h.yb.lt).trans h.yb, h.el.keep (fun b h1 h2 => hk b h1 (Nat.lt_of_lt_of_le h2 h.us)), ⟨h.mks.1, fun D hD => (hk D (Nat.le_trans (Nat.le_of_lt h.hu) (h.dl D hD)) (h.mks.lt D hD)).trans (h.mks.2 D hD)⟩, h.dl, h.hu, Nat.le_trans h.us hs⟩
theorem PlV.up (h : PlV H U k Fy x1 y1 x2 y2 Ds w) (hk : KeepsUp H w w') : PlV H U k Fy x1 y1 x2 y2 Ds w' := h.keep hk.2 hk.1
theorem PlV.below (h : PlV H U k Fy x1 y1 x2 y2 Ds w) (hb : Below w.heap.size w w') : PlV H U k Fy x1 y1 x2 y2 Ds w' := h.keep (fun b _ h2 => hb.block b h2) hb.size
theorem PlV.alloc (h : PlV H U k Fy x1 y1 x2 y2 Ds w) (o : Obj) : PlV H U k Fy x1 y1 x2 y2 Ds (w.alloc o) := h.below ((Below.refl _ w).alloc (Nat.le_refl _) _)
theorem PlV.grown {row : Option Nat} (h : PlV H U k Fy x1 y1 x2 y2 Ds w) (hg : w.grownBy w' row) (hr : ∀ r, row = some r → U ≤ r ∧ r ∉ Ds) : PlV H U k Fy x1 y1 x2 y2 Ds w' := by
  have hb : ∀ b, b < U → w'.heap[b]? = w.heap[b]? := fun b hb => hg.block b (Nat.lt_of_lt_of_le hb h.us) (fun e => by have := (hr b e.symm).1; omega)
  exact ⟨(hb H h.hu).trans h.yb, h.el.keep (fun b _ h2 => hb b h2), ⟨h.mks.1, fun D hD => (hg.block D (h.mks.lt D hD) (fun e => (hr D e.symm).2 hD)).trans (h.mks.2 D hD)⟩, h.dl, h.hu, Nat.le_trans h.us hg.size⟩
theorem PlV.own {β : Type} {B : Nat} (hB : U ≤ B) (hD : ∀ D ∈ Ds, D < B) : OwnFrom B (fun (_ : β) w => PlV H U k Fy x1 y1 x2 y2 Ds w) := fun s A C row h hg hr => h.grown hg (fun r e => ⟨Nat.le_trans hB (hr r e).1, fun hm => by have := (hr r e).1; have := hD r hm; omega⟩)
end
/-- What the inner loop keeps besides: the encoder, the iterator's copy of it. -/
structure PlU (H U k : Nat) (Fy x1 y1 x2 y2 : Value) (Ds : List Nat) (E s : Nat) (x y : Value) (w : World) : Prop where
  v : PlV H U k Fy x1 y1 x2 y2 Ds w
  enc : Three w E 68 (.int .i64 (s : Int)) x y
  stp : Three w (E + 1) 68 (.int .i64 0) x y
  ue : U ≤ E
  nd : E ∉ Ds
section
variable {H U k E s : Nat} {Fy x1 y1 x2 y2 x y : Value} {Ds : List Nat} {w w' : World}
theorem PlU.keep (h : PlU H U k Fy x1 y1 x2 y2 Ds E s x y w) (hk : ∀ b, H ≤ b → b < w.heap.size → w'.heap[b]? = w.heap[b]?) (hs : w.heap.size ≤ w'.heap.size) : PlU H U k Fy x1 y1 x2 y2 Ds E s x y w' := by
  have := h.v.hu
  have := h.ue
  exact ⟨h.v.keep hk hs, h.enc.block (hk _ (by omega) h.enc.lt), h.stp.block (hk _ (by omega) h.stp.lt), h.ue, h.nd⟩
theorem PlU.up (h : PlU H U k Fy x1 y1 x2 y2 Ds E s x y w) (hk : KeepsUp H w w') : PlU H U k Fy x1 y1 x2 y2 Ds E s x y w' := h.keep hk.2 hk.1
theorem PlU.below (h : PlU H U k Fy x1 y1 x2 y2 Ds E s x y w) (hb : Below w.heap.size w w') : PlU H U k Fy x1 y1 x2 y2 Ds E s x y w' := h.keep (fun b _ h2 => hb.block b h2) hb.size
theorem PlU.drew (h : PlU H U k Fy x1 y1 x2 y2 Ds E s x y w) : PlU H U k Fy x1 y1 x2 y2 Ds E s x y w.drew := h.below (Below.refl _ w).drew
theorem PlU.encode (h : PlU H U k Fy x1 y1 x2 y2 Ds E s x y w) {s' : Nat} (hT : Three w' E 68 (.int .i64 (s' : Int)) x y) (hg : w.grownBy w' (some E)) : PlU H U k Fy x1 y1 x2 y2 Ds E s' x y w' :=
  ⟨h.v.grown hg (fun r e => by injection e with e; subst e; exact ⟨h.ue, h.nd⟩), hT, h.stp.grown hg (fun e => by injection e with e; omega), h.ue, h.nd⟩
theorem PlU.own {β : Type} {B : Nat} (hB : U ≤ B) (hD : ∀ D ∈ Ds, D < B) : OwnFrom B (fun (_ : β) w => PlU H U k Fy x1 y1 x2 y2 Ds E s x y w) := fun _ A C row h hg hr =>
  ⟨PlV.own (β := Unit) hB hD () A C row h.v hg hr, h.enc.block (cells_kept h.enc hg (fun r e => (hr r e).2)), h.stp.block (cells_kept h.stp hg (fun r e => (hr r e).2)), h.ue, h.nd⟩
end
theorem rd_of_lst {H U k : Nat} {xs : List Int} {A : Option Addr} {c : Nat} {w : World} (h : LstI H U k xs (.slice A k c) w) : Rd .i64 w U A k xs := by
  obtain ⟨A', c', e, h1, _⟩ := h
  injection e with e1 _ _
  subst e1
  exact h1
/-- The input bit of a step. -/
theorem input_turn {xs : List Int} {code i u : Nat} (h : TurnAt xs code i u) {A : Option Addr} {c B : Nat} {w : World} (hR : Rd .u8 w B A xs.length xs) :
    Calls Tryd.prog 41 #[.int .i64 (stT xs code i : Nat), .slice A xs.length c, .int .i64 (sysN (piK xs.length) xs.length code i : Nat)] w fun e w' => e = .returned (.int .u8 (u : Int)) ∧ Below w.heap.size w w' := by
  rcases Nat.lt_or_ge i xs.length with hi | hi
  · obtain ⟨h1, h2⟩ := h.low hi
    refine (input_low hR h1 h2).mono ?_
    rintro e w' ⟨rfl, rfl⟩
    exact ⟨rfl, Below.refl _ _⟩
  · obtain ⟨h1, h2⟩ := h.high hi
    rw [h2]
    exact input_high h.s8 h1
end

/-! ### places's iterator, the whole. -/
section
set_option maxRecDepth 100000
open Go.RowKit Go.Shelf BigFrame

attribute [local go_sem] Oper.semAt_some

/-- What the iterator yields: the index and the bit. -/
def plX (xs : List Int) (cd i : Nat) : Int := ((sysN (piK xs.length) xs.length (cd + 1) i : Nat) : Int)
def plY (xs : List Int) (cd i : Nat) : Int := ((parN xs.length (cd + 1) i : Nat) : Int)
def plU (xs : List Int) (cd i : Nat) : Int := (tbI xs)[sysN (piK xs.length) xs.length (cd + 1) i]?.getD 0
def plP (xs : List Int) (cd i : Nat) : Int := (tbI xs)[parN xs.length (cd + 1) i]?.getD 0
/-- The caller's side of a yield. -/
def PlR (H : Nat) (Jn Jx : World → Prop) (W1 : World) : Ending → World → Prop := YRet (fun W' => Jn W' ∧ KeepsUp H W1 W') (fun W' => Jx W' ∧ KeepsUp H W1 W')
theorem yield_mono {F : Fence} {m : Nat} {P : Program} {l : Nat} {args : Array Value} {W : World} {R R' : Ending → World → Prop} (h : YieldAt F m P l args W R) (hR : ∀ e w, R e w → R' e w) : YieldAt F m P l args W R' := by
  obtain ⟨fn, tmps, assign, body, hy, hr⟩ := h
  exact ⟨fn, tmps, assign, body, hy, hr.mono hR⟩
theorem keepsFrom_below {B : Nat} {W W' : World} (h : Below W.heap.size W W') : KeepsFrom B W W' := ⟨h.size, fun k _ _ ho _ => (h.block k (Array.getElem?_eq_some_iff.1 ho).1).trans ho⟩
set_option maxHeartbeats 8000000 in
theorem places_runs {n lp : Nat} (hn : 12 ≤ n) {xs : List Int} {A : Option Addr} {c C Bx : Nat} {J : Nat → Nat → Nat → World → Prop} {Jx : World → Prop} {W : World} (hx : Bits xs) (hs : IsSize xs.length)
    (hC : ∀ cd i h W1, J cd i h W1 → W1.cell? ⟨C, 0, none⟩ = some (.slice A xs.length c))
    (hR : ∀ cd i h W1, J cd i h W1 → Rd .u8 W1 Bx A xs.length xs) (hK : ∀ cd i h W1, J cd i h W1 → Kinds W1)
    (hJ : ∀ cd i h W1 W2, J cd i h W1 → Below W.heap.size W1 W2 → J cd i h W2) (hJx : ∀ W1 W2, Jx W1 → Below W.heap.size W1 W2 → Jx W2)
    (hN : ∀ cd W1, cd < 2 → J cd (xs.length + 3) 0 W1 → J (cd + 1) 0 0 W1)
    (hY1 : ∀ cd i W1, cd < 2 → i < xs.length + 3 → J cd i 0 W1 → W.heap.size ≤ W1.heap.size → YieldAt Fence.wide (n - 1) Tryd.prog lp #[.int .i64 (plX xs cd i), .int .u8 (plU xs cd i)] W1 (PlR W.heap.size (J cd i 1) Jx W1))
    (hY2 : ∀ cd i W1, cd < 2 → i < xs.length + 3 → J cd i 1 W1 → W.heap.size ≤ W1.heap.size → YieldAt Fence.wide (n - 1) Tryd.prog lp #[.int .i64 (plY xs cd i), .int .u8 (plP xs cd i)] W1 (PlR W.heap.size (J cd (i + 1) 0) Jx W1))
    (h0 : J 0 0 0 W) :
    CallsIn Fence.wide n Tryd.prog 39 #[.func (.yield lp) #[] #[], .pointer (some ⟨C, 0, none⟩)] W fun e W' => (∃ v, e = .returned v) ∧ (J 2 0 0 W' ∨ Jx W') := by
  obtain ⟨H, hH⟩ : ∃ H, W.heap.size = H := ⟨_, rfl⟩
  have hEn := Lib.hid (fun (u : World) (h : Kinds u) => encoders_any h hs)
  have hSt := Lib.hid (fun (x y z : Value) (u : World) => stepsT_any (x := x) (y := y) (z := z) (w := u))
  have hk := size_le hs
  simp only [hH] at hJ hJx hY1 hY2
  refine callsIn_of_wp_marks Tryd.func39 rfl trivial ?_ rfl
  simp only [Tryd.ntmps39, List.size_toArray, List.length_cons, List.length_nil, Nat.reduceAdd, Nat.reduceSub, Array.replicate_succ, Array.replicate_zero, List.push_toArray, List.append_toArray, List.nil_append, List.cons_append]
  have bY := Boxed.new W 73 (.func (.yield lp) #[] #[])
  have j1 := hJ 0 0 0 _ _ h0 ((Below.refl _ W).alloc (Nat.le_of_eq hH.symm) (.cells #[.func (.yield lp) #[] #[]] 73))
  have c1 := hC _ _ _ _ j1
  have hs1 : (W.alloc (.cells #[.func (.yield lp) #[] #[]] 73)).heap.size = H + 1 := by simp [hH]
  gi_wp2
  refine wpIn_wide_scope ?_
  gi_wp2
  refine wpIn_label ?_
  try rw [hH] at bY
  generalize W.alloc (.cells #[.func (.yield lp) #[] #[]] 73) = W1 at *
  gi_wp2
  refine ⟨trivial, fun _ => by omega, ?_⟩
  refine (callsIn_wide.2 (hEn.out _ (hK _ _ _ _ j1))).mono ?_
  rintro e w2 ⟨x1, y1, x2, y2, rfl, hEL, hb2⟩
  rw [hs1] at hEL hb2
  have hL4 := hEL.four.low (Nat.le_succ H)
  obtain ⟨⟨A1, c1', rfl, _⟩, ⟨A2, c2', rfl, _⟩, ⟨A3, c3', rfl, _⟩, ⟨A4, c4', rfl, _⟩⟩ := hEL
  have hU := hb2.size
  rw [hs1] at hU
  have hV0 : PlV H w2.heap.size xs.length (.func (.yield lp) #[] #[]) (.slice A1 (xs.length + 3) c1') (.slice A2 (xs.length + 3) c2') (.slice A3 (xs.length + 3) c3') (.slice A4 (xs.length + 3) c4') [] w2 :=
    ⟨Boxed.below bY hb2 (Nat.lt_succ_self H), hL4, Marks.nil _, by simp, hU, Nat.le_refl _⟩
  have hJ0 := hJ 0 0 0 _ _ j1 (hb2.mono (Nat.le_succ H))
  obtain ⟨U, hUe⟩ : ∃ U, w2.heap.size = U := ⟨_, rfl⟩
  rw [hUe] at hV0 hU
  clear hL4 bY j1 h0 hEn hb2 hs1 c1
  gi_wp2
  refine wpIn_loop
    (fun a' w' => ∃ (cd : Nat) (Ds : List Nat) (v : Nat → Value), cd ≤ 2 ∧ a' = { tmps := List.toArray (.func (.yield lp) #[] #[] :: .pointer (some ⟨C, 0, none⟩) :: .pointer (some ⟨H, 0, none⟩) :: undef :: v 4 :: v 5 :: v 6 :: v 7 :: .slice A xs.length c :: .int .i64 (xs.length : Int) :: .agg #[.int .i64 0, .slice A1 (xs.length + 3) c1', .slice A2 (xs.length + 3) c2', .int .i64 0, .slice A3 (xs.length + 3) c3', .slice A4 (xs.length + 3) c4'] :: .int .i64 (cd : Int) :: v 12 :: v 13 :: v 14 :: v 15 :: v 16 :: v 17 :: v 18 :: v 19 :: v 20 :: v 21 :: v 22 :: v 23 :: v 24 :: v 25 :: v 26 :: v 27 :: v 28 :: v 29 :: v 30 :: v 31 :: v 32 :: v 33 :: v 34 :: v 35 :: v 36 :: v 37 :: []), defers := Ds.map mkD } ∧
      J cd 0 0 w' ∧ PlV H U xs.length (.func (.yield lp) #[] #[]) (.slice A1 (xs.length + 3) c1') (.slice A2 (xs.length + 3) c2') (.slice A3 (xs.length + 3) c3') (.slice A4 (xs.length + 3) c4') Ds w')
    (fun a' _ => 2 - (intOf (a'.tmps.getD 11 undef)).toNat) ?start ?round
  case start => exact ⟨0, [], fun _ => undef, by decide, rfl, hJ0, hV0⟩
  case round =>
    clear hJ0 hV0
    rintro a' w' ⟨cd, Ds, v, hcd, rfl, hJc, hV⟩
    by_cases h2 : cd < 2
    · obtain ⟨Ax, cx, Ay, cy, hidx, hls⟩ : ∃ Ax cx Ay cy, (∀ u, (Instr.index 74 (.agg #[.int .i64 0, .slice A1 (xs.length + 3) c1', .slice A2 (xs.length + 3) c2', .int .i64 0, .slice A3 (xs.length + 3) c3', .slice A4 (xs.length + 3) c4']) (.int .i64 (cd : Int))).run Tryd.prog u = .ok (.agg #[.int .i64 0, .slice Ax (xs.length + 3) cx, .slice Ay (xs.length + 3) cy]) u) ∧
          (∀ w, Lst4 H U (xs.length + 3) (.slice A1 (xs.length + 3) c1') (.slice A2 (xs.length + 3) c2') (.slice A3 (xs.length + 3) c3') (.slice A4 (xs.length + 3) c4') w → LstI H U (xs.length + 3) (sysL xs.length (cd + 1) (xs.length + 3)) (.slice Ax (xs.length + 3) cx) w ∧ LstI H U (xs.length + 3) (parLay xs.length (cd + 1) (xs.length + 3)) (.slice Ay (xs.length + 3) cy) w) := by
        have : cd = 0 ∨ cd = 1 := by omega
        rcases this with rfl | rfl
        · exact ⟨A1, c1', A2, c2', index_enc0 _ _ _ _ _ _, fun w h => ⟨h.s1, h.p1⟩⟩
        · exact ⟨A3, c3', A4, c4', index_enc1 _ _ _ _ _ _, fun w h => ⟨h.s2, h.p2⟩⟩
      obtain ⟨E, hE⟩ : ∃ E, w'.heap.size = E := ⟨_, rfl⟩
      have hUE := hV.us
      rw [hE] at hUE
      have hT := Three.new w' 68 (.int .i64 0) (.slice Ax (xs.length + 3) cx) (.slice Ay (xs.length + 3) cy)
      rw [hE] at hT
      have j3 := hJ _ _ _ _ _ hJc ((Below.refl H w').alloc (by omega) (.cells #[.int .i64 0, .slice Ax (xs.length + 3) cx, .slice Ay (xs.length + 3) cy] 68))
      have v3 := hV.alloc (.cells #[.int .i64 0, .slice Ax (xs.length + 3) cx, .slice Ay (xs.length + 3) cy] 68)
      have hs3 : (w'.alloc (.cells #[.int .i64 0, .slice Ax (xs.length + 3) cx, .slice Ay (xs.length + 3) cy] 68)).heap.size = E + 1 := by simp [hE]
      have b0 := hT.cell0
      have b1 := hT.cell1
      have b2 := hT.cell2
      have hDl : ∀ D ∈ Ds, D < E := fun D hD => by rw [← hE]; exact hV.mks.lt D hD
      have hcd1 : (cd : Int) < 2 := by omega
      clear hJc hV
      gi_wp2
      generalize w'.alloc (.cells #[.int .i64 0, .slice Ax (xs.length + 3) cx, .slice Ay (xs.length + 3) cy] 68) = w3 at *
      refine ⟨trivial, fun _ => by omega, ?_⟩
      refine (callsIn_wide.2 (hSt.out _ _ _ _)).mono ?_
      rintro e w4 ⟨rfl, rfl⟩
      rw [hs3]
      have hT4 := hT.alloc (.cells #[.int .i64 0, .slice Ax (xs.length + 3) cx, .slice Ay (xs.length + 3) cy] 68)
      have hC4 := Three.new w3 68 (.int .i64 0) (.slice Ax (xs.length + 3) cx) (.slice Ay (xs.length + 3) cy)
      rw [hs3] at hC4
      have j4 := hJ _ _ _ _ _ j3 ((Below.refl H w3).alloc (by omega) (.cells #[.int .i64 0, .slice Ax (xs.length + 3) cx, .slice Ay (xs.length + 3) cy] 68))
      have v4 := v3.alloc (.cells #[.int .i64 0, .slice Ax (xs.length + 3) cx, .slice Ay (xs.length + 3) cy] 68)
      have hs4 : (w3.alloc (.cells #[.int .i64 0, .slice Ax (xs.length + 3) cx, .slice Ay (xs.length + 3) cy] 68)).heap.size = E + 2 := by simp [hs3]
      generalize w3.alloc (.cells #[.int .i64 0, .slice Ax (xs.length + 3) cx, .slice Ay (xs.length + 3) cy] 68) = W4 at *
      have hU4 : PlU H U xs.length (.func (.yield lp) #[] #[]) (.slice A1 (xs.length + 3) c1') (.slice A2 (xs.length + 3) c2') (.slice A3 (xs.length + 3) c3') (.slice A4 (xs.length + 3) c4') Ds E (stT xs (cd + 1) 0) (.slice Ax (xs.length + 3) cx) (.slice Ay (xs.length + 3) cy) W4 :=
        ⟨v4, by rw [stT_zero]; exact hT4, hC4, hUE, fun hm => Nat.lt_irrefl E (hDl E hm)⟩
      clear hT hT4 hC4 j3 v3 v4 b0 b1 b2 hs3 hidx hSt
      gi_wp2
      refine wpIn_tsteps (n := n) (E := E + 1) (K := xs.length + 3) (B := U) (z := .int .i64 0) (A := Ax) (A' := Ay) (c := cx) (c' := cy) (ss := sysL xs.length (cd + 1) (xs.length + 3)) (ps := parLay xs.length (cd + 1) (xs.length + 3)) (by omega) (by omega) rfl rfl
        (fun i w => J cd i 0 w ∧ PlU H U xs.length (.func (.yield lp) #[] #[]) (.slice A1 (xs.length + 3) c1') (.slice A2 (xs.length + 3) c2') (.slice A3 (xs.length + 3) c3') (.slice A4 (xs.length + 3) c4') Ds E (stT xs (cd + 1) i) (.slice Ax (xs.length + 3) cx) (.slice Ay (xs.length + 3) cy) w)
        (fun cc w => cc = .exit 0 ∧ Jx w ∧ PlV H U xs.length (.func (.yield lp) #[] #[]) (.slice A1 (xs.length + 3) c1') (.slice A2 (xs.length + 3) c2') (.slice A3 (xs.length + 3) c3') (.slice A4 (xs.length + 3) c4') Ds w)
        ?own1 ?own2 (fun i w h => h.2.stp) (fun i w h => rd_of_lst (hls w h.2.v.el).1) (fun i w h => rd_of_lst (hls w h.2.v.el).2) ⟨j4, hU4⟩
        (fun i => { tmps := #[.func (.yield lp) #[] #[], .pointer (some ⟨C, 0, none⟩), .pointer (some ⟨H, 0, none⟩), undef, .pointer (some ⟨E, 0, none⟩), .int .i64 ((sysL xs.length (cd + 1) (xs.length + 3))[i]?.getD 0), .int .i64 ((parLay xs.length (cd + 1) (xs.length + 3))[i]?.getD 0), v 7, .slice A xs.length c, .int .i64 (xs.length : Int), .agg #[.int .i64 0, .slice A1 (xs.length + 3) c1', .slice A2 (xs.length + 3) c2', .int .i64 0, .slice A3 (xs.length + 3) c3', .slice A4 (xs.length + 3) c4'], .int .i64 (cd : Int), .bool true, .agg #[.int .i64 0, .slice Ax (xs.length + 3) cx, .slice Ay (xs.length + 3) cy], .agg #[.int .i64 0, .slice Ax (xs.length + 3) cx, .slice Ay (xs.length + 3) cy], .func (.func 47) #[] #[.pointer (some ⟨E + 1, 0, none⟩)], .int .i64 ((sysL xs.length (cd + 1) (xs.length + 3))[i]?.getD 0), .int .i64 ((parLay xs.length (cd + 1) (xs.length + 3))[i]?.getD 0), v 18, v 19, v 20, v 21, v 22, v 23, v 24, v 25, v 26, v 27, v 28, v 29, v 30, v 31, v 32, v 33, v 34, v 35, v 36, v 37], defers := [] }) ?assign ?body ?done ?stop
      case own1 =>
        intro i P Q row h hg hr
        rw [hs4] at hr
        exact ⟨hJ _ _ _ _ _ h.1 ((Below.refl H P).grown hg (by have := h.2.v.us; omega) (fun r e => by have := (hr r e).1; omega)), PlU.own (β := Unit) (B := E + 2) (by omega) (fun D hD => by have := hDl D hD; omega) () P Q row h.2 hg hr⟩
      case own2 =>
        intro cc u P Q row h hg hr
        rw [hs4] at hr
        exact ⟨h.1, hJx _ _ h.2.1 ((Below.refl H P).grown hg (by have := h.2.2.us; omega) (fun r e => by have := (hr r e).1; omega)), PlV.own (β := Unit) (B := E + 2) (by omega) (fun D hD => by have := hDl D hD; omega) () P Q row h.2.2 hg hr⟩
      case assign =>
        intro l' i W' K hK'
        gi_wp2
        exact hK'
      case body =>
        rintro l' i W' hi ⟨hJi, hUi⟩ hbig
        rw [hs4] at hbig
        obtain ⟨u, hT⟩ := turn_at hs hx (code := cd + 1) (by omega) hi
        rw [sysL_get hi, parLay_get hi]
        have hin := Lib.hid (input_turn (c := c) hT (hR _ _ _ _ hJi))
        have cE := hUi.enc.cell0
        have cC := hC _ _ _ _ hJi
        have HP := Lib.hid (And.intro hJi hUi)
        clear hJi hUi hU4 j4
        generalize hsy : sysN (piK xs.length) xs.length (cd + 1) i = sy at *
        generalize hpy : parN xs.length (cd + 1) i = py at *
        gi_wp2
        refine ⟨trivial, fun _ => by omega, ?_⟩
        refine (CallsIn.inRound l' (callsIn_wide.2 hin.out)).mono ?_
        rintro e w5 ⟨rfl, hb5⟩
        gi_wp2
        have s8 := hT.s8
        have ul := hT.lt
        have eX : plX xs cd i = (sy : Int) := by unfold plX; rw [hsy]
        have eY : plY xs cd i = (py : Int) := by unfold plY; rw [hpy]
        have eU : plU xs cd i = (u : Int) := hT.sys
        have eP : plP xs cd i = ((parS7 (stT xs (cd + 1) i) u : Nat) : Int) := hT.par
        have eN := hT.next
        have KE : ∀ {w w6 : World}, KeepsFrom (E + 2) W' w → KeepsUp H w w6 → KeepsFrom (E + 2) W' w6 := fun h1 h2 => h1.trans (h2.from (by omega))
        refine pl_region (Y := H) (E := E) (x := sy) (y := py) (u := u) (p := parS7 (stT xs (cd + 1) i) u)
          (P0 := fun w => J cd i 0 w ∧ PlU H U xs.length (.func (.yield lp) #[] #[]) (.slice A1 (xs.length + 3) c1') (.slice A2 (xs.length + 3) c2') (.slice A3 (xs.length + 3) c3') (.slice A4 (xs.length + 3) c4') Ds E (stT xs (cd + 1) i) (.slice Ax (xs.length + 3) cx) (.slice Ay (xs.length + 3) cy) w ∧ KeepsFrom (E + 2) W' w) (P1 := fun w => J cd i 1 w ∧ PlU H U xs.length (.func (.yield lp) #[] #[]) (.slice A1 (xs.length + 3) c1') (.slice A2 (xs.length + 3) c2') (.slice A3 (xs.length + 3) c3') (.slice A4 (xs.length + 3) c4') Ds E (stT xs (cd + 1) i) (.slice Ax (xs.length + 3) cx) (.slice Ay (xs.length + 3) cy) w ∧ KeepsFrom (E + 2) W' w)
          (P2 := fun w => J cd i 1 w ∧ PlU H U xs.length (.func (.yield lp) #[] #[]) (.slice A1 (xs.length + 3) c1') (.slice A2 (xs.length + 3) c2') (.slice A3 (xs.length + 3) c3') (.slice A4 (xs.length + 3) c4') Ds E (stT xs (cd + 1) (i + 1)) (.slice Ax (xs.length + 3) cx) (.slice Ay (xs.length + 3) cy) w ∧ KeepsFrom (E + 2) W' w) (P3 := fun w => J cd (i + 1) 0 w ∧ PlU H U xs.length (.func (.yield lp) #[] #[]) (.slice A1 (xs.length + 3) c1') (.slice A2 (xs.length + 3) c2') (.slice A3 (xs.length + 3) c3') (.slice A4 (xs.length + 3) c4') Ds E (stT xs (cd + 1) (i + 1)) (.slice Ax (xs.length + 3) cx) (.slice Ay (xs.length + 3) cy) w ∧ KeepsFrom (E + 2) W' w)
          (PX := fun w => Jx w ∧ PlV H U xs.length (.func (.yield lp) #[] #[]) (.slice A1 (xs.length + 3) c1') (.slice A2 (xs.length + 3) c2') (.slice A3 (xs.length + 3) c3') (.slice A4 (xs.length + 3) c4') Ds w ∧ KeepsFrom (E + 2) W' w) rfl rfl rfl rfl rfl rfl (fun w h => h.2.1.v.yb.cell) (fun w h => h.2.1.v.yb.cell) (fun w h => h.2.1.v.yb.cell) ?y1 ?en ?y2 ?p0 ?q
        case y1 =>
          intro w hw
          have hy := hY1 cd i w h2 hi hw.1 (by have := hw.2.1.v.us; omega)
          rw [eX, eU] at hy
          refine yield_mono (yield_wide hy) ?_
          rintro e w6 (⟨rfl, h1, h3⟩ | ⟨rfl, h1, h3⟩)
          · exact .inl ⟨rfl, h1, hw.2.1.up h3, KE hw.2.2 h3⟩
          · exact .inr ⟨rfl, h1, hw.2.1.v.up h3, KE hw.2.2 h3⟩
        case y2 =>
          intro w hw
          have hy := hY2 cd i w h2 hi hw.1 (by have := hw.2.1.v.us; omega)
          rw [eY, eP] at hy
          refine yield_mono (yield_wide hy) ?_
          rintro e w6 (⟨rfl, h1, h3⟩ | ⟨rfl, h1, h3⟩)
          · exact .inl ⟨rfl, h1, hw.2.1.up h3, KE hw.2.2 h3⟩
          · exact .inr ⟨rfl, h1, hw.2.1.v.up h3, KE hw.2.2 h3⟩
        case en =>
          intro w hw
          refine (encode_any hw.2.1.enc s8 ul).mono ?_
          rintro e w6 ⟨rfl, h1, h3⟩
          rw [← eN] at h1
          exact ⟨rfl, hJ _ _ _ _ _ hw.1 ((Below.refl H w).grown h3 (by have := hw.2.1.v.us; omega) (fun g e => by injection e with e; omega)), hw.2.1.encode h1 h3, hw.2.2.trans (KeepsFrom.of_grownBy h3 (fun j e => by injection e with e; omega))⟩
        case p0 =>
          exact ⟨hJ _ _ _ _ _ HP.out.1 (hb5.drew.mono (by have := HP.out.2.v.us; omega)), (HP.out.2.below hb5).drew, keepsFrom_below hb5.drew⟩
        case q =>
          intro a w b hb h3 hX
          cases b
          · have F := Lib.hid (h3 rfl)
            clear h3 hX HP
            gi_wp2
            refine wpIn_cond_false hb ?_
            gi_wp2
            exact ⟨⟨F.out.2.2.size, by rw [hs4]; exact F.out.2.2.same⟩, F.out.1, F.out.2.1⟩
          · have F := Lib.hid (hX rfl)
            clear h3 hX HP
            gi_wp2
            refine wpIn_cond_true hb ?_
            gi_wp2
            exact ⟨⟨F.out.2.2.size, by rw [hs4]; exact F.out.2.2.same⟩, rfl, F.out.1, F.out.2.1⟩
      case done =>
        intro D W' hD hI hKD
        rw [hs4] at hD
        have HI := Lib.hid hI
        clear hI hU4 j4
        gi_wp2
        have hnD : D ∉ Ds := fun hm => by have := hDl D hm; omega
        refine ⟨⟨cd + 1, D :: Ds, fun j => (#[undef, undef, undef, undef, .pointer (some ⟨E, 0, none⟩), v 5, v 6, v 7, undef, undef, undef, undef, .bool true, .agg #[.int .i64 0, .slice Ax (xs.length + 3) cx, .slice Ay (xs.length + 3) cy], .agg #[.int .i64 0, .slice Ax (xs.length + 3) cx, .slice Ay (xs.length + 3) cy], .func (.func 47) #[] #[.pointer (some ⟨E + 1, 0, none⟩)], v 16, v 17, v 18, v 19, v 20, v 21, v 22, v 23, v 24, v 25, v 26, v 27, v 28, v 29, v 30, v 31, v 32, v 33, v 34, v 35, v 36, .int .i64 ((cd : Int) + 1)] : Array Value).getD j undef, by omega, rfl, hN cd W' h2 HI.out.1, ⟨HI.out.2.v.yb, HI.out.2.v.el, HI.out.2.v.mks.cons hKD hnD, ?_, HI.out.2.v.hu, HI.out.2.v.us⟩⟩, ?_⟩
        · intro F hF
          rcases List.mem_cons.1 hF with rfl | hF
          · omega
          · exact HI.out.2.v.dl F hF
        · simp [intOf]; omega
      case stop =>
        rintro D cc W' hD ⟨rfl, hx1, hv1⟩ hKD
        rw [hs4] at hD
        have HX := Lib.hid hx1
        have HV := Lib.hid hv1
        have hnD : D ∉ Ds := fun hm => by have := hDl D hm; omega
        clear hx1 hv1 hU4 j4
        gi_wp2
        refine leaves_marks (B := U) (D :: Ds) W' (HV.out.mks.cons hKD hnD) ?_ (fun w5 h5 => ⟨_, results_none rfl _ _ _, ⟨_, rfl⟩, .inr (hJx _ _ HX.out (h5.mono (by omega)))⟩)
        intro F hF
        rcases List.mem_cons.1 hF with rfl | hF
        · omega
        · exact HV.out.dl F hF
    · obtain rfl : cd = 2 := by omega
      have HJ := Lib.hid hJc
      have HM := Lib.hid hV.mks
      have HD := Lib.hid hV.dl
      clear hJc hV hY1 hY2
      gi_wp2
      exact leaves_marks (B := U) Ds w' HM.out HD.out (fun w3 h3 => ⟨_, results_none rfl _ _ _, ⟨_, rfl⟩, .inl (hJ _ _ _ _ _ HJ.out (h3.mono (by omega)))⟩)
end

/-! ### A range over places's iterator. -/
section
set_option maxRecDepth 100000
open Go.RowKit Go.Shelf BigFrame

attribute [local go_sem] Oper.semAt_some

/-- How the body of a round may be left. -/
def placePost (B : Nat) (In : World → Prop) (Ix : Code → World → Prop) (W : World) : Exit → Act → World → Prop
  | .normal, _, W' => KeepsUp B W W' ∧ In W'
  | .ret, _, W' => KeepsUp B W W' ∧ Ix .ret W'
  | .exit id, _, W' => KeepsUp B W W' ∧ Ix (.exit id) W'
  | .goto t, _, W' => KeepsUp B W W' ∧ Ix (.goto t) W'
  | .panic _, _, _ => False
  | .outgrown, _, _ => False
theorem below_putUp {B : Nat} (W : World) (l : Nat) (o : Obj) (hB : B ≤ l) (hs : B ≤ W.heap.size) : Below B W (W.putObj l o) := (Below.refl B W).grown (grownBy_putObj' W l o) hs (fun k e => by cases e; exact hB)
theorem keepsUp_put {B : Nat} (W : World) (l : Nat) (o : Obj) (h : l < B) : KeepsUp B W (W.putObj l o) := ⟨by simp, fun j hj _ => World.putObj_heap_other (by omega)⟩
theorem KeepsUp.trans {B : Nat} {X Y Z : World} (h : KeepsUp B X Y) (k : KeepsUp B Y Z) : KeepsUp B X Z := ⟨Nat.le_trans h.1 k.1, fun j h1 h2 => (k.2 j h1 (Nat.lt_of_lt_of_le h2 h.1)).trans (h.2 j h1 h2)⟩
theorem KeepsUp.more {B B' : Nat} {X Y : World} (h : KeepsUp B X Y) (hB : B ≤ B') : KeepsUp B' X Y := ⟨h.1, fun j h1 h2 => h.2 j (Nat.le_trans hB h1) h2⟩
set_option maxHeartbeats 2000000 in
theorem wpIn_places {n : Nat} (h1 : 14 ≤ n) {g : Operand} {ps : Array Tmp} {assign body : Code} {Q : Exit → Act → World → Prop} {a : Act} {w : World} {xs : List Int} {A : Option Addr} {c C Bx : Nat} (hx : Bits xs) (hs : IsSize xs.length)
    (hg : a.eval g = .func (.func 39) #[] #[.pointer (some ⟨C, 0, none⟩)]) (hps : ps.size = 2)
    (I : Nat → Nat → Nat → World → Prop) (Ix : Code → World → Prop)
    (hI : ∀ cd i h W W', I cd i h W → Below w.heap.size W W' → I cd i h W') (hIx : ∀ c W W', Ix c W → Below w.heap.size W W' → Ix c W')
    (hC : ∀ cd i h W, I cd i h W → W.cell? ⟨C, 0, none⟩ = some (.slice A xs.length c)) (hR : ∀ cd i h W, I cd i h W → Rd .u8 W Bx A xs.length xs) (hK : ∀ cd i h W, I cd i h W → Kinds W)
    (hN : ∀ cd W, cd < 2 → I cd (xs.length + 3) 0 W → I (cd + 1) 0 0 W) (h0 : I 0 0 0 w) (a₁ : Int → Int → Act)
    (hassign : ∀ (lp : Nat) (x u : Int) (W : World) (K : Act → World → Prop), K (a₁ x u) W →
      assign.wpIn (Fence.wide.inRound lp) (n - 1 - 1) Tryd.prog (Exit.then K (fun _ _ _ => False)) { tmps := (ps.zip #[.int .i64 x, .int .u8 u]).foldl (fun t (p, v) => t.setIfInBounds p v) a.tmps, defers := [] } W)
    (hb1 : ∀ (lp cd i : Nat) (W : World), cd < 2 → i < xs.length + 3 → I cd i 0 W → w.heap.size + 2 ≤ W.heap.size → body.wpIn (Fence.wide.inRound lp) (n - 1 - 1) Tryd.prog (placePost w.heap.size (I cd i 1) Ix W) (a₁ (plX xs cd i) (plU xs cd i)) W)
    (hb2 : ∀ (lp cd i : Nat) (W : World), cd < 2 → i < xs.length + 3 → I cd i 1 W → w.heap.size + 2 ≤ W.heap.size → body.wpIn (Fence.wide.inRound lp) (n - 1 - 1) Tryd.prog (placePost w.heap.size (I cd (i + 1) 0) Ix W) (a₁ (plY xs cd i) (plP xs cd i)) W)
    (hdone : ∀ (D : Nat) (W : World), D = w.heap.size → I 2 0 0 W → W.heap[D]? = some (.deferred (some [])) → Q .normal { a with defers := mkD D :: a.defers } W)
    (hstop : ∀ (D : Nat) (c : Code) (W : World), D = w.heap.size → Ix c W → W.heap[D]? = some (.deferred (some [])) → c.wpIn Fence.wide n Tryd.prog Q { a with defers := mkD D :: a.defers } W) :
    (Code.rangeFunc g ps assign body).wpIn Fence.wide n Tryd.prog Q a w := by
  refine wpIn_rangeFunc fun f0 hf0 => ?_
  obtain ⟨rc, hrc⟩ : ∃ rc : LoopState → Option Code → Obj, rc = fun st pe => .loop { state := st, pending := pe, fn := f0, tmps := a.tmps, params := ps, assign, body, defers := w.heap.size } := ⟨_, rfl⟩
  obtain ⟨L, hLp⟩ : ∃ L, w.heap.size + 1 = L := ⟨_, rfl⟩
  obtain ⟨W1, hW1⟩ : ∃ W1, (w.alloc (.deferred (some []))).alloc (rc .ready none) = W1 := ⟨_, rfl⟩
  have hsz : W1.heap.size = w.heap.size + 2 := by rw [← hW1]; simp
  have hrec1 : W1.heap[L]? = some (rc .ready none) := by
    have := World.alloc_heap_new (w.alloc (.deferred (some []))) (rc .ready none)
    rw [World.size_alloc, hLp] at this
    rw [← hW1]; exact this
  have hdef1 : W1.heap[w.heap.size]? = some (.deferred (some [])) := by
    rw [← hW1]; exact (Below.heap_alloc _ _ _ (by simp)).trans (World.alloc_heap_new w _)
  have hbel1 : Below w.heap.size w W1 := by rw [← hW1]; exact below_two _ _
  refine ⟨L, [mkD w.heap.size], W1, { target := .fn (.func 39) #[.pointer (some ⟨C, 0, none⟩)], args := #[.func (.yield L) #[] #[]] }, W1, 39, #[.func (.yield L) #[] #[]] ++ #[.pointer (some ⟨C, 0, none⟩)], W1, ?_, ?_, ?_, ?_, fun _ => by omega, ?_⟩
  · rw [← hW1, hrc, ← hLp]; exact run_enterLoop_outer _ _ _ _ _
  · simp only [resolve, hg]
    simp [go_sem]
  · intro f' _; trivial
  · simp [invoke, go_sem]
  -- one round
  have round : ∀ (x u : Int) (In In' : World → Prop) (W : World), (∀ W W', In W → Below w.heap.size W W' → In W') → (∀ W W', In' W → Below w.heap.size W W' → In' W') →
      (∀ lp W, In W → w.heap.size + 2 ≤ W.heap.size → body.wpIn (Fence.wide.inRound lp) (n - 1 - 1) Tryd.prog (placePost w.heap.size In' Ix W) (a₁ x u) W) →
      (In W ∧ W.heap[L]? = some (rc .ready none) ∧ W.heap[w.heap.size]? = some (.deferred (some []))) → W1.heap.size ≤ W.heap.size →
      YieldAt Fence.wide (n - 1 - 1) Tryd.prog L #[.int .i64 x, .int .u8 u] W (PlR W1.heap.size (fun W => In' W ∧ W.heap[L]? = some (rc .ready none) ∧ W.heap[w.heap.size]? = some (.deferred (some []))) (fun W => ∃ c, Ix c W ∧ W.heap[L]? = some (rc .done (some c)) ∧ W.heap[w.heap.size]? = some (.deferred (some []))) W) := by
    rintro x u In In' W hIn hIn' hbd ⟨hi, hl, hk⟩ hbig
    have hlt : L < W.heap.size := (Array.getElem?_eq_some_iff.1 hl).1
    have hl' := hl
    rw [hrc] at hl'
    refine ⟨f0, _, assign, body, run_yield hl' (by show 2 = ps.size; rw [hps]), roundIn_of_wpIn hf0 (hassign _ x u W _ ⟨_, run_beginRound hl' rfl, ?_⟩)⟩
    obtain ⟨W2, hW2⟩ : ∃ W2, W.putObj L (rc .busy none) = W2 := ⟨_, rfl⟩
    have hl2 : W2.heap[L]? = some (rc .busy none) := by rw [← hW2]; exact World.putObj_heap_same hlt
    have hk2 : W2.heap[w.heap.size]? = some (.deferred (some [])) := by rw [← hW2]; exact (World.putObj_heap_other (by omega)).trans hk
    have hi2 : In W2 := by rw [← hW2]; exact hIn _ _ hi (below_putUp _ _ _ (by omega) (by omega))
    have hs2 : W2.heap.size = W.heap.size := by rw [← hW2]; simp
    have hu2 : KeepsUp W1.heap.size W W2 := by rw [← hW2]; exact keepsUp_put _ _ _ (by omega)
    have hw2 : (W.putObj L (.loop { ({ state := .ready, pending := none, fn := f0, tmps := a.tmps, params := ps, assign, body, defers := w.heap.size } : Loop) with state := .busy })) = W2 := by rw [← hW2, hrc]
    rw [hw2]
    refine wpIn_mono (hbd _ _ hi2 (by omega)) ?_
    have fin : ∀ (jump : Option Code) (W3 : World), KeepsUp w.heap.size W2 W3 → ∃ W4, (Instr.endRound L jump).run Tryd.prog W3 = .ok (.bool jump.isNone) W4 ∧ Below w.heap.size W3 W4 ∧
        W4.heap[L]? = some (rc (if jump.isNone then .ready else .done) jump) ∧ W4.heap[w.heap.size]? = some (.deferred (some [])) ∧ KeepsUp W1.heap.size W W4 := fun jump W3 hk3 => by
      have hl3 := (hk3.2 L (by omega) (by omega)).trans hl2
      have hl3' := hl3
      rw [hrc] at hl3'
      have h5 := run_endRound (P := Tryd.prog) jump hl3'
      have hlt3 : L < W3.heap.size := by have := hk3.1; omega
      refine ⟨_, h5, below_putUp _ _ _ (by omega) (by omega), ?_, ?_, ?_⟩
      · rw [hrc]; exact World.putObj_heap_same (Array.getElem?_eq_some_iff.1 hl3).1
      · exact (World.putObj_heap_other (by omega)).trans ((hk3.2 _ (Nat.le_refl _) (by omega)).trans hk2)
      · exact (hu2.trans (hk3.more (by omega))).trans (keepsUp_put _ _ _ (by omega))
    rintro e a3 W3 hp
    cases e with
    | normal =>
      obtain ⟨hk3, hi3⟩ := hp
      obtain ⟨W4, hr, hb4, hl4, hk4, hu4⟩ := fin none W3 hk3
      exact ⟨_, _, hr, .inl ⟨rfl, ⟨hIn' _ _ hi3 hb4, hl4, hk4⟩, hu4⟩⟩
    | ret =>
      obtain ⟨hk3, hi3⟩ := hp
      obtain ⟨W4, hr, hb4, hl4, hk4, hu4⟩ := fin (some .ret) W3 hk3
      exact ⟨_, _, hr, .inr ⟨rfl, ⟨.ret, hIx _ _ _ hi3 hb4, hl4, hk4⟩, hu4⟩⟩
    | exit id =>
      obtain ⟨hk3, hi3⟩ := hp
      obtain ⟨W4, hr, hb4, hl4, hk4, hu4⟩ := fin (some (.exit id)) W3 hk3
      exact ⟨_, _, hr, .inr ⟨rfl, ⟨.exit id, hIx _ _ _ hi3 hb4, hl4, hk4⟩, hu4⟩⟩
    | goto t =>
      obtain ⟨hk3, hi3⟩ := hp
      obtain ⟨W4, hr, hb4, hl4, hk4, hu4⟩ := fin (some (.goto t)) W3 hk3
      exact ⟨_, _, hr, .inr ⟨rfl, ⟨.goto t, hIx _ _ _ hi3 hb4, hl4, hk4⟩, hu4⟩⟩
    | panic ch => exact hp.elim
    | outgrown => exact hp.elim
  refine (places_runs (n := n - 1) (lp := L) (Bx := Bx) (c := c) (by omega) (J := fun cd i h W => I cd i h W ∧ W.heap[L]? = some (rc .ready none) ∧ W.heap[w.heap.size]? = some (.deferred (some [])))
    (Jx := fun W => ∃ c, Ix c W ∧ W.heap[L]? = some (rc .done (some c)) ∧ W.heap[w.heap.size]? = some (.deferred (some []))) hx hs
    (fun cd i h W hh => hC cd i h W hh.1) (fun cd i h W hh => hR cd i h W hh.1) (fun cd i h W hh => hK cd i h W hh.1)
    (fun cd i h W W' hh hb => ⟨hI _ _ _ _ _ hh.1 (hb.mono (by omega)), (hb.block _ (by omega)).trans hh.2.1, (hb.block _ (by omega)).trans hh.2.2⟩)
    (fun W W' hh hb => by
      obtain ⟨c, h2, h3, h4⟩ := hh
      exact ⟨c, hIx _ _ _ h2 (hb.mono (by omega)), (hb.block _ (by omega)).trans h3, (hb.block _ (by omega)).trans h4⟩)
    (fun cd W hcd hh => ⟨hN cd W hcd hh.1, hh.2⟩)
    (fun cd i W hcd hi hh hb => round _ _ (I cd i 0) (I cd i 1) W (hI cd i 0) (hI cd i 1) (fun lp W' hh' hb' => hb1 lp cd i W' hcd hi hh' hb') hh hb)
    (fun cd i W hcd hi hh hb => round _ _ (I cd i 1) (I cd (i + 1) 0) W (hI cd i 1) (hI cd (i + 1) 0) (fun lp W' hh' hb' => hb2 lp cd i W' hcd hi hh' hb') hh hb)
    ⟨hI _ _ _ _ _ h0 hbel1, hrec1, hdef1⟩).mono ?_
  rintro e W2 ⟨⟨v, rfl⟩, (⟨hi, hl, hk⟩ | ⟨c, hi, hl, hk⟩)⟩
  · have hl' := hl
    rw [hrc] at hl'
    have hlt : L < W2.heap.size := (Array.getElem?_eq_some_iff.1 hl).1
    exact ⟨none, _, run_endLoop hl' (by simp), hdone _ _ rfl (hI _ _ _ _ _ hi (below_putUp _ _ _ (by omega) (by omega))) ((World.putObj_heap_other (by omega)).trans hk)⟩
  · have hl' := hl
    rw [hrc] at hl'
    have hlt : L < W2.heap.size := (Array.getElem?_eq_some_iff.1 hl).1
    exact ⟨some c, _, run_endLoop hl' (by simp), hstop _ c _ rfl (hIx _ _ _ hi (below_putUp _ _ _ (by omega) (by omega))) ((World.putObj_heap_other (by omega)).trans hk)⟩
end
end Go.Proofs.YtbpkoilecdejiaaDoor
