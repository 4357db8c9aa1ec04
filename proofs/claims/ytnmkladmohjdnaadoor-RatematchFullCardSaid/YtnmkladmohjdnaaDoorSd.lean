/-
  selection: the region of the second loop that draws its order.
-/
import Derived.Test.YtnmkladmohjdnaaDoorLa
namespace Go.Proofs.YtnmkladmohjdnaaDoor
set_option maxRecDepth 100000
open Go.RowKit

section
variable {ρ : Operand → Value} {w : World} {dst : Option Tmp} {ty : TypeId} {pos : String} {after : Array Edge} {guard : Option (Nat × Bool)} {x ix : Operand}
theorem ex_move {P : Program} {v : Value} (h : ρ x = v) : (execOp ρ { dst := dst, op := .move x, type := ty, pos := pos, after := after, guard := guard }).run P w = .ok (.value v) w := by
  subst h; rfl
theorem ex_load_int {b off : Nat} {v : Int} (hx : ρ x = .pointer (some ⟨b, off, none⟩)) (hc : w.cell? ⟨b, off, none⟩ = some (.int .i64 v)) :
    (execOp ρ { dst := dst, op := .load 3 x, type := ty, pos := pos, after := after, guard := guard }).run Tryd.prog w = .ok (.value (.int .i64 v)) w := by
  simp [execOp, hx, hc, go_sem]
theorem ex_load_ints {b off n c : Nat} {A : Option Addr} (hx : ρ x = .pointer (some ⟨b, off, none⟩)) (hc : w.cell? ⟨b, off, none⟩ = some (.slice A n c)) :
    (execOp ρ { dst := dst, op := .load 22 x, type := ty, pos := pos, after := after, guard := guard }).run Tryd.prog w = .ok (.value (.slice A n c)) w := by
  simp [execOp, hx, hc, go_sem]
theorem ex_index_ints {b n c j : Nat} {z : Int} (hz : z = (j : Int)) (hx : ρ x = .slice (some ⟨b, 0, none⟩) n c) (hi : ρ ix = .int .i64 z) (hj : j < n) :
    (execOp ρ { dst := dst, op := .indexAddr 22 x ix, type := ty, pos := pos, after := after, guard := guard }).run Tryd.prog w = .ok (.value (.pointer (some ⟨b, j, none⟩))) w := by
  subst hz
  have h2 : (j : Int) < (n : Int) := by omega
  simp [execOp, hx, hi, h2, go_sem, Addr.add_lit]
theorem ex_len {A : Option Addr} {n c : Nat} (hx : ρ x = .slice A n c) :
    (execOp ρ { dst := dst, op := .call { callee := .builtin .len, args := #[x], argTypes := #[22] }, type := ty, pos := pos, after := after, guard := guard }).run Tryd.prog w = .ok (.value (.int .i64 (n : Int))) w := by
  simp [hx, go_sem]
theorem ex_sub {a b : Int} (hx : ρ x = .int .i64 a) (hi : ρ ix = .int .i64 b) (hw : IntKind.i64.wrap (a - b) = a - b) :
    (execOp ρ { dst := dst, op := .binOp .sub 3 x ix 3, type := ty, pos := pos, after := after, guard := guard }).run Tryd.prog w = .ok (.value (.int .i64 (a - b))) w := by
  simp [execOp, hx, hi, go_sem, hw]
theorem ex_one {u : Int} (hx : ρ x = .int .i64 u) :
    (execOp ρ { dst := dst, op := .buildSlice 22 1 #[(0, x)], type := ty, pos := pos, after := after, guard := guard }).run Tryd.prog w = .ok (.value (.slice (some ⟨w.heap.size, 0, none⟩) 1 1)) (w.alloc (.cells #[.int .i64 u] 3)) := by
  simp [execOp, hx, go_sem]
theorem ex_append_run {P : Program} {t : TypeId} {v1 v2 v' : Value} {w2 : World} (hs : ρ x = v1) (hx : ρ ix = v2) (hrun : (Builtin.append_ #[t, t] ty #[v1, v2]).run P w = .ok v' w2) :
    (execOp ρ { dst := dst, op := .call { callee := .builtin .append, args := #[x, ix], argTypes := #[t, t] }, type := ty, pos := pos, after := after, guard := guard }).run P w = .ok (.value v') w2 := by
  simp [execOp, resolve, invoke, builtin, hs, hx, hrun, Result.andThen]
theorem ex_store_ints {B : Nat} {A A' : Option Addr} {n c n' c' : Nat} (hb : Boxed w B 22 (.slice A n c)) (hx : ρ x = .pointer (some ⟨B, 0, none⟩)) (hi : ρ ix = .slice A' n' c') :
    (execOp ρ { dst := none, op := .store 22 x ix, type := ty, pos := pos, after := after, guard := guard }).run Tryd.prog w = .ok .skip (w.setCell ⟨B, 0, none⟩ (.slice A' n' c')) := by
  have h1 := hb.cell
  have h2 := hb.frozen
  simp [execOp, hx, hi, go_sem, h1, h2]
end
/-- A region's operations. -/
noncomputable def opsOf (id : Nat) : Code → Option (Array Oper)
  | .region i ops _ => if i = id then some ops else none
  | .seq a b => (opsOf id a).orElse fun _ => opsOf id b
  | .block _ a => opsOf id a
  | .loop a => opsOf id a
  | .scope a => opsOf id a
  | .cond _ a b => (opsOf id a).orElse fun _ => opsOf id b
  | _ => none
noncomputable def selOps : Array Oper := ((Tryd.f30.body.bind (opsOf 9)).getD #[])
theorem selOps_size : selOps.size = 11 := by kernel_rfl
theorem selOps_rd : readyB selOps 10 = true := by kernel_rfl
theorem selOps_last : ((selOps[10]?).map fun o => (List.range 10).all fun j => o.after.any fun e => Region.binds .any e && (e.on == j)) = some true := by kernel_rfl
theorem selOps_ready : Region.ready .any selOps (Array.replicate 10 true ++ Array.replicate (selOps.size - 10) false) = [10] := by kernel_rfl
theorem selOps_done : Region.ready .any selOps ((Array.replicate 10 true ++ Array.replicate (selOps.size - 10) false).setIfInBounds 10 true) = [] := by kernel_rfl
theorem lt10 {i : Nat} (h : i < 10) : i = 0 ∨ i = 1 ∨ i = 2 ∨ i = 3 ∨ i = 4 ∨ i = 5 ∨ i = 6 ∨ i = 7 ∨ i = 8 ∨ i = 9 := by omega
/-- The values. -/
def selV (g u c m h : Nat) (x : Int) (A2 : Option Addr) (c2 : Nat) : Nat → Value
  | 0 => .slice (some ⟨g, 0, none⟩) u c
  | 1 => .slice (some ⟨g, 0, none⟩) u c
  | 2 => .slice (some ⟨g, 0, none⟩) u c
  | 3 => .int .i64 (u : Int)
  | 4 => .int .i64 (m : Int)
  | 5 => .int .i64 ((u : Int) - (m : Int))
  | 6 => .pointer (some ⟨g, u - m, none⟩)
  | 7 => .int .i64 x
  | 8 => .slice (some ⟨h, 0, none⟩) 1 1
  | 9 => .slice A2 (u + 1) c2
  | _ => undef
/-- What is known within the region. -/
structure SelS (W0 w2 : World) (fin : Nat → Value) (x : Int) (L : Nat → Bool) (V : Nat → Value) (w : World) : Prop where
  at_ : ∀ j, j < 10 → L j = true → V j = fin j
  l8 : L 8 = true → L 7 = true
  l9 : L 9 = true → L 8 = true
  wd : w = if L 9 = true then w2 else if L 8 = true then W0.alloc (.cells #[.int .i64 x] 3) else W0
theorem SelS.next {W0 w2 w w' : World} {fin : Nat → Value} {x : Int} {L : Nat → Bool} {V : Nat → Value} {i : Nat} {v : Value} (h : SelS W0 w2 fin x L V w) (hv : v = fin i) (h8 : i = 8 → L 7 = true ∧ w' = W0.alloc (.cells #[.int .i64 x] 3) ∧ L 9 = false) (h9 : i = 9 → L 8 = true ∧ w' = w2) (ho : i ≠ 8 → i ≠ 9 → w' = w) :
    SelS W0 w2 fin x (upd L i true) (upd V i v) w' := by
  have hup : ∀ j, upd L i true j = true ↔ (j = i ∨ L j = true) := by
    intro j
    unfold upd
    split
    · rename_i e; simp [e]
    · rename_i e; simp [e]
  refine ⟨fun j hj hL => ?_, fun hL => ?_, fun hL => ?_, ?_⟩
  · by_cases e : j = i
    · subst e; rw [upd_same]; exact hv
    · rw [upd_other _ _ e] at hL ⊢
      exact h.at_ j hj hL
  · rw [hup] at hL ⊢
    rcases hL with hL | hL
    · exact .inr (h8 hL.symm).1
    · exact .inr (h.l8 hL)
  · rw [hup] at hL ⊢
    rcases hL with hL | hL
    · exact .inr (h9 hL.symm).1
    · exact .inr (h.l9 hL)
  · by_cases e9 : i = 9
    · rw [if_pos ((hup 9).2 (.inl e9.symm))]
      exact (h9 e9).2
    · by_cases e8 : i = 8
      · have h3 := h8 e8
        rw [if_neg (fun hh => by
          rcases (hup 9).1 hh with h4 | h4
          · exact e9 h4.symm
          · rw [h3.2.2] at h4; cases h4), if_pos ((hup 8).2 (.inl e8.symm))]
        exact h3.2.1
      · rw [ho e8 e9, h.wd]
        have u9 : upd L i true 9 = L 9 := upd_other _ _ (fun e => e9 e.symm)
        have u8 : upd L i true 8 = L 8 := upd_other _ _ (fun e => e8 e.symm)
        rw [u9, u8]
set_option maxHeartbeats 4000000 in
theorem sel_stepS {W0 w2 : World} {B g u c m c2 : Nat} {x : Int} {A2 : Option Addr} {a0 : Act} (hm : 0 < m) (hmu : m ≤ u) (hu : u ≤ 1000000)
    (hV : Boxed W0 B 22 (.slice (some ⟨g, 0, none⟩) u c)) (hV2 : Boxed w2 B 22 (.slice (some ⟨g, 0, none⟩) u c)) (hx : W0.cell? ⟨g, u - m, none⟩ = some (.int .i64 x))
    (hrun : (Builtin.append_ #[22, 22] 22 #[.slice (some ⟨g, 0, none⟩) u c, .slice (some ⟨W0.heap.size, 0, none⟩) 1 1]).run Tryd.prog (W0.alloc (.cells #[.int .i64 x] 3)) = .ok (.slice A2 (u + 1) c2) w2)
    (h7 : a0.tmps.getD 7 undef = .pointer (some ⟨B, 0, none⟩)) (h9 : a0.tmps.getD 9 undef = .int .i64 (m : Int))
    (i : Nat) (L : Nat → Bool) (V : Nat → Value) (a : Act) (w : World) (hi : i < 10) (hLi : L i = false) (hS : SelS W0 w2 (selV g u c m W0.heap.size x A2 c2) x L V w) (hF : FrameAt 36 a0 a V 10) (hafter : ∀ (t : Nat) (e : Edge), ((selOps[i]?).bind fun o => o.after[t]?) = some e → Region.binds .any e = true → L e.on = true) :
    ∃ o v w', selOps[i]? = some o ∧ o.guard = none ∧ o.dst = some (36 + i) ∧ (execOp a.eval o).run Tryd.prog w = .ok (.value v) w' ∧ SelS W0 w2 (selV g u c m W0.heap.size x A2 c2) x (upd L i true) (upd V i v) w' := by
  have hbox : Boxed w B 22 (.slice (some ⟨g, 0, none⟩) u c) := by
    rw [hS.wd]
    split
    · exact hV2
    · split
      · exact hV.alloc _
      · exact hV
  have hc := lt10 hi
  rcases hc with rfl | rfl | rfl | rfl | rfl | rfl | rfl | rfl | rfl | rfl

  · exact ⟨_, _, w, rfl, rfl, rfl, ex_load_ints (hF.evalLow (by decide) h7) hbox.cell, hS.next rfl (fun h => by cases h) (fun h => by cases h) (fun _ _ => rfl)⟩
  · exact ⟨_, _, w, rfl, rfl, rfl, ex_load_ints (hF.evalLow (by decide) h7) hbox.cell, hS.next rfl (fun h => by cases h) (fun h => by cases h) (fun _ _ => rfl)⟩
  · exact ⟨_, _, w, rfl, rfl, rfl, ex_load_ints (hF.evalLow (by decide) h7) hbox.cell, hS.next rfl (fun h => by cases h) (fun h => by cases h) (fun _ _ => rfl)⟩
  · exact ⟨_, _, w, rfl, rfl, rfl, ex_len ((hF.eval (j := 2) (by decide) rfl).trans (hS.at_ 2 (by decide) (hafter 0 ⟨2, .data⟩ rfl rfl))), hS.next rfl (fun h => by cases h) (fun h => by cases h) (fun _ _ => rfl)⟩
  · exact ⟨_, _, w, rfl, rfl, rfl, ex_move (hF.evalLow (by decide) h9), hS.next rfl (fun h => by cases h) (fun h => by cases h) (fun _ _ => rfl)⟩
  · exact ⟨_, _, w, rfl, rfl, rfl, ex_sub ((hF.eval (j := 3) (by decide) rfl).trans (hS.at_ 3 (by decide) (hafter 0 ⟨3, .data⟩ rfl rfl))) ((hF.eval (j := 4) (by decide) rfl).trans (hS.at_ 4 (by decide) (hafter 1 ⟨4, .data⟩ rfl rfl))) (wrap_small _ (by omega) (by omega)), hS.next rfl (fun h => by cases h) (fun h => by cases h) (fun _ _ => rfl)⟩
  · exact ⟨_, _, w, rfl, rfl, rfl, ex_index_ints (j := u - m) (by omega) ((hF.eval (j := 1) (by decide) rfl).trans (hS.at_ 1 (by decide) (hafter 0 ⟨1, .data⟩ rfl rfl))) ((hF.eval (j := 5) (by decide) rfl).trans (hS.at_ 5 (by decide) (hafter 1 ⟨5, .data⟩ rfl rfl))) (by omega), hS.next rfl (fun h => by cases h) (fun h => by cases h) (fun _ _ => rfl)⟩
  · have hw : w = W0 := by
      rw [hS.wd]
      have h8 : L 8 = false := by
        rcases hb : L 8 with _ | _
        · rfl
        · have := hS.l8 hb; rw [this] at hLi; cases hLi
      have h9 : L 9 = false := by
        rcases hb : L 9 with _ | _
        · rfl
        · have := hS.l9 hb; rw [this] at h8; cases h8
      rw [h8, h9]
      rfl
    exact ⟨_, _, w, rfl, rfl, rfl, ex_load_int ((hF.eval (j := 6) (by decide) rfl).trans (hS.at_ 6 (by decide) (hafter 0 ⟨6, .data⟩ rfl rfl))) (by rw [hw]; exact hx), hS.next rfl (fun h => by cases h) (fun h => by cases h) (fun _ _ => rfl)⟩
  · have h9 : L 9 = false := by
      rcases hb : L 9 with _ | _
      · rfl
      · have := hS.l9 hb; rw [this] at hLi; cases hLi
    have hw : w = W0 := by
      rw [hS.wd, h9, hLi]
      rfl
    subst hw
    exact ⟨_, _, _, rfl, rfl, rfl, ex_one ((hF.eval (j := 7) (by decide) rfl).trans (hS.at_ 7 (by decide) (hafter 0 ⟨7, .data⟩ rfl rfl))), hS.next rfl (fun _ => ⟨hafter 0 ⟨7, .data⟩ rfl rfl, rfl, h9⟩) (fun h => by cases h) (fun h => absurd rfl h)⟩
  · have h8 : L 8 = true := hafter 1 ⟨8, .data⟩ rfl rfl
    have hw : w = W0.alloc (.cells #[.int .i64 x] 3) := by
      rw [hS.wd, hLi, h8]
      rfl
    subst hw
    exact ⟨_, _, _, rfl, rfl, rfl, ex_append_run ((hF.eval (j := 0) (by decide) rfl).trans (hS.at_ 0 (by decide) (hafter 0 ⟨0, .data⟩ rfl rfl))) ((hF.eval (j := 8) (by decide) rfl).trans (hS.at_ 8 (by decide) (hafter 1 ⟨8, .data⟩ rfl rfl))) hrun, hS.next rfl (fun h => by cases h) (fun _ => ⟨h8, rfl⟩) (fun _ h => absurd rfl h)⟩
theorem arr47 {a : Array Value} (h : a.size = 47) : a = #[a.getD 0 undef, a.getD 1 undef, a.getD 2 undef, a.getD 3 undef, a.getD 4 undef, a.getD 5 undef, a.getD 6 undef, a.getD 7 undef, a.getD 8 undef, a.getD 9 undef, a.getD 10 undef, a.getD 11 undef, a.getD 12 undef, a.getD 13 undef, a.getD 14 undef, a.getD 15 undef, a.getD 16 undef, a.getD 17 undef, a.getD 18 undef, a.getD 19 undef, a.getD 20 undef, a.getD 21 undef, a.getD 22 undef, a.getD 23 undef, a.getD 24 undef, a.getD 25 undef, a.getD 26 undef, a.getD 27 undef, a.getD 28 undef, a.getD 29 undef, a.getD 30 undef, a.getD 31 undef, a.getD 32 undef, a.getD 33 undef, a.getD 34 undef, a.getD 35 undef, a.getD 36 undef, a.getD 37 undef, a.getD 38 undef, a.getD 39 undef, a.getD 40 undef, a.getD 41 undef, a.getD 42 undef, a.getD 43 undef, a.getD 44 undef, a.getD 45 undef, a.getD 46 undef] := by
  obtain ⟨l⟩ := a
  match l, h with
  | x0 :: x1 :: x2 :: x3 :: x4 :: x5 :: x6 :: x7 :: x8 :: x9 :: x10 :: x11 :: x12 :: x13 :: x14 :: x15 :: x16 :: x17 :: x18 :: x19 :: x20 :: x21 :: x22 :: x23 :: x24 :: x25 :: x26 :: x27 :: x28 :: x29 :: x30 :: x31 :: x32 :: x33 :: x34 :: x35 :: x36 :: x37 :: x38 :: x39 :: x40 :: x41 :: x42 :: x43 :: x44 :: x45 :: x46 :: [], _ => rfl
set_option maxHeartbeats 8000000 in
theorem sel_region {Q : Exit → Act → World → Prop} {W w2 : World} {B g u c m c2 : Nat} {x : Int} {A2 : Option Addr} {ds : List Deferred} {t0 t1 t2 t3 t4 t5 t6 t8 t10 t11 t12 t13 t14 t15 t16 t17 t18 t19 t20 t21 t22 t23 t24 t25 t26 t27 t28 t29 t30 t31 t32 t33 t34 t35 t36 t37 t38 t39 t40 t41 t42 t43 t44 t45 t46 : Value} (hm : 0 < m) (hmu : m ≤ u) (hu : u ≤ 1000000)
    (hV : Boxed W B 22 (.slice (some ⟨g, 0, none⟩) u c)) (hV2 : Boxed w2 B 22 (.slice (some ⟨g, 0, none⟩) u c)) (hx : W.cell? ⟨g, u - m, none⟩ = some (.int .i64 x))
    (hrun : (Builtin.append_ #[22, 22] 22 #[.slice (some ⟨g, 0, none⟩) u c, .slice (some ⟨W.heap.size, 0, none⟩) 1 1]).run Tryd.prog (W.drew.alloc (.cells #[.int .i64 x] 3)) = .ok (.slice A2 (u + 1) c2) w2)
    (h : ∀ (y : Nat → Value), Q .normal ({ tmps := #[t0, t1, t2, t3, t4, t5, t6, (.pointer (some ⟨B, 0, none⟩)), t8, (.int .i64 (m : Int)), t10, t11, t12, t13, t14, t15, t16, t17, t18, t19, t20, t21, t22, t23, t24, t25, t26, t27, t28, t29, t30, t31, t32, t33, t34, t35, y 0, y 1, y 2, y 3, y 4, y 5, y 6, y 7, y 8, y 9, t46], defers := ds } : Act) (w2.setCell ⟨B, 0, none⟩ (.slice A2 (u + 1) c2))) :
    (Code.region 9 selOps true).wp Tryd.prog Q ({ tmps := #[t0, t1, t2, t3, t4, t5, t6, (.pointer (some ⟨B, 0, none⟩)), t8, (.int .i64 (m : Int)), t10, t11, t12, t13, t14, t15, t16, t17, t18, t19, t20, t21, t22, t23, t24, t25, t26, t27, t28, t29, t30, t31, t32, t33, t34, t35, t36, t37, t38, t39, t40, t41, t42, t43, t44, t45, t46], defers := ds } : Act) W := by
  refine wp_region_any (by kernel_rfl) ?_
  change wpAny Tryd.prog .any selOps _ selOps.size (Array.replicate selOps.size false) _ W.drew
  refine wpAny_steps (N := 10) (base := 36) (by rw [selOps_size]; omega) selOps_rd (show 36 + 10 ≤ 47 by decide) ?rest (SelS W.drew w2 (selV g u c m W.heap.size x A2 c2) x) ?step ?last (fun j => ({ tmps := #[t0, t1, t2, t3, t4, t5, t6, (.pointer (some ⟨B, 0, none⟩)), t8, (.int .i64 (m : Int)), t10, t11, t12, t13, t14, t15, t16, t17, t18, t19, t20, t21, t22, t23, t24, t25, t26, t27, t28, t29, t30, t31, t32, t33, t34, t35, t36, t37, t38, t39, t40, t41, t42, t43, t44, t45, t46], defers := ds } : Act).tmps.getD (36 + j) undef) ⟨fun _ _ h => (by cases h), fun h => (by cases h), fun h => (by cases h), rfl⟩ (fun j hj => rfl)
  case rest =>
    intro i o hi ho j hj
    have hi2 := (Array.getElem?_eq_some_iff.1 ho).1
    rw [selOps_size] at hi2
    obtain rfl : i = 10 := by omega
    have hl := selOps_last
    rw [ho] at hl
    simp only [Option.map_some, Option.some.injEq, List.all_eq_true, List.mem_range, Array.any_eq_true, Bool.and_eq_true, beq_iff_eq] at hl
    obtain ⟨t, ht, h1, h2⟩ := hl j hj
    exact ⟨_, Array.getElem_mem ht, h1, h2⟩
  case step =>
    intro i L V a w' hi hS hLi hF hafter
    exact sel_stepS hm hmu hu (W0 := W.drew) hV hV2 hx hrun rfl rfl i L V a w' hi hLi hS hF (fun t e h hb => by
      obtain ⟨o, ho, he⟩ := Option.bind_eq_some_iff.1 h
      exact hafter o ho e (Array.mem_of_getElem? he) hb)
  case last =>
    intro L V a w' hL hS hF
    rw [show selOps.size - 10 = 1 by rw [selOps_size]]
    refine wpAny_one (N := 10) selOps_ready selOps_done ?_
    have hw : w' = w2 := by rw [hS.wd, if_pos (hL 9 (by decide))]
    subst hw
    have h9 := hS.at_ 9 (by decide) (hL 9 (by decide))
    refine wpOp_skip rfl rfl rfl (ex_store_ints hV2 (hF.evalLow (by decide) rfl) ((hF.eval (j := 9) (by decide) rfl).trans h9)) ?_
    have hs : a.tmps.size = 47 := by rw [hF.sz]; rfl
    have ha := arr47 hs
    have hd := hF.defers
    obtain ⟨tmps, defers⟩ := a
    dsimp only at ha hd hs
    have hlo := hF.low
    have hat := hF.at_
    dsimp only at hlo hat
    subst hd
    rw [ha]

    rw [hlo 0 (by decide)]
    rw [hlo 1 (by decide)]
    rw [hlo 2 (by decide)]
    rw [hlo 3 (by decide)]
    rw [hlo 4 (by decide)]
    rw [hlo 5 (by decide)]
    rw [hlo 6 (by decide)]
    rw [hlo 7 (by decide)]
    rw [hlo 8 (by decide)]
    rw [hlo 9 (by decide)]
    rw [hlo 10 (by decide)]
    rw [hlo 11 (by decide)]
    rw [hlo 12 (by decide)]
    rw [hlo 13 (by decide)]
    rw [hlo 14 (by decide)]
    rw [hlo 15 (by decide)]
    rw [hlo 16 (by decide)]
    rw [hlo 17 (by decide)]
    rw [hlo 18 (by decide)]
    rw [hlo 19 (by decide)]
    rw [hlo 20 (by decide)]
    rw [hlo 21 (by decide)]
    rw [hlo 22 (by decide)]
    rw [hlo 23 (by decide)]
    rw [hlo 24 (by decide)]
    rw [hlo 25 (by decide)]
    rw [hlo 26 (by decide)]
    rw [hlo 27 (by decide)]
    rw [hlo 28 (by decide)]
    rw [hlo 29 (by decide)]
    rw [hlo 30 (by decide)]
    rw [hlo 31 (by decide)]
    rw [hlo 32 (by decide)]
    rw [hlo 33 (by decide)]
    rw [hlo 34 (by decide)]
    rw [hlo 35 (by decide)]
    rw [show tmps.getD 36 undef = V 0 from hat 0 (by decide)]
    rw [show tmps.getD 37 undef = V 1 from hat 1 (by decide)]
    rw [show tmps.getD 38 undef = V 2 from hat 2 (by decide)]
    rw [show tmps.getD 39 undef = V 3 from hat 3 (by decide)]
    rw [show tmps.getD 40 undef = V 4 from hat 4 (by decide)]
    rw [show tmps.getD 41 undef = V 5 from hat 5 (by decide)]
    rw [show tmps.getD 42 undef = V 6 from hat 6 (by decide)]
    rw [show tmps.getD 43 undef = V 7 from hat 7 (by decide)]
    rw [show tmps.getD 44 undef = V 8 from hat 8 (by decide)]
    rw [show tmps.getD 45 undef = V 9 from hat 9 (by decide)]
    rw [show tmps.getD 46 undef = t46 from hF.high 46 (by decide)]
    exact h V
end Go.Proofs.YtnmkladmohjdnaaDoor
