/-
  selection: the region of the second loop that draws its order. selection.
-/
import Derived.Test.YtoegamlpgenfcaaDoorGn
import Derived.Test.YtoegamlpgenfcaaDoorGm
import Derived.Test.YtoegamlpgenfcaaDoorSm
import Derived.Test.YtoegamlpgenfcaaDoorLa
import Derived.Test.YtoegamlpgenfcaaDoorRb
import Derived.Laws.EntriesVeiled
namespace Go.Proofs.YtoegamlpgenfcaaDoor
/-! ### selection: the region of the second loop that draws its order. -/
section
set_option maxRecDepth 100000
open Go.RowKit

section
variable {ρ : Operand → Value} {w : World} {dst : Option Tmp} {ty : TypeId} {pos : String} {after : Array Edge} {guard : Option (Nat × Bool)} {x ix : Operand}
end
noncomputable def selOps : Array Oper := ((Tryd.f68.body.bind (opsOf 9)).getD #[])
theorem selOps_size : selOps.size = 11 := by kernel_rfl
theorem selOps_rd : readyB selOps 10 = true := by kernel_rfl
theorem selOps_last : ((selOps[10]?).map fun o => (List.range 10).all fun j => o.after.any fun e => Region.binds .any e && (e.on == j)) = some true := by kernel_rfl
theorem selOps_ready : Region.ready .any selOps (Array.replicate 10 true ++ Array.replicate (selOps.size - 10) false) = [10] := by kernel_rfl
theorem selOps_done : Region.ready .any selOps ((Array.replicate 10 true ++ Array.replicate (selOps.size - 10) false).setIfInBounds 10 true) = [] := by kernel_rfl
theorem lt10 {i : Nat} (h : i < 10) : i = 0 ∨ i = 1 ∨ i = 2 ∨ i = 3 ∨ i = 4 ∨ i = 5 ∨ i = 6 ∨ i = 7 ∨ i = 8 ∨ i = 9 := by omega
/-- The values. -/
def selV (g u c m h : Nat) (x : Int) (A2 : Option Addr) (c2 : Nat) : Nat → Value
  | 0 => .slice (some ⟨g, 0, none⟩) u c
  | 1 => .slice (some ⟨g, 0, none⟩) u c
  | 2 => .slice (some ⟨g, 0, none⟩) u c
  | 3 => .int .i64 (u : Int)
  | 4 => .int .i64 (m : Int)
  | 5 => .int .i64 ((u : Int) - (m : Int))
  | 6 => .pointer (some ⟨g, u - m, none⟩)
  | 7 => .int .i64 x
  | 8 => .slice (some ⟨h, 0, none⟩) 1 1
  | 9 => .slice A2 (u + 1) c2
  | _ => undef
/-- What is known within the region. -/
structure SelS (W0 w2 : World) (fin : Nat → Value) (x : Int) (L : Nat → Bool) (V : Nat → Value) (w : World) : Prop where
  at_ : ∀ j, j < 10 → L j = true → V j = fin j
  l8 : L 8 = true → L 7 = true
  l9 : L 9 = true → L 8 = true
  wd : w = if L 9 = true then w2 else if L 8 = true then W0.alloc (.cells #[.int .i64 x] 3) else W0
theorem SelS.next {W0 w2 w w' : World} {fin : Nat → Value} {x : Int} {L : Nat → Bool} {V : Nat → Value} {i : Nat} {v : Value} (h : SelS W0 w2 fin x L V w) (hv : v = fin i) (h8 : i = 8 → L 7 = true ∧ w' = W0.alloc (.cells #[.int .i64 x] 3) ∧ L 9 = false) (h9 : i = 9 → L 8 = true ∧ w' = w2) (ho : i ≠ 8 → i ≠ 9 → w' = w) :
    SelS W0 w2 fin x (upd L i true) (upd V i v) w' := by
  have hup : ∀ j, upd L i true j = true ↔ (j = i ∨ L j = true) := by
    intro j
    unfold upd
    split
    · rename_i e; simp [e]
    · rename_i e; simp [e]
  refine ⟨fun j hj hL => ?_, fun hL => ?_, fun hL => ?_, ?_⟩
  · by_cases e : j = i
    · subst e; rw [upd_same]; exact hv
    · rw [upd_other _ _ e] at hL ⊢
      exact h.at_ j hj hL
  · rw [hup] at hL ⊢
    rcases hL with hL | hL
    · exact .inr (h8 hL.symm).1
    · exact .inr (h.l8 hL)
  · rw [hup] at hL ⊢
    rcases hL with hL | hL
    · exact .inr (h9 hL.symm).1
    · exact .inr (h.l9 hL)
  · by_cases e9 : i = 9
    · rw [if_pos ((hup 9).2 (.inl e9.symm))]
      exact (h9 e9).2
    · by_cases e8 : i = 8
      · have h3 := h8 e8
        rw [if_neg (fun hh => by
          rcases (hup 9).1 hh with h4 | h4
          · exact e9 h4.symm
          · rw [h3.2.2] at h4; cases h4), if_pos ((hup 8).2 (.inl e8.symm))]
        exact h3.2.1
      · rw [ho e8 e9, h.wd]
        have u9 : upd L i true 9 = L 9 := upd_other _ _ (fun e => e9 e.symm)
        have u8 : upd L i true 8 = L 8 := upd_other _ _ (fun e => e8 e.symm)
        rw [u9, u8]
set_option maxHeartbeats 4000000 in
theorem sel_stepS {W0 w2 : World} {B g u c m c2 : Nat} {x : Int} {A2 : Option Addr} {a0 : Act} (hm : 0 < m) (hmu : m ≤ u) (hu : u ≤ 1000000)
    (hV : Boxed W0 B 28 (.slice (some ⟨g, 0, none⟩) u c)) (hV2 : Boxed w2 B 28 (.slice (some ⟨g, 0, none⟩) u c)) (hx : W0.cell? ⟨g, u - m, none⟩ = some (.int .i64 x))
    (hrun : (Builtin.append_ #[28, 28] 28 #[.slice (some ⟨g, 0, none⟩) u c, .slice (some ⟨W0.heap.size, 0, none⟩) 1 1]).run Tryd.prog (W0.alloc (.cells #[.int .i64 x] 3)) = .ok (.slice A2 (u + 1) c2) w2)
    (h7 : a0.tmps.getD 7 undef = .pointer (some ⟨B, 0, none⟩)) (h9 : a0.tmps.getD 9 undef = .int .i64 (m : Int))
    (i : Nat) (L : Nat → Bool) (V : Nat → Value) (a : Act) (w : World) (hi : i < 10) (hLi : L i = false) (hS : SelS W0 w2 (selV g u c m W0.heap.size x A2 c2) x L V w) (hF : FrameAt 36 a0 a V 10) (hafter : ∀ (t : Nat) (e : Edge), ((selOps[i]?).bind fun o => o.after[t]?) = some e → Region.binds .any e = true → L e.on = true) :
    ∃ o v w', selOps[i]? = some o ∧ o.guard = none ∧ o.dst = some (36 + i) ∧ (execOp a.eval o).run Tryd.prog w = .ok (.value v) w' ∧ SelS W0 w2 (selV g u c m W0.heap.size x A2 c2) x (upd L i true) (upd V i v) w' := by
  have hbox : Boxed w B 28 (.slice (some ⟨g, 0, none⟩) u c) := by
    rw [hS.wd]
    split
    · exact hV2
    · split
      · exact hV.alloc _
      · exact hV
  have hc := lt10 hi
  rcases hc with rfl | rfl | rfl | rfl | rfl | rfl | rfl | rfl | rfl | rfl

  · exact ⟨_, _, w, rfl, rfl, rfl, ex_load_ints (hF.evalLow (by decide) h7) hbox.cell, hS.next rfl (fun h => by cases h) (fun h => by cases h) (fun _ _ => rfl)⟩
  · exact ⟨_, _, w, rfl, rfl, rfl, ex_load_ints (hF.evalLow (by decide) h7) hbox.cell, hS.next rfl (fun h => by cases h) (fun h => by cases h) (fun _ _ => rfl)⟩
  · exact ⟨_, _, w, rfl, rfl, rfl, ex_load_ints (hF.evalLow (by decide) h7) hbox.cell, hS.next rfl (fun h => by cases h) (fun h => by cases h) (fun _ _ => rfl)⟩
  · exact ⟨_, _, w, rfl, rfl, rfl, ex_len ((hF.eval (j := 2) (by decide) rfl).trans (hS.at_ 2 (by decide) (hafter 0 ⟨2, .data⟩ rfl rfl))), hS.next rfl (fun h => by cases h) (fun h => by cases h) (fun _ _ => rfl)⟩
  · exact ⟨_, _, w, rfl, rfl, rfl, ex_move (hF.evalLow (by decide) h9), hS.next rfl (fun h => by cases h) (fun h => by cases h) (fun _ _ => rfl)⟩
  · exact ⟨_, _, w, rfl, rfl, rfl, ex_sub ((hF.eval (j := 3) (by decide) rfl).trans (hS.at_ 3 (by decide) (hafter 0 ⟨3, .data⟩ rfl rfl))) ((hF.eval (j := 4) (by decide) rfl).trans (hS.at_ 4 (by decide) (hafter 1 ⟨4, .data⟩ rfl rfl))) (wrap_small _ (by omega) (by omega)), hS.next rfl (fun h => by cases h) (fun h => by cases h) (fun _ _ => rfl)⟩
  · exact ⟨_, _, w, rfl, rfl, rfl, ex_index_ints (j := u - m) (by omega) ((hF.eval (j := 1) (by decide) rfl).trans (hS.at_ 1 (by decide) (hafter 0 ⟨1, .data⟩ rfl rfl))) ((hF.eval (j := 5) (by decide) rfl).trans (hS.at_ 5 (by decide) (hafter 1 ⟨5, .data⟩ rfl rfl))) (by omega), hS.next rfl (fun h => by cases h) (fun h => by cases h) (fun _ _ => rfl)⟩
  · have hw : w = W0 := by
      rw [hS.wd]
      have h8 : L 8 = false := by
        rcases hb : L 8 with _ | _
        · rfl
        · have := hS.l8 hb; rw [this] at hLi; cases hLi
      have h9 : L 9 = false := by
        rcases hb : L 9 with _ | _
        · rfl
        · have := hS.l9 hb; rw [this] at h8; cases h8
      rw [h8, h9]
      rfl
    exact ⟨_, _, w, rfl, rfl, rfl, ex_load_int ((hF.eval (j := 6) (by decide) rfl).trans (hS.at_ 6 (by decide) (hafter 0 ⟨6, .data⟩ rfl rfl))) (by rw [hw]; exact hx), hS.next rfl (fun h => by cases h) (fun h => by cases h) (fun _ _ => rfl)⟩
  · have h9 : L 9 = false := by
      rcases hb : L 9 with _ | _
      · rfl
      · have := hS.l9 hb; rw [this] at hLi; cases hLi
    have hw : w = W0 := by
      rw [hS.wd, h9, hLi]
      rfl
    subst hw
    exact ⟨_, _, _, rfl, rfl, rfl, ex_one ((hF.eval (j := 7) (by decide) rfl).trans (hS.at_ 7 (by decide) (hafter 0 ⟨7, .data⟩ rfl rfl))), hS.next rfl (fun _ => ⟨hafter 0 ⟨7, .data⟩ rfl rfl, rfl, h9⟩) (fun h => by cases h) (fun h => absurd rfl h)⟩
  · have h8 : L 8 = true := hafter 1 ⟨8, .data⟩ rfl rfl
    have hw : w = W0.alloc (.cells #[.int .i64 x] 3) := by
      rw [hS.wd, hLi, h8]
      rfl
    subst hw
    exact ⟨_, _, _, rfl, rfl, rfl, ex_append_run ((hF.eval (j := 0) (by decide) rfl).trans (hS.at_ 0 (by decide) (hafter 0 ⟨0, .data⟩ rfl rfl))) ((hF.eval (j := 8) (by decide) rfl).trans (hS.at_ 8 (by decide) (hafter 1 ⟨8, .data⟩ rfl rfl))) hrun, hS.next rfl (fun h => by cases h) (fun _ => ⟨h8, rfl⟩) (fun _ h => absurd rfl h)⟩
theorem arr47 {a : Array Value} (h : a.size = 47) : a = #[a.getD 0 undef, a.getD 1 undef, a.getD 2 undef, a.getD 3 undef, a.getD 4 undef, a.getD 5 undef, a.getD 6 undef, a.getD 7 undef, a.getD 8 undef, a.getD 9 undef, a.getD 10 undef, a.getD 11 undef, a.getD 12 undef, a.getD 13 undef, a.getD 14 undef, a.getD 15 undef, a.getD 16 undef, a.getD 17 undef, a.getD 18 undef, a.getD 19 undef, a.getD 20 undef, a.getD 21 undef, a.getD 22 undef, a.getD 23 undef, a.getD 24 undef, a.getD 25 undef, a.getD 26 undef, a.getD 27 undef, a.getD 28 undef, a.getD 29 undef, a.getD 30 undef, a.getD 31 undef, a.getD 32 undef, a.getD 33 undef, a.getD 34 undef, a.getD 35 undef, a.getD 36 undef, a.getD 37 undef, a.getD 38 undef, a.getD 39 undef, a.getD 40 undef, a.getD 41 undef, a.getD 42 undef, a.getD 43 undef, a.getD 44 undef, a.getD 45 undef, a.getD 46 undef] := by
  obtain ⟨l⟩ := a
  match l, h with
  | x0 :: x1 :: x2 :: x3 :: x4 :: x5 :: x6 :: x7 :: x8 :: x9 :: x10 :: x11 :: x12 :: x13 :: x14 :: x15 :: x16 :: x17 :: x18 :: x19 :: x20 :: x21 :: x22 :: x23 :: x24 :: x25 :: x26 :: x27 :: x28 :: x29 :: x30 :: x31 :: x32 :: x33 :: x34 :: x35 :: x36 :: x37 :: x38 :: x39 :: x40 :: x41 :: x42 :: x43 :: x44 :: x45 :: x46 :: [], _ => rfl
set_option maxHeartbeats 8000000 in
theorem sel_region {Q : Exit → Act → World → Prop} {W w2 : World} {B g u c m c2 : Nat} {x : Int} {A2 : Option Addr} {ds : List Deferred} {t0 t1 t2 t3 t4 t5 t6 t8 t10 t11 t12 t13 t14 t15 t16 t17 t18 t19 t20 t21 t22 t23 t24 t25 t26 t27 t28 t29 t30 t31 t32 t33 t34 t35 t36 t37 t38 t39 t40 t41 t42 t43 t44 t45 t46 : Value} (hm : 0 < m) (hmu : m ≤ u) (hu : u ≤ 1000000)
    (hV : Boxed W B 28 (.slice (some ⟨g, 0, none⟩) u c)) (hV2 : Boxed w2 B 28 (.slice (some ⟨g, 0, none⟩) u c)) (hx : W.cell? ⟨g, u - m, none⟩ = some (.int .i64 x))
    (hrun : (Builtin.append_ #[28, 28] 28 #[.slice (some ⟨g, 0, none⟩) u c, .slice (some ⟨W.heap.size, 0, none⟩) 1 1]).run Tryd.prog (W.drew.alloc (.cells #[.int .i64 x] 3)) = .ok (.slice A2 (u + 1) c2) w2)
    (h : ∀ (y : Nat → Value), Q .normal ({ tmps := #[t0, t1, t2, t3, t4, t5, t6, (.pointer (some ⟨B, 0, none⟩)), t8, (.int .i64 (m : Int)), t10, t11, t12, t13, t14, t15, t16, t17, t18, t19, t20, t21, t22, t23, t24, t25, t26, t27, t28, t29, t30, t31, t32, t33, t34, t35, y 0, y 1, y 2, y 3, y 4, y 5, y 6, y 7, y 8, y 9, t46], defers := ds } : Act) (w2.setCell ⟨B, 0, none⟩ (.slice A2 (u + 1) c2))) :
    (Code.region 9 selOps true).wp Tryd.prog Q ({ tmps := #[t0, t1, t2, t3, t4, t5, t6, (.pointer (some ⟨B, 0, none⟩)), t8, (.int .i64 (m : Int)), t10, t11, t12, t13, t14, t15, t16, t17, t18, t19, t20, t21, t22, t23, t24, t25, t26, t27, t28, t29, t30, t31, t32, t33, t34, t35, t36, t37, t38, t39, t40, t41, t42, t43, t44, t45, t46], defers := ds } : Act) W := by
  refine wp_region_any (by kernel_rfl) ?_
  change wpAny Tryd.prog .any selOps _ selOps.size (Array.replicate selOps.size false) _ W.drew
  refine wpAny_steps (N := 10) (base := 36) (by rw [selOps_size]; omega) selOps_rd (show 36 + 10 ≤ 47 by decide) ?rest (SelS W.drew w2 (selV g u c m W.heap.size x A2 c2) x) ?step ?last (fun j => ({ tmps := #[t0, t1, t2, t3, t4, t5, t6, (.pointer (some ⟨B, 0, none⟩)), t8, (.int .i64 (m : Int)), t10, t11, t12, t13, t14, t15, t16, t17, t18, t19, t20, t21, t22, t23, t24, t25, t26, t27, t28, t29, t30, t31, t32, t33, t34, t35, t36, t37, t38, t39, t40, t41, t42, t43, t44, t45, t46], defers := ds } : Act).tmps.getD (36 + j) undef) ⟨fun _ _ h => (by cases h), fun h => (by cases h), fun h => (by cases h), rfl⟩ (fun j hj => rfl)
  case rest =>
    intro i o hi ho j hj
    have hi2 := (Array.getElem?_eq_some_iff.1 ho).1
    rw [selOps_size] at hi2
    obtain rfl : i = 10 := by omega
    have hl := selOps_last
    rw [ho] at hl
    simp only [Option.map_some, Option.some.injEq, List.all_eq_true, List.mem_range, Array.any_eq_true, Bool.and_eq_true, beq_iff_eq] at hl
    obtain ⟨t, ht, h1, h2⟩ := hl j hj
    exact ⟨_, Array.getElem_mem ht, h1, h2⟩
  case step =>
    intro i L V a w' hi hS hLi hF hafter
    exact sel_stepS hm hmu hu (W0 := W.drew) hV hV2 hx hrun rfl rfl i L V a w' hi hLi hS hF (fun t e h hb => by
      obtain ⟨o, ho, he⟩ := Option.bind_eq_some_iff.1 h
      exact hafter o ho e (Array.mem_of_getElem? he) hb)
  case last =>
    intro L V a w' hL hS hF
    rw [show selOps.size - 10 = 1 by rw [selOps_size]]
    refine wpAny_one (N := 10) selOps_ready selOps_done ?_
    have hw : w' = w2 := by rw [hS.wd, if_pos (hL 9 (by decide))]
    subst hw
    have h9 := hS.at_ 9 (by decide) (hL 9 (by decide))
    refine wpOp_skip rfl rfl rfl (ex_store_ints hV2 (hF.evalLow (by decide) rfl) ((hF.eval (j := 9) (by decide) rfl).trans h9)) ?_
    have hs : a.tmps.size = 47 := by rw [hF.sz]; rfl
    have ha := arr47 hs
    have hd := hF.defers
    obtain ⟨tmps, defers⟩ := a
    dsimp only at ha hd hs
    have hlo := hF.low
    have hat := hF.at_
    dsimp only at hlo hat
    subst hd
    rw [ha]

    rw [hlo 0 (by decide)]
    rw [hlo 1 (by decide)]
    rw [hlo 2 (by decide)]
    rw [hlo 3 (by decide)]
    rw [hlo 4 (by decide)]
    rw [hlo 5 (by decide)]
    rw [hlo 6 (by decide)]
    rw [hlo 7 (by decide)]
    rw [hlo 8 (by decide)]
    rw [hlo 9 (by decide)]
    rw [hlo 10 (by decide)]
    rw [hlo 11 (by decide)]
    rw [hlo 12 (by decide)]
    rw [hlo 13 (by decide)]
    rw [hlo 14 (by decide)]
    rw [hlo 15 (by decide)]
    rw [hlo 16 (by decide)]
    rw [hlo 17 (by decide)]
    rw [hlo 18 (by decide)]
    rw [hlo 19 (by decide)]
    rw [hlo 20 (by decide)]
    rw [hlo 21 (by decide)]
    rw [hlo 22 (by decide)]
    rw [hlo 23 (by decide)]
    rw [hlo 24 (by decide)]
    rw [hlo 25 (by decide)]
    rw [hlo 26 (by decide)]
    rw [hlo 27 (by decide)]
    rw [hlo 28 (by decide)]
    rw [hlo 29 (by decide)]
    rw [hlo 30 (by decide)]
    rw [hlo 31 (by decide)]
    rw [hlo 32 (by decide)]
    rw [hlo 33 (by decide)]
    rw [hlo 34 (by decide)]
    rw [hlo 35 (by decide)]
    rw [show tmps.getD 36 undef = V 0 from hat 0 (by decide)]
    rw [show tmps.getD 37 undef = V 1 from hat 1 (by decide)]
    rw [show tmps.getD 38 undef = V 2 from hat 2 (by decide)]
    rw [show tmps.getD 39 undef = V 3 from hat 3 (by decide)]
    rw [show tmps.getD 40 undef = V 4 from hat 4 (by decide)]
    rw [show tmps.getD 41 undef = V 5 from hat 5 (by decide)]
    rw [show tmps.getD 42 undef = V 6 from hat 6 (by decide)]
    rw [show tmps.getD 43 undef = V 7 from hat 7 (by decide)]
    rw [show tmps.getD 44 undef = V 8 from hat 8 (by decide)]
    rw [show tmps.getD 45 undef = V 9 from hat 9 (by decide)]
    rw [show tmps.getD 46 undef = t46 from hF.high 46 (by decide)]
    exact h V
end

/-! ### selection. -/
section
open Go.RowKit Go.Shelf BigFrame

attribute [local go_sem] Oper.semAt_some

theorem lap_any {A : Option Addr} {N c s : Nat} {w : World} : Calls Tryd.prog 81 #[.slice A N c, .int .i64 (s : Int)] w fun e w' => e = .returned (.func (.func 89) #[] #[.pointer (some ⟨w.heap.size, 0, none⟩), .pointer (some ⟨w.heap.size + 1, 0, none⟩)]) ∧ w' = (w.alloc (.cells #[.slice A N c] 28)).alloc (.cells #[.int .i64 (s : Int)] 3) := by
  have hmf := makeFunc_run
  go_enter Tryd.func81, Tryd.ntmps81
  go_wp2_with fail
  go_ret
  exact ⟨rfl, rfl⟩
/-- The slice that is captured: in its box, of one's own. -/
def OutI (w : World) (u : Nat) (xs : List Int) (W : World) : Prop :=
  ∃ A c, Boxed W (w.heap.size + 1) 28 (.slice A u c) ∧ W.ownsRow w.heap.size 3 1 (.slice A u c) u (xs.map (Value.int .i64)) ∧ ∀ g, (Value.slice A u c).ownBlock = some g → w.heap.size + 4 ≤ g
theorem OutI.keep {w W W' : World} {u : Nat} {xs : List Int} {row : Option Nat} (h : OutI w u xs W) (hg : W.grownBy W' row) (hr : ∀ r, row = some r → ∃ o : Obj, W.heap[r]? = some o ∧ o.isCells = false) : OutI w u xs W' := by
  obtain ⟨A, c, h1, h2, h3⟩ := h
  refine ⟨A, c, boxed_keep h1 hg hr, ownsRow_block h2 (fun g hgo => ?_), h3⟩
  rcases h2.2 with ⟨e, _⟩ | ⟨g', cap, cur, hv, _, hgc, _⟩
  · rw [e] at hgo; cases hgo
  · rw [hv] at hgo
    simp only [Value.ownBlock, Option.some.injEq] at hgo
    subst hgo
    exact cells_kept hgc hg hr
theorem OutI.append {w W : World} {u c : Nat} {A : Option Addr} {xs : List Int} (x : Int) (hV : Boxed W (w.heap.size + 1) 28 (.slice A u c)) (hO : W.ownsRow w.heap.size 3 1 (.slice A u c) u (xs.map (Value.int .i64)))
    (hG : ∀ g, (Value.slice A u c).ownBlock = some g → w.heap.size + 4 ≤ g) (hS : w.heap.size + 4 ≤ W.heap.size) (hu : u < 1000000) :
    ∃ A2 c2 w2, (Builtin.append_ #[28, 28] 28 #[.slice A u c, .slice (some ⟨W.heap.size, 0, none⟩) 1 1]).run Tryd.prog (W.alloc (.cells #[.int .i64 x] 3)) = .ok (.slice A2 (u + 1) c2) w2 ∧
      Boxed w2 (w.heap.size + 1) 28 (.slice A u c) ∧ OutI w (u + 1) (xs ++ [x]) (w2.setCell ⟨w.heap.size + 1, 0, none⟩ (.slice A2 (u + 1) c2)) ∧
      KeepsOthers W (w2.setCell ⟨w.heap.size + 1, 0, none⟩ (.slice A2 (u + 1) c2)) ∧ Below w.heap.size W (w2.setCell ⟨w.heap.size + 1, 0, none⟩ (.slice A2 (u + 1) c2)) ∧
      (∀ G t v, G ≠ w.heap.size + 1 → G < w.heap.size + 4 → Boxed W G t v → Boxed w2 G t v ∧ Boxed (w2.setCell ⟨w.heap.size + 1, 0, none⟩ (.slice A2 (u + 1) c2)) G t v) := by
  have hO' : (W.alloc (.cells #[.int .i64 x] 3)).ownsRow w.heap.size 3 1 (.slice A u c) u (xs.map (Value.int .i64)) := hO.alloc _
  obtain ⟨i0, hi, hz0, hz1, hz2⟩ := info_q Tryd.info_int
  have hR : Rd .i64 (W.alloc (.cells #[.int .i64 x] 3)) (W.heap.size + 1) (some ⟨W.heap.size, 0, none⟩) 1 [x] := by
    refine ⟨rfl, fun k hk => ⟨W.heap.size, 0, rfl, by omega, ?_⟩⟩
    obtain rfl : k = 0 := by omega
    simp
  obtain ⟨V2, w2, h1, h2, h3, h4⟩ := run_append_q (P := Tryd.prog) (q := .i64) (ty := 28) (c' := 1) Tryd.underlying28 hi hz0 hz1 hz2 (by decide) hO' hR (by omega) (by simp; omega)
  obtain ⟨A2, c2, rfl⟩ := ownsRow_shape h2
  obtain ⟨e1, e2, e3, e4, e5⟩ := hV.appended (by decide) hO (by omega) (by omega) h2 h3
  refine ⟨A2, c2, w2, h1, e1, ⟨A2, c2, e2, by simpa using e3, fun g hg => ?_⟩, e4, e5, fun G t v hne hlt hb => ?_⟩
  · rcases h4 with h4 | h4
    · exact hG g (h4.symm.trans hg)
    · rw [h4] at hg
      injection hg with hg
      simp at hg
      omega
  · have n1 : some G ≠ (Value.slice A u c).ownBlock := fun e => by have := hG G e.symm; omega
    have b2 : Boxed w2 G t v := (hb.alloc _).kept h3 n1
    exact ⟨b2, b2.other hne _⟩
/-- Where the loop over the turn is. -/
structure SelI (w : World) (E N s c : Nat) (A : Option Addr) (cir : List Int) (t : Nat) (W : World) : Prop where
  le : cntT cir s t ≤ E
  be : Boxed W w.heap.size 3 (.int .i64 (E : Int))
  bl : Boxed W (w.heap.size + 2) 28 (.slice A N c)
  bs : Boxed W (w.heap.size + 3) 3 (.int .i64 (s : Int))
  out : OutI w (cntT cir s t) (selL cir s (cntT cir s t)) W
  low : Below w.heap.size w W
theorem SelI.own {w : World} {E N s c M : Nat} {A : Option Addr} {cir : List Int} (hM : w.heap.size ≤ M) : OwnFrom M (SelI w E N s c A cir) := by
  intro j W W' row h hg hr
  have hr' : ∀ r, row = some r → ∃ o : Obj, W.heap[r]? = some o ∧ o.isCells = false := fun r e => (hr r e).2
  exact ⟨h.le, boxed_keep h.be hg hr', boxed_keep h.bl hg hr', boxed_keep h.bs hg hr', h.out.keep hg hr', h.low.grown hg h.low.size (fun r e => Nat.le_trans hM (hr r e).1)⟩
/-- Behind it. -/
structure SelX (w : World) (E s m : Nat) (cir : List Int) (W : World) : Prop where
  pos : 0 < m → 0 < usable cir
  be : Boxed W w.heap.size 3 (.int .i64 (E : Int))
  out : OutI w m (selL cir s m) W
  low : Below w.heap.size w W
theorem SelX.own {w : World} {E s m M : Nat} {cir : List Int} (hM : w.heap.size ≤ M) : OwnFrom M (fun (_ : Unit) => SelX w E s m cir) := by
  intro j W W' row h hg hr
  have hr' : ∀ r, row = some r → ∃ o : Obj, W.heap[r]? = some o ∧ o.isCells = false := fun r e => (hr r e).2
  exact ⟨h.pos, boxed_keep h.be hg hr', h.out.keep hg hr', h.low.grown hg h.low.size (fun r e => Nat.le_trans hM (hr r e).1)⟩
theorem cntT_all {l : List Int} {s : Nat} (hl : 0 < l.length) : cntT l s l.length = usable l := by
  unfold cntT
  rw [Nat.div_self hl, Nat.mod_self]
  simp
theorem cntT_pos {l : List Int} {s t : Nat} (h : 0 < cntT l s t) : 0 < usable l := by
  rcases Nat.eq_zero_or_pos (usable l) with h0 | h0
  · exfalso
    unfold cntT at h
    rw [h0, Nat.mul_zero, Nat.zero_add] at h
    have h1 : ((rotL l s).take (t % l.length)).countP useB ≤ (rotL l s).countP useB := (List.take_sublist _ _).countP_le
    rw [countP_rot, h0] at h1
    omega
  · exact h0
/-- What selection returns. -/
def selR (cir : List Int) (s E : Nat) : List Int := if 0 < E ∧ usable cir = 0 then [] else selL cir s E
set_option maxRecDepth 100000 in
set_option maxHeartbeats 8000000 in
theorem selection_in {n : Nat} (hn : 6 ≤ n) {A : Option Addr} {N c s E : Nat} {cir : List Int} {w : World} (hR : Rd .i64 w w.heap.size A N cir) (hs : s < N) (hN : N ≤ 18528) (hE : E ≤ 131072) (hge : ∀ x ∈ cir, x = -1 ∨ 0 ≤ x) :
    CallsIn Fence.wide n Tryd.prog 68 #[.slice A N c, .int .i64 (s : Int), .int .i64 (E : Int)] w (RetI w (selR cir s E)) := by
  have hE' : (E : Int) ≤ 131072 := by omega
  have hlp := Lib.hid (fun (u : World) => callsIn_wide (n := n - 1) |>.2 (lap_any (A := A) (N := N) (c := c) (s := s) (w := u)))
  have HR := Lib.hid hR
  have HL := Lib.hid hR.len
  refine callsIn_of_wp_marks Tryd.func68 rfl trivial ?_ rfl
  simp only [Tryd.ntmps68, List.size_toArray, List.length_cons, List.length_nil, Nat.reduceAdd, Nat.reduceSub, Array.replicate_succ, Array.replicate_zero, List.push_toArray, List.append_toArray, List.nil_append, List.cons_append]
  gi_wp2
  refine wpIn_wide_scope ?_
  gi_wp2
  refine wpIn_label ?_
  gi_wp2
  refine ⟨trivial, fun _ => by omega, ?_⟩
  refine (hlp.out _).mono ?_
  rintro e w' ⟨rfl, rfl⟩
  have q0 := (((Boxed.new w 3 (.int .i64 (E : Int))).alloc (.cells #[.slice none 0 0] 28)).alloc (.cells #[.slice A N c] 28)).alloc (.cells #[.int .i64 (s : Int)] 3)
  have q1 := ((Boxed.new (w.alloc (.cells #[.int .i64 (E : Int)] 3)) 28 (.slice none 0 0)).alloc (.cells #[.slice A N c] 28)).alloc (.cells #[.int .i64 (s : Int)] 3)
  have q2 := (Boxed.new ((w.alloc (.cells #[.int .i64 (E : Int)] 3)).alloc (.cells #[.slice none 0 0] 28)) 28 (.slice A N c)).alloc (.cells #[.int .i64 (s : Int)] 3)
  have q3 := Boxed.new (((w.alloc (.cells #[.int .i64 (E : Int)] 3)).alloc (.cells #[.slice none 0 0] 28)).alloc (.cells #[.slice A N c] 28)) 3 (.int .i64 (s : Int))
  simp only [World.size_alloc] at q0 q1 q2 q3
  have hb4 : Below w.heap.size w ((((w.alloc (.cells #[.int .i64 (E : Int)] 3)).alloc (.cells #[.slice none 0 0] 28)).alloc (.cells #[.slice A N c] 28)).alloc (.cells #[.int .i64 (s : Int)] 3)) :=
    ((((Below.refl _ w).alloc (Nat.le_refl _) _).alloc (by simp) _).alloc (by simp; omega) _).alloc (by simp; omega) _
  have hz4 : ((((w.alloc (.cells #[.int .i64 (E : Int)] 3)).alloc (.cells #[.slice none 0 0] 28)).alloc (.cells #[.slice A N c] 28)).alloc (.cells #[.int .i64 (s : Int)] 3)).heap.size = w.heap.size + 4 := by simp
  simp only [World.size_alloc]
  generalize (((w.alloc (.cells #[.int .i64 (E : Int)] 3)).alloc (.cells #[.slice none 0 0] 28)).alloc (.cells #[.slice A N c] 28)).alloc (.cells #[.int .i64 (s : Int)] 3) = W4 at *
  have hI0 : SelI w E N s c A cir 0 W4 := ⟨by rw [cntT_zero]; exact Nat.zero_le _, q0, q2, q3, ⟨none, 0, by rw [cntT_zero]; exact q1, by rw [cntT_zero]; simpa [selL] using World.ownsRow_nil W4 w.heap.size 3 1, fun g hg => by simp [Value.ownBlock] at hg⟩, hb4⟩
  have HZ := Lib.hid hz4
  clear q0 q1 q2 q3 hb4 hz4 hlp
  gi_wp2
  refine wpIn_lap (n := n) (by omega) (BL := w.heap.size + 2) (BS := w.heap.size + 3) (N := N) (c := c) (s := s) (A := A) (cir := cir) hs hN rfl rfl
    (SelI w E N s c A cir) (fun c W => c = .exit 0 ∧ SelX w E s E cir W)
    (SelI.own (by rw [HZ.out]; omega)) (fun c s' A B row hs hg hr => ⟨hs.1, SelX.own (by rw [HZ.out]; omega) () A B row hs.2 hg hr⟩)
    (fun t W h => ⟨h.bl, h.bs, HR.out.step h.low⟩) hI0
    (fun t => { tmps := #[.slice A N c, .int .i64 (s : Int), .int .i64 (E : Int), undef, undef, .pointer (some ⟨w.heap.size, 0, none⟩), .slice none 0 0, .pointer (some ⟨w.heap.size + 1, 0, none⟩), .int .i64 (lapI cir s N t), undef, .slice A N c, .int .i64 (s : Int), .func (.func 89) #[] #[.pointer (some ⟨w.heap.size + 2, 0, none⟩), .pointer (some ⟨w.heap.size + 3, 0, none⟩)], .int .i64 (lapI cir s N t), undef, undef, undef, undef, undef, undef, undef, undef, undef, undef, undef, undef, undef, undef, undef, undef, undef, undef, undef, undef, undef, undef, undef, undef, undef, undef, undef, undef, undef, undef, undef, undef, undef], defers := [] }) ?assign ?body ?done ?stop
  case assign =>
    intro lp t W K hK
    gi_wp2
    exact hK
  case body =>
    intro lp t W ht hI hbig
    have hcs := cnt_step (l := cir) (s := s) (t := t) (by rw [HL.out]; exact hs) (x := lapI cir s N t) (by
      unfold lapI
      rw [HL.out, List.getElem?_eq_getElem (by rw [HL.out]; exact Nat.mod_lt _ (by omega))]
      rfl)
    have hgx : lapI cir s N t = -1 ∨ 0 ≤ lapI cir s N t := by
      unfold lapI
      have hml : (s + t) % N < cir.length := by rw [HL.out]; exact Nat.mod_lt _ (by omega)
      rw [List.getElem?_eq_getElem hml]
      exact hge _ (List.getElem_mem hml)
    have hst := fun hu => sel_step (l := cir) (s := s) (t := t) (by rw [HL.out]; exact hs) (x := lapI cir s N t) (by
      unfold lapI
      rw [HL.out, List.getElem?_eq_getElem (by rw [HL.out]; exact Nat.mod_lt _ (by omega))]
      rfl) hu
    obtain ⟨hle, hbe, hbl, hbs, ⟨A', c', hV, hO, hG⟩, hlow⟩ := hI
    generalize lapI cir s N t = x at *
    obtain ⟨u, hu⟩ : ∃ u, cntT cir s t = u := ⟨_, rfl⟩
    rw [hu] at hcs hst hle hV hO hG
    have d0 := hbe.cell
    have d1 := hV.cell
    have d2 := hV.frozen
    by_cases huE : u = E
    · subst huE
      have hX : SelX w u s u cir W := ⟨fun h => cntT_pos (s := s) (t := t) (by rw [hu]; exact h), hbe, ⟨A', c', hV, hO, hG⟩, hlow⟩
      clear hbe hV hO hG hlow hst hcs hbl hbs
      gi_wp2
      exact ⟨KeepsFrom.refl _ _, rfl, hX⟩
    · have hne : ((u : Int) == (E : Int)) = false := by simp; omega
      rcases hgx with rfl | hx
      · have hnx : SelI w E N s c A cir (t + 1) W := by
          have h1 := hcs.2 (by rfl)
          exact ⟨by rw [h1]; exact hle, hbe, hbl, hbs, by rw [h1]; exact ⟨A', c', hV, hO, hG⟩, hlow⟩
        clear hbe hV hO hG hlow hst hcs hbl hbs huE
        gi_wp2
        exact ⟨KeepsFrom.refl _ _, hnx⟩
      · have hux : useB x = true := decide_eq_true hx
        have hsuc := hst hux
        have h1 := (hcs.1 hux).1
        rw [h1] at hsuc
        have hd : (x != -1) = true := by simp; omega
        obtain ⟨A2, c2, w2, hrun, hv2, hout, hko, hbl2, hot⟩ := OutI.append x hV hO hG (by have := HZ.out; omega) (by omega)
        rw [hsuc] at hout
        have hnx : SelI w E N s c A cir (t + 1) (w2.setCell ⟨w.heap.size + 1, 0, none⟩ (.slice A2 (u + 1) c2)) :=
          ⟨by rw [h1]; omega, (hot _ _ _ (by omega) (by omega) hbe).2, (hot _ _ _ (by omega) (by omega) hbl).2, (hot _ _ _ (by omega) (by omega) hbs).2, by rw [h1]; exact hout, hlow.trans hbl2⟩
        have HRn := Lib.hid hrun
        have HN := Lib.hid hnx
        have HK := Lib.hid (hko.from W4.heap.size)
        have e1 := hv2.cell
        have e2 := hv2.frozen
        clear hbe hV hO hG hlow hst hcs hbl hbs huE hsuc h1 hrun hv2 hout hko hbl2 hot hnx hux
        gi_wp2_with (gi_at_builtin; refine wpListIn_append_run rfl _ _ _ rfl _ _ _ rfl rfl HRn.out ?_)
        exact ⟨HK.out, HN.out⟩
  case' done =>
    intro D W hD hI hKD
    have hm : ∃ m, m ≤ E ∧ (m = E ∨ m = usable cir) ∧ SelX w E s m cir W := by
      have h1 : cntT cir s N = usable cir := by rw [← HL.out]; exact cntT_all (by rw [HL.out]; omega)
      have h2 := hI.out
      have h3 := hI.le
      rw [h1] at h2 h3
      exact ⟨usable cir, h3, .inr rfl, fun h => h, hI.be, h2, hI.low⟩
    clear hI
    subst hD
    obtain ⟨m, hmE, hmu, hX⟩ := hm
    have d0 := hX.be.cell
    obtain ⟨A', c', hV, hO, hG⟩ := hX.out
    have d1 := hV.cell
    clear hV hO hG
    gi_wp2
  case' stop =>
    rintro D cc W hD ⟨rfl, hx⟩ hKD
    have hm : ∃ m, m ≤ E ∧ (m = E ∨ m = usable cir) ∧ SelX w E s m cir W := ⟨E, Nat.le_refl _, .inl rfl, hx⟩
    clear hx
    subst hD
    obtain ⟨m, hmE, hmu, hX⟩ := hm
    have d0 := hX.be.cell
    obtain ⟨A', c', hV, hO, hG⟩ := hX.out
    have d1 := hV.cell
    clear hV hO hG
    gi_wp2
  all_goals
    clear d0 d1
    refine wpIn_wide.2 ?_
    go_loopg [28] (E - m) (fun g _ wr => ∃ u, m ≤ u ∧ u ≤ E ∧ (m = 0 → u = 0) ∧ g = E - u ∧ Hid (SelX w E s u cir wr) ∧ Hid (wr.heap[W4.heap.size]? = some (.deferred (some []))))
    case atStart => exact ⟨m, Nat.le_refl _, hmE, id, rfl, Lib.hid hX, Lib.hid hKD⟩
    case round =>
      clear hX hKD
      obtain ⟨u, hmu', huE, hu0, rfl, hX, hKD⟩ := hrel
      obtain ⟨A', c', hV, hO, hG⟩ := hX.out.out
      have d0 := hX.out.be.cell
      have d1 := hV.cell
      have hul := Lib.hid (show (selL cir s u).length = u from selL_length _ _ _)
      by_cases hm0 : m = 0
      · subst hm0
        obtain rfl := hu0 rfl
        have hres : Hid (selL cir s 0 = selR cir s E) := Lib.hid (by
          unfold selR
          by_cases hE0 : E = 0
          · subst hE0
            rw [if_neg (by omega)]
          · rw [if_pos ⟨by omega, by omega⟩]
            rfl)
        rw [show (((0 : Nat) : Int)) = 0 from rfl] at *
        have hfin := Lib.hid (RetI.mk_ (w := w) (w' := wr.putObj W4.heap.size (.deferred none)) (r := selR cir s E) (A := A') (n := 0) (c := c') (B := w.heap.size) (e := .returned (.slice A' 0 c')) (by rw [← hres.out]; exact hul.out) (ownsRow_putObj (by rw [← hres.out]; exact hO) _ hKD.out rfl) (Nat.le_refl _) (hX.out.low.trans (belowK_b (w := w) (Nat.le_refl _) wr W4.heap.size _ _ (by have := HZ.out; omega) hKD.out rfl rfl)) rfl)
        clear hV hG hO hul hres
        go_wp2_with fail
        gi_wp2
        refine ⟨by simp, .inl ⟨_, _, rfl, run_takeDeferred hKD.out, ?_⟩⟩
        exact ⟨_, results_tmp (t := 6) rfl _ _ _, hfin.out⟩
      · obtain ⟨g, cap, hv, _, _⟩ := hO.form (by omega)
        injection hv with hv1 hv2 hv3
        subst hv1
        clear hv2 hv3
        have hm1 : (0 : Int) < (m : Int) := by omega
        by_cases hlt : u < E
        · have hux : (u : Int) < (E : Int) := by omega
          have hmus : usable cir = m := by rcases hmu with h | h <;> omega
          have hsu := selL_succ (l := cir) (s := s) (e := u)
          have hat := selL_at (l := cir) (s := s) (e := u) (j := u - m) (by omega)
          have hxx : (turnL cir s)[(u - m) % usable cir]?.getD 0 = (turnL cir s)[u % usable cir]?.getD 0 := by
            congr 2
            rw [hmus]
            have : u = (u - m) + m := by omega
            conv => rhs; rw [this]
            rw [Nat.add_mod_right]
          have hc := World.ownsRow.cellAt hO (u - m) (by omega)
          have hlen : u - m < (selL cir s u).length := by rw [selL_length]; omega
          rw [List.getElem?_map, List.getElem?_eq_getElem hlen, Option.map_some] at hc
          rw [List.getElem?_eq_getElem hlen, Option.getD_some, hxx] at hat
          rw [hat] at hc
          generalize (turnL cir s)[u % usable cir]?.getD 0 = x at *
          obtain ⟨A2, c2, w2, hrun, hv2, hout, hko, hbl2, hot⟩ := OutI.append (W := wr.drew) x (show Boxed wr.drew _ _ _ from hV) (World.ownsRow.drew hO) hG (by have := hX.out.low.size; have := HZ.out; have := (Array.getElem?_eq_some_iff.1 hKD.out).1; show w.heap.size + 4 ≤ wr.heap.size; omega) (by omega)
          rw [← hsu] at hout
          have hnx := Lib.hid (show SelX w E s (u + 1) cir (w2.setCell ⟨w.heap.size + 1, 0, none⟩ (.slice A2 (u + 1) c2)) from
            ⟨fun _ => by omega, (hot _ _ _ (by omega) (by omega) (show Boxed wr.drew _ _ _ from hX.out.be)).2, hout, hX.out.low.trans (show Below w.heap.size wr _ from ⟨hbl2.os, hbl2.tape, hbl2.output, hbl2.size, hbl2.block⟩)⟩)
          have hkd2 := Lib.hid (hko.same W4.heap.size _ (show wr.drew.heap[W4.heap.size]? = _ from hKD.out) rfl)
          have HRn := Lib.hid hrun
          have HV := Lib.hid hV
          have HV2 := Lib.hid hv2
          have HC := Lib.hid hc
          clear hsu hat hxx hc hlen hO hG hV hrun hv2 hout hko hbl2 hot hX hKD hul
          go_wp2_with fail
          refine sel_region (W := wr) (w2 := w2) (m := m) (u := u) (x := x) (by omega) hmu' (by omega) HV.out HV2.out HC.out HRn.out (fun y => ?_)
          go_wp2_with fail
          go_roundg (E - (u + 1))
          case measure => omega
          case rel => exact ⟨u + 1, by omega, by omega, by omega, rfl, hnx, hkd2⟩
        · obtain rfl : E = u := by omega
          have hres : Hid (selL cir s E = selR cir s E) := Lib.hid (by
            unfold selR
            rw [if_neg]
            intro h
            have := hX.out.pos h.1
            omega)
          have hfin := Lib.hid (RetI.mk_ (w := w) (w' := wr.putObj W4.heap.size (.deferred none)) (r := selR cir s E) (A := some ⟨g, 0, none⟩) (n := E) (c := c') (B := w.heap.size) (e := .returned (.slice (some ⟨g, 0, none⟩) E c')) (by rw [← hres.out]; exact hul.out) (ownsRow_putObj (by rw [← hres.out]; exact hO) _ hKD.out rfl) (Nat.le_refl _) (hX.out.low.trans (belowK_b (w := w) (Nat.le_refl _) wr W4.heap.size _ _ (by have := HZ.out; omega) hKD.out rfl rfl)) rfl)
          clear hV hG hO hul hres
          go_wp2_with fail
          gi_wp2
          refine ⟨by simp, .inl ⟨_, _, rfl, run_takeDeferred hKD.out, ?_⟩⟩
          exact ⟨_, results_tmp (t := 6) rfl _ _ _, hfin.out⟩
end
end Go.Proofs.YtoegamlpgenfcaaDoor
