/-
  Sum. Scale. Sum, Scale, Hard, Ideal at any arguments. Sum, Scale, Hard, Ideal at any arguments: what they return. least, Least.
-/
import Derived.Test.YtoegamlpgenfcaaDoorCp
import Derived.Test.YtoegamlpgenfcaaDoorEx
namespace Go.Proofs.YtoegamlpgenfcaaDoor
/-! ### Sum. -/
section
open Go.RowKit Go.Shelf

theorem RdB.drew {w : World} {A : Option Addr} {n : Nat} {bs : List Bool} (h : RdB w A n bs) : RdB w.drew A n bs := ⟨h.len, h.cells⟩
theorem RdB.alloc {w : World} {A : Option Addr} {n : Nat} {bs : List Bool} (h : RdB w A n bs) (o : Obj) : RdB (w.alloc o) A n bs := h.below (B := w.heap.size) ((Below.refl _ w).alloc (Nat.le_refl _) o) (Nat.le_refl _)

theorem Boxed.put2 {W : World} {B P : Nat} {t : TypeId} {v : Value} (h : Boxed W B t v) (hne : B ≠ P) (a b : Value) : Boxed ((W.setCell ⟨P, 0, none⟩ a).setCell ⟨P, 1, none⟩ b) B t v :=
  (Below.heap_setCell _ _ _ _ hne).trans ((Below.heap_setCell _ _ _ _ hne).trans h)
theorem Two.put2 {W : World} {P : Nat} {t : TypeId} {x y : Value} (h : Two W P t x y) (a b : Value) : Two ((W.setCell ⟨P, 0, none⟩ a).setCell ⟨P, 1, none⟩ b) P t a b := (h.set0 a).set1 b
theorem Below.put2 {W W' : World} {B P : Nat} (h : Below B W W') (hP : B ≤ P) (a b : Value) : Below B W ((W'.setCell ⟨P, 0, none⟩ a).setCell ⟨P, 1, none⟩ b) := (h.setCell (p := ⟨P, 0, none⟩) hP a).setCell (p := ⟨P, 1, none⟩) hP b
end

/-! ### Scale. -/
section
open Go.RowKit Go.Shelf

end

/-! ### Sum, Scale, Hard, Ideal at any arguments. -/
section
open Go.RowKit Go.Shelf

theorem map_range (f : Int → Int) (l : List Int) : (List.range l.length).map (fun j => f (l[j]?.getD 0)) = l.map f := by
  apply List.ext_getElem
  · simp
  · intro i h1 h2
    simp at h1
    simp [h1]
def sumS (a b : List Int) : List Int × Int := if (softB a && softB b && decide (a.length = b.length)) = true then (sumI a b, 0) else ([], 2)
def scaleS (l : List Int) (n d : Int) : List Int × Int := if (softB l && (decide (0 ≤ n) && decide (n ≤ 1073741824)) && (decide (1 ≤ d) && decide (d ≤ 1073741824))) = true then (scaleI n d l, 0) else ([], 2)
def hardS (l : List Int) : List Int × Int := if softB l = true then (hardI l, 0) else ([], 2)
def idealS (b : List Int) (m : Int) : List Int × Int := if (decide (0 ≤ m) && decide (m ≤ 127)) = true then (if validB b = true then (idealI m b, 0) else ([], 3)) else ([], 2)

theorem idealC_any {X j : Nat} {m v : Int} {u : World} (hc : u.cell? ⟨X, 0, none⟩ = some (.int .i64 m)) (hm : 0 ≤ m ∧ m ≤ 127) (hv : v = 0 ∨ v = 1) :
    Calls Tryd.prog 54 #[.int .i64 (j : Int), .int .u8 v, .pointer (some ⟨X, 0, none⟩)] u fun e u' => e = .returned (.int .i64 (idealE m v)) ∧ u' = u := by
  unfold idealE
  obtain ⟨h0, h1⟩ := hm
  rcases hv with rfl | rfl
  · go_enter Tryd.func54, Tryd.ntmps54
    go_wp2
    go_ret
    exact ⟨ret_int (by omega), rfl⟩
  · go_enter Tryd.func54, Tryd.ntmps54
    go_wp2
    go_ret
    exact ⟨ret_int (by omega), rfl⟩
end

/-! ### Sum, Scale, Hard, Ideal at any arguments: what they return. -/
section
open Go.RowKit Go.Shelf

theorem valid_bit {bs : List Int} (hB : Byte bs) (hv : validB bs = true) (j : Nat) : bs[j]?.getD 0 = 0 ∨ bs[j]?.getD 0 = 1 := by
  have h1 := hB j
  rcases Nat.lt_or_ge j bs.length with hj | hj
  · unfold validB at hv
    have := List.all_eq_true.1 hv _ (List.getElem_mem hj)
    rw [List.getElem?_eq_getElem hj, Option.getD_some] at h1 ⊢
    simp at this
    omega
  · rw [List.getElem?_eq_none hj]; exact .inl rfl
set_option maxHeartbeats 4000000 in
theorem Ideal_any {A : Option Addr} {n c : Nat} {m : Int} {bs : List Int} {w : World} (hK : KLim w) (h : Rd .u8 w w.heap.size A n bs) (hB : Byte bs) (hn : n ≤ 2000000) :
    Calls Tryd.prog 27 #[.slice A n c, .int .i64 m] w (RetQ .i64 3 w (idealS bs m)) := by
  have hl := h.len
  have hbl := (Below.refl w.heap.size w).alloc (Nat.le_refl _) (.cells #[.int .i64 m] 3)
  have hbx := Boxed.new w 3 (.int .i64 m)
  have hI := includes_any (v := m) (lo := 0) (hi := 127) (.inr (.inl rfl)) (hK.step hbl) rfl rfl
  have hA := areBits_any (c := c) (h.below hbl) hn
  unfold idealS
  by_cases ho : (decide (0 ≤ m) && decide (m ≤ 127)) = true
  · rw [if_pos ho]
    rw [ho] at hI
    by_cases hv : validB bs = true
    · rw [if_pos hv]
      rw [hv] at hA
      have e2 : idealI m bs = (List.range n).map fun j => idealE m (bs[j]?.getD 0) := by unfold idealI; rw [← hl, map_range]
      have hbit := fun j : Nat => valid_bit hB hv j
      simp only [Bool.and_eq_true, decide_eq_true_eq] at ho
      have hC := compute_bi (c := c) (g := fun _ v => idealE m v) (lb := #[.pointer (some ⟨w.heap.size, 0, none⟩)]) (enters_of Tryd.func54 (by kernel_rfl) rfl) (h.step hbl) hn (fun j u' hj hb' =>
        idealC_any ((hb'.cell (World.block_lt_of_cell? _ _ hbx.cell)).trans hbx.cell) ho (hbit j))
      rw [← e2] at hC
      have hlen : Hid ((idealI m bs).length = n) := Lib.hid (by rw [e2]; simp)
      generalize idealI m bs = res at *
      have HI := Lib.hid hI; have HA := Lib.hid hA; have HC := Lib.hid hC; have HBl := Lib.hid hbl
      have c0 := hbx.cell
      clear hK h hB hI hA hC hbl hbx e2 hbit hv ho
      go_enter Tryd.func27, Tryd.ntmps27
      go_wp2_with fail
      refine wp_scope_forward 0 rfl ?_
      go_wp2_with (first | (go_at_call 51; refine HI.out.mono ?_; rintro e w1 ⟨rfl, rfl⟩) | (go_at_call 52; refine HA.out.mono ?_; rintro e w1 ⟨rfl, rfl⟩) | (go_at_call 53; refine HC.out.mono ?_; rintro e w5 ⟨A5, c5, rfl, hO5, hb5⟩) | fail)
      refine jump_ret ?_
      go_ret2
      exact ⟨A5, c5, rfl, hO5.mono HBl.out.size, HBl.out.trans (hb5.mono HBl.out.size)⟩
    · rw [if_neg hv]
      rw [Bool.eq_false_iff.2 hv] at hA
      have HI := Lib.hid hI; have HA := Lib.hid hA; have HBl := Lib.hid hbl
      clear hK h hB hI hA hbl hbx hv ho
      go_enter Tryd.func27, Tryd.ntmps27
      go_wp2_with fail
      refine wp_scope_forward 0 rfl ?_
      go_wp2_with (first | (go_at_call 51; refine HI.out.mono ?_; rintro e w1 ⟨rfl, rfl⟩) | (go_at_call 52; refine HA.out.mono ?_; rintro e w1 ⟨rfl, rfl⟩) | fail)
      go_step3
      refine ⟨rfl, ?_⟩
      go_wp2
      rw [Exit.noGoto_ret]
      go_ret2
      exact RetQ.nil_ HBl.out
  · rw [if_neg ho]
    rw [Bool.eq_false_iff.2 ho] at hI
    have HI := Lib.hid hI; have HBl := Lib.hid hbl
    clear hK h hB hI hA hbl hbx ho
    go_enter Tryd.func27, Tryd.ntmps27
    go_wp2_with fail
    refine wp_scope_forward 0 rfl ?_
    go_wp2_with (first | (go_at_call 51; refine HI.out.mono ?_; rintro e w1 ⟨rfl, rfl⟩) | fail)
    go_step3
    refine ⟨rfl, ?_⟩
    go_wp2
    rw [Exit.noGoto_ret]
    go_ret2
    exact RetQ.nil_ HBl.out
end

/-! ### least, Least. -/
section
open Go.RowKit Go.Shelf

theorem leastN_succ (xs : List Int) (j : Nat) : leastN xs (j + 1) = if absI (xs[j]?.getD 0) < absI (xs[leastN xs j]?.getD 0) then j else leastN xs j := rfl
def leastS (l : List Int) : Nat × Int := if (softB l && decide (0 < l.length)) = true then (leastN l l.length, 0) else (0, 2)
end
end Go.Proofs.YtoegamlpgenfcaaDoor
