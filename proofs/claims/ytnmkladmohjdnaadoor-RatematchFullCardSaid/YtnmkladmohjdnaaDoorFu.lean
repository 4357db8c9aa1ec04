/-
  The full buffer: an interleaved stream's positions.
-/
import Derived.Test.YtnmkladmohjdnaaDoorBs
import Derived.Test.YtnmkladmohjdnaaDoorOd
namespace Go.Proofs.YtnmkladmohjdnaaDoor
open Go.RowKit Go.Shelf

/-- The list, of which the first j elements have been replaced. -/
def mixL (g : Int → Int) (l : List Int) (j : Nat) : List Int := (l.take j).map g ++ l.drop j
theorem mixL_zero (g : Int → Int) (l : List Int) : mixL g l 0 = l := by simp [mixL]
theorem mixL_all (g : Int → Int) (l : List Int) : mixL g l l.length = l.map g := by simp [mixL]
theorem mixL_length (g : Int → Int) (l : List Int) (j : Nat) : (mixL g l j).length = l.length := by simp [mixL]; omega
theorem mixL_at {g : Int → Int} {l : List Int} {j : Nat} (h : j < l.length) : (mixL g l j)[j]? = l[j]? := by
  unfold mixL
  rw [List.getElem?_append_right (by simp; omega), List.length_map, List.length_take, Nat.min_eq_left (by omega), List.getElem?_drop, Nat.sub_self, Nat.add_zero]
theorem mixL_set {g : Int → Int} {l : List Int} {j : Nat} (h : j < l.length) : (mixL g l j).set j (g (l[j]?.getD 0)) = mixL g l (j + 1) := by
  unfold mixL
  rw [List.set_append_right _ _ (by simp; omega), List.length_map, List.length_take, Nat.min_eq_left (by omega), Nat.sub_self, List.drop_eq_getElem_cons h, List.set_cons_zero, List.take_succ_eq_append_getElem h, List.map_append, List.append_assoc]
  simp [h]
theorem order_ge {d : Nat} {s : Bool} (h1 : 1 ≤ d) (h2 : d ≤ 6148) : ∀ j : Nat, -1 ≤ (orderI d s)[j]?.getD 0 ∧ (orderI d s)[j]?.getD 0 ≤ 6148 := by
  have hr := rows_le h1 h2
  intro j
  rcases Nat.lt_or_ge j (32 * rowsN d) with h | h
  · rw [orderI_at h]
    have := idx_lt (k := j) (s := s) (R := rowsN d) (by omega)
    unfold ordE
    split <;> omega
  · rw [List.getElem?_eq_none (by rw [orderI_length]; exact h)]
    decide
theorem RetQ.got {q : IntKind} {E : TypeId} {w w' : World} {r : List Int} {k : Int} {e : Ending} {n : Nat} (h : RetQ q E w (r, k) e w') (hn : r.length = n) :
    ∃ A c, e = .returned (.tuple #[.slice A n c, .int .i64 k]) ∧ w'.ownsRow w.heap.size E 1 (.slice A n c) n (r.map (Value.int q)) ∧ Below w.heap.size w w' := by
  obtain ⟨A, c, h1, h2, h3⟩ := h
  subst hn
  exact ⟨A, c, h1, h2, h3⟩
/-- A function hands back a slice of integers of its own. -/
def RetI (w : World) (r : List Int) (e : Ending) (w' : World) : Prop :=
  ∃ A c, e = .returned (.slice A r.length c) ∧ w'.ownsRow w.heap.size 3 1 (.slice A r.length c) r.length (r.map (Value.int .i64)) ∧ Below w.heap.size w w'
theorem RetI.mk_ {w w' : World} {r : List Int} {A : Option Addr} {n c B : Nat} {e : Ending} (hlen : r.length = n) (hown : w'.ownsRow B 3 1 (.slice A n c) n (r.map (Value.int .i64))) (hB : w.heap.size ≤ B) (hb : Below w.heap.size w w')
    (he : e = .returned (.slice A n c)) : RetI w r e w' := by
  subst hlen
  exact ⟨A, c, he, hown.mono hB, hb⟩
theorem RetI.got {w w' : World} {r : List Int} {e : Ending} {n : Nat} (h : RetI w r e w') (hn : r.length = n) :
    ∃ A c, e = .returned (.slice A n c) ∧ w'.ownsRow w.heap.size 3 1 (.slice A n c) n (r.map (Value.int .i64)) ∧ Below w.heap.size w w' := by
  obtain ⟨A, c, h1, h2, h3⟩ := h
  subst hn
  exact ⟨A, c, h1, h2, h3⟩
theorem okS_nat {s : Nat} (hs : s ≤ 2) : okS (s : Int) = true := by simp [okS]; omega
def sB (s : Nat) : Bool := decide (s = 2)
theorem shB_nat (s : Nat) : shB (s : Int) = sB s := by
  unfold shB sB
  by_cases h : s = 2
  · subst h; rfl
  · rw [decide_eq_false h, decide_eq_false (by omega)]
set_option maxRecDepth 100000 in
set_option maxHeartbeats 4000000 in
theorem inter_any {k f s X3 X5 X6 : Nat} {w : World} (hK : Kinds w) (h1 : 40 ≤ k) (h2 : k ≤ 6144) (hs : s ≤ 2)
    (c3 : w.cell? ⟨X3, 0, none⟩ = some (.int .i64 (f : Int))) (c5 : w.cell? ⟨X5, 0, none⟩ = some (.int .i64 ((k : Int) + 4)))
    (c6 : w.cell? ⟨X6, 0, none⟩ = some (.func (.func 31) #[] #[.pointer (some ⟨X3, 0, none⟩)])) :
    Calls Tryd.prog 32 #[.int .i64 (s : Int), .pointer (some ⟨X5, 0, none⟩), .pointer (some ⟨X6, 0, none⟩)] w (RetI w ((orderI (k + 4) (sB s)).map (elemI k f s))) := by
  have hO := Order_any (d := ((k + 4 : Nat) : Int)) (st := (s : Int)) hK
  rw [orderS_ok (by omega) (by omega) (okS_nat hs), shB_nat] at hO
  have hbnd := Lib.hid (order_ge (d := k + 4) (s := sB s) (by omega) (by omega))
  have hr := rows_k h1 h2
  obtain ⟨S, hS⟩ : ∃ S, 32 * rowsN (k + 4) = S := ⟨_, rfl⟩
  have hl := orderI_length (k + 4) (sB s)
  rw [hS] at hl
  have hSl : Hid (S ≤ 6176 ∧ 1 ≤ S) := Lib.hid (by omega)
  generalize orderI (k + 4) (sB s) = l at *
  rw [show ((k + 4 : Nat) : Int) = (k : Int) + 4 by omega] at hO
  have HO := Lib.hid hO
  have HL := Lib.hid hl
  have hlm := Lib.hid (show (l.map (elemI k f s)).length = S by rw [List.length_map, hl])
  have hfin := Lib.hid (mixL_all (elemI k f s) l)
  rw [hl] at hfin
  have hlt3 := Lib.hid (World.block_lt_of_cell? w _ c3)
  have hlt5 := Lib.hid (World.block_lt_of_cell? w _ c5)
  have hlt6 := Lib.hid (World.block_lt_of_cell? w _ c6)
  have C3 := Lib.hid c3
  have C6 := Lib.hid c6
  have C5 := Lib.hid c5
  have hk0 : (0 : Int) ≤ (k : Int) := by omega
  have hk2 : (k : Int) ≤ 6144 := by omega
  have hs2 : (s : Int) ≤ 2 := by omega
  have hs0 : (0 : Int) ≤ (s : Int) := by omega
  clear hO hl hr hS h1 h2 hs c3 c6
  generalize l.map (elemI k f s) = res at *
  have hS6 : (S : Int) ≤ 6176 := by have := hSl.out; omega

  go_enter Tryd.func32, Tryd.ntmps32
  go_wp2_with fail
  refine HO.out.mono ?_
  rintro e w1 he
  obtain ⟨A1, c1, rfl, hown, hb⟩ := he.got HL.out
  obtain ⟨g, cap, hv, hg1, hg2⟩ := hown.form hSl.out.2
  injection hv with hv1 hv2 hv3
  subst hv1
  have HB := Lib.hid hb
  have HW := Lib.hid hown
  have HG := Lib.hid hg1
  clear hown hb he HO c5 hg1 hg2 hv2 hv3
  go_wp2_with fail
  go_loopw [17] (fun i wr => ∃ j : Nat, j ≤ S ∧ i = .int .i64 (j : Int) ∧ Hid (wr.ownsRow w.heap.size 3 1 (.slice (some ⟨g, 0, none⟩) S c1) S ((mixL (elemI k f s) l j).map (Value.int .i64))) ∧ Hid (Below w.heap.size w wr)) (fun i _ => S - (intOf i).toNat)
  case atStart => exact ⟨0, Nat.zero_le _, rfl, Lib.hid (by rw [mixL_zero]; exact HW.out), HB⟩
  case round =>
    obtain ⟨j, hj, rfl, hO, hb⟩ := hrel
    by_cases hlt : j < S
    · have hz : (j : Int) < (S : Int) := by omega
      have hz0 : (0 : Int) ≤ (j : Int) := by omega
      have hjl : j < l.length := by rw [HL.out]; exact hlt
      have hc := World.ownsRow.cellAt hO.out j (by omega)
      rw [List.getElem?_map, mixL_at hjl, List.getElem?_eq_getElem hjl, Option.map_some] at hc
      have hge := hbnd.out j
      have hset := Lib.hid (mixL_set (g := elemI k f s) hjl)
      have hx : l[j]?.getD 0 = l[j] := by rw [List.getElem?_eq_getElem hjl]; rfl
      rw [hx] at hge hset
      generalize l[j] = x at *
      have hfz := World.ownsRow.frozenAt hO.out j
      have hst := Lib.hid (World.ownsRow.stored hO.out j (.int .i64 (elemI k f s x))).1
      rw [← List.map_set, hset.out] at hst
      have hbs := Lib.hid (hb.out.setCell (p := ⟨g, j, none⟩) HG.out (.int .i64 (elemI k f s x)))
      have c5 : wr.cell? ⟨X5, 0, none⟩ = some (.int .i64 ((k : Int) + 4)) := (hb.out.cell hlt5.out).trans C5.out
      have c6 : wr.cell? ⟨X6, 0, none⟩ = some (.func (.func 31) #[] #[.pointer (some ⟨X3, 0, none⟩)]) := (hb.out.cell hlt6.out).trans C6.out
      have hF := Lib.hid (filler_any (f := f) (s := (s : Int)) (i := x) (w := wr) ((hb.out.cell hlt3.out).trans C3.out))
      obtain ⟨hge1, hge2⟩ := hge
      have he : Hid (elemI k f s x = if x < 0 then -1 else if s < 2 ∧ x < (f : Int) then -1 else ((s * (k + 4) : Nat) : Int) + x) := Lib.hid rfl
      generalize elemI k f s x = y at *
      clear hjl hx hset hO hb
      by_cases hneg : x < 0
      · have hy : y = -1 := by rw [he.out, if_pos hneg]
        subst hy
        clear he
        go_wp2_with fail
        go_roundw
        case rel => exact ⟨j + 1, by omega, by go_num, hst, hbs⟩
        case measure => simp [intOf]; omega
      · by_cases hfil : s < 2 ∧ x < (f : Int)
        · have hy : y = -1 := by rw [he.out, if_neg hneg, if_pos hfil]
          subst hy
          have hd : (decide ((s : Int) < 2) && decide (x < (f : Int))) = true := by simp; omega
          rw [hd] at hF
          clear he hd hfil
          go_wp2_with fail
          refine hF.out.mono ?_
          rintro e w2 ⟨rfl, rfl⟩
          go_wp2_with fail
          go_roundw
          case rel => exact ⟨j + 1, by omega, by go_num, hst, hbs⟩
          case measure => simp [intOf]; omega
        · have hy : y = (s : Int) * ((k : Int) + 4) + x := by rw [he.out, if_neg hneg, if_neg hfil]; push_cast; rfl
          have hd : (decide ((s : Int) < 2) && decide (x < (f : Int))) = false := by
            rw [← Bool.not_eq_true]
            simp
            intro h3
            by_cases h4 : x < (f : Int)
            · exact absurd ⟨by omega, h4⟩ hfil
            · omega
          rw [hd] at hF
          clear he hd hfil
          obtain ⟨m, hm⟩ : ∃ m, (s : Int) * ((k : Int) + 4) = m := ⟨_, rfl⟩
          rw [hm] at hy
          subst hy
          have hm0 : 0 ≤ m ∧ m ≤ 12296 := by
            rw [← hm]
            exact ⟨Int.mul_nonneg hs0 (by omega), by
              have := Int.mul_le_mul hs2 (show (k : Int) + 4 ≤ 6148 by omega) (by omega) (by decide)
              omega⟩
          obtain ⟨hm0, hm1⟩ := hm0
          go_wp2_with fail
          refine hF.out.mono ?_
          rintro e w2 ⟨rfl, rfl⟩
          go_wp2_with fail
          go_roundw
          case rel => exact ⟨j + 1, by omega, by go_num, hst, hbs⟩
          case measure => simp [intOf]; omega
    · obtain rfl : S = j := by omega
      clear hlt
      go_wp2_with fail
      go_ret
      have hown := hO.out
      rw [hfin.out] at hown
      exact RetI.mk_ hlm.out hown (Nat.le_refl _) hb.out rfl
end Go.Proofs.YtnmkladmohjdnaaDoor
