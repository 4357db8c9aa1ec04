/-
  The full buffer: an interleaved stream's positions. The full buffer.
-/
import Derived.Test.YtoegamlpgenfcaaDoorGn
import Derived.Test.YtoegamlpgenfcaaDoorGm
import Derived.Test.YtoegamlpgenfcaaDoorSm
import Derived.Test.YtoegamlpgenfcaaDoorBs
import Derived.Test.YtoegamlpgenfcaaDoorOd
namespace Go.Proofs.YtoegamlpgenfcaaDoor
/-! ### The full buffer: an interleaved stream's positions. -/
section
open Go.RowKit Go.Shelf

theorem order_ge {d : Nat} {s : Bool} (h1 : 1 ≤ d) (h2 : d ≤ 6148) : ∀ j : Nat, -1 ≤ (orderI d s)[j]?.getD 0 ∧ (orderI d s)[j]?.getD 0 ≤ 6148 := by
  have hr := rows_le h1 h2
  intro j
  rcases Nat.lt_or_ge j (32 * rowsN d) with h | h
  · rw [orderI_at h]
    have := idx_lt (k := j) (s := s) (R := rowsN d) (by omega)
    unfold ordE
    split <;> omega
  · rw [List.getElem?_eq_none (by rw [orderI_length]; exact h)]
    decide
theorem okS_nat {s : Nat} (hs : s ≤ 2) : okS (s : Int) = true := by simp [okS]; omega
def sB (s : Nat) : Bool := decide (s = 2)
theorem shB_nat (s : Nat) : shB (s : Int) = sB s := by
  unfold shB sB
  by_cases h : s = 2
  · subst h; rfl
  · rw [decide_eq_false h, decide_eq_false (by omega)]
set_option maxRecDepth 100000 in
set_option maxHeartbeats 4000000 in
theorem inter_any {k f s X3 X5 X6 : Nat} {w : World} (hK : KCol w) (h1 : 40 ≤ k) (h2 : k ≤ 6144) (hs : s ≤ 2)
    (c3 : w.cell? ⟨X3, 0, none⟩ = some (.int .i64 (f : Int))) (c5 : w.cell? ⟨X5, 0, none⟩ = some (.int .i64 ((k : Int) + 4)))
    (c6 : w.cell? ⟨X6, 0, none⟩ = some (.func (.func 78) #[] #[.pointer (some ⟨X3, 0, none⟩)])) :
    Calls Tryd.prog 79 #[.int .i64 (s : Int), .pointer (some ⟨X5, 0, none⟩), .pointer (some ⟨X6, 0, none⟩)] w (RetI w ((orderI (k + 4) (sB s)).map (elemI k f s))) := by
  have hO := Order_any (d := ((k + 4 : Nat) : Int)) (st := (s : Int)) hK
  rw [orderS_ok (by omega) (by omega) (okS_nat hs), shB_nat] at hO
  have hbnd := Lib.hid (order_ge (d := k + 4) (s := sB s) (by omega) (by omega))
  have hr := rows_k h1 h2
  obtain ⟨S, hS⟩ : ∃ S, 32 * rowsN (k + 4) = S := ⟨_, rfl⟩
  have hl := orderI_length (k + 4) (sB s)
  rw [hS] at hl
  have hSl : Hid (S ≤ 6176 ∧ 1 ≤ S) := Lib.hid (by omega)
  generalize orderI (k + 4) (sB s) = l at *
  rw [show ((k + 4 : Nat) : Int) = (k : Int) + 4 by omega] at hO
  have HO := Lib.hid hO
  have HL := Lib.hid hl
  have hlm := Lib.hid (show (l.map (elemI k f s)).length = S by rw [List.length_map, hl])
  have hfin := Lib.hid (mixL_all (elemI k f s) l)
  rw [hl] at hfin
  have hlt3 := Lib.hid (World.block_lt_of_cell? w _ c3)
  have hlt5 := Lib.hid (World.block_lt_of_cell? w _ c5)
  have hlt6 := Lib.hid (World.block_lt_of_cell? w _ c6)
  have C3 := Lib.hid c3
  have C6 := Lib.hid c6
  have C5 := Lib.hid c5
  have hk0 : (0 : Int) ≤ (k : Int) := by omega
  have hk2 : (k : Int) ≤ 6144 := by omega
  have hs2 : (s : Int) ≤ 2 := by omega
  have hs0 : (0 : Int) ≤ (s : Int) := by omega
  clear hO hl hr hS h1 h2 hs c3 c6
  generalize l.map (elemI k f s) = res at *
  have hS6 : (S : Int) ≤ 6176 := by have := hSl.out; omega

  go_enter Tryd.func79, Tryd.ntmps79
  go_wp2_with fail
  refine HO.out.mono ?_
  rintro e w1 he
  obtain ⟨A1, c1, rfl, hown, hb⟩ := he.got HL.out
  obtain ⟨g, cap, hv, hg1, hg2⟩ := hown.form hSl.out.2
  injection hv with hv1 hv2 hv3
  subst hv1
  have HB := Lib.hid hb
  have HW := Lib.hid hown
  have HG := Lib.hid hg1
  clear hown hb he HO c5 hg1 hg2 hv2 hv3
  go_wp2_with fail
  go_loopw [17] (fun i wr => ∃ j : Nat, j ≤ S ∧ i = .int .i64 (j : Int) ∧ Hid (wr.ownsRow w.heap.size 3 1 (.slice (some ⟨g, 0, none⟩) S c1) S ((mixL (elemI k f s) l j).map (Value.int .i64))) ∧ Hid (Below w.heap.size w wr)) (fun i _ => S - (intOf i).toNat)
  case atStart => exact ⟨0, Nat.zero_le _, rfl, Lib.hid (by rw [mixL_zero]; exact HW.out), HB⟩
  case round =>
    obtain ⟨j, hj, rfl, hO, hb⟩ := hrel
    by_cases hlt : j < S
    · have hz : (j : Int) < (S : Int) := by omega
      have hz0 : (0 : Int) ≤ (j : Int) := by omega
      have hjl : j < l.length := by rw [HL.out]; exact hlt
      have hc := World.ownsRow.cellAt hO.out j (by omega)
      rw [List.getElem?_map, mixL_at hjl, List.getElem?_eq_getElem hjl, Option.map_some] at hc
      have hge := hbnd.out j
      have hset := Lib.hid (mixL_set (g := elemI k f s) hjl)
      have hx : l[j]?.getD 0 = l[j] := by rw [List.getElem?_eq_getElem hjl]; rfl
      rw [hx] at hge hset
      generalize l[j] = x at *
      have hfz := World.ownsRow.frozenAt hO.out j
      have hst := Lib.hid (World.ownsRow.stored hO.out j (.int .i64 (elemI k f s x))).1
      rw [← List.map_set, hset.out] at hst
      have hbs := Lib.hid (hb.out.setCell (p := ⟨g, j, none⟩) HG.out (.int .i64 (elemI k f s x)))
      have c5 : wr.cell? ⟨X5, 0, none⟩ = some (.int .i64 ((k : Int) + 4)) := (hb.out.cell hlt5.out).trans C5.out
      have c6 : wr.cell? ⟨X6, 0, none⟩ = some (.func (.func 78) #[] #[.pointer (some ⟨X3, 0, none⟩)]) := (hb.out.cell hlt6.out).trans C6.out
      have hF := Lib.hid (filler_any (f := f) (s := (s : Int)) (i := x) (w := wr) ((hb.out.cell hlt3.out).trans C3.out))
      obtain ⟨hge1, hge2⟩ := hge
      have he : Hid (elemI k f s x = if x < 0 then -1 else if s < 2 ∧ x < (f : Int) then -1 else ((s * (k + 4) : Nat) : Int) + x) := Lib.hid rfl
      generalize elemI k f s x = y at *
      clear hjl hx hset hO hb
      by_cases hneg : x < 0
      · have hy : y = -1 := by rw [he.out, if_pos hneg]
        subst hy
        clear he
        go_wp2_with fail
        go_roundw
        case rel => exact ⟨j + 1, by omega, by go_num, hst, hbs⟩
        case measure => simp [intOf]; omega
      · by_cases hfil : s < 2 ∧ x < (f : Int)
        · have hy : y = -1 := by rw [he.out, if_neg hneg, if_pos hfil]
          subst hy
          have hd : (decide ((s : Int) < 2) && decide (x < (f : Int))) = true := by simp; omega
          rw [hd] at hF
          clear he hd hfil
          go_wp2_with fail
          refine hF.out.mono ?_
          rintro e w2 ⟨rfl, rfl⟩
          go_wp2_with fail
          go_roundw
          case rel => exact ⟨j + 1, by omega, by go_num, hst, hbs⟩
          case measure => simp [intOf]; omega
        · have hy : y = (s : Int) * ((k : Int) + 4) + x := by rw [he.out, if_neg hneg, if_neg hfil]; push_cast; rfl
          have hd : (decide ((s : Int) < 2) && decide (x < (f : Int))) = false := by
            rw [← Bool.not_eq_true]
            simp
            intro h3
            by_cases h4 : x < (f : Int)
            · exact absurd ⟨by omega, h4⟩ hfil
            · omega
          rw [hd] at hF
          clear he hd hfil
          obtain ⟨m, hm⟩ : ∃ m, (s : Int) * ((k : Int) + 4) = m := ⟨_, rfl⟩
          rw [hm] at hy
          subst hy
          have hm0 : 0 ≤ m ∧ m ≤ 12296 := by
            rw [← hm]
            exact ⟨Int.mul_nonneg hs0 (by omega), by
              have := Int.mul_le_mul hs2 (show (k : Int) + 4 ≤ 6148 by omega) (by omega) (by decide)
              omega⟩
          obtain ⟨hm0, hm1⟩ := hm0
          go_wp2_with fail
          refine hF.out.mono ?_
          rintro e w2 ⟨rfl, rfl⟩
          go_wp2_with fail
          go_roundw
          case rel => exact ⟨j + 1, by omega, by go_num, hst, hbs⟩
          case measure => simp [intOf]; omega
    · obtain rfl : S = j := by omega
      clear hlt
      go_wp2_with fail
      go_ret
      have hown := hO.out
      rw [hfin.out] at hown
      exact RetI.mk_ hlm.out hown (Nat.le_refl _) hb.out rfl
end

/-! ### The full buffer. -/
section
open Go.RowKit Go.Shelf

/-- The first j rounds of the loop. -/
def fullP (k f j : Nat) : List Int := (orderI (k + 4) false).map (elemI k f 0) ++ (List.range j).flatMap (fun j => [elemI k f 1 ((orderI (k + 4) false)[j]?.getD 0), elemI k f 2 ((orderI (k + 4) true)[j]?.getD 0)])
theorem fullP_zero (k f : Nat) : fullP k f 0 = (orderI (k + 4) false).map (elemI k f 0) := by simp [fullP]
theorem fullP_all (k f : Nat) : fullP k f (32 * rowsN (k + 4)) = fullI k f := rfl
theorem fullP_succ (k f j : Nat) : fullP k f j ++ [elemI k f 1 ((orderI (k + 4) false)[j]?.getD 0), elemI k f 2 ((orderI (k + 4) true)[j]?.getD 0)] = fullP k f (j + 1) := by
  unfold fullP
  rw [List.range_succ, List.flatMap_append, List.append_assoc]
  simp
set_option maxRecDepth 100000 in
set_option maxHeartbeats 4000000 in
theorem full_any {k f : Nat} {w : World} (hK : KCol w) (h1 : 40 ≤ k) (h2 : k ≤ 6144) :
    Calls Tryd.prog 64 #[.int .i64 (k : Int), .int .i64 (f : Int)] w (RetI w (fullI k f)) := by
  have hk0 : (0 : Int) ≤ (k : Int) := by omega
  have hk2 : (k : Int) ≤ 6144 := by omega
  have hmf := makeFunc_run
  go_enter Tryd.func64, Tryd.ntmps64
  go_wp2_with fail
  obtain ⟨B, hB⟩ : ∃ B, w.heap.size = B := ⟨_, rfl⟩
  have c3 : (((w.alloc (.cells #[.int .i64 (f : Int)] 3)).alloc (.cells #[.int .i64 ((k : Int) + 4)] 3)).alloc (.cells #[.func (.func 78) #[] #[.pointer (some ⟨w.heap.size, 0, none⟩)]] 106)).cell? ⟨w.heap.size, 0, none⟩ = some (.int .i64 (f : Int)) :=
    (World.cell?_alloc_lt _ _ _ (by simp; omega)).trans ((World.cell?_alloc_lt _ _ _ (by simp)).trans (Boxed.new w _ _).cell)
  have c5 : (((w.alloc (.cells #[.int .i64 (f : Int)] 3)).alloc (.cells #[.int .i64 ((k : Int) + 4)] 3)).alloc (.cells #[.func (.func 78) #[] #[.pointer (some ⟨w.heap.size, 0, none⟩)]] 106)).cell? ⟨w.heap.size + 1, 0, none⟩ = some (.int .i64 ((k : Int) + 4)) := by
    have := (Boxed.new (w.alloc (.cells #[.int .i64 (f : Int)] 3)) 3 (.int .i64 ((k : Int) + 4))).cell
    rw [World.size_alloc] at this
    exact (World.cell?_alloc_lt _ _ _ (by simp)).trans this
  have c6 : (((w.alloc (.cells #[.int .i64 (f : Int)] 3)).alloc (.cells #[.int .i64 ((k : Int) + 4)] 3)).alloc (.cells #[.func (.func 78) #[] #[.pointer (some ⟨w.heap.size, 0, none⟩)]] 106)).cell? ⟨w.heap.size + 1 + 1, 0, none⟩ = some (.func (.func 78) #[] #[.pointer (some ⟨w.heap.size, 0, none⟩)]) := by
    have := (Boxed.new ((w.alloc (.cells #[.int .i64 (f : Int)] 3)).alloc (.cells #[.int .i64 ((k : Int) + 4)] 3)) 106 (.func (.func 78) #[] #[.pointer (some ⟨w.heap.size, 0, none⟩)])).cell
    rw [World.size_alloc, World.size_alloc] at this
    exact this
  have hb0 : Below w.heap.size w (((w.alloc (.cells #[.int .i64 (f : Int)] 3)).alloc (.cells #[.int .i64 ((k : Int) + 4)] 3)).alloc (.cells #[.func (.func 78) #[] #[.pointer (some ⟨w.heap.size, 0, none⟩)]] 106)) :=
    (((Below.refl _ w).alloc (Nat.le_refl _) _).alloc (by simp) _).alloc (by simp; omega) _
  generalize (((w.alloc (.cells #[.int .i64 (f : Int)] 3)).alloc (.cells #[.int .i64 ((k : Int) + 4)] 3)).alloc (.cells #[.func (.func 78) #[] #[.pointer (some ⟨w.heap.size, 0, none⟩)]] 106)) = W0 at *
  have HB0 := Lib.hid hb0
  have l3 := World.block_lt_of_cell? W0 _ c3
  have l5 := World.block_lt_of_cell? W0 _ c5
  have l6 := World.block_lt_of_cell? W0 _ c6
  have hI := Lib.hid (fun (s : Nat) (u : World) (hs : s ≤ 2) (h : Below W0.heap.size W0 u) => inter_any (f := f) (s := s) (X3 := w.heap.size) (X5 := w.heap.size + 1) (X6 := w.heap.size + 1 + 1) (hK.step (hb0.trans (h.mono hb0.size))) h1 h2 hs ((h.cell l3).trans c3) ((h.cell l5).trans c5) ((h.cell l6).trans c6))
  have hS := orderI_length (k + 4)
  have hr := rows_k h1 h2
  obtain ⟨S, hSS⟩ : ∃ S, 32 * rowsN (k + 4) = S := ⟨_, rfl⟩
  rw [hSS] at hS
  have hfin := Lib.hid (fullP_all k f)
  rw [hSS] at hfin
  have hSl : Hid (S ≤ 6176 ∧ 1 ≤ S) := Lib.hid (by omega)
  have hS6 : (S : Int) ≤ 6176 := by omega
  have hlf : Hid ((fullI k f).length = S + 2 * S) := Lib.hid (by rw [fullI_length]; omega)
  have hsucc := Lib.hid (fullP_succ k f)
  have hz := Lib.hid (fullP_zero k f)
  have hl0 : ((orderI (k + 4) (sB 0)).map (elemI k f 0)).length = S := by rw [List.length_map, hS]
  have hl1 : ((orderI (k + 4) (sB 1)).map (elemI k f 1)).length = S := by rw [List.length_map, hS]
  have hl2 : ((orderI (k + 4) (sB 2)).map (elemI k f 2)).length = S := by rw [List.length_map, hS]
  have L0 := Lib.hid hl0
  have L1 := Lib.hid hl1
  have L2 := Lib.hid hl2
  have HS := Lib.hid hS
  generalize fullI k f = res at *
  clear hB c3 c5 c6 hb0 l3 l5 l6 hr hSS hS hl0 hl1 hl2 h1 h2
  refine (hI.out 0 W0 (by decide) (Below.refl _ _)).mono ?_
  rintro e w1 he
  obtain ⟨A0, c0, rfl, o0, b1⟩ := he.got L0.out
  obtain ⟨g0, cap, hv, e1, e2⟩ := o0.form hSl.out.2
  injection hv with hv1 hv2 hv3
  subst hv1
  clear hv2 hv3 he
  go_wp2_with fail
  refine (hI.out 2 w1 (by decide) b1).mono ?_
  rintro e w2 he
  obtain ⟨A2, c2, rfl, o2, b2⟩ := he.got L2.out
  obtain ⟨g2, cap2, hv, e3, e4⟩ := o2.form hSl.out.2
  injection hv with hv1 hv2 hv3
  subst hv1
  have b02 := b1.trans (b2.mono b1.size)
  have o02 := ownsRow_block o0 (fun g hg => by
    simp only [Value.ownBlock, Option.some.injEq] at hg
    subst hg
    exact b2.block _ e2)
  clear hv2 hv3 he o0 b1
  go_wp2_with fail
  refine (hI.out 1 w2 (by decide) b02).mono ?_
  rintro e W3 he
  obtain ⟨A1, c1, rfl, o1, b3⟩ := he.got L1.out
  obtain ⟨g1, cap1, hv, e5, e6⟩ := o1.form hSl.out.2
  injection hv with hv1 hv2 hv3
  subst hv1
  have b03 := b02.trans (b3.mono b02.size)
  have s1 := b2.size
  have s2 := b3.size
  have o03 := ownsRow_block o02 (fun g hg => by
    simp only [Value.ownBlock, Option.some.injEq] at hg
    subst hg
    exact b3.block _ (by omega))
  have o23 := ownsRow_block o2 (fun g hg => by
    simp only [Value.ownBlock, Option.some.injEq] at hg
    subst hg
    exact b3.block _ (by omega))
  have hbW := Lib.hid (HB0.out.trans (b03.mono HB0.out.size))
  have hown := Lib.hid (o03.mono HB0.out.size)
  have O1 := Lib.hid o1
  have O2 := Lib.hid o23
  have hap : Hid (∀ G, (G = g1 ∨ G = g2) → W3.heap[G]? = W3.heap[G]? ∧ (Value.slice (some ⟨g0, 0, none⟩) S c0).ownBlock ≠ some G ∧ G < W3.heap.size) := Lib.hid (by
    intro G hG
    refine ⟨rfl, ?_, by omega⟩
    simp only [Value.ownBlock, ne_eq, Option.some.injEq]
    omega)
  clear hv2 hv3 he o02 b02 b03 b2 b3 o03 o23 o1 o2 e1 e2 e3 e4 e5 e6 s1 s2 hI
  go_wp2_with fail
  go_loopw [8, 23] (fun o i wr => ∃ (j : Nat) (A : Option Addr) (c : Nat), j ≤ S ∧ i = .int .i64 (j : Int) ∧ o = .slice A (S + 2 * j) c ∧ Hid (wr.ownsRow w.heap.size 3 1 (.slice A (S + 2 * j) c) (S + 2 * j) ((fullP k f j).map (Value.int .i64))) ∧ Hid (Below w.heap.size w wr) ∧ Hid (∀ G, (G = g1 ∨ G = g2) → wr.heap[G]? = W3.heap[G]? ∧ (Value.slice A (S + 2 * j) c).ownBlock ≠ some G ∧ G < wr.heap.size)) (fun _ i _ => S - (intOf i).toNat)
  case atStart => exact ⟨0, some ⟨g0, 0, none⟩, c0, Nat.zero_le _, rfl, rfl, Lib.hid (by rw [hz.out]; exact hown.out), hbW, Lib.hid (fun G hG => ⟨rfl, (hap.out G hG).2⟩)⟩
  case round =>
    clear hown hbW hap
    obtain ⟨j, A, c, hj, rfl, rfl, hO, hb, hap⟩ := hrel
    by_cases hlt : j < S
    · have hz : (j : Int) < (S : Int) := by omega
      have hz0 : (0 : Int) ≤ (j : Int) := by omega
      have x1 : W3.cell? ⟨g1, j, none⟩ = (((orderI (k + 4) false).map (elemI k f 1)).map (Value.int .i64))[j]? := World.ownsRow.cellAt O1.out j (by omega)
      have x2 : W3.cell? ⟨g2, j, none⟩ = (((orderI (k + 4) true).map (elemI k f 2)).map (Value.int .i64))[j]? := World.ownsRow.cellAt O2.out j (by omega)
      have q1 : j < (orderI (k + 4) false).length := by rw [HS.out]; exact hlt
      have q2 : j < (orderI (k + 4) true).length := by rw [HS.out]; exact hlt
      have hsc := hsucc.out j
      rw [List.getElem?_map, List.getElem?_map, List.getElem?_eq_getElem q1, Option.map_some, Option.map_some] at x1
      rw [List.getElem?_map, List.getElem?_map, List.getElem?_eq_getElem q2, Option.map_some, Option.map_some] at x2
      rw [List.getElem?_eq_getElem q1, List.getElem?_eq_getElem q2, Option.getD_some, Option.getD_some] at hsc
      have y1 := (World.cell?_of_block (hap.out g1 (.inl rfl)).1).trans x1
      have y2 := (World.cell?_of_block (hap.out g2 (.inr rfl)).1).trans x2
      generalize elemI k f 1 (orderI (k + 4) false)[j] = u at *
      generalize elemI k f 2 (orderI (k + 4) true)[j] = v at *
      obtain ⟨A2, c2', w2, hrun, hO2, hb2, hk⟩ := ints_app2 hO.out hb.out (by have := hSl.out; omega) u v
      rw [hsc] at hO2
      have HRn := Lib.hid hrun
      have HO2 := Lib.hid hO2
      have HB2 := Lib.hid hb2
      have HAP : Hid (∀ G, (G = g1 ∨ G = g2) → w2.heap[G]? = W3.heap[G]? ∧ (Value.slice A2 (S + 2 * j + 2) c2').ownBlock ≠ some G ∧ G < w2.heap.size) := Lib.hid (fun G hG => by
        obtain ⟨p1, p2, p3⟩ := hap.out G hG
        obtain ⟨q1, q2, q3⟩ := hk G p3 p2
        exact ⟨q1.trans p1, q2, q3⟩)
      clear x1 x2 q1 q2 hsc hrun hO2 hb2 hk hO hb hap
      go_wp2_with (at_builtin; refine Lib.wpList_append_run _ rfl _ _ _ _ rfl _ _ rfl rfl _ _ HRn.out ?_)
      go_roundw
      case rel => exact ⟨j + 1, A2, c2', by omega, by go_num, rfl, HO2, HB2, HAP⟩
      case measure => simp [intOf]; omega
    · obtain rfl : S = j := by omega
      clear hlt
      go_wp2_with fail
      go_ret
      have hown := hO.out
      rw [hfin.out] at hown
      exact RetI.mk_ hlf.out hown (Nat.le_refl _) hb.out rfl
end
end Go.Proofs.YtoegamlpgenfcaaDoor
