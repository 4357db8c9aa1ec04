/-
  least, Least.
-/
import Derived.Test.YtkkombhpiagngaaDoorFo
namespace Go.Proofs.YtkkombhpiagngaaDoor
open Go.RowKit Go.Shelf

theorem leastN_succ (xs : List Int) (j : Nat) : leastN xs (j + 1) = if absI (xs[j]?.getD 0) < absI (xs[leastN xs j]?.getD 0) then j else leastN xs j := rfl
set_option maxHeartbeats 4000000 in
theorem least_any {A : Option Addr} {n c B : Nat} {xs : List Int} {w : World} (h : Rd .i64 w B A n xs) (hn : n ≤ 1000000) (hs : softB xs = true) :
    Calls Tryd.prog 47 #[.slice A n c] w fun e w' => e = .returned (.int .i64 ((leastN xs n : Nat) : Int)) ∧ ∃ i, w' = w.drewN i := by
  have hl := Lib.hid h
  have hS := Lib.hid (softB_at hs)
  have hlt := Lib.hid (leastN_lt xs)
  clear h hs
  go_enter Tryd.func47, Tryd.ntmps47
  go_wp2_with fail
  go_loopw [3, 8] (fun x i wr => ∃ j m : Nat, j ≤ n ∧ i = .int .i64 (j : Int) ∧ x = .int .i64 ((leastN xs j : Nat) : Int) ∧ wr = w.drewN m) (fun x i _ => n - (intOf i).toNat)
  case atStart => exact ⟨0, 0, Nat.zero_le _, rfl, rfl, rfl⟩
  case round =>
    obtain ⟨j, m, hj, rfl, rfl, rfl⟩ := hrel
    by_cases hjn : j < n
    · have hz : (j : Int) < (n : Int) := by omega
      have hz0 : (0 : Int) ≤ (j : Int) := by omega
      have hp : leastN xs j < n := by
        rcases Nat.eq_zero_or_pos j with h0 | h0
        · subst h0; exact hjn
        · have := hlt.out j h0; omega
      obtain ⟨b, off, rfl, _, hc⟩ := hl.out.cells j hjn
      obtain ⟨b2, off2, hA2, _, hc2⟩ := hl.out.cells (leastN xs j) hp
      injection hA2 with hA2
      injection hA2 with e1 e2
      subst e1 e2
      have hx := Lib.hid (fun (u : World) => absolute_any (v := xs[j]?.getD 0) (w := u) (hS.out j).1 (hS.out j).2)
      have hy := Lib.hid (fun (u : World) => absolute_any (v := xs[leastN xs j]?.getD 0) (w := u) (hS.out _).1 (hS.out _).2)
      have hu := leastN_succ xs j
      generalize xs[j]?.getD 0 = x at *
      generalize xs[leastN xs j]?.getD 0 = y at *
      have HQ : ∃ q, leastN xs (j + 1) = q := ⟨_, rfl⟩
      obtain ⟨q, hq⟩ := HQ
      rw [hq] at hu
      have HQ := Lib.hid hq
      clear hq
      generalize leastN xs j = p at *
      have hp1 : (p : Int) < (n : Int) := by omega
      have hp0 : (0 : Int) ≤ (p : Int) := by omega
      have d1 : World.cell? (w.drewN m) ⟨b, off + j, none⟩ = some (.int .i64 x) := hc
      have d2 : World.cell? (w.drewN m) ⟨b, off + p, none⟩ = some (.int .i64 y) := hc2
      have HU := Lib.hid hu
      clear hc hc2 hu
      go_wp2_with fail
      go_region_held3 (fun w' => w'.cell? ⟨b, off + p, none⟩ = some (.int .i64 y)) (first | exact d2 | go_keep) (first
        | (go_at_call 54; with_reducible refine (hx.out _).mono ?_; rintro e w2 ⟨rfl, rfl⟩)
        | (go_at_call 54; with_reducible refine (hy.out _).mono ?_; rintro e w2 ⟨rfl, rfl⟩)
        | fail)
      generalize absI x = ax at *
      generalize absI y = ay at *
      by_cases hc3 : ax < ay
      · have HU2 : Hid (q = j) := Lib.hid (by rw [HU.out, if_pos hc3])
        clear HU hx hy
        go_wp2_with fail
        go_roundw
        case rel => exact ⟨j + 1, _, by omega, by go_num, by rw [show leastN xs (j + 1) = j from HQ.out.trans HU2.out], rfl⟩
        case measure => simp [intOf]; omega
      · have HU2 : Hid (q = p) := Lib.hid (by rw [HU.out, if_neg hc3])
        clear HU hx hy
        go_wp2_with fail
        go_roundw
        case rel => exact ⟨j + 1, _, by omega, by go_num, by rw [show leastN xs (j + 1) = p from HQ.out.trans HU2.out], rfl⟩
        case measure => simp [intOf]; omega
    · obtain rfl : j = n := by omega
      go_wp2_with fail
      go_ret
      exact ⟨rfl, _, rfl⟩
set_option maxHeartbeats 4000000 in
theorem Least_main {A A' : Option Addr} {n c n' c' : Nat} {f : Bool} {k : Int} {r : Nat} {w : World}
    (hE : ∀ u X, Below w.heap.size w u → RdB u (some ⟨X, 0, none⟩) 1 [decide (0 < n)] → Calls Tryd.prog 33 #[.slice A n c, .slice (some ⟨X, 0, none⟩) 1 1] u fun e w' => e = .returned (.tuple #[.agg #[.slice A' n' c', .bool f], .int .i64 k]) ∧ Below u.heap.size u w')
    (hC : ∀ u, Below w.heap.size w u → Calls Tryd.prog 47 #[.slice A' n' c'] u fun e w' => e = .returned (.int .i64 (r : Int)) ∧ ∃ i, w' = u.drewN i) :
    Calls Tryd.prog 29 #[.slice A n c] w fun e w' => e = .returned (.tuple #[.int .i64 (r : Int), .int .i64 k]) ∧ Below w.heap.size w w' := by
  have hb1 := (Below.refl w.heap.size w).alloc (Nat.le_refl _) (.cells #[.bool (decide (0 < n))] 4)
  have HE := Lib.hid (hE _ w.heap.size hb1 (RdB.one w (decide (0 < n)) 4))
  have HC := Lib.hid hC
  have HB1 := Lib.hid hb1
  clear hE hC hb1
  go_enter Tryd.func29, Tryd.ntmps29
  go_wp2_with fail
  refine HE.out.mono ?_
  rintro e w2 ⟨rfl, hb⟩
  have hb2 := HB1.out.trans (hb.mono HB1.out.size)
  have hb3 := hb2.alloc hb2.size (.cells #[.slice A' n' c', .bool f] 66)
  have hC2 := Lib.hid (HC.out _ hb3)
  have HB := Lib.hid hb3
  clear hb hb2 HE HC hb3
  go_wp2_with (refine hC2.out.mono ?_; rintro e w5 ⟨rfl, i, rfl⟩)
  go_ret2
  exact ⟨rfl, below_drewN HB.out i⟩
def leastS (l : List Int) : Nat × Int := if (softB l && decide (0 < l.length)) = true then (leastN l l.length, 0) else (0, 2)
theorem Least_any {A : Option Addr} {n c : Nat} {xs : List Int} {w : World} (hK : Kinds w) (h : Rd .i64 w w.heap.size A n xs) (hn : n ≤ 1000000) :
    Calls Tryd.prog 29 #[.slice A n c] w fun e w' => e = .returned (.tuple #[.int .i64 (((leastS xs).1 : Nat) : Int), .int .i64 (leastS xs).2]) ∧ Below w.heap.size w w' := by
  have hl := h.len
  unfold leastS
  by_cases ho : (softB xs && decide (0 < xs.length)) = true
  · rw [if_pos ho]
    rw [Bool.and_eq_true, decide_eq_true_eq, hl] at ho
    rw [hl]
    exact Least_main (fun u X hb hB => examine_ok (hK.step hb) (h.step hb) hn hB (by decide) ho.1 (by simp [ho.2])) (fun u hb => least_any (h.below hb) hn ho.1)
  · rw [if_neg ho]
    have hno : softB xs = false ∨ ([decide (0 < n)].any fun x => !x) = true := by
      cases hx : softB xs
      · exact .inl rfl
      · right
        rw [hx, hl] at ho
        simpa using ho
    exact Least_main (r := 0) (fun u X hb hB => examine_no (hK.step hb) (h.step hb) hn hB (by decide) hno) (fun u hb => least_any (n := 0) (xs := []) (B := 0) (Rd.nil _ _ _ _) (by omega) rfl)
end Go.Proofs.YtkkombhpiagngaaDoor
