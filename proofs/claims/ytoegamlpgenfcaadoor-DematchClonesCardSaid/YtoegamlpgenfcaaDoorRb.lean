/-
  The reference: Buffer.
-/
import Derived.Test.YtoegamlpgenfcaaDoorGn
import Derived.Test.YtoegamlpgenfcaaDoorGm
import Derived.Test.YtoegamlpgenfcaaDoorSm
import Derived.Test.YtoegamlpgenfcaaDoorFw
import Derived.Test.YtoegamlpgenfcaaDoorRgR
import Derived.Deep.RegionHeld3
import Derived.Deep.AppendLies
namespace Go.Proofs.YtoegamlpgenfcaaDoor
open Go.RowKit Go.Shelf BigFrame

attribute [local go_sem] Oper.semAt_some
set_option maxRecDepth 100000 in
set_option maxHeartbeats 8000000 in
theorem refBuffer_any {k f l : Nat} {w : World} (h1 : 40 ≤ k) (h2 : k ≤ 6144) :
    Calls Tryd.prog 71 #[.int .i64 (k : Int), .int .i64 (f : Int), .int .i64 (l : Int)] w fun e w' => ∃ A c, e = .returned (.slice A (sizN k l) c) ∧ Rd .i64 w' w'.heap.size A (sizN k l) (cirI k f l) ∧ Below w.heap.size w w' := by
  have hO0 := Lib.hid (fun (u : World) => refOrder_any (d := ((k + 4 : Nat) : Int)) (st := 0) (w := u))
  have hO1 := Lib.hid (fun (u : World) => refOrder_any (d := ((k + 4 : Nat) : Int)) (st := 1) (w := u))
  have hO2 := Lib.hid (fun (u : World) => refOrder_any (d := ((k + 4 : Nat) : Int)) (st := 2) (w := u))
  rw [orderS_ok (by omega) (by omega) (by decide), show shB 0 = false from rfl] at hO0
  rw [orderS_ok (by omega) (by omega) (by decide), show shB 1 = false from rfl] at hO1
  rw [orderS_ok (by omega) (by omega) (by decide), show shB 2 = true from rfl] at hO2
  rw [show ((k + 4 : Nat) : Int) = (k : Int) + 4 by omega] at hO0 hO1 hO2
  have hge0 := Lib.hid (order_ge (d := k + 4) (s := false) (by omega) (by omega))
  have hge2 := Lib.hid (order_ge (d := k + 4) (s := true) (by omega) (by omega))
  have hel := Lib.hid (fun (s : Nat) (i : Int) (u : World) (hs : s ≤ 2) (hi : -1 ≤ i ∧ i ≤ 6148) => element_any (f := f) (s := s) (i := i) (w := u) h2 hs hi)
  have hS0 := orderI_length (k + 4) false
  have hS2 := orderI_length (k + 4) true
  have hr := rows_k h1 h2
  obtain ⟨S, hSS⟩ : ∃ S, 32 * rowsN (k + 4) = S := ⟨_, rfl⟩
  rw [hSS] at hS0 hS2
  have hfin := Lib.hid (fullP_all k f)
  rw [hSS] at hfin
  have hsucc := Lib.hid (fullP_succ k f)
  have hz0 := Lib.hid (fullP_zero k f)
  have hSl : Hid (S ≤ 6176 ∧ 1 ≤ S) := Lib.hid (by omega)
  have hS6 : (S : Int) ≤ 6176 := by omega
  have hlf : Hid ((fullI k f).length = S + 2 * S) := Lib.hid (by rw [fullI_length]; omega)
  have hN : sizN k l = min l (S + 2 * S) := by unfold sizN; omega
  have hcir : Hid ((fullI k f).take (sizN k l) = cirI k f l) := Lib.hid rfl
  have HN := Lib.hid hN
  have HS0 := Lib.hid hS0
  have HS2 := Lib.hid hS2
  have hk0 : (0 : Int) ≤ (k : Int) := by omega
  have hk2 : (k : Int) ≤ 6144 := by omega
  generalize cirI k f l = cir at *
  generalize sizN k l = N at *
  generalize fullI k f = res at *
  clear hr hSS hS0 hS2 h1 h2 hN
  go_enter Tryd.func71, Tryd.ntmps71
  go_wp2_with fail
  refine (hO0.out _).mono ?_
  rintro e w1 he
  obtain ⟨A0, c0, rfl, o0, b1⟩ := he.got HS0.out
  have R0 := Rd.of_own o0
  clear he o0 hO0
  go_wp2_with fail
  refine (hO1.out _).mono ?_
  rintro e w2 he
  obtain ⟨A1, c1, rfl, o1, b2⟩ := he.got HS0.out
  have R1 := Rd.of_own o1
  have R02 := R0.step b2
  have b02 := b1.trans (b2.mono b1.size)
  clear he o1 hO1 R0 b2 b1
  go_wp2_with fail
  refine (hO2.out _).mono ?_
  rintro e W3 he
  obtain ⟨A2, c2, rfl, o2, b3⟩ := he.got HS2.out
  have R2 := Lib.hid (Rd.of_own o2)
  have R03 := Lib.hid (R02.step b3)
  have R13 := Lib.hid (R1.step b3)
  have b03 := Lib.hid (b02.trans (b3.mono b02.size))
  clear he o2 hO2 R02 R1 b02 b3
  go_wp2_with fail
  go_loopw [13, 14] (fun o i wr => ∃ (j : Nat) (A : Option Addr) (c : Nat), j ≤ S ∧ i = .int .i64 (j : Int) ∧ o = .slice A j c ∧ Hid (wr.ownsRow W3.heap.size 3 1 (.slice A j c) j ((((orderI (k + 4) false).take j).map (elemI k f 0)).map (Value.int .i64))) ∧ Hid (Below W3.heap.size W3 wr)) (fun _ i _ => S - (intOf i).toNat)
  case atStart => exact ⟨0, none, 0, Nat.zero_le _, rfl, rfl, Lib.hid (by simpa using World.ownsRow_nil W3 W3.heap.size 3 1), Lib.hid (Below.refl _ _)⟩
  case round =>
    obtain ⟨j, A, c, hj, rfl, rfl, hO, hb⟩ := hrel
    by_cases hlt : j < S
    · have hz : (j : Int) < (S : Int) := by omega
      have hzz : (0 : Int) ≤ (j : Int) := by omega
      obtain ⟨b, off, rfl, hbl, hc⟩ := R03.out.cells j hlt
      have hc' := (hb.out.cell (p := ⟨b, off + j, none⟩) hbl).trans hc
      have hms := mapP_succ (g := elemI k f 0) HS0.out hlt
      have hE := Lib.hid (hel.out 0 _ wr (by decide) (hge0.out j))
      obtain ⟨A2', c2', w2', hrun, hO2, hb2⟩ := ints_app hO.out hb.out (by have := hSl.out; omega) (elemI k f 0 ((orderI (k + 4) false)[j]?.getD 0))
      rw [hms] at hO2
      have HRn := Lib.hid hrun
      have HO2 := Lib.hid hO2
      have HB2 := Lib.hid hb2
      generalize elemI k f 0 ((orderI (k + 4) false)[j]?.getD 0) = v at *
      generalize (orderI (k + 4) false)[j]?.getD 0 = x at *
      clear hbl hc hms hrun hO2 hb2 hO hb
      go_wp2_with (first | (at_builtin; refine Lib.wpList_append_run _ rfl _ _ _ _ rfl _ _ rfl rfl _ _ HRn.out ?_) | (go_at_call 83; refine hE.out.mono ?_; rintro e w5 ⟨rfl, rfl⟩) | fail)
      go_roundw
      case rel => exact ⟨j + 1, A2', c2', by omega, by go_num, rfl, HO2, HB2⟩
      case measure => simp [intOf]; omega
    · obtain rfl : S = j := by omega
      have ht : (orderI (k + 4) false).take S = orderI (k + 4) false := List.take_of_length_le (Nat.le_of_eq HS0.out)
      have hO' := hO.out
      rw [ht, ← hz0.out] at hO'
      have HO := Lib.hid hO'
      clear hlt hO' ht hO
      go_wp2_with fail
      go_loopw [13, 15] (fun o i wr => ∃ (j : Nat) (A : Option Addr) (c : Nat), j ≤ S ∧ i = .int .i64 (j : Int) ∧ o = .slice A (S + 2 * j) c ∧ Hid (wr.ownsRow W3.heap.size 3 1 (.slice A (S + 2 * j) c) (S + 2 * j) ((fullP k f j).map (Value.int .i64))) ∧ Hid (Below W3.heap.size W3 wr)) (fun _ i _ => S - (intOf i).toNat)
      case atStart => exact ⟨0, A, c, Nat.zero_le _, rfl, rfl, HO, hb⟩
      case round =>
        clear HO hb
        obtain ⟨j, A, c, hj, rfl, rfl, hO, hb⟩ := hrel
        by_cases hlt : j < S
        · have hz : (j : Int) < (S : Int) := by omega
          have hzz : (0 : Int) ≤ (j : Int) := by omega
          obtain ⟨b, off, rfl, hbl, hc⟩ := R13.out.cells j hlt
          have hc1 := (hb.out.cell (p := ⟨b, off + j, none⟩) hbl).trans hc
          obtain ⟨b', off', rfl, hbl', hc'⟩ := R2.out.cells j hlt
          have hc2 := (hb.out.cell (p := ⟨b', off' + j, none⟩) hbl').trans hc'
          have hms := hsucc.out j
          have hE1 := Lib.hid (fun u => hel.out 1 _ u (by decide) (hge0.out j))
          have hE2 := Lib.hid (fun u => hel.out 2 _ u (by decide) (hge2.out j))
          rw [show ((1 : Nat) : Int) = 1 from rfl] at hE1
          rw [show ((2 : Nat) : Int) = 2 from rfl] at hE2
          have hEE := Lib.hid (fun (s i : Int) (z : World) (hs : (s = 1 ∧ i = (orderI (k + 4) false)[j]?.getD 0) ∨ (s = 2 ∧ i = (orderI (k + 4) true)[j]?.getD 0)) => show Calls Tryd.prog 83 #[.int .i64 (k : Int), .int .i64 (f : Int), .int .i64 s, .int .i64 i] z (fun e w' => e = .returned (.int .i64 (if s = 1 then elemI k f 1 ((orderI (k + 4) false)[j]?.getD 0) else elemI k f 2 ((orderI (k + 4) true)[j]?.getD 0))) ∧ w' = z) by
            rcases hs with ⟨rfl, rfl⟩ | ⟨rfl, rfl⟩
            · exact hE1.out z
            · exact hE2.out z)
          clear hE1 hE2
          have hH := Lib.hid (fun (m : Nat) => ints_app2 (w := W3) (wr := wr.drewN m) (n := S + 2 * j) (A := A) (c := c) (xs := fullP k f j) hO.out (below_drewN hb.out m) (by have := hSl.out; omega) (elemI k f 1 ((orderI (k + 4) false)[j]?.getD 0)) (elemI k f 2 ((orderI (k + 4) true)[j]?.getD 0)))
          rw [hms] at hH
          generalize elemI k f 1 ((orderI (k + 4) false)[j]?.getD 0) = u at *
          generalize elemI k f 2 ((orderI (k + 4) true)[j]?.getD 0) = v at *
          generalize (orderI (k + 4) false)[j]?.getD 0 = x at *
          generalize (orderI (k + 4) true)[j]?.getD 0 = y at *
          have P1 := Lib.hid (fun (z : World) (h : Below W3.heap.size W3 z) => (h.cell (p := ⟨b, off + j, none⟩) hbl).trans hc)
          have P2 := Lib.hid (fun (z : World) (h : Below W3.heap.size W3 z) => (h.cell (p := ⟨b', off' + j, none⟩) hbl').trans hc')
          clear hbl hc hbl' hc' hms hO hb
          go_wp2_with fail
          obtain ⟨A2', c2', w2', hrun, hO2, hb2, _⟩ := hH.out 1
          rw [show (wr.drewN 1).heap.size = wr.heap.size from rfl] at hrun
          have hrun' : (Builtin.append_ #[28, 28] 28 #[.slice A (S + 2 * j) c, .slice (some ⟨wr.heap.size, 0, none⟩) 2 2]).run Tryd.prog (wr.alloc (.cells #[.int .i64 u, .int .i64 v] 3)).drew = .ok (.slice A2' (S + 2 * j + 2) c2') w2' := hrun
          have HRn := Lib.hid hrun'
          have HO2 := Lib.hid hO2
          have HB2 := Lib.hid hb2
          have hk1 : (wr.alloc (.cells #[.int .i64 u, .int .i64 v] 3)).drew.cell? ⟨b, off + j, none⟩ = some (.int .i64 x) := (World.cell?_alloc_lt wr _ _ (World.block_lt_of_cell? wr _ hc1)).trans hc1
          have hk2 : (wr.alloc (.cells #[.int .i64 u, .int .i64 v] 3)).drew.cell? ⟨b', off' + j, none⟩ = some (.int .i64 y) := (World.cell?_alloc_lt wr _ _ (World.block_lt_of_cell? wr _ hc2)).trans hc2
          have hk3 := P1.out _ hb2
          have hk4 := P2.out _ hb2
          clear hH hrun hrun' hO2 hb2
          go_region_held3 (fun w' => w'.cell? ⟨b, off + j, none⟩ = some (.int .i64 x) ∧ w'.cell? ⟨b', off' + j, none⟩ = some (.int .i64 y))
            (first | exact ⟨hc1, hc2⟩ | exact ⟨hk1, hk2⟩ | exact ⟨hk3, hk4⟩)
            (first
              | (go_at_call 83; refine (hEE.out _ _ _ ?hs).mono ?_; (case hs => first | exact .inl ⟨rfl, rfl⟩ | exact .inr ⟨rfl, rfl⟩); rintro e w5 ⟨rfl, rfl⟩; first | rw [if_pos rfl] | rw [if_neg (by decide)])
              | (refine step_append_run (o := ⟨some 72, _, _, _, _, _⟩) rfl (.tmp 56) (.tmp 71) 28 rfl rfl rfl HRn.out ?_)
              | fail)
          clear hk1 hk2 hk3 hk4 hc1 hc2
          go_wp2_with fail
          go_roundw
          case rel => exact ⟨j + 1, A2', c2', by omega, by go_num, rfl, HO2, HB2⟩
          case measure => simp [intOf]; omega
        · obtain rfl : S = j := by omega
          clear hlt
          obtain ⟨M, hM⟩ : ∃ M, S + 2 * S = M := ⟨_, rfl⟩
          rw [hM] at hO HN hlf ⊢
          have hown := hO.out
          rw [hfin.out] at hown
          have hcap := own_cap' hown
          have hR := (Rd.of_own hown).front (m := N) (by rw [HN.out]; omega)
          rw [hcir.out] at hR
          have HR := Lib.hid hR
          have HB := Lib.hid (b03.out.trans (hb.out.mono b03.out.size))
          obtain ⟨g, cap, hv, e1, e2⟩ := hown.form (by have := hSl.out; omega)
          injection hv with hv1 hv2 hv3
          subst hv1
          have hmin : min (l : Int) (M : Int) = (N : Int) := by have := HN.out; omega
          have hNM : (N : Int) ≤ (M : Int) := by have := HN.out; omega
          have hMc : (M : Int) ≤ (c : Int) := by omega
          have hl0 : Hid (M ≤ l → N = M) := Lib.hid (by have := HN.out; omega)
          have hl1 : Hid (l ≤ M → N = l) := Lib.hid (by have := HN.out; omega)
          clear hM hown hO hb hR hv2 hv3 e1 e2 hcap
          go_wp2_with fail
          all_goals go_ret
          all_goals (first
            | (obtain rfl : N = l := hl1.out (by omega); exact ⟨_, _, rfl, HR.out, HB.out⟩)
            | (obtain rfl : N = M := hl0.out (by omega); exact ⟨_, _, rfl, HR.out, HB.out⟩)
            | (obtain rfl : N = l := hl1.out (by omega); exact ⟨_, ⟨_, rfl⟩, HR.out, HB.out⟩)
            | (obtain rfl : N = M := hl0.out (by omega); exact ⟨_, ⟨_, rfl⟩, HR.out, HB.out⟩))
end Go.Proofs.YtoegamlpgenfcaaDoor
