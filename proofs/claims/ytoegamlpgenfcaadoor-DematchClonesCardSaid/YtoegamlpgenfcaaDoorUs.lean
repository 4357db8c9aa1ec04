/-
  The package: Buffer, Usable, Start. The reference: Usable, Start.
-/
import Derived.Test.YtoegamlpgenfcaaDoorGn
import Derived.Test.YtoegamlpgenfcaaDoorGm
import Derived.Test.YtoegamlpgenfcaaDoorSm
import Derived.Test.YtoegamlpgenfcaaDoorFw
namespace Go.Proofs.YtoegamlpgenfcaaDoor
open Go.RowKit Go.Shelf

set_option maxRecDepth 100000 in
set_option maxHeartbeats 4000000 in
theorem Buffer_ok {k f l : Nat} {w : World} (hK : KCol w) (h1 : 40 ≤ k) (h2 : k ≤ 6144) (h3 : f < k) (hl : 1 ≤ l) :
    Calls Tryd.prog 46 #[.int .i64 (k : Int), .int .i64 (f : Int), .int .i64 (l : Int)] w fun e w' => ∃ A c, e = .returned (.tuple #[.slice A (sizN k l) c, .int .i64 0]) ∧ Rd .i64 w' w'.heap.size A (sizN k l) (cirI k f l) ∧ Below w.heap.size w w' := by
  have hB := Lib.hid (fun (u : World) => isBuffer_any (k := (k : Int)) (f := (f : Int)) (l := (l : Int)) (w := u))
  rw [okB_of h1 h2 h3 hl] at hB
  have hF := Lib.hid (full_any (f := f) hK h1 h2)
  have hZ := Lib.hid (fun (u : World) => size_rm (l := l) (w := u) h1 h2)
  have hs := siz_le h1 h2 hl
  have hr := rows_k h1 h2
  obtain ⟨M, hM⟩ : ∃ M, 96 * rowsN (k + 4) = M := ⟨_, rfl⟩
  have hlf : Hid ((fullI k f).length = M) := Lib.hid (by rw [fullI_length, hM])
  rw [hM] at hs
  have hcir : Hid ((fullI k f).take (sizN k l) = cirI k f l) := Lib.hid rfl
  generalize cirI k f l = cir at *
  generalize sizN k l = N at *
  generalize fullI k f = res at *
  obtain ⟨hs1, hs2, hs3⟩ := hs
  have hs4 : (N : Int) ≤ (M : Int) := by omega
  have hs5 : (M : Int) ≤ 18528 := by omega
  have HS := Lib.hid hs2
  have HM := Lib.hid (show 1 ≤ M by omega)
  clear hr hM h1 h2 h3 hl hs1 hs2 hs3
  go_enter Tryd.func46, Tryd.ntmps46
  go_wp2_with (first | (go_at_call 63; refine (hB.out _).mono ?_; rintro e w ⟨rfl, rfl⟩) | fail)
  refine hF.out.mono ?_
  rintro e w1 he
  obtain ⟨A, c, rfl, hown, hb⟩ := he.got hlf.out
  have hcap := own_cap' hown
  have hR := (Rd.of_own hown).front HS.out
  rw [hcir.out] at hR
  have HR := Lib.hid hR
  obtain ⟨g, cap, hv, e1, e2⟩ := hown.form HM.out
  injection hv with hv1 hv2 hv3
  subst hv1
  have hMc : (M : Int) ≤ (c : Int) := by omega
  have HB := Lib.hid hb
  clear he hown hcap hR e1 e2 hv2 hv3 hb
  go_wp2_with (first | (go_at_call 65; refine (hZ.out _).mono ?_; rintro e w2 ⟨rfl, he⟩; obtain rfl := he.symm) | fail)
  go_ret2
  first | exact ⟨_, _, rfl, HR.out, HB.out⟩ | exact ⟨_, ⟨_, rfl⟩, HR.out, HB.out⟩
theorem Buffer_no {k f l : Int} {w : World} (h : okB k f l = false) :
    Calls Tryd.prog 46 #[.int .i64 k, .int .i64 f, .int .i64 l] w fun e w' => e = .returned (.tuple #[.slice none 0 0, .int .i64 2]) ∧ w' = w := by
  have hB := Lib.hid (fun (u : World) => isBuffer_any (k := k) (f := f) (l := l) (w := u))
  rw [h] at hB
  clear h
  go_enter Tryd.func46, Tryd.ntmps46
  go_wp2_with (first | (go_at_call 63; refine (hB.out _).mono ?_; rintro e w ⟨rfl, rfl⟩) | fail)
  go_ret2
  exact ⟨rfl, rfl⟩
theorem usable_succ {l : List Int} {j : Nat} (h : j < l.length) : usable (l.take (j + 1)) = usable (l.take j) + if useB (l[j]?.getD 0) = true then 1 else 0 := by
  unfold usable
  rw [List.take_succ_eq_append_getElem h, List.countP_append, List.getElem?_eq_getElem h, Option.getD_some, List.countP_cons, List.countP_nil, Nat.zero_add]
theorem buf_at {k f n j : Nat} (h : j < (bufI k f n).length) : (bufI k f n)[j]?.getD 0 = -1 ∨ 0 ≤ (bufI k f n)[j]?.getD 0 := by
  rw [List.getElem?_eq_getElem h, Option.getD_some]
  exact buf_ge _ (List.getElem_mem h)
set_option maxRecDepth 100000 in
set_option maxHeartbeats 4000000 in
theorem Usable_ok {k f l : Nat} {w : World} (hK : KCol w) (h1 : 40 ≤ k) (h2 : k ≤ 6144) (h3 : f < k) (hl : 1 ≤ l) :
    Calls Tryd.prog 25 #[.int .i64 (k : Int), .int .i64 (f : Int), .int .i64 (l : Int)] w fun e w' => e = .returned (.tuple #[.int .i64 ((usable (cirI k f l) : Nat) : Int), .int .i64 0]) ∧ Below w.heap.size w w' := by
  have hF := Lib.hid (Buffer_ok hK h1 h2 h3 hl)
  have hs := siz_le h1 h2 hl
  have hat := Lib.hid (fun (j : Nat) (h : j < (cirI k f l).length) => buf_at (k := k) (f := f) (n := sizN k l) h)
  have hlen := Lib.hid (cirI_length k f l)
  change Hid (∀ j, j < (cirI k f l).length → (cirI k f l)[j]?.getD 0 = -1 ∨ 0 ≤ (cirI k f l)[j]?.getD 0) at hat
  generalize cirI k f l = cir at *
  generalize sizN k l = N at *
  obtain ⟨hs1, hs2, hs3⟩ := hs
  have hs5 : (N : Int) ≤ 18528 := by omega
  have hfin := Lib.hid (show usable (cir.take N) = usable cir by rw [List.take_of_length_le (Nat.le_of_eq hlen.out)])
  clear h1 h2 h3 hl hs1 hs2 hs3
  go_enter Tryd.func25, Tryd.ntmps25
  go_wp2_with fail
  refine hF.out.mono ?_
  rintro e w1 ⟨A, c, rfl, hR, hb⟩
  have HB := Lib.hid hb
  have HR := Lib.hid hR
  clear hR hb hF
  go_wp2_with fail
  go_loopw [10, 22] (fun o i wr => ∃ j u : Nat, j ≤ N ∧ u ≤ j ∧ i = .int .i64 (j : Int) ∧ o = .int .i64 (u : Int) ∧ Hid (u = usable (cir.take j)) ∧ wr = w1) (fun _ i _ => N - (intOf i).toNat)
  case atStart => exact ⟨0, 0, Nat.zero_le _, Nat.zero_le _, rfl, rfl, Lib.hid rfl, rfl⟩
  case round =>
    obtain ⟨j, u, hj, huj, rfl, rfl, hu, rfl⟩ := hrel
    by_cases hlt : j < N
    · have hz : (j : Int) < (N : Int) := by omega
      obtain ⟨b, off, rfl, hbl, hc⟩ := HR.out.cells j hlt
      have hjl : j < cir.length := by rw [hlen.out]; exact hlt
      have hx := hat.out j hjl
      have hsu := usable_succ hjl
      rw [← hu.out] at hsu
      generalize cir[j]?.getD 0 = x at *
      clear hbl hjl
      by_cases hne : x = -1
      · subst hne
        have hsu2 : Hid (u = usable (cir.take (j + 1))) := Lib.hid (by rw [hsu]; rfl)
        clear hsu hx hu
        go_wp2_with fail
        go_roundw
        case rel => exact ⟨j + 1, u, by omega, by omega, by go_num, rfl, hsu2, trivial⟩
        case measure => simp [intOf]; omega
      · have hd : (x != -1) = true := by simp [hne]
        have hsu2 : Hid (u + 1 = usable (cir.take (j + 1))) := Lib.hid (by rw [hsu, if_pos (by simp [useB]; omega)])
        clear hsu hx hu hne
        go_wp2_with fail
        go_roundw
        case rel => exact ⟨j + 1, u + 1, by omega, by omega, by go_num, by go_num, hsu2, trivial⟩
        case measure => simp [intOf]; omega
    · obtain rfl : N = j := by omega
      clear hlt
      go_wp2_with fail
      go_ret2
      have hu2 := hu.out.trans hfin.out
      subst hu2
      exact ⟨rfl, HB.out⟩
theorem Usable_no {k f l : Int} {w : World} (h : okB k f l = false) :
    Calls Tryd.prog 25 #[.int .i64 k, .int .i64 f, .int .i64 l] w fun e w' => e = .returned (.tuple #[.int .i64 0, .int .i64 2]) ∧ w' = w := by
  have hF := Lib.hid (Buffer_no (w := w) h)
  clear h
  go_enter Tryd.func25, Tryd.ntmps25
  go_wp2_with fail
  refine hF.out.mono ?_
  rintro e w ⟨rfl, rfl⟩
  clear hF
  go_wp2_with fail
  go_loopw [10, 22] (fun o i wr => i = .int .i64 0 ∧ o = .int .i64 0 ∧ wr = w) (fun _ _ _ => 0)
  case atStart => exact ⟨rfl, rfl, rfl⟩
  case round =>
    obtain ⟨rfl, rfl, rfl⟩ := hrel
    go_wp2_with fail
    go_ret2
    exact ⟨rfl, rfl⟩
theorem part_eq {n R : Nat} (hR : 1 ≤ R) : (n + 8 * R - 1) / (8 * R) = n / (8 * R) + if n % (8 * R) = 0 then 0 else 1 := by
  have hd := Nat.div_add_mod n (8 * R)
  have hm := Nat.mod_lt n (show 0 < 8 * R by omega)
  obtain ⟨q, hq⟩ : ∃ q, n / (8 * R) = q := ⟨_, rfl⟩
  obtain ⟨r, hr⟩ : ∃ r, n % (8 * R) = r := ⟨_, rfl⟩
  rw [hq, hr] at hd
  rw [hr] at hm
  rw [hq, hr]
  by_cases h0 : r = 0
  · subst h0
    rw [if_pos rfl, ← hd, show 8 * R * q + 0 + 8 * R - 1 = 8 * R * q + (8 * R - 1) by omega, Nat.mul_add_div (by omega), Nat.div_eq_of_lt (by omega)]
  · rw [if_neg h0, ← hd, show 8 * R * q + r + 8 * R - 1 = 8 * R * q + (8 * R + (r - 1)) by omega, Nat.mul_add_div (by omega), Nat.add_div_left _ (by omega), Nat.div_eq_of_lt (by omega)]
theorem part_le {n R : Nat} (hR : 1 ≤ R) (hn : n ≤ 96 * R) : (n + 8 * R - 1) / (8 * R) ≤ 12 := by
  have : (n + 8 * R - 1) / (8 * R) < 13 := by
    rw [Nat.div_lt_iff_lt_mul (by omega)]
    omega
  omega
set_option maxRecDepth 100000 in
set_option maxHeartbeats 4000000 in
theorem Start_ok {k l v : Nat} {w : World} (h1 : 40 ≤ k) (h2 : k ≤ 6144) (hl : 1 ≤ l) (hv : v < 4) :
    Calls Tryd.prog 57 #[.int .i64 (k : Int), .int .i64 (l : Int), .int .i64 (v : Int)] w fun e w' => e = .returned (.tuple #[.int .i64 ((startN k (sizN k l) v : Nat) : Int), .int .i64 0]) ∧ w' = w := by
  have hB := Lib.hid (fun (u : World) => isBuffer_any (k := (k : Int)) (f := 0) (l := (l : Int)) (w := u))
  rw [show okB (k : Int) 0 (l : Int) = true from okB_of (F := 0) h1 h2 (by omega) hl] at hB
  have hV := Lib.hid (fun (u : World) => isVersion_any (v := (v : Int)) (w := u))
  rw [show okV (v : Int) = true by simp [okV]; omega] at hV
  have hZ := Lib.hid (fun (u : World) => size_rm (l := l) (w := u) h1 h2)
  have hRo := Lib.hid (fun (u : World) => Rows_any (d := (k : Int) + 4) (w := u))
  rw [rowsI_k h1 h2] at hRo
  have hs := siz_le h1 h2 hl
  have hr := rows_k h1 h2
  have hst : Hid (startN k (sizN k l) v = rowsN (k + 4) * (2 * ((sizN k l + 8 * rowsN (k + 4) - 1) / (8 * rowsN (k + 4))) * v + 2) % sizN k l) := Lib.hid rfl
  generalize startN k (sizN k l) v = st at *
  generalize rowsN (k + 4) = R at *
  generalize sizN k l = N at *
  obtain ⟨hs1, hs2, hs3⟩ := hs
  have hp := part_le (n := N) (R := R) (by omega) hs2
  have he : ((N : Int) + 8 * (R : Int) - 1) / (8 * (R : Int)) = (((N + 8 * R - 1) / (8 * R) : Nat) : Int) := by
    rw [show (N : Int) + 8 * (R : Int) - 1 = ((N + 8 * R - 1 : Nat) : Int) by omega, show 8 * (R : Int) = ((8 * R : Nat) : Int) by omega]
    rfl
  generalize (N + 8 * R - 1) / (8 * R) = p at *
  obtain ⟨hr1, hr2⟩ := hr
  have hq : 2 * p * v ≤ 72 := by
    have := Nat.mul_le_mul (show 2 * p ≤ 24 by omega) (show v ≤ 3 by omega)
    omega
  obtain ⟨q, hq2⟩ : ∃ q, 2 * p * v = q := ⟨_, rfl⟩
  rw [hq2] at hst hq
  have hm : R * (q + 2) ≤ 14282 := by
    have := Nat.mul_le_mul hr2 (show q + 2 ≤ 74 by omega)
    omega
  have e2 : (2 * (p : Int)) * (v : Int) = (q : Int) := by rw [← hq2]; push_cast; rfl
  obtain ⟨m, hm2⟩ : ∃ m, R * (q + 2) = m := ⟨_, rfl⟩
  rw [hm2] at hst hm
  have e3 : (R : Int) * ((q : Int) + 2) = (m : Int) := by rw [← hm2]; push_cast; rfl
  have e4 : (m : Int) % (N : Int) = (st : Int) := by rw [hst.out]; rfl
  have k0 : (40 : Int) ≤ (k : Int) := by omega
  have k1 : (k : Int) ≤ 6144 := by omega
  have n0 : (1 : Int) ≤ (N : Int) := by omega
  have n1 : (N : Int) ≤ 18528 := by omega
  have R0 : (2 : Int) ≤ (R : Int) := by omega
  have R1 : (R : Int) ≤ 193 := by omega
  have p1 : (p : Int) ≤ 12 := by omega
  have v1 : (v : Int) ≤ 3 := by omega
  have q1 : (q : Int) ≤ 72 := by omega
  have m1 : (m : Int) ≤ 14282 := by omega
  clear h1 h2 hl hv hs1 hs2 hs3 hp hr1 hr2 hq hq2 hm hm2 hst
  go_enter Tryd.func57, Tryd.ntmps57
  go_wp2_with (first | (go_at_call 63; refine (hB.out _).mono ?_; rintro e w ⟨rfl, rfl⟩) | (go_at_call 66; refine (hV.out _).mono ?_; rintro e w ⟨rfl, rfl⟩) | (go_at_call 70; refine (hRo.out _).mono ?_; rintro e w ⟨rfl, rfl⟩) | (go_at_call 65; refine (hZ.out _).mono ?_; rintro e w ⟨rfl, rfl⟩) | fail)
  go_ret2
  refine ⟨?_, rfl⟩
  show Ending.returned (.tuple #[.int .i64 ((m : Int) % (N : Int)), .int .i64 0]) = _
  rw [e4]
theorem Start_no {k l v : Int} {w : World} (h : (okB k 0 l && okV v) = false) :
    Calls Tryd.prog 57 #[.int .i64 k, .int .i64 l, .int .i64 v] w fun e w' => e = .returned (.tuple #[.int .i64 0, .int .i64 2]) ∧ w' = w := by
  have hB := Lib.hid (fun (u : World) => isBuffer_any (k := k) (f := 0) (l := l) (w := u))
  have hV := Lib.hid (fun (u : World) => isVersion_any (v := v) (w := u))
  generalize okB k 0 l = b1 at *
  generalize okV v = b2 at *
  cases b1
  · clear h
    go_enter Tryd.func57, Tryd.ntmps57
    go_wp2_with (first | (go_at_call 63; refine (hB.out _).mono ?_; rintro e w ⟨rfl, rfl⟩) | (go_at_call 66; refine (hV.out _).mono ?_; rintro e w ⟨rfl, rfl⟩) | fail)
    go_ret2
    exact ⟨rfl, rfl⟩
  · cases b2
    · clear h
      go_enter Tryd.func57, Tryd.ntmps57
      go_wp2_with (first | (go_at_call 63; refine (hB.out _).mono ?_; rintro e w ⟨rfl, rfl⟩) | (go_at_call 66; refine (hV.out _).mono ?_; rintro e w ⟨rfl, rfl⟩) | fail)
      go_ret2
      exact ⟨rfl, rfl⟩
    · cases h
set_option maxRecDepth 100000 in
set_option maxHeartbeats 4000000 in
/-- The reference's Usable. -/
theorem refUsable_any {A : Option Addr} {N c B : Nat} {cir : List Int} {w : World} (hR : Rd .i64 w B A N cir) (hN : N ≤ 18528) :
    Calls Tryd.prog 72 #[.slice A N c] w fun e w' => e = .returned (.int .i64 ((usable cir : Nat) : Int)) ∧ w' = w := by
  have hlen := Lib.hid hR.len
  have HR := Lib.hid hR
  have hs5 : (N : Int) ≤ 18528 := by omega
  have hfin := Lib.hid (show usable (cir.take N) = usable cir by rw [List.take_of_length_le (Nat.le_of_eq hlen.out)])
  clear hN hR
  go_enter Tryd.func72, Tryd.ntmps72
  go_wp2_with fail
  go_loopw [3, 4] (fun o i wr => ∃ j u : Nat, j ≤ N ∧ u ≤ j ∧ i = .int .i64 (j : Int) ∧ o = .int .i64 (u : Int) ∧ Hid (u = usable (cir.take j)) ∧ wr = w) (fun _ i _ => N - (intOf i).toNat)
  case atStart => exact ⟨0, 0, Nat.zero_le _, Nat.zero_le _, rfl, rfl, Lib.hid rfl, rfl⟩
  case round =>
    obtain ⟨j, u, hj, huj, rfl, rfl, hu, rfl⟩ := hrel
    by_cases hlt : j < N
    · have hz : (j : Int) < (N : Int) := by omega
      obtain ⟨b, off, rfl, hbl, hc⟩ := HR.out.cells j hlt
      have hjl : j < cir.length := by rw [hlen.out]; exact hlt
      have hsu := usable_succ hjl
      rw [← hu.out] at hsu
      generalize cir[j]?.getD 0 = x at *
      clear hbl hjl
      by_cases hne : x < 0
      · have hsu2 : Hid (u = usable (cir.take (j + 1))) := Lib.hid (by rw [hsu, if_neg (by simp [useB]; omega)]; rfl)
        clear hsu hu
        go_wp2_with fail
        go_roundw
        case rel => exact ⟨j + 1, u, by omega, by omega, by go_num, rfl, hsu2, trivial⟩
        case measure => simp [intOf]; omega
      · have hsu2 : Hid (u + 1 = usable (cir.take (j + 1))) := Lib.hid (by rw [hsu, if_pos (by simp [useB]; omega)])
        have hne2 : 0 ≤ x := by omega
        clear hsu hu hne
        go_wp2_with fail
        go_roundw
        case rel => exact ⟨j + 1, u + 1, by omega, by omega, by go_num, by go_num, hsu2, trivial⟩
        case measure => simp [intOf]; omega
    · obtain rfl : N = j := by omega
      clear hlt
      go_wp2_with fail
      go_ret
      have hu2 := hu.out.trans hfin.out
      subst hu2
      exact ⟨rfl, rfl⟩
set_option maxRecDepth 100000 in
set_option maxHeartbeats 4000000 in
theorem refStart_any {k N v : Nat} {w : World} (h1 : 40 ≤ k) (h2 : k ≤ 6144) (hN1 : 1 ≤ N) (hN2 : N ≤ 96 * rowsN (k + 4)) (hv : v < 4) :
    Calls Tryd.prog 73 #[.int .i64 (k : Int), .int .i64 (N : Int), .int .i64 (v : Int)] w fun e w' => e = .returned (.int .i64 ((startN k N v : Nat) : Int)) ∧ w' = w := by
  have hRo := Lib.hid (fun (u : World) => refRows_any (d := (k : Int) + 4) (w := u))
  rw [rowsI_k h1 h2] at hRo
  have hr := rows_k h1 h2
  have hst : Hid (startN k N v = rowsN (k + 4) * (2 * ((N + 8 * rowsN (k + 4) - 1) / (8 * rowsN (k + 4))) * v + 2) % N) := Lib.hid rfl
  generalize startN k N v = st at *
  generalize rowsN (k + 4) = R at *
  have hp := part_le (n := N) (R := R) (by omega) hN2
  have hpe := part_eq (n := N) (R := R) (by omega)
  rw [hpe] at hst hp
  clear hpe
  have e0 : (N : Int) / (8 * (R : Int)) = ((N / (8 * R) : Nat) : Int) := by
    rw [show 8 * (R : Int) = ((8 * R : Nat) : Int) by omega]; rfl
  have e1 : (N : Int) % (8 * (R : Int)) = ((N % (8 * R) : Nat) : Int) := by
    rw [show 8 * (R : Int) = ((8 * R : Nat) : Int) by omega]; rfl
  generalize N / (8 * R) = p0 at *
  generalize N % (8 * R) = r0 at *
  obtain ⟨hr1, hr2⟩ := hr
  obtain ⟨p, hp2⟩ : ∃ p, (p0 + if r0 = 0 then 0 else 1) = p := ⟨_, rfl⟩
  rw [hp2] at hst hp
  have hq : 2 * p * v ≤ 72 := by
    have := Nat.mul_le_mul (show 2 * p ≤ 24 by omega) (show v ≤ 3 by omega)
    omega
  obtain ⟨q, hq2⟩ : ∃ q, 2 * p * v = q := ⟨_, rfl⟩
  rw [hq2] at hst hq
  have hm : R * (q + 2) ≤ 14282 := by
    have := Nat.mul_le_mul hr2 (show q + 2 ≤ 74 by omega)
    omega
  have e2 : (2 * (p : Int)) * (v : Int) = (q : Int) := by rw [← hq2]; push_cast; rfl
  obtain ⟨m, hm2⟩ : ∃ m, R * (q + 2) = m := ⟨_, rfl⟩
  rw [hm2] at hst hm
  have e3 : (R : Int) * ((q : Int) + 2) = (m : Int) := by rw [← hm2]; push_cast; rfl
  have e4 : (m : Int) % (N : Int) = (st : Int) := by rw [hst.out]; rfl
  have k0 : (40 : Int) ≤ (k : Int) := by omega
  have k1 : (k : Int) ≤ 6144 := by omega
  have n0 : (1 : Int) ≤ (N : Int) := by omega
  have n1 : (N : Int) ≤ 18528 := by omega
  have R0 : (2 : Int) ≤ (R : Int) := by omega
  have R1 : (R : Int) ≤ 193 := by omega
  have v1 : (v : Int) ≤ 3 := by omega
  have q1 : (q : Int) ≤ 72 := by omega
  have m1 : (m : Int) ≤ 14282 := by omega
  clear h1 h2 hN1 hN2 hv hr1 hr2 hq hq2 hm hm2 hst
  by_cases h0 : r0 = 0
  · subst h0
    have hp3 : p0 = p := by rw [← hp2]; simp
    subst hp3
    have p1 : (p0 : Int) ≤ 12 := by omega
    clear hp2 hp
    rw [show (((0 : Nat) : Int)) = 0 from rfl] at e1
    go_enter Tryd.func73, Tryd.ntmps73
    go_wp2_with (first | (go_at_call 84; refine (hRo.out _).mono ?_; rintro e w ⟨rfl, rfl⟩) | fail)
    go_ret
    exact ⟨ret_int e4, rfl⟩
  · have hp3 : p0 + 1 = p := by rw [← hp2, if_neg h0]
    subst hp3
    have p1 : (p0 : Int) + 1 ≤ 12 := by omega
    have r1 : (0 : Int) < (r0 : Int) := by omega
    rw [show ((p0 + 1 : Nat) : Int) = (p0 : Int) + 1 by omega] at e2
    clear hp2 hp h0
    go_enter Tryd.func73, Tryd.ntmps73
    go_wp2_with (first | (go_at_call 84; refine (hRo.out _).mono ?_; rintro e w ⟨rfl, rfl⟩) | fail)
    go_ret
    exact ⟨ret_int e4, rfl⟩
end Go.Proofs.YtoegamlpgenfcaaDoor
