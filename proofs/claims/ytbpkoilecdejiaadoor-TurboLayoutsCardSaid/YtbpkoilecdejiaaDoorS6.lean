/-
  The reference's Layout.
-/
import Derived.Test.YtbpkoilecdejiaaDoorU9
import Derived.Test.YtbpkoilecdejiaaDoorS4
namespace Go.Proofs.YtbpkoilecdejiaaDoor
set_option maxRecDepth 100000
open Go.RowKit

/-- Two rows of a call's own that lie apart. -/
structure Two2 (w : World) (base : Nat) (V1 V2 : Value) (n : Nat) (xs ys : List Int) : Prop where
  o1 : w.ownsRow base 3 1 V1 n (xs.map (Value.int .i64))
  o2 : w.ownsRow base 3 1 V2 n (ys.map (Value.int .i64))
  ap : ∀ g, V1.ownBlock = some g → V2.ownBlock ≠ some g
/-- append of a literal onto one's own. -/
theorem app_lit {w : World} {base n c : Nat} {A : Option Addr} {xs zs : List Int} (hO : w.ownsRow base 3 1 (.slice A n c) n (xs.map (Value.int .i64))) (hb : base ≤ w.heap.size) (hn : n + zs.length ≤ 1000000) :
    ∃ A2 c2 w2, (Builtin.append_ #[36, 36] 36 #[.slice A n c, .slice (some ⟨w.heap.size, 0, none⟩) zs.length zs.length]).run Tryd.prog (w.alloc (.cells (zs.map (Value.int .i64)).toArray 3)) = .ok (.slice A2 (n + zs.length) c2) w2 ∧
      w2.ownsRow base 3 1 (.slice A2 (n + zs.length) c2) (n + zs.length) ((xs ++ zs).map (Value.int .i64)) ∧ (w.alloc (.cells (zs.map (Value.int .i64)).toArray 3)).grownBy w2 (Value.slice A n c).ownBlock ∧
      ((Value.slice A2 (n + zs.length) c2).ownBlock = (Value.slice A n c).ownBlock ∨ (Value.slice A2 (n + zs.length) c2).ownBlock = some (w.heap.size + 1)) := by
  obtain ⟨i0, hi, hz0, hz1, hz2⟩ := info_q Tryd.info_int
  have hR : Rd .i64 (w.alloc (.cells (zs.map (Value.int .i64)).toArray 3)) (w.heap.size + 1) (some ⟨w.heap.size, 0, none⟩) zs.length zs := by
    refine ⟨rfl, fun k hk => ⟨w.heap.size, 0, rfl, Nat.lt_succ_self _, ?_⟩⟩
    have h := World.alloc_heap_new w (.cells (zs.map (Value.int .i64)).toArray 3)
    simp only [World.cell?, h, Nat.zero_add]
    rw [List.getElem?_toArray, List.getElem?_map, List.getElem?_eq_getElem hk]
    rfl
  obtain ⟨V2, w2, h1, h2, h3, h4⟩ := run_append_q (P := Tryd.prog) (ty := 36) (c' := zs.length) Tryd.underlying36 hi hz0 hz1 hz2 (by decide) (hO.alloc (.cells (zs.map (Value.int .i64)).toArray 3)) hR hn (by simp; omega)
  obtain ⟨A2, c2, rfl⟩ := ownsRow_shape h2
  rw [World.size_alloc] at h4
  exact ⟨A2, c2, w2, h1, h2, h3, h4⟩
theorem Two2.push {w : World} {base n c c' : Nat} {A A' : Option Addr} {xs ys zs us : List Int} (h : Two2 w base (.slice A n c) (.slice A' n c') n xs ys) (hb : base ≤ w.heap.size) (hl : us.length = zs.length) (hn : n + zs.length ≤ 1000000) :
    ∃ A2 c2 w2 A3 c3 w3, (Builtin.append_ #[36, 36] 36 #[.slice A n c, .slice (some ⟨w.heap.size, 0, none⟩) zs.length zs.length]).run Tryd.prog (w.alloc (.cells (zs.map (Value.int .i64)).toArray 3)) = .ok (.slice A2 (n + zs.length) c2) w2 ∧
      (Builtin.append_ #[36, 36] 36 #[.slice A' n c', .slice (some ⟨w2.heap.size, 0, none⟩) zs.length zs.length]).run Tryd.prog (w2.alloc (.cells (us.map (Value.int .i64)).toArray 3)) = .ok (.slice A3 (n + zs.length) c3) w3 ∧
      Two2 w3 base (.slice A2 (n + zs.length) c2) (.slice A3 (n + zs.length) c3) (n + zs.length) (xs ++ zs) (ys ++ us) ∧ (∀ v, Below base v w → base ≤ v.heap.size → Below base v w3) := by
  obtain ⟨A2, c2, w2, r1, o1, g1, e1⟩ := app_lit (zs := zs) h.o1 hb hn
  have hs2 : w.heap.size + 1 ≤ w2.heap.size := by have := g1.size; simpa using this
  have o2' : w2.ownsRow base 3 1 (.slice A' n c') n (ys.map (Value.int .i64)) := ownsRow_block h.o2 (fun g hg => by
    have hlt := (h.o2.lt g hg).2
    exact (g1.block g (by simp; omega) (fun e => h.ap g e.symm hg)).trans (Below.heap_alloc _ _ _ hlt))
  obtain ⟨A3, c3, w3, r2, o3, g2, e2⟩ := app_lit (zs := us) o2' (by omega) (by omega)
  rw [hl] at r2 o3 e2
  have hap : ∀ g, (Value.slice A2 (n + zs.length) c2).ownBlock = some g → (Value.slice A' n c').ownBlock ≠ some g := fun g hg hg' => by
    rcases e1 with e1 | e1
    · exact h.ap g (by rw [← e1]; exact hg) hg'
    · rw [e1] at hg
      injection hg with hg
      have := (h.o2.lt g hg').2
      omega
  refine ⟨A2, c2, w2, A3, c3, w3, r1, r2, ⟨ownsRow_block o1 (fun g hg => ?_), o3, fun g hg hg' => ?_⟩, fun v hv hbv => ?_⟩
  · have hlt := (o1.lt g hg).2
    exact (g2.block g (by simp; omega) (fun e => hap g hg e.symm)).trans (Below.heap_alloc _ _ _ hlt)
  · have hlt := (o1.lt g hg).2
    rcases e2 with e2 | e2
    · exact hap g hg (by rw [← e2]; exact hg')
    · rw [e2] at hg'
      injection hg' with hg'
      omega
  · have b1 := (hv.alloc (Nat.le_trans hbv hv.size) (.cells (zs.map (Value.int .i64)).toArray 3)).grown g1 (by have := hv.size; simp; omega) (fun g e => (h.o1.lt g e).1)
    exact (b1.alloc (by omega) _).grown g2 (by simp; omega) (fun g e => (o2'.lt g e).1)
theorem Two2.nil (w : World) (base : Nat) : Two2 w base (.slice none 0 0) (.slice none 0 0) 0 [] [] := ⟨by simpa using World.ownsRow_nil w base 3 1, by simpa using World.ownsRow_nil w base 3 1, fun g hg => by simp [Value.ownBlock] at hg⟩
theorem newI_own {w W : World} {A : Option Addr} {n c : Nat} {xs : List Int} (h : W.ownsRow w.heap.size 3 1 (.slice A n c) n (xs.map (Value.int .i64))) : NewI w.heap.size n xs (.slice A n c) W := by
  refine ⟨A, c, rfl, Rd.of_own h, fun a e => ?_, ?_⟩
  · subst e
    exact (h.lt a.block rfl).1
  · rcases h.2 with ⟨e, h0⟩ | ⟨g, cap, cur, e, _, _, h1, _⟩
    · injection e with _ e1 e2
      omega
    · injection e with _ _ e2
      omega
theorem sys_next (k i : Nat) (h : i < k) : sysL k 1 (i + 1) = sysL k 1 i ++ [(i : Int)] ∧ sysL k 2 (i + 1) = sysL k 2 i ++ [((piK k i : Nat) : Int)] := by
  rw [sysL_succ, sysL_succ]
  unfold sysN
  rw [if_pos h, if_pos h, if_pos rfl, if_neg (by decide)]
  exact ⟨rfl, rfl⟩
theorem par_next (k i code : Nat) (h : i < k) : parLay k code (i + 1) = parLay k code i ++ [((code * (k + 4) + i : Nat) : Int)] := by
  rw [parLay_succ]
  unfold parN
  rw [if_pos h]
set_option maxHeartbeats 4000000 in
theorem refLayout_no {k code : Int} {w : World} (h : lyB k code = false) : Calls Tryd.prog 22 #[.int .i64 k, .int .i64 code] w (RetLay w k code) := by
  have hO := Lib.hid (refOrder_any (k := k) (w := w))
  obtain ⟨e1, e2, e3, e4⟩ := lyS_no h
  unfold RetLay
  rw [e1, e2, e3, e4]
  have hcase : isB k = false ∨ (isB k = true ∧ (code < 1 ∨ 2 < code)) := by
    unfold lyB at h
    by_cases hk : isB k = true
    · rw [hk, Bool.true_and, Bool.or_eq_false_iff, decide_eq_false_iff_not, decide_eq_false_iff_not] at h
      exact .inr ⟨hk, by omega⟩
    · exact .inl (Bool.eq_false_iff.2 hk)
  clear e1 e2 e3 e4 h
  rcases hcase with hk | ⟨hk, hc⟩
  · rw [orderS_no hk] at hO
    clear hk
    go_enter Tryd.func22, Tryd.ntmps22
    go_wp2_with fail
    refine hO.out.mono ?_
    rintro e w1 ⟨A1, c1, rfl, _, hb1⟩
    clear hO
    go_wp2_with fail
    go_ret3
    exact ⟨none, 0, none, 0, rfl, NewI.nil _ _, NewI.nil _ _, hb1⟩
  · obtain ⟨m, rfl, hs⟩ := isB_ex hk
    rw [orderS_size hs] at hO
    clear hk hs
    rcases hc with hc | hc
    · have d1 : decide (code < 1) = true := decide_eq_true hc
      go_enter Tryd.func22, Tryd.ntmps22
      go_wp2_with fail
      refine hO.out.mono ?_
      rintro e w1 ⟨A1, c1, rfl, _, hb1⟩
      clear hO
      go_wp2_with fail
      go_ret3
      exact ⟨none, 0, none, 0, rfl, NewI.nil _ _, NewI.nil _ _, hb1⟩
    · have d1 : decide (code < 1) = false := by simp; omega
      have d2 : decide (2 < code) = true := decide_eq_true hc
      go_enter Tryd.func22, Tryd.ntmps22
      go_wp2_with fail
      refine hO.out.mono ?_
      rintro e w1 ⟨A1, c1, rfl, _, hb1⟩
      clear hO
      go_wp2_with fail
      go_ret3
      exact ⟨none, 0, none, 0, rfl, NewI.nil _ _, NewI.nil _ _, hb1⟩
set_option maxHeartbeats 4000000 in
theorem refLayout_1 {k : Nat} {w : World} (hs : IsSize k) : Calls Tryd.prog 22 #[.int .i64 (k : Int), .int .i64 1] w (RetLay w (k : Int) 1) := by
  have hO := Lib.hid (refOrder_any (k := (k : Int)) (w := w))
  rw [orderS_size hs] at hO
  obtain ⟨e1, e2, e3, e4⟩ := lyS_size hs (c := 1) (by decide)
  simp only [Int.cast_ofNat_Int] at e1 e2 e3 e4
  unfold RetLay
  have h3s := sysL_three k 1
  have h3p := parLay_three k 1
  simp only [Nat.sub_self, Nat.mul_zero, Nat.add_zero] at h3s h3p
  rw [e1, e2, e3, e4]
  have hk := size_le hs
  have hol := ordI_length k k
  clear e1 e2 e3 e4 hs
  go_enter Tryd.func22, Tryd.ntmps22
  go_wp2_with fail
  refine hO.out.mono ?_
  rintro e w1 ⟨A0, c0, rfl, ho0, hb1⟩
  simp only [hol] at ho0 ⊢
  have R0 := Lib.hid (Rd.of_own ho0)
  have B1 := Lib.hid hb1
  clear hO ho0 hb1 hol
  have k0 : (40 : Int) ≤ (k : Int) := by omega
  have k1 : (k : Int) ≤ 6144 := by omega
  go_wp2_with fail
  go_loopw [10, 11, 12] (fun s p i W => ∃ (j c c' : Nat) (A A' : Option Addr), j ≤ k ∧ s = .slice A j c ∧ p = .slice A' j c' ∧ i = .int .i64 (j : Int) ∧ Hid (Two2 W w1.heap.size (.slice A j c) (.slice A' j c') j (sysL k 1 j) (parLay k 1 j) ∧ Below w1.heap.size w1 W)) (fun _ _ i _ => k - (intOf i).toNat)
  case atStart => exact ⟨0, 0, 0, none, none, Nat.zero_le _, rfl, rfl, rfl, Lib.hid ⟨Two2.nil _ _, Below.refl _ _⟩⟩
  case round =>
    obtain ⟨j, c, c', A, A', hj, rfl, rfl, rfl, hH⟩ := hrel
    by_cases hlt : j < k
    · have j0 : (0 : Int) ≤ (j : Int) := by omega
      have j1 : (j : Int) < (k : Int) := by omega
      obtain ⟨A2, c2, w2, A3, c3, w3, r1, r2, t2, b2⟩ := hH.out.1.push (zs := [((j : Nat) : Int)]) (us := [(k : Int) + 4 + (j : Int)]) hH.out.2.size rfl (by simp; omega)
      rw [← (sys_next k j hlt|>.1), show parLay k 1 j ++ [(k : Int) + 4 + (j : Int)] = parLay k 1 (j + 1) by rw [par_next k j 1 hlt]; congr 2; push_cast; omega] at t2
      have HF := Lib.hid (And.intro t2 (b2 _ hH.out.2 (Nat.le_refl _)))
      have HR1 := Lib.hid r1
      have HR2 := Lib.hid r2
      simp only [List.map_cons, List.map_nil, List.length_cons, List.length_nil, Nat.zero_add] at HR1 HR2 HF
      clear r1 r2 t2 b2 hH R0 B1 h3s h3p hk
      go_wp2_with (at_builtin; first | (refine Lib.wpList_append_run _ rfl _ _ _ _ rfl _ _ rfl rfl _ _ HR1.out ?_; clear HR1) | refine Lib.wpList_append_run _ rfl _ _ _ _ rfl _ _ rfl rfl _ _ HR2.out ?_)
      go_roundw
      case rel => exact ⟨j + 1, c2, c3, A2, A3, by omega, rfl, rfl, by go_num, HF⟩
      case measure => simp [intOf]; omega
    · obtain rfl : j = k := by omega
      obtain ⟨A2, c2, w2, A3, c3, w3, r1, r2, t2, b2⟩ := hH.out.1.push (zs := [(j : Int), 2 * ((j : Int) + 4) + ((j : Int)), ((j : Int) + 4) + ((j : Int)) + 1]) (us := [((j : Int) + 4) + ((j : Int)), (j : Int) + 1, 2 * ((j : Int) + 4) + ((j : Int)) + 1]) hH.out.2.size rfl (by simp; omega)
      rw [show sysL j 1 j ++ [(j : Int), 2 * ((j : Int) + 4) + ((j : Int)), ((j : Int) + 4) + ((j : Int)) + 1] = sysL j 1 (j + 3) by rw [h3s]; congr 2, show parLay j 1 j ++ [((j : Int) + 4) + ((j : Int)), (j : Int) + 1, 2 * ((j : Int) + 4) + ((j : Int)) + 1] = parLay j 1 (j + 3) by rw [h3p]; congr 2] at t2
      have HF := Lib.hid (And.intro t2 (B1.out.trans ((b2 _ hH.out.2 (Nat.le_refl _)).mono B1.out.size)))
      have HL := Lib.hid B1.out.size
      have HR1 := Lib.hid r1
      have HR2 := Lib.hid r2
      simp only [List.map_cons, List.map_nil, List.length_cons, List.length_nil, Nat.zero_add, Nat.reduceAdd] at HR1 HR2 HF
      clear r1 r2 t2 b2 hH R0 B1 h3s h3p hk
      go_wp2_with (at_builtin; first | (refine Lib.wpList_append_run _ rfl _ _ _ _ rfl _ _ rfl rfl _ _ HR1.out ?_; clear HR1) | refine Lib.wpList_append_run _ rfl _ _ _ _ rfl _ _ rfl rfl _ _ HR2.out ?_)
      go_ret3
      exact ⟨A2, c2, A3, c3, rfl, (newI_own HF.out.1.o1).low HL.out, (newI_own HF.out.1.o2).low HL.out, HF.out.2⟩
set_option maxHeartbeats 4000000 in
theorem refLayout_2 {k : Nat} {w : World} (hs : IsSize k) : Calls Tryd.prog 22 #[.int .i64 (k : Int), .int .i64 2] w (RetLay w (k : Int) 2) := by
  have hO := Lib.hid (refOrder_any (k := (k : Int)) (w := w))
  rw [orderS_size hs] at hO
  obtain ⟨e1, e2, e3, e4⟩ := lyS_size hs (c := 2) (by decide)
  simp only [Int.cast_ofNat_Int] at e1 e2 e3 e4
  unfold RetLay
  have h3s := sysL_three k 2
  have h3p := parLay_three k 2
  simp only [Nat.reduceSub, Nat.mul_one] at h3s h3p
  rw [e1, e2, e3, e4]
  have hk := size_le hs
  have hol := ordI_length k k
  clear e1 e2 e3 e4 hs
  go_enter Tryd.func22, Tryd.ntmps22
  go_wp2_with fail
  refine hO.out.mono ?_
  rintro e w1 ⟨A0, c0, rfl, ho0, hb1⟩
  simp only [hol] at ho0 ⊢
  have R0 := Lib.hid (Rd.of_own ho0)
  have B1 := Lib.hid hb1
  clear hO ho0 hb1 hol
  have k0 : (40 : Int) ≤ (k : Int) := by omega
  have k1 : (k : Int) ≤ 6144 := by omega
  go_wp2_with fail
  go_loopw [10, 11, 12] (fun s p i W => ∃ (j c c' : Nat) (A A' : Option Addr), j ≤ k ∧ s = .slice A j c ∧ p = .slice A' j c' ∧ i = .int .i64 (j : Int) ∧ Hid (Two2 W w1.heap.size (.slice A j c) (.slice A' j c') j (sysL k 2 j) (parLay k 2 j) ∧ Below w1.heap.size w1 W)) (fun _ _ i _ => k - (intOf i).toNat)
  case atStart => exact ⟨0, 0, 0, none, none, Nat.zero_le _, rfl, rfl, rfl, Lib.hid ⟨Two2.nil _ _, Below.refl _ _⟩⟩
  case round =>
    obtain ⟨j, c, c', A, A', hj, rfl, rfl, rfl, hH⟩ := hrel
    by_cases hlt : j < k
    · have j0 : (0 : Int) ≤ (j : Int) := by omega
      have j1 : (j : Int) < (k : Int) := by omega
      obtain ⟨b, off, rfl, hbl, hcell⟩ := (R0.out.below hH.out.2).cells j hlt
      rw [ordI_pi hlt] at hcell
      obtain ⟨A2, c2, w2, A3, c3, w3, r1, r2, t2, b2⟩ := hH.out.1.push (zs := [((piK k j : Nat) : Int)]) (us := [2 * ((k : Int) + 4) + (j : Int)]) hH.out.2.size rfl (by simp; omega)
      rw [← (sys_next k j hlt|>.2), show parLay k 2 j ++ [2 * ((k : Int) + 4) + (j : Int)] = parLay k 2 (j + 1) by rw [par_next k j 2 hlt]; congr 2] at t2
      have HF := Lib.hid (And.intro t2 (b2 _ hH.out.2 (Nat.le_refl _)))
      have HR1 := Lib.hid r1
      have HR2 := Lib.hid r2
      simp only [List.map_cons, List.map_nil, List.length_cons, List.length_nil, Nat.zero_add] at HR1 HR2 HF
      clear r1 r2 t2 b2 hH R0 B1 h3s h3p hk
      go_wp2_with (at_builtin; first | (refine Lib.wpList_append_run _ rfl _ _ _ _ rfl _ _ rfl rfl _ _ HR1.out ?_; clear HR1) | refine Lib.wpList_append_run _ rfl _ _ _ _ rfl _ _ rfl rfl _ _ HR2.out ?_)
      go_roundw
      case rel => exact ⟨j + 1, c2, c3, A2, A3, by omega, rfl, rfl, by go_num, HF⟩
      case measure => simp [intOf]; omega
    · obtain rfl : j = k := by omega
      obtain ⟨A2, c2, w2, A3, c3, w3, r1, r2, t2, b2⟩ := hH.out.1.push (zs := [(j : Int) + 2, 2 * ((j : Int) + 4) + ((j : Int) + 2), ((j : Int) + 4) + ((j : Int) + 2) + 1]) (us := [((j : Int) + 4) + ((j : Int) + 2), (j : Int) + 2 + 1, 2 * ((j : Int) + 4) + ((j : Int) + 2) + 1]) hH.out.2.size rfl (by simp; omega)
      rw [show sysL j 2 j ++ [(j : Int) + 2, 2 * ((j : Int) + 4) + ((j : Int) + 2), ((j : Int) + 4) + ((j : Int) + 2) + 1] = sysL j 2 (j + 3) by rw [h3s]; congr 2, show parLay j 2 j ++ [((j : Int) + 4) + ((j : Int) + 2), (j : Int) + 2 + 1, 2 * ((j : Int) + 4) + ((j : Int) + 2) + 1] = parLay j 2 (j + 3) by rw [h3p]; congr 2] at t2
      have HF := Lib.hid (And.intro t2 (B1.out.trans ((b2 _ hH.out.2 (Nat.le_refl _)).mono B1.out.size)))
      have HL := Lib.hid B1.out.size
      have HR1 := Lib.hid r1
      have HR2 := Lib.hid r2
      simp only [List.map_cons, List.map_nil, List.length_cons, List.length_nil, Nat.zero_add, Nat.reduceAdd] at HR1 HR2 HF
      clear r1 r2 t2 b2 hH R0 B1 h3s h3p hk
      go_wp2_with (at_builtin; first | (refine Lib.wpList_append_run _ rfl _ _ _ _ rfl _ _ rfl rfl _ _ HR1.out ?_; clear HR1) | refine Lib.wpList_append_run _ rfl _ _ _ _ rfl _ _ rfl rfl _ _ HR2.out ?_)
      go_ret3
      exact ⟨A2, c2, A3, c3, rfl, (newI_own HF.out.1.o1).low HL.out, (newI_own HF.out.1.o2).low HL.out, HF.out.2⟩
theorem refLayout_any {k code : Int} {w : World} : Calls Tryd.prog 22 #[.int .i64 k, .int .i64 code] w (RetLay w k code) := by
  by_cases h : lyB k code = true
  · obtain ⟨m, c, rfl, rfl, hs, hc⟩ := lyB_ok h
    rcases hc with rfl | rfl
    · exact refLayout_1 hs
    · exact refLayout_2 hs
  · exact refLayout_no (Bool.eq_false_iff.2 h)
end Go.Proofs.YtbpkoilecdejiaaDoor
