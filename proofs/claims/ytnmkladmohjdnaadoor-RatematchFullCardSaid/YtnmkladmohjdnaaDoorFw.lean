/-
  The full buffer.
-/
import Derived.Test.YtnmkladmohjdnaaDoorFu
namespace Go.Proofs.YtnmkladmohjdnaaDoor
open Go.RowKit Go.Shelf

/-- append of two integers. -/
theorem ints_app2 {w wr : World} {n : Nat} {A : Option Addr} {c : Nat} {xs : List Int} (hO : wr.ownsRow w.heap.size 3 1 (.slice A n c) n (xs.map (Value.int .i64))) (hb : Below w.heap.size w wr) (hn : n < 100000) (x y : Int) :
    ∃ A2 c2 w2, (Builtin.append_ #[22, 22] 22 #[.slice A n c, .slice (some ⟨wr.heap.size, 0, none⟩) 2 2]).run Tryd.prog (wr.alloc (.cells #[.int .i64 x, .int .i64 y] 3)) = .ok (.slice A2 (n + 2) c2) w2 ∧
      w2.ownsRow w.heap.size 3 1 (.slice A2 (n + 2) c2) (n + 2) ((xs ++ [x, y]).map (Value.int .i64)) ∧ Below w.heap.size w w2 ∧
      (∀ G, G < wr.heap.size → (Value.slice A n c).ownBlock ≠ some G → w2.heap[G]? = wr.heap[G]? ∧ (Value.slice A2 (n + 2) c2).ownBlock ≠ some G ∧ G < w2.heap.size) := by
  obtain ⟨i0, hi, hz0, hz1, hz2⟩ := info_q Tryd.info_int
  have hO' : (wr.alloc (.cells #[.int .i64 x, .int .i64 y] 3)).ownsRow w.heap.size 3 1 (.slice A n c) n (xs.map (Value.int .i64)) := hO.alloc _
  have hR : Rd .i64 (wr.alloc (.cells #[.int .i64 x, .int .i64 y] 3)) (wr.heap.size + 1) (some ⟨wr.heap.size, 0, none⟩) 2 [x, y] := by
    refine ⟨rfl, fun k hk => ⟨wr.heap.size, 0, rfl, by omega, ?_⟩⟩
    have h1 : (wr.alloc (.cells #[.int .i64 x, .int .i64 y] 3)).heap[wr.heap.size]? = some (.cells #[.int .i64 x, .int .i64 y] 3) := World.alloc_heap_new wr _
    simp only [World.cell?, h1, Nat.zero_add]
    obtain rfl | rfl : k = 0 ∨ k = 1 := by omega
    all_goals rfl
  obtain ⟨V2, w2, h1, h2, h3, h4⟩ := run_append_q (P := Tryd.prog) (q := .i64) (ty := 22) (c' := 2) Tryd.underlying22 hi hz0 hz1 hz2 (by decide) hO' hR (by omega) (by simp; have := hb.size; omega)
  obtain ⟨A2, c2, rfl⟩ := ownsRow_shape h2
  refine ⟨A2, c2, w2, h1, h2, (hb.alloc hb.size _).grown h3 (by simp; have := hb.size; omega) (fun k hk => (hO.lt k hk).1), fun G hG hne => ⟨?_, ?_, ?_⟩⟩
  · exact (h3.block G (by simp; omega) (fun e => hne e.symm)).trans (Below.heap_alloc _ _ _ hG)
  · rcases h4 with h4 | h4
    · rw [h4]; exact hne
    · rw [h4]; simp; omega
  · have := h3.size
    simp at this
    omega
/-- The first j rounds of the loop. -/
def fullP (k f j : Nat) : List Int := (orderI (k + 4) false).map (elemI k f 0) ++ (List.range j).flatMap (fun j => [elemI k f 1 ((orderI (k + 4) false)[j]?.getD 0), elemI k f 2 ((orderI (k + 4) true)[j]?.getD 0)])
theorem fullP_zero (k f : Nat) : fullP k f 0 = (orderI (k + 4) false).map (elemI k f 0) := by simp [fullP]
theorem fullP_all (k f : Nat) : fullP k f (32 * rowsN (k + 4)) = fullI k f := rfl
theorem fullP_succ (k f j : Nat) : fullP k f j ++ [elemI k f 1 ((orderI (k + 4) false)[j]?.getD 0), elemI k f 2 ((orderI (k + 4) true)[j]?.getD 0)] = fullP k f (j + 1) := by
  unfold fullP
  rw [List.range_succ, List.flatMap_append, List.append_assoc]
  simp
set_option maxRecDepth 100000 in
set_option maxHeartbeats 4000000 in
theorem full_any {k f : Nat} {w : World} (hK : Kinds w) (h1 : 40 ≤ k) (h2 : k ≤ 6144) :
    Calls Tryd.prog 22 #[.int .i64 (k : Int), .int .i64 (f : Int)] w (RetI w (fullI k f)) := by
  have hk0 : (0 : Int) ≤ (k : Int) := by omega
  have hk2 : (k : Int) ≤ 6144 := by omega
  have hmf := makeFunc_run
  go_enter Tryd.func22, Tryd.ntmps22
  go_wp2_with fail
  obtain ⟨B, hB⟩ : ∃ B, w.heap.size = B := ⟨_, rfl⟩
  have c3 : (((w.alloc (.cells #[.int .i64 (f : Int)] 3)).alloc (.cells #[.int .i64 ((k : Int) + 4)] 3)).alloc (.cells #[.func (.func 31) #[] #[.pointer (some ⟨w.heap.size, 0, none⟩)]] 40)).cell? ⟨w.heap.size, 0, none⟩ = some (.int .i64 (f : Int)) :=
    (World.cell?_alloc_lt _ _ _ (by simp; omega)).trans ((World.cell?_alloc_lt _ _ _ (by simp)).trans (Boxed.new w _ _).cell)
  have c5 : (((w.alloc (.cells #[.int .i64 (f : Int)] 3)).alloc (.cells #[.int .i64 ((k : Int) + 4)] 3)).alloc (.cells #[.func (.func 31) #[] #[.pointer (some ⟨w.heap.size, 0, none⟩)]] 40)).cell? ⟨w.heap.size + 1, 0, none⟩ = some (.int .i64 ((k : Int) + 4)) := by
    have := (Boxed.new (w.alloc (.cells #[.int .i64 (f : Int)] 3)) 3 (.int .i64 ((k : Int) + 4))).cell
    rw [World.size_alloc] at this
    exact (World.cell?_alloc_lt _ _ _ (by simp)).trans this
  have c6 : (((w.alloc (.cells #[.int .i64 (f : Int)] 3)).alloc (.cells #[.int .i64 ((k : Int) + 4)] 3)).alloc (.cells #[.func (.func 31) #[] #[.pointer (some ⟨w.heap.size, 0, none⟩)]] 40)).cell? ⟨w.heap.size + 1 + 1, 0, none⟩ = some (.func (.func 31) #[] #[.pointer (some ⟨w.heap.size, 0, none⟩)]) := by
    have := (Boxed.new ((w.alloc (.cells #[.int .i64 (f : Int)] 3)).alloc (.cells #[.int .i64 ((k : Int) + 4)] 3)) 40 (.func (.func 31) #[] #[.pointer (some ⟨w.heap.size, 0, none⟩)])).cell
    rw [World.size_alloc, World.size_alloc] at this
    exact this
  have hb0 : Below w.heap.size w (((w.alloc (.cells #[.int .i64 (f : Int)] 3)).alloc (.cells #[.int .i64 ((k : Int) + 4)] 3)).alloc (.cells #[.func (.func 31) #[] #[.pointer (some ⟨w.heap.size, 0, none⟩)]] 40)) :=
    (((Below.refl _ w).alloc (Nat.le_refl _) _).alloc (by simp) _).alloc (by simp; omega) _
  generalize (((w.alloc (.cells #[.int .i64 (f : Int)] 3)).alloc (.cells #[.int .i64 ((k : Int) + 4)] 3)).alloc (.cells #[.func (.func 31) #[] #[.pointer (some ⟨w.heap.size, 0, none⟩)]] 40)) = W0 at *
  have HB0 := Lib.hid hb0
  have l3 := World.block_lt_of_cell? W0 _ c3
  have l5 := World.block_lt_of_cell? W0 _ c5
  have l6 := World.block_lt_of_cell? W0 _ c6
  have hI := Lib.hid (fun (s : Nat) (u : World) (hs : s ≤ 2) (h : Below W0.heap.size W0 u) => inter_any (f := f) (s := s) (X3 := w.heap.size) (X5 := w.heap.size + 1) (X6 := w.heap.size + 1 + 1) (hK.step (hb0.trans (h.mono hb0.size))) h1 h2 hs ((h.cell l3).trans c3) ((h.cell l5).trans c5) ((h.cell l6).trans c6))
  have hS := orderI_length (k + 4)
  have hr := rows_k h1 h2
  obtain ⟨S, hSS⟩ : ∃ S, 32 * rowsN (k + 4) = S := ⟨_, rfl⟩
  rw [hSS] at hS
  have hfin := Lib.hid (fullP_all k f)
  rw [hSS] at hfin
  have hSl : Hid (S ≤ 6176 ∧ 1 ≤ S) := Lib.hid (by omega)
  have hS6 : (S : Int) ≤ 6176 := by omega
  have hlf : Hid ((fullI k f).length = S + 2 * S) := Lib.hid (by rw [fullI_length]; omega)
  have hsucc := Lib.hid (fullP_succ k f)
  have hz := Lib.hid (fullP_zero k f)
  have hl0 : ((orderI (k + 4) (sB 0)).map (elemI k f 0)).length = S := by rw [List.length_map, hS]
  have hl1 : ((orderI (k + 4) (sB 1)).map (elemI k f 1)).length = S := by rw [List.length_map, hS]
  have hl2 : ((orderI (k + 4) (sB 2)).map (elemI k f 2)).length = S := by rw [List.length_map, hS]
  have L0 := Lib.hid hl0
  have L1 := Lib.hid hl1
  have L2 := Lib.hid hl2
  have HS := Lib.hid hS
  generalize fullI k f = res at *
  clear hB c3 c5 c6 hb0 l3 l5 l6 hr hSS hS hl0 hl1 hl2 h1 h2
  refine (hI.out 0 W0 (by decide) (Below.refl _ _)).mono ?_
  rintro e w1 he
  obtain ⟨A0, c0, rfl, o0, b1⟩ := he.got L0.out
  obtain ⟨g0, cap, hv, e1, e2⟩ := o0.form hSl.out.2
  injection hv with hv1 hv2 hv3
  subst hv1
  clear hv2 hv3 he
  go_wp2_with fail
  refine (hI.out 2 w1 (by decide) b1).mono ?_
  rintro e w2 he
  obtain ⟨A2, c2, rfl, o2, b2⟩ := he.got L2.out
  obtain ⟨g2, cap2, hv, e3, e4⟩ := o2.form hSl.out.2
  injection hv with hv1 hv2 hv3
  subst hv1
  have b02 := b1.trans (b2.mono b1.size)
  have o02 := ownsRow_block o0 (fun g hg => by
    simp only [Value.ownBlock, Option.some.injEq] at hg
    subst hg
    exact b2.block _ e2)
  clear hv2 hv3 he o0 b1
  go_wp2_with fail
  refine (hI.out 1 w2 (by decide) b02).mono ?_
  rintro e W3 he
  obtain ⟨A1, c1, rfl, o1, b3⟩ := he.got L1.out
  obtain ⟨g1, cap1, hv, e5, e6⟩ := o1.form hSl.out.2
  injection hv with hv1 hv2 hv3
  subst hv1
  have b03 := b02.trans (b3.mono b02.size)
  have s1 := b2.size
  have s2 := b3.size
  have o03 := ownsRow_block o02 (fun g hg => by
    simp only [Value.ownBlock, Option.some.injEq] at hg
    subst hg
    exact b3.block _ (by omega))
  have o23 := ownsRow_block o2 (fun g hg => by
    simp only [Value.ownBlock, Option.some.injEq] at hg
    subst hg
    exact b3.block _ (by omega))
  have hbW := Lib.hid (HB0.out.trans (b03.mono HB0.out.size))
  have hown := Lib.hid (o03.mono HB0.out.size)
  have O1 := Lib.hid o1
  have O2 := Lib.hid o23
  have hap : Hid (∀ G, (G = g1 ∨ G = g2) → W3.heap[G]? = W3.heap[G]? ∧ (Value.slice (some ⟨g0, 0, none⟩) S c0).ownBlock ≠ some G ∧ G < W3.heap.size) := Lib.hid (by
    intro G hG
    refine ⟨rfl, ?_, by omega⟩
    simp only [Value.ownBlock, ne_eq, Option.some.injEq]
    omega)
  clear hv2 hv3 he o02 b02 b03 b2 b3 o03 o23 o1 o2 e1 e2 e3 e4 e5 e6 s1 s2 hI
  go_wp2_with fail
  go_loopw [8, 23] (fun o i wr => ∃ (j : Nat) (A : Option Addr) (c : Nat), j ≤ S ∧ i = .int .i64 (j : Int) ∧ o = .slice A (S + 2 * j) c ∧ Hid (wr.ownsRow w.heap.size 3 1 (.slice A (S + 2 * j) c) (S + 2 * j) ((fullP k f j).map (Value.int .i64))) ∧ Hid (Below w.heap.size w wr) ∧ Hid (∀ G, (G = g1 ∨ G = g2) → wr.heap[G]? = W3.heap[G]? ∧ (Value.slice A (S + 2 * j) c).ownBlock ≠ some G ∧ G < wr.heap.size)) (fun _ i _ => S - (intOf i).toNat)
  case atStart => exact ⟨0, some ⟨g0, 0, none⟩, c0, Nat.zero_le _, rfl, rfl, Lib.hid (by rw [hz.out]; exact hown.out), hbW, Lib.hid (fun G hG => ⟨rfl, (hap.out G hG).2⟩)⟩
  case round =>
    clear hown hbW hap
    obtain ⟨j, A, c, hj, rfl, rfl, hO, hb, hap⟩ := hrel
    by_cases hlt : j < S
    · have hz : (j : Int) < (S : Int) := by omega
      have hz0 : (0 : Int) ≤ (j : Int) := by omega
      have x1 : W3.cell? ⟨g1, j, none⟩ = (((orderI (k + 4) false).map (elemI k f 1)).map (Value.int .i64))[j]? := World.ownsRow.cellAt O1.out j (by omega)
      have x2 : W3.cell? ⟨g2, j, none⟩ = (((orderI (k + 4) true).map (elemI k f 2)).map (Value.int .i64))[j]? := World.ownsRow.cellAt O2.out j (by omega)
      have q1 : j < (orderI (k + 4) false).length := by rw [HS.out]; exact hlt
      have q2 : j < (orderI (k + 4) true).length := by rw [HS.out]; exact hlt
      have hsc := hsucc.out j
      rw [List.getElem?_map, List.getElem?_map, List.getElem?_eq_getElem q1, Option.map_some, Option.map_some] at x1
      rw [List.getElem?_map, List.getElem?_map, List.getElem?_eq_getElem q2, Option.map_some, Option.map_some] at x2
      rw [List.getElem?_eq_getElem q1, List.getElem?_eq_getElem q2, Option.getD_some, Option.getD_some] at hsc
      have y1 := (World.cell?_of_block (hap.out g1 (.inl rfl)).1).trans x1
      have y2 := (World.cell?_of_block (hap.out g2 (.inr rfl)).1).trans x2
      generalize elemI k f 1 (orderI (k + 4) false)[j] = u at *
      generalize elemI k f 2 (orderI (k + 4) true)[j] = v at *
      obtain ⟨A2, c2', w2, hrun, hO2, hb2, hk⟩ := ints_app2 hO.out hb.out (by have := hSl.out; omega) u v
      rw [hsc] at hO2
      have HRn := Lib.hid hrun
      have HO2 := Lib.hid hO2
      have HB2 := Lib.hid hb2
      have HAP : Hid (∀ G, (G = g1 ∨ G = g2) → w2.heap[G]? = W3.heap[G]? ∧ (Value.slice A2 (S + 2 * j + 2) c2').ownBlock ≠ some G ∧ G < w2.heap.size) := Lib.hid (fun G hG => by
        obtain ⟨p1, p2, p3⟩ := hap.out G hG
        obtain ⟨q1, q2, q3⟩ := hk G p3 p2
        exact ⟨q1.trans p1, q2, q3⟩)
      clear x1 x2 q1 q2 hsc hrun hO2 hb2 hk hO hb hap
      go_wp2_with (at_builtin; refine Lib.wpList_append_run _ rfl _ _ _ _ rfl _ _ rfl rfl _ _ HRn.out ?_)
      go_roundw
      case rel => exact ⟨j + 1, A2, c2', by omega, by go_num, rfl, HO2, HB2, HAP⟩
      case measure => simp [intOf]; omega
    · obtain rfl : S = j := by omega
      clear hlt
      go_wp2_with fail
      go_ret
      have hown := hO.out
      rw [hfin.out] at hown
      exact RetI.mk_ hlf.out hown (Nat.le_refl _) hb.out rfl
end Go.Proofs.YtnmkladmohjdnaaDoor
