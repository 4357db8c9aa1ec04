/-
  Interleave.
-/
import Derived.Test.YtmehfegfkjhdcaaDoorOd
import Derived.Test.YtmehfegfkjhdcaaDoorRp
import Derived.Test.YtmehfegfkjhdcaaDoorQt
namespace Go.Proofs.YtmehfegfkjhdcaaDoor
open Go.RowKit Go.Shelf BigFrame

attribute [local go_sem] Oper.semAt_some

theorem interS_ok {xs : List Int} {st : Int} (h1 : 1 ≤ xs.length) (h2 : xs.length ≤ 6148) (hs : okS st = true) (hv : validB xs = true) : interS xs st = (interI (shB st) xs, 0) := by
  unfold interS
  rw [if_pos (by rw [hs]; simp [okD]; omega), if_pos hv]
theorem interS_bad {xs : List Int} {st : Int} (h1 : 1 ≤ xs.length) (h2 : xs.length ≤ 6148) (hs : okS st = true) (hv : validB xs = false) : interS xs st = ([], 3) := by
  unfold interS
  rw [if_pos (by rw [hs]; simp [okD]; omega), if_neg (by rw [hv]; decide)]
theorem interS_no {xs : List Int} {st : Int} (h : (okD (xs.length : Int) && okS st) = false) : interS xs st = ([], 2) := by unfold interS; rw [h]; rfl
theorem putL_inter (s : Bool) (xs : List Int) : putL (fun i => i) (fun k => (fillI (32 * rowsN xs.length - xs.length) xs)[idxN (rowsN xs.length) s k]?.getD 0) (32 * rowsN xs.length) (32 * rowsN xs.length) = interI s xs := putL_id
/-- The cells of an own row, as its block holds them. -/
theorem own_block {w : World} {base n c : Nat} {A : Option Addr} {e : TypeId} {q : IntKind} {xs : List Int} (h : w.ownsRow base e 1 (.slice A n c) n (xs.map (Value.int q))) (hn : 0 < n) :
    ∃ g cur, A = some ⟨g, 0, none⟩ ∧ base ≤ g ∧ g < w.heap.size ∧ w.heap[g]? = some (.cells cur e) ∧ ∀ m, m < n → cur[m]? = some (.int q (xs[m]?.getD 0)) := by
  have hl := h.1
  rcases h.2 with ⟨h1, h2⟩ | ⟨g, cap, cur, h1, hb, hg, hnc, hcm, hcs, htake⟩
  · omega
  · injection h1 with e1 e2 e3
    refine ⟨g, cur, e1, hb, (Array.getElem?_eq_some_iff.1 hg).1, hg, fun m hm => ?_⟩
    rw [Nat.mul_one] at htake
    have h2 : (cur.toList.take n)[m]? = some (.int q (xs[m]?.getD 0)) := by
      rw [htake, List.getElem?_map]
      have : m < xs.length := by simpa using (by rw [List.length_map, Nat.mul_one] at hl; omega : m < xs.length)
      simp [this]
    rw [List.getElem?_take, if_pos hm] at h2
    rw [← Array.getElem?_toList]
    exact h2
theorem cell_block {w : World} {g m : Nat} {cur : Array Value} {e : TypeId} {v : Value} (h : w.heap[g]? = some (.cells cur e)) (hv : cur[m]? = some v) : w.cell? ⟨g, m, none⟩ = some v := by
  simp only [World.cell?, h]
  exact hv
set_option maxRecDepth 100000 in
set_option maxHeartbeats 8000000 in
theorem Interleave_in {n : Nat} (hn : 6 ≤ n) {A : Option Addr} {c d : Nat} {xs : List Int} {st : Int} {w : World} (hK : Kinds w) (hI : Rd .u8 w w.heap.size A d xs) (h1 : 1 ≤ d) (h2 : d ≤ 6148) (hs : okS st = true) (hv : validB xs = true) :
    CallsIn Fence.wide n Tryd.prog 19 #[.slice A d c, .int .i64 st] w (RetQ .u8 5 w (interI (shB st) xs, 0)) := by
  have hd := hI.len
  have hO := Lib.hid (callsIn_wide (n := n - 1) |>.2 (of_ok (w := w) h1 h2 hs))
  have hr := rows_le h1 h2
  have hR : 1 ≤ rowsN d ∧ rowsN d ≤ 193 := ⟨hr.1, hr.2.1⟩
  have hP := putL_inter (shB st) xs
  have hlen := interI_length (shB st) xs
  rw [hd] at hP hlen
  have hCF := Lib.hid (fun (u : World) (h : Below w.heap.size w u) => callsIn_wide (n := n - 1) |>.2 (containsBad_any (c := c) (hI.below h) (by omega)))
  rw [hv] at hCF
  have hlx : Hid (d ≤ 6148) := Lib.hid h2
  have hlx1 : Hid (1 ≤ d) := Lib.hid h1
  have hIh := Lib.hid hI
  generalize interI (shB st) xs = res at *
  generalize shB st = s at *
  generalize hRR : rowsN d = R at *
  obtain ⟨N, hN⟩ : ∃ N, 32 * R - d = N := ⟨_, rfl⟩
  rw [hN] at hO hP
  have HP := Lib.hid hP
  have HL := Lib.hid hlen
  have HXL := Lib.hid hd
  have hNle : N ≤ 31 := by omega
  obtain ⟨S, hS⟩ : ∃ S, 32 * R = S := ⟨_, rfl⟩
  have hSc : (32 : Int) * (R : Int) = (S : Int) := by omega
  rw [hS] at HP HL
  have hSle : S ≤ 6176 := by omega
  have hNd : Hid (N + d = S) := Lib.hid (by omega)
  have hsz := Lib.hid (fun (X : Nat) (u : World) => callsIn_wide (n := n - 1) |>.2 (size_any (R := (R : Int)) (N := (N : Int)) (F := shiftV s X) (w := u) (by omega)))
  have hix := Lib.hid (fun (X : Nat) (u : World) => callsIn_wide (n := n - 1) |>.2 (indices_any (R := (R : Int)) (N := (N : Int)) (F := shiftV s X) (w := u)))
  rw [hSc] at hsz
  unfold matV at hO
  have hmk : ∀ u : World, (Instr.makeSlice 33 (.int .i64 S) (.int .i64 S)).run Tryd.prog u = .ok (.slice (some ⟨u.heap.size, 0, none⟩) S S) (u.alloc (.cells (madeCells #[.int .u8 0] S) 5)) := make_bytes S S (Nat.le_refl _) (by omega)
  have hRp := Lib.hid (fun (b : Nat) (u : World) (hc : u.cell? ⟨b, 0, none⟩ = some (.int .u8 2)) (hb : b < u.heap.size) => show CallsIn Fence.wide (n - 1) Tryd.prog 30 #[.slice (some ⟨b, 0, none⟩) 1 1, .int .i64 (N : Int)] u fun e w' => (∃ g, e = .returned (.slice (some ⟨g, 0, none⟩) N N) ∧ Rd .u8 w' w'.heap.size (some ⟨g, 0, none⟩) N (List.replicate N 2)) ∧ Below u.heap.size u w' by
    refine callsIn_wide.2 ?_
    rcases Nat.eq_zero_or_pos N with h0 | h0
    · rw [h0]; exact repeat_zero
    · exact repeat_any h0 (by omega) hc hb)
  clear hP hlen hr hs hRR h1 h2 hI hv hd
  refine callsIn_of_wp_marks Tryd.func19 rfl trivial ?_ rfl
  simp only [Tryd.ntmps19, List.size_toArray, List.length_cons, List.length_nil, Nat.reduceAdd, Nat.reduceSub, Array.replicate_succ, Array.replicate_zero, List.push_toArray, List.append_toArray, List.nil_append, List.cons_append]
  gi_wp2
  refine ⟨trivial, fun _ => by omega, ?_⟩
  refine hO.out.mono ?_
  rintro e w1 ⟨⟨X, hXw, rfl, hX⟩, hb1⟩
  obtain ⟨G, lb, hV⟩ := shiftV_ex s X
  have hsz1 := Lib.hid (hsz.out X)
  have hix1 := Lib.hid (hix.out X)
  rw [hV] at hsz1 hix1 ⊢
  have HV := Lib.hid hV
  clear hV hsz hix hO
  have hT1 := Three.new w1 43 (.int .i64 (R : Int)) (.int .i64 (N : Int)) (.func (.func G) #[] lb)
  have hb2 := hb1.alloc hb1.size (.cells #[.int .i64 (R : Int), .int .i64 (N : Int), .func (.func G) #[] lb] 43)
  have hs2 : (w1.alloc (.cells #[.int .i64 (R : Int), .int .i64 (N : Int), .func (.func G) #[] lb] 43)).heap.size = w1.heap.size + 1 := by simp
  have c0 := hT1.cell0
  have c1 := hT1.cell1
  have c2 := hT1.cell2
  have hle1 := hb1.size
  have hX2 := hX.block (Below.heap_alloc _ (.cells #[.int .i64 (R : Int), .int .i64 (N : Int), .func (.func G) #[] lb] 43) _ hX.lt)
  have hCF2 := Lib.hid (hCF.out _ hb2)
  clear hX hb1 hCF
  gi_wp2
  refine ⟨trivial, fun _ => by omega, ?_⟩
  refine hCF2.out.mono ?_
  rintro e W2 ⟨rfl, rfl⟩
  gi_wp2
  generalize w1.alloc (.cells #[.int .i64 (R : Int), .int .i64 (N : Int), .func (.func G) #[] lb] 43) = W2 at *
  obtain ⟨M, hM⟩ : ∃ M, w1.heap.size = M := ⟨_, rfl⟩
  rw [hM] at hT1 hs2 hle1 ⊢
  have hb3 := hb2.alloc hb2.size (.cells #[.int .u8 2] 5)
  have hT3 := hT1.alloc (.cells #[.int .u8 2] 5)
  have hX3 := hX2.block (Below.heap_alloc _ (.cells #[.int .u8 2] 5) _ hX2.lt)
  have hs3 : (W2.alloc (.cells #[.int .u8 2] 5)).heap.size = M + 2 := by simp [hs2]
  have hlit : (W2.alloc (.cells #[.int .u8 2] 5)).cell? ⟨M + 1, 0, none⟩ = some (.int .u8 2) := by
    have := World.alloc_heap_new W2 (.cells #[.int .u8 2] 5)
    rw [hs2] at this
    exact cell_block this rfl
  have hRp1 := Lib.hid (hRp.out (M + 1) _ hlit (by rw [hs3]; omega))
  have hI3 := Lib.hid (hIh.out.below hb3)
  have hXM : X < M + 1 := by have := hX2.lt; omega
  clear hT1 hX2 hb2 hM hlit hRp hCF2 hIh c0 c1 c2
  refine ⟨trivial, fun _ => by omega, ?_⟩
  refine hRp1.out.mono ?_
  rintro e w4 ⟨⟨g1, rfl, hD4⟩, hb4⟩
  rw [hs3] at hb4
  have hT4 := hT3.below hb4 (by omega)
  have hX4 : RowsAt w4 X R := hX3.block (hb4.block X (by omega))
  have hs4 := hb4.size
  rw [hs3] at hs4
  have hbw4 := hb3.trans (hb4.mono (by omega))
  obtain ⟨A2, c2, w5, hrun, hF5, hb5⟩ := fill_run (c := c) hD4 ((hI3.out.below' hb4 (by omega)).more hbw4.size) hlx1.out (by omega) (by have := hlx.out; omega)
  rw [hNd.out] at hrun hF5
  have HRun := Lib.hid hrun
  obtain ⟨g2, cur, rfl, hg2, hg2l, hcur5, hcur⟩ := own_block hF5 (by omega)
  have hT5 := hT4.below hb5 (by omega)
  have hX5 : RowsAt w5 X R := hX4.block (hb5.block X (by omega))
  have hb5w := hbw4.trans (hb5.mono hbw4.size)
  have hs5 := hb5.size
  clear hrun hF5 hb4 hT3 hX3 hb3 hD4 hT4 hX4 hbw4 hb5 hI3 hRp1
  have c0 := hT5.cell0
  have c1 := hT5.cell1
  have c2' := hT5.cell2
  have hMl := hT5.lt
  have hXl5 := hX5.lt
  have b5 := Boxed.new w5 33 (.slice (some ⟨g2, 0, none⟩) S c2)
  have hb6 := hb5w.alloc hb5w.size (.cells #[.slice (some ⟨g2, 0, none⟩) S c2] 33)
  have hT6 := hT5.alloc (.cells #[.slice (some ⟨g2, 0, none⟩) S c2] 33)
  have hX6 : RowsAt _ X R := hX5.block (Below.heap_alloc _ (.cells #[.slice (some ⟨g2, 0, none⟩) S c2] 33) _ hX5.lt)
  have hc6 : (w5.alloc (.cells #[.slice (some ⟨g2, 0, none⟩) S c2] 33)).heap[g2]? = some (.cells cur 5) := (Below.heap_alloc _ _ _ hg2l).trans hcur5
  have hs6 : (w5.alloc (.cells #[.slice (some ⟨g2, 0, none⟩) S c2] 33)).heap.size = w5.heap.size + 1 := by simp
  gi_wp2_with (gi_at_builtin; refine wpListIn_append_run rfl _ _ _ rfl _ _ _ rfl rfl HRun.out ?_)
  generalize w5.alloc (.cells #[.slice (some ⟨g2, 0, none⟩) S c2] 33) = W6 at *
  obtain ⟨Bf, hBf⟩ : ∃ Bf, w5.heap.size = Bf := ⟨_, rfl⟩
  rw [hBf] at hs6 b5 hMl hXl5 hg2l hs5 ⊢
  clear HRun hcur5 c0 c1 c2' hT5 hX5 hb5w hBf
  refine ⟨trivial, fun _ => by omega, ?_⟩
  refine (hsz1.out _).mono ?_
  rintro e w7 ⟨rfl, hg7⟩
  have hT7 := hT6.grown hg7 (fun e => by cases e)
  have hX7 : RowsAt w7 X R := hX6.block (hg7.block X hX6.lt (fun e => by cases e))
  have hb7 := hb6.grown hg7 hb6.size (fun r e => by cases e)
  have hc7 : w7.heap[g2]? = some (.cells cur 5) := (hg7.block g2 (by omega) (fun e => by cases e)).trans hc6
  have b7 : Boxed w7 Bf 33 (.slice (some ⟨g2, 0, none⟩) S c2) := (hg7.block Bf (by omega) (fun e => by cases e)).trans b5
  have hs7 := hg7.size
  rw [hs6] at hs7
  clear hT6 hX6 hb6 hc6 b5 hg7 hsz1
  have hb8 := hb7.alloc hb7.size (.cells (madeCells #[.int .u8 0] S) 5)
  have hT8 := hT7.alloc (.cells (madeCells #[.int .u8 0] S) 5)
  have hX8 := hX7.block (Below.heap_alloc _ (.cells (madeCells #[.int .u8 0] S) 5) _ hX7.lt)
  have hc8 := (Below.heap_alloc w7 (.cells (madeCells #[.int .u8 0] S) 5) g2 (by omega)).trans hc7
  have b8 := (Below.heap_alloc w7 (.cells (madeCells #[.int .u8 0] S) 5) Bf (by omega)).trans b7
  have hZ8 := own_zeros_q (q := .u8) (T := 5) (w := w7) (B := w.heap.size) (n := S) hb7.size (by omega)
  have hs8 : (w7.alloc (.cells (madeCells #[.int .u8 0] S) 5)).heap.size = w7.heap.size + 1 := by simp
  have hle7 := hb7.size
  clear hb7 hX7 hc7 b7
  have hT9 := hT8.alloc (.cells #[.slice (some ⟨w7.heap.size, 0, none⟩) S S] 33)
  have hZ9 := hZ8.alloc (.cells #[.slice (some ⟨w7.heap.size, 0, none⟩) S S] 33)
  have hX9 := hX8.block (Below.heap_alloc _ (.cells #[.slice (some ⟨w7.heap.size, 0, none⟩) S S] 33) _ (by rw [hs8]; omega))
  have hc9 := (Below.heap_alloc _ (.cells #[.slice (some ⟨w7.heap.size, 0, none⟩) S S] 33) g2 (by rw [hs8]; omega)).trans hc8
  have b9 := (Below.heap_alloc _ (.cells #[.slice (some ⟨w7.heap.size, 0, none⟩) S S] 33) Bf (by rw [hs8]; omega)).trans b8
  have hb9 := hb8.alloc hb8.size (.cells #[.slice (some ⟨w7.heap.size, 0, none⟩) S S] 33)
  have bL := Boxed.new (w7.alloc (.cells (madeCells #[.int .u8 0] S) 5)) 33 (.slice (some ⟨w7.heap.size, 0, none⟩) S S)
  have hs9 : ((w7.alloc (.cells (madeCells #[.int .u8 0] S) 5)).alloc (.cells #[.slice (some ⟨w7.heap.size, 0, none⟩) S S] 33)).heap.size = w7.heap.size + 2 := by simp
  rw [hs8] at bL
  have c0 := hT7.cell0
  have c1 := hT7.cell1
  have c2' := hT7.cell2
  have hMl7 := hT7.lt
  clear hb8 hT8 hX8 hZ8 hT7 hc8 b8
  gi_wp2
  generalize hW9 : (w7.alloc (.cells (madeCells #[.int .u8 0] S) 5)).alloc (.cells #[.slice (some ⟨w7.heap.size, 0, none⟩) S S] 33) = W9 at *
  obtain ⟨D, hD⟩ : ∃ D, w7.heap.size = D := ⟨_, rfl⟩
  rw [hD] at hs9 hZ9 bL hs7 hle7 hMl7 ⊢
  refine ⟨trivial, fun _ => by omega, ?_⟩
  refine (hix1.out _).mono ?_
  rintro e w10 ⟨rfl, rfl⟩
  rw [hs9]
  have hT11 := Three.new W9 43 (.int .i64 (R : Int)) (.int .i64 (N : Int)) (.func (.func G) #[] lb)
  rw [hs9] at hT11
  have hT10 := hT9.alloc (.cells #[.int .i64 (R : Int), .int .i64 (N : Int), .func (.func G) #[] lb] 43)
  have hZ10 := hZ9.alloc (.cells #[.int .i64 (R : Int), .int .i64 (N : Int), .func (.func G) #[] lb] 43)
  have hX10 := hX9.block (Below.heap_alloc _ (.cells #[.int .i64 (R : Int), .int .i64 (N : Int), .func (.func G) #[] lb] 43) _ (by rw [hs9]; omega))
  have hc10 := (Below.heap_alloc W9 (.cells #[.int .i64 (R : Int), .int .i64 (N : Int), .func (.func G) #[] lb] 43) g2 (by rw [hs9]; omega)).trans hc9
  have b10 := (Below.heap_alloc W9 (.cells #[.int .i64 (R : Int), .int .i64 (N : Int), .func (.func G) #[] lb] 43) Bf (by rw [hs9]; omega)).trans b9
  have bL10 := bL.alloc (.cells #[.int .i64 (R : Int), .int .i64 (N : Int), .func (.func G) #[] lb] 43)
  have hb10 := hb9.alloc hb9.size (.cells #[.int .i64 (R : Int), .int .i64 (N : Int), .func (.func G) #[] lb] 43)
  have hs10 : (W9.alloc (.cells #[.int .i64 (R : Int), .int .i64 (N : Int), .func (.func G) #[] lb] 43)).heap.size = D + 3 := by simp [hs9]
  generalize W9.alloc (.cells #[.int .i64 (R : Int), .int .i64 (N : Int), .func (.func G) #[] lb] 43) = W10 at *
  obtain ⟨f, hf⟩ : ∃ f : Nat → Int, f = fun k => (fillI N xs)[idxN R s k]?.getD 0 := ⟨_, rfl⟩
  have hfP : Hid (putL (fun i => i) f S S = res) := Lib.hid (by rw [hf]; exact HP.out)
  have hfv : Hid (∀ k, f k = (fillI N xs)[idxN R s k]?.getD 0) := Lib.hid (fun k => by rw [hf])
  obtain ⟨Fx, hFx⟩ : ∃ Fx : List (Nat × Array Value × TypeId), Fx = [(M, #[.int .i64 (R : Int), .int .i64 (N : Int), .func (.func G) #[] lb], 43), (D + 2, #[.int .i64 (R : Int), .int .i64 (N : Int), .func (.func G) #[] lb], 43), (D + 1, #[.slice (some ⟨D, 0, none⟩) S S], 33), (X, #[.int .i64 (R : Int)], 3), (Bf, #[.slice (some ⟨g2, 0, none⟩) S c2], 33), (g2, cur, 5)] := ⟨_, rfl⟩
  have hI0 : PutI w D .u8 5 S (fun i => i) f Fx 0 W10 := by
    refine ⟨Nat.zero_le _, fun p hp => ?_, hZ10, hb10⟩
    rw [hFx] at hp
    simp only [List.mem_cons, List.not_mem_nil, or_false] at hp
    rcases hp with rfl | rfl | rfl | rfl | rfl | rfl
    · exact hT10
    · exact hT11
    · exact bL10
    · exact hX10
    · exact b10
    · exact hc10
  have m1 : (M, #[.int .i64 (R : Int), .int .i64 (N : Int), .func (.func G) #[] lb], 43) ∈ Fx := by rw [hFx]; simp
  have m2 : (D + 2, #[.int .i64 (R : Int), .int .i64 (N : Int), .func (.func G) #[] lb], 43) ∈ Fx := by rw [hFx]; simp
  have m3 : (D + 1, #[.slice (some ⟨D, 0, none⟩) S S], 33) ∈ Fx := by rw [hFx]; simp
  have m4 : (X, #[.int .i64 (R : Int)], 3) ∈ Fx := by rw [hFx]; simp
  have m5 : (Bf, #[.slice (some ⟨g2, 0, none⟩) S c2], 33) ∈ Fx := by rw [hFx]; simp
  have m6 : (g2, cur, 5) ∈ Fx := by rw [hFx]; simp
  have hne : ∀ p ∈ Fx, p.1 ≠ D := by
    rw [hFx]
    intro p hp
    simp only [List.mem_cons, List.not_mem_nil, or_false] at hp
    rcases hp with rfl | rfl | rfl | rfl | rfl | rfl <;> simp <;> omega
  have hKl : ∀ j W, PutI w D .u8 5 S (fun i => i) f Fx j W → MatAt W (D + 2) R N s X := fun j W h =>
    ⟨by rw [HV.out]; exact h.three m2, hK.step h.low, h.boxed m4⟩
  have hKL := Lib.hid hKl
  have HNE := Lib.hid hne
  have HCUR := Lib.hid hcur
  clear hT9 hZ9 hX9 bL hb9 hT10 hT11 hZ10 hX10 bL10 hb10 hs9 hW9 c0 c1 c2' hix1 hFx hKl hne hs2 hc9 b9 hc10 b10 HP hf hcur
  gi_wp2
  refine wpIn_indices (n := n) (B := D + 2) (R := R) (N := N) (X := X) (s := s) (by omega) hR rfl rfl
    (PutI w D .u8 5 S (fun i => i) f Fx) (fun _ _ => False)
    (PutI.own (by omega)) (fun _ _ _ _ _ h => h.elim) hKL.out hI0 ?a1 ?assign ?body ?done ?stop
  case assign =>
    intro lp j W K hK
    gi_wp2
    exact hK
  case body =>
    intro lp j W hj hI hbig
    rw [hS] at hj
    have hixl : idxN R s j < S := by rw [← hS]; exact idx_lt (by omega)
    have cF := (hI.boxed m5).cell
    have cL := (hI.boxed m3).cell
    have cX := cell_block (hI.fix _ m6) (HCUR.out _ hixl)
    rw [← hfv.out j] at cX
    obtain ⟨v0, cD⟩ := putL_cell hI.row hj
    have fD := hI.row.frozenAt j
    have HST := Lib.hid (fun m => (hI.drewN m).step hj HNE.out (by omega))
    have hj0 : (0 : Int) ≤ (j : Int) := by omega
    have hj1 : (j : Int) < (S : Int) := by omega
    have hi1 : (idxN R s j : Int) < (S : Int) := by omega
    clear hI hI0
    generalize f j = v at *
    generalize idxN R s j = m at *
    gi_wp2
    refine wpIn_region_quiet_tail_r 7 ?hd (by kernel_rfl) (by kernel_rfl) ?_
    case hd =>
      intro o ho
      simp only [List.mem_cons, List.not_mem_nil, or_false] at ho
      rcases ho with rfl | rfl | rfl | rfl | rfl | rfl | rfl | rfl <;> (intro c h; cases h)
    simp only [List.take_succ_cons, List.take_zero, List.drop_succ_cons, List.drop_zero]
    repeat (gi_big_quiet_step (fail))
    refine wpQuietIn_nil ?_
    rintro w' ⟨nq, rfl⟩
    have cD' : (W.drewN nq).cell? ⟨D, j, none⟩ = some (.int .u8 v0) := cD
    have fD' : (W.drewN nq).frozen? ⟨D, j, none⟩ = false := fD
    have hKF := (KeepsOthers.setCell (W.drewN nq) ⟨D, j, none⟩ (.int .u8 v)).from W10.heap.size
    clear cD fD cL cF cX
    gi_wp2
    exact ⟨⟨hKF.size, hKF.same⟩, HST.out nq⟩
  case stop => intro D c W _ h; exact h.elim
  case done =>
    intro D' W hD' hI hKD
    rw [hS] at hI
    have cL := (hI.boxed m3).cell
    gi_wp2
    refine leaves_marks (B := D + 3) [D'] W ⟨by simp, fun E hE => by obtain rfl := List.mem_singleton.1 hE; exact hKD⟩ (fun E hE => by obtain rfl := List.mem_singleton.1 hE; omega) (fun w2 h2 => ⟨_, results_tmp2 rfl _ _ _, ?_⟩)
    have hrow := hI.row
    rw [hfP.out] at hrow
    exact RetQ.mk_ HL.out (ownsRow_block hrow (fun b hb => by
      simp only [Value.ownBlock, Option.some.injEq] at hb
      subst hb
      exact h2.block _ (by omega))) (Nat.le_refl _) (hI.low.trans (h2.mono (by omega))) rfl
set_option maxRecDepth 100000 in
set_option maxHeartbeats 1000000 in
theorem Interleave_any {A : Option Addr} {c d : Nat} {xs : List Int} {st : Int} {w : World} (hK : Kinds w) (hI : Rd .u8 w w.heap.size A d xs) (hd : d ≤ 1000000) : Calls Tryd.prog 19 #[.slice A d c, .int .i64 st] w (RetQ .u8 5 w (interS xs st)) := by
  by_cases h : (okD (d : Int) && okS st) = true
  · have h' := h
    rw [Bool.and_eq_true] at h
    obtain ⟨k, hk, h1, h2⟩ := okD_nat h.1
    obtain rfl : d = k := by omega
    have h1' : 1 ≤ xs.length := by rw [hI.len]; exact h1
    have h2' : xs.length ≤ 6148 := by rw [hI.len]; exact h2
    cases hv : validB xs
    · rw [interS_bad h1' h2' h.2 hv]
      have hO := Lib.hid (of_ok (w := w) h1 h2 h.2)
      have hCF := Lib.hid (fun (u : World) (h : Below w.heap.size w u) => containsBad_any (c := c) (hI.below h) hd)
      rw [hv] at hCF
      unfold matV at hO
      clear h h' hk h1 h2 h1' h2' hv hI
      go_enter Tryd.func19, Tryd.ntmps19
      go_wp2_with fail
      refine hO.out.mono ?_
      rintro e w1 ⟨⟨X, hXw, rfl, hX⟩, hb1⟩
      obtain ⟨G, lb, hV⟩ := shiftV_ex (shB st) X
      rw [hV]
      generalize 32 * rowsN d - d = N at *
      generalize rowsN d = R at *
      have hb2 := hb1.alloc hb1.size (.cells #[.int .i64 (R : Int), .int .i64 (N : Int), .func (.func G) #[] lb] 43)
      have hCF2 := Lib.hid (hCF.out _ hb2)
      clear hb1 hO hX hV hCF
      go_wp2_with (go_at_call 28; refine hCF2.out.mono ?_; rintro e w2 ⟨rfl, rfl⟩)
      go_ret2
      exact RetQ.nil_ hb2
    · rw [interS_ok h1' h2' h.2 hv]
      exact callsIn_wide.1 (Interleave_in (n := 6) (by decide) hK hI h1 h2 h.2 hv)
  · have h := Bool.eq_false_iff.2 h
    rw [interS_no (by rw [hI.len]; exact h)]
    have hO := Lib.hid (of_no (w := w) h)
    clear h hI
    go_enter Tryd.func19, Tryd.ntmps19
    go_wp2_with (go_at_call 24; refine hO.out.mono ?_; rintro e w1 ⟨rfl, hb1⟩)
    have hb2 := hb1.alloc hb1.size (.cells #[.int .i64 0, .int .i64 0, .nilFunc] 43)
    clear hb1 hO
    go_wp2_with fail
    go_ret2
    exact RetQ.nil_ hb2
end Go.Proofs.YtmehfegfkjhdcaaDoor
