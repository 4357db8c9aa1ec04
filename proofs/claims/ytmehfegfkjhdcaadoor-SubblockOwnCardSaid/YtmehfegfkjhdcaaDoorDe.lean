/-
  Deinterleave.
-/
import Derived.Test.YtmehfegfkjhdcaaDoorIn
import Derived.Deep.RegionHeld3
namespace Go.Proofs.YtmehfegfkjhdcaaDoor
open Go.RowKit Go.Shelf BigFrame

attribute [local go_sem] Oper.semAt_some

/-- Whether a matrix with N dummies is no filled stream. -/
def badI (N : Nat) (F : List Int) : Bool := (F.take N).any (fun x => x != 2) || !(validB (F.drop N))
/-- What Deinterleave hands back. -/
def deS (l : List Int) (d st : Int) : List Int × Int :=
  if (okD d && okS st) = true then
    if l.length = 32 * rowsN d.toNat then
      if badI (32 * rowsN d.toNat - d.toNat) (backI (rowsN d.toNat) (shB st) l) = true then ([], 9) else ((backI (rowsN d.toNat) (shB st) l).drop (32 * rowsN d.toNat - d.toNat), 0)
    else ([], 2)
  else ([], 2)
theorem deS_no {l : List Int} {d st : Int} (h : (okD d && okS st) = false) : deS l d st = ([], 2) := by unfold deS; rw [h]; rfl
theorem deS_len {l : List Int} {d : Nat} {st : Int} (h1 : 1 ≤ d) (h2 : d ≤ 6148) (hs : okS st = true) (hl : l.length ≠ 32 * rowsN d) : deS l (d : Int) st = ([], 2) := by
  unfold deS
  rw [if_pos (by rw [hs]; simp [okD]; omega), Int.toNat_natCast, if_neg hl]
theorem deS_ok {l : List Int} {d : Nat} {st : Int} (h1 : 1 ≤ d) (h2 : d ≤ 6148) (hs : okS st = true) (hl : l.length = 32 * rowsN d) :
    deS l (d : Int) st = if badI (32 * rowsN d - d) (backI (rowsN d) (shB st) l) = true then ([], 9) else ((backI (rowsN d) (shB st) l).drop (32 * rowsN d - d), 0) := by
  unfold deS
  rw [if_pos (by rw [hs]; simp [okD]; omega), Int.toNat_natCast, if_pos hl]
/-- A slice of bytes that lies in a new block, from wherever on, and a number. -/
def RetD (w : World) (r : List Int × Int) (e : Ending) (w' : World) : Prop :=
  ∃ A c, e = .returned (.tuple #[.slice A r.1.length c, .int .i64 r.2]) ∧ Rd .u8 w' w'.heap.size A r.1.length r.1 ∧
    (0 < r.1.length → ∃ g off cur, A = some ⟨g, off, none⟩ ∧ w.heap.size ≤ g ∧ w'.heap[g]? = some (.cells cur 5) ∧ off + r.1.length ≤ cur.size) ∧ Below w.heap.size w w'
theorem grown_drew {w w' : World} {row : Option Nat} (h : w.drew.grownBy w' row) : w.grownBy w' row := ⟨h.os, h.tape, h.output, h.size, h.block⟩
theorem RetD.nil_ {w w' : World} {k : Int} (hb : Below w.heap.size w w') : RetD w ([], k) (.returned (.tuple #[.slice none 0 0, .int .i64 k])) w' :=
  ⟨none, 0, rfl, Rd.nil _ _ _ _, fun h => absurd h (Nat.lt_irrefl 0), hb⟩
theorem Rd.fore {q : IntKind} {w : World} {B n m : Nat} {A : Option Addr} {xs : List Int} (h : Rd q w B A n xs) (hm : m ≤ n) : Rd q w B A m (xs.take m) := by
  refine ⟨by rw [List.length_take, h.len]; omega, fun k hk => ?_⟩
  obtain ⟨b, off, e, hb, hc⟩ := h.cells k (by omega)
  exact ⟨b, off, e, hb, by rw [hc, List.getElem?_take, if_pos hk]⟩
theorem Rd.back {q : IntKind} {w : World} {B b n m : Nat} {xs : List Int} (h : Rd q w B (some ⟨b, 0, none⟩) n xs) (hm : m ≤ n) : Rd q w B (some ⟨b, m, none⟩) (n - m) (xs.drop m) := by
  refine ⟨by rw [List.length_drop, h.len], fun k hk => ?_⟩
  obtain ⟨b', off, e, hb, hc⟩ := h.cells (m + k) (by omega)
  injection e with e
  injection e with e1 e2
  subst e1 e2
  rw [Nat.zero_add] at hc
  exact ⟨b, m, rfl, hb, by rw [hc, List.getElem?_drop]⟩
theorem slice_upto {g n m : Nat} (h : m ≤ n) (u : World) : (Instr.slice 33 (.slice (some ⟨g, 0, none⟩) n n) none (some (.int .i64 (m : Int))) none).run Tryd.prog u = .ok (.slice (some ⟨g, 0, none⟩) m n) u := by
  have h0 : (0 : Int) ≤ (m : Int) := by omega
  simp [Instr.slice, Instr.sliceBounds, Instr.sliceBound, run_underlying Tryd.underlying33, asIntOf, go_sem, h0, h]
theorem RetD.full {w w' : World} {D N d c : Nat} {r : List Int} {cur : Array Value} (hb : Below w.heap.size w w') (hR : Rd .u8 w' w'.heap.size (some ⟨D, N, none⟩) d r) (hD : w.heap.size ≤ D) (hc : w'.heap[D]? = some (.cells cur 5)) (hs : N + d ≤ cur.size) :
    RetD w (r, 0) (.returned (.tuple #[.slice (some ⟨D, N, none⟩) d c, .int .i64 0])) w' := by
  have hl := hR.len
  subst hl
  exact ⟨_, _, rfl, hR, fun _ => ⟨D, N, cur, rfl, hD, hc, hs⟩, hb⟩
set_option maxRecDepth 100000 in
set_option maxHeartbeats 8000000 in
theorem Deinterleave_in {n : Nat} (hn : 6 ≤ n) {A : Option Addr} {c d L : Nat} {l : List Int} {st : Int} {w : World} (hK : Kinds w) (hI : Rd .u8 w w.heap.size A L l) (hL : L ≤ 1000000) (h1 : 1 ≤ d) (h2 : d ≤ 6148) (hs : okS st = true) :
    CallsIn Fence.wide n Tryd.prog 21 #[.slice A L c, .int .i64 (d : Int), .int .i64 st] w (RetD w (deS l (d : Int) st)) := by
  have hll := hI.len
  have hok := fun (e : L = 32 * rowsN d) => deS_ok (l := l) h1 h2 hs (hll.trans e)
  have hno := fun (e : L ≠ 32 * rowsN d) => deS_len (l := l) h1 h2 hs (fun e' => e (hll.symm.trans e'))
  have bI := Boxed.new w 33 (.slice A L c)
  have hb0 := (Below.refl w.heap.size w).alloc (Nat.le_refl _) (.cells #[.slice A L c] 33)
  have hs0 : (w.alloc (.cells #[.slice A L c] 33)).heap.size = w.heap.size + 1 := by simp
  have hO := Lib.hid (callsIn_wide (n := n - 1) |>.2 (of_ok (w := w.alloc (.cells #[.slice A L c] 33)) h1 h2 hs))
  have hr := rows_le h1 h2
  have hR : 1 ≤ rowsN d ∧ rowsN d ≤ 193 := ⟨hr.1, hr.2.1⟩
  have hIh := Lib.hid hI
  obtain ⟨res, hres⟩ : ∃ res, deS l (d : Int) st = res := ⟨_, rfl⟩
  rw [hres] at hok hno ⊢
  have hd1 : Hid (1 ≤ d) := Lib.hid h1
  clear hres
  generalize shB st = s at *
  generalize hRR : rowsN d = R at *
  obtain ⟨N, hN⟩ : ∃ N, 32 * R - d = N := ⟨_, rfl⟩
  rw [hN] at hO hok
  have hNle : N ≤ 31 := by omega
  obtain ⟨S, hS⟩ : ∃ S, 32 * R = S := ⟨_, rfl⟩
  have hSc : (32 : Int) * (R : Int) = (S : Int) := by omega
  rw [hS] at hok hno
  have hSle : S ≤ 6176 := by omega
  have hNd : Hid (N + d = S) := Lib.hid (by omega)
  have hOK := Lib.hid hok
  have hNO := Lib.hid hno
  have hsz := Lib.hid (fun (X : Nat) (u : World) => size_any (R := (R : Int)) (N := (N : Int)) (F := shiftV s X) (w := u) (by omega))
  have hix := Lib.hid (fun (X : Nat) (u : World) => callsIn_wide (n := n - 1) |>.2 (indices_any (R := (R : Int)) (N := (N : Int)) (F := shiftV s X) (w := u)))
  rw [hSc] at hsz
  unfold matV at hO
  have hmk : ∀ u : World, (Instr.makeSlice 33 (.int .i64 S) (.int .i64 S)).run Tryd.prog u = .ok (.slice (some ⟨u.heap.size, 0, none⟩) S S) (u.alloc (.cells (madeCells #[.int .u8 0] S) 5)) := make_bytes S S (Nat.le_refl _) (by omega)
  clear hr hs hRR h1 h2 hI hok hno hll
  refine callsIn_of_wp_marks Tryd.func21 rfl trivial ?_ rfl
  simp only [Tryd.ntmps21, List.size_toArray, List.length_cons, List.length_nil, Nat.reduceAdd, Nat.reduceSub, Array.replicate_succ, Array.replicate_zero, List.push_toArray, List.append_toArray, List.nil_append, List.cons_append]
  gi_wp2
  generalize w.alloc (.cells #[.slice A L c] 33) = W0 at *
  obtain ⟨Bl, hBl⟩ : ∃ Bl, w.heap.size = Bl := ⟨_, rfl⟩
  rw [hBl] at hs0 bI ⊢
  have HBL := Lib.hid hBl
  refine ⟨trivial, fun _ => by omega, ?_⟩
  refine hO.out.mono ?_
  rintro e w1 ⟨⟨X, hXw, rfl, hX⟩, hb1⟩
  obtain ⟨G, lb, hV⟩ := shiftV_ex s X
  have hsz1 := Lib.hid (hsz.out X)
  have hix1 := Lib.hid (hix.out X)
  rw [hV] at hsz1 hix1 ⊢
  have HV := Lib.hid hV
  rw [hs0] at hXw hb1
  have bI1 := Boxed.below bI hb1 (by omega)
  have hbw1 := hb0.trans (hb1.mono (by omega))
  have hle1 := hb1.size
  rw [hs0] at hle1
  clear hV hsz hix hO bI hb0 hb1
  have hT1 := Three.new w1 43 (.int .i64 (R : Int)) (.int .i64 (N : Int)) (.func (.func G) #[] lb)
  have hb2 := hbw1.alloc hbw1.size (.cells #[.int .i64 (R : Int), .int .i64 (N : Int), .func (.func G) #[] lb] 43)
  have bI2 := bI1.alloc (.cells #[.int .i64 (R : Int), .int .i64 (N : Int), .func (.func G) #[] lb] 43)
  have hs2 : (w1.alloc (.cells #[.int .i64 (R : Int), .int .i64 (N : Int), .func (.func G) #[] lb] 43)).heap.size = w1.heap.size + 1 := by simp
  have hX2 := hX.block (Below.heap_alloc _ (.cells #[.int .i64 (R : Int), .int .i64 (N : Int), .func (.func G) #[] lb] 43) _ hX.lt)
  have hXl := hX.lt
  clear hX bI1 hbw1
  gi_wp2
  generalize w1.alloc (.cells #[.int .i64 (R : Int), .int .i64 (N : Int), .func (.func G) #[] lb] 43) = W2 at *
  obtain ⟨M, hM⟩ : ∃ M, w1.heap.size = M := ⟨_, rfl⟩
  rw [hM] at hT1 hs2 hle1 hXl ⊢
  have c0 := hT1.cell0
  have c1 := hT1.cell1
  have c2 := hT1.cell2
  have cB := bI2.cell
  refine wpIn_wide.2 ?_
  go_region_held3 (fun w' => w'.cell? ⟨Bl, 0, none⟩ = some (.slice A L c) ∧ w'.cell? ⟨M, 0, none⟩ = some (.int .i64 (R : Int)) ∧ w'.cell? ⟨M, 1, none⟩ = some (.int .i64 (N : Int)) ∧ w'.cell? ⟨M, 2, none⟩ = some (.func (.func G) #[] lb))
    (first
      | go_keep
      | exact ⟨cell_kept cB (grown_drew hg3) (fun r e => by cases e), cell_kept c0 (grown_drew hg3) (fun r e => by cases e), cell_kept c1 (grown_drew hg3) (fun r e => by cases e), cell_kept c2 (grown_drew hg3) (fun r e => by cases e)⟩)
    (first
      | (go_at_call 25; refine (hsz1.out _).mono ?_; rintro e w3 ⟨rfl, hg3⟩))
  have hg4 := grown_drew hg3
  have hT3 := hT1.grown hg4 (fun e => by cases e)
  have hX3 : RowsAt w3 X R := hX2.block (hg4.block X hX2.lt (fun e => by cases e))
  have bI3 : Boxed w3 Bl 33 (.slice A L c) := (hg4.block Bl (by omega) (fun e => by cases e)).trans bI2
  have hb3 := hb2.grown hg4 hb2.size (fun r e => by cases e)
  have hs3 := hg4.size
  rw [hs2] at hs3
  clear hT1 hX2 bI2 hb2 hg3 hg4 c0 c1 c2 cB
  by_cases hLS : L = S
  · subst hLS
    have hne0 : ((L : Int) != (L : Int)) = false := by simp
    have c0 := hT3.cell0
    have c1 := hT3.cell1
    have c2 := hT3.cell2
    gi_wp2
    refine ⟨trivial, fun _ => by omega, ?_⟩
    refine (callsIn_wide.2 (hsz1.out _)).mono ?_
    rintro e w7 ⟨rfl, hg7⟩
    have hT7 := hT3.grown hg7 (fun e => by cases e)
    have hX7 : RowsAt w7 X R := hX3.block (hg7.block X hX3.lt (fun e => by cases e))
    have hb7 := hb3.grown hg7 hb3.size (fun r e => by cases e)
    have b7 : Boxed w7 Bl 33 (.slice A L c) := (hg7.block Bl (by omega) (fun e => by cases e)).trans bI3
    have hs7 := hg7.size
    have hs7' : M + 1 ≤ w7.heap.size := by omega
    clear hT3 hX3 hb3 bI3 hg7 hsz1 c0 c1 c2 hs3 hs7 hM
    have hb8 := hb7.alloc hb7.size (.cells (madeCells #[.int .u8 0] L) 5)
    have hT8 := hT7.alloc (.cells (madeCells #[.int .u8 0] L) 5)
    have hX8 := hX7.block (Below.heap_alloc _ (.cells (madeCells #[.int .u8 0] L) 5) _ hX7.lt)
    have b8 := (Below.heap_alloc w7 (.cells (madeCells #[.int .u8 0] L) 5) Bl (by omega)).trans b7
    have hZ8 := own_zeros_q (q := .u8) (T := 5) (w := w7) (B := w.heap.size) (n := L) hb7.size (by omega)
    have hs8 : (w7.alloc (.cells (madeCells #[.int .u8 0] L) 5)).heap.size = w7.heap.size + 1 := by simp
    have hle7 := hb7.size
    clear hb7 hX7 b7
    have hT9 := hT8.alloc (.cells #[.slice (some ⟨w7.heap.size, 0, none⟩) L L] 33)
    have hZ9 := hZ8.alloc (.cells #[.slice (some ⟨w7.heap.size, 0, none⟩) L L] 33)
    have hX9 := hX8.block (Below.heap_alloc _ (.cells #[.slice (some ⟨w7.heap.size, 0, none⟩) L L] 33) _ (by rw [hs8]; omega))
    have b9 := (Below.heap_alloc _ (.cells #[.slice (some ⟨w7.heap.size, 0, none⟩) L L] 33) Bl (by rw [hs8]; omega)).trans b8
    have hb9 := hb8.alloc hb8.size (.cells #[.slice (some ⟨w7.heap.size, 0, none⟩) L L] 33)
    have bL := Boxed.new (w7.alloc (.cells (madeCells #[.int .u8 0] L) 5)) 33 (.slice (some ⟨w7.heap.size, 0, none⟩) L L)
    have hs9 : ((w7.alloc (.cells (madeCells #[.int .u8 0] L) 5)).alloc (.cells #[.slice (some ⟨w7.heap.size, 0, none⟩) L L] 33)).heap.size = w7.heap.size + 2 := by simp
    rw [hs8] at bL
    have c0 := hT7.cell0
    have c1 := hT7.cell1
    have c2' := hT7.cell2
    have hMl7 := hT7.lt
    clear hb8 hT8 hX8 hZ8 hT7 b8
    gi_wp2
    generalize hW9 : (w7.alloc (.cells (madeCells #[.int .u8 0] L) 5)).alloc (.cells #[.slice (some ⟨w7.heap.size, 0, none⟩) L L] 33) = W9 at *
    obtain ⟨D, hD⟩ : ∃ D, w7.heap.size = D := ⟨_, rfl⟩
    rw [hD] at hs9 hZ9 bL hs7' hle7 hMl7 ⊢
    refine ⟨trivial, fun _ => by omega, ?_⟩
    refine (hix1.out _).mono ?_
    rintro e w10 ⟨rfl, rfl⟩
    rw [hs9]
    have hT11 := Three.new W9 43 (.int .i64 (R : Int)) (.int .i64 (N : Int)) (.func (.func G) #[] lb)
    rw [hs9] at hT11
    have hT10 := hT9.alloc (.cells #[.int .i64 (R : Int), .int .i64 (N : Int), .func (.func G) #[] lb] 43)
    have hZ10 := hZ9.alloc (.cells #[.int .i64 (R : Int), .int .i64 (N : Int), .func (.func G) #[] lb] 43)
    have hX10 := hX9.block (Below.heap_alloc _ (.cells #[.int .i64 (R : Int), .int .i64 (N : Int), .func (.func G) #[] lb] 43) _ (by rw [hs9]; omega))
    have b10 := (Below.heap_alloc W9 (.cells #[.int .i64 (R : Int), .int .i64 (N : Int), .func (.func G) #[] lb] 43) Bl (by rw [hs9]; omega)).trans b9
    have bL10 := bL.alloc (.cells #[.int .i64 (R : Int), .int .i64 (N : Int), .func (.func G) #[] lb] 43)
    have hb10 := hb9.alloc hb9.size (.cells #[.int .i64 (R : Int), .int .i64 (N : Int), .func (.func G) #[] lb] 43)
    have hs10 : (W9.alloc (.cells #[.int .i64 (R : Int), .int .i64 (N : Int), .func (.func G) #[] lb] 43)).heap.size = D + 3 := by simp [hs9]
    generalize W9.alloc (.cells #[.int .i64 (R : Int), .int .i64 (N : Int), .func (.func G) #[] lb] 43) = W10 at *
    obtain ⟨g, hg⟩ : ∃ g : Nat → Int, g = fun k => l[k]?.getD 0 := ⟨_, rfl⟩
    have hgv : Hid (∀ k, g k = l[k]?.getD 0) := Lib.hid (fun k => by rw [hg])
    obtain ⟨f, hf⟩ : ∃ f : Nat → Nat, f = idxN R s := ⟨_, rfl⟩
    have hfv : Hid (∀ k, f k = idxN R s k) := Lib.hid (fun k => by rw [hf])
    have hfP : Hid (putL f g L L = backI R s l) := Lib.hid (by rw [hf, hg]; unfold backI; rw [hS])
    obtain ⟨Fx, hFx⟩ : ∃ Fx : List (Nat × Array Value × TypeId), Fx = [(M, #[.int .i64 (R : Int), .int .i64 (N : Int), .func (.func G) #[] lb], 43), (D + 2, #[.int .i64 (R : Int), .int .i64 (N : Int), .func (.func G) #[] lb], 43), (D + 1, #[.slice (some ⟨D, 0, none⟩) L L], 33), (X, #[.int .i64 (R : Int)], 3), (Bl, #[.slice A L c], 33)] := ⟨_, rfl⟩
    have hI0 : PutI w D .u8 5 L f g Fx 0 W10 := by
      refine ⟨Nat.zero_le _, fun p hp => ?_, hZ10, hb10⟩
      rw [hFx] at hp
      simp only [List.mem_cons, List.not_mem_nil, or_false] at hp
      rcases hp with rfl | rfl | rfl | rfl | rfl
      · exact hT10
      · exact hT11
      · exact bL10
      · exact hX10
      · exact b10
    have m1 : (M, #[.int .i64 (R : Int), .int .i64 (N : Int), .func (.func G) #[] lb], 43) ∈ Fx := by rw [hFx]; simp
    have m2 : (D + 2, #[.int .i64 (R : Int), .int .i64 (N : Int), .func (.func G) #[] lb], 43) ∈ Fx := by rw [hFx]; simp
    have m3 : (D + 1, #[.slice (some ⟨D, 0, none⟩) L L], 33) ∈ Fx := by rw [hFx]; simp
    have m4 : (X, #[.int .i64 (R : Int)], 3) ∈ Fx := by rw [hFx]; simp
    have m5 : (Bl, #[.slice A L c], 33) ∈ Fx := by rw [hFx]; simp
    have hne : ∀ p ∈ Fx, p.1 ≠ D := by
      rw [hFx]
      intro p hp
      simp only [List.mem_cons, List.not_mem_nil, or_false] at hp
      rcases hp with rfl | rfl | rfl | rfl | rfl <;> simp <;> omega
    have hKl : ∀ j W, PutI w D .u8 5 L f g Fx j W → MatAt W (D + 2) R N s X := fun j W h =>
      ⟨by rw [HV.out]; exact h.three m2, hK.step h.low, h.boxed m4⟩
    have hKL := Lib.hid hKl
    have HNE := Lib.hid hne
    clear hT9 hZ9 hX9 bL hb9 hT10 hT11 hZ10 hX10 bL10 hb10 hs9 hW9 c0 c1 c2' hix1 hFx hKl hne hs2 b9 b10 hf hg
    gi_wp2
    refine wpIn_indices (n := n) (B := D + 2) (R := R) (N := N) (X := X) (s := s) (by omega) hR rfl rfl
      (PutI w D .u8 5 L f g Fx) (fun _ _ => False)
      (PutI.own (by omega)) (fun _ _ _ _ _ h => h.elim) hKL.out hI0 ?a1 ?assign ?body ?done ?stop
    case assign =>
      intro lp j W K hK
      gi_wp2
      exact hK
    case body =>
      intro lp j W hj hI hbig
      rw [hS] at hj
      have hixl : f j < L := by rw [hfv.out, ← hS]; exact idx_lt (by omega)
      have cI := (hI.boxed m5).cell
      have cL := (hI.boxed m3).cell
      obtain ⟨b, off, hA, _, cX⟩ := (hIh.out.below hI.low).cells j hj
      rw [← hgv.out j] at cX
      obtain ⟨v0, cD⟩ := putL_cell hI.row hixl
      have fD := hI.row.frozenAt (f j)
      have HST := Lib.hid (fun m => (hI.drewN m).step hj HNE.out (by omega))
      have hj0 : (0 : Int) ≤ (j : Int) := by omega
      have hj1 : (j : Int) < (L : Int) := by omega
      have hi1 : (f j : Int) < (L : Int) := by omega
      clear hI hI0
      rw [← hfv.out j]
      generalize g j = v at *
      generalize f j = m at *
      subst hA
      gi_wp2
      refine wpIn_region_quiet_tail_r 7 ?hd (by kernel_rfl) (by kernel_rfl) ?_
      case hd =>
        intro o ho
        simp only [List.mem_cons, List.not_mem_nil, or_false] at ho
        rcases ho with rfl | rfl | rfl | rfl | rfl | rfl | rfl | rfl <;> (intro c h; cases h)
      simp only [List.take_succ_cons, List.take_zero, List.drop_succ_cons, List.drop_zero]
      repeat (gi_big_quiet_step (fail))
      refine wpQuietIn_nil ?_
      rintro w' ⟨nq, rfl⟩
      have cD' : (W.drewN nq).cell? ⟨D, m, none⟩ = some (.int .u8 v0) := cD
      have fD' : (W.drewN nq).frozen? ⟨D, m, none⟩ = false := fD
      have hKF := (KeepsOthers.setCell (W.drewN nq) ⟨D, m, none⟩ (.int .u8 v)).from W10.heap.size
      clear cD fD cL cI cX
      gi_wp2
      exact ⟨⟨hKF.size, hKF.same⟩, HST.out nq⟩
    case stop => intro D c W _ h; exact h.elim
    case done =>
      intro D' W hD' hI hKD
      rw [hS] at hI
      obtain rfl : D' = D + 3 := by rw [hD', hs10]
      have cL := (hI.boxed m3).cell
      have cM := (hI.three m1).cell1
      have hrow := hI.row
      rw [hfP.out] at hrow
      have hRd := Rd.of_own hrow
      obtain ⟨g2, cur, hgD, _, hgl, hcurD, _⟩ := own_block hrow (by have := hd1.out; have := hNd.out; omega)
      injection hgD with hgD
      injection hgD with hgD _
      subst hgD
      have hcs : Hid (L ≤ cur.size) := Lib.hid (by
        rcases hrow.2 with ⟨h1, _⟩ | ⟨g, cap, cur', h1, _, hg, hnc, _, hcs, _⟩
        · cases h1
        · injection h1 with h1 _ h3
          injection h1 with h1
          injection h1 with h1 _
          subst h1
          rw [hcurD] at hg
          injection hg with hg
          injection hg with hg _
          subst hg
          omega)
      have HC := Lib.hid hcurD
      have HLW := Lib.hid hI.low
      have hdl := hd1.out
      have hndl := hNd.out
      have hNL : N < L := by omega
      have hfr := Lib.hid (hRd.fore (m := N) (by omega))
      have hbk := Lib.hid (hRd.back (m := N) (by omega))
      have hsf := slice_upto (g := D) (n := L) (m := N) (by omega)
      have hsl := slice_from (g := D) hNL
      rw [show L - N = d by omega] at hsl hbk
      have hC1 := Lib.hid (fun (nq : Nat) => callsIn_wide (n := n - 1) |>.2 (containsFull_any (c := L) (hfr.out.drewN nq) (by omega)))
      have hC2 := Lib.hid (fun (nq : Nat) => callsIn_wide (n := n - 1) |>.2 (containsBad_any (c := d) (hbk.out.drewN nq) (by omega)))
      have hres := hOK.out trivial
      unfold badI at hres
      have hDD : Hid (w.heap.size ≤ D) := Lib.hid hle7
      have hmark := Lib.hid (show ∀ nq, (W.drewN nq).heap[D + 3]? = some (.deferred (some [])) from fun _ => hKD)
      generalize backI R s l = F at *
      clear hI hI0 hrow hRd hcurD hfP hKL HNE hfr hgv hfv hKD hD' hs10 hOK hNO hIh
      cases e1 : (F.take N).any (fun x => x != 2)
      · rw [e1] at hC1
        cases e2 : validB (F.drop N)
        · rw [e1, e2] at hres
          rw [e2] at hC2
          have HRES : Hid (res = ([], 9)) := Lib.hid hres
          clear e1 e2 hres
          gi_wp2
          gi_quiet (fail)
          gi_wp2
          refine ⟨trivial, fun _ => by omega, ?_⟩
          refine (hC1.out _).mono ?_
          rintro e w11 ⟨rfl, rfl⟩
          gi_wp2
          refine ⟨trivial, fun _ => by omega, ?_⟩
          refine (hC2.out _).mono ?_
          rintro e w12 ⟨rfl, rfl⟩
          gi_wp2
          rw [HRES.out]
          exact leaves_marks (B := D + 3) [D + 3] (W.drewN nq) ⟨by simp, fun E hE => by obtain rfl := List.mem_singleton.1 hE; exact hmark.out nq⟩ (fun E hE => by obtain rfl := List.mem_singleton.1 hE; omega) (fun w2 h2 => ⟨_, results_tmp2 rfl _ _ _, RetD.nil_ ((below_drewN HLW.out nq).trans (h2.mono (by omega)))⟩)
        · rw [e1, e2] at hres
          rw [e2] at hC2
          have HRES : Hid (res = (F.drop N, 0)) := Lib.hid hres
          clear e1 e2 hres
          gi_wp2
          gi_quiet (fail)
          gi_wp2
          refine ⟨trivial, fun _ => by omega, ?_⟩
          refine (hC1.out _).mono ?_
          rintro e w11 ⟨rfl, rfl⟩
          gi_wp2
          refine ⟨trivial, fun _ => by omega, ?_⟩
          refine (hC2.out _).mono ?_
          rintro e w12 ⟨rfl, rfl⟩
          gi_wp2
          have hBW := below_drewN HLW.out nq
          rw [HRES.out]
          refine leaves_marks (B := D + 3) [D + 3] (W.drewN nq) ⟨by simp, fun E hE => by obtain rfl := List.mem_singleton.1 hE; exact hmark.out nq⟩ (fun E hE => by obtain rfl := List.mem_singleton.1 hE; omega) (fun w2 h2 => ⟨_, results_tmp2 rfl _ _ _, ?_⟩)
          refine RetD.full (hBW.trans (h2.mono (by omega))) ?_ hDD.out ((h2.block D (by omega)).trans HC.out) (by have := hcs.out; omega)
          exact ((hbk.out.drewN nq).block (fun a ha => by injection ha with ha; subst ha; exact h2.block D (by omega))).more h2.size
      · rw [e1] at hC1 hres
        have HRES : Hid (res = ([], 9)) := Lib.hid hres
        clear e1 hres
        gi_wp2
        gi_quiet (fail)
        gi_wp2
        refine ⟨trivial, fun _ => by omega, ?_⟩
        refine (hC1.out _).mono ?_
        rintro e w11 ⟨rfl, rfl⟩
        gi_wp2
        refine ⟨trivial, ?_⟩
        gi_wp2
        rw [HRES.out]
        exact leaves_marks (B := D + 3) [D + 3] (W.drewN nq) ⟨by simp, fun E hE => by obtain rfl := List.mem_singleton.1 hE; exact hmark.out nq⟩ (fun E hE => by obtain rfl := List.mem_singleton.1 hE; omega) (fun w2 h2 => ⟨_, results_tmp2 rfl _ _ _, RetD.nil_ ((below_drewN HLW.out nq).trans (h2.mono (by omega)))⟩)
  · have hne0 : ((L : Int) != (S : Int)) = true := by simp; omega
    gi_wp2
    rw [hNO.out hLS]
    exact leaves_marks (B := w3.heap.size) [] w3 (Marks.nil _) (by simp) (fun w2 h2 => ⟨_, results_tmp2 rfl _ _ _, RetD.nil_ (hb3.trans (h2.mono hb3.size))⟩)
set_option maxRecDepth 100000 in
set_option maxHeartbeats 1000000 in
theorem Deinterleave_any {A : Option Addr} {c L : Nat} {d st : Int} {l : List Int} {w : World} (hK : Kinds w) (hI : Rd .u8 w w.heap.size A L l) (hL : L ≤ 1000000) : Calls Tryd.prog 21 #[.slice A L c, .int .i64 d, .int .i64 st] w (RetD w (deS l d st)) := by
  by_cases h : (okD d && okS st) = true
  · rw [Bool.and_eq_true] at h
    obtain ⟨k, rfl, h1, h2⟩ := okD_nat h.1
    exact callsIn_wide.1 (Deinterleave_in (n := 6) (by decide) hK hI hL h1 h2 h.2)
  · have h := Bool.eq_false_iff.2 h
    rw [deS_no h]
    have hO := Lib.hid (fun (u : World) => of_no (w := u) h)
    have hb0 := (Below.refl w.heap.size w).alloc (Nat.le_refl _) (.cells #[.slice A L c] 33)
    clear h hI
    go_enter Tryd.func21, Tryd.ntmps21
    go_wp2_with fail
    refine (hO.out _).mono ?_
    rintro e w1 ⟨rfl, hb1⟩
    have hb2 := hb0.trans (hb1.mono hb0.size)
    have hb3 := hb2.alloc hb2.size (.cells #[.int .i64 0, .int .i64 0, .nilFunc] 43)
    clear hb0 hb1 hb2 hO
    go_wp2_with fail
    go_ret2
    exact RetD.nil_ hb3
end Go.Proofs.YtmehfegfkjhdcaaDoor
