/-
  The reference's Word; the law's low.
-/
import Derived.Test.YtjehfdnkdfmmbaaR2
import Derived.Test.YtjehfdnkdfmmbaaT8
import Derived.Deep.RegionLaw
namespace Go.Proofs.Ytjehfdnkdfmmbaa
open Go.RowKit

theorem step_append_run {P : Program} {ops : Array Oper} {o : Oper} {a : Act} {w w2 : World} {v vs vx : Value} {K : Act → World → Prop} {Q : Exit → Act → World → Prop} {E : Prop}
    (hg : o.guard = none) (s x : Operand) (t : TypeId) (hop : o.op = Op.call { callee := Callee.builtin Builtin.append, args := #[s, x], argTypes := #[t, t] }) (hs : a.eval s = vs) (hx : a.eval x = vx)
    (hrun : (Builtin.append_ #[t, t] o.type #[vs, vx]).run P w = .ok v w2) (hK : K (a.put o.dst v) w2) :
    if Region.wanted o (yielded ops a.tmps) = true then Oper.wp P o a w K Q else E := by
  have hw : Region.wanted o (yielded ops a.tmps) = true := by simp [Region.wanted, hg]
  rw [if_pos hw]
  unfold Oper.wp
  simp [execOp, hop, resolve, invoke, builtin, hs, hx, hrun, Result.andThen]
  exact hK
set_option maxHeartbeats 4000000 in
theorem refWord_ok {A : Option Addr} {n c : Nat} {xs : List Int} {w : World} (hI : Rd .u8 w w.heap.size A n xs) (hb : Byte xs) (hn : n ≤ 100000) (hv : validB xs = true) :
    Calls Try.prog 20 #[.slice A n c] w (RetBytes 5 w (wordI xs, 0)) := by
  have hE := Lib.hid (refEncode_any (c := c) hI hb hn)
  have hs8 := stK_lt hb xs.length
  have hT := Lib.hid (fun (u : World) => refTail_any (w := u) hs8)
  have e1 : encR xs = paL xs n := by unfold encR; rw [if_pos hv, hI.len]
  have e2 : encN xs = stK xs xs.length := by unfold encN; rw [if_pos hv]
  have e3 : encE xs = 0 := by unfold encE; rw [if_pos hv]
  rw [e1, e2, e3] at hE
  have hWI : Hid (∀ U Z : List Nat, tailU (stK xs xs.length) = U → tailZ (stK xs xs.length) = Z → wordI xs = xs ++ paL xs n ++ intsOf U ++ intsOf Z) := Lib.hid (fun U Z h1 h2 => by unfold wordI; rw [h1, h2, hI.len]; simp)
  obtain ⟨u0, u1, u2, hU⟩ : ∃ a b c, tailU (stK xs xs.length) = [a, b, c] := ⟨_, _, _, rfl⟩
  obtain ⟨z0, z1, z2, hZ⟩ : ∃ a b c, tailZ (stK xs xs.length) = [a, b, c] := ⟨_, _, _, rfl⟩
  have HW := Lib.hid (hWI.out _ _ hU hZ)
  rw [hU, hZ, b3_eq, b3_eq] at hT
  have hPL := Lib.hid (paL_length xs n)
  have HI := Lib.hid hI
  have HLn : Hid ((wordI xs).length = n + n + 3 + 3) := Lib.hid (by rw [wordI_length, hI.len]; omega)
  clear e1 e2 e3 hI hb hv hU hZ hWI
  generalize stK xs xs.length = s at *
  generalize paL xs n = ps at *
  have hsl := slice_arr3
  go_enter Try.func20, Try.ntmps20
  go_wp2_with fail
  refine hE.out.mono ?_
  rintro e w1 ⟨A1, c1, rfl, hO1, hb1⟩
  rw [hPL.out] at hO1 ⊢
  have R1 := Rd.of_own hO1
  have RI := HI.out.step hb1
  clear hE hO1 HI
  go_wp2_with fail
  refine (hT.out _).mono ?_
  rintro e w2 ⟨rfl, hb2⟩
  have R2 := R1.step hb2
  have RI2 := RI.step hb2
  have hb02 := hb1.trans (hb2.mono hb1.size)
  clear R1 RI hb1 hb2 hT
  have t1 := (Three.new w2 25 (.int .u8 (u0 : Int)) (.int .u8 (u1 : Int)) (.int .u8 (u2 : Int))).alloc (.cells #[.int .u8 (z0 : Int), .int .u8 (z1 : Int), .int .u8 (z2 : Int)] 25)
  have t2 := Three.new (w2.alloc (.cells #[.int .u8 (u0 : Int), .int .u8 (u1 : Int), .int .u8 (u2 : Int)] 25)) 25 (.int .u8 (z0 : Int)) (.int .u8 (z1 : Int)) (.int .u8 (z2 : Int))
  rw [World.size_alloc] at t2
  have hb22 : Below w2.heap.size w2 ((w2.alloc (.cells #[.int .u8 (u0 : Int), .int .u8 (u1 : Int), .int .u8 (u2 : Int)] 25)).alloc (.cells #[.int .u8 (z0 : Int), .int .u8 (z1 : Int), .int .u8 (z2 : Int)] 25)) := below_two _ _
  have hb03 := hb02.trans (hb22.mono hb02.size)
  have R3 := R2.step hb22
  have RI3 := RI2.step hb22
  obtain ⟨W3, hW3⟩ : ∃ W3, (w2.alloc (.cells #[.int .u8 (u0 : Int), .int .u8 (u1 : Int), .int .u8 (u2 : Int)] 25)).alloc (.cells #[.int .u8 (z0 : Int), .int .u8 (z1 : Int), .int .u8 (z2 : Int)] 25) = W3 := ⟨_, rfl⟩
  rw [hW3] at t1 t2 hb03 R3 RI3
  obtain ⟨A4, c4, w4, run4, hO4, hb4⟩ := copy_run (c := c) RI3 (by omega)
  have R4 := (R3.below hb4).more hb4.size
  obtain ⟨A5, c5, w5, run5, hO5, hb5⟩ := more_run (c' := c1) hO4 R4 (by omega) (by omega) hb4.size
  have hb35 := hb5 W3.heap.size W3 hb4 (Nat.le_refl _) (Nat.le_refl _)
  have hb35d := hb35.drew
  have hO5d : w5.drew.ownsRow W3.heap.size 5 1 (.slice A5 (n + n) c5) (n + n) ((xs ++ ps).map (Value.int .u8)) := hO5
  have T1 := ((t1.rd.below hb35d).more hb35d.size)
  obtain ⟨A6, c6, w6, run6, hO6, hb6⟩ := more_run (c' := 3) hO5d T1 (by omega) (by omega) hb35d.size
  have hb36 := hb6 W3.heap.size W3 hb35d (Nat.le_refl _) (Nat.le_refl _)
  have T2 := ((t2.rd.below hb36).more hb36.size)
  obtain ⟨A7, c7, w7, run7, hO7, hb7⟩ := more_run (c' := 3) hO6 T2 (by omega) (by omega) hb36.size
  have hb37 := hb7 W3.heap.size W3 hb36 (Nat.le_refl _) (Nat.le_refl _)
  have HF : Hid (w7.ownsRow W3.heap.size 5 1 (.slice A7 (n + n + 3 + 3) c7) (n + n + 3 + 3) ((wordI xs).map (Value.int .u8)) ∧ w.heap.size ≤ W3.heap.size ∧ Below w.heap.size w w7) := Lib.hid ⟨by rw [HW.out]; exact hO7, hb03.size, hb03.trans (hb37.mono hb03.size)⟩
  have H4 := Lib.hid run4
  have H5 := Lib.hid run5
  have H6 := Lib.hid run6
  have H7 := Lib.hid run7
  clear run4 run5 run6 run7 hO4 hO5 hO6 hO7 hb4 hb5 hb6 hb7 hb35 hb35d hb36 hb37 hO5d T1 T2 R2 R3 R4 RI2 RI3 t1 t2 hb02 hb22 hb03
  go_wp2_with (at_builtin; first | (refine Lib.wpList_append_run _ rfl _ _ _ _ rfl _ _ rfl rfl _ _ H4.out ?_; clear H4) | refine Lib.wpList_append_run _ rfl _ _ _ _ rfl _ _ rfl rfl _ _ H5.out ?_)
  go_region_law (first | (refine step_append_run rfl (.tmp 29) (.tmp 30) 36 rfl rfl rfl H6.out ?_) | (refine step_append_run rfl (.tmp 31) (.tmp 32) 36 rfl rfl rfl H7.out ?_))
  all_goals
    go_wp2_with fail
    go_ret2
    exact RetBytes.mk_ (n := n + n + 3 + 3) HLn.out HF.out.1 HF.out.2.1 HF.out.2.2 rfl
set_option maxHeartbeats 2000000 in
theorem refWord_any {A : Option Addr} {n c : Nat} {xs : List Int} {w : World} (hI : Rd .u8 w w.heap.size A n xs) (hb : Byte xs) (hn : n ≤ 100000) :
    Calls Try.prog 20 #[.slice A n c] w (RetBytes 5 w (wordS xs)) := by
  unfold wordS
  by_cases hv : validB xs = true
  · rw [if_pos hv]; exact refWord_ok hI hb hn hv
  · have hv := Bool.eq_false_iff.2 hv
    rw [hv]
    have hE := Lib.hid (refEncode_any (c := c) hI hb hn)
    have e1 : encR xs = [] := by unfold encR; rw [hv]; rfl
    have e2 : encN xs = 0 := by unfold encN; rw [hv]; rfl
    have e3 : encE xs = 3 := by unfold encE; rw [hv]; rfl
    rw [e1, e2, e3] at hE
    clear e1 e2 e3 hI hb hv
    go_enter Try.func20, Try.ntmps20
    go_wp2_with fail
    refine hE.out.mono ?_
    rintro e w1 ⟨A1, c1, rfl, hO1, hb1⟩
    clear hE hO1
    go_wp2_with fail
    go_ret2
    exact RetBytes.nil_ hb1
end Go.Proofs.Ytjehfdnkdfmmbaa
