/-
  slices.Clone; the law's low; the reference's Walk, Encode. The reference's Word; the law's low. What the laws' walks share.
-/
import Derived.Test.YtbpkoilecdejiaaDoorT6
import Derived.Test.YtbpkoilecdejiaaDoorT8
import Derived.Deep.RegionLaw
namespace Go.Proofs.YtbpkoilecdejiaaDoor
/-! ### slices.Clone; the law's low; the reference's Walk, Encode. -/
section
set_option maxRecDepth 100000
open Go.RowKit

set_option maxHeartbeats 1000000 in
theorem clone_any {A : Option Addr} {n c : Nat} {xs : List Int} {w : World} (hI : Rd .u8 w w.heap.size A n xs) (hn : n ≤ 2199023255552) :
    Calls Tryd.prog 34 #[.slice A n c] w fun e w' => ∃ A2 c2, e = .returned (.slice A2 n c2) ∧
      w'.ownsRow w.heap.size 5 1 (.slice A2 n c2) n (xs.map (Value.int .u8)) ∧ Below w.heap.size w w' := by
  rcases A with _ | a
  · have hm : n = 0 := by
      rcases Nat.eq_zero_or_pos n with h0 | h0
      · exact h0
      · obtain ⟨_, _, h, _⟩ := hI.cells 0 h0
        cases h
    subst hm
    obtain rfl : xs = [] := List.eq_nil_of_length_eq_zero hI.len
    have hnil := fun (u : World) => Lib.run_eql_slice_nil (P := Tryd.prog) u 22 5 none 0 c 0 0 Tryd.underlying22
    go_enter Tryd.func34, Tryd.ntmps34
    go_wp2
    go_ret
    exact ⟨none, 0, rfl, by simpa using World.ownsRow_nil w w.heap.size 5 1, Below.refl _ _⟩
  · obtain ⟨A3, c3, w3, hrun, hown3, hB3⟩ := copy_run (c := c) hI hn
    have hO3 := Lib.hid hown3
    have hRun := Lib.hid hrun
    clear hown3 hrun
    have hnil := fun (u : World) => Lib.run_eql_slice_nil (P := Tryd.prog) u 22 5 (some a) n c 0 0 Tryd.underlying22
    go_enter Tryd.func34, Tryd.ntmps34
    go_wp2_with (at_builtin; refine Lib.wpList_append_run _ rfl _ _ _ _ rfl _ _ rfl rfl _ _ hRun.out ?_)
    go_ret
    exact ⟨A3, c3, rfl, hO3.out, hB3⟩
/-- The states behind the first k elements. -/
def stL (xs : List Int) (k : Nat) : List Int := (List.range k).map fun j => ((stK xs (j + 1) : Nat) : Int)
theorem stL_length (xs : List Int) (k : Nat) : (stL xs k).length = k := by simp [stL]
theorem stL_snoc (xs : List Int) (k : Nat) : stL xs (k + 1) = stL xs k ++ [((stK xs (k + 1) : Nat) : Int)] := by simp [stL, List.range_succ]
/-- How many elements are bits before the first that is none. -/
def vlen (xs : List Int) : Nat := (xs.takeWhile fun x => decide (x ≤ 1)).length
theorem vlen_bad {xs : List Int} {k : Nat} (hk : k < xs.length) (h : ∀ j, j < k → xs[j]?.getD 0 ≤ 1) (hb : ¬ xs[k]?.getD 0 ≤ 1) : vlen xs = k ∧ validB xs = false := by
  induction xs generalizing k with
  | nil => simp at hk
  | cons x xs ih =>
    cases k with
    | zero =>
      have hx : ¬ x ≤ 1 := by simpa using hb
      exact ⟨by simp [vlen, hx], by simp [validB, hx]⟩
    | succ k =>
      have hx : x ≤ 1 := by simpa using h 0 (by omega)
      obtain ⟨h1, h2⟩ := ih (k := k) (by simpa using hk) (fun j hj => by simpa using h (j + 1) (by omega)) (by simpa using hb)
      exact ⟨by unfold vlen at h1 ⊢; simp [hx, h1], by unfold validB at h2 ⊢; rw [List.all_cons, h2, Bool.and_false]⟩
theorem vlen_all {xs : List Int} (h : ∀ j, j < xs.length → xs[j]?.getD 0 ≤ 1) : vlen xs = xs.length ∧ validB xs = true := by
  have h' : ∀ x ∈ xs, x ≤ 1 := fun x hx => by
    obtain ⟨j, hj, rfl⟩ := List.getElem_of_mem hx
    simpa [hj] using h j hj
  refine ⟨?_, ?_⟩
  · unfold vlen
    clear h
    induction xs with
    | nil => rfl
    | cons x xs ih =>
      have hx := h' x (by simp)
      simp [hx, ih (fun y hy => h' y (by simp [hy]))]
  · simp only [validB, List.all_eq_true, decide_eq_true_eq]
    exact h'
theorem rows_apart {W : World} {b1 b2 n1 n2 : Nat} {e1 e2 : TypeId} {v1 v2 : Value} {xs ys : List Value} (h1 : W.ownsRow b1 e1 1 v1 n1 xs) (h2 : W.ownsRow b2 e2 1 v2 n2 ys) (hne : e1 ≠ e2) : ∀ g, v1.ownBlock = some g → v2.ownBlock ≠ some g := by
  intro g hg hg2
  obtain ⟨a, fr, ha⟩ := ownsRow_block_of h1 hg
  obtain ⟨a', fr', ha'⟩ := ownsRow_block_of h2 hg2
  rw [ha] at ha'
  injection ha' with ha'
  injection ha' with _ e
  exact hne e
theorem ownsRow_other {W W' : World} {base n : Nat} {e : TypeId} {v : Value} {xs : List Value} {row : Option Nat} (h : W.ownsRow base e 1 v n xs) (hg : W.grownBy W' row) (hne : ∀ g, v.ownBlock = some g → row ≠ some g) : W'.ownsRow base e 1 v n xs :=
  ownsRow_block h (fun g hgv => by
    obtain ⟨a, fr, ha⟩ := ownsRow_block_of h hgv
    exact hg.block g (Array.getElem?_eq_some_iff.1 ha).1 (fun e => hne g hgv e.symm))
/-- What the reference's Walk hands back. -/
def RetW (w : World) (xs : List Int) (e : Ending) (w' : World) : Prop := ∃ A1 c1 A2 c2, e = .returned (.tuple #[.slice A1 (vlen xs) c1, .slice A2 (vlen xs) c2, .bool (validB xs)]) ∧
  w'.ownsRow w.heap.size 3 1 (.slice A1 (vlen xs) c1) (vlen xs) ((stL xs (vlen xs)).map (Value.int .i64)) ∧ w'.ownsRow w.heap.size 5 1 (.slice A2 (vlen xs) c2) (vlen xs) ((paL xs (vlen xs)).map (Value.int .u8)) ∧ Below w.heap.size w w'
set_option maxHeartbeats 4000000 in
theorem refWalk_any {A : Option Addr} {n c : Nat} {xs : List Int} {w : World} (hI : Rd .u8 w w.heap.size A n xs) (hb : Byte xs) (hn : n ≤ 100000) :
    Calls Tryd.prog 44 #[.slice A n c] w (RetW w xs) := by
  obtain ⟨i1, hi1, hz1, hs1, hy1⟩ := info_q Tryd.info_int
  have HI := Lib.hid hI
  have HB := Lib.hid hb
  clear hI hb
  go_enter Tryd.func44, Tryd.ntmps44
  go_wp2_with fail
  go_loopw [5, 6, 7, 8] (fun u v s i W => ∃ (k c1 c2 : Nat) (A1 A2 : Option Addr), k ≤ n ∧ u = .slice A1 k c1 ∧ v = .slice A2 k c2 ∧ s = .int .i64 (stK xs k : Nat) ∧ i = .int .i64 (k : Int) ∧ Hid ((∀ j, j < k → xs[j]?.getD 0 ≤ 1) ∧ W.ownsRow w.heap.size 3 1 (.slice A1 k c1) k ((stL xs k).map (Value.int .i64)) ∧ W.ownsRow w.heap.size 5 1 (.slice A2 k c2) k ((paL xs k).map (Value.int .u8)) ∧ Below w.heap.size w W)) (fun _ _ _ i _ => n - (intOf i).toNat)
  case atStart => exact ⟨0, 0, 0, none, none, Nat.zero_le _, rfl, rfl, rfl, rfl, Lib.hid ⟨fun j hj => absurd hj (Nat.not_lt_zero j), by simpa [stL] using World.ownsRow_nil w w.heap.size 3 1, by simpa [paL] using World.ownsRow_nil w w.heap.size 5 1, Below.refl _ _⟩⟩
  case round =>
    obtain ⟨k, c1, c2, A1, A2, hk, rfl, rfl, rfl, rfl, hH⟩ := hrel
    by_cases hlt : k < n
    · obtain ⟨b, off, rfl, hbl, hcell⟩ := (HI.out.below hH.out.2.2.2).cells k hlt
      have hx0 := HB.out k
      have s8 := stK_lt HB.out k
      have hk0 : (0 : Int) ≤ (k : Int) := by omega
      have hk1 : (k : Int) < (n : Int) := by omega
      have hst : stK xs (k + 1) = goS (stK xs k) (xs[k]?.getD 0) := rfl
      have hpa : paK xs k = goP (stK xs k) (xs[k]?.getD 0) := rfl
      have hkl : k < xs.length := by rw [HI.out.len]; exact hlt
      by_cases hx1 : xs[k]?.getD 0 ≤ 1
      · have hbits : Hid (∀ j, j < k + 1 → xs[j]?.getD 0 ≤ 1) := Lib.hid (fun j hj => by
          rcases Nat.lt_or_ge j k with h | h
          · exact hH.out.1 j h
          · obtain rfl : j = k := by omega
            exact hx1)
        have hss := stL_snoc xs k
        have hps := paL_snoc xs k
        have h1 := hH.out.2.1
        have h2 := hH.out.2.2.1
        have h3 := hH.out.2.2.2
        generalize xs[k]?.getD 0 = x at *
        generalize stK xs k = s at *
        obtain ⟨u, rfl⟩ := Int.eq_ofNat_of_zero_le hx0.1
        have hu : u < 2 := by omega
        have e1 : goS s ((u : Nat) : Int) = nextS s u := by unfold goS; rw [if_pos hx1]; rfl
        have e2 : goP s ((u : Nat) : Int) = ((parS7 s u : Nat) : Int) := by unfold goP; rw [if_pos hx1]; rfl
        rw [e1] at hst
        rw [e2] at hpa
        rw [hst] at hss
        rw [hpa] at hps
        have hp2 := (step_lt s s8 u hu).2
        have s8' := (step_lt s s8 u hu).1
        have hS := Lib.hid (fun (v : World) => refStep_any (w := v) s8 hu)
        have HST := Lib.hid hst
        generalize parS7 s u = p at *
        generalize nextS s u = nx at *
        obtain ⟨B1, d1, w2, hr1, hO1, hg1⟩ := append_one_q (P := Tryd.prog) (x := (nx : Int)) Tryd.underlying36 hi1 hz1 hs1 hy1 (by decide) h1 (by omega) h3.size
        have h2' := ownsRow_other (h2.alloc (.cells #[.int .i64 (nx : Int)] 3)) hg1 (fun g hg e => rows_apart h1 h2 (by decide) g e hg)
        have h3' := (h3.alloc h3.size (.cells #[.int .i64 (nx : Int)] 3)).grown hg1 (by have := h3.size; simp; omega) (fun j hj => (h1.lt j hj).1)
        obtain ⟨B2, d2, w3, hr2, hO2, hg2, _⟩ := append_byte (x := (p : Int)) h2' (by omega) h3'.size
        have hO1' := ownsRow_other (hO1.alloc (.cells #[.int .u8 (p : Int)] 5)) hg2 (fun g hg e => rows_apart hO1 h2' (by decide) g hg e)
        have h3'' := (h3'.alloc h3'.size (.cells #[.int .u8 (p : Int)] 5)).grown hg2 (by have := h3'.size; simp; omega) (fun j hj => (h2'.lt j hj).1)
        have HF : Hid ((∀ j, j < k + 1 → xs[j]?.getD 0 ≤ 1) ∧ w3.ownsRow w.heap.size 3 1 (.slice B1 (k + 1) d1) (k + 1) ((stL xs (k + 1)).map (Value.int .i64)) ∧ w3.ownsRow w.heap.size 5 1 (.slice B2 (k + 1) d2) (k + 1) ((paL xs (k + 1)).map (Value.int .u8)) ∧ Below w.heap.size w w3) := Lib.hid ⟨hbits.out, by rw [hss]; exact hO1', by rw [hps]; exact hO2, h3''⟩
        have HR1 := Lib.hid hr1
        have HR2 := Lib.hid hr2
        have wp : IntKind.u8.wrap (p : Int) = (p : Int) := by rw [IntWalk.u8_in _ (by omega)]
        have pm : (p : Int) % 256 = (p : Int) := by omega
        clear hr1 hr2 hO1 hO2 hO1' h1 h2 h3 h2' h3' h3'' hg1 hg2 hss hps hst hpa e1 e2 hH hbits HI HB
        go_wp2_with fail
        refine (hS.out _).mono ?_
        rintro e w9 ⟨rfl, he⟩
        obtain rfl := he.symm
        clear hS
        go_wp2_with (at_builtin; first | (refine Lib.wpList_append_run _ rfl _ _ _ _ rfl _ _ rfl rfl _ _ HR1.out ?_; clear HR1) | refine Lib.wpList_append_run _ rfl _ _ _ _ rfl _ _ rfl rfl _ _ HR2.out ?_)
        go_roundw
        case rel => exact ⟨k + 1, d1, d2, B1, B2, by omega, rfl, rfl, by rw [HST.out], by go_num, HF⟩
        case measure => simp [intOf]; omega
      · obtain ⟨v1, v2⟩ := vlen_bad hkl hH.out.1 hx1
        have HF : Hid (RetW w xs (.returned (.tuple #[.slice A1 k c1, .slice A2 k c2, .bool false])) wr) := Lib.hid (by
          unfold RetW
          rw [v1, v2]
          exact ⟨A1, c1, A2, c2, rfl, hH.out.2⟩)
        generalize xs[k]?.getD 0 = x at *
        clear hH HI HB hst hpa v1 v2
        go_wp2_with fail
        go_ret3
        exact HF.out
    · obtain rfl : k = n := by omega
      have hln := HI.out.len
      obtain ⟨v1, v2⟩ := vlen_all (xs := xs) (fun j hj => hH.out.1 j (by rw [← hln]; exact hj))
      have HF : Hid (RetW w xs (.returned (.tuple #[.slice A1 k c1, .slice A2 k c2, .bool true])) wr) := Lib.hid (by
        unfold RetW
        rw [v1, v2, hln]
        exact ⟨A1, c1, A2, c2, rfl, hH.out.2⟩)
      clear hH HI HB v1 v2
      go_wp2_with fail
      go_ret3
      exact HF.out
set_option maxHeartbeats 2000000 in
theorem refEncode_any {A : Option Addr} {n c : Nat} {xs : List Int} {w : World} (hI : Rd .u8 w w.heap.size A n xs) (hb : Byte xs) (hn : n ≤ 100000) :
    Calls Tryd.prog 30 #[.slice A n c] w (RetE w (encR xs) (encN xs) (encE xs)) := by
  have hW := Lib.hid (refWalk_any (c := c) hI hb hn)
  by_cases hv : validB xs = true
  · have hall := vlen_all (xs := xs) (fun j hj => by
      simp only [validB, List.all_eq_true, decide_eq_true_eq] at hv
      have := hv _ (List.getElem_mem hj)
      simpa [hj] using this)
    have e1 : encR xs = paL xs xs.length := by unfold encR; rw [if_pos hv]
    have e2 : encN xs = stK xs xs.length := by unfold encN; rw [if_pos hv]
    have e3 : encE xs = 0 := by unfold encE; rw [if_pos hv]
    rw [e1, e2, e3]
    have hln := hI.len
    clear hI hb e1 e2 e3
    unfold RetW at hW
    rw [hall.1, hv, hln] at hW
    rw [hln]
    have hst : Hid (0 < n → (stL xs n)[n - 1]?.getD 0 = ((stK xs n : Nat) : Int)) := Lib.hid (fun h => by
      obtain ⟨m, rfl⟩ : ∃ m, n = m + 1 := ⟨n - 1, by omega⟩
      simp [stL])
    have h00 : Hid (n = 0 → stK xs n = 0) := Lib.hid (fun h => by rw [h]; rfl)
    have hPL := Lib.hid (paL_length xs n)
    have hSLn := Lib.hid (stL_length xs n)
    generalize paL xs n = ps at *
    generalize stL xs n = ss at *
    generalize stK xs n = sn at *
    clear hall hv hln
    go_enter Tryd.func30, Tryd.ntmps30
    go_wp2_with fail
    refine hW.out.mono ?_
    rintro e w1 ⟨A1, c1, A2, c2, rfl, hO1, hO2, hB⟩
    have HO2 := Lib.hid hO2
    have HB := Lib.hid hB
    by_cases h0 : n = 0
    · subst h0
      have hs0 := h00.out rfl
      subst hs0
      clear hO1 hO2 hB hst h00 hW
      go_wp2_with fail
      go_ret3
      exact RetE.mk_ (k := 0) (s := 0) (B := w.heap.size) hPL.out (by
        have e := List.eq_nil_of_length_eq_zero hPL.out
        rw [e]; simpa using World.ownsRow_nil w1 w.heap.size 5 1) (Nat.le_refl _) HB.out
    · have R1 := Rd.of_own hO1
      obtain ⟨b, off, rfl, hbl, hc⟩ := R1.cells (n - 1) (by omega)
      rw [hst.out (by omega)] at hc
      have k1 : IntKind.i64.wrap ((n : Int) - 1) = ((n - 1 : Nat) : Int) := by rw [IntWalk.i64_in _ (by omega)]; omega
      have k0 : ((n : Int) - 1) = ((n - 1 : Nat) : Int) := by omega
      have hd : ((n : Int) == 0) = false := by simp [h0]
      have k2 : ((n - 1 : Nat) : Int) < (n : Int) := by omega
      have k3 : (0 : Int) ≤ ((n - 1 : Nat) : Int) := by omega
      clear hO1 hO2 hB hst h00 hW R1
      go_wp2_with fail
      go_quiet (fail)
      go_wp2_with fail
      go_ret3
      exact RetE.mk_ (B := w.heap.size) hPL.out HO2.out (Nat.le_refl _) (below_drewN HB.out _)
  · have hv := Bool.eq_false_iff.2 hv
    have e1 : encR xs = [] := by unfold encR; rw [hv]; rfl
    have e2 : encN xs = 0 := by unfold encN; rw [hv]; rfl
    have e3 : encE xs = 3 := by unfold encE; rw [hv]; rfl
    rw [e1, e2, e3]
    unfold RetW at hW
    rw [hv] at hW
    clear hI hb e1 e2 e3 hv
    generalize vlen xs = v at *
    go_enter Tryd.func30, Tryd.ntmps30
    go_wp2_with fail
    refine hW.out.mono ?_
    rintro e w1 ⟨A1, c1, A2, c2, rfl, hO1, hO2, hB⟩
    clear hO1 hO2 hW
    go_wp2_with fail
    go_ret3
    exact RetE.mk_ (k := 0) (s := 0) (B := w.heap.size) rfl (by simpa using World.ownsRow_nil w1 w.heap.size 5 1) (Nat.le_refl _) hB
end

/-! ### The reference's Word; the law's low. -/
section
set_option maxRecDepth 100000
open Go.RowKit

theorem step_append_run {P : Program} {ops : Array Oper} {o : Oper} {a : Act} {w w2 : World} {v vs vx : Value} {K : Act → World → Prop} {Q : Exit → Act → World → Prop} {E : Prop}
    (hg : o.guard = none) (s x : Operand) (t : TypeId) (hop : o.op = Op.call { callee := Callee.builtin Builtin.append, args := #[s, x], argTypes := #[t, t] }) (hs : a.eval s = vs) (hx : a.eval x = vx)
    (hrun : (Builtin.append_ #[t, t] o.type #[vs, vx]).run P w = .ok v w2) (hK : K (a.put o.dst v) w2) :
    if Region.wanted o (yielded ops a.tmps) = true then Oper.wp P o a w K Q else E := by
  have hw : Region.wanted o (yielded ops a.tmps) = true := by simp [Region.wanted, hg]
  rw [if_pos hw]
  unfold Oper.wp
  simp [execOp, hop, resolve, invoke, builtin, hs, hx, hrun, Result.andThen]
  exact hK
set_option maxHeartbeats 4000000 in
theorem refWord_ok {A : Option Addr} {n c : Nat} {xs : List Int} {w : World} (hI : Rd .u8 w w.heap.size A n xs) (hb : Byte xs) (hn : n ≤ 100000) (hv : validB xs = true) :
    Calls Tryd.prog 26 #[.slice A n c] w (RetBytes 5 w (wordI xs, 0)) := by
  have hE := Lib.hid (refEncode_any (c := c) hI hb hn)
  have hs8 := stK_lt hb xs.length
  have hT := Lib.hid (fun (u : World) => refTail_any (w := u) hs8)
  have e1 : encR xs = paL xs n := by unfold encR; rw [if_pos hv, hI.len]
  have e2 : encN xs = stK xs xs.length := by unfold encN; rw [if_pos hv]
  have e3 : encE xs = 0 := by unfold encE; rw [if_pos hv]
  rw [e1, e2, e3] at hE
  have hWI : Hid (∀ U Z : List Nat, tailU (stK xs xs.length) = U → tailZ (stK xs xs.length) = Z → wordI xs = xs ++ paL xs n ++ intsOf U ++ intsOf Z) := Lib.hid (fun U Z h1 h2 => by unfold wordI; rw [h1, h2, hI.len]; simp)
  obtain ⟨u0, u1, u2, hU⟩ : ∃ a b c, tailU (stK xs xs.length) = [a, b, c] := ⟨_, _, _, rfl⟩
  obtain ⟨z0, z1, z2, hZ⟩ : ∃ a b c, tailZ (stK xs xs.length) = [a, b, c] := ⟨_, _, _, rfl⟩
  have HW := Lib.hid (hWI.out _ _ hU hZ)
  rw [hU, hZ, b3_eq, b3_eq] at hT
  have hPL := Lib.hid (paL_length xs n)
  have HI := Lib.hid hI
  have HLn : Hid ((wordI xs).length = n + n + 3 + 3) := Lib.hid (by rw [wordI_length, hI.len]; omega)
  clear e1 e2 e3 hI hb hv hU hZ hWI
  generalize stK xs xs.length = s at *
  generalize paL xs n = ps at *
  have hsl := slice_arr3
  go_enter Tryd.func26, Tryd.ntmps26
  go_wp2_with fail
  refine hE.out.mono ?_
  rintro e w1 ⟨A1, c1, rfl, hO1, hb1⟩
  rw [hPL.out] at hO1 ⊢
  have R1 := Rd.of_own hO1
  have RI := HI.out.step hb1
  clear hE hO1 HI
  go_wp2_with fail
  refine (hT.out _).mono ?_
  rintro e w2 ⟨rfl, hb2⟩
  have R2 := R1.step hb2
  have RI2 := RI.step hb2
  have hb02 := hb1.trans (hb2.mono hb1.size)
  clear R1 RI hb1 hb2 hT
  have t1 := (Three.new w2 61 (.int .u8 (u0 : Int)) (.int .u8 (u1 : Int)) (.int .u8 (u2 : Int))).alloc (.cells #[.int .u8 (z0 : Int), .int .u8 (z1 : Int), .int .u8 (z2 : Int)] 61)
  have t2 := Three.new (w2.alloc (.cells #[.int .u8 (u0 : Int), .int .u8 (u1 : Int), .int .u8 (u2 : Int)] 61)) 61 (.int .u8 (z0 : Int)) (.int .u8 (z1 : Int)) (.int .u8 (z2 : Int))
  rw [World.size_alloc] at t2
  have hb22 : Below w2.heap.size w2 ((w2.alloc (.cells #[.int .u8 (u0 : Int), .int .u8 (u1 : Int), .int .u8 (u2 : Int)] 61)).alloc (.cells #[.int .u8 (z0 : Int), .int .u8 (z1 : Int), .int .u8 (z2 : Int)] 61)) := below_two _ _
  have hb03 := hb02.trans (hb22.mono hb02.size)
  have R3 := R2.step hb22
  have RI3 := RI2.step hb22
  obtain ⟨W3, hW3⟩ : ∃ W3, (w2.alloc (.cells #[.int .u8 (u0 : Int), .int .u8 (u1 : Int), .int .u8 (u2 : Int)] 61)).alloc (.cells #[.int .u8 (z0 : Int), .int .u8 (z1 : Int), .int .u8 (z2 : Int)] 61) = W3 := ⟨_, rfl⟩
  rw [hW3] at t1 t2 hb03 R3 RI3
  obtain ⟨A4, c4, w4, run4, hO4, hb4⟩ := copy_run (c := c) RI3 (by omega)
  have R4 := (R3.below hb4).more hb4.size
  obtain ⟨A5, c5, w5, run5, hO5, hb5⟩ := more_run (c' := c1) hO4 R4 (by omega) (by omega) hb4.size
  have hb35 := hb5 W3.heap.size W3 hb4 (Nat.le_refl _) (Nat.le_refl _)
  have hb35d := hb35.drew
  have hO5d : w5.drew.ownsRow W3.heap.size 5 1 (.slice A5 (n + n) c5) (n + n) ((xs ++ ps).map (Value.int .u8)) := hO5
  have T1 := ((t1.rd.below hb35d).more hb35d.size)
  obtain ⟨A6, c6, w6, run6, hO6, hb6⟩ := more_run (c' := 3) hO5d T1 (by omega) (by omega) hb35d.size
  have hb36 := hb6 W3.heap.size W3 hb35d (Nat.le_refl _) (Nat.le_refl _)
  have T2 := ((t2.rd.below hb36).more hb36.size)
  obtain ⟨A7, c7, w7, run7, hO7, hb7⟩ := more_run (c' := 3) hO6 T2 (by omega) (by omega) hb36.size
  have hb37 := hb7 W3.heap.size W3 hb36 (Nat.le_refl _) (Nat.le_refl _)
  have HF : Hid (w7.ownsRow W3.heap.size 5 1 (.slice A7 (n + n + 3 + 3) c7) (n + n + 3 + 3) ((wordI xs).map (Value.int .u8)) ∧ w.heap.size ≤ W3.heap.size ∧ Below w.heap.size w w7) := Lib.hid ⟨by rw [HW.out]; exact hO7, hb03.size, hb03.trans (hb37.mono hb03.size)⟩
  have H4 := Lib.hid run4
  have H5 := Lib.hid run5
  have H6 := Lib.hid run6
  have H7 := Lib.hid run7
  clear run4 run5 run6 run7 hO4 hO5 hO6 hO7 hb4 hb5 hb6 hb7 hb35 hb35d hb36 hb37 hO5d T1 T2 R2 R3 R4 RI2 RI3 t1 t2 hb02 hb22 hb03
  go_wp2_with (at_builtin; first | (refine Lib.wpList_append_run _ rfl _ _ _ _ rfl _ _ rfl rfl _ _ H4.out ?_; clear H4) | refine Lib.wpList_append_run _ rfl _ _ _ _ rfl _ _ rfl rfl _ _ H5.out ?_)
  go_region_law (first | (refine step_append_run rfl (.tmp 29) (.tmp 30) 22 rfl rfl rfl H6.out ?_) | (refine step_append_run rfl (.tmp 31) (.tmp 32) 22 rfl rfl rfl H7.out ?_))
  all_goals
    go_wp2_with fail
    go_ret2
    exact RetBytes.mk_ (n := n + n + 3 + 3) HLn.out HF.out.1 HF.out.2.1 HF.out.2.2 rfl
set_option maxHeartbeats 2000000 in
theorem refWord_any {A : Option Addr} {n c : Nat} {xs : List Int} {w : World} (hI : Rd .u8 w w.heap.size A n xs) (hb : Byte xs) (hn : n ≤ 100000) :
    Calls Tryd.prog 26 #[.slice A n c] w (RetBytes 5 w (wordS xs)) := by
  unfold wordS
  by_cases hv : validB xs = true
  · rw [if_pos hv]; exact refWord_ok hI hb hn hv
  · have hv := Bool.eq_false_iff.2 hv
    rw [hv]
    have hE := Lib.hid (refEncode_any (c := c) hI hb hn)
    have e1 : encR xs = [] := by unfold encR; rw [hv]; rfl
    have e2 : encN xs = 0 := by unfold encN; rw [hv]; rfl
    have e3 : encE xs = 3 := by unfold encE; rw [hv]; rfl
    rw [e1, e2, e3] at hE
    clear e1 e2 e3 hI hb hv
    go_enter Tryd.func26, Tryd.ntmps26
    go_wp2_with fail
    refine hE.out.mono ?_
    rintro e w1 ⟨A1, c1, rfl, hO1, hb1⟩
    clear hE hO1
    go_wp2_with fail
    go_ret2
    exact RetBytes.nil_ hb1
end

/-! ### What the laws' walks share. -/
section
set_option maxRecDepth 100000
open Go.RowKit

theorem paL_byte {xs : List Int} (hb : Byte xs) (n : Nat) (h : ∀ j : Nat, j < n → xs[j]?.getD 0 ≤ 1) : Byte (paL xs n) := Byte.of_mem fun x hx => by
  obtain ⟨j, hj, rfl⟩ := List.mem_map.1 hx
  have hj := List.mem_range.1 hj
  have h0 := hb j
  have e : paK xs j = ((parS7 (stK xs j) (xs[j]?.getD 0).toNat : Nat) : Int) := by unfold paK goP; rw [if_pos (h j hj)]
  have := (step_lt _ (stK_lt hb j) (xs[j]?.getD 0).toNat (by have := h j hj; omega)).2
  rw [e]
  omega
theorem valid_all {xs : List Int} (hv : validB xs = true) : ∀ j : Nat, xs[j]?.getD 0 ≤ 1 := fun j => by
  simp only [validB, List.all_eq_true, decide_eq_true_eq] at hv
  rcases Nat.lt_or_ge j xs.length with h | h
  · have := hv _ (List.getElem_mem h)
    simpa [h] using this
  · simp [h]
theorem encR_byte {xs : List Int} (hb : Byte xs) : Byte (encR xs) := by
  unfold encR
  split
  · rename_i hv
    exact paL_byte hb _ (fun j _ => valid_all hv j)
  · exact Byte.of_mem (by simp)
theorem intsOf_byte {l : List Nat} (h : Bits7 l) : Byte (intsOf l) := Byte.of_mem fun x hx => by
  obtain ⟨y, hy, rfl⟩ := List.mem_map.1 hx
  have := h y hy
  omega
theorem Byte.append {a b : List Int} (ha : Byte a) (hb : Byte b) : Byte (a ++ b) := Byte.of_mem fun x hx => by
  rcases List.mem_append.1 hx with h | h
  · exact ha.mem x h
  · exact hb.mem x h
theorem wordS_byte {xs : List Int} (hb : Byte xs) : Byte (wordS xs).1 := by
  unfold wordS
  split
  · rename_i hv
    exact hb.append ((paL_byte hb _ (fun j _ => valid_all hv j)).append ((intsOf_byte (tailU_bits _)).append (intsOf_byte (parL_bits _ _ (stK_lt hb _) (tailU_bits _)))))
  · exact Byte.of_mem (by simp)
theorem same_true {A A' : Option Addr} {n c n' c' B B' : Nat} {xs : List Int} {w : World} (h : Rd .u8 w B A n xs) (h' : Rd .u8 w B' A' n' xs) (hx : Byte xs) :
    Calls Tryd.prog 13 #[.slice A n c, .slice A' n' c'] w fun e w' => e = .returned (.bool true) ∧ w' = w := by
  have := same_any (c := c) (c' := c') h h' hx hx
  rwa [decide_eq_true rfl] at this
end
end Go.Proofs.YtbpkoilecdejiaaDoor
