/-
  The law BitstrMetric returns true for every three byte slices, and leaves its arguments alone (no condition).
-/
import Derived.Test.YtdjnmebgiabecaaRows
import Derived.WalkKit
import Derived.Test.YtdjnmebgiabecaaFrame
import Derived.Test.YtdjnmebgiabecaaBits3
import Derived.ProofKit
import Derived.OpenShut
import Derived.ShutString
import Derived.ChangeOld
import Derived.Below
namespace Go.Proofs.Ytdjnmebgiabecaa.bitstrMetric
open Go.ChangeShapes Go.WideShapes Go.ChangeAt Go.RowKit
open Go.ChangeMaps (open_string shut_string)
set_option linter.unusedVariables false

theorem own : ownKnob Try.prog.godebug = none := by kernel_rfl
theorem laidOut : laidOutB Try.prog = true := by kernel_rfl

set_option maxRecDepth 100000 in
set_option maxHeartbeats 2000000 in
theorem walk (a0 : Option Addr) (len0 cap0 : Nat) (z0 : List Int) (a1 : Option Addr) (len1 cap1 : Nat) (z1 : List Int) (a2 : Option Addr) (len2 cap2 : Nat) (z2 : List Int) (w : World) (w0 : IsRow .u8 w a0 len0 cap0 z0) (w1 : IsRow .u8 w a1 len1 cap1 z1) (w2 : IsRow .u8 w a2 len2 cap2 z2) :
    Calls Try.prog 8 #[.slice a0 len0 cap0, .slice a1 len1 cap1, .slice a2 len2 cap2] w fun e w' => e = .returned (.bool true) ∧ Below w.heap.size w w' := by
  have hI0 := w0.rd
  have hx0 := w0.byte
  have hI1 := w1.rd
  have hx1 := w1.byte
  have hI2 := w2.rd
  have hx2 := w2.byte
  have hl0 := w0.rd.len
  have hl1 := w1.rd.len
  have hl2 := w2.rd.len
  generalize z0.take len0 = xs at hI0 hx0 hl0
  generalize z1.take len1 = ys at hI1 hx1 hl1
  generalize z2.take len2 = zs at hI2 hx2 hl2
  obtain ⟨n, hmin, hn0, hn1, hn2⟩ := min_three len0 len1 len2
  by_cases hlen : 500 < n
  · go_enter Try.func8, Try.ntmps8
    go_wp2_with fail
    refine (works_any _).mono ?_
    rintro e w1 ⟨rfl, hb1⟩
    go_wp2
    go_ret
    exact ⟨rfl, hb1⟩
  · have hn : n ≤ 500 := by omega
    -- an argument longer than memory bears is never read beyond its first n places
    have cX := Lib.hid (fun W (h : Rd .u8 W W.heap.size a0 len0 xs) => low_any (c := cap0) h (Nat.le_refl _) hx0 hn0 (by omega))
    have cY := Lib.hid (fun W (h : Rd .u8 W W.heap.size a1 len1 ys) => low_any (c := cap1) h (Nat.le_refl _) hx1 hn1 (by omega))
    have cZ := Lib.hid (fun W (h : Rd .u8 W W.heap.size a2 len2 zs) => low_any (c := cap2) h (Nat.le_refl _) hx2 hn2 (by omega))
    have bX := Lib.hid (lowL_bits xs n)
    have bY := Lib.hid (lowL_bits ys n)
    have bZ := Lib.hid (lowL_bits zs n)
    have lX := Lib.hid (lowL_length xs n)
    have lY := Lib.hid (lowL_length ys n)
    have lZ := Lib.hid (lowL_length zs n)
    clear hl0 hl1 hl2 hx0 hx1 hx2
    generalize lowL xs n = X at *
    generalize lowL ys n = Y at *
    generalize lowL zs n = Z at *
    have dXY : Hid (distS X Y = (weight (xorL X Y), 0)) := Lib.hid (by unfold distS; rw [xorS_bits bX.out bY.out (by rw [lX.out, lY.out])])
    have dYZ : Hid (distS Y Z = (weight (xorL Y Z), 0)) := Lib.hid (by unfold distS; rw [xorS_bits bY.out bZ.out (by rw [lY.out, lZ.out])])
    have dXZ : Hid (distS X Z = (weight (xorL X Z), 0)) := Lib.hid (by unfold distS; rw [xorS_bits bX.out bZ.out (by rw [lX.out, lZ.out])])
    have dYX : Hid (distS Y X = (weight (xorL X Y), 0)) := Lib.hid (by unfold distS; rw [xorS_bits bY.out bX.out (by rw [lX.out, lY.out]), dist_symm lX.out lY.out])
    have xXY := Lib.hid (xorS_bits bX.out bY.out (by rw [lX.out, lY.out]))
    have xXZ := Lib.hid (xorS_bits bX.out bZ.out (by rw [lX.out, lZ.out]))
    have xYZ := Lib.hid (xorS_bits bY.out bZ.out (by rw [lY.out, lZ.out]))
    have dD : Hid (distS (xorL X Z) (xorL Y Z) = (weight (xorL X Y), 0)) := Lib.hid (by unfold distS; rw [xorS_bits (xorL_bits _ _) (xorL_bits _ _) (by rw [xorL_length, xorL_length, lX.out, lY.out]), dist_add bX.out bY.out bZ.out lX.out lY.out])
    have hTri := dist_tri bX.out bY.out bZ.out lX.out lY.out
    have hP := weight_le (xorL X Y)
    have hQ := weight_le (xorL Y Z)
    have hR := weight_le (xorL X Z)
    rw [xorL_length] at hP hQ hR
    rw [lX.out] at hP hR
    rw [lY.out] at hQ
    have hZero : Hid ((weight (xorL X Y) == 0) = decide (X = Y)) := Lib.hid (by
      have := dist_zero bX.out bY.out lX.out lY.out
      rw [Bool.eq_iff_iff]; simp only [beq_iff_eq, decide_eq_true_eq]; exact this)
    have lU : Hid ((xorL X Y).length = n) := Lib.hid (by rw [xorL_length, lX.out])
    have lV : Hid ((xorL X Z).length = n) := Lib.hid (by rw [xorL_length, lX.out])
    have lW : Hid ((xorL Y Z).length = n) := Lib.hid (by rw [xorL_length, lY.out])
    have bU := Lib.hid (xorL_bits X Y)
    have bV := Lib.hid (xorL_bits X Z)
    have bW := Lib.hid (xorL_bits Y Z)
    generalize xorL X Y = U at *
    generalize xorL X Z = V at *
    generalize xorL Y Z = T at *
    obtain ⟨p, hp⟩ : ∃ p, weight U = p := ⟨_, rfl⟩
    obtain ⟨q, hq⟩ : ∃ q, weight T = q := ⟨_, rfl⟩
    obtain ⟨r, hr⟩ : ∃ r, weight V = r := ⟨_, rfl⟩
    rw [hp] at dXY dYX dD hTri hP hZero
    rw [hq] at dYZ hTri hQ
    rw [hr] at dXZ hTri hR
    have HU := Lib.hid hp
    clear hp hq hr
    go_enter Try.func8, Try.ntmps8
    go_wp2_with fail
    refine (cX.out _ hI0).mono ?_
    rintro e uX ⟨rfl, hown, hb⟩
    have hX := Rd.of_own hown
    clear hown
    replace hI0 := hI0.next0 hb
    replace hI1 := hI1.next0 hb
    replace hI2 := hI2.next0 hb
    have hB := hb
    clear hb
    go_wp2_with fail
    refine (cY.out _ hI1).mono ?_
    rintro e uY ⟨rfl, hown, hb⟩
    have hY := Rd.of_own hown
    clear hown
    replace hI0 := hI0.next0 hb
    replace hI1 := hI1.next0 hb
    replace hI2 := hI2.next0 hb
    replace hX := hX.next0 hb
    replace hB := below_next0 hB hb
    clear hb
    go_wp2_with fail
    refine (cZ.out _ hI2).mono ?_
    rintro e uZ ⟨rfl, hown, hb⟩
    have hZ := Rd.of_own hown
    clear hown
    replace hI0 := hI0.next0 hb
    replace hI1 := hI1.next0 hb
    replace hI2 := hI2.next0 hb
    replace hX := hX.next0 hb
    replace hY := hY.next0 hb
    replace hB := below_next0 hB hb
    clear hb
    clear hI0 hI1 hI2
    go_wp2_with fail
    refine (dist_any hX hY (Nat.le_refl _) bX.out.byte bY.out.byte (by omega)).mono ?_
    rintro e d1 ⟨he, hb⟩
    rw [dXY.out] at he
    subst he
    replace hX := hX.next0 hb
    replace hY := hY.next0 hb
    replace hZ := hZ.next0 hb
    replace hB := below_next0 hB hb
    clear hb
    go_wp2_with fail
    refine (dist_any hY hZ (Nat.le_refl _) bY.out.byte bZ.out.byte (by omega)).mono ?_
    rintro e d2 ⟨he, hb⟩
    rw [dYZ.out] at he
    subst he
    replace hX := hX.next0 hb
    replace hY := hY.next0 hb
    replace hZ := hZ.next0 hb
    replace hB := below_next0 hB hb
    clear hb
    go_wp2_with fail
    refine (dist_any hX hZ (Nat.le_refl _) bX.out.byte bZ.out.byte (by omega)).mono ?_
    rintro e d3 ⟨he, hb⟩
    rw [dXZ.out] at he
    subst he
    replace hX := hX.next0 hb
    replace hY := hY.next0 hb
    replace hZ := hZ.next0 hb
    replace hB := below_next0 hB hb
    clear hb
    go_wp2_with fail
    refine (dist_any hY hX (Nat.le_refl _) bY.out.byte bX.out.byte (by omega)).mono ?_
    rintro e d4 ⟨he, hb⟩
    rw [dYX.out] at he
    subst he
    replace hX := hX.next0 hb
    replace hY := hY.next0 hb
    replace hZ := hZ.next0 hb
    replace hB := below_next0 hB hb
    clear hb
    go_wp2_with fail
    refine (xor_any hX hY (Nat.le_refl _) bX.out.byte bY.out.byte (by omega)).mono ?_
    intro e x1 h1
    obtain ⟨A1, g1, rfl, hU, hb⟩ := h1.lit (n := n) xXY.out lU.out
    clear h1
    replace hX := hX.next0 hb
    replace hY := hY.next0 hb
    replace hZ := hZ.next0 hb
    replace hB := below_next0 hB hb
    clear hb
    go_wp2_with fail
    refine (xor_any hX hZ (Nat.le_refl _) bX.out.byte bZ.out.byte (by omega)).mono ?_
    intro e x2 h1
    obtain ⟨A2, g2, rfl, hV, hb⟩ := h1.lit (n := n) xXZ.out lV.out
    clear h1
    replace hX := hX.next0 hb
    replace hY := hY.next0 hb
    replace hZ := hZ.next0 hb
    replace hU := hU.next0 hb
    replace hB := below_next0 hB hb
    clear hb
    go_wp2_with fail
    refine (xor_any hY hZ (Nat.le_refl _) bY.out.byte bZ.out.byte (by omega)).mono ?_
    intro e x3 h1
    obtain ⟨A3, g3, rfl, hT, hb⟩ := h1.lit (n := n) xYZ.out lW.out
    clear h1
    replace hX := hX.next0 hb
    replace hY := hY.next0 hb
    replace hZ := hZ.next0 hb
    replace hU := hU.next0 hb
    replace hV := hV.next0 hb
    replace hB := below_next0 hB hb
    clear hb
    go_wp2_with fail
    refine (dist_any hV hT (Nat.le_refl _) bV.out.byte bW.out.byte (by omega)).mono ?_
    rintro e d5 ⟨he, hb⟩
    rw [dD.out] at he
    subst he
    replace hX := hX.next0 hb
    replace hY := hY.next0 hb
    replace hZ := hZ.next0 hb
    replace hU := hU.next0 hb
    replace hV := hV.next0 hb
    replace hT := hT.next0 hb
    replace hB := below_next0 hB hb
    clear hb
    go_wp2_with fail
    refine (num_any _ _).mono ?_
    rintro e w' ⟨rfl, rfl⟩
    go_wp2_with fail
    refine (num_any _ _).mono ?_
    rintro e w' ⟨rfl, rfl⟩
    go_wp2_with fail
    refine (num_any _ _).mono ?_
    rintro e w' ⟨rfl, rfl⟩
    go_wp2_with fail
    refine (num_any _ _).mono ?_
    rintro e w' ⟨rfl, rfl⟩
    go_wp2_with fail
    refine (num_any _ _).mono ?_
    rintro e w' ⟨rfl, rfl⟩
    go_wp2_with fail
    refine (num_any _ _).mono ?_
    rintro e w' ⟨rfl, rfl⟩
    go_wp2_with fail
    refine (num_any _ _).mono ?_
    rintro e w' ⟨rfl, rfl⟩
    go_wp2_with fail
    refine (num_any _ _).mono ?_
    rintro e w' ⟨rfl, rfl⟩
    go_wp2_with fail
    refine (same_any hX hY bX.out.byte bY.out.byte).mono ?_
    rintro e w' ⟨rfl, rfl⟩
    rw [← hZero.out]
    go_wp2_with fail
    refine (weight_any (by omega) hU (Nat.le_refl _)).mono ?_
    rintro e y1 ⟨he, hb⟩
    rw [HU.out] at he
    subst he
    replace hX := hX.next0 hb
    replace hY := hY.next0 hb
    replace hZ := hZ.next0 hb
    replace hU := hU.next0 hb
    replace hV := hV.next0 hb
    replace hT := hT.next0 hb
    replace hB := below_next0 hB hb
    clear hb
    go_wp2_with fail
    refine (works_any _).mono ?_
    rintro e y2 ⟨rfl, hb⟩
    replace hB := below_next0 hB hb
    go_wp2
    go_ret
    exact ⟨rfl, hB⟩

/-! ### THE ROW's STEP: WRITTEN OUT: LEAVE IT -/
set_option maxRecDepth 100000 in
theorem lifted (os : Os) (started : os.Started) (H : Type) (enc : TypeId × Value → H) :
    ReturnsInHanded {} Try.checked os 8 .any (Rows.bitstrMetricSpec.pre6 enc Try.prog Try.f8 Rows.bitstrMetricRow.domain false) (Rows.bitstrMetricSpec.post enc Try.prog Try.f8 false true false false) := by
  refine returnsInHanded_of_change (C := Try.checked) own started (by kernel_rfl) Try.func8
    (ChangeSpec.witness6 (enc := enc) (C := Try.checked) false ⟨#[], #[.slice none 0 0, .slice none 0 0, .slice none 0 0], []⟩ 8 (by kernel_rfl) (by kernel_rfl) (by kernel_rfl) (by kernel_rfl)) ?_
  intro W base args ds gs before hval0 hW hcnd _
  have hval : ∀ (j : Nat) t v, Try.f8.params[j]? = some t → args[j]? = some v → Value.okWide Try.prog W .any base t v := hval0
  have hW' := hW
  obtain ⟨p, q, hA0, hV, rfl, hfz, hnd⟩ := hW
  have hA : DataW.TrodAll enc Try.prog W 0 (fun _ => true) true Try.f8.params.toList args.toList ds p := hA0
  rw [Try.params8] at hA hval
  obtain ⟨v0, vs0, d0, ds0, p0, q0, hargs, rfl, rfl, h0, r0⟩ := trodAll_cons hA
  obtain ⟨v1, vs1, d1, ds1, p1, q1, rfl, rfl, rfl, h1, r1⟩ := trodAll_cons r0
  obtain ⟨v2, vs2, d2, ds2, p2, q2, rfl, rfl, rfl, h2, r2⟩ := trodAll_cons r1
  obtain ⟨rfl, rfl, rfl⟩ := trodAll_nil r2
  obtain rfl : args = #[v0, v1, v2] := by cases args; simp_all
  obtain ⟨rfl, rfl⟩ := trodVars_none hV
  obtain ⟨a0, len0, cap0, rfl⟩ := okWide_slice Try.underlying22 (hval 0 22 v0 rfl rfl)
  have k0 := h0
  have lt0 : ∀ x ∈ p0, x.block < W.heap.size := by obtain ⟨m, hm⟩ := k0; exact DataW.trod_lt m _ _ _ hm
  obtain ⟨z0, w0⟩ : ∃ zs, IsRow .u8 W a0 len0 cap0 zs := by
    obtain ⟨fuel, hf⟩ := h0
    rcases open_ints Try.underlying22 Try.underlying5 (by kernel_rfl) hf with ⟨hcs, _⟩ | ⟨x, l, c, zs, hcs, _, hl, hm, hz, _, hcell, hwz⟩
    · simp [Value.cells] at hcs
      obtain ⟨rfl, rfl, rfl⟩ := hcs
      exact ⟨[], .inl ⟨rfl, rfl, rfl, rfl⟩⟩
    · simp [Value.cells] at hcs
      obtain ⟨rfl, rfl, rfl⟩ := hcs
      exact ⟨zs, .inr ⟨_, rfl, hl, hm, by simpa using hz, hcell, hwz⟩⟩
  obtain ⟨a1, len1, cap1, rfl⟩ := okWide_slice Try.underlying22 (hval 1 22 v1 rfl rfl)
  have k1 := h1
  have lt1 : ∀ x ∈ p1, x.block < W.heap.size := by obtain ⟨m, hm⟩ := k1; exact DataW.trod_lt m _ _ _ hm
  obtain ⟨z1, w1⟩ : ∃ zs, IsRow .u8 W a1 len1 cap1 zs := by
    obtain ⟨fuel, hf⟩ := h1
    rcases open_ints Try.underlying22 Try.underlying5 (by kernel_rfl) hf with ⟨hcs, _⟩ | ⟨x, l, c, zs, hcs, _, hl, hm, hz, _, hcell, hwz⟩
    · simp [Value.cells] at hcs
      obtain ⟨rfl, rfl, rfl⟩ := hcs
      exact ⟨[], .inl ⟨rfl, rfl, rfl, rfl⟩⟩
    · simp [Value.cells] at hcs
      obtain ⟨rfl, rfl, rfl⟩ := hcs
      exact ⟨zs, .inr ⟨_, rfl, hl, hm, by simpa using hz, hcell, hwz⟩⟩
  obtain ⟨a2, len2, cap2, rfl⟩ := okWide_slice Try.underlying22 (hval 2 22 v2 rfl rfl)
  have k2 := h2
  have lt2 : ∀ x ∈ p2, x.block < W.heap.size := by obtain ⟨m, hm⟩ := k2; exact DataW.trod_lt m _ _ _ hm
  obtain ⟨z2, w2⟩ : ∃ zs, IsRow .u8 W a2 len2 cap2 zs := by
    obtain ⟨fuel, hf⟩ := h2
    rcases open_ints Try.underlying22 Try.underlying5 (by kernel_rfl) hf with ⟨hcs, _⟩ | ⟨x, l, c, zs, hcs, _, hl, hm, hz, _, hcell, hwz⟩
    · simp [Value.cells] at hcs
      obtain ⟨rfl, rfl, rfl⟩ := hcs
      exact ⟨[], .inl ⟨rfl, rfl, rfl, rfl⟩⟩
    · simp [Value.cells] at hcs
      obtain ⟨rfl, rfl, rfl⟩ := hcs
      exact ⟨zs, .inr ⟨_, rfl, hl, hm, by simpa using hz, hcell, hwz⟩⟩
  clear hA0 hval0
  refine (walk a0 len0 cap0 z0 a1 len1 cap1 z1 a2 len2 cap2 z2 W w0 w1 w2).mono fun e W' ⟨he, bel⟩ => ?_
  subst he
  exact ⟨_, rfl, _, _, _, [], _, [], hW', trodAll_mk1 (shut_bool Try.underlying4 _), (trodAll_cons_mk (Below.trod laidOut (by kernel_rfl) (of_decide_eq_true (by kernel_rfl)) k0 bel lt0) (trodAll_cons_mk (Below.trod laidOut (by kernel_rfl) (of_decide_eq_true (by kernel_rfl)) k1 bel lt1) (trodAll_cons_mk (Below.trod laidOut (by kernel_rfl) (of_decide_eq_true (by kernel_rfl)) k2 bel lt2) trodAll_mk0))), rfl, bel.frame _, fun h => by cases h⟩

theorem over : Rows.bitstrMetricRow.holds Try.pinned (OpenSpec.ofChange Rows.bitstrMetricSpec) :=
  OpenClaim.holds_of_wide 8 Try.f8 rfl rfl rfl rfl rfl rfl rfl ⟨rfl, rfl, rfl, rfl, rfl⟩ rfl rfl rfl rfl rfl (by kernel_rfl) Try.func8 (by kernel_rfl)
    (of_decide_eq_true (by kernel_rfl)) (by unfold Func.isWrapper; first | (rw [if_pos (by decide +kernel)]; kernel_rfl) | (rw [if_neg (by decide +kernel)]; exact ⟨rfl, rfl⟩))
    (fun os started H enc _ => lifted os started H enc)

/-- ████ THE STATEMENT ████ -/
theorem proved : Rows.BitstrMetricSaid := over
end Go.Proofs.Ytdjnmebgiabecaa.bitstrMetric
