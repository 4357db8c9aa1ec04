/-
  The law BitstrHolds returns true for every byte slice, value and number, and leaves its arguments alone (no condition).
-/
import Derived.Test.YtdjnmebgiabecaaRows
import Derived.WalkKit
import Derived.Test.YtdjnmebgiabecaaFrame
import Derived.Test.YtdjnmebgiabecaaBits3
import Derived.ProofKit
import Derived.OpenShut
import Derived.ShutString
import Derived.ChangeOld
import Derived.Below
namespace Go.Proofs.Ytdjnmebgiabecaa.bitstrHolds
open Go.ChangeShapes Go.WideShapes Go.ChangeAt Go.RowKit
open Go.ChangeMaps (open_string shut_string)
set_option linter.unusedVariables false

theorem own : ownKnob Try.prog.godebug = none := by kernel_rfl
theorem laidOut : laidOutB Try.prog = true := by kernel_rfl

set_option maxRecDepth 100000 in
set_option maxHeartbeats 2000000 in
theorem walk (a0 : Option Addr) (len0 cap0 : Nat) (z0 : List Int) (a1 : Int) (a2 : Int) (w : World) (w0 : IsRow .u8 w a0 len0 cap0 z0) (w1 : (Lit.int .u64 a1).wf = true) (w2 : (Lit.int .u8 a2).wf = true) :
    Calls Try.prog 9 #[.slice a0 len0 cap0, .int .u64 a1, .int .u8 a2] w fun e w' => e = .returned (.bool true) ∧ Below w.heap.size w w' := by
  have hI := w0.rd
  have hx := w0.byte
  have hcap := w0.len_le
  have hv := wf_u64 w1
  have hn8 := wf_u8 w2
  generalize z0.take len0 = xs at hI hx
  by_cases hlen : 500 < len0
  · go_enter Try.func9, Try.ntmps9
    go_wp2_with fail
    refine (works_any _).mono ?_
    rintro e w1 ⟨rfl, hb1⟩
    go_wp2
    go_ret
    exact ⟨rfl, hb1⟩
  · have hn : len0 ≤ 500 := by omega
    have hl := Lib.hid hI.len
    have HV := Lib.hid hv; clear hv
    have hlow := lowL_bits xs len0
    have hlowl := lowL_length xs len0
    have cLow := Lib.hid (low_any (c := cap0) hI (Nat.le_refl _) hx (Nat.le_refl _) (by omega))
    have hP := Lib.hid (packS_bits hlow)
    have hU := Lib.hid (unpackS_ok (p := packL (lowL xs len0)) (m := len0) (by rw [packL_length, hlowl]; omega))
    have hUP : Hid (unpackL (packL (lowL xs len0)) len0 = lowL xs len0) := Lib.hid (by have := unpack_pack hlow; rw [hlowl] at this; exact this)
    have hU2 : Hid (unpackS xs (8 * (len0 : Int)) = (unpackL xs (8 * len0), 0)) := Lib.hid (by
      have := unpackS_ok (p := xs) (m := 8 * len0) (by rw [hl.out]; omega)
      rw [← this]; congr 1)
    have hP2 := Lib.hid (packS_bits (unpackL_bits xs (8 * len0)))
    have hPU : Hid (packL (unpackL xs (8 * len0)) = xs) := Lib.hid (by have := pack_unpack hx; rw [hl.out] at this; exact this)
    have hLow := Lib.hid hlow
    have hLowl := Lib.hid hlowl
    clear hlow hlowl
    obtain ⟨k, hk⟩ : ∃ k : Nat, a2 % 65 = (k : Int) := ⟨(a2 % 65).toNat, by omega⟩
    have hk64 : k ≤ 64 := by omega
    have hv0 := HV.out.1
    have hv1 : a1 ≤ 18446744073709551615 := by have := HV.out.2; omega
    go_enter Try.func9, Try.ntmps9
    go_wp2_with fail
    refine cLow.out.mono ?_
    rintro e w1 ⟨rfl, hown, hb1⟩
    have hX := Rd.of_own hown
    clear hown
    have hI1 := hI.next0 hb1
    have hXb := hLow.out.byte
    generalize lowL xs len0 = X at *
    go_wp2_with fail
    refine (pack_any hX (Nat.le_refl _) hXb (by omega) (Nat.le_refl _)).mono ?_
    intro e w2 h1
    obtain ⟨A2, d2, rfl, hR2, hb2⟩ := h1.lit (n := (len0 + 7) / 8) hP.out (by rw [packL_length, hLowl.out])
    clear h1
    have hPb := byte_packL hLow.out
    replace hI1 := hI1.next0 hb2
    replace hX := hX.next0 hb2
    replace hb1 := below_next0 hb1 hb2
    clear hb2
    generalize packL X = PX at *
    go_wp2_with fail
    refine (unpack_any hR2 (Nat.le_refl _) hPb (by omega) (by omega)).mono ?_
    intro e w3 h1
    obtain ⟨A3, d3, rfl, hR3, hb2⟩ := h1.lit (n := len0) hU.out (unpackL_length _ _)
    clear h1
    rw [hUP.out] at hR3
    replace hI1 := hI1.next0 hb2
    replace hX := hX.next0 hb2
    replace hb1 := below_next0 hb1 hb2
    clear hb2 hR2
    go_wp2_with fail
    refine (unpack_any hI1 (Nat.le_refl _) hx (by omega) (by omega)).mono ?_
    intro e w4 h1
    obtain ⟨A4, d4, rfl, hR4, hb2, hc4⟩ := h1.litc (n := 8 * len0) hU2.out (unpackL_length _ _)
    clear h1
    have hZb := (unpackL_bits xs (8 * len0)).byte
    replace hI1 := hI1.next0 hb2
    replace hX := hX.next0 hb2
    replace hR3 := hR3.next0 hb2
    replace hb1 := below_next0 hb1 hb2
    clear hb2
    generalize unpackL xs (8 * len0) = Z at *
    go_wp2_with fail
    refine (pack_any hR4 (Nat.le_refl _) hZb (by omega) hc4).mono ?_
    intro e w5 h1
    obtain ⟨A5, d5, rfl, hR5, hb2⟩ := h1.lit (n := len0) hP2.out (by rw [hPU.out, hl.out])
    clear h1
    rw [hPU.out] at hR5
    replace hI1 := hI1.next0 hb2
    replace hX := hX.next0 hb2
    replace hR3 := hR3.next0 hb2
    replace hb1 := below_next0 hb1 hb2
    clear hb2 hR4
    go_wp2_with fail
    refine (num_any _ _).mono ?_
    rintro e w' ⟨rfl, rfl⟩
    go_wp2_with fail
    refine (num_any _ _).mono ?_
    rintro e w' ⟨rfl, rfl⟩
    go_wp2_with fail
    refine (num_any _ _).mono ?_
    rintro e w' ⟨rfl, rfl⟩
    go_wp2_with fail
    refine (num_any _ _).mono ?_
    rintro e w' ⟨rfl, rfl⟩
    go_wp2_with fail
    have hs := same_true (c := d3) (c' := len0) hR3 hX hXb
    refine hs.mono ?_
    rintro e w' ⟨rfl, rfl⟩
    clear hs
    go_wp2_with fail
    have hs := same_true (c := d5) (c' := cap0) hR5 hI1 hx
    refine hs.mono ?_
    rintro e w' ⟨rfl, rfl⟩
    clear hs
    by_cases hk' : k < 64
    · obtain ⟨P, hP1, hP2', hP3, hP4⟩ := shl_one hk'
      have hP5 := Lib.hid hP4; clear hP4
      have hm0 : 0 ≤ a1 % P := Int.emod_nonneg _ (by omega)
      have hm1 : a1 % P < P := Int.emod_lt_of_pos _ (by omega)
      have hF := Lib.hid (fromUintS_ok (v := a1 % P) (n := k) hm0 (by rw [hP5.out]; exact hm1) hk64)
      have hV : Hid (uintS (fromUintL (a1 % P) k) = (a1 % P, 0)) := Lib.hid (by rw [uintS_bits (fromUintL_bits _ _) (by rw [fromUintL_length]; exact hk64), valueOf_fromUintL k _ hm0 (by rw [hP5.out]; exact hm1)])
      have hFb := (fromUintL_bits (a1 % P) k).byte
      go_wp2_with fail
      refine (fromUint_any (by omega)).mono ?_
      intro e w6 h1
      obtain ⟨A6, d6, rfl, hR6, hb2⟩ := h1.lit (n := k) hF.out (fromUintL_length _ _)
      clear h1
      replace hb1 := below_next0 hb1 hb2
      clear hb2
      go_wp2_with fail
      refine (uint_any hR6 (Nat.le_refl _) hFb (by omega)).mono ?_
      rintro e w7 ⟨he, hb2⟩
      rw [hV.out] at he
      subst he
      replace hb1 := below_next0 hb1 hb2
      clear hb2
      go_wp2_with fail
      refine (num_any _ _).mono ?_
      rintro e w' ⟨rfl, rfl⟩
      go_wp2_with fail
      refine (num_any _ _).mono ?_
      rintro e w' ⟨rfl, rfl⟩
      go_wp2_with fail
      refine (works_any _).mono ?_
      rintro e w8 ⟨rfl, hb2⟩
      replace hb1 := below_next0 hb1 hb2
      go_wp2
      go_ret
      exact ⟨rfl, hb1⟩
    · have hk2 : k = 64 := by omega
      have hF := Lib.hid (fromUintS_ok (v := a1) (n := k) hv0 (by subst hk2; omega) hk64)
      have hV : Hid (uintS (fromUintL a1 k) = (a1, 0)) := Lib.hid (by rw [uintS_bits (fromUintL_bits _ _) (by rw [fromUintL_length]; exact hk64), valueOf_fromUintL k _ hv0 (by subst hk2; omega)])
      have hFb := (fromUintL_bits a1 k).byte
      clear hk2
      go_wp2_with fail
      refine (fromUint_any (by omega)).mono ?_
      intro e w6 h1
      obtain ⟨A6, d6, rfl, hR6, hb2⟩ := h1.lit (n := k) hF.out (fromUintL_length _ _)
      clear h1
      replace hb1 := below_next0 hb1 hb2
      clear hb2
      go_wp2_with fail
      refine (uint_any hR6 (Nat.le_refl _) hFb (by omega)).mono ?_
      rintro e w7 ⟨he, hb2⟩
      rw [hV.out] at he
      subst he
      replace hb1 := below_next0 hb1 hb2
      clear hb2
      go_wp2_with fail
      refine (num_any _ _).mono ?_
      rintro e w' ⟨rfl, rfl⟩
      go_wp2_with fail
      refine (num_any _ _).mono ?_
      rintro e w' ⟨rfl, rfl⟩
      go_wp2_with fail
      refine (works_any _).mono ?_
      rintro e w8 ⟨rfl, hb2⟩
      replace hb1 := below_next0 hb1 hb2
      go_wp2
      go_ret
      exact ⟨rfl, hb1⟩

/-! ### THE ROW's STEP: WRITTEN OUT: LEAVE IT -/
set_option maxRecDepth 100000 in
theorem lifted (os : Os) (started : os.Started) (H : Type) (enc : TypeId × Value → H) :
    ReturnsInHanded {} Try.checked os 9 .any (Rows.bitstrHoldsSpec.pre6 enc Try.prog Try.f9 Rows.bitstrHoldsRow.domain false) (Rows.bitstrHoldsSpec.post enc Try.prog Try.f9 false true false false) := by
  refine returnsInHanded_of_change (C := Try.checked) own started (by kernel_rfl) Try.func9
    (ChangeSpec.witness6 (enc := enc) (C := Try.checked) false ⟨#[], #[.slice none 0 0, .int .u64 0, .int .u8 0], []⟩ 8 (by kernel_rfl) (by kernel_rfl) (by kernel_rfl) (by kernel_rfl)) ?_
  intro W base args ds gs before hval0 hW hcnd _
  have hval : ∀ (j : Nat) t v, Try.f9.params[j]? = some t → args[j]? = some v → Value.okWide Try.prog W .any base t v := hval0
  have hW' := hW
  obtain ⟨p, q, hA0, hV, rfl, hfz, hnd⟩ := hW
  have hA : DataW.TrodAll enc Try.prog W 0 (fun _ => true) true Try.f9.params.toList args.toList ds p := hA0
  rw [Try.params9] at hA hval
  obtain ⟨v0, vs0, d0, ds0, p0, q0, hargs, rfl, rfl, h0, r0⟩ := trodAll_cons hA
  obtain ⟨v1, vs1, d1, ds1, p1, q1, rfl, rfl, rfl, h1, r1⟩ := trodAll_cons r0
  obtain ⟨v2, vs2, d2, ds2, p2, q2, rfl, rfl, rfl, h2, r2⟩ := trodAll_cons r1
  obtain ⟨rfl, rfl, rfl⟩ := trodAll_nil r2
  obtain rfl : args = #[v0, v1, v2] := by cases args; simp_all
  obtain ⟨rfl, rfl⟩ := trodVars_none hV
  obtain ⟨a0, len0, cap0, rfl⟩ := okWide_slice Try.underlying22 (hval 0 22 v0 rfl rfl)
  have k0 := h0
  have lt0 : ∀ x ∈ p0, x.block < W.heap.size := by obtain ⟨m, hm⟩ := k0; exact DataW.trod_lt m _ _ _ hm
  obtain ⟨z0, w0⟩ : ∃ zs, IsRow .u8 W a0 len0 cap0 zs := by
    obtain ⟨fuel, hf⟩ := h0
    rcases open_ints Try.underlying22 Try.underlying5 (by kernel_rfl) hf with ⟨hcs, _⟩ | ⟨x, l, c, zs, hcs, _, hl, hm, hz, _, hcell, hwz⟩
    · simp [Value.cells] at hcs
      obtain ⟨rfl, rfl, rfl⟩ := hcs
      exact ⟨[], .inl ⟨rfl, rfl, rfl, rfl⟩⟩
    · simp [Value.cells] at hcs
      obtain ⟨rfl, rfl, rfl⟩ := hcs
      exact ⟨zs, .inr ⟨_, rfl, hl, hm, by simpa using hz, hcell, hwz⟩⟩
  obtain ⟨a1, rfl, rfl, rfl, w1⟩ := open_int Try.underlying35 (hval 1 35 v1 rfl rfl) h1
  obtain ⟨a2, rfl, rfl, rfl, w2⟩ := open_int Try.underlying5 (hval 2 5 v2 rfl rfl) h2
  clear hA0 hval0
  refine (walk a0 len0 cap0 z0 a1 a2 W w0 w1 w2).mono fun e W' ⟨he, bel⟩ => ?_
  subst he
  exact ⟨_, rfl, _, _, _, [], _, [], hW', trodAll_mk1 (shut_bool Try.underlying4 _), (trodAll_cons_mk (Below.trod laidOut (by kernel_rfl) (of_decide_eq_true (by kernel_rfl)) k0 bel lt0) (trodAll_cons_mk (shut_int Try.underlying35 w1) (trodAll_cons_mk (shut_int Try.underlying5 w2) trodAll_mk0))), rfl, bel.frame _, fun h => by cases h⟩

theorem over : Rows.bitstrHoldsRow.holds Try.pinned (OpenSpec.ofChange Rows.bitstrHoldsSpec) :=
  OpenClaim.holds_of_wide 9 Try.f9 rfl rfl rfl rfl rfl rfl rfl ⟨rfl, rfl, rfl, rfl, rfl⟩ rfl rfl rfl rfl rfl (by kernel_rfl) Try.func9 (by kernel_rfl)
    (of_decide_eq_true (by kernel_rfl)) (by unfold Func.isWrapper; first | (rw [if_pos (by decide +kernel)]; kernel_rfl) | (rw [if_neg (by decide +kernel)]; exact ⟨rfl, rfl⟩))
    (fun os started H enc _ => lifted os started H enc)

/-- ████ THE STATEMENT ████ -/
theorem proved : Rows.BitstrHoldsSaid := over
end Go.Proofs.Ytdjnmebgiabecaa.bitstrHolds
