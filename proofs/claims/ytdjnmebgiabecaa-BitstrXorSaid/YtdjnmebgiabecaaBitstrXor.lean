/-
  The law BitstrXor returns true for every two byte slices, and leaves its arguments alone (no condition).
-/
import Derived.Test.YtdjnmebgiabecaaRows
import Derived.WalkKit
import Derived.Test.YtdjnmebgiabecaaFrame
import Derived.Test.YtdjnmebgiabecaaBits3
import Derived.ProofKit
import Derived.OpenShut
import Derived.ShutString
import Derived.ChangeOld
import Derived.Below
namespace Go.Proofs.Ytdjnmebgiabecaa.bitstrXor
open Go.ChangeShapes Go.WideShapes Go.ChangeAt Go.RowKit
open Go.ChangeMaps (open_string shut_string)
set_option linter.unusedVariables false

theorem own : ownKnob Try.prog.godebug = none := by kernel_rfl
theorem laidOut : laidOutB Try.prog = true := by kernel_rfl

set_option maxRecDepth 100000 in
set_option maxHeartbeats 2000000 in
theorem walk (a0 : Option Addr) (len0 cap0 : Nat) (z0 : List Int) (a1 : Option Addr) (len1 cap1 : Nat) (z1 : List Int) (w : World) (w0 : IsRow .u8 w a0 len0 cap0 z0) (w1 : IsRow .u8 w a1 len1 cap1 z1) :
    Calls Try.prog 5 #[.slice a0 len0 cap0, .slice a1 len1 cap1] w fun e w' => e = .returned (.bool true) ∧ Below w.heap.size w w' := by
  have hI0 := w0.rd
  have hx0 := w0.byte
  have hI1 := w1.rd
  have hx1 := w1.byte
  have hll := w0.rd.len
  generalize z0.take len0 = xs at hI0 hx0 hll
  generalize z1.take len1 = ys at hI1 hx1
  by_cases h0 : 1000 < len0
  · go_enter Try.func5, Try.ntmps5
    go_wp2_with fail
    refine (works_any _).mono ?_
    rintro e w1 ⟨rfl, hb1⟩
    go_wp2
    go_ret
    exact ⟨rfl, hb1⟩
  by_cases h1 : 1000 < len1
  · go_enter Try.func5, Try.ntmps5
    go_wp2_with fail
    refine (works_any _).mono ?_
    rintro e w1 ⟨rfl, hb1⟩
    go_wp2
    go_ret
    exact ⟨rfl, hb1⟩
  · have hl0 : len0 ≤ 1000 := by omega
    have hl1 : len1 ≤ 1000 := by omega
    have hbp := byte_xorS xs ys
    have hlr : (xorS xs ys).1.length ≤ 1000 := by have := xorS_len xs ys; omega
    have c1 := Lib.hid (fun W (h : Rd .u8 W W.heap.size a0 len0 xs) (h' : Rd .u8 W W.heap.size a1 len1 ys) => xor_any (c := cap0) (c' := cap1) h h' (Nat.le_refl _) hx0 hx1 (by omega))
    have c2 := Lib.hid (fun W (h : Rd .u8 W W.heap.size a0 len0 xs) (h' : Rd .u8 W W.heap.size a1 len1 ys) => refXor_any (c := cap0) (c' := cap1) h h' (Nat.le_refl _) hx0 hx1 (by omega))
    have c3 := Lib.hid (fun W (h : Rd .u8 W W.heap.size a0 len0 xs) (h' : Rd .u8 W W.heap.size a1 len1 ys) => dist_any (c := cap0) (c' := cap1) h h' (Nat.le_refl _) hx0 hx1 (by omega))
    unfold distS at c3
    clear hll
    generalize xorS xs ys = r at c1 c2 c3 hbp hlr
    obtain ⟨R, rk⟩ := r
    simp only [] at c3 hlr
    go_enter Try.func5, Try.ntmps5
    go_wp2_with fail
    refine (c1.out _ hI0 hI1).mono ?_
    intro e v1 h1
    obtain ⟨A1, g1, rfl, hX, hb⟩ := h1.lit (r := R) (k := rk) (n := R.length) rfl rfl
    clear h1
    replace hI0 := hI0.next0 hb
    replace hI1 := hI1.next0 hb
    have hB := hb
    clear hb
    go_wp2_with fail
    refine (c2.out _ hI0 hI1).mono ?_
    intro e v2 h1
    obtain ⟨A2, g2, rfl, hY, hb⟩ := h1.lit (r := R) (k := rk) (n := R.length) rfl rfl
    clear h1
    replace hI0 := hI0.next0 hb
    replace hI1 := hI1.next0 hb
    replace hX := hX.next0 hb
    replace hB := below_next0 hB hb
    clear hb
    go_wp2_with fail
    refine (c3.out _ hI0 hI1).mono ?_
    rintro e v3 ⟨rfl, hb⟩
    replace hI0 := hI0.next0 hb
    replace hI1 := hI1.next0 hb
    replace hX := hX.next0 hb
    replace hY := hY.next0 hb
    replace hB := below_next0 hB hb
    clear hb
    go_wp2_with fail
    have hs := same_true (c := g1) (c' := g2) hX hY hbp
    refine hs.mono ?_
    rintro e w' ⟨rfl, rfl⟩
    clear hs
    go_wp2_with fail
    refine (num_any _ _).mono ?_
    rintro e w' ⟨rfl, rfl⟩
    go_wp2_with fail
    refine (num_any _ _).mono ?_
    rintro e w' ⟨rfl, rfl⟩
    go_wp2_with fail
    refine (refWeight_any hY (by omega)).mono ?_
    rintro e w' ⟨rfl, rfl⟩
    go_wp2_with fail
    refine (weight_any (by omega) hI0 (Nat.le_refl _)).mono ?_
    rintro e v4 ⟨rfl, hb⟩
    replace hI0 := hI0.next0 hb
    replace hI1 := hI1.next0 hb
    replace hX := hX.next0 hb
    replace hY := hY.next0 hb
    replace hB := below_next0 hB hb
    clear hb
    go_wp2_with fail
    refine (refWeight_any hI0 (by omega)).mono ?_
    rintro e w' ⟨rfl, rfl⟩
    go_wp2_with fail
    refine (works_any _).mono ?_
    rintro e v99 ⟨rfl, hb⟩
    replace hB := below_next0 hB hb
    go_wp2
    go_ret
    exact ⟨rfl, hB⟩

/-! ### THE ROW's STEP: WRITTEN OUT: LEAVE IT -/
set_option maxRecDepth 100000 in
theorem lifted (os : Os) (started : os.Started) (H : Type) (enc : TypeId × Value → H) :
    ReturnsInHanded {} Try.checked os 5 .any (Rows.bitstrXorSpec.pre6 enc Try.prog Try.f5 Rows.bitstrXorRow.domain false) (Rows.bitstrXorSpec.post enc Try.prog Try.f5 false true false false) := by
  refine returnsInHanded_of_change (C := Try.checked) own started (by kernel_rfl) Try.func5
    (ChangeSpec.witness6 (enc := enc) (C := Try.checked) false ⟨#[], #[.slice none 0 0, .slice none 0 0], []⟩ 8 (by kernel_rfl) (by kernel_rfl) (by kernel_rfl) (by kernel_rfl)) ?_
  intro W base args ds gs before hval0 hW hcnd _
  have hval : ∀ (j : Nat) t v, Try.f5.params[j]? = some t → args[j]? = some v → Value.okWide Try.prog W .any base t v := hval0
  have hW' := hW
  obtain ⟨p, q, hA0, hV, rfl, hfz, hnd⟩ := hW
  have hA : DataW.TrodAll enc Try.prog W 0 (fun _ => true) true Try.f5.params.toList args.toList ds p := hA0
  rw [Try.params5] at hA hval
  obtain ⟨v0, vs0, d0, ds0, p0, q0, hargs, rfl, rfl, h0, r0⟩ := trodAll_cons hA
  obtain ⟨v1, vs1, d1, ds1, p1, q1, rfl, rfl, rfl, h1, r1⟩ := trodAll_cons r0
  obtain ⟨rfl, rfl, rfl⟩ := trodAll_nil r1
  obtain rfl : args = #[v0, v1] := by cases args; simp_all
  obtain ⟨rfl, rfl⟩ := trodVars_none hV
  obtain ⟨a0, len0, cap0, rfl⟩ := okWide_slice Try.underlying22 (hval 0 22 v0 rfl rfl)
  have k0 := h0
  have lt0 : ∀ x ∈ p0, x.block < W.heap.size := by obtain ⟨m, hm⟩ := k0; exact DataW.trod_lt m _ _ _ hm
  obtain ⟨z0, w0⟩ : ∃ zs, IsRow .u8 W a0 len0 cap0 zs := by
    obtain ⟨fuel, hf⟩ := h0
    rcases open_ints Try.underlying22 Try.underlying5 (by kernel_rfl) hf with ⟨hcs, _⟩ | ⟨x, l, c, zs, hcs, _, hl, hm, hz, _, hcell, hwz⟩
    · simp [Value.cells] at hcs
      obtain ⟨rfl, rfl, rfl⟩ := hcs
      exact ⟨[], .inl ⟨rfl, rfl, rfl, rfl⟩⟩
    · simp [Value.cells] at hcs
      obtain ⟨rfl, rfl, rfl⟩ := hcs
      exact ⟨zs, .inr ⟨_, rfl, hl, hm, by simpa using hz, hcell, hwz⟩⟩
  obtain ⟨a1, len1, cap1, rfl⟩ := okWide_slice Try.underlying22 (hval 1 22 v1 rfl rfl)
  have k1 := h1
  have lt1 : ∀ x ∈ p1, x.block < W.heap.size := by obtain ⟨m, hm⟩ := k1; exact DataW.trod_lt m _ _ _ hm
  obtain ⟨z1, w1⟩ : ∃ zs, IsRow .u8 W a1 len1 cap1 zs := by
    obtain ⟨fuel, hf⟩ := h1
    rcases open_ints Try.underlying22 Try.underlying5 (by kernel_rfl) hf with ⟨hcs, _⟩ | ⟨x, l, c, zs, hcs, _, hl, hm, hz, _, hcell, hwz⟩
    · simp [Value.cells] at hcs
      obtain ⟨rfl, rfl, rfl⟩ := hcs
      exact ⟨[], .inl ⟨rfl, rfl, rfl, rfl⟩⟩
    · simp [Value.cells] at hcs
      obtain ⟨rfl, rfl, rfl⟩ := hcs
      exact ⟨zs, .inr ⟨_, rfl, hl, hm, by simpa using hz, hcell, hwz⟩⟩
  clear hA0 hval0
  refine (walk a0 len0 cap0 z0 a1 len1 cap1 z1 W w0 w1).mono fun e W' ⟨he, bel⟩ => ?_
  subst he
  exact ⟨_, rfl, _, _, _, [], _, [], hW', trodAll_mk1 (shut_bool Try.underlying4 _), (trodAll_cons_mk (Below.trod laidOut (by kernel_rfl) (of_decide_eq_true (by kernel_rfl)) k0 bel lt0) (trodAll_cons_mk (Below.trod laidOut (by kernel_rfl) (of_decide_eq_true (by kernel_rfl)) k1 bel lt1) trodAll_mk0)), rfl, bel.frame _, fun h => by cases h⟩

theorem over : Rows.bitstrXorRow.holds Try.pinned (OpenSpec.ofChange Rows.bitstrXorSpec) :=
  OpenClaim.holds_of_wide 5 Try.f5 rfl rfl rfl rfl rfl rfl rfl ⟨rfl, rfl, rfl, rfl, rfl⟩ rfl rfl rfl rfl rfl (by kernel_rfl) Try.func5 (by kernel_rfl)
    (of_decide_eq_true (by kernel_rfl)) (by unfold Func.isWrapper; first | (rw [if_pos (by decide +kernel)]; kernel_rfl) | (rw [if_neg (by decide +kernel)]; exact ⟨rfl, rfl⟩))
    (fun os started H enc _ => lifted os started H enc)

/-- ████ THE STATEMENT ████ -/
theorem proved : Rows.BitstrXorSaid := over
end Go.Proofs.Ytdjnmebgiabecaa.bitstrXor
