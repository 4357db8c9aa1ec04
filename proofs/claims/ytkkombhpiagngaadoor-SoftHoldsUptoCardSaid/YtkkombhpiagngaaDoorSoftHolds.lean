/-
  SoftHolds returns true for any three integers, any soft values, any bits and any magnitude: THE THEOREM OF STAGE 11: the saturating sum is commutative, monotonic and neutral for 0, and associative for values of one sign; ideal soft values have the bits as hard decisions, and adding them never makes more elements wrong.
  Conditions: what it reads is of bulk at most 1048576 (the form's second statement: for 2^46 bits, which no machine holds, Ideal's make panics); the package-level variable that the row lists holds what the program's own initialiser lays (tied to the program's text by the given tie).
-/
import Derived.Test.YtkkombhpiagngaaDoorTie
import Derived.Test.YtkkombhpiagngaaDoorCards
import Derived.SevenTiedAt
import Derived.Deep.DeepHandedRow
import Derived.Deep.DeepWitnessRowRef
import Derived.SizedLaws
import Derived.WalkKit
import Derived.Test.YtkkombhpiagngaaDoorOpen
import Derived.Test.YtkkombhpiagngaaDoorL4
import Derived.ShutString
import Derived.Below
namespace Go.Proofs.YtkkombhpiagngaaDoor.softHolds
open Go.ChangeShapes Go.WideShapes Go.ChangeAt Go.RowKit Go.Deep
set_option linter.unusedVariables false

theorem bulk_lits {H : Type} (k : IntKind) (zs : List Int) : Rows.uptoBulkAll (lits (H := H) k zs) = zs.length := by
  induction zs with
  | nil => rfl
  | cons z zs ih =>
    show Rows.uptoBulk (DataW.lit (.int k z)) + Rows.uptoBulkAll (lits k zs) = _
    rw [ih, show Rows.uptoBulk (DataW.lit (H := H) (.int k z)) = 1 from rfl, List.length_cons, Nat.add_comm]
/-- The length of bytes that came in is at most their reading's bulk. -/
theorem op_len {H : Type} {enc : TypeId × Value → H} {W : World} {base fuel : Nat} {x : DataW H × List MemPlace} {A : Option Addr} {n c : Nat}
    (h : DataW.trod enc Tryd.prog W base (fun _ => true) true fuel 38 [.slice A n c] = some x) : n ≤ Rows.uptoBulk x.1 := by
  rcases open_ints Tryd.underlying38 Tryd.underlying5 (by kernel_rfl) h with ⟨hcs, rfl⟩ | ⟨a, l, c2, zs, hcs, _, hl, hm, hz, rfl, _, _⟩
  · simp at hcs
    rw [hcs.2.1]
    exact Nat.zero_le _
  · simp at hcs
    obtain ⟨_, rfl, rfl⟩ := hcs
    have hz' : zs.length = c := by simpa using hz
    show n ≤ Rows.uptoBulkAll (lits .u8 (zs.take n)) + Rows.uptoBulkAll (lits .u8 (zs.drop n)) + 1
    rw [bulk_lits, List.length_take]
    omega
theorem witness_row (os : Os) {H : Type} (enc : TypeId × Value → H) :
    (Rows.OpenSpec.upto Rows.softHoldsSpec).preRow enc Tryd.prog Tryd.f9 [] false laids ((World.doorLaid Tryd.prog 400 os).forCall (fun _ _ => 0) ⟨#[], #[.int .i64 0, .int .i64 0, .int .i64 0, .slice none 0 0, .slice none 0 0, .int .i64 0], []⟩).memory #[.int .i64 0, .int .i64 0, .int .i64 0, .slice none 0 0, .slice none 0 0, .int .i64 0] := by
  have hw : (DataW.whole enc Tryd.prog ((World.doorLaid Tryd.prog 400 os).forCall (fun _ _ => 0) ⟨#[], #[.int .i64 0, .int .i64 0, .int .i64 0, .slice none 0 0, .slice none 0 0, .int .i64 0], []⟩).memory (Tryd.f9).params.toList (Rows.OpenSpec.upto Rows.softHoldsSpec).vars false (#[.int .i64 0, .int .i64 0, .int .i64 0, .slice none 0 0, .slice none 0 0, .int .i64 0] : Array Value).toList 8).map (fun x => (x.1, x.2.1)) =
      some ([.lit (.int .i64 0), .lit (.int .i64 0), .lit (.int .i64 0), .nil, .nil, .lit (.int .i64 0)], []) := by kernel_rfl
  obtain ⟨⟨x1, x2, x3⟩, hx, hx1⟩ := Option.map_eq_some_iff.1 hw
  simp only [Prod.mk.injEq] at hx1
  obtain ⟨rfl, rfl⟩ := hx1
  exact OpenSpec.preRow_of_cond 8 hx rfl (fun k hk => by cases hk; rfl) (by kernel_rfl) (door_met os _)
set_option maxRecDepth 100000 in
set_option maxHeartbeats 2000000 in
theorem lifted (os : Os) (started : os.Started) (H : Type) (enc : TypeId × Value → H) (F : Stop.Interp) :
    ReturnsInHanded {} Tryd.checked os 9 .any ((Rows.OpenSpec.upto Rows.softHoldsSpec).preRow enc Tryd.prog Tryd.f9 [] false laids) (((Rows.OpenSpec.upto Rows.softHoldsSpec).at F).post enc Tryd.prog Tryd.f9 false true false false) := by
  refine returnsInHanded_of_row (C := Tryd.checked) (s := (Rows.OpenSpec.upto Rows.softHoldsSpec)) own started (by kernel_rfl) Tryd.func9
    (witness_row_atRef (enc := enc) (C := Tryd.checked) false (World.doorLaid Tryd.prog 400 os) #[.int .i64 0, .int .i64 0, .int .i64 0, .slice none 0 0, .slice none 0 0, .int .i64 0] rfl (by kernel_rfl) (by kernel_rfl) (by kernel_rfl) (witness_row os enc)) ?_
  intro W base args ds gs before hval0 hW hcnd hcond _ hL _ _
  have hKinds := kinds_of_laid hL
  have hval : ∀ (j : Nat) t v, Tryd.f9.params[j]? = some t → args[j]? = some v → Value.okWide Tryd.prog W .any base t v := hval0
  have hW' := hW
  obtain ⟨p, q, hA0, hV, rfl, hfz, hnd⟩ := hW
  have hA : DataW.TrodAll enc Tryd.prog W 0 (fun _ => true) true Tryd.f9.params.toList args.toList ds p := hA0
  rw [Tryd.params9] at hA hval
  obtain ⟨v0, vs0, d0, ds0, p0, q0, hargs0, rfl, rfl, h0, r0⟩ := trodAll_cons hA
  obtain ⟨v1, vs1, d1, ds1, p1, q1, hargs1, rfl, rfl, h1, r1⟩ := trodAll_cons r0
  obtain ⟨v2, vs2, d2, ds2, p2, q2, hargs2, rfl, rfl, h2, r2⟩ := trodAll_cons r1
  obtain ⟨v3, vs3, d3, ds3, p3, q3, hargs3, rfl, rfl, h3, r3⟩ := trodAll_cons r2
  obtain ⟨v4, vs4, d4, ds4, p4, q4, hargs4, rfl, rfl, h4, r4⟩ := trodAll_cons r3
  obtain ⟨v5, vs5, d5, ds5, p5, q5, hargs5, rfl, rfl, h5, r5⟩ := trodAll_cons r4
  obtain ⟨rfl, rfl, rfl⟩ := trodAll_nil r5
  obtain rfl : args = #[v0, v1, v2, v3, v4, v5] := by cases args; simp_all
  obtain ⟨rfl, rfl⟩ := trodVars_none hV
  obtain ⟨k0, rfl⟩ := okWide_int Tryd.underlying3 (hval 0 3 v0 rfl rfl)
  have hk0 := h0
  have lt0 : ∀ x ∈ p0, x.block < W.heap.size := by obtain ⟨m, hm⟩ := hk0; exact DataW.trod_lt m _ _ _ hm
  have w0 := wf_i64 (show (Lit.int .i64 k0).wf = true by
    obtain ⟨fuel, hf⟩ := h0
    simp only [Value.cells] at hf
    exact op_int Tryd.underlying3 hf)
  obtain ⟨k1, rfl⟩ := okWide_int Tryd.underlying3 (hval 1 3 v1 rfl rfl)
  have hk1 := h1
  have lt1 : ∀ x ∈ p1, x.block < W.heap.size := by obtain ⟨m, hm⟩ := hk1; exact DataW.trod_lt m _ _ _ hm
  have w1 := wf_i64 (show (Lit.int .i64 k1).wf = true by
    obtain ⟨fuel, hf⟩ := h1
    simp only [Value.cells] at hf
    exact op_int Tryd.underlying3 hf)
  obtain ⟨k2, rfl⟩ := okWide_int Tryd.underlying3 (hval 2 3 v2 rfl rfl)
  have hk2 := h2
  have lt2 : ∀ x ∈ p2, x.block < W.heap.size := by obtain ⟨m, hm⟩ := hk2; exact DataW.trod_lt m _ _ _ hm
  have w2 := wf_i64 (show (Lit.int .i64 k2).wf = true by
    obtain ⟨fuel, hf⟩ := h2
    simp only [Value.cells] at hf
    exact op_int Tryd.underlying3 hf)
  obtain ⟨a3, n3, c3, rfl⟩ := okWide_slice Tryd.underlying26 (hval 3 26 v3 rfl rfl)
  have hk3 := h3
  have lt3 : ∀ x ∈ p3, x.block < W.heap.size := by obtain ⟨m, hm⟩ := hk3; exact DataW.trod_lt m _ _ _ hm
  obtain ⟨x3, hc3, hR3⟩ : ∃ x, n3 ≤ c3 ∧ Rd .i64 W W.heap.size a3 n3 x := by
    obtain ⟨fuel, hf⟩ := h3
    simp only [Value.cells] at hf
    obtain ⟨A', n', c', x, e, hc, h, _⟩ := op_row Tryd.underlying26 Tryd.underlying3 (by kernel_rfl) hf
    injection e with e1 e2 e3
    subst e1 e2 e3
    exact ⟨x, hc, h⟩
  obtain ⟨a4, n4, c4, rfl⟩ := okWide_slice Tryd.underlying38 (hval 4 38 v4 rfl rfl)
  have hk4 := h4
  have lt4 : ∀ x ∈ p4, x.block < W.heap.size := by obtain ⟨m, hm⟩ := hk4; exact DataW.trod_lt m _ _ _ hm
  obtain ⟨x4, hc4, hR4, hB4⟩ : ∃ x, n4 ≤ c4 ∧ Rd .u8 W W.heap.size a4 n4 x ∧ Byte x := by
    obtain ⟨fuel, hf⟩ := h4
    simp only [Value.cells] at hf
    obtain ⟨A', n', c', x, e, hc, h, hb⟩ := op_bytes hf
    injection e with e1 e2 e3
    subst e1 e2 e3
    exact ⟨x, hc, h, hb⟩
  obtain ⟨k5, rfl⟩ := okWide_int Tryd.underlying3 (hval 5 3 v5 rfl rfl)
  have hk5 := h5
  have lt5 : ∀ x ∈ p5, x.block < W.heap.size := by obtain ⟨m, hm⟩ := hk5; exact DataW.trod_lt m _ _ _ hm
  have w5 := wf_i64 (show (Lit.int .i64 k5).wf = true by
    obtain ⟨fuel, hf⟩ := h5
    simp only [Value.cells] at hf
    exact op_int Tryd.underlying3 hf)
  have hbulk : n4 ≤ Rows.uptoBulk d4 := by
    obtain ⟨fuel, hf⟩ := hk4
    simp only [Value.cells] at hf
    exact op_len hf
  have hall : Rows.uptoBulkAll ([d0, d1, d2, d3, d4, d5] ++ []) ≤ 1048576 := of_decide_eq_true (hcond _ rfl)
  have hn4 : n4 ≤ 2000000 := by
    simp only [List.append_nil, Rows.uptoBulkAll] at hall
    omega
  clear hA0 hval0
  refine (holds_walk (a := k0) (b := k1) (d := k2) (m := k5) hKinds hR3 hR4 hB4 hn4).mono fun e W' ⟨he, bel⟩ => ?_
  subst he
  exact ⟨_, rfl, _, _, _, [], _, [], hW', trodAll_mk1 (shut_bool Tryd.underlying4 _), (trodAll_cons_mk (Below.trod laidOut (by kernel_rfl) (of_decide_eq_true (by kernel_rfl)) hk0 bel lt0) (trodAll_cons_mk (Below.trod laidOut (by kernel_rfl) (of_decide_eq_true (by kernel_rfl)) hk1 bel lt1) (trodAll_cons_mk (Below.trod laidOut (by kernel_rfl) (of_decide_eq_true (by kernel_rfl)) hk2 bel lt2) (trodAll_cons_mk (Below.trod laidOut (by kernel_rfl) (of_decide_eq_true (by kernel_rfl)) hk3 bel lt3) (trodAll_cons_mk (Below.trod laidOut (by kernel_rfl) (of_decide_eq_true (by kernel_rfl)) hk4 bel lt4) (trodAll_cons_mk (Below.trod laidOut (by kernel_rfl) (of_decide_eq_true (by kernel_rfl)) hk5 bel lt5) trodAll_mk0)))))), rfl, bel.frame _, fun h => by cases h⟩

theorem over : Rows.softHoldsUptoRow.holds Tryd.pinned (Rows.OpenSpec.upto Rows.softHoldsSpec) :=
  OpenClaim.holds_of_cond 9 Tryd.f9 rfl rfl rfl rfl rfl rfl rfl ⟨rfl, rfl, rfl, rfl, rfl⟩ rfl rfl rfl rfl rfl (by kernel_rfl) Tryd.func9 (by kernel_rfl)
    (of_decide_eq_true (by kernel_rfl)) (by unfold Func.isWrapper; first | (rw [if_pos (by decide +kernel)]; kernel_rfl) | (rw [if_neg (by decide +kernel)]; exact ⟨rfl, rfl⟩))
    (fun os started H enc _ F0 => by rw [OpenClaim.pre_eq_preRow]; exact lifted os started H enc F0)

theorem proved : Rows.SoftHoldsUptoCardSaid :=
  Claim7.holds_tied_plain_at .later [] [.data] true _ false
    over (fun _ h => by cases h) (by kernel_rfl) (fun _ h => by cases h) softHoldsUpto_row_tie rfl ⟨rfl, rfl⟩ (by kernel_rfl) rfl
    (fun f fn hf hfn => by
      obtain rfl : f = 9 := Option.some.inj ((show Tryd.prog.funcNamed Tryd.f9.name = some 9 by kernel_rfl).symm.trans hf) |>.symm
      obtain rfl : fn = Tryd.f9 := (Option.some.inj (Tryd.func9.symm.trans hfn)).symm
      exact ⟨by kernel_rfl, fun j t ht => by
        rw [Tryd.params9] at ht
        have hm : t ∈ [3, 3, 3, 26, 38, 3] := by simpa using Array.mem_of_getElem? ht
        have hall : ([3, 3, 3, 26, 38, 3].all fun u => !Tryd.prog.wantsStandIn u) = true := by kernel_rfl
        exact (show Tryd.prog.wantsStandIn t = false by simpa using List.all_eq_true.1 hall t hm)⟩)
    (by kernel_rfl)
end Go.Proofs.YtkkombhpiagngaaDoor.softHolds
