/-
  Bits: the iterator over the scrambling sequence.
-/
import Derived.Test.YtofcjcmbbkiaaaaMarks
import Derived.Test.YtofcjcmbbkiaaaaG2
namespace Go.Proofs.Ytofcjcmbbkiaaaa
open Go.RowKit Go.Shelf BigFrame

attribute [local go_sem] Oper.semAt_some

def goldI (v k : Nat) : Int := ((goldN v k : Nat) : Int)
theorem goldI_sum (v k : Nat) : goldI v k = sumI v (1600 + k) := by
  unfold goldI sumI goldN sumN
  rw [Nat.add_comm k 1600]
theorem bits_in (n : Nat) (v : Int) (w : World) :
    CallsIn Fence.wide n Try.prog 18 #[.int .u32 v] w fun e w' => e = .returned (.func (.func 28) #[] #[.pointer (some ⟨w.heap.size, 0, none⟩)]) ∧ w' = w.alloc (.cells #[.int .u32 v] 22) := by
  refine callsIn_of_wp Try.func18 rfl trivial ?_ rfl
  simp only [Try.ntmps18, List.size_toArray, List.length_cons, List.length_nil, Nat.reduceAdd, Nat.reduceSub, Array.replicate_succ, Array.replicate_zero, List.push_toArray, List.append_toArray, List.nil_append, List.cons_append]
  gi_wp2
  go_ret
  exact ⟨by simp, rfl⟩
/-- A number that is too great: nothing is yielded. -/
theorem bits_none {n : Nat} (hn : 1 ≤ n) {v : Int} {B N : Nat} {s : Nat → Value} (hv : 2147483648 ≤ v ∧ v < 4294967296) {w : World} (hB : B < w.heap.size) (hc : w.cell? ⟨B, 0, none⟩ = some (.int .u32 v)) :
    Runs n Try.prog 28 #[.pointer (some ⟨B, 0, none⟩)] s True 2 N w := by
  intro l J Jx W hW hJ hJx _ hN hY h0
  have hcW := (hW.cell (p := ⟨B, 0, none⟩) hB).trans hc
  have hcW2 := (World.cell?_of_block (w := W) (w' := W.alloc (.cells #[.func (.yield l) #[] #[]] 58)) (a := ⟨B, 0, none⟩) (Below.heap_alloc _ _ _ (by have := hW.size; simp; omega))).trans hcW
  have hf : ∀ u : World, Calls Try.prog 26 #[.int .u32 v] u fun r w' => r = .returned (.bool false) ∧ w' = u := fun u => by
    have := fits_any (v := v) (w := u) (by omega)
    rwa [decide_eq_false (by omega)] at this
  have HF := Lib.hid hf
  have hJ0 := hJ.alloc (.cells #[.func (.yield l) #[] #[]] 58) h0
  clear hW hc hf h0 hY hcW
  refine callsIn_of_wp Try.func28 rfl trivial ?_ rfl
  simp only [Try.ntmps28, List.size_toArray, List.length_cons, List.length_nil, Nat.reduceAdd, Nat.reduceSub, Array.replicate_succ, Array.replicate_zero, List.push_toArray, List.append_toArray, List.nil_append, List.cons_append]
  gi_wp2
  refine wpIn_wide_scope ?_
  gi_wp2_with (refine ⟨trivial, ?_⟩; gi_at_call 26; refine (callsIn_wide.2 (HF.out _)).mono ?_; rintro e w' ⟨rfl, rfl⟩; clear HF)
  rw [Exit.noGoto_ret]
  refine bodyPost_ret (results_none rfl _ _ _) rfl ?_
  exact ⟨⟨_, rfl⟩, .inl ⟨trivial, hJ0⟩⟩
set_option maxRecDepth 100000 in
set_option maxHeartbeats 2000000 in
theorem bits_runs {n : Nat} (hn : 3 ≤ n) {v B N : Nat} (hv : v < 2147483648) {w : World} (hB : B < w.heap.size) (hc : w.cell? ⟨B, 0, none⟩ = some (.int .u32 (v : Int))) :
    Runs n Try.prog 28 #[.pointer (some ⟨B, 0, none⟩)] (fun k => .int .u8 (goldI v k)) False 2 N w := by
  intro l J Jx W hW hJ hJx hS hN hY h0
  have h1 : 1 ≤ n := by omega
  have hcW := (hW.cell (p := ⟨B, 0, none⟩) hB).trans hc
  have hcW2 := (World.cell?_of_block (w := W) (w' := W.alloc (.cells #[.func (.yield l) #[] #[]] 58)) (a := ⟨B, 0, none⟩) (Below.heap_alloc _ _ _ (by have := hW.size; simp; omega))).trans hcW
  have hf : ∀ u : World, Calls Try.prog 26 #[.int .u32 (v : Int)] u fun r w' => r = .returned (.bool true) ∧ w' = u := fun u => by
    have := fits_any (v := v) (w := u) (by omega)
    rwa [decide_eq_true (by omega)] at this
  have HF := Lib.hid hf
  clear hf
  refine callsIn_of_wp_marks Try.func28 rfl trivial ?_ rfl
  simp only [Try.ntmps28, List.size_toArray, List.length_cons, List.length_nil, Nat.reduceAdd, Nat.reduceSub, Array.replicate_succ, Array.replicate_zero, List.push_toArray, List.append_toArray, List.nil_append, List.cons_append]
  gi_wp2
  refine wpIn_wide_scope ?_
  gi_wp2_with (refine ⟨trivial, ?_⟩; gi_at_call 26; refine (callsIn_wide.2 (HF.out _)).mono ?_; rintro e w' ⟨rfl, rfl⟩; clear HF)
  refine wpIn_label ?_
  have hcW3 := (World.cell?_of_block (w := W.alloc (.cells #[.func (.yield l) #[] #[]] 58)) (w' := (W.alloc (.cells #[.func (.yield l) #[] #[]] 58)).alloc (.cells #[.int .i64 1600] 3)) (a := ⟨B, 0, none⟩) (Below.heap_alloc _ _ _ (by have := hW.size; simp; omega))).trans hcW2
  have bY := Boxed.new W 58 (.func (.yield l) #[] #[])
  have bE := Boxed.new (W.alloc (.cells #[.func (.yield l) #[] #[]] 58)) 3 (.int .i64 1600)
  rw [World.size_alloc] at bE
  have bY2 := bY.alloc (.cells #[.int .i64 1600] 3)
  have hJ2 := hJ.alloc (.cells #[.int .i64 1600] 3) (hJ.alloc (.cells #[.func (.yield l) #[] #[]] 58) h0)
  have hs2 : ((W.alloc (.cells #[.func (.yield l) #[] #[]] 58)).alloc (.cells #[.int .i64 1600] 3)).heap.size = W.heap.size + 2 := by simp
  generalize (W.alloc (.cells #[.func (.yield l) #[] #[]] 58)).alloc (.cells #[.int .i64 1600] 3) = w2 at *
  clear bY h0 hcW hcW2
  gi_wp2_with (refine ⟨trivial, ?_⟩; gi_at_call 29; refine (sums_in (n - 1) _ _).mono ?_; rintro e w' ⟨rfl, rfl⟩)
  have bI := Boxed.new w2 22 (.int .u32 (v : Int))
  have bY3 := bY2.alloc (.cells #[.int .u32 (v : Int)] 22)
  have bE3 := bE.alloc (.cells #[.int .u32 (v : Int)] 22)
  have hJ3 := hJ.alloc (.cells #[.int .u32 (v : Int)] 22) hJ2
  have hs3 : (w2.alloc (.cells #[.int .u32 (v : Int)] 22)).heap.size = W.heap.size + 3 := by simp [hs2]
  rw [hs2] at bI
  generalize w2.alloc (.cells #[.int .u32 (v : Int)] 22) = w3 at *
  clear hs2 hJ2 bE bY2 hcW3 hW hc hB
  refine wpIn_runs h1 (gf := 39) (lb := #[.pointer (some ⟨W.heap.size + 2, 0, none⟩)]) rfl (enters_of Try.func39 (by kernel_rfl) rfl)
    (sums_runs (n := n - 1) (N := 1600 + N) (by omega) hv (B := W.heap.size + 2) (by omega) bI.cell) rfl
    (fun k W' => (Boxed W' W.heap.size 58 (.func (.yield l) #[] #[]) ∧ Boxed W' (W.heap.size + 1) 3 (.int .i64 ((1600 - k : Nat) : Int))) ∧ J (k - 1600) W')
    (fun c W' => c = .exit 0 ∧ Jx W')
    (OwnFrom.and (Own.from (fun k A B row hs hg hr => ⟨boxed_own W.heap.size _ (fun _ : Nat => .func (.yield l) #[] #[]) k A B row hs.1 hg hr, boxed_own (W.heap.size + 1) _ (fun k : Nat => .int .i64 ((1600 - k : Nat) : Int)) k A B row hs.2 hg hr⟩) _)
      (fun k A B row hs hg hr => (ownFrom_more hJ (show W.heap.size ≤ w3.heap.size by omega)) (k - 1600) A B row hs hg hr))
    (fun c s A B row hs hg hr => ⟨hs.1, (ownFrom_more hJx (show W.heap.size ≤ w3.heap.size by omega)) s A B row hs.2 hg hr⟩)
    (fun _ _ _ _ _ _ h1 h2 => absurd h2 (by omega))
    (fun k W' h => by have := hN _ _ h.2; omega)
    ⟨⟨bY3, bE3⟩, hJ3⟩
    (fun k => { tmps := #[.func (.yield l) #[] #[], .pointer (some ⟨B, 0, none⟩), .pointer (some ⟨W.heap.size, 0, none⟩), .pointer (some ⟨W.heap.size + 1, 0, none⟩), .int .u8 (sumI v k), .int .u32 (v : Int), .bool true, .bool false, .int .u32 (v : Int),
      .func (.func 39) #[] #[.pointer (some ⟨W.heap.size + 2, 0, none⟩)], .int .u8 (sumI v k), undef, undef, undef, undef, undef, undef, undef, undef, undef, undef], defers := [] }) ?assign ?body ?done ?stop
  case assign =>
    intro l' k W' K hK
    gi_wp2
    exact hK
  case body =>
    rintro _ l' k W' ⟨⟨bY, bE⟩, hJk⟩ hbig
    by_cases hk : k < 1600
    · obtain ⟨m, hm⟩ : ∃ m, 1600 - k = m + 1 := ⟨1600 - k - 1, by omega⟩
      have hm2 : 1600 - (k + 1) = m := by omega
      have hk0 : k - 1600 = 0 := by omega
      have hk1 : k + 1 - 1600 = 0 := by omega
      rw [hm] at bE
      rw [hk0] at hJk
      have c1 := bE.cell
      have f1 := bE.frozen
      have hmlt : m < 1600 := by omega
      have HM := Lib.hid hm2; have HK1 := Lib.hid hk1
      clear hm hm2 hk0 hk1 hk
      gi_wp2
      refine ⟨(KeepsOthers.setCell _ _ _).from _, fun _ h1 h2 => absurd h2 (by omega), ⟨bY.other (by omega) _, ?_⟩, ?_⟩
      · rw [HM.out]
        exact bE.set _
      · rw [HK1.out]
        exact hS 0 _ _ (W.heap.size + 1) hJk (grownBy_setCell' _ _ _) (by omega) (by omega)
    · have hm : 1600 - k = 0 := by omega
      rw [hm] at bE
      have bE' : Boxed W' (W.heap.size + 1) 3 (.int .i64 0) := bE
      have c1 := bE'.cell
      have c2 := bY.cell
      obtain ⟨j, rfl⟩ : ∃ j, k = 1600 + j := ⟨k - 1600, by omega⟩
      have hj : 1600 + j - 1600 = j := by omega
      have hj1 : 1600 + j + 1 - 1600 = j + 1 := by omega
      have hj2 : 1600 - (1600 + j + 1) = 0 := by omega
      rw [hj] at hJk
      obtain ⟨fn, tmps, assign, body, hy, hRd⟩ := yield_any (l2 := l') (m' := n - 1 - 1 - 1) (hY (fun h => h) j W' hJk (by omega))
      rw [goldI_sum] at hy
      have HJ1 := Lib.hid hj1; have HJ2 := Lib.hid hj2
      generalize sumI v (1600 + j) = x at *
      clear hm bE hj hj1 hj2 hk
      gi_wp2
      refine ⟨fun h => (by cases h), hRd.mono ?_⟩
      rintro e W3 (⟨rfl, hJ4, hk4, hsp⟩ | ⟨rfl, hJx4, hk4⟩)
      · gi_wp2
        refine ⟨keepsFrom_more hk4 (by omega), fun _ h1 h2 => absurd h2 (by omega), ⟨?_, ?_⟩, ?_⟩
        · exact (hsp W.heap.size (by omega) (by omega)).trans bY
        · rw [HJ2.out]
          exact (hsp (W.heap.size + 1) (by omega) (by omega)).trans bE'
        · rw [HJ1.out]
          exact hJ4
      · gi_wp2
        exact ⟨keepsFrom_more hk4 (by omega), rfl, hJx4⟩
  case done =>
    intro D W' _ h
    exact h.elim
  case stop =>
    rintro D c W' hD ⟨rfl, hx⟩ hKD
    gi_wp2
    refine ⟨by simp, .inl ⟨_, _, rfl, run_takeDeferred hKD, ?_⟩⟩
    exact ⟨_, results_none rfl _ _ _, ⟨_, rfl⟩, .inr ((ownFrom_more hJx (show W.heap.size ≤ w3.heap.size by omega)).putObj (s := ()) _ hx hD hKD rfl)⟩
end Go.Proofs.Ytofcjcmbbkiaaaa
