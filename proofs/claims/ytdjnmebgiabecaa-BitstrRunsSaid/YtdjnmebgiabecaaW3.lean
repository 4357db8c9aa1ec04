/-
  Callers of the iterator: Weight; valid, Valid.
-/
import Derived.Test.YtdjnmebgiabecaaW2
import Derived.Test.YtdjnmebgiabecaaMarks
namespace Go.Proofs.Ytdjnmebgiabecaa
open Go.RowKit Go.Shelf BigFrame

attribute [local go_sem] Oper.semAt_some

set_option maxHeartbeats 1000000 in
theorem runs_in (n : Nat) (A : Option Addr) (len cap : Nat) (w : World) :
    CallsIn Fence.wide n Try.prog 39 #[.slice A len cap] w fun e w' => e = .returned (.func (.func 42) #[] #[.pointer (some ⟨w.heap.size, 0, none⟩)]) ∧ w' = w.alloc (.cells #[.slice A len cap] 22) := by
  refine callsIn_of_wp Try.func39 rfl trivial ?_ rfl
  simp only [Try.ntmps39, List.size_toArray, List.length_cons, List.length_nil, Nat.reduceAdd, Nat.reduceSub, Array.replicate_succ, Array.replicate_zero, List.push_toArray, List.append_toArray, List.nil_append, List.cons_append]
  gi_wp2
  go_ret
  exact ⟨rfl, rfl⟩

theorem runs_stops (n : Nat) (hn : 1 ≤ n) (Bs n₀ : Nat) (A : Option Addr) (len cap : Nat) (xs : List Int) (hreach : len ≤ 140737488351232) (w : World) (hBs : Bs < w.heap.size) (hn₀ : n₀ ≤ w.heap.size)
    (hc : w.cell? ⟨Bs, 0, none⟩ = some (.slice A len cap)) (hI : Rd .u8 w n₀ A len xs) :
    SeqStopsK Fence.wide n Try.prog 42 #[.pointer (some ⟨Bs, 0, none⟩)] (fun x : Nat × Int => #[Value.int .i64 (x.1 : Int), Value.int .u8 x.2]) (KeepsFor n₀ Bs) (fun ys => ys = runsL xs) (fun pre => pre <+: runsL xs) len w := fun l J Jx W hW hJ _ hY h0 => by
  have hc' := (hW.cell (p := ⟨Bs, 0, none⟩) hBs).trans hc
  refine runs1_in n hn l Bs n₀ A len cap xs hreach J Jx ?_ hY W hc' (hI.below' hW hn₀) h0
  intro pre W1 k h
  exact hJ pre W1 _ none h ⟨rfl, rfl, rfl, Nat.le_refl _, fun _ _ _ => rfl⟩ (fun r e => by cases e)

set_option maxRecDepth 100000 in
set_option maxHeartbeats 2000000 in
theorem weight_in (n : Nat) (hn : 3 ≤ n) (A : Option Addr) (len cap : Nat) (xs : List Int) (hreach : len ≤ 140737488351232) (w : World) (hI : Rd .u8 w w.heap.size A len xs) :
    CallsIn Fence.wide n Try.prog 27 #[.slice A len cap] w fun e W' => e = .returned (.int .i64 (weight xs)) ∧ Below w.heap.size w W' := by
  have h1 : 1 ≤ n := by omega
  have hL := Lib.hid hI.len
  refine callsIn_of_wp_marks Try.func27 rfl trivial ?_ rfl
  simp only [Try.ntmps27, List.size_toArray, List.length_cons, List.length_nil, Nat.reduceAdd, Nat.reduceSub, Array.replicate_succ, Array.replicate_zero, List.push_toArray, List.append_toArray, List.nil_append, List.cons_append]
  gi_wp2_with (refine ⟨trivial, ?_⟩; gi_at_call 39; refine (runs_in (n - 1) _ _ _ _).mono ?_; rintro e w' ⟨rfl, rfl⟩)
  have bS := Boxed.new w 3 (.int .i64 0)
  have bN := Boxed.new (w.alloc (.cells #[.int .i64 0] 3)) 22 (.slice A len cap)
  rw [World.size_alloc] at bN
  have hB0 : Below w.heap.size w ((w.alloc (.cells #[.int .i64 0] 3)).alloc (.cells #[.slice A len cap] 22)) := ((Below.refl _ w).alloc (Nat.le_refl _) _).alloc (by simp) _
  refine wpIn_rangeFunc_ownG rfl h1 (gf := 42) (lb := #[.pointer (some ⟨w.heap.size + 1, 0, none⟩)]) rfl trivial (enters_of Try.func42 (by kernel_rfl) rfl)
    (runs_stops (n - 1) (by omega) (w.heap.size + 1) w.heap.size A len cap xs hreach _ (by simp) (by simp; omega) bN.cell (hI.below hB0)) keepsFor_t (keepsFor_b (by simp; omega) (by simp)) (Below.refl _ _) (fun _ => rfl)
    (fun pre W => (W.cell? ⟨w.heap.size, 0, none⟩ = some (.int .i64 (wrap64 (onesOf pre))) ∧ W.frozen? ⟨w.heap.size, 0, none⟩ = false) ∧ Below w.heap.size w W)
    (fun _ _ _ => False)
    (OwnFrom.and (Own.from (fun s A B row hs hg hr => ⟨cell_kept hs.1 hg hr, (frozen_kept hs.1 hg hr).trans hs.2⟩) _) (ownFrom_below (Nat.le_refl _) (by simp; omega)))
    (fun _ _ _ _ _ hs _ _ => hs)
    ⟨⟨by rw [show wrap64 (onesOf []) = 0 from IntWalk.wrap64_in 0 (by omega)]; exact (bS.alloc _).cell, (bS.alloc _).frozen⟩, hB0⟩
    (fun x => { tmps := #[.slice A len cap, undef, .int .i64 0, .pointer (some ⟨w.heap.size, 0, none⟩), .int .i64 (x.1 : Int), .int .u8 x.2, .slice A len cap, .func (.func 42) #[] #[.pointer (some ⟨w.heap.size + 1, 0, none⟩)], .int .i64 (x.1 : Int), .int .u8 x.2, undef, undef, undef, undef, undef, undef], defers := [] }) ?assign ?body ?done ?stop
  case assign =>
    intro l x W K hK
    gi_wp2
    exact hK
  case body =>
    rintro l pre x W ⟨⟨hc, hf⟩, hB⟩ _
    have hS := Lib.hid (onesOf_snoc pre x)
    by_cases hx : x.2 = 1
    · gi_wp2
      refine ⟨(KeepsOthers.setCell _ _ _).from _, (KeepsFor.refl _ _ _).setCell (p := ⟨w.heap.size, 0, none⟩) (Nat.le_refl _) (by simp) _, ⟨?_, by rw [World.frozen?_setCell]; exact hf⟩, hB.setCell (p := ⟨w.heap.size, 0, none⟩) (Nat.le_refl _) _⟩
      rw [hS.out, if_pos hx]
      rw [World.cell?_setCell_same' _ _ _ (by rw [hc]; rfl)]
      first | (congr 2; unfold wrap64; omega) | (congr 2; rw [IntWalk.i64_left]; unfold wrap64; omega)
    · gi_wp2
      refine ⟨(KeepsOthers.refl _).from _, KeepsFor.refl _ _ _, ⟨?_, hf⟩, hB⟩
      rw [hS.out, if_neg hx]
      exact hc
  case done =>
    rintro D ys W hD rfl ⟨⟨hc, _⟩, hB⟩ hK
    gi_wp2
    refine ⟨by simp, .inl ⟨_, _, rfl, run_takeDeferred hK, ?_⟩⟩
    refine ⟨_, results_tmp rfl _ _ _, ?_, hB.trans (belowK_b (w := w) (Nat.le_refl _) W D _ _ (by simp at hD; omega) hK rfl rfl)⟩
    have := weight_le xs
    rw [onesOf_runs, IntWalk.wrap64_in _ (by have := hL.out; omega)]
    rfl
  case stop =>
    rintro D c pre W _ _ h _
    exact h.elim
set_option maxRecDepth 100000 in
set_option maxHeartbeats 2000000 in
theorem valid_in (n : Nat) (hn : 3 ≤ n) (A : Option Addr) (len cap : Nat) (rows : List BRow) (hreach : len ≤ 140737488351232) (w : World) (hI : Rds w w.heap.size A len rows) (hbd : ∀ r ∈ rows, r.n ≤ 140737488351232) :
    CallsIn Fence.wide n Try.prog 32 #[.slice A len cap] w fun e W' => e = .returned (.bool (rows.all fun r => validB r.xs)) ∧ Below w.heap.size w W' := by
  have h1 : 1 ≤ n := by omega
  refine callsIn_of_wp_marks Try.func32 rfl trivial ?_ rfl
  simp only [Try.ntmps32, List.size_toArray, List.length_cons, List.length_nil, Nat.reduceAdd, Nat.reduceSub, Array.replicate_succ, Array.replicate_zero, List.push_toArray, List.append_toArray, List.nil_append, List.cons_append]
  gi_wp2
  refine wpIn_wide_scope ?_
  gi_wp2
  refine wpIn_label ?_
  gi_wp2
  refine wpIn_loop
    (fun a' w' => ∃ (k : Nat) (Ds : List Nat) (u5 u11 u12 u13 u14 u15 u20 : Value), k ≤ len ∧
      a' = { tmps := #[.slice A len cap, undef, .bool false, .pointer (some ⟨w.heap.size, 0, none⟩), undef, u5, undef, undef, .slice A len cap, .int .i64 len, .int .i64 k, u11, u12, u13, u14, u15, undef, undef, undef, undef, u20, undef], defers := Ds.map mkD } ∧
      (rows.take k).all (fun r => validB r.xs) = true ∧ w'.cell? ⟨w.heap.size, 0, none⟩ = some (.bool true) ∧ w'.frozen? ⟨w.heap.size, 0, none⟩ = false ∧ Below w.heap.size w w' ∧ w.heap.size < w'.heap.size ∧ Marks w' Ds ∧ ∀ D ∈ Ds, w.heap.size + 1 ≤ D)
    (fun a' _ => len - (intOf (a'.tmps.getD 10 undef)).toNat) ?start ?round
  case start =>
    have bS := Boxed.new w 4 (.bool true)
    exact ⟨0, [], _, _, _, _, _, _, _, Nat.zero_le _, rfl, rfl, bS.cell, bS.frozen, (Below.refl _ w).alloc (Nat.le_refl _) _, by simp, Marks.nil _, by simp⟩
  case round =>
    rintro a' w' ⟨k, Ds, u5, u11, u12, u13, u14, u15, u20, hk, rfl, hall, hck, hfz, hB, hsz, hM, hDs⟩
    have hALL := Lib.hid hall; clear hall
    by_cases hlt : k < len
    · obtain ⟨b, off, r, rfl, hb, hr, hc, hRd⟩ := hI.cells k hlt
      have hm := hbd r (List.mem_of_getElem? hr)
      have hRow := Lib.hid hr; clear hr
      obtain ⟨ra, rn, rc, rxs⟩ := r
      have hcell : w'.cell? ⟨b, off + k, none⟩ = some (.slice ra rn rc) := (hB.cell (p := ⟨b, off + k, none⟩) hb).trans hc
      have hRd' := hRd.below hB
      simp only [] at hm hRd'
      gi_wp2_with (refine ⟨trivial, ?_⟩; gi_at_call 39; refine (runs_in (n - 1) _ _ _ _).mono ?_; rintro e w' ⟨rfl, rfl⟩)
      have bN := Boxed.new w' 22 (.slice ra rn rc)
      have hB1 : Below w.heap.size w (w'.alloc (.cells #[.slice ra rn rc] 22)) := hB.alloc (by omega) _
      refine wpIn_rangeFunc_ownG rfl h1 (gf := 42) (lb := #[.pointer (some ⟨w'.heap.size, 0, none⟩)]) rfl trivial (enters_of Try.func42 (by kernel_rfl) rfl)
        (runs_stops (n - 1) (by omega) w'.heap.size w.heap.size ra rn rc rxs hm _ (by simp) (by simp; omega) bN.cell (hRd.below hB1)) keepsFor_t (keepsFor_b (by simp; omega) (by simp)) (Below.refl _ _) (fun _ => rfl)
        (fun pre W => (((W.cell? ⟨w.heap.size, 0, none⟩ = some (.bool true) ∧ W.frozen? ⟨w.heap.size, 0, none⟩ = false) ∧ RunsLe pre) ∧ Below w.heap.size w W) ∧ Marks W Ds)
        (fun c pre W => ((c = .exit 0 ∧ RunsGt pre ∧ W.cell? ⟨w.heap.size, 0, none⟩ = some (.bool false)) ∧ Below w.heap.size w W) ∧ Marks W Ds)
        (OwnFrom.and (OwnFrom.and (Own.from (fun s A B row hs hg hr => ⟨⟨cell_kept hs.1.1 hg hr, (frozen_kept hs.1.1 hg hr).trans hs.1.2⟩, hs.2⟩) _) (ownFrom_below (Nat.le_refl _) (by simp; omega))) (Marks.ownFrom (fun D hD => by have := hM.lt D hD; simp; omega)))
        (fun c => OwnFrom.and (OwnFrom.and (Own.from (fun s A B row hs hg hr => ⟨hs.1, hs.2.1, cell_kept hs.2.2 hg hr⟩) _) (ownFrom_below (Nat.le_refl _) (by simp; omega))) (Marks.ownFrom (fun D hD => by have := hM.lt D hD; simp; omega)))
        ⟨⟨⟨⟨cell_new _ hck, frozen_new _ hck hfz⟩, fun p hp => by simp at hp⟩, hB1⟩, hM.alloc _⟩
        (fun x => { tmps := #[.slice (some ⟨b, off, none⟩) len cap, undef, .bool false, .pointer (some ⟨w.heap.size, 0, none⟩), undef, .slice ra rn rc, undef, .int .u8 x.2, .slice (some ⟨b, off, none⟩) len cap, .int .i64 len, .int .i64 k, .bool true, .pointer (some ⟨b, off + k, none⟩), .slice ra rn rc, .slice ra rn rc,
          .func (.func 42) #[] #[.pointer (some ⟨w'.heap.size, 0, none⟩)], .int .i64 (x.1 : Int), .int .u8 x.2, undef, undef, u20, undef], defers := [] }) ?assign ?body ?done ?stop
      case assign =>
        intro l x W K hK
        gi_wp2
        exact hK
      case body =>
        rintro l pre x W ⟨⟨⟨⟨hc, hf⟩, hp⟩, hBW⟩, hMW⟩ _
        by_cases hx : 1 < x.2
        · gi_wp2
          exact ⟨(KeepsOthers.setCell _ _ _).from _, ⟨⟨rfl, RunsGt.snoc hx, World.cell?_setCell_same' _ _ _ (by rw [hc]; rfl)⟩, hBW.setCell (p := ⟨w.heap.size, 0, none⟩) (Nat.le_refl _) _⟩, hMW.setCell _ (fun h => by have := hDs _ h; simp at this; omega)⟩
        · gi_wp2
          exact ⟨(KeepsOthers.refl _).from _, KeepsFor.refl _ _ _, ⟨⟨⟨hc, hf⟩, RunsLe.snoc hp (by omega)⟩, hBW⟩, hMW⟩
      case done =>
        rintro D ys W hD rfl ⟨⟨⟨⟨hc, hf⟩, hp⟩, hBW⟩, hMW⟩ hK
        gi_wp2
        refine ⟨⟨k + 1, D :: Ds, _, _, _, _, _, _, _, by omega, rfl, all_take_succ hRow.out hALL.out (validB_good hp), hc, hf, hBW, ?_, hMW.cons hK (fun h => by have := hM.lt D h; simp at hD; omega), ?_⟩, ?_⟩
        · have := (Array.getElem?_eq_some_iff.1 hK).1; simp at hD; omega
        · intro E hE
          rcases List.mem_cons.1 hE with rfl | hE
          · simp at hD; omega
          · exact hDs E hE
        · simp [intOf]; omega
      case stop =>
        rintro D c pre W hD hpre ⟨⟨⟨rfl, hbad, hc⟩, hBW⟩, hMW⟩ hK
        gi_wp2
        rw [Exit.noGoto_ret]
        refine leaves_marks (B := w.heap.size) (D :: Ds) W (hMW.cons hK (fun h => by have := hM.lt D h; simp at hD; omega)) ?_ (fun w2 h2 => ⟨_, results_tmp rfl _ _ _, ?_, hBW.trans h2⟩)
        · intro E hE
          rcases List.mem_cons.1 hE with rfl | hE
          · simp at hD; omega
          · have := hDs E hE; omega
        · exact ret_bool (by rw [all_bad hRow.out (validB_bad hpre hbad)])
    · obtain rfl : k = len := by omega
      gi_wp2
      rw [Exit.noGoto_ret]
      refine leaves_marks (B := w.heap.size) Ds w' hM (fun E hE => by have := hDs E hE; omega) (fun w2 h2 => ⟨_, results_tmp rfl _ _ _, ?_, hB.trans h2⟩)
      refine ret_bool ?_
      rw [← hI.len, List.take_length] at hALL
      exact hALL.out.symm

/-- One row: the slice of slices that a variadic call makes. -/
theorem rds_one {w : World} {B B' : Nat} {A : Option Addr} {n c t : Nat} {xs : List Int} (hI : Rd .u8 w B A n xs) (hB : B ≤ w.heap.size) (hB' : w.heap.size < B') :
    Rds (w.alloc (.cells #[.slice A n c] t)) B' (some ⟨w.heap.size, 0, none⟩) 1 [⟨A, n, c, xs⟩] :=
  ⟨rfl, fun k hk => by
    obtain rfl : k = 0 := by omega
    exact ⟨w.heap.size, 0, _, rfl, hB', rfl, (Boxed.new w t (.slice A n c)).cell, (hI.alloc hB _).more (by omega)⟩⟩

theorem valid_one {A : Option Addr} {n c B : Nat} {xs : List Int} {w : World} (hm : n ≤ 140737488351232) (hI : Rd .u8 w B A n xs) (hB : B ≤ w.heap.size) :
    Calls Try.prog 32 #[.slice (some ⟨w.heap.size, 0, none⟩) 1 1] (w.alloc (.cells #[.slice A n c] 22)) fun e W' => e = .returned (.bool (validB xs)) ∧ Below w.heap.size w W' := by
  refine Calls.mono (callsIn_wide.1 (valid_in 6 (by omega) (some ⟨w.heap.size, 0, none⟩) 1 1 _ (by omega) _ (rds_one hI hB (by simp)) (by simpa using hm))) ?_
  rintro e W' ⟨rfl, hb⟩
  refine ⟨ret_bool (by simp), ?_⟩
  have h0 : Below w.heap.size w (w.alloc (.cells #[.slice A n c] 22)) := (Below.refl _ w).alloc (Nat.le_refl _) _
  exact h0.trans (hb.mono (by simp))

theorem weight_any {A : Option Addr} {n c B : Nat} {xs : List Int} {w : World} (hm : n ≤ 140737488351232) (hI : Rd .u8 w B A n xs) (hB : B ≤ w.heap.size) :
    Calls Try.prog 27 #[.slice A n c] w fun e W' => e = .returned (.int .i64 (weight xs)) ∧ Below w.heap.size w W' :=
  callsIn_wide.1 (weight_in 6 (by omega) A n c xs hm w (hI.more hB))

theorem valid_any {A : Option Addr} {n c B : Nat} {xs : List Int} {w : World} (hm : n ≤ 140737488351232) (hI : Rd .u8 w B A n xs) (hB : B ≤ w.heap.size) :
    Calls Try.prog 15 #[.slice A n c] w fun e W' => e = .returned (.bool (validB xs)) ∧ Below w.heap.size w W' := by
  go_enter Try.func15, Try.ntmps15
  go_wp2_with (go_at_call 32; refine (valid_one hm hI hB).mono ?_; rintro e w' ⟨rfl, hb⟩)
  go_ret
  exact ⟨rfl, hb⟩
end Go.Proofs.Ytdjnmebgiabecaa
