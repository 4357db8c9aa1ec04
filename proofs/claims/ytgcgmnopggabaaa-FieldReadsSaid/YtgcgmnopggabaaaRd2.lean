/-
  restore, Get.
-/
import Derived.Test.YtgcgmnopggabaaaRd1
import Derived.RangeFuncLeaves
import Derived.DefersIn
import Derived.Outline
namespace Go.Proofs.Ytgcgmnopggabaaa
open Go.RowKit Go.Shelf BigFrame

attribute [local go_sem] Oper.semAt_some

theorem restore_ok {k : Nat} {u : FrameMode} {w : World} {B Be : Nat} {p : Int} (he : Boxed w Be 53 (.int .i64 0)) :
    CallsDIn Fence.wide k Try.prog 47 #[.pointer (some ⟨B, 0, none⟩), .int .i64 p, .pointer (some ⟨Be, 0, none⟩)] u w fun e u' w' => u' = u ∧ (e = .returned (.tuple #[]) ∧ w = w') := by
  have hc := he.cell
  refine callsDIn_of_wp Try.func47 rfl trivial ?_ rfl
  simp only [Try.ntmps47, List.size_toArray, List.length_cons, List.length_nil, Nat.reduceAdd, Nat.reduceSub, Array.replicate_succ, Array.replicate_zero, List.push_toArray, List.append_toArray, List.nil_append, List.cons_append]
  gi_wp2
  go_end0
  exact ⟨rfl, rfl⟩
theorem restore_bad {k : Nat} {u : FrameMode} {w : World} {B Be : Nat} {x : Value} {p z q : Int} (hz : z ≠ 0) (he : Boxed w Be 53 (.int .i64 z)) (hT : Two w B 57 x (.int .i64 q)) :
    CallsDIn Fence.wide k Try.prog 47 #[.pointer (some ⟨B, 0, none⟩), .int .i64 p, .pointer (some ⟨Be, 0, none⟩)] u w fun e u' w' => u' = u ∧ (e = .returned (.tuple #[]) ∧ w' = w.setCell ⟨B, 1, none⟩ (.int .i64 p)) := by
  have hc := he.cell
  have c1 := hT.cell1
  have f1 := hT.frozen 1
  have hz' : (z != 0) = true := by simpa using hz
  refine callsDIn_of_wp Try.func47 rfl trivial ?_ rfl
  simp only [Try.ntmps47, List.size_toArray, List.length_cons, List.length_nil, Nat.reduceAdd, Nat.reduceSub, Array.replicate_succ, Array.replicate_zero, List.push_toArray, List.append_toArray, List.nil_append, List.cons_append]
  gi_wp2
  go_end0
  exact ⟨rfl, rfl⟩

theorem restL_bits (xs : List Int) (n p : Nat) : Bits (restL xs n p) := fun x hx => by
  obtain ⟨i, _, rfl⟩ := List.mem_map.1 hx
  unfold bitAt
  omega
/-- The value that Get has collected, as the program reckons it. -/
def accOf (pre : List Int) : Int := pre.foldl (fun v x => bits .or .u64 (IntKind.u64.wrap (v * 2)) (IntKind.u64.wrap x)) 0
theorem accOf_snoc (pre : List Int) (x : Int) : accOf (pre ++ [x]) = bits .or .u64 (IntKind.u64.wrap (accOf pre * 2)) (IntKind.u64.wrap x) := by simp [accOf]
theorem accOf_bits (pre : List Int) (hb : Bits pre) (hl : pre.length ≤ 64) : accOf pre = valueOf pre := by
  obtain ⟨k, hk⟩ : ∃ k, k = pre.length := ⟨_, rfl⟩
  have key : ∀ j, j ≤ pre.length → accOf (pre.take j) = valueOf (pre.take j) := by
    intro j
    induction j with
    | zero => intro _; rfl
    | succ j ih =>
      intro hj
      have h1 := ih (by omega)
      rw [take_snoc pre j (by omega) 0, accOf_snoc, h1, ← take_snoc pre j (by omega) 0]
      exact number_step' hb rfl hl (by omega)
  have := key pre.length (Nat.le_refl _)
  rwa [List.take_length] at this

theorem Boxed.far {W : World} {b : Nat} {t : TypeId} {v : Value} (h : Boxed W b t v) {p : Addr} (hp : p.block ≠ b) (u : Value) : Boxed (W.setCell p u) b t v := (Below.heap_setCell _ _ _ _ (Ne.symm hp)).trans h
theorem save_own {β : Type} {X : Nat → Prop} {w : World} {D : Nat} (hD : w.heap.size ≤ D) : OwnFrom D (fun (_ : β) W => Save X w W) := fun _ _ _ _ hs hg hr => hs.grown hg (fun k e hk => by have := (hr k e).1; omega)
theorem size_own {β : Type} (k D : Nat) : OwnFrom D (fun (_ : β) W => k ≤ W.heap.size) := fun _ _ _ _ hs hg _ => Nat.le_trans hs hg.size

/-- Between two rounds of Get's loop. -/
def GI (w : World) (N B wd : Nat) (pre : List Int) (W : World) : Prop :=
  (Boxed W N 3 (.int .i64 wd) ∧ Boxed W (N + 1) 33 (.int .u64 (accOf pre)) ∧ Boxed W (N + 1 + 1) 53 (.int .i64 0) ∧ Boxed W (N + 3) 3 (.int .i64 pre.length)) ∧ Save (· = B) w W ∧ pre.length ≤ wd ∧ N + 5 ≤ W.heap.size
def GIx (w : World) (N B wd : Nat) (c : Code) (pre : List Int) (W : World) : Prop := c = .exit 0 ∧ ∃ pre0 x, pre = pre0 ++ [x] ∧ pre0.length = wd ∧ GI w N B wd pre0 W
theorem gi_own {w : World} {N B wd D : Nat} (hD : w.heap.size ≤ D) : OwnFrom D (GI w N B wd) := fun s W W' row hs hg hr =>
  have hb : ∀ {k : Nat} {t : TypeId} {v : Value}, Boxed W k t v → Boxed W' k t v := fun {k t v} h => (boxed_own (β := Unit) k t (fun _ => v)).from D () W W' row h hg hr
  ⟨⟨hb hs.1.1, hb hs.1.2.1, hb hs.1.2.2.1, hb hs.1.2.2.2⟩, save_own hD s W W' row hs.2.1 hg hr, hs.2.2.1, Nat.le_trans hs.2.2.2 hg.size⟩
theorem gix_own {w : World} {N B wd D : Nat} (hD : w.heap.size ≤ D) (c : Code) : OwnFrom D (GIx w N B wd c) := fun _ W W' row hs hg hr => by
  obtain ⟨h1, p0, x, h2, h3, h4⟩ := hs
  exact ⟨h1, p0, x, h2, h3, gi_own hD p0 W W' row h4 hg hr⟩
theorem gi_moves {w : World} {N B wd : Nat} (hB : B < N) : ∀ s W W', GI w N B wd s W → RMv B W W' → GI w N B wd s W' := by
  rintro s W W' ⟨⟨b1, b2, b3, b4⟩, h1, h2, h3⟩ (⟨u, rfl⟩ | ⟨k, rfl⟩)
  · exact ⟨⟨Boxed.far b1 (by simp; omega) _, Boxed.far b2 (by simp; omega) _, Boxed.far b3 (by simp; omega) _, Boxed.far b4 (by simp; omega) _⟩, h1.setCell (fun _ => rfl) _, h2, by simpa [World.setCell] using h3⟩
  · exact ⟨⟨b1, b2, b3, b4⟩, h1.drewN _, h2, h3⟩

/-- What Get hands back at a width of at most 64. -/
def GetPost (w : World) (B : Nat) (A : Option Addr) (n c : Nat) (xs : List Int) (p wd : Nat) (e : Ending) (w' : World) : Prop :=
  (wd ≤ 8 * n - p ∧ e = .returned (.tuple #[.int .u64 (valueOf ((restL xs n p).take wd)), .int .i64 0]) ∧ RdrAt w' B A n c xs (p + wd) ∧ Save (· = B) w w') ∨
  (8 * n - p < wd ∧ e = .returned (.tuple #[.int .u64 0, .int .i64 5]) ∧ RdrAt w' B A n c xs p ∧ Save (· = B) w w')

theorem get_results {W : World} {tmps : Array Value} {b b' : Nat} {v z : Int} (h4 : tmps.getD 4 undef = .pointer (some ⟨b, 0, none⟩)) (h5 : tmps.getD 5 undef = .pointer (some ⟨b', 0, none⟩)) (hv : Boxed W b 33 (.int .u64 v)) (hz : Boxed W b' 53 (.int .i64 z)) :
    (results Try.f24 tmps).run Try.prog W = .ok (.tuple #[.int .u64 v, .int .i64 z]) W := by
  have c1 := Boxed.cell hv
  have c2 := Boxed.cell hz
  simp only [Array.getD_eq_getD_getElem?] at h4 h5
  simp [results, Try.results24, go_sem, h4, h5, c1, c2]

theorem Save.putObj {X : Nat → Prop} {w w' : World} (h : Save X w w') {D : Nat} (hD : w.heap.size ≤ D) (o : Obj) : Save X w (w'.putObj D o) := h.grown (grownBy_putObj' w' D o) (fun k e hk => by cases e; omega)
theorem Two.putObj {w : World} {B D : Nat} {t : TypeId} {x y : Value} {ds : Option (List Deferred)} (h : Two w B t x y) (hK : w.heap[D]? = some (.deferred ds)) (o : Obj) : Two (w.putObj D o) B t x y :=
  (World.putObj_heap_other (fun e => by subst e; rw [show w.heap[B]? = _ from h] at hK; cases hK)).trans h

/-- The door of Get: the mark, then restore. -/
theorem get_leaves {W : World} {tmps : Array Value} {R : Ending → World → Prop} {m N D B : Nat} {p : Nat} {v z q : Int} {x : Value} (hK : W.heap[D]? = some (.deferred (some []))) 
    (h4 : tmps.getD 4 undef = .pointer (some ⟨N + 1, 0, none⟩)) (h5 : tmps.getD 5 undef = .pointer (some ⟨N + 1 + 1, 0, none⟩)) (hB : B < N)
    (hv : Boxed W (N + 1) 33 (.int .u64 v)) (hz : Boxed W (N + 1 + 1) 53 (.int .i64 z)) (hT : Two W B 57 x (.int .i64 q))
    (hR : ∀ W', W' = (if z = 0 then W.putObj D (.deferred none) else (W.putObj D (.deferred none)).setCell ⟨B, 1, none⟩ (.int .i64 p)) → R (.returned (.tuple #[.int .u64 v, .int .i64 z])) W') :
    LeavesInM Fence.wide m Try.prog Try.f24 tmps R
      [{ target := .collected D, args := #[] }, { target := .fn (.func 47) #[], args := #[.pointer (some ⟨B, 0, none⟩), .int .i64 p, .pointer (some ⟨N + 1 + 1, 0, none⟩)] }] .returning W := by
  have hne : ∀ {k : Nat} {cs : Array Value} {t : TypeId} {fr : Nat × Nat}, W.heap[k]? = some (.cells cs t fr) → (W.putObj D (.deferred none)).heap[k]? = some (.cells cs t fr) := fun {k cs t fr} hk =>
    (World.putObj_heap_other (fun e => by subst e; rw [hK] at hk; cases hk)).trans hk
  have hv' : Boxed (W.putObj D (.deferred none)) (N + 1) 33 (.int .u64 v) := hne hv
  have hz' : Boxed (W.putObj D (.deferred none)) (N + 1 + 1) 53 (.int .i64 z) := hne hz
  have hT' : Two (W.putObj D (.deferred none)) B 57 x (.int .i64 q) := hne hT
  refine ⟨by simp, .inl ⟨D, _, rfl, run_takeDeferred hK, ?_⟩⟩
  refine ⟨by simp, .inr ⟨(fun h => by cases h), _, _, 47, _, rfl, (by simp [invoke, go_sem]; rfl), fun _ _ => trivial, ?_⟩⟩
  by_cases h0 : z = 0
  · subst h0
    refine (restore_ok hz').mono ?_
    rintro e u' w'' ⟨rfl, rfl, rfl⟩
    exact ⟨_, get_results h4 h5 hv' hz', hR _ (by simp)⟩
  · refine (restore_bad h0 hz' hT').mono ?_
    rintro e u' w'' ⟨rfl, rfl, rfl⟩
    exact ⟨_, get_results h4 h5 (Boxed.far hv' (by simp; omega) _) (Boxed.far hz' (by simp; omega) _), hR _ (by simp [h0])⟩

set_option maxRecDepth 100000 in
set_option maxHeartbeats 2000000 in
theorem get_run (m : Nat) (hm : 6 ≤ m) {w : World} {B : Nat} {A : Option Addr} {n c : Nat} {xs : List Int} {p wd : Nat} (h : RdrAt w B A n c xs p) (hw : wd ≤ 64) :
    CallsIn Fence.wide m Try.prog 24 #[.pointer (some ⟨B, 0, none⟩), .int .i64 wd] w (GetPost w B A n c xs p wd) := by
  refine callsIn_of_wp_marks Try.func24 rfl trivial ?_ rfl
  simp only [Try.ntmps24, List.size_toArray, List.length_cons, List.length_nil, Nat.reduceAdd, Nat.reduceSub, Array.replicate_succ, Array.replicate_zero, List.push_toArray, List.append_toArray, List.nil_append, List.cons_append]
  have h1 : 1 ≤ m := by omega
  have c1 := h.blk.cell1
  have hb1 : B < w.heap.size := h.blk.lt
  gi_wp2
  refine wpIn_wide_scope ?_
  gi_wp2_with fail
  refine ⟨trivial, ?_⟩
  refine (callsIn_wide.2 (possible_yes (by omega) (by omega))).mono ?_
  rintro e w1 ⟨rfl, hw1⟩
  obtain ⟨N, hN⟩ : ∃ N, N = w.heap.size := ⟨_, rfl⟩
  simp only [← hN]
  have hsz1 : w1.heap.size = N + 3 := by rw [← hw1, hN]; simp
  have hs1 : Save (· = B) w w1 := by rw [← hw1]; exact (((Save.refl _ w).alloc _).alloc _).alloc _
  have hT1 : Two w1 B 57 (.slice A n c) (.int .i64 p) := by rw [← hw1]; exact ((h.blk.alloc _).alloc _).alloc _
  have bW : Boxed w1 N 3 (.int .i64 wd) := by rw [← hw1, hN]; exact ((Boxed.new w _ _).alloc _).alloc _
  have bV : Boxed w1 (N + 1) 33 (.int .u64 0) := by
    have := Boxed.new (w.alloc (.cells #[.int .i64 wd] 3)) 33 (.int .u64 0)
    rw [World.size_alloc] at this
    rw [← hw1, hN]; exact this.alloc _
  have bE : Boxed w1 (N + 2) 53 (.int .i64 0) := by
    have := Boxed.new ((w.alloc (.cells #[.int .i64 wd] 3)).alloc (.cells #[.int .u64 0] 33)) 53 (.int .i64 0)
    rw [World.size_alloc, World.size_alloc] at this
    rw [← hw1, hN]; exact this
  have h' : RdrAt w1 B A n c xs p := h.moved hs1 hT1 h.pos
  rw [← hN] at hb1
  have HN := Lib.hid hN
  clear hw1 hN c1
  have c1 := hT1.cell1
  gi_wp2_with fail
  refine wpIn_label ?_
  gi_wp2_with fail
  refine ⟨trivial, ?_⟩
  refine (rest_in (m - 1) _ _).mono ?_
  rintro e w2 ⟨rfl, hw2⟩
  simp only [World.size_alloc, hsz1] at hw2 ⊢
  have hsz2 : w2.heap.size = N + 3 + 1 + 1 := by rw [hw2]; simp [hsz1]
  have hbl : Save (fun _ => False) w1 w2 := by rw [hw2]; exact ((Save.refl _ _).alloc _).alloc _
  have hs2 : Save (· = B) w w2 := hs1.trans (hbl.mono (fun _ _ h => h.elim))
  have h2 : RdrAt w2 B A n c xs p := h'.save hbl (fun h => h) (fun _ _ h => h)
  have bW2 : Boxed w2 N 3 (.int .i64 wd) := hbl.heap bW (fun h => h)
  have bV2 : Boxed w2 (N + 1) 33 (.int .u64 0) := hbl.heap bV (fun h => h)
  have bE2 : Boxed w2 (N + 1 + 1) 53 (.int .i64 0) := hbl.heap bE (fun h => h)
  have bN2 : Boxed w2 (N + 3) 3 (.int .i64 0) := by
    have := Boxed.new w1 3 (.int .i64 0)
    rw [hsz1] at this
    rw [hw2]; exact this.alloc _
  have bS2 : w2.heap[N + 3 + 1]? = some (.cells #[.pointer (some ⟨B, 0, none⟩)] 42) := by
    have := World.alloc_heap_new (w1.alloc (.cells #[.int .i64 0] 3)) (.cells #[.pointer (some ⟨B, 0, none⟩)] 42)
    rw [World.size_alloc, hsz1] at this
    rw [hw2]; exact this
  clear hw2 bW bV bE c1
  gi_wp2_with fail
  refine wpIn_rangeFunc_mv rfl h1 (gf := 59) (lb := #[.pointer (some ⟨N + 3 + 1, 0, none⟩)]) rfl trivial (enters_of Try.func59 (by kernel_rfl) rfl)
    (rest_seq (m - 1) (by omega) h2 (N + 3 + 1) bS2 (by omega)) KeepB.trans (KeepB.putObj (by rintro k (rfl | rfl | ⟨a, ha, rfl⟩) <;> first | omega | (have := h2.low a ha; omega))) (Below.refl _ _) (fun _ => rfl)
    (fun _ _ h => h.others) (rs_own _ _ _ _ _ _ _) (rsp_own _ _ _ _ _ _ _)
    (GI w N B wd) (GIx w N B wd) (gi_own (by have := HN.out; omega)) (gix_own (by have := HN.out; omega)) (gi_moves hb1) ⟨⟨bW2, bV2, bE2, bN2⟩, hs2, by simp, by omega⟩
    ?a1 ?assign ?body ?done ?stop
  case assign =>
    intro l x W K hK
    gi_wp2
    exact hK
  case body =>
    rintro l pre x W ⟨⟨b1, b2, b3, b4⟩, hs, hlen, hsz⟩ hlt
    have hAcc := Lib.hid (accOf_snoc pre x)
    have c1 := Boxed.cell b1
    have c2 := Boxed.cell b2
    have f2 := Boxed.frozen b2
    have c4 := Boxed.cell b4
    have f4 := Boxed.frozen b4
    have hnot : ∀ j, N ≤ j → j ≤ N + 3 → ¬ RX (N + 3 + 1) B A j := by
      rintro j h1 h2 (h3 | h3 | ⟨a, ha, h3⟩)
      · omega
      · omega
      · have hl := h.low a ha
        have := HN.out
        omega
    by_cases he : pre.length = wd
    · have hd : ((pre.length : Int) == (wd : Int)) = true := by simp [he]
      have HE := Lib.hid he; clear he
      gi_wp2
      exact ⟨KeepsOthers.refl _, KeepB.refl _ _, rfl, pre, x, rfl, HE.out, ⟨b1, b2, b3, b4⟩, hs, hlen, hsz⟩
    · have hd : ((pre.length : Int) == (wd : Int)) = false := by simp; omega
      have hlt2 : pre.length < wd := by omega
      clear he
      gi_wp2
      refine ⟨(KeepsOthers.setCell _ _ _).trans (KeepsOthers.setCell _ _ _), ((KeepB.refl _ _).setCell (p := ⟨N + 1, 0, none⟩) (hnot _ (by simp) (by simp)) _).setCell (p := ⟨N + 3, 0, none⟩) (hnot _ (by simp) (by simp)) _, ⟨?_, ?_, ?_, ?_⟩, ?_, ?_, ?_⟩
      · exact Boxed.far (Boxed.far b1 (by simp) _) (by simp) _
      · have := Boxed.far (Boxed.set (.int .u64 (accOf (pre ++ [x]))) b2) (p := ⟨N + 3, 0, none⟩) (by simp) (.int .i64 ((pre.length : Int) + 1))
        rw [← hAcc.out]; exact this
      · exact Boxed.far (Boxed.far b3 (by simp) _) (by simp) _
      · rw [List.length_append]
        exact Boxed.set _ (Boxed.far b4 (by simp) _)
      · exact (hs.setCell (p := ⟨N + 1, 0, none⟩) (fun h => by have := HN.out; simp at h; omega) _).setCell (p := ⟨N + 3, 0, none⟩) (fun h => by have := HN.out; simp at h; omega) _
      · simp; omega
      · simpa [World.setCell] using hsz
  case done =>
    rintro D ys W hD ⟨rfl, hT⟩ ⟨⟨b1, b2, b3, b4⟩, hs, hlen, hsz⟩ hK
    have c1 := Boxed.cell b1
    have c2 := Boxed.cell b2
    have f2 := Boxed.frozen b2
    have c3 := Boxed.cell b3
    have f3 := Boxed.frozen b3
    have c4 := Boxed.cell b4
    rw [restL_length] at hlen c4
    have hDN : N + 5 ≤ D := by omega
    by_cases hlt : 8 * n - p < wd
    · gi_wp2
      rw [Exit.noGoto_ret]
      refine get_leaves (N := N) (W := (W.setCell ⟨N + 1, 0, none⟩ (.int .u64 0)).setCell ⟨N + 1 + 1, 0, none⟩ (.int .i64 5)) (D := D) (by rw [Below.heap_setCell _ _ _ _ (by simp; omega), Below.heap_setCell _ _ _ _ (by simp; omega)]; exact hK) rfl rfl hb1 (Boxed.far (Boxed.set _ b2) (by simp) _) (Boxed.set _ (Boxed.far b3 (by simp) _)) ((hT.other (by simp; omega) _).other (by simp; omega) _) ?_
      rintro W' rfl
      rw [if_neg (by decide)]
      have hsv := ((((hs.setCell (p := ⟨N + 1, 0, none⟩) (fun h => by have := HN.out; simp at h; omega) (.int .u64 0)).setCell (p := ⟨N + 1 + 1, 0, none⟩) (fun h => by have := HN.out; simp at h; omega) (.int .i64 5)).putObj (D := D) (by have := HN.out; omega) (.deferred none)).setCell (p := ⟨B, 1, none⟩) (fun _ => rfl) (.int .i64 p))
      refine .inr ⟨hlt, rfl, h.moved hsv (Two.set1 (Two.putObj ((hT.other (by simp; omega) _).other (by simp; omega) _) (by rw [Below.heap_setCell _ _ _ _ (by simp; omega), Below.heap_setCell _ _ _ _ (by simp; omega)]; exact hK) _) _) h.pos, hsv⟩
    · obtain rfl : wd = 8 * n - p := by omega
      clear hlt
      gi_wp2
      rw [Exit.noGoto_ret]
      refine get_leaves (N := N) (W := (W.setCell ⟨N + 1, 0, none⟩ (.int .u64 (accOf (restL xs n p)))).setCell ⟨N + 1 + 1, 0, none⟩ (.int .i64 0)) (D := D) (by rw [Below.heap_setCell _ _ _ _ (by simp; omega), Below.heap_setCell _ _ _ _ (by simp; omega)]; exact hK) rfl rfl hb1 (Boxed.far (Boxed.set _ b2) (by simp) _) (Boxed.set _ (Boxed.far b3 (by simp) _)) ((hT.other (by simp; omega) _).other (by simp; omega) _) ?_
      rintro W' rfl
      rw [if_pos rfl]
      have hsv := (((hs.setCell (p := ⟨N + 1, 0, none⟩) (fun h => by have := HN.out; simp at h; omega) (.int .u64 (accOf (restL xs n p)))).setCell (p := ⟨N + 1 + 1, 0, none⟩) (fun h => by have := HN.out; simp at h; omega) (.int .i64 0)).putObj (D := D) (by have := HN.out; omega) (.deferred none))
      have hv : accOf (restL xs n p) = valueOf ((restL xs n p).take (8 * n - p)) := by
        rw [List.take_of_length_le (by rw [restL_length]; exact Nat.le_refl _)]
        exact accOf_bits _ (restL_bits _ _ _) (by rw [restL_length]; exact hw)
      have hq : ((8 * n : Nat) : Int) = ((p + (8 * n - p) : Nat) : Int) := by have := h.pos; omega
      rw [hq] at hT
      refine .inl ⟨Nat.le_refl _, by rw [hv], h.moved hsv (Two.putObj ((hT.other (by simp; omega) _).other (by simp; omega) _) (by rw [Below.heap_setCell _ _ _ _ (by simp; omega), Below.heap_setCell _ _ _ _ (by simp; omega)]; exact hK) _) (by have := h.pos; omega), hsv⟩
  case stop =>
    rintro D cd pre W hD ⟨k, hk, hpre, hT⟩ ⟨rfl, p0, x, hpx, hp0, ⟨b1, b2, b3, b4⟩, hs, hlen, hsz⟩ hK
    have c1 := Boxed.cell b1
    have c2 := Boxed.cell b2
    have f2 := Boxed.frozen b2
    have c3 := Boxed.cell b3
    have f3 := Boxed.frozen b3
    have c4 := Boxed.cell b4
    rw [hp0] at c4
    have hDN : N + 5 ≤ D := by omega
    have HP := Lib.hid (And.intro hpre (And.intro hpx hp0))
    clear hpre hpx hp0
    gi_wp2
    rw [Exit.noGoto_ret]
    refine get_leaves (N := N) (W := (W.setCell ⟨N + 1, 0, none⟩ (.int .u64 (accOf p0))).setCell ⟨N + 1 + 1, 0, none⟩ (.int .i64 0)) (D := D) (by rw [Below.heap_setCell _ _ _ _ (by simp; omega), Below.heap_setCell _ _ _ _ (by simp; omega)]; exact hK) rfl rfl hb1 (Boxed.far (Boxed.set _ b2) (by simp) _) (Boxed.set _ (Boxed.far b3 (by simp) _)) ((hT.other (by simp; omega) _).other (by simp; omega) _) ?_
    rintro W' rfl
    rw [if_pos rfl]
    have hsv := (((hs.setCell (p := ⟨N + 1, 0, none⟩) (fun h => by have := HN.out; simp at h; omega) (.int .u64 (accOf p0))).setCell (p := ⟨N + 1 + 1, 0, none⟩) (fun h => by have := HN.out; simp at h; omega) (.int .i64 0)).putObj (D := D) (by have := HN.out; omega) (.deferred none))
    obtain ⟨hpre, hpx, hp0⟩ := HP.out
    have hlk : k = wd := by
      have h1 := congrArg List.length hpre
      have h2 := congrArg List.length hpx
      simp only [List.length_append, List.length_cons, List.length_nil, hp0] at h2
      rw [List.length_take, restL_length] at h1
      omega
    subst hlk
    have hp0' : p0 = (restL xs n p).take k := by
      rw [restL_take_succ _ _ _ _ hk, hpx] at hpre
      exact (List.append_inj' hpre rfl).1
    have hv : accOf p0 = valueOf ((restL xs n p).take k) := by
      rw [hp0']
      exact accOf_bits _ ((restL_bits _ _ _).take _) (by rw [List.length_take]; omega)
    refine .inl ⟨by omega, by rw [hv], h.moved hsv (Two.putObj ((hT.other (by simp; omega) _).other (by simp; omega) _) (by rw [Below.heap_setCell _ _ _ _ (by simp; omega), Below.heap_setCell _ _ _ _ (by simp; omega)]; exact hK) _) (by have := h.pos; omega), hsv⟩
end Go.Proofs.Ytgcgmnopggabaaa
