/-
  start, Sequence: the first elements of the scrambling sequence in a slice of one's own.
-/
import Derived.Test.YtofcjcmbbkiaaaaG3
namespace Go.Proofs.Ytofcjcmbbkiaaaa
open Go.RowKit Go.Shelf BigFrame

attribute [local go_sem] Oper.semAt_some

theorem wpListIn_append_run {F : Fence} {n : Nat} {P : Program} {w w2 : World} {ops : Array Oper} {rest : List Oper} {o : Oper} {a : Act} {Q : Exit → Act → World → Prop}
    (hg : o.guard = none) (s x : Operand) (t : TypeId) (hop : o.op = Op.call { callee := Callee.builtin Builtin.append, args := #[s, x], argTypes := #[t, t] })
    (v1 v2 v' : Value) (hs : a.eval s = v1) (hx : a.eval x = v2) (hrun : (Builtin.append_ #[t, t] o.type #[v1, v2]).run P w = .ok v' w2)
    (hK : wpListIn F n P ops Q rest (a.put o.dst v') w2) : wpListIn F n P ops Q (o :: rest) a w := by
  refine wpListIn_plain hg fun K hK' => ?_
  unfold Oper.wpIn
  refine ⟨?_, ?_⟩
  · simp [Oper.about, hop, resolve, Target.leads, Sem.run_pure]
  · rw [Oper.semAt_plain F _ _ (by rw [hop]; intro c hc'; cases hc')]
    simp [execOp, hop, resolve, invoke, builtin, hs, hx, hrun, Result.andThen]
    exact hK' _ _ hK
/-- append of one element: what it turns, where the new row lies. -/
theorem append_grow {w : World} {base : Nat} {A : Option Addr} {n c s : Nat} {xs : List Int} {x : Int} (hO : w.ownsRow base 5 1 (.slice A n c) n (xs.map (Value.int .u8))) (hn : n ≤ 2199023255552) (hb : base ≤ w.heap.size) (hs : s = w.heap.size) :
    ∃ A2 c2 w2, (Builtin.append_ #[30, 30] 30 #[.slice A n c, .slice (some ⟨s, 0, none⟩) 1 1]).run Try.prog (w.alloc (.cells #[.int .u8 x] 5)) = .ok (.slice A2 (n + 1) c2) w2 ∧
      w2.ownsRow base 5 1 (.slice A2 (n + 1) c2) (n + 1) ((xs ++ [x]).map (Value.int .u8)) ∧ (w.alloc (.cells #[.int .u8 x] 5)).grownBy w2 (Value.slice A n c).ownBlock ∧
      ((Value.slice A2 (n + 1) c2).ownBlock = (Value.slice A n c).ownBlock ∨ (Value.slice A2 (n + 1) c2).ownBlock = some (w.heap.size + 1)) := by
  subst hs
  have hO' : (w.alloc (.cells #[.int .u8 x] 5)).ownsRow base 5 1 (.slice A n c) n (xs.map (Value.int .u8)) := hO.alloc _
  obtain ⟨i0, hi, hz0, hz1, hz2⟩ := info_parts Try.info_u8
  obtain ⟨V2, w2, h1, h2, h3, h4⟩ := run_append_rd_at (P := Try.prog) (t := 30) (ty := 30) (c' := 1) Try.underlying30 hi hz0 hz1 hz2 hO' (m := 1) (ys := [x]) (rd_lit w [x] 5) (by omega) (by rw [World.size_alloc]; omega)
  obtain ⟨A2, c2, rfl⟩ := ownsRow_shape h2
  rw [World.size_alloc] at h4
  exact ⟨A2, c2, w2, h1, h2, h3, h4⟩

def goldL (v m : Nat) : List Int := (List.range m).map (goldI v)
theorem goldL_length (v m : Nat) : (goldL v m).length = m := by simp [goldL]
theorem goldL_succ (v m : Nat) : goldL v (m + 1) = goldL v m ++ [goldI v m] := by simp [goldL, List.range_succ]
/-- A box that holds a slice of one's own: f k is in it; it lies nowhere in S + 2, S + 3. -/
def Gets (B n₀ S : Nat) (f : Nat → List Int) (k : Nat) (W : World) : Prop :=
  ∃ V, Boxed W B 30 V ∧ W.ownsRow n₀ 5 1 V k ((f k).map (Value.int .u8)) ∧ ∀ g, V.ownBlock = some g → g < S ∨ S + 4 ≤ g
theorem gets_own (B n₀ S : Nat) (f : Nat → List Int) : Own (Gets B n₀ S f) := holdsRow_own n₀ B 30 5 1 (fun k => k) (fun k => (f k).map (Value.int .u8)) (fun _ V => ∀ g, V.ownBlock = some g → g < S ∨ S + 4 ≤ g)
theorem gets_span {B n₀ S : Nat} {f : Nat → List Int} (hB : B < S) : SpanFrom (S + 2) 2 (Gets B n₀ S f) := by
  rintro k A C r ⟨V, h1, h2, h3⟩ hg l1 l2
  refine ⟨V, h1.kept hg (fun e => by injection e with e; omega), h2.kept hg (.inr fun e => ?_), h3⟩
  have := h3 r e
  omega
theorem gets_append {B n₀ S k c : Nat} {f : Nat → List Int} {A : Option Addr} {W : World} {x : Int} (hV : Boxed W B 30 (.slice A k c)) (hO : W.ownsRow n₀ 5 1 (.slice A k c) k ((f k).map (Value.int .u8)))
    (hG : ∀ g, (Value.slice A k c).ownBlock = some g → g < S ∨ S + 4 ≤ g) (hB : n₀ ≤ B) (hBS : B < S) (hn₀ : n₀ ≤ W.heap.size) (hS : S + 4 ≤ W.heap.size) (hk : k ≤ 1000000) (hf : f (k + 1) = f k ++ [x]) :
    ∃ A2 c2 w2, (Builtin.append_ #[30, 30] 30 #[.slice A k c, .slice (some ⟨W.heap.size, 0, none⟩) 1 1]).run Try.prog (W.alloc (.cells #[.int .u8 x] 5)) = .ok (.slice A2 (k + 1) c2) w2 ∧
      Boxed w2 B 30 (.slice A k c) ∧ KeepsOthers W (w2.setCell ⟨B, 0, none⟩ (.slice A2 (k + 1) c2)) ∧ KeepsSpan (S + 2) 2 W (w2.setCell ⟨B, 0, none⟩ (.slice A2 (k + 1) c2)) ∧
      Gets B n₀ S f (k + 1) (w2.setCell ⟨B, 0, none⟩ (.slice A2 (k + 1) c2)) ∧ Below n₀ W (w2.setCell ⟨B, 0, none⟩ (.slice A2 (k + 1) c2)) ∧
      (∀ B' t' v', Boxed W B' t' v' → t' ≠ 5 → B' ≠ B → Boxed (w2.setCell ⟨B, 0, none⟩ (.slice A2 (k + 1) c2)) B' t' v') := by
  obtain ⟨A2, c2, w2, h1, h2, h3, h4⟩ := append_grow (x := x) hO (by omega) hn₀ rfl
  obtain ⟨e1, e2, e3, e4, e5⟩ := hV.appended (by decide) hO hn₀ hB h2 h3
  refine ⟨A2, c2, w2, h1, e1, e4, fun j l1 l2 => ?_, ⟨_, e2, by rw [hf]; exact e3, fun g hg => ?_⟩, e5, fun B' t' v' hv' hte hne => ?_⟩
  · have n1 : some j ≠ (Value.slice A k c).ownBlock := fun e => by have := hG j e.symm; omega
    exact ((Below.heap_setCell _ _ _ _ (show j ≠ B by omega)).trans (h3.block j (by simp; omega) n1)).trans (Below.heap_alloc _ _ _ (by omega))
  · rcases h4 with h4 | h4
    · exact hG g (h4.symm.trans hg)
    · rw [h4] at hg
      injection hg with hg
      omega
  · exact ((hv'.alloc _).kept h3 (hv'.not_row hte hO)).other hne _
set_option maxRecDepth 100000 in
set_option maxHeartbeats 4000000 in
theorem start_in {n : Nat} (hn : 4 ≤ n) {v m : Nat} (hv : v < 2147483648) (hm : m ≤ 1000000) {w : World} :
    CallsIn Fence.wide n Try.prog 27 #[.int .u32 (v : Int), .int .i64 (m : Int)] w fun e w' => (∃ A c, e = .returned (.slice A m c) ∧
      w'.ownsRow w.heap.size 5 1 (.slice A m c) m ((goldL v m).map (Value.int .u8))) ∧ Below w.heap.size w w' := by
  have h1 : 1 ≤ n := by omega
  have hmk : ∀ u : World, (Instr.makeSlice 30 (.int .i64 0) (.int .i64 (m : Int))).run Try.prog u = .ok (.slice (some ⟨u.heap.size, 0, none⟩) 0 m) (u.alloc (.cells (madeCells #[.int .u8 0] m) 5)) := make_bytes m 0 (Nat.zero_le _) (by omega)
  refine callsIn_of_wp_marks Try.func27 rfl trivial ?_ rfl
  simp only [Try.ntmps27, List.size_toArray, List.length_cons, List.length_nil, Nat.reduceAdd, Nat.reduceSub, Array.replicate_succ, Array.replicate_zero, List.push_toArray, List.append_toArray, List.nil_append, List.cons_append]
  gi_wp2
  have bN := ((Boxed.new w 3 (.int .i64 (m : Int))).alloc (.cells (madeCells #[.int .u8 0] m) 5)).alloc (.cells #[.slice (some ⟨w.heap.size + 1, 0, none⟩) 0 m] 30)
  have bB := Boxed.new ((w.alloc (.cells #[.int .i64 (m : Int)] 3)).alloc (.cells (madeCells #[.int .u8 0] m) 5)) 30 (.slice (some ⟨w.heap.size + 1, 0, none⟩) 0 m)
  have hO0 := own_zeros (w := w.alloc (.cells #[.int .i64 (m : Int)] 3)) (B := w.heap.size) (n := m) (m := 0) (by simp) (by omega) (Nat.zero_le _)
  rw [World.size_alloc] at hO0
  have hO := hO0.alloc (.cells #[.slice (some ⟨w.heap.size + 1, 0, none⟩) 0 m] 30)
  have hb0 : Below w.heap.size w (((w.alloc (.cells #[.int .i64 (m : Int)] 3)).alloc (.cells (madeCells #[.int .u8 0] m) 5)).alloc (.cells #[.slice (some ⟨w.heap.size + 1, 0, none⟩) 0 m] 30)) :=
    (((Below.refl _ w).alloc (Nat.le_refl _) _).alloc (by simp) _).alloc (by simp; omega) _
  have hs0 : (((w.alloc (.cells #[.int .i64 (m : Int)] 3)).alloc (.cells (madeCells #[.int .u8 0] m) 5)).alloc (.cells #[.slice (some ⟨w.heap.size + 1, 0, none⟩) 0 m] 30)).heap.size = w.heap.size + 3 := by simp
  rw [World.size_alloc, World.size_alloc] at bB
  generalize ((w.alloc (.cells #[.int .i64 (m : Int)] 3)).alloc (.cells (madeCells #[.int .u8 0] m) 5)).alloc (.cells #[.slice (some ⟨w.heap.size + 1, 0, none⟩) 0 m] 30) = w3 at *
  clear hO0 hmk
  refine ⟨trivial, ?_⟩
  refine (bits_in (n - 1) _ _).mono ?_
  rintro e w' ⟨rfl, rfl⟩
  have bN' := bN.alloc (.cells #[.int .u32 (v : Int)] 22)
  have bB' := bB.alloc (.cells #[.int .u32 (v : Int)] 22)
  have hO' := hO.alloc (.cells #[.int .u32 (v : Int)] 22)
  have hb' := hb0.alloc hb0.size (.cells #[.int .u32 (v : Int)] 22)
  have bV := Boxed.new w3 22 (.int .u32 (v : Int))
  have hs' : (w3.alloc (.cells #[.int .u32 (v : Int)] 22)).heap.size = w.heap.size + 4 := by simp [hs0]
  rw [hs0] at bV
  generalize hw4 : w3.alloc (.cells #[.int .u32 (v : Int)] 22) = w4 at *
  clear bN bB hO hb0
  rw [hs0]
  gi_wp2
  have HSZ := Lib.hid hs'
  refine wpIn_runs h1 (gf := 28) (lb := #[.pointer (some ⟨w.heap.size + 3, 0, none⟩)]) rfl (enters_of Try.func28 (by kernel_rfl) rfl)
    (bits_runs (n := n - 1) (N := m + 1) (by omega) hv (B := w.heap.size + 3) (by omega) bV.cell) rfl
    (fun k W' => (Gets (w.heap.size + 1 + 1) w.heap.size w4.heap.size (goldL v) k W' ∧ Boxed W' w.heap.size 3 (.int .i64 (m : Int))) ∧ k ≤ m ∧ Below w.heap.size w W')
    (fun c W' => c = .exit 0 ∧ Gets (w.heap.size + 1 + 1) w.heap.size w4.heap.size (goldL v) m W' ∧ Below w.heap.size w W')
    (OwnFrom.and (Own.from (fun k A B row hs hg hr => ⟨gets_own _ _ _ _ k A B row hs.1 hg hr, boxed_own w.heap.size _ (fun _ : Nat => .int .i64 (m : Int)) k A B row hs.2 hg hr⟩) _) (OwnFrom.and (ownFrom_pure _ _) (ownFrom_below (Nat.le_refl _) (by omega))))
    (fun c s A B row hs hg hr => ⟨hs.1, (gets_own _ _ _ _).from _ m A B row hs.2.1 hg hr, ownFrom_below (Nat.le_refl _) (by omega) s A B row hs.2.2 hg hr⟩)
    (fun k A B r hs hg l1 l2 => ⟨⟨gets_span (by omega) k A B r hs.1.1 hg l1 l2, hs.1.2.kept hg (fun e => by injection e with e; omega)⟩, hs.2.1, hs.2.2.grown hg (by have := hs.2.2.size; omega) (fun j e => by injection e with e; omega)⟩)
    (fun k W' h => by have := h.2.1; omega)
    ⟨⟨⟨_, bB', hO', fun g hg => .inl (by simp [Value.ownBlock] at hg; omega)⟩, bN'⟩, Nat.zero_le _, hb'⟩
    (fun k => { tmps := #[.int .u32 (v : Int), .int .i64 (m : Int), undef, .pointer (some ⟨w.heap.size, 0, none⟩), .slice none 0 0, .pointer (some ⟨w.heap.size + 1 + 1, 0, none⟩), .int .u8 (goldI v k), .int .i64 (m : Int),
      .slice (some ⟨w.heap.size + 1, 0, none⟩) 0 m, .int .u32 (v : Int), .func (.func 28) #[] #[.pointer (some ⟨w.heap.size + 3, 0, none⟩)], .int .u8 (goldI v k), undef, undef, undef, undef, undef, undef, undef, undef, undef], defers := [] }) ?assign ?body ?done ?stop
  case assign =>
    intro l' k W' K hK
    gi_wp2
    exact hK
  case body =>
    rintro _ l' k W' ⟨⟨⟨V, hV, hO, hG⟩, bN⟩, hk, hb⟩ hbig
    obtain ⟨A, c, rfl⟩ := ownsRow_shape hO
    have c1 := hV.cell
    have f1 := hV.frozen
    have c2 := bN.cell
    by_cases hkm : k = m
    · subst hkm
      have hGe : Gets (w.heap.size + 1 + 1) w.heap.size w4.heap.size (goldL v) k W' := ⟨_, hV, hO, hG⟩
      clear hV hO hG
      gi_wp2
      exact ⟨KeepsFrom.refl _ _, rfl, hGe, hb⟩
    · have hne : ((k : Int) == (m : Int)) = false := by simp; omega
      obtain ⟨A2, c3, w5, hrun, b5, k5, s5, g5, bl5, ot5⟩ := gets_append (x := goldI v k) hV hO hG (by omega) (by omega) hb.size (by omega) (by omega) (goldL_succ v k)
      have hBN := ot5 _ _ _ bN (by decide) (by omega)
      have hBL := hb.trans bl5
      have d1 := b5.cell
      have e1 := b5.frozen
      have HR := Lib.hid hrun
      have hlt : k + 1 ≤ m := by omega
      generalize goldI v k = x at *
      clear hV hO hG hrun b5 ot5 bl5 bN hkm
      gi_wp2_with (gi_at_builtin; refine wpListIn_append_run rfl _ _ _ rfl _ _ _ rfl rfl HR.out ?_)
      exact ⟨k5.from _, s5, ⟨g5, hBN⟩, hlt, hBL⟩
  case done =>
    intro D W' _ h
    exact h.elim
  case stop =>
    rintro D c W' hD ⟨rfl, hx, hb⟩ hKD
    obtain ⟨V, hV, hO, hG⟩ := hx
    obtain ⟨A, c, rfl⟩ := ownsRow_shape hO
    have c1 := hV.cell
    gi_wp2
    refine ⟨by simp, .inl ⟨_, _, rfl, run_takeDeferred hKD, ?_⟩⟩
    exact ⟨_, results_tmp rfl _ _ _, ⟨_, _, rfl, ownsRow_putObj hO _ hKD rfl⟩, hb.trans (belowK_b (w := w) (Nat.le_refl _) W' D _ _ (by omega) hKD rfl rfl)⟩
theorem start_any {v m : Nat} (hv : v < 2147483648) (hm : m ≤ 1000000) {w : World} :
    Calls Try.prog 27 #[.int .u32 (v : Int), .int .i64 (m : Int)] w fun e w' => (∃ A c, e = .returned (.slice A m c) ∧
      w'.ownsRow w.heap.size 5 1 (.slice A m c) m ((goldL v m).map (Value.int .u8))) ∧ Below w.heap.size w w' :=
  callsIn_wide.1 (start_in (n := 6) (by decide) hv hm)
/-- What Sequence returns. -/
def seqS (v : Nat) (n : Int) : List Int × Int := if v < 2147483648 ∧ 0 ≤ n ∧ n < 131073 then (goldL v n.toNat, 0) else ([], 2)
theorem seqS_ok {v m : Nat} (hv : v < 2147483648) (hm : m ≤ 131072) : seqS v m = (goldL v m, 0) := by
  unfold seqS
  rw [if_pos ⟨hv, by omega, by omega⟩]
  rfl
theorem sequence_any {v : Nat} {n : Int} {w : World} (hv : v < 4294967296) :
    Calls Try.prog 15 #[.int .u32 (v : Int), .int .i64 n] w (RetBytes 5 w (seqS v n)) := by
  have b1 := fits_any (v := (v : Int)) (w := w) (by omega)
  have b2 := below_any (v := n) (e := 131073) (w := w)
  by_cases h1 : v < 2147483648
  · rw [decide_eq_true (show (v : Int) < 2147483648 by omega)] at b1
    by_cases h2 : 0 ≤ n ∧ n < 131073
    · rw [decide_eq_true h2] at b2
      obtain ⟨m, rfl⟩ := Int.eq_ofNat_of_zero_le h2.1
      rw [seqS_ok h1 (by omega)]
      have hs := Lib.hid (start_any (m := m) (w := w) h1 (by omega))
      have hl := Lib.hid (goldL_length v m)
      generalize goldL v m = r at *
      clear h2
      go_enter Try.func15, Try.ntmps15
      go_wp2_with fail
      refine b1.mono ?_
      rintro e w1 ⟨rfl, rfl⟩
      clear b1
      go_wp2_with fail
      refine b2.mono ?_
      rintro e w1 ⟨rfl, rfl⟩
      clear b2
      go_wp2_with fail
      refine hs.out.mono ?_
      rintro e w2 ⟨⟨A2, c2, rfl, hown⟩, hb⟩
      have hO := Lib.hid hown
      clear hown hs
      go_wp2_with fail
      go_ret2
      exact RetBytes.mk_ hl.out hO.out (Nat.le_refl _) hb rfl
    · rw [decide_eq_false h2] at b2
      have e : seqS v n = ([], 2) := by unfold seqS; rw [if_neg]; omega
      rw [e]
      clear e
      go_enter Try.func15, Try.ntmps15
      go_wp2_with fail
      refine b1.mono ?_
      rintro e w1 ⟨rfl, rfl⟩
      clear b1
      go_wp2_with fail
      refine b2.mono ?_
      rintro e w1 ⟨rfl, rfl⟩
      clear b2
      go_wp2_with fail
      go_ret2
      exact RetBytes.nil_ (Below.refl _ _)
  · rw [decide_eq_false (show ¬ (v : Int) < 2147483648 by omega)] at b1
    have e : seqS v n = ([], 2) := by unfold seqS; rw [if_neg]; omega
    rw [e]
    clear e
    go_enter Try.func15, Try.ntmps15
    go_wp2_with fail
    refine b1.mono ?_
    rintro e w1 ⟨rfl, rfl⟩
    clear b1
    go_wp2_with fail
    go_ret2
    exact RetBytes.nil_ (Below.refl _ _)
end Go.Proofs.Ytofcjcmbbkiaaaa
