/-
  The law BitstrRuns's walk: it returns true whatever came in; what was there stays.
-/
import Derived.Test.YtdjnmebgiabecaaR1
import Derived.Test.YtdjnmebgiabecaaW11
import Derived.WalkLawsBesides
import Derived.LoopN
namespace Go.Proofs.Ytdjnmebgiabecaa
open Go.RowKit Go.Shelf BigFrame

attribute [local go_sem] Oper.semAt_some

theorem grownBy_trans {A B C : World} {row : Option Nat} (h : A.grownBy B row) (k : B.grownBy C row) : A.grownBy C row :=
  ⟨k.os.trans h.os, k.tape.trans h.tape, k.output.trans h.output, Nat.le_trans h.size k.size, fun i hi hn => (k.block i (Nat.lt_of_lt_of_le hi h.size) hn).trans (h.block i hi hn)⟩

/-- What the law's loops read: the boxes of many, of the result, of n, of c, of the iterator's slice, and the rows behind them; all below block B. -/
structure Env (W : World) (B M Rb Nb Cb Bs : Nat) (many : Int) (A1 : Option Addr) (c1 : Nat) (A2 : Option Addr) (c2 : Nat) (A3 : Option Addr) (c3 n : Nat) (xs : List Int) (R : List (Nat × Int)) (r : Nat) : Prop where
  ml : M < B
  rl : Rb < B
  nl : Nb < B
  cl : Cb < B
  bl : Bs < B
  m : W.cell? ⟨M, 0, none⟩ = some (.int .i64 many)
  rc : W.cell? ⟨Rb, 0, none⟩ = some (.bool false)
  rf : W.frozen? ⟨Rb, 0, none⟩ = false
  nb : W.cell? ⟨Nb, 0, none⟩ = some (.slice A1 r c1)
  cb : W.cell? ⟨Cb, 0, none⟩ = some (.slice A2 r c2)
  bs : W.cell? ⟨Bs, 0, none⟩ = some (.slice A3 n c3)
  r1 : Rd .i64 W B A1 r (R.map fun p => (p.1 : Int))
  r2 : Rd .u8 W B A2 r (R.map (·.2))
  r3 : Rd .u8 W B A3 n xs
theorem Env.keep {W W' : World} {B M Rb Nb Cb Bs : Nat} {many : Int} {A1 A2 A3 : Option Addr} {c1 c2 c3 n r : Nat} {xs : List Int} {R : List (Nat × Int)} (h : Env W B M Rb Nb Cb Bs many A1 c1 A2 c2 A3 c3 n xs R r)
    (hk : ∀ k, k < B → W'.heap[k]? = W.heap[k]?) : Env W' B M Rb Nb Cb Bs many A1 c1 A2 c2 A3 c3 n xs R r :=
  have hc : ∀ p : Addr, p.block < B → W'.cell? p = W.cell? p := fun p hp => World.cell?_of_block (hk p.block hp)
  ⟨h.ml, h.rl, h.nl, h.cl, h.bl, (hc ⟨M, 0, none⟩ h.ml).trans h.m, (hc ⟨Rb, 0, none⟩ h.rl).trans h.rc, (World.frozen?_of_block (hk Rb h.rl)).trans h.rf, (hc ⟨Nb, 0, none⟩ h.nl).trans h.nb, (hc ⟨Cb, 0, none⟩ h.cl).trans h.cb, (hc ⟨Bs, 0, none⟩ h.bl).trans h.bs,
    h.r1.keep hc, h.r2.keep hc, h.r3.keep hc⟩
theorem below_grown {W W' : World} (h : Below W.heap.size W W') (row : Option Nat) : W.grownBy W' row := ⟨h.os, h.tape, h.output, h.size, fun k hk _ => h.block k hk⟩
/-- Two rows of which one begins where the other's block lies below. -/
theorem own_far {w w' : World} {base base' e e' n n' : Nat} {v v' : Value} {zs zs' : List Value} (h : w.ownsRow base e 1 v n zs) (h' : w'.ownsRow base' e' 1 v' n' zs') (hb : w'.heap.size ≤ base) : v.ownBlock = none ∨ v.ownBlock ≠ v'.ownBlock := by
  cases hv : v.ownBlock with
  | none => exact .inl rfl
  | some k =>
    refine .inr (fun he => ?_)
    have h1 := (h.lt k hv).1
    have h2 := (h'.lt k he.symm).2
    omega

theorem kept_below {w w' : World} {base e n : Nat} {v : Value} {zs : List Value} (h : w.ownsRow base e 1 v n zs) (hb : Below w.heap.size w w') : w'.ownsRow base e 1 v n zs := by
  refine h.kept (below_grown hb none) ?_
  cases v.ownBlock with
  | none => exact .inl rfl
  | some k => exact .inr (by simp)
theorem env_of {w1 w2 w4 w5 : World} {t51 t22 base0 M Rb Bs : Nat} {many : Int} {A0 A1 A2 A3 : Option Addr} {c0 c1 c2 c3 n r : Nat} {xs : List Int} {ys : List Value} {R : List (Nat × Int)} {ti tb : TypeId}
    (hO : w1.ownsRow base0 tb 1 (.slice A0 n c0) n ys) (ho1 : w2.ownsRow w1.heap.size ti 1 (.slice A1 r c1) r (lensOf R)) (ho2 : w2.ownsRow w1.heap.size tb 1 (.slice A2 r c2) r (elemsOf R)) (hb2 : Below w1.heap.size w1 w2)
    (hb4 : Below ((w2.alloc (.cells #[.slice A1 r c1] t51)).alloc (.cells #[.slice A2 r c2] t22)).heap.size ((w2.alloc (.cells #[.slice A1 r c1] t51)).alloc (.cells #[.slice A2 r c2] t22)) w4)
    (ho3 : w4.ownsRow ((w2.alloc (.cells #[.slice A1 r c1] t51)).alloc (.cells #[.slice A2 r c2] t22)).heap.size tb 1 (.slice A3 n c3) n (xs.map (Value.int .u8))) (hBs : ((w2.alloc (.cells #[.slice A1 r c1] t51)).alloc (.cells #[.slice A2 r c2] t22)).heap.size ≤ Bs)
    (hcB : w4.cell? ⟨Bs, 0, none⟩ = some (.slice A3 n c3)) (hg : w4.grownBy w5 (Value.slice A0 n c0).ownBlock) (hM : M < base0) (hRb : Rb < base0) (hbase : base0 ≤ w1.heap.size)
    (hcM : w1.cell? ⟨M, 0, none⟩ = some (.int .i64 many)) (hcR : w1.cell? ⟨Rb, 0, none⟩ = some (.bool false)) (hfR : w1.frozen? ⟨Rb, 0, none⟩ = false) :
    Env w5 w5.heap.size M Rb w2.heap.size (w2.heap.size + 1) Bs many A1 c1 A2 c2 A3 c3 n xs R r := by
  have hs2 := hb2.size
  have hs4 := hb4.size
  simp only [World.size_alloc] at hs4 hBs ho3
  have hs5 := hg.size
  have hBl := World.block_lt_of_cell? w4 _ hcB
  simp only [] at hBl
  -- a block that lay in w1, w2 or W3, and is not own's
  have hown : ∀ k, (Value.slice A0 n c0).ownBlock = some k → base0 ≤ k ∧ k < w1.heap.size := hO.lt
  have b12 : ∀ k, k < w1.heap.size → w4.heap[k]? = w1.heap[k]? := fun k hk => by
    rw [hb4.block k (by simp; omega), Below.heap_alloc _ _ _ (by simp; omega), Below.heap_alloc _ _ _ (by omega), hb2.block k hk]
  have b45 : ∀ k, k < w4.heap.size → (k < base0 ∨ w1.heap.size ≤ k) → w5.heap[k]? = w4.heap[k]? := fun k hk ho => hg.block k hk (fun e => by have := hown k e.symm; omega)
  have hN := Boxed.new w2 t51 (.slice A1 r c1)
  have hC := Boxed.new (w2.alloc (.cells #[.slice A1 r c1] t51)) t22 (.slice A2 r c2)
  rw [World.size_alloc] at hC
  have e1 : lensOf R = (R.map fun p => (p.1 : Int)).map (Value.int .i64) := by simp [lensOf]
  have e2 : elemsOf R = (R.map (·.2)).map (Value.int .u8) := by simp [elemsOf]
  have k1 := (kept_below ((ho1.alloc (.cells #[.slice A1 r c1] t51)).alloc (.cells #[.slice A2 r c2] t22)) hb4).kept hg (own_far ho1 hO (Nat.le_refl _))
  have k2 := (kept_below ((ho2.alloc (.cells #[.slice A1 r c1] t51)).alloc (.cells #[.slice A2 r c2] t22)) hb4).kept hg (own_far ho2 hO (Nat.le_refl _))
  have k3 := ho3.kept hg (own_far ho3 hO (by omega))
  rw [e1] at k1
  rw [e2] at k2
  refine ⟨by omega, by omega, by omega, by omega, by omega, ?_, ?_, ?_, ?_, ?_, ?_, Rd.of_own k1, Rd.of_own k2, Rd.of_own k3⟩
  · exact (World.cell?_of_block (a := ⟨M, 0, none⟩) ((b45 M (by omega) (.inl hM)).trans (b12 M (by omega)))).trans hcM
  · exact (World.cell?_of_block (a := ⟨Rb, 0, none⟩) ((b45 Rb (by omega) (.inl hRb)).trans (b12 Rb (by omega)))).trans hcR
  · exact (World.frozen?_of_block (a := ⟨Rb, 0, none⟩) ((b45 Rb (by omega) (.inl hRb)).trans (b12 Rb (by omega)))).trans hfR
  · exact (World.cell?_of_block (a := ⟨w2.heap.size, 0, none⟩) ((b45 _ (by simp only []; omega) (.inr (by simp only []; omega))).trans (hb4.block _ (by simp; omega)))).trans (hN.alloc _).cell
  · exact (World.cell?_of_block (a := ⟨w2.heap.size + 1, 0, none⟩) ((b45 _ (by simp only []; omega) (.inr (by simp only []; omega))).trans (hb4.block _ (by simp)))).trans hC.cell
  · exact (World.cell?_of_block (a := ⟨Bs, 0, none⟩) (b45 _ hBl (.inr (by simp only []; omega)))).trans hcB

theorem prefix_snoc {R pre : List (Nat × Int)} {x : Nat × Int} (hp : pre <+: R) :
    (pre ++ [x]) <+: R ↔ (pre.length < R.length ∧ (R.map fun p => (p.1 : Int))[pre.length]?.getD 0 = (x.1 : Int) ∧ (R.map (·.2))[pre.length]?.getD 0 = x.2) := by
  obtain ⟨t, rfl⟩ := hp
  cases t with
  | nil =>
    constructor
    · intro h; have := h.length_le; simp at this; omega
    · intro h; simp at h
  | cons y t =>
    have e : (pre ++ [x]) <+: (pre ++ y :: t) ↔ x = y := by
      constructor
      · rintro ⟨s, hs⟩
        rw [List.append_assoc] at hs
        have := List.append_cancel_left hs
        simp at this
        exact this.1
      · rintro rfl
        exact ⟨t, by simp⟩
    rw [e]
    simp
    obtain ⟨a, b⟩ := x
    obtain ⟨a', b'⟩ := y
    simp
    constructor
    · rintro ⟨rfl, rfl⟩; exact ⟨rfl, rfl⟩
    · rintro ⟨h1, h2⟩; exact ⟨by omega, h2.symm⟩

theorem min_done {r : Nat} {many : Int} (h : (r : Int) < many ∨ r = 0) : (if (if 1 < many then many else 1) < (r : Int) then (if 1 < many then many else 1) else (r : Int)) = (r : Int) := by
  by_cases hm : 1 < many
  · rw [if_pos hm, if_neg (by omega)]
  · rw [if_neg hm, if_neg (by omega)]
theorem min_stop {r k : Nat} {many : Int} (h0 : 0 < k) (hr : k ≤ r) (h1 : many ≤ (k : Int)) (h2 : k = 1 ∨ (k : Int) ≤ many) : (if (if 1 < many then many else 1) < (r : Int) then (if 1 < many then many else 1) else (r : Int)) = (k : Int) := by
  by_cases hm : 1 < many
  · rw [if_pos hm]
    split <;> omega
  · rw [if_neg hm]
    split <;> omega
/-- Between two rounds of the range; where a round has left. t0: is it the first turn? -/
def IR (many : Int) (R : List (Nat × Int)) (t0 : Bool) (K : Nat) (W1 : World) (pre : List (Nat × Int)) (W : World) : Prop :=
  ((W.cell? ⟨K, 0, none⟩ = some (.int .i64 (pre.length : Nat)) ∧ W.frozen? ⟨K, 0, none⟩ = false) ∧ (pre <+: R ∧ (t0 = true → pre = [] ∨ (pre.length : Int) < many))) ∧ Below K W1 W
def IxR (many : Int) (R : List (Nat × Int)) (brk : Code) (K : Nat) (W1 : World) (c : Code) (pre : List (Nat × Int)) (W : World) : Prop :=
  (c = .ret ∧ ¬ pre <+: R) ∨ (c = brk ∧ W.cell? ⟨K, 0, none⟩ = some (.int .i64 (pre.length : Nat)) ∧ many ≤ (pre.length : Int) ∧ (pre.length = 1 ∨ (pre.length : Int) ≤ many) ∧ 0 < pre.length ∧ Below K W1 W)
theorem IR.own {many : Int} {R : List (Nat × Int)} {t0 : Bool} {K : Nat} {W1 : World} (hK : K ≤ W1.heap.size) : OwnFrom W1.heap.size (IR many R t0 K W1) :=
  OwnFrom.and (Own.from (fun s A B row hs hg hr => ⟨⟨cell_kept hs.1.1 hg hr, (frozen_kept hs.1.1 hg hr).trans hs.1.2⟩, hs.2⟩) _) (ownFrom_below hK hK)
theorem IxR.own {many : Int} {R : List (Nat × Int)} {brk : Code} {K : Nat} {W1 : World} (hK : K ≤ W1.heap.size) (c : Code) : OwnFrom W1.heap.size (IxR many R brk K W1 c) := fun s A B row hs hg hr => by
  rcases hs with h | ⟨h1, h2, h3, h4, h5, h6⟩
  · exact .inl h
  · exact .inr ⟨h1, cell_kept h2 hg (fun r e => (hr r e).2), h3, h4, h5, ownFrom_below (β := Unit) hK hK () A B row h6 hg hr⟩

set_option maxRecDepth 100000 in
set_option maxHeartbeats 4000000 in
theorem runs_walk_in {A : Option Addr} {n c : Nat} {many : Int} {xs : List Int} {w : World} (hI : Rd .u8 w w.heap.size A n xs) (hx : Byte xs) :
    CallsIn Fence.wide 6 Try.prog 7 #[.slice A n c, .int .i64 many] w fun e w' => e = .returned (.bool true) ∧ Below w.heap.size w w' := by
  obtain ⟨i0, hi, hz0, hz1, hz2⟩ := info_parts Try.info_u8
  have hL := Lib.hid hI.len
  refine callsIn_of_wp_marks Try.func7 rfl trivial ?_ rfl
  simp only [Try.ntmps7, List.size_toArray, List.length_cons, List.length_nil, Nat.reduceAdd, Nat.reduceSub, Array.replicate_succ, Array.replicate_zero, List.push_toArray, List.append_toArray, List.nil_append, List.cons_append]
  refine wpIn_wide.2 ?_
  have bM := Boxed.new w 3 (.int .i64 many)
  have bR := Boxed.new (w.alloc (.cells #[.int .i64 many] 3)) 4 (.bool false)
  rw [World.size_alloc] at bR
  by_cases h500 : 500 < n
  · go_wp2_with fail
    refine (works_any _).mono ?_
    rintro e w1 ⟨rfl, hb1⟩
    have hc := (hb1.cell (p := ⟨w.heap.size + 1, 0, none⟩) (by simp)).trans bR.cell
    have hf := (hb1.frozen (p := ⟨w.heap.size + 1, 0, none⟩) (by simp)).trans bR.frozen
    have hB1 := below_next2 (Below.refl _ w) hb1
    go_wp2_with fail
    refine ⟨.bool true, ?_, rfl, hB1.setCell (p := ⟨w.heap.size + 1, 0, none⟩) (by simp) _⟩
    have hc5 := World.cell?_setCell_same' w1 ⟨w.heap.size + 1, 0, none⟩ (.bool true) (by rw [hc]; rfl)
    simp [results, Try.f7, go_sem, hc5]
  · have hn : n ≤ 500 := by omega
    have hI0 := (((hI.alloc (Nat.le_refl _) (.cells #[.int .i64 many] 3)).alloc (by simp) (.cells #[.bool false] 4)).alloc (by simp; omega) (.cells #[] 5))
    have ho : (((w.alloc (.cells #[.int .i64 many] 3)).alloc (.cells #[.bool false] 4)).alloc (.cells #[] 5)).ownsRow (w.heap.size + 2) 5 1 (.slice (some ⟨w.heap.size + 2, 0, none⟩) 0 0) 0 (([] : List Int).map (Value.int .u8)) := by
      have := World.ownsRow_lit (base := w.heap.size + 2) (e := 5) (size := 1) ((w.alloc (.cells #[.int .i64 many] 3)).alloc (.cells #[.bool false] 4)) #[] 0 (by simp) (by unfold maxLen; omega) (by simp)
      simpa using this
    obtain ⟨A0, c0, w1, hrun, hown, hgrow⟩ := run_append_rd (P := Try.prog) (t := 22) (ty := 22) (c' := c) Try.underlying22 hi hz0 hz1 hz2 ho hI0 (by omega) (by simp)
    simp only [Nat.zero_add, List.nil_append] at hrun hown
    have hb0 : Below (w.heap.size + 2) ((w.alloc (.cells #[.int .i64 many] 3)).alloc (.cells #[.bool false] 4)) w1 :=
      ((Below.refl _ _).alloc (by simp) _).grown hgrow (by simp) (fun g hg => by simp [Value.ownBlock] at hg; omega)
    have hO := Lib.hid hown
    have hRun := Lib.hid hrun
    have hcM := (hb0.cell (p := ⟨w.heap.size, 0, none⟩) (by simp)).trans (bM.alloc _).cell
    have hcR := (hb0.cell (p := ⟨w.heap.size + 1, 0, none⟩) (by simp)).trans bR.cell
    have hfR := (hb0.frozen (p := ⟨w.heap.size + 1, 0, none⟩) (by simp)).trans bR.frozen
    have hB1 : Below w.heap.size w w1 := (below_two _ _).trans (hb0.mono (by omega))
    have hI1 := hI.below hB1
    have hsw1 : w.heap.size + 2 ≤ w1.heap.size := by have := hb0.size; simpa using this
    clear hown hrun ho hgrow hI0 hb0 bM bR
    go_wp2_with (at_builtin; refine Lib.wpList_append_run _ rfl _ _ _ _ rfl _ _ rfl rfl _ _ hRun.out ?_)
    refine (refRuns_any hI1 hB1.size (by omega)).mono ?_
    rintro e w2 ⟨A1, c1, A2, c2, rfl, ho1, ho2, hb2⟩
    have hRl : (runsL xs).length ≤ 500 := by have := runs_len xs; have := hL.out; omega
    have hRR := Lib.hid (rfl : runsL xs = runsL xs)
    generalize hR : runsL xs = R at ho1 ho2 hRl ⊢
    have hRx := Lib.hid hR
    clear hR hRR
    obtain ⟨r, hr⟩ : ∃ r, R.length = r := ⟨_, rfl⟩
    rw [hr] at ho1 ho2 hRl ⊢
    have hrR := Lib.hid hr
    clear hr
    have hOw := (Rd.of_own hO.out).next0 hb2
    have hOw3 := (hOw.alloc1 (.cells #[.slice A1 r c1] 51)).alloc1 (.cells #[.slice A2 r c2] 22)
    have hcl := runs_any (c := c0) hOw3 (Nat.le_refl _) (by omega)
    have hCl := Lib.hid hcl
    clear hcl hOw hOw3
    go_wp2_with fail
    refine hCl.out.mono ?_
    rintro e w4 ⟨A3, c3, Bs, rfl, ho3, hb4, hBs, hcB⟩
    have hs1 := hB1.size
    have hs2 := hb2.size
    have hO4 : w4.ownsRow (w.heap.size + 2) 5 1 (.slice A0 n c0) n (xs.map (Value.int .u8)) := kept_below (((kept_below hO.out hb2).alloc _).alloc _) hb4
    have hHO4 := Lib.hid hO4
    have hB4 : Below w.heap.size w w4 := below_next2 (below_next0 hB1 hb2) hb4
    have hsw : w.heap.size + 2 ≤ w1.heap.size := hsw1
    have HALL := Lib.hid (fun (w5 : World) (hg : w4.grownBy w5 (Value.slice A0 n c0).ownBlock) => env_of (M := w.heap.size) (Rb := w.heap.size + 1) hO.out ho1 ho2 hb2 hb4 ho3 hBs hcB hg (by omega) (by omega) hsw hcM hcR hfR)
    clear ho1 ho2 ho3 hcB hcM hcR hfR hb2 hb4 hO4 hCl
    have hfn : ∀ u : World, (binOp .eql 55 (.func (.func 42) #[] #[.pointer (some ⟨Bs, 0, none⟩)]) Value.nilFunc).run Try.prog u = .ok (.bool false) u := fun u => by kernel_rfl
    go_wp2_with fail
    go_loopw [9] (fun i wr => ∃ (m : Nat) (ys : List Value), m ≤ n ∧ i = .int .i64 m ∧ wr.ownsRow (w.heap.size + 2) 5 1 (.slice A0 n c0) n ys ∧ w4.grownBy wr (Value.slice A0 n c0).ownBlock ∧ Below w.heap.size w wr)
      (fun i _ => n - (intOf i).toNat)
    case atStart => exact ⟨0, _, Nat.zero_le _, rfl, hHO4.out, ⟨rfl, rfl, rfl, Nat.le_refl _, fun _ _ _ => rfl⟩, hB4⟩
    case round =>
      clear hB4
      obtain ⟨m, ys, hm, rfl, hown, hgr, hB5⟩ := hrel
      by_cases hml : m < n
      · obtain ⟨g, cap, hv, hg, hlt⟩ := hown.form (by omega)
        injection hv with e1 _ e3
        subst e1 e3
        have hyl : m < ys.length := by rw [hown.1]; omega
        have hc0 : wr.cell? ⟨g, m, none⟩ = some ys[m] := by rw [hown.cellAt m (by omega)]; exact List.getElem?_eq_getElem hyl
        have hf0 := hown.frozenAt m
        have hST := Lib.hid (fun u => hown.stored m u)
        have hGR := Lib.hid hgr
        clear hown hgr
        generalize ys[m] = y0 at hc0
        go_wp2_with fail
        go_roundw
        case rel => exact ⟨m + 1, _, by omega, by go_num, (hST.out _).1, grownBy_trans hGR.out (hST.out _).2, hB5.setCell (p := ⟨g, m, none⟩) (Nat.le_trans (Nat.le_add_right _ 2) hg) _⟩
        case measure => simp [intOf]; omega
      · obtain rfl : m = n := by omega
        have hE := HALL.out wr hgr
        clear hown hgr HALL hHO4
        generalize hM : w.heap.size = M at *
        go_wp2_with fail
        refine wp_loop_rounds 3 ?_
        rw [rounds_succ]
        go_wp2_with fail
        have hEl := hE.rl
        have hEb := hE.bl
        have hT := Boxed.new wr 3 (.int .i64 0)
        have hK := Boxed.new (wr.alloc (.cells #[.int .i64 0] 3)) 3 (.int .i64 0)
        rw [World.size_alloc] at hK
        obtain ⟨W1, hW1⟩ : ∃ W, W = (wr.alloc (.cells #[.int .i64 0] 3)).alloc (.cells #[.int .i64 0] 3) := ⟨_, rfl⟩
        have hsW1 : W1.heap.size = wr.heap.size + 2 := by rw [hW1]; simp
        have hE1 := hE.keep (W' := W1) (fun k hk => by rw [hW1, Below.heap_alloc _ _ _ (by simp; omega), Below.heap_alloc _ _ _ hk])
        have hT1 : Boxed W1 wr.heap.size 3 (.int .i64 0) := by rw [hW1]; exact hT.alloc _
        have hK1 : Boxed W1 (wr.heap.size + 1) 3 (.int .i64 0) := by rw [hW1]; exact hK
        have hB6 : Below M w W1 := by rw [hW1]; exact (hB5.alloc (by rw [← hM]; exact hB5.size) _).alloc (by rw [← hM]; have := hB5.size; simp; omega) _
        rw [← hW1]
        clear hT hK hW1
        have hsz := Lib.hid hsW1
        refine (wpIn_wide (n := 6)).1 ?_
        refine wpIn_rangeFunc_ownG rfl (by omega) (gf := 42) (lb := #[.pointer (some ⟨Bs, 0, none⟩)]) rfl trivial (enters_of Try.func42 (by kernel_rfl) rfl)
          (runs_stops 5 (by omega) Bs (wr.heap.size + 1) A3 m c3 xs (by omega) W1 (by omega) (by omega) hE1.bs (hE1.r3.more (by omega))) keepsFor_t (keepsFor_b (by omega) (by omega)) (Below.refl _ _) (fun _ => rfl)
          (IR many R true (wr.heap.size + 1) W1) (IxR many R (.exit 4) (wr.heap.size + 1) W1) (IR.own (by omega)) (IxR.own (by omega))
          ⟨⟨⟨hK1.cell, hK1.frozen⟩, List.nil_prefix, fun _ => .inl rfl⟩, Below.refl _ _⟩ ?a1 ?assign ?body ?done ?stop
        case assign =>
          intro l x W K hK
          gi_wp2
          exact hK
        case body =>
          rintro l pre x W hi hlen
          obtain ⟨⟨⟨hc, hf⟩, hp, hgo⟩, hBW⟩ := hi
          have hEW := hE1.keep (W' := W) (fun k hk => hBW.block k (by omega))
          have hcM := hEW.m
          have hcR := hEW.rc
          have hfR := hEW.rf
          have hcN := hEW.nb
          have hcC := hEW.cb
          have hcT : W.cell? ⟨wr.heap.size, 0, none⟩ = some (.int .i64 0) := (hBW.cell (p := ⟨wr.heap.size, 0, none⟩) (by simp only []; omega)).trans hT1.cell
          have hPS := Lib.hid (prefix_snoc (x := x) hp)
          have hplen := Lib.hid hp.length_le
          have hGO := Lib.hid hgo
          have hP := Lib.hid hp
          clear hp hgo
          by_cases h1 : pre.length < r
          · obtain ⟨b1, o1, e1, _, hx1⟩ := hEW.r1.cells pre.length h1
            obtain ⟨b2, o2, e2, _, hx2⟩ := hEW.r2.cells pre.length h1
            subst e1 e2
            generalize (R.map fun p => (p.1 : Int))[pre.length]?.getD 0 = a at hx1 hPS
            generalize (R.map (·.2))[pre.length]?.getD 0 = b at hx2 hPS
            have hq0 : decide ((r : Int) ≤ (pre.length : Int)) = false := by simp; omega
            have hpl0 : (0 : Int) ≤ (pre.length : Int) := by omega
            have hpl1 : (pre.length : Int) < (r : Int) := by omega
            have hpl2 : (pre.length : Int) ≤ 500 := by omega
            by_cases h2 : a = (x.1 : Int)
            · have hq1 : ((x.1 : Int) != a) = false := by simp [h2]
              by_cases h3 : b = x.2
              · have hq2 : (x.2 != b) = false := by simp [h3]
                have hPre : Hid ((pre ++ [x]) <+: R) := Lib.hid (hPS.out.2 ⟨by rw [hrR.out]; exact h1, h2, h3⟩)
                clear hPS h2 h3
                by_cases hm : many ≤ (pre.length : Int) + 1
                · have hq3 : decide (many ≤ (pre.length : Int) + 1) = true := by simp; exact hm
                  have hlow : pre.length + 1 = 1 ∨ ((pre.length : Int) + 1) ≤ many := by
                    rcases hGO.out rfl with h | h
                    · left; rw [h]; rfl
                    · right; omega
                  have hLow := Lib.hid hlow; clear hlow
                  gi_wp2
                  refine ⟨(KeepsOthers.setCell _ _ _).from _, .inr ⟨rfl, ?_, ?_, ?_, ?_, hBW.setCell (p := ⟨wr.heap.size + 1, 0, none⟩) (Nat.le_refl _) _⟩⟩
                  · rw [World.cell?_setCell_same' _ _ _ (by rw [hc]; rfl)]; simp
                  · simp; omega
                  · simpa using hLow.out
                  · simp
                · have hq3 : decide (many ≤ (pre.length : Int) + 1) = false := by simp; omega
                  gi_wp2
                  refine ⟨(KeepsOthers.setCell _ _ _).from _, (KeepsFor.refl _ _ _).setCell (p := ⟨wr.heap.size + 1, 0, none⟩) (Nat.le_refl _) (by simp only []; omega) _, ⟨⟨?_, by rw [World.frozen?_setCell]; exact hf⟩, hPre.out, fun _ => .inr (by simp; omega)⟩, hBW.setCell (p := ⟨wr.heap.size + 1, 0, none⟩) (Nat.le_refl _) _⟩
                  rw [World.cell?_setCell_same' _ _ _ (by rw [hc]; rfl)]; simp
              · have hq2 : (x.2 != b) = true := by simp; exact fun h => h3 h.symm
                have hBad : Hid (¬ (pre ++ [x]) <+: R) := Lib.hid (fun h => h3 (hPS.out.1 h).2.2)
                clear hPS h2 h3
                gi_wp2
                exact ⟨(KeepsOthers.setCell _ _ _).from _, .inl ⟨rfl, hBad.out⟩⟩
            · have hq1 : ((x.1 : Int) != a) = true := by simp; exact fun h => h2 h.symm
              have hBad : Hid (¬ (pre ++ [x]) <+: R) := Lib.hid (fun h => h2 (hPS.out.1 h).2.1)
              clear hPS h2
              gi_wp2
              exact ⟨(KeepsOthers.setCell _ _ _).from _, .inl ⟨rfl, hBad.out⟩⟩
          · have hq0 : decide ((r : Int) ≤ (pre.length : Int)) = true := by simp; omega
            have hBad : Hid (¬ (pre ++ [x]) <+: R) := Lib.hid (fun h => h1 (by have := (hPS.out.1 h).1; rw [hrR.out] at this; exact this))
            clear hPS
            gi_wp2
            exact ⟨(KeepsOthers.setCell _ _ _).from _, .inl ⟨rfl, hBad.out⟩⟩
        case done =>
          rintro D ys W hD hys hi hKD
          rw [hys, hRx.out] at hi
          obtain ⟨⟨⟨hc, hf⟩, hp, hgo⟩, hBW⟩ := hi
          rw [hrR.out] at hc
          have hEW := hE1.keep (W' := W) (fun k hk => hBW.block k (by omega))
          have hcM := hEW.m
          have hcN := hEW.nb
          have hcT : W.cell? ⟨wr.heap.size, 0, none⟩ = some (.int .i64 0) := (hBW.cell (p := ⟨wr.heap.size, 0, none⟩) (by simp only []; omega)).trans hT1.cell
          have hG0 : Hid ((r : Int) < many ∨ r = 0) := Lib.hid (by
            rcases hgo rfl with h | h
            · right; rw [← hrR.out, h]; rfl
            · left; rw [hrR.out] at h; exact h)
          have hP := Lib.hid hp
          clear hgo hp
          have hq9 := min_done hG0.out
          have hsWa := hBW.size
          have hBa : Below M w W := hB6.trans (hBW.mono (by omega))
          have hMa : Marks W [D] := (Marks.nil W).cons hKD (by simp)
          obtain ⟨Wa, hWa⟩ : ∃ Wa, Wa = W := ⟨_, rfl⟩
          rw [← hWa] at hsWa hBa hMa hEW hcM hcN hcT hc hKD ⊢
          clear hBW hf hWa
          have hDlt : D < Wa.heap.size := hMa.lt D (by simp)
          have hDge := hD
          go_wp2_with fail
          · clear hq9 hcM hcN hcT hc hKD
            rw [rounds_succ]
            go_wp2_with fail
            have hT := Boxed.new Wa 3 (.int .i64 1)
            have hK := Boxed.new (Wa.alloc (.cells #[.int .i64 1] 3)) 3 (.int .i64 0)
            rw [World.size_alloc] at hK
            obtain ⟨W2, hW2⟩ : ∃ W', W' = (Wa.alloc (.cells #[.int .i64 1] 3)).alloc (.cells #[.int .i64 0] 3) := ⟨_, rfl⟩
            have hsW2 : W2.heap.size = Wa.heap.size + 2 := by rw [hW2]; simp
            have hE2 := hEW.keep (W' := W2) (fun k hk => by rw [hW2, Below.heap_alloc _ _ _ (by simp; omega), Below.heap_alloc _ _ _ (by omega)])
            have hT2 : Boxed W2 Wa.heap.size 3 (.int .i64 1) := by rw [hW2]; exact hT.alloc _
            have hK2 : Boxed W2 (Wa.heap.size + 1) 3 (.int .i64 0) := by rw [hW2]; exact hK
            have hB7 : Below M w W2 := by rw [hW2]; exact (hBa.alloc (by omega) _).alloc (by simp; omega) _
            have hM2 : Marks W2 [D] := by rw [hW2]; exact (hMa.alloc _).alloc _
            rw [← hW2]
            clear hT hK hW2
            refine (wpIn_wide (n := 6)).1 ?_
            refine wpIn_rangeFunc_ownG rfl (by omega) (gf := 42) (lb := #[.pointer (some ⟨Bs, 0, none⟩)]) rfl trivial (enters_of Try.func42 (by kernel_rfl) rfl)
              (runs_stops 5 (by omega) Bs (Wa.heap.size + 1) A3 m c3 xs (by omega) W2 (by omega) (by omega) hE2.bs (hE2.r3.more (by omega))) keepsFor_t (keepsFor_b (by omega) (by omega)) (Below.refl _ _) (fun _ => rfl)
              (fun pre W => IR many R false (Wa.heap.size + 1) W2 pre W ∧ Marks W [D]) (fun c pre _ => c = .ret ∧ ¬ pre <+: R) (OwnFrom.and (IR.own (by omega)) (Marks.ownFrom (by simp; omega))) (fun _ _ _ _ _ hs _ _ => hs)
              ⟨⟨⟨⟨hK2.cell, hK2.frozen⟩, List.nil_prefix, fun h => by cases h⟩, Below.refl _ _⟩, hM2⟩ ?a2a ?assign2a ?body2a ?done2a ?stop2a
            case assign2a =>
              intro l x W K hK
              gi_wp2
              exact hK
            case body2a =>
              rintro l pre x W hi hlen
              obtain ⟨⟨⟨⟨hc, hf⟩, hp, hgo⟩, hBW⟩, hMk⟩ := hi
              have hEW := hE2.keep (W' := W) (fun k hk => hBW.block k (by omega))
              have hcM := hEW.m
              have hcR := hEW.rc
              have hfR := hEW.rf
              have hcN := hEW.nb
              have hcC := hEW.cb
              have hcT : W.cell? ⟨Wa.heap.size, 0, none⟩ = some (.int .i64 1) := (hBW.cell (p := ⟨Wa.heap.size, 0, none⟩) (by simp only []; omega)).trans hT2.cell
              have hPS := Lib.hid (prefix_snoc (x := x) hp)
              have hplen := Lib.hid hp.length_le
              have hGO := Lib.hid hgo
              have hP := Lib.hid hp
              clear hp hgo
              by_cases h1 : pre.length < r
              · obtain ⟨b1, o1, e1, _, hx1⟩ := hEW.r1.cells pre.length h1
                obtain ⟨b2, o2, e2, _, hx2⟩ := hEW.r2.cells pre.length h1
                subst e1 e2
                generalize (R.map fun p => (p.1 : Int))[pre.length]?.getD 0 = a at hx1 hPS
                generalize (R.map (·.2))[pre.length]?.getD 0 = b at hx2 hPS
                have hq0 : decide ((r : Int) ≤ (pre.length : Int)) = false := by simp; omega
                have hpl0 : (0 : Int) ≤ (pre.length : Int) := by omega
                have hpl1 : (pre.length : Int) < (r : Int) := by omega
                have hpl2 : (pre.length : Int) ≤ 500 := by omega
                by_cases h2 : a = (x.1 : Int)
                · have hq1 : ((x.1 : Int) != a) = false := by simp [h2]
                  by_cases h3 : b = x.2
                  · have hq2 : (x.2 != b) = false := by simp [h3]
                    have hPre : Hid ((pre ++ [x]) <+: R) := Lib.hid (hPS.out.2 ⟨by rw [hrR.out]; exact h1, h2, h3⟩)
                    clear hPS h2 h3
                    gi_wp2
                    refine ⟨(KeepsOthers.setCell _ _ _).from _, (KeepsFor.refl _ _ _).setCell (p := ⟨Wa.heap.size + 1, 0, none⟩) (Nat.le_refl _) (by simp only []; omega) _, ⟨⟨⟨?_, by rw [World.frozen?_setCell]; exact hf⟩, hPre.out, fun h => by cases h⟩, hBW.setCell (p := ⟨Wa.heap.size + 1, 0, none⟩) (Nat.le_refl _) _⟩, hMk.setCell _ (by simp; omega)⟩
                    rw [World.cell?_setCell_same' _ _ _ (by rw [hc]; rfl)]; simp
                  · have hq2 : (x.2 != b) = true := by simp; exact fun h => h3 h.symm
                    have hBad : Hid (¬ (pre ++ [x]) <+: R) := Lib.hid (fun h => h3 (hPS.out.1 h).2.2)
                    clear hPS h2 h3
                    gi_wp2
                    exact ⟨(KeepsOthers.setCell _ _ _).from _, ⟨rfl, hBad.out⟩⟩
                · have hq1 : ((x.1 : Int) != a) = true := by simp; exact fun h => h2 h.symm
                  have hBad : Hid (¬ (pre ++ [x]) <+: R) := Lib.hid (fun h => h2 (hPS.out.1 h).2.1)
                  clear hPS h2
                  gi_wp2
                  exact ⟨(KeepsOthers.setCell _ _ _).from _, ⟨rfl, hBad.out⟩⟩
              · have hq0 : decide ((r : Int) ≤ (pre.length : Int)) = true := by simp; omega
                have hBad : Hid (¬ (pre ++ [x]) <+: R) := Lib.hid (fun h => h1 (by have := (hPS.out.1 h).1; rw [hrR.out] at this; exact this))
                clear hPS
                gi_wp2
                exact ⟨(KeepsOthers.setCell _ _ _).from _, ⟨rfl, hBad.out⟩⟩
            case done2a =>
              rintro D2 ys W hD2 hys hi hKD2
              rw [hys, hRx.out] at hi
              obtain ⟨⟨⟨⟨hc, hf⟩, hp, hgo⟩, hBW⟩, hMk⟩ := hi
              rw [hrR.out] at hc
              have hEW3 := hE2.keep (W' := W) (fun k hk => hBW.block k (by omega))
              have hcN := hEW3.nb
              have hcT : W.cell? ⟨Wa.heap.size, 0, none⟩ = some (.int .i64 1) := (hBW.cell (p := ⟨Wa.heap.size, 0, none⟩) (by simp only []; omega)).trans hT2.cell
              have hsW3 := hBW.size
              have hcR := cell_new (.cells #[.int .i64 2] 3) hEW3.rc
              have hfR := frozen_new (.cells #[.int .i64 2] 3) hEW3.rc hEW3.rf
              have hMarks := (hMk.cons hKD2 (by simp; omega)).alloc (.cells #[.int .i64 2] 3)
              have hBw : Below M w (W.alloc (.cells #[.int .i64 2] 3)) := (hB7.trans (hBW.mono (by omega))).alloc (by omega) _
              clear hgo hp
              go_wp2_with fail
              rw [rounds_succ]
              go_wp2_with fail
              refine (works_any _).mono ?_
              rintro e w9 ⟨rfl, hb9⟩
              have hs9 := hb9.size
              simp only [World.size_alloc] at hs9
              have hcR9 := (hb9.cell (p := ⟨M + 1, 0, none⟩) (by simp; omega)).trans hcR
              have hfR9 := (hb9.frozen (p := ⟨M + 1, 0, none⟩) (by simp; omega)).trans hfR
              have hM9 := hMarks.grown (below_grown hb9 none) (fun _ _ e => by cases e)
              have hB9 : Below M w w9 := hBw.trans (hb9.mono (by simp; omega))
              go_wp2_with fail
              have hM10 := hM9.setCell (p := ⟨M + 1, 0, none⟩) (.bool true) (by simp; omega)
              refine leaves_marks (B := wr.heap.size) [D2, D] _ hM10 (by simp; omega) (fun w11 h11 => ⟨.bool true, ?_, rfl, ?_⟩)
              · have hc5 := (h11.cell (p := ⟨M + 1, 0, none⟩) (by simp only []; omega)).trans (World.cell?_setCell_same' w9 ⟨M + 1, 0, none⟩ (.bool true) (by rw [hcR9]; rfl))
                simp [results, Try.f7, go_sem, hc5]
              · rw [hM]
                exact (hB9.setCell (p := ⟨M + 1, 0, none⟩) (by simp only []; omega) _).trans (h11.mono (by omega))
            case stop2a =>
              rintro D2 cx pre W hD2 hpre ⟨rfl, hbad⟩ hKD2
              exact absurd hpre (by rw [hRx.out]; exact hbad)
          · clear hq9 hcM hcN hcT hc hKD
            rw [rounds_succ]
            go_wp2_with fail
            have hT := Boxed.new Wa 3 (.int .i64 1)
            have hK := Boxed.new (Wa.alloc (.cells #[.int .i64 1] 3)) 3 (.int .i64 0)
            rw [World.size_alloc] at hK
            obtain ⟨W2, hW2⟩ : ∃ W', W' = (Wa.alloc (.cells #[.int .i64 1] 3)).alloc (.cells #[.int .i64 0] 3) := ⟨_, rfl⟩
            have hsW2 : W2.heap.size = Wa.heap.size + 2 := by rw [hW2]; simp
            have hE2 := hEW.keep (W' := W2) (fun k hk => by rw [hW2, Below.heap_alloc _ _ _ (by simp; omega), Below.heap_alloc _ _ _ (by omega)])
            have hT2 : Boxed W2 Wa.heap.size 3 (.int .i64 1) := by rw [hW2]; exact hT.alloc _
            have hK2 : Boxed W2 (Wa.heap.size + 1) 3 (.int .i64 0) := by rw [hW2]; exact hK
            have hB7 : Below M w W2 := by rw [hW2]; exact (hBa.alloc (by omega) _).alloc (by simp; omega) _
            have hM2 : Marks W2 [D] := by rw [hW2]; exact (hMa.alloc _).alloc _
            rw [← hW2]
            clear hT hK hW2
            refine (wpIn_wide (n := 6)).1 ?_
            refine wpIn_rangeFunc_ownG rfl (by omega) (gf := 42) (lb := #[.pointer (some ⟨Bs, 0, none⟩)]) rfl trivial (enters_of Try.func42 (by kernel_rfl) rfl)
              (runs_stops 5 (by omega) Bs (Wa.heap.size + 1) A3 m c3 xs (by omega) W2 (by omega) (by omega) hE2.bs (hE2.r3.more (by omega))) keepsFor_t (keepsFor_b (by omega) (by omega)) (Below.refl _ _) (fun _ => rfl)
              (fun pre W => IR many R false (Wa.heap.size + 1) W2 pre W ∧ Marks W [D]) (fun c pre _ => c = .ret ∧ ¬ pre <+: R) (OwnFrom.and (IR.own (by omega)) (Marks.ownFrom (by simp; omega))) (fun _ _ _ _ _ hs _ _ => hs)
              ⟨⟨⟨⟨hK2.cell, hK2.frozen⟩, List.nil_prefix, fun h => by cases h⟩, Below.refl _ _⟩, hM2⟩ ?a2b ?assign2b ?body2b ?done2b ?stop2b
            case assign2b =>
              intro l x W K hK
              gi_wp2
              exact hK
            case body2b =>
              rintro l pre x W hi hlen
              obtain ⟨⟨⟨⟨hc, hf⟩, hp, hgo⟩, hBW⟩, hMk⟩ := hi
              have hEW := hE2.keep (W' := W) (fun k hk => hBW.block k (by omega))
              have hcM := hEW.m
              have hcR := hEW.rc
              have hfR := hEW.rf
              have hcN := hEW.nb
              have hcC := hEW.cb
              have hcT : W.cell? ⟨Wa.heap.size, 0, none⟩ = some (.int .i64 1) := (hBW.cell (p := ⟨Wa.heap.size, 0, none⟩) (by simp only []; omega)).trans hT2.cell
              have hPS := Lib.hid (prefix_snoc (x := x) hp)
              have hplen := Lib.hid hp.length_le
              have hGO := Lib.hid hgo
              have hP := Lib.hid hp
              clear hp hgo
              by_cases h1 : pre.length < r
              · obtain ⟨b1, o1, e1, _, hx1⟩ := hEW.r1.cells pre.length h1
                obtain ⟨b2, o2, e2, _, hx2⟩ := hEW.r2.cells pre.length h1
                subst e1 e2
                generalize (R.map fun p => (p.1 : Int))[pre.length]?.getD 0 = a at hx1 hPS
                generalize (R.map (·.2))[pre.length]?.getD 0 = b at hx2 hPS
                have hq0 : decide ((r : Int) ≤ (pre.length : Int)) = false := by simp; omega
                have hpl0 : (0 : Int) ≤ (pre.length : Int) := by omega
                have hpl1 : (pre.length : Int) < (r : Int) := by omega
                have hpl2 : (pre.length : Int) ≤ 500 := by omega
                by_cases h2 : a = (x.1 : Int)
                · have hq1 : ((x.1 : Int) != a) = false := by simp [h2]
                  by_cases h3 : b = x.2
                  · have hq2 : (x.2 != b) = false := by simp [h3]
                    have hPre : Hid ((pre ++ [x]) <+: R) := Lib.hid (hPS.out.2 ⟨by rw [hrR.out]; exact h1, h2, h3⟩)
                    clear hPS h2 h3
                    gi_wp2
                    refine ⟨(KeepsOthers.setCell _ _ _).from _, (KeepsFor.refl _ _ _).setCell (p := ⟨Wa.heap.size + 1, 0, none⟩) (Nat.le_refl _) (by simp only []; omega) _, ⟨⟨⟨?_, by rw [World.frozen?_setCell]; exact hf⟩, hPre.out, fun h => by cases h⟩, hBW.setCell (p := ⟨Wa.heap.size + 1, 0, none⟩) (Nat.le_refl _) _⟩, hMk.setCell _ (by simp; omega)⟩
                    rw [World.cell?_setCell_same' _ _ _ (by rw [hc]; rfl)]; simp
                  · have hq2 : (x.2 != b) = true := by simp; exact fun h => h3 h.symm
                    have hBad : Hid (¬ (pre ++ [x]) <+: R) := Lib.hid (fun h => h3 (hPS.out.1 h).2.2)
                    clear hPS h2 h3
                    gi_wp2
                    exact ⟨(KeepsOthers.setCell _ _ _).from _, ⟨rfl, hBad.out⟩⟩
                · have hq1 : ((x.1 : Int) != a) = true := by simp; exact fun h => h2 h.symm
                  have hBad : Hid (¬ (pre ++ [x]) <+: R) := Lib.hid (fun h => h2 (hPS.out.1 h).2.1)
                  clear hPS h2
                  gi_wp2
                  exact ⟨(KeepsOthers.setCell _ _ _).from _, ⟨rfl, hBad.out⟩⟩
              · have hq0 : decide ((r : Int) ≤ (pre.length : Int)) = true := by simp; omega
                have hBad : Hid (¬ (pre ++ [x]) <+: R) := Lib.hid (fun h => h1 (by have := (hPS.out.1 h).1; rw [hrR.out] at this; exact this))
                clear hPS
                gi_wp2
                exact ⟨(KeepsOthers.setCell _ _ _).from _, ⟨rfl, hBad.out⟩⟩
            case done2b =>
              rintro D2 ys W hD2 hys hi hKD2
              rw [hys, hRx.out] at hi
              obtain ⟨⟨⟨⟨hc, hf⟩, hp, hgo⟩, hBW⟩, hMk⟩ := hi
              rw [hrR.out] at hc
              have hEW3 := hE2.keep (W' := W) (fun k hk => hBW.block k (by omega))
              have hcN := hEW3.nb
              have hcT : W.cell? ⟨Wa.heap.size, 0, none⟩ = some (.int .i64 1) := (hBW.cell (p := ⟨Wa.heap.size, 0, none⟩) (by simp only []; omega)).trans hT2.cell
              have hsW3 := hBW.size
              have hcR := cell_new (.cells #[.int .i64 2] 3) hEW3.rc
              have hfR := frozen_new (.cells #[.int .i64 2] 3) hEW3.rc hEW3.rf
              have hMarks := (hMk.cons hKD2 (by simp; omega)).alloc (.cells #[.int .i64 2] 3)
              have hBw : Below M w (W.alloc (.cells #[.int .i64 2] 3)) := (hB7.trans (hBW.mono (by omega))).alloc (by omega) _
              clear hgo hp
              go_wp2_with fail
              rw [rounds_succ]
              go_wp2_with fail
              refine (works_any _).mono ?_
              rintro e w9 ⟨rfl, hb9⟩
              have hs9 := hb9.size
              simp only [World.size_alloc] at hs9
              have hcR9 := (hb9.cell (p := ⟨M + 1, 0, none⟩) (by simp; omega)).trans hcR
              have hfR9 := (hb9.frozen (p := ⟨M + 1, 0, none⟩) (by simp; omega)).trans hfR
              have hM9 := hMarks.grown (below_grown hb9 none) (fun _ _ e => by cases e)
              have hB9 : Below M w w9 := hBw.trans (hb9.mono (by simp; omega))
              go_wp2_with fail
              have hM10 := hM9.setCell (p := ⟨M + 1, 0, none⟩) (.bool true) (by simp; omega)
              refine leaves_marks (B := wr.heap.size) [D2, D] _ hM10 (by simp; omega) (fun w11 h11 => ⟨.bool true, ?_, rfl, ?_⟩)
              · have hc5 := (h11.cell (p := ⟨M + 1, 0, none⟩) (by simp only []; omega)).trans (World.cell?_setCell_same' w9 ⟨M + 1, 0, none⟩ (.bool true) (by rw [hcR9]; rfl))
                simp [results, Try.f7, go_sem, hc5]
              · rw [hM]
                exact (hB9.setCell (p := ⟨M + 1, 0, none⟩) (by simp only []; omega) _).trans (h11.mono (by omega))
            case stop2b =>
              rintro D2 cx pre W hD2 hpre ⟨rfl, hbad⟩ hKD2
              exact absurd hpre (by rw [hRx.out]; exact hbad)
        case stop =>
          rintro D cx pre W hD hpre hi hKD
          rcases hi with ⟨rfl, hbad⟩ | ⟨rfl, hc, hi1, hi2, hi3, hBW⟩
          · exact absurd hpre (by rw [hRx.out]; exact hbad)
          · have hEW := hE1.keep (W' := W) (fun k hk => hBW.block k (by omega))
            have hcM := hEW.m
            have hcN := hEW.nb
            have hcT : W.cell? ⟨wr.heap.size, 0, none⟩ = some (.int .i64 0) := (hBW.cell (p := ⟨wr.heap.size, 0, none⟩) (by simp only []; omega)).trans hT1.cell
            have hq9 := min_stop hi3 (by have := hpre.length_le; rw [hRx.out, hrR.out] at this; exact this) hi1 hi2
            obtain ⟨kk, hkk⟩ : ∃ kk, pre.length = kk := ⟨_, rfl⟩
            rw [hkk] at hc hq9
            clear hi1 hi2 hi3 hkk hpre
            have hsWa := hBW.size
            have hBa : Below M w W := hB6.trans (hBW.mono (by omega))
            have hMa : Marks W [D] := (Marks.nil W).cons hKD (by simp)
            obtain ⟨Wa, hWa⟩ : ∃ Wa, Wa = W := ⟨_, rfl⟩
            rw [← hWa] at hsWa hBa hMa hEW hcM hcN hcT hc hKD ⊢
            clear hBW hWa
            have hDlt : D < Wa.heap.size := hMa.lt D (by simp)
            have hDge := hD
            refine (wpIn_wide (n := 6)).2 ?_
            go_wp2_with fail
            · clear hq9 hcM hcN hcT hc hKD
              rw [rounds_succ]
              go_wp2_with fail
              have hT := Boxed.new Wa 3 (.int .i64 1)
              have hK := Boxed.new (Wa.alloc (.cells #[.int .i64 1] 3)) 3 (.int .i64 0)
              rw [World.size_alloc] at hK
              obtain ⟨W2, hW2⟩ : ∃ W', W' = (Wa.alloc (.cells #[.int .i64 1] 3)).alloc (.cells #[.int .i64 0] 3) := ⟨_, rfl⟩
              have hsW2 : W2.heap.size = Wa.heap.size + 2 := by rw [hW2]; simp
              have hE2 := hEW.keep (W' := W2) (fun k hk => by rw [hW2, Below.heap_alloc _ _ _ (by simp; omega), Below.heap_alloc _ _ _ (by omega)])
              have hT2 : Boxed W2 Wa.heap.size 3 (.int .i64 1) := by rw [hW2]; exact hT.alloc _
              have hK2 : Boxed W2 (Wa.heap.size + 1) 3 (.int .i64 0) := by rw [hW2]; exact hK
              have hB7 : Below M w W2 := by rw [hW2]; exact (hBa.alloc (by omega) _).alloc (by simp; omega) _
              have hM2 : Marks W2 [D] := by rw [hW2]; exact (hMa.alloc _).alloc _
              rw [← hW2]
              clear hT hK hW2
              refine (wpIn_wide (n := 6)).1 ?_
              refine wpIn_rangeFunc_ownG rfl (by omega) (gf := 42) (lb := #[.pointer (some ⟨Bs, 0, none⟩)]) rfl trivial (enters_of Try.func42 (by kernel_rfl) rfl)
                (runs_stops 5 (by omega) Bs (Wa.heap.size + 1) A3 m c3 xs (by omega) W2 (by omega) (by omega) hE2.bs (hE2.r3.more (by omega))) keepsFor_t (keepsFor_b (by omega) (by omega)) (Below.refl _ _) (fun _ => rfl)
                (fun pre W => IR many R false (Wa.heap.size + 1) W2 pre W ∧ Marks W [D]) (fun c pre _ => c = .ret ∧ ¬ pre <+: R) (OwnFrom.and (IR.own (by omega)) (Marks.ownFrom (by simp; omega))) (fun _ _ _ _ _ hs _ _ => hs)
                ⟨⟨⟨⟨hK2.cell, hK2.frozen⟩, List.nil_prefix, fun h => by cases h⟩, Below.refl _ _⟩, hM2⟩ ?a2c ?assign2c ?body2c ?done2c ?stop2c
              case assign2c =>
                intro l x W K hK
                gi_wp2
                exact hK
              case body2c =>
                rintro l pre x W hi hlen
                obtain ⟨⟨⟨⟨hc, hf⟩, hp, hgo⟩, hBW⟩, hMk⟩ := hi
                have hEW := hE2.keep (W' := W) (fun k hk => hBW.block k (by omega))
                have hcM := hEW.m
                have hcR := hEW.rc
                have hfR := hEW.rf
                have hcN := hEW.nb
                have hcC := hEW.cb
                have hcT : W.cell? ⟨Wa.heap.size, 0, none⟩ = some (.int .i64 1) := (hBW.cell (p := ⟨Wa.heap.size, 0, none⟩) (by simp only []; omega)).trans hT2.cell
                have hPS := Lib.hid (prefix_snoc (x := x) hp)
                have hplen := Lib.hid hp.length_le
                have hGO := Lib.hid hgo
                have hP := Lib.hid hp
                clear hp hgo
                by_cases h1 : pre.length < r
                · obtain ⟨b1, o1, e1, _, hx1⟩ := hEW.r1.cells pre.length h1
                  obtain ⟨b2, o2, e2, _, hx2⟩ := hEW.r2.cells pre.length h1
                  subst e1 e2
                  generalize (R.map fun p => (p.1 : Int))[pre.length]?.getD 0 = a at hx1 hPS
                  generalize (R.map (·.2))[pre.length]?.getD 0 = b at hx2 hPS
                  have hq0 : decide ((r : Int) ≤ (pre.length : Int)) = false := by simp; omega
                  have hpl0 : (0 : Int) ≤ (pre.length : Int) := by omega
                  have hpl1 : (pre.length : Int) < (r : Int) := by omega
                  have hpl2 : (pre.length : Int) ≤ 500 := by omega
                  by_cases h2 : a = (x.1 : Int)
                  · have hq1 : ((x.1 : Int) != a) = false := by simp [h2]
                    by_cases h3 : b = x.2
                    · have hq2 : (x.2 != b) = false := by simp [h3]
                      have hPre : Hid ((pre ++ [x]) <+: R) := Lib.hid (hPS.out.2 ⟨by rw [hrR.out]; exact h1, h2, h3⟩)
                      clear hPS h2 h3
                      gi_wp2
                      refine ⟨(KeepsOthers.setCell _ _ _).from _, (KeepsFor.refl _ _ _).setCell (p := ⟨Wa.heap.size + 1, 0, none⟩) (Nat.le_refl _) (by simp only []; omega) _, ⟨⟨⟨?_, by rw [World.frozen?_setCell]; exact hf⟩, hPre.out, fun h => by cases h⟩, hBW.setCell (p := ⟨Wa.heap.size + 1, 0, none⟩) (Nat.le_refl _) _⟩, hMk.setCell _ (by simp; omega)⟩
                      rw [World.cell?_setCell_same' _ _ _ (by rw [hc]; rfl)]; simp
                    · have hq2 : (x.2 != b) = true := by simp; exact fun h => h3 h.symm
                      have hBad : Hid (¬ (pre ++ [x]) <+: R) := Lib.hid (fun h => h3 (hPS.out.1 h).2.2)
                      clear hPS h2 h3
                      gi_wp2
                      exact ⟨(KeepsOthers.setCell _ _ _).from _, ⟨rfl, hBad.out⟩⟩
                  · have hq1 : ((x.1 : Int) != a) = true := by simp; exact fun h => h2 h.symm
                    have hBad : Hid (¬ (pre ++ [x]) <+: R) := Lib.hid (fun h => h2 (hPS.out.1 h).2.1)
                    clear hPS h2
                    gi_wp2
                    exact ⟨(KeepsOthers.setCell _ _ _).from _, ⟨rfl, hBad.out⟩⟩
                · have hq0 : decide ((r : Int) ≤ (pre.length : Int)) = true := by simp; omega
                  have hBad : Hid (¬ (pre ++ [x]) <+: R) := Lib.hid (fun h => h1 (by have := (hPS.out.1 h).1; rw [hrR.out] at this; exact this))
                  clear hPS
                  gi_wp2
                  exact ⟨(KeepsOthers.setCell _ _ _).from _, ⟨rfl, hBad.out⟩⟩
              case done2c =>
                rintro D2 ys W hD2 hys hi hKD2
                rw [hys, hRx.out] at hi
                obtain ⟨⟨⟨⟨hc, hf⟩, hp, hgo⟩, hBW⟩, hMk⟩ := hi
                rw [hrR.out] at hc
                have hEW3 := hE2.keep (W' := W) (fun k hk => hBW.block k (by omega))
                have hcN := hEW3.nb
                have hcT : W.cell? ⟨Wa.heap.size, 0, none⟩ = some (.int .i64 1) := (hBW.cell (p := ⟨Wa.heap.size, 0, none⟩) (by simp only []; omega)).trans hT2.cell
                have hsW3 := hBW.size
                have hcR := cell_new (.cells #[.int .i64 2] 3) hEW3.rc
                have hfR := frozen_new (.cells #[.int .i64 2] 3) hEW3.rc hEW3.rf
                have hMarks := (hMk.cons hKD2 (by simp; omega)).alloc (.cells #[.int .i64 2] 3)
                have hBw : Below M w (W.alloc (.cells #[.int .i64 2] 3)) := (hB7.trans (hBW.mono (by omega))).alloc (by omega) _
                clear hgo hp
                go_wp2_with fail
                rw [rounds_succ]
                go_wp2_with fail
                refine (works_any _).mono ?_
                rintro e w9 ⟨rfl, hb9⟩
                have hs9 := hb9.size
                simp only [World.size_alloc] at hs9
                have hcR9 := (hb9.cell (p := ⟨M + 1, 0, none⟩) (by simp; omega)).trans hcR
                have hfR9 := (hb9.frozen (p := ⟨M + 1, 0, none⟩) (by simp; omega)).trans hfR
                have hM9 := hMarks.grown (below_grown hb9 none) (fun _ _ e => by cases e)
                have hB9 : Below M w w9 := hBw.trans (hb9.mono (by simp; omega))
                go_wp2_with fail
                have hM10 := hM9.setCell (p := ⟨M + 1, 0, none⟩) (.bool true) (by simp; omega)
                refine leaves_marks (B := wr.heap.size) [D2, D] _ hM10 (by simp; omega) (fun w11 h11 => ⟨.bool true, ?_, rfl, ?_⟩)
                · have hc5 := (h11.cell (p := ⟨M + 1, 0, none⟩) (by simp only []; omega)).trans (World.cell?_setCell_same' w9 ⟨M + 1, 0, none⟩ (.bool true) (by rw [hcR9]; rfl))
                  simp [results, Try.f7, go_sem, hc5]
                · rw [hM]
                  exact (hB9.setCell (p := ⟨M + 1, 0, none⟩) (by simp only []; omega) _).trans (h11.mono (by omega))
              case stop2c =>
                rintro D2 cx pre W hD2 hpre ⟨rfl, hbad⟩ hKD2
                exact absurd hpre (by rw [hRx.out]; exact hbad)
            · clear hq9 hcM hcN hcT hc hKD
              rw [rounds_succ]
              go_wp2_with fail
              have hT := Boxed.new Wa 3 (.int .i64 1)
              have hK := Boxed.new (Wa.alloc (.cells #[.int .i64 1] 3)) 3 (.int .i64 0)
              rw [World.size_alloc] at hK
              obtain ⟨W2, hW2⟩ : ∃ W', W' = (Wa.alloc (.cells #[.int .i64 1] 3)).alloc (.cells #[.int .i64 0] 3) := ⟨_, rfl⟩
              have hsW2 : W2.heap.size = Wa.heap.size + 2 := by rw [hW2]; simp
              have hE2 := hEW.keep (W' := W2) (fun k hk => by rw [hW2, Below.heap_alloc _ _ _ (by simp; omega), Below.heap_alloc _ _ _ (by omega)])
              have hT2 : Boxed W2 Wa.heap.size 3 (.int .i64 1) := by rw [hW2]; exact hT.alloc _
              have hK2 : Boxed W2 (Wa.heap.size + 1) 3 (.int .i64 0) := by rw [hW2]; exact hK
              have hB7 : Below M w W2 := by rw [hW2]; exact (hBa.alloc (by omega) _).alloc (by simp; omega) _
              have hM2 : Marks W2 [D] := by rw [hW2]; exact (hMa.alloc _).alloc _
              rw [← hW2]
              clear hT hK hW2
              refine (wpIn_wide (n := 6)).1 ?_
              refine wpIn_rangeFunc_ownG rfl (by omega) (gf := 42) (lb := #[.pointer (some ⟨Bs, 0, none⟩)]) rfl trivial (enters_of Try.func42 (by kernel_rfl) rfl)
                (runs_stops 5 (by omega) Bs (Wa.heap.size + 1) A3 m c3 xs (by omega) W2 (by omega) (by omega) hE2.bs (hE2.r3.more (by omega))) keepsFor_t (keepsFor_b (by omega) (by omega)) (Below.refl _ _) (fun _ => rfl)
                (fun pre W => IR many R false (Wa.heap.size + 1) W2 pre W ∧ Marks W [D]) (fun c pre _ => c = .ret ∧ ¬ pre <+: R) (OwnFrom.and (IR.own (by omega)) (Marks.ownFrom (by simp; omega))) (fun _ _ _ _ _ hs _ _ => hs)
                ⟨⟨⟨⟨hK2.cell, hK2.frozen⟩, List.nil_prefix, fun h => by cases h⟩, Below.refl _ _⟩, hM2⟩ ?a2d ?assign2d ?body2d ?done2d ?stop2d
              case assign2d =>
                intro l x W K hK
                gi_wp2
                exact hK
              case body2d =>
                rintro l pre x W hi hlen
                obtain ⟨⟨⟨⟨hc, hf⟩, hp, hgo⟩, hBW⟩, hMk⟩ := hi
                have hEW := hE2.keep (W' := W) (fun k hk => hBW.block k (by omega))
                have hcM := hEW.m
                have hcR := hEW.rc
                have hfR := hEW.rf
                have hcN := hEW.nb
                have hcC := hEW.cb
                have hcT : W.cell? ⟨Wa.heap.size, 0, none⟩ = some (.int .i64 1) := (hBW.cell (p := ⟨Wa.heap.size, 0, none⟩) (by simp only []; omega)).trans hT2.cell
                have hPS := Lib.hid (prefix_snoc (x := x) hp)
                have hplen := Lib.hid hp.length_le
                have hGO := Lib.hid hgo
                have hP := Lib.hid hp
                clear hp hgo
                by_cases h1 : pre.length < r
                · obtain ⟨b1, o1, e1, _, hx1⟩ := hEW.r1.cells pre.length h1
                  obtain ⟨b2, o2, e2, _, hx2⟩ := hEW.r2.cells pre.length h1
                  subst e1 e2
                  generalize (R.map fun p => (p.1 : Int))[pre.length]?.getD 0 = a at hx1 hPS
                  generalize (R.map (·.2))[pre.length]?.getD 0 = b at hx2 hPS
                  have hq0 : decide ((r : Int) ≤ (pre.length : Int)) = false := by simp; omega
                  have hpl0 : (0 : Int) ≤ (pre.length : Int) := by omega
                  have hpl1 : (pre.length : Int) < (r : Int) := by omega
                  have hpl2 : (pre.length : Int) ≤ 500 := by omega
                  by_cases h2 : a = (x.1 : Int)
                  · have hq1 : ((x.1 : Int) != a) = false := by simp [h2]
                    by_cases h3 : b = x.2
                    · have hq2 : (x.2 != b) = false := by simp [h3]
                      have hPre : Hid ((pre ++ [x]) <+: R) := Lib.hid (hPS.out.2 ⟨by rw [hrR.out]; exact h1, h2, h3⟩)
                      clear hPS h2 h3
                      gi_wp2
                      refine ⟨(KeepsOthers.setCell _ _ _).from _, (KeepsFor.refl _ _ _).setCell (p := ⟨Wa.heap.size + 1, 0, none⟩) (Nat.le_refl _) (by simp only []; omega) _, ⟨⟨⟨?_, by rw [World.frozen?_setCell]; exact hf⟩, hPre.out, fun h => by cases h⟩, hBW.setCell (p := ⟨Wa.heap.size + 1, 0, none⟩) (Nat.le_refl _) _⟩, hMk.setCell _ (by simp; omega)⟩
                      rw [World.cell?_setCell_same' _ _ _ (by rw [hc]; rfl)]; simp
                    · have hq2 : (x.2 != b) = true := by simp; exact fun h => h3 h.symm
                      have hBad : Hid (¬ (pre ++ [x]) <+: R) := Lib.hid (fun h => h3 (hPS.out.1 h).2.2)
                      clear hPS h2 h3
                      gi_wp2
                      exact ⟨(KeepsOthers.setCell _ _ _).from _, ⟨rfl, hBad.out⟩⟩
                  · have hq1 : ((x.1 : Int) != a) = true := by simp; exact fun h => h2 h.symm
                    have hBad : Hid (¬ (pre ++ [x]) <+: R) := Lib.hid (fun h => h2 (hPS.out.1 h).2.1)
                    clear hPS h2
                    gi_wp2
                    exact ⟨(KeepsOthers.setCell _ _ _).from _, ⟨rfl, hBad.out⟩⟩
                · have hq0 : decide ((r : Int) ≤ (pre.length : Int)) = true := by simp; omega
                  have hBad : Hid (¬ (pre ++ [x]) <+: R) := Lib.hid (fun h => h1 (by have := (hPS.out.1 h).1; rw [hrR.out] at this; exact this))
                  clear hPS
                  gi_wp2
                  exact ⟨(KeepsOthers.setCell _ _ _).from _, ⟨rfl, hBad.out⟩⟩
              case done2d =>
                rintro D2 ys W hD2 hys hi hKD2
                rw [hys, hRx.out] at hi
                obtain ⟨⟨⟨⟨hc, hf⟩, hp, hgo⟩, hBW⟩, hMk⟩ := hi
                rw [hrR.out] at hc
                have hEW3 := hE2.keep (W' := W) (fun k hk => hBW.block k (by omega))
                have hcN := hEW3.nb
                have hcT : W.cell? ⟨Wa.heap.size, 0, none⟩ = some (.int .i64 1) := (hBW.cell (p := ⟨Wa.heap.size, 0, none⟩) (by simp only []; omega)).trans hT2.cell
                have hsW3 := hBW.size
                have hcR := cell_new (.cells #[.int .i64 2] 3) hEW3.rc
                have hfR := frozen_new (.cells #[.int .i64 2] 3) hEW3.rc hEW3.rf
                have hMarks := (hMk.cons hKD2 (by simp; omega)).alloc (.cells #[.int .i64 2] 3)
                have hBw : Below M w (W.alloc (.cells #[.int .i64 2] 3)) := (hB7.trans (hBW.mono (by omega))).alloc (by omega) _
                clear hgo hp
                go_wp2_with fail
                rw [rounds_succ]
                go_wp2_with fail
                refine (works_any _).mono ?_
                rintro e w9 ⟨rfl, hb9⟩
                have hs9 := hb9.size
                simp only [World.size_alloc] at hs9
                have hcR9 := (hb9.cell (p := ⟨M + 1, 0, none⟩) (by simp; omega)).trans hcR
                have hfR9 := (hb9.frozen (p := ⟨M + 1, 0, none⟩) (by simp; omega)).trans hfR
                have hM9 := hMarks.grown (below_grown hb9 none) (fun _ _ e => by cases e)
                have hB9 : Below M w w9 := hBw.trans (hb9.mono (by simp; omega))
                go_wp2_with fail
                have hM10 := hM9.setCell (p := ⟨M + 1, 0, none⟩) (.bool true) (by simp; omega)
                refine leaves_marks (B := wr.heap.size) [D2, D] _ hM10 (by simp; omega) (fun w11 h11 => ⟨.bool true, ?_, rfl, ?_⟩)
                · have hc5 := (h11.cell (p := ⟨M + 1, 0, none⟩) (by simp only []; omega)).trans (World.cell?_setCell_same' w9 ⟨M + 1, 0, none⟩ (.bool true) (by rw [hcR9]; rfl))
                  simp [results, Try.f7, go_sem, hc5]
                · rw [hM]
                  exact (hB9.setCell (p := ⟨M + 1, 0, none⟩) (by simp only []; omega) _).trans (h11.mono (by omega))
              case stop2d =>
                rintro D2 cx pre W hD2 hpre ⟨rfl, hbad⟩ hKD2
                exact absurd hpre (by rw [hRx.out]; exact hbad)
end Go.Proofs.Ytdjnmebgiabecaa
