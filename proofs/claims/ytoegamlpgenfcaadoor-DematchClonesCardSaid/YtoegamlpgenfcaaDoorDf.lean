/-
  slices.Clone of integers; combined; the closure of Add. Add: the state behind it; the call.
-/
import Derived.Test.YtoegamlpgenfcaaDoorDd
import Derived.StillTailTactics
namespace Go.Proofs.YtoegamlpgenfcaaDoor
/-! ### slices.Clone of integers; combined; the closure of Add. -/
section
open Go.RowKit Go.Shelf

set_option maxRecDepth 100000 in
set_option maxHeartbeats 1000000 in
/-- slices.Clone of a slice that is not nil. -/
theorem cloneI_any {a : Addr} {n c : Nat} {xs : List Int} {w : World} (hI : Rd .i64 w w.heap.size (some a) n xs) (hn : n ≤ 1000000) :
    Calls Tryd.prog 44 #[.slice (some a) n c] w (RetI w xs) := by
  obtain ⟨i0, hi, hz0, hz1, hz2⟩ := info_q Tryd.info_int
  obtain ⟨A3, c3, w3, hrun, hown3, hB3⟩ := copy_run_q (P := Tryd.prog) (c := c) Tryd.underlying28 hi hz0 hz1 hz2 (by decide) hI hn
  have hl := Lib.hid hI.len
  have hO3 := Lib.hid hown3
  have hRun := Lib.hid hrun
  clear hown3 hrun hI
  have hnil := fun (u : World) => Lib.run_eql_slice_nil (P := Tryd.prog) u 28 3 (some a) n c 0 0 Tryd.underlying28
  go_enter Tryd.func44, Tryd.ntmps44
  go_wp2_with (at_builtin; refine Lib.wpList_append_run _ rfl _ _ _ _ rfl _ _ rfl rfl _ _ hRun.out ?_)
  go_ret
  exact RetI.mk_ hl.out hO3.out (Nat.le_refl _) hB3 rfl
set_option maxRecDepth 100000 in
set_option maxHeartbeats 4000000 in
theorem combined_any {a : Addr} {A2 : Option Addr} {N c m c2 : Nat} {V ps l : List Int} {G : Nat} {lb : Array Value} {w : World} (eG : ∀ args w, (callFunc G args).run Tryd.prog w = .ok (.enter G args) w)
    (h : Rd .i64 w w.heap.size (some a) N V) (h2 : Rd .i64 w w.heap.size A2 m ps) (hN0 : 0 < N) (hN : N ≤ 1000000) (hm : m ≤ 1000000) (hp : ∀ j, j < m → ∃ p : Nat, ps[j]?.getD 0 = (p : Int) ∧ p < N)
    (hG : ∀ (j : Nat) (v : Int) (u : World), j < m → Below w.heap.size w u → Calls Tryd.prog G (#[.int .i64 (j : Int), .int .i64 v] ++ lb) u fun e u' => e = .returned (.int .i64 (addI v (l[j]?.getD 0))) ∧ u' = u) :
    Calls Tryd.prog 41 #[.slice (some a) N c, .slice A2 m c2, .func (.func G) #[] lb] w (RetI w (accV V ps l m)) := by
  have hC := Lib.hid (cloneI_any (c := c) h hN)
  have H2 := Lib.hid h2
  have HP := Lib.hid hp
  have HG := Lib.hid hG
  have HL := Lib.hid (fun j => (accV_length V ps l j).trans h.len)
  have hlen := Lib.hid h.len
  have hz1 : (m : Int) ≤ 1000000 := by omega
  have HN0 := Lib.hid hN0
  clear h h2 hp hG hN0 hN hm
  go_enter Tryd.func41, Tryd.ntmps41
  go_wp2_with fail
  refine hC.out.mono ?_
  rintro e w1 he
  obtain ⟨A3, c3, rfl, o1, b1⟩ := he.got hlen.out
  obtain ⟨g, cap, hv, e1, e2⟩ := o1.form HN0.out
  injection hv with hv1 hv2 hv3
  subst hv1
  have HO := Lib.hid o1
  have HB := Lib.hid b1
  clear hC he o1 b1 hv2 hv3 e1 e2
  go_wp2_with fail
  go_loopw [13] (fun i wr => ∃ j : Nat, j ≤ m ∧ i = .int .i64 (j : Int) ∧ Hid (wr.ownsRow w.heap.size 3 1 (.slice (some ⟨g, 0, none⟩) N c3) N ((accV V ps l j).map (Value.int .i64))) ∧ Hid (Below w.heap.size w wr)) (fun i _ => m - (intOf i).toNat)
  case atStart => exact ⟨0, Nat.zero_le _, rfl, HO, HB⟩
  case round =>
    obtain ⟨j, hj, rfl, hO, hb⟩ := hrel
    by_cases hlt : j < m
    · have hz : (j : Int) < (m : Int) := by omega
      have hz0 : (0 : Int) ≤ (j : Int) := by omega
      obtain ⟨b, off, rfl, hbl, hc0⟩ := H2.out.cells j hlt
      have hc := (hb.out.cell (p := ⟨b, off + j, none⟩) hbl).trans hc0
      obtain ⟨p, hp1, hp2⟩ := HP.out j hlt
      rw [hp1] at hc
      have hpl : p < (accV V ps l j).length := by rw [HL.out]; exact hp2
      have hs : (accV V ps l j).set p (addI ((accV V ps l j)[p]?.getD 0) (l[j]?.getD 0)) = accV V ps l (j + 1) := by
        rw [accV_succ, hp1, Int.toNat_natCast]; rfl
      have hcv := World.ownsRow.cellAt hO.out p (by rw [Nat.mul_one]; exact hp2)
      rw [List.getElem?_map, List.getElem?_eq_getElem hpl, Option.map_some] at hcv
      have hF := HG.out j ((accV V ps l j)[p]?.getD 0) wr hlt hb.out
      rw [List.getElem?_eq_getElem hpl, Option.getD_some] at hF hs
      obtain ⟨o2, o3, _⟩ := own_put hO.out hs hpl
      generalize (accV V ps l j)[p] = v at *
      generalize addI v (l[j]?.getD 0) = x at *
      have hz2 : (p : Int) < (N : Int) := by omega
      have hz3 : (0 : Int) ≤ (p : Int) := by omega
      have HF := Lib.hid hF
      have O2 := Lib.hid o2
      have hbs := Lib.hid (hb.out.setCell (p := ⟨g, p, none⟩) (show w.heap.size ≤ g from by have := (hO.out.lt g rfl).1; exact this) (.int .i64 x))
      clear hO hb hc0 hbl hp1 hp2 hpl hs hF o2
      go_wp2_with (first | (refine HF.out.mono ?_; rintro e w2 ⟨rfl, rfl⟩) | fail)
      go_roundw
      case rel => exact ⟨j + 1, by omega, by go_num, O2, hbs⟩
      case measure => simp [intOf]; omega
    · obtain rfl : j = m := by omega
      clear hlt
      go_wp2_with fail
      go_ret
      exact RetI.mk_ (HL.out j) hO.out (Nat.le_refl _) hb.out rfl
theorem addC_any {X j m c2 B : Nat} {A2 : Option Addr} {l : List Int} {v : Int} {u : World} (hK : KLim u) (hc : u.cell? ⟨X, 0, none⟩ = some (.slice A2 m c2)) (hR : Rd .i64 u B A2 m l) (hj : j < m) :
    Calls Tryd.prog 42 #[.int .i64 (j : Int), .int .i64 v, .pointer (some ⟨X, 0, none⟩)] u fun e u' => e = .returned (.int .i64 (addI v (l[j]?.getD 0))) ∧ u' = u := by
  obtain ⟨b, off, rfl, _, hcj⟩ := hR.cells j hj
  have hA := Lib.hid (fun (y : Int) => Add_any (a := v) (b := y) hK)
  have hz : (j : Int) < (m : Int) := by omega
  have hz0 : (0 : Int) ≤ (j : Int) := by omega
  generalize l[j]?.getD 0 = y at *
  clear hK hR hj
  go_enter Tryd.func42, Tryd.ntmps42
  go_wp2_with (refine (hA.out _).mono ?_; rintro e w2 ⟨rfl, rfl⟩)
  go_ret
  exact ⟨rfl, rfl⟩
end

/-! ### Add: the state behind it; the call. -/
section
open Go.RowKit Go.Shelf

/-- The positions of a selection lie in the buffer. -/
theorem pos_in {k f l rv : Int} {m : Nat} (h0 : (posS k f l rv (m : Int)).2 = 0) : (posS k f l rv (m : Int)).1.length = m ∧ m ≤ 131072 ∧ ∀ j, j < m → ∃ p : Nat, (posS k f l rv (m : Int)).1[j]?.getD 0 = (p : Int) ∧ p < 3 * (k.toNat + 4) := by
  by_cases h : (okB k f l && okV rv && okE (m : Int)) = true
  · have h' := h
    rw [Bool.and_eq_true, Bool.and_eq_true] at h'
    obtain ⟨⟨hB, hV⟩, hE⟩ := h'
    obtain ⟨K, F, L, rfl, rfl, rfl, h1, h2, h3, h4⟩ := okB_nat hB
    obtain ⟨v, rfl, h5⟩ := okV_nat hV
    obtain ⟨e, he, h6⟩ := okE_nat hE
    obtain rfl : m = e := by omega
    rw [posS_ok h] at h0 ⊢
    by_cases hn : 0 < m ∧ usable (cirI K F L) = 0
    · rw [if_pos hn] at h0; cases h0
    · rw [if_neg hn] at h0 ⊢
      refine ⟨selL_length _ _ _, h6, fun j hj => ?_⟩
      dsimp only
      have hm : (selL (cirI K F L) (startN K (sizN K L) v) m)[j]?.getD 0 ∈ selL (cirI K F L) (startN K (sizN K L) v) m := by
        rw [List.getElem?_eq_getElem (by rw [selL_length]; exact hj), Option.getD_some]
        exact List.getElem_mem _
      obtain ⟨hx, hu⟩ := sel_mem (by omega) hm
      have hx0 : 0 ≤ (selL (cirI K F L) (startN K (sizN K L) v) m)[j]?.getD 0 := of_decide_eq_true hu
      refine ⟨((selL (cirI K F L) (startN K (sizN K L) v) m)[j]?.getD 0).toNat, by omega, ?_⟩
      have hp := (count_buf (k := K) (f := F) (n := sizN K L) (p := ((selL (cirI K F L) (startN K (sizN K L) v) m)[j]?.getD 0).toNat) h2).2 (by
        rw [Int.toNat_of_nonneg hx0]
        exact List.count_pos_iff.2 hx)
      unfold posOk at hp
      rw [Int.toNat_natCast]
      omega
  · rw [posS_no (Bool.eq_false_iff.2 h)] at h0
    cases h0
/-- The state behind a transmission, and the error. -/
def addSt (s : St) (rv : Int) (l : List Int) : St × Int :=
  if softB l = true then
    if (posS s.k s.f s.l rv l.length).2 = 0 then ({ s with V := accV s.V (posS s.k s.f s.l rv l.length).1 l l.length, n := s.n + l.length }, 0)
    else (s, (posS s.k s.f s.l rv l.length).2)
  else (s, 2)
theorem addSt_ok {s : St} (h : s.Ok) (rv : Int) (l : List Int) : (addSt s rv l).1.Ok := by
  unfold addSt
  split
  · split
    · exact ⟨h.k0, h.k1, h.f1, h.l1, (accV_length _ _ _ _).trans h.len, accV_soft h.soft _⟩
    · exact h
  · exact h
theorem addSt_n (s : St) (rv : Int) (l : List Int) : (addSt s rv l).1.n ≤ s.n + l.length := by
  unfold addSt
  split
  · split
    · exact Nat.le_refl _
    · exact Nat.le_add_right _ _
  · exact Nat.le_add_right _ _
theorem addSt_par (s : St) (rv : Int) (l : List Int) : (addSt s rv l).1.k = s.k ∧ (addSt s rv l).1.f = s.f ∧ (addSt s rv l).1.l = s.l := by
  unfold addSt
  split
  · split <;> exact ⟨rfl, rfl, rfl⟩
  · exact ⟨rfl, rfl, rfl⟩
/-- What a call of a buffer's method that may turn it hands back. -/
def TurnB (w : World) (B : Nat) (r : St × Int) (e : Ending) (w' : World) : Prop := ∃ A N c, e = .returned (.int .i64 r.2) ∧ BufAt w' B r.1 A N c ∧ Save (fun k => k = B) w w'
theorem TurnB.same {w w' : World} {B : Nat} {s : St} {A : Option Addr} {N c : Nat} {k : Int} (h : BufAt w B s A N c) (hb : Below w.heap.size w w') : TurnB w B (s, k) (.returned (.int .i64 k)) w' := ⟨A, N, c, rfl, h.below hb, Save.of_below hb⟩
theorem boxed_block {W W' : World} {B : Nat} {t : TypeId} {v : Value} (h : Boxed W B t v) (hb : W'.heap[B]? = W.heap[B]?) : Boxed W' B t v := hb.trans h
/-- New values and a new number are stored. -/
theorem BufAt.put {w w1 : World} {B : Nat} {s s' : St} {A A' : Option Addr} {N N' c c' : Nat} (h : BufAt w B s A N c) (hb : Below w.heap.size w w1) (hO : w1.ownsRow w.heap.size 3 1 (.slice A' N' c') N' (s'.V.map (Value.int .i64))) (hN : N' = 3 * (s'.k + 4)) (hs : s'.Ok)
    (hp : s'.k = s.k ∧ s'.f = s.f ∧ s'.l = s.l) {n : Int} (hn : n = (s'.n : Int)) : BufAt ((w1.setCell ⟨B, 3, none⟩ (.slice A' N' c')).setCell ⟨B, 4, none⟩ (.int .i64 n)) B s' A' N' c' ∧ Save (fun k => k = B) w ((w1.setCell ⟨B, 3, none⟩ (.slice A' N' c')).setCell ⟨B, 4, none⟩ (.int .i64 n)) := by
  have hlt := h.lt
  refine ⟨⟨?_, ?_, hN, hs, h.low⟩, ((Save.of_below (X := fun k => k = B) hb).setCell (p := ⟨B, 3, none⟩) (fun _ => rfl) _).setCell (p := ⟨B, 4, none⟩) (fun _ => rfl) _⟩
  · have h1 := arr_set (j := 4) (v := .int .i64 n) (arr_set (j := 3) (v := .slice A' N' c') (h.below hb).blk)
    rw [h1, hp.1, hp.2.1, hp.2.2, hn]
    rfl
  · have hne : ∀ g, (Value.slice A' N' c').ownBlock = some g → g ≠ B := fun g hg e => by have := (hO.lt g hg).1; omega
    have h2 : Save (fun k => k = B) w1 ((w1.setCell ⟨B, 3, none⟩ (.slice A' N' c')).setCell ⟨B, 4, none⟩ (.int .i64 n)) := ((Save.refl (fun k => k = B) w1).setCell (p := ⟨B, 3, none⟩) (fun _ => rfl) _).setCell (p := ⟨B, 4, none⟩) (fun _ => rfl) _
    exact (ownsRow_save hO h2 hne).mono (Nat.zero_le _)
set_option maxRecDepth 100000 in
set_option maxHeartbeats 4000000 in
theorem Add_ok {w : World} {B N c m c2 : Nat} {s : St} {A A2 : Option Addr} {rv : Int} {l : List Int} (hK : Kinds w) (h : BufAt w B s A N c) (hR : Rd .i64 w w.heap.size A2 m l) (hm : m ≤ 1000000) (hn : s.n ≤ 1000000000) (hs : softB l = true) (h0 : (posS s.k s.f s.l rv m).2 = 0) :
    Calls Tryd.prog 19 #[.pointer (some ⟨B, 0, none⟩), .int .i64 rv, .slice A2 m c2] w (TurnB w B ({ s with V := accV s.V (posS s.k s.f s.l rv m).1 l m, n := s.n + m }, 0)) := by
  obtain ⟨w1, hw1⟩ : ∃ W, W = w.alloc (.cells #[.slice A2 m c2] 28) := ⟨_, rfl⟩
  have b1 : Below w.heap.size w w1 := by rw [hw1]; exact (Below.refl _ w).alloc (Nat.le_refl _) _
  have x1 : Boxed w1 w.heap.size 28 (.slice A2 m c2) := by rw [hw1]; exact Boxed.new _ _ _
  have hI := Lib.hid (isNone_buf (h.below b1))
  have hV := Lib.hid (Valid_any (c := c2) (hK.step b1).lim (hR.below b1) hm)
  rw [hs] at hV
  obtain ⟨r, hr⟩ : ∃ r, posS s.k s.f s.l rv m = r := ⟨_, rfl⟩
  have hpin := pos_in h0
  rw [hr] at h0 hpin
  rw [hr]
  obtain ⟨ps, no⟩ := r
  dsimp only at h0 hpin ⊢
  subst h0
  have hS := Lib.hid (fun (u : World) (hK : KCol u) => selection_dm (k := (s.k : Int)) (f := (s.f : Int)) (l := (s.l : Int)) (rv := rv) (e := (m : Int)) hK)
  rw [hr] at hS
  have c0 := bufC.c0 (h.below b1).blk
  have c1 := bufC.c1 (h.below b1).blk
  have c2' := bufC.c2 (h.below b1).blk
  have c3 := bufC.c3 (h.below b1).blk
  have xc := x1.cell
  have HB := Lib.hid b1
  have HX := Lib.hid x1
  have HA := Lib.hid h
  have HK := Lib.hid hK
  have HR := Lib.hid hR
  have HP := Lib.hid hpin
  have hm' : (m : Int) ≤ 1000000 := by omega
  have HM := Lib.hid hm
  have HN := Lib.hid hn
  subst hw1
  clear b1 x1 hpin h hK hR hs hr hm hn
  go_enter Tryd.func19, Tryd.ntmps19
  go_wp2_with fail
  refine wp_scope_forward 0 rfl ?_
  go_wp2_with (first | (go_at_call 36; refine hI.out.mono ?_; rintro e w' ⟨rfl, rfl⟩) | (go_at_call 39; refine hV.out.mono ?_; rintro e w' ⟨rfl, rfl⟩) | fail)
  have HC := Lib.hid (bufC.c3 (HA.out.below HB.out).blk)
  have hB := (HA.out.below HB.out).lt
  have HBl := Lib.hid hB
  clear hI hV c3 hB
  go_region_held3 (fun w' => w'.cell? ⟨B, 0, none⟩ = some (.int .i64 (s.k : Int)) ∧ w'.cell? ⟨B, 1, none⟩ = some (.int .i64 (s.f : Int)) ∧ w'.cell? ⟨B, 2, none⟩ = some (.int .i64 (s.l : Int)) ∧ w'.cell? ⟨w.heap.size, 0, none⟩ = some (.slice A2 m c2)) (first | go_keep) (first
    | (go_at_call 40; refine (hS.out _ (HK.out.step HB.out).col.drew).mono ?_; rintro e w2 he; obtain ⟨A3, c4, rfl, o3, b3⟩ := he.got HP.out.1;
       have d0 := (b3.cell (p := ⟨B, 0, none⟩) HBl.out).trans c0; have d1 := (b3.cell (p := ⟨B, 1, none⟩) HBl.out).trans c1; have d2 := (b3.cell (p := ⟨B, 2, none⟩) HBl.out).trans c2'; have dx := (b3.cell (p := ⟨w.heap.size, 0, none⟩) HX.out.lt).trans xc)
    | fail)
  have hb2 : Below w.heap.size w w2 := HB.out.trans (below_undrew (b3.mono (show w.heap.size ≤ _ from HB.out.size)))
  have h2 := HA.out.below hb2
  obtain ⟨g, rfl, _, _, _⟩ := h2.addr
  have x2 := Boxed.below HX.out (below_undrew b3) HX.out.lt
  have hCm := Lib.hid (combined_any (c := c) (c2 := c4) (l := l) (G := 42) (lb := #[.pointer (some ⟨w.heap.size, 0, none⟩)]) (enters_of Tryd.func42 (by kernel_rfl) rfl) h2.rd (Rd.of_own o3) (by have := h2.pos; omega) (by have := h2.pos; omega) HM.out
    (fun j hj => by
      obtain ⟨p, hp1, hp2⟩ := HP.out.2.2 j hj
      exact ⟨p, hp1, by rw [h2.len]; simpa using hp2⟩)
    (fun j v u hj hb => addC_any (c2 := c2) ((HK.out.step hb2).step hb).lim ((hb.cell (p := ⟨w.heap.size, 0, none⟩) x2.lt).trans x2.cell) ((HR.out.step hb2).step hb) hj))
  have c3 := bufC.c3 h2.blk
  have X2 := Lib.hid x2
  have H2 := Lib.hid h2
  have HB2 := Lib.hid hb2
  have hmf := makeFunc_run
  have hlen := Lib.hid ((accV_length s.V ps l m).trans (h2.ok.len.trans h2.len.symm))
  clear c0 c1 c2' xc d0 d1 d2 dx he o3 b3 hb2 h2 x2 HB HX HC HBl hS
  go_wp2_with fail
  refine hCm.out.mono ?_
  rintro e w3 he
  obtain ⟨A5, c5, rfl, o5, b5⟩ := he.got hlen.out
  have h3 := H2.out.below b5
  have X3 := Boxed.below X2.out b5 X2.out.lt
  have HB3 := Lib.hid (HB2.out.trans (b5.mono HB2.out.size))
  have d3 := bufC.c3 h3.blk
  have e3 := blk_frozen h3.blk 3
  have hne : w.heap.size ≠ B := by have := HA.out.lt; omega
  have X4 := Lib.hid (boxed_block X3 (Below.heap_setCell w3 ⟨B, 3, none⟩ (.slice A5 N c5) w.heap.size hne))
  have hblk4 := Lib.hid (arr_set (j := 3) (v := .slice A5 N c5) h3.blk)
  have HO := Lib.hid (o5.mono HB2.out.size)
  clear hCm he o5 b5 h3 X3 X2 H2 c3
  go_wp2_with fail
  obtain ⟨w4, hw4⟩ : ∃ W, W = w3.setCell ⟨B, 3, none⟩ (.slice A5 N c5) := ⟨_, rfl⟩
  rw [← hw4] at X4 hblk4 ⊢
  have e4 := blk_frozen hblk4.out 4
  have d4 : w4.cell? ⟨B, 4, none⟩ = some (.int .i64 (s.n : Int)) := blk_cell hblk4.out rfl
  have xc := X4.out.cell
  have HW := Lib.hid hw4
  clear hw4 d3 e3
  have hn1 : (s.n : Int) ≤ 1000000000 := by have := HN.out; omega
  go_still_tail 9, (by kernel_rfl)
  change wpList _ _ _ _ _ w4.drew
  go_wp2_with fail
  refine jump_ret ?_
  go_ret
  have hw := HW.out
  subst hw
  obtain ⟨q1, q2⟩ := BufAt.put (s' := { s with V := accV s.V ps l m, n := s.n + m }) (n := (s.n : Int) + (m : Int)) HA.out HB3.out HO.out HA.out.len ⟨HA.out.ok.k0, HA.out.ok.k1, HA.out.ok.f1, HA.out.ok.l1, (accV_length _ _ _ _).trans HA.out.ok.len, accV_soft HA.out.ok.soft _⟩ ⟨rfl, rfl, rfl⟩ (by push_cast; rfl)
  exact ⟨_, _, _, rfl, ⟨q1.blk, q1.row, q1.len, q1.ok, q1.low⟩, ⟨q2.os, q2.tape, q2.output, q2.size, q2.block⟩⟩
set_option maxRecDepth 100000 in
set_option maxHeartbeats 4000000 in
theorem Add_bad {w : World} {B N c m c2 : Nat} {s : St} {A A2 : Option Addr} {rv : Int} {l : List Int} (hK : Kinds w) (h : BufAt w B s A N c) (hR : Rd .i64 w w.heap.size A2 m l) (hm : m ≤ 1000000) (hs : softB l = false) :
    Calls Tryd.prog 19 #[.pointer (some ⟨B, 0, none⟩), .int .i64 rv, .slice A2 m c2] w (TurnB w B (s, 2)) := by
  obtain ⟨w1, hw1⟩ : ∃ W, W = w.alloc (.cells #[.slice A2 m c2] 28) := ⟨_, rfl⟩
  have b1 : Below w.heap.size w w1 := by rw [hw1]; exact (Below.refl _ w).alloc (Nat.le_refl _) _
  have x1 : Boxed w1 w.heap.size 28 (.slice A2 m c2) := by rw [hw1]; exact Boxed.new _ _ _
  have hI := Lib.hid (isNone_buf (h.below b1))
  have hV := Lib.hid (Valid_any (c := c2) (hK.step b1).lim (hR.below b1) hm)
  rw [hs] at hV
  have xc := x1.cell
  have HB := Lib.hid b1
  have HA := Lib.hid h
  subst hw1
  clear b1 x1 h hK hR hs hm
  go_enter Tryd.func19, Tryd.ntmps19
  go_wp2_with fail
  refine wp_scope_forward 0 rfl ?_
  go_wp2_with (first | (go_at_call 36; refine hI.out.mono ?_; rintro e w' ⟨rfl, rfl⟩) | (go_at_call 39; refine hV.out.mono ?_; rintro e w' ⟨rfl, rfl⟩) | fail)
  go_step3
  refine ⟨rfl, ?_⟩
  go_wp2
  rw [Exit.noGoto_ret]
  go_ret
  exact TurnB.same HA.out HB.out
set_option maxRecDepth 100000 in
set_option maxHeartbeats 4000000 in
theorem Add_none {w : World} {B N c m c2 : Nat} {s : St} {A A2 : Option Addr} {rv : Int} {l : List Int} (hK : Kinds w) (h : BufAt w B s A N c) (hR : Rd .i64 w w.heap.size A2 m l) (hm : m ≤ 1000000) (hs : softB l = true) (h0 : (posS s.k s.f s.l rv m).2 ≠ 0) :
    Calls Tryd.prog 19 #[.pointer (some ⟨B, 0, none⟩), .int .i64 rv, .slice A2 m c2] w (TurnB w B (s, (posS s.k s.f s.l rv m).2)) := by
  obtain ⟨w1, hw1⟩ : ∃ W, W = w.alloc (.cells #[.slice A2 m c2] 28) := ⟨_, rfl⟩
  have b1 : Below w.heap.size w w1 := by rw [hw1]; exact (Below.refl _ w).alloc (Nat.le_refl _) _
  have x1 : Boxed w1 w.heap.size 28 (.slice A2 m c2) := by rw [hw1]; exact Boxed.new _ _ _
  have hI := Lib.hid (isNone_buf (h.below b1))
  have hV := Lib.hid (Valid_any (c := c2) (hK.step b1).lim (hR.below b1) hm)
  rw [hs] at hV
  obtain ⟨r, hr⟩ : ∃ r, posS s.k s.f s.l rv m = r := ⟨_, rfl⟩
  rw [hr] at h0 ⊢
  have hS := Lib.hid (fun (u : World) (hK : KCol u) => selection_dm (k := (s.k : Int)) (f := (s.f : Int)) (l := (s.l : Int)) (rv := rv) (e := (m : Int)) hK)
  rw [hr] at hS
  obtain ⟨ps, no⟩ := r
  have hno : (no == 0) = false := by simpa using h0
  have hno2 : (no != 0) = true := by simpa using h0
  dsimp only
  have c0 := bufC.c0 (h.below b1).blk
  have c1 := bufC.c1 (h.below b1).blk
  have c2' := bufC.c2 (h.below b1).blk
  have xc := x1.cell
  have hB := (h.below b1).lt
  have HBl := Lib.hid hB
  have HB := Lib.hid b1
  have HX := Lib.hid x1
  have HA := Lib.hid h
  have HK := Lib.hid hK
  subst hw1
  clear b1 x1 h hK hR hs hr hm hB h0
  go_enter Tryd.func19, Tryd.ntmps19
  go_wp2_with fail
  refine wp_scope_forward 0 rfl ?_
  go_wp2_with (first | (go_at_call 36; refine hI.out.mono ?_; rintro e w' ⟨rfl, rfl⟩) | (go_at_call 39; refine hV.out.mono ?_; rintro e w' ⟨rfl, rfl⟩) | fail)
  clear hI hV
  go_region_held3 (fun w' => w'.cell? ⟨B, 0, none⟩ = some (.int .i64 (s.k : Int)) ∧ w'.cell? ⟨B, 1, none⟩ = some (.int .i64 (s.f : Int)) ∧ w'.cell? ⟨B, 2, none⟩ = some (.int .i64 (s.l : Int)) ∧ w'.cell? ⟨w.heap.size, 0, none⟩ = some (.slice A2 m c2)) (first | go_keep) (first
    | (go_at_call 40; refine (hS.out _ (HK.out.step HB.out).col.drew).mono ?_; rintro e w2 ⟨A3, c4, rfl, o3, b3⟩;
       have d0 := (b3.cell (p := ⟨B, 0, none⟩) HBl.out).trans c0; have d1 := (b3.cell (p := ⟨B, 1, none⟩) HBl.out).trans c1; have d2 := (b3.cell (p := ⟨B, 2, none⟩) HBl.out).trans c2'; have dx := (b3.cell (p := ⟨w.heap.size, 0, none⟩) HX.out.lt).trans xc)
    | fail)
  have hb2 := Lib.hid (HB.out.trans (below_undrew (b3.mono (show w.heap.size ≤ _ from HB.out.size))))
  clear c0 c1 c2' xc d0 d1 d2 dx o3 b3 HB HX HBl hS
  go_wp2_with fail
  go_step3
  refine ⟨rfl, ?_⟩
  go_wp2
  rw [Exit.noGoto_ret]
  go_ret
  exact TurnB.same HA.out hb2.out
theorem Add_buf {w : World} {B N c m c2 : Nat} {s : St} {A A2 : Option Addr} {rv : Int} {l : List Int} (hK : Kinds w) (h : BufAt w B s A N c) (hR : Rd .i64 w w.heap.size A2 m l) (hm : m ≤ 1000000) (hn : s.n ≤ 1000000000) :
    Calls Tryd.prog 19 #[.pointer (some ⟨B, 0, none⟩), .int .i64 rv, .slice A2 m c2] w (TurnB w B (addSt s rv l)) := by
  unfold addSt
  rw [hR.len]
  by_cases hs : softB l = true
  · rw [if_pos hs]
    by_cases h0 : (posS s.k s.f s.l rv m).2 = 0
    · rw [if_pos h0]; exact Add_ok hK h hR hm hn hs h0
    · rw [if_neg h0]; exact Add_none hK h hR hm hs h0
  · rw [if_neg hs]
    exact Add_bad hK h hR hm (Bool.eq_false_iff.2 hs)
end
end Go.Proofs.YtoegamlpgenfcaaDoor
