/-
  slices.Contains over bytes; fits.
-/
import Derived.Test.YtkdodmjhpkfhnaaDoorPf
namespace Go.Proofs.YtkdodmjhpkfhnaaDoor
open Go.RowKit Go.Shelf BigFrame

attribute [local go_sem] Oper.semAt_some

set_option maxHeartbeats 1000000 in
theorem indexB_any {A : Option Addr} {n c B : Nat} {xs : List Int} {v : Int} {w : World} (h : Rd .u8 w B A n xs) (hn : n ≤ 1000000) :
    Calls Tryd.prog 67 #[.slice A n c, .int .u8 v] w fun e w' => (∃ k : Int, e = .returned (.int .i64 k) ∧ decide (0 ≤ k) = decide (v ∈ xs)) ∧ w' = w := by
  have hl := Lib.hid h.len
  go_enter Tryd.func67, Tryd.ntmps67
  go_wp2_with fail
  go_loop [8] (fun i => ∃ j : Nat, j ≤ n ∧ i = .int .i64 j ∧ v ∉ xs.take j) (fun i => n - (intOf i).toNat)
  case atStart => exact ⟨0, Nat.zero_le _, rfl, by simp⟩
  case round =>
    obtain ⟨j, hj, rfl, hv⟩ := hrel
    have hV := Lib.hid hv; clear hv
    by_cases hlt : j < n
    · obtain ⟨b, off, rfl, _, hc⟩ := h.cells j hlt
      have hS := Lib.hid (take_snoc xs j (by rw [hl.out]; exact hlt) 0)
      have hm : Hid (xs[j]?.getD 0 ∈ xs) := Lib.hid (by
        have hjl : j < xs.length := by rw [hl.out]; exact hlt
        rw [List.getElem?_eq_getElem hjl]
        exact List.getElem_mem hjl)
      generalize xs[j]?.getD 0 = y at *
      by_cases hy : v = y
      · subst hy
        have hd : (v == v) = true := by simp
        go_wp2_with fail
        go_ret
        exact ⟨⟨_, rfl, by simp [hm.out]⟩, rfl⟩
      · have hd : (v == y) = false := by simp [hy]
        have hy' : Hid (¬ v = y) := Lib.hid hy
        clear hy
        go_wp2_with fail
        go_round
        case rel => exact ⟨j + 1, by omega, by go_num, by rw [hS.out]; intro hm; rcases List.mem_append.1 hm with h1 | h1
                                                          · exact hV.out h1
                                                          · exact hy'.out (List.mem_singleton.1 h1)⟩
        case measure => simp [intOf]; omega
    · obtain rfl : j = n := by omega
      rw [← hl.out, List.take_length] at hV
      go_wp2_with fail
      go_ret
      exact ⟨⟨_, rfl, by simp [hV.out]⟩, rfl⟩
theorem containsB_any {A : Option Addr} {n c B : Nat} {xs : List Int} {v : Int} {w : World} (h : Rd .u8 w B A n xs) (hn : n ≤ 1000000) :
    Calls Tryd.prog 59 #[.slice A n c, .int .u8 v] w fun e w' => e = .returned (.bool (decide (v ∈ xs))) ∧ w' = w := by
  have hi := Lib.hid (indexB_any (c := c) (v := v) h hn)
  go_enter Tryd.func59, Tryd.ntmps59
  go_wp2_with fail
  refine hi.out.mono ?_
  rintro e w1 ⟨⟨k, rfl, hk⟩, rfl⟩
  have HK := Lib.hid hk
  clear hk
  go_wp2_with fail
  go_ret
  exact ⟨ret_bool HK.out, rfl⟩
/-- How many of the blocks, from the first on, have the layout's sizes. -/
def FitTo (l : Lay) (rows : List BRow) (k : Nat) : Prop := k ≤ rows.length ∧ ∀ i r, i < k → rows[i]? = some r → r.n = l.size i
/-- Where fits' loop is. -/
structure FtI (w : World) (l : Lay) (A : Option Addr) (n c : Nat) (rows : List BRow) (k : Nat) (W : World) : Prop where
  below : Below w.heap.size w W
  lay : LayAt W w.heap.size 70 l
  box : Boxed W (w.heap.size + 1) 48 (.slice A n c)
  cnt : Boxed W (w.heap.size + 1 + 1) 3 (.int .i64 (k : Int))
  it : LayAt W (w.heap.size + 3) 70 l
theorem FtI.own {w : World} {l : Lay} {A : Option Addr} {n c : Nat} {rows : List BRow} {base : Nat} (hb : w.heap.size ≤ base) : OwnFrom base (FtI w l A n c rows) := by
  intro k X Y row h hg hr
  have hc : ∀ (j : Nat) (o : Obj), X.heap[j]? = some o → o.isCells = true → Y.heap[j]? = some o := fun j o ho hco => by
    refine (hg.block j (Array.getElem?_eq_some_iff.1 ho).1 (fun e => ?_)).trans ho
    obtain ⟨o', ho', hc'⟩ := (hr j e.symm).2
    rw [ho] at ho'
    cases ho'
    rw [hco] at hc'
    cases hc'
  exact ⟨h.below.grown hg h.below.size (fun j e => by have := (hr j e).1; omega), ⟨hc _ _ h.lay.heap rfl⟩, hc _ _ h.box rfl, hc _ _ h.cnt rfl, ⟨hc _ _ h.it.heap rfl⟩⟩
open Classical in
/-- What fits finds. -/
noncomputable def fitB (l : Lay) (rows : List BRow) : Bool := decide (rows.length = l.blocks ∧ FitTo l rows l.blocks) && !(decide ((1 : Int) ∈ ((rows[0]?.map (·.xs)).getD []).take l.filler))
set_option maxRecDepth 100000 in
set_option maxHeartbeats 4000000 in
theorem fits_any {l : Lay} (hok : l.Ok) {rows : List BRow} {n c : Nat} {A : Option Addr} {w : World} (hrds : Rds w w.heap.size A n rows) (hn : n ≤ 100000) (hcap : ∀ r ∈ rows, r.n ≤ r.c ∧ r.n ≤ 1000000) :
    Calls Tryd.prog 48 #[layV l, .slice A n c] w fun e w' => e = .returned (.bool (fitB l rows)) ∧ Below w.heap.size w w' := by
  refine (callsIn_wide (n := 8)).1 ?_
  have hlen := hrds.len
  have hbl := hok.blocks1
  have hea := Lib.hid (fun (u : World) => each_any (l := l) (w := u))
  refine callsIn_of_wp_marks Tryd.func48 rfl trivial ?_ rfl
  simp only [Tryd.ntmps48, List.size_toArray, List.length_cons, List.length_nil, Nat.reduceAdd, Nat.reduceSub, Array.replicate_succ, Array.replicate_zero, List.push_toArray, List.append_toArray, List.nil_append, List.cons_append]
  unfold layV layA
  have hL : LayAt (((w.alloc (.cells #[.int .i64 l.bits, .int .i64 l.blocks, .int .i64 l.long, .int .i64 l.short, .int .i64 l.longs, .int .i64 l.shorts, .int .i64 l.filler] 70)).alloc (.cells #[.slice A n c] 48)).alloc (.cells #[.int .i64 0] 3)) w.heap.size 70 l := ((LayAt.new w _ l).alloc _).alloc _
  have bB : Boxed (((w.alloc (.cells #[.int .i64 l.bits, .int .i64 l.blocks, .int .i64 l.long, .int .i64 l.short, .int .i64 l.longs, .int .i64 l.shorts, .int .i64 l.filler] 70)).alloc (.cells #[.slice A n c] 48)).alloc (.cells #[.int .i64 0] 3)) (w.heap.size + 1) 48 (.slice A n c) := by
    have := (Boxed.new (w.alloc (.cells #[.int .i64 l.bits, .int .i64 l.blocks, .int .i64 l.long, .int .i64 l.short, .int .i64 l.longs, .int .i64 l.shorts, .int .i64 l.filler] 70)) 48 (.slice A n c)).alloc (.cells #[.int .i64 0] 3)
    simpa using this
  have bN : Boxed (((w.alloc (.cells #[.int .i64 l.bits, .int .i64 l.blocks, .int .i64 l.long, .int .i64 l.short, .int .i64 l.longs, .int .i64 l.shorts, .int .i64 l.filler] 70)).alloc (.cells #[.slice A n c] 48)).alloc (.cells #[.int .i64 0] 3)) (w.heap.size + 1 + 1) 3 (.int .i64 0) := by
    have := Boxed.new ((w.alloc (.cells #[.int .i64 l.bits, .int .i64 l.blocks, .int .i64 l.long, .int .i64 l.short, .int .i64 l.longs, .int .i64 l.shorts, .int .i64 l.filler] 70)).alloc (.cells #[.slice A n c] 48)) 3 (.int .i64 0)
    simpa using this
  have hb3 : Below w.heap.size w (((w.alloc (.cells #[.int .i64 l.bits, .int .i64 l.blocks, .int .i64 l.long, .int .i64 l.short, .int .i64 l.longs, .int .i64 l.shorts, .int .i64 l.filler] 70)).alloc (.cells #[.slice A n c] 48)).alloc (.cells #[.int .i64 0] 3)) := ((((Below.refl w.heap.size w).alloc (Nat.le_refl _) _).alloc (by simp) _).alloc (by simp; omega) _)
  have hs3 : (((w.alloc (.cells #[.int .i64 l.bits, .int .i64 l.blocks, .int .i64 l.long, .int .i64 l.short, .int .i64 l.longs, .int .i64 l.shorts, .int .i64 l.filler] 70)).alloc (.cells #[.slice A n c] 48)).alloc (.cells #[.int .i64 0] 3)).heap.size = w.heap.size + 3 := by simp
  gi_wp2
  refine wpIn_wide_scope ?_
  gi_wp2
  refine wpIn_label ?_
  generalize (((w.alloc (.cells #[.int .i64 l.bits, .int .i64 l.blocks, .int .i64 l.long, .int .i64 l.short, .int .i64 l.longs, .int .i64 l.shorts, .int .i64 l.filler] 70)).alloc (.cells #[.slice A n c] 48)).alloc (.cells #[.int .i64 0] 3)) = W3 at *
  obtain ⟨c0, c1, c2, c3, c4, c5, c6⟩ := hL.all
  gi_wp2_with fail
  refine ⟨trivial, ?_⟩
  refine (callsIn_wide.2 (hea.out _)).mono ?_
  rintro e w4 ⟨rfl, hL4, hb4⟩
  rw [hs3] at hb4 hL4 ⊢
  have hI0 : FtI w l A n c rows 0 w4 := ⟨hb3.trans (hb4.mono (by omega)), hL.below hb4 (by omega), Boxed.below bB hb4 (by omega), Boxed.below bN hb4 (by omega), hL4⟩
  have hs4 := hL4.lt
  clear c0 c1 c2 c3 c4 c5 c6 hea hL bB bN hb3 hL4 hb4
  gi_wp2_with fail
  refine wpIn_each (n := 8) (l := l) (B := w.heap.size + 3) (by decide) (by omega) rfl rfl
    (fun k W => FtI w l A n c rows k W ∧ FitTo l rows k) (fun cd W => cd = .exit 0 ∧ ∃ m, FtI w l A n c rows m W ∧ m < l.blocks ∧ ¬ (rows.length = l.blocks ∧ FitTo l rows l.blocks))
    (fun k X Y row h hg hr => ⟨FtI.own (base := w4.heap.size) (by omega) k X Y row h.1 hg hr, h.2⟩) (fun cd _ X Y row h hg hr => by
      obtain ⟨rfl, m, hm, h2⟩ := h
      exact ⟨rfl, m, FtI.own (base := w4.heap.size) (by omega) m X Y row hm hg hr, h2⟩) (fun _ _ h => h.1.it) ⟨hI0, by unfold FitTo; simp⟩
    (fun k => { tmps := #[.agg #[.int .i64 l.bits, .int .i64 l.blocks, .int .i64 l.long, .int .i64 l.short, .int .i64 l.longs, .int .i64 l.shorts, .int .i64 l.filler], .slice A n c, .pointer (some ⟨w.heap.size, 0, none⟩), .pointer (some ⟨w.heap.size + 1, 0, none⟩), .bool false, .pointer (some ⟨w.heap.size + 1 + 1, 0, none⟩), .int .i64 (k : Int), .int .i64 (l.size k : Int), .agg #[.int .i64 l.bits, .int .i64 l.blocks, .int .i64 l.long, .int .i64 l.short, .int .i64 l.longs, .int .i64 l.shorts, .int .i64 l.filler], .func (.func 55) #[] #[.pointer (some ⟨w.heap.size + 3, 0, none⟩)], .int .i64 (k : Int), .int .i64 (l.size k : Int),
      undef, undef, undef, undef, undef, undef, undef, undef, undef, undef, undef, undef, undef, undef, undef, undef, undef, undef, undef, undef, undef, undef, undef, undef, undef, undef, undef, undef, undef, undef, undef, undef, undef, undef, undef, undef, undef, undef, undef], defers := [] }) ?assign ?body ?done ?stop
  case assign =>
    intro lp k W K hK
    gi_wp2
    exact hK
  case body =>
    rintro lp k W hk ⟨hI, hft⟩ hsz
    dsimp only
    have q1 := hI.box.cell
    have q2 := hI.cnt.cell
    have q3 := hI.cnt.frozen
    have HI := Lib.hid hI
    have HFT := Lib.hid hft
    have hsw := hI.below
    clear hI hft
    by_cases hkn : k = n
    · have hd : ((k : Int) == (n : Int)) = true := by simp [hkn]
      have hno : ¬ (rows.length = l.blocks ∧ FitTo l rows l.blocks) := fun h => by omega
      have HNO := Lib.hid hno
      clear hkn hno
      gi_wp2
      exact ⟨KeepsFrom.refl _ _, rfl, k, HI.out, hk, HNO.out⟩
    · have hkn2 : k < n := by have := HFT.out.1; omega
      have hd : ((k : Int) == (n : Int)) = false := by simp; omega
      obtain ⟨b, off, r, rfl, hbB, hr, hc, _⟩ := (hrds.below hsw).cells k hkn2
      have hk0 : (0 : Int) ≤ (k : Int) := by omega
      have hk1 : (k : Int) < (n : Int) := by omega
      have HR := Lib.hid hr
      clear hkn hr
      by_cases hrs : r.n = l.size k
      · have hd2 : ((r.n : Int) != (l.size k : Int)) = false := by simp [hrs]
        have hft2 : Hid (FitTo l rows (k + 1)) := Lib.hid ⟨by omega, fun i r' hi hr' => by
          rcases Nat.lt_or_ge i k with h | h
          · exact HFT.out.2 i r' h hr'
          · obtain rfl : i = k := by omega
            rw [HR.out] at hr'
            injection hr' with hr'
            rw [← hr']; exact hrs⟩
        have hbb : Hid (Below w.heap.size w (W.setCell ⟨w.heap.size + 1 + 1, 0, none⟩ (.int .i64 ((k + 1 : Nat) : Int)))) := Lib.hid (hsw.setCell (p := ⟨w.heap.size + 1 + 1, 0, none⟩) (by simp; omega) _)
        have HS4 := Lib.hid hs4
        clear hrs hsw
        gi_wp2
        have hkc : ((k + 1 : Nat) : Int) = (k : Int) + 1 := by omega
        refine ⟨KeepsFrom.of_grownBy (grownBy_setCell' W (w.heap.size + 1 + 1) _) (fun j e => by cases e; have := HS4.out; omega), ⟨?_, ?_, ?_, ?_, ?_⟩, hft2.out⟩
        · rw [← hkc]; exact hbb.out
        · exact LayAt.other HI.out.lay (p := ⟨w.heap.size + 1 + 1, 0, none⟩) (by simp; omega) _
        · exact HI.out.box.other (by omega) _
        · have := HI.out.cnt.set (.int .i64 ((k + 1 : Nat) : Int))
          rwa [hkc] at this ⊢
        · exact LayAt.other HI.out.it (p := ⟨w.heap.size + 1 + 1, 0, none⟩) (by simp) _
      · have hd2 : ((r.n : Int) != (l.size k : Int)) = true := by simp; omega
        have HNO : Hid (¬ (rows.length = l.blocks ∧ FitTo l rows l.blocks)) := Lib.hid (fun h => hrs (h.2.2 k r hk HR.out))
        clear hrs hsw
        gi_wp2
        exact ⟨KeepsFrom.refl _ _, rfl, k, HI.out, hk, HNO.out⟩
  case stop =>
    rintro D cd W rfl ⟨rfl, m, hI, hm, hno⟩ hD
    have q1 := hI.box.cell
    have q2 := hI.cnt.cell
    obtain ⟨c0, c1, c2, c3, c4, c5, c6⟩ := hI.lay.all
    dsimp only
    have hB : Hid (fitB l rows = false) := Lib.hid (by classical unfold fitB; simp only [hno, decide_false, Bool.false_and])
    have HI := Lib.hid hI
    clear hno hI
    have hd1 : ((l.blocks : Int) == (m : Int)) = false := by simp; omega
    have hd2 : ((m : Int) == (l.blocks : Int)) = false := by simp; omega
    have hd3 : ((m : Int) != (l.blocks : Int)) = true := by simp; omega
    have hd4 : ((l.blocks : Int) != (m : Int)) = true := by simp; omega
    have hbD : Below w.heap.size w (W.putObj w4.heap.size (.deferred none)) := HI.out.below.grown (grownBy_putObj' W _ _) HI.out.below.size (fun j e => by cases e; omega)
    refine wpIn_exit ?_
    gi_wp2
    exact leaves_one hD ⟨_, results_tmp rfl _ _ _, by rw [hB.out]; rfl, hbD⟩
  case done =>
    rintro D W rfl ⟨hI, hft⟩ hD
    have q1 := hI.box.cell
    have q2 := hI.cnt.cell
    have hsw := hI.below
    have hbD : Below w.heap.size w (W.putObj w4.heap.size (.deferred none)) := hsw.grown (grownBy_putObj' W _ _) hsw.size (fun j e => by have := hs4; cases e; omega)
    obtain ⟨c0, c1, c2, c3, c4, c5, c6⟩ := hI.lay.all
    have HI := Lib.hid hI
    dsimp only
    have hle := hft.1
    have hf1 := hok.1
    clear hI
    by_cases hbn : l.blocks = n
    · have hn0 : 0 < n := by have := hok.blocks0; omega
      obtain ⟨b, off, r, rfl, hbB, hr, hc, hRd⟩ := (hrds.below hsw).cells 0 hn0
      have hrm : r ∈ rows := List.mem_of_getElem? hr
      obtain ⟨hrc, hrM⟩ := hcap r hrm
      have hr0 : r.n = l.size 0 := hft.2 0 r (by omega) hr
      have hfl : l.filler ≤ r.n := by
        have := hok.room (i := 0) (by omega)
        have : l.fill 0 = l.filler := by unfold Lay.fill; rfl
        omega
      have hB : Hid (fitB l rows = !decide ((1 : Int) ∈ r.xs.take l.filler)) := Lib.hid (by
        classical
        have h1 : rows.length = l.blocks ∧ FitTo l rows l.blocks := ⟨by omega, hft⟩
        unfold fitB
        rw [hr]
        simp [h1])
      have hRt : Rd .u8 W w.heap.size r.a l.filler (r.xs.take l.filler) := by
        have := Rd.cut hRd (lo := 0) (hi := l.filler) (cap := r.c) (by omega) hfl hrc
        rw [Nat.sub_zero, List.drop_zero] at this
        by_cases h0 : r.c = 0
        · rwa [if_pos h0] at this
        · rw [if_neg h0] at this
          have he : r.a.map (fun x => x.add 0) = r.a := by cases r.a <;> simp [Addr.add_zero']
          rwa [he] at this
      have hCt : Hid (∀ u : World, (∀ p, u.cell? p = W.cell? p) → Calls Tryd.prog 59 #[.slice r.a l.filler l.filler, .int .u8 1] u fun e w' => e = .returned (.bool (decide ((1 : Int) ∈ r.xs.take l.filler))) ∧ w' = u) := Lib.hid (fun u hu => containsB_any (hRt.keep (fun p _ => hu p)) (by omega))
      have hsl := slice_front3 (A := r.a) (n := r.n) (c := r.c) (m := l.filler) (by omega)
      have hn1 : (0 : Int) < (n : Int) := by omega
      have hc' : W.cell? ⟨b, off, none⟩ = some (.slice r.a r.n r.c) := by simpa using hc
      have hd1 : ((l.blocks : Int) == (n : Int)) = true := by simp; omega
      have hd2 : ((n : Int) == (l.blocks : Int)) = true := by simp; omega
      have hd3 : ((n : Int) != (l.blocks : Int)) = false := by simp; omega
      have hd4 : ((l.blocks : Int) != (n : Int)) = false := by simp; omega
      have hd5 : ¬ l.blocks < n := by omega
      clear hc hRd hrm hr hft hr0 hle hbn hlen
      gi_wp2
      refine wpIn_wide.2 ?_
      go_quiet ((go_at_call 59; exact Calls.quiet_of_same (hCt.out _ (fun p => by simp [go_sem]))))
      have hsq : Below w.heap.size w (W.drewN ‹Nat›) := ⟨hsw.os, hsw.tape, hsw.output, hsw.size, hsw.block⟩
      gi_wp2
      exact leaves_one hD ⟨_, results_tmp rfl _ _ _, by rw [hB.out]; rfl, hsq.grown (grownBy_putObj' _ _ _) hsq.size (fun j e => by have := hs4; cases e; omega)⟩
    · have hB : Hid (fitB l rows = false) := Lib.hid (by
        classical
        have hno : ¬ (rows.length = l.blocks ∧ FitTo l rows l.blocks) := fun h => by omega
        unfold fitB; simp only [hno, decide_false, Bool.false_and])
      have hd5 : l.blocks < n := by omega
      have hd1 : ((l.blocks : Int) == (n : Int)) = false := by simp; omega
      have hd2 : ((n : Int) == (l.blocks : Int)) = false := by simp; omega
      have hd3 : ((n : Int) != (l.blocks : Int)) = true := by simp; omega
      have hd4 : ((l.blocks : Int) != (n : Int)) = true := by simp; omega
      clear hft hbn hlen
      gi_wp2
      exact leaves_one hD ⟨_, results_tmp rfl _ _ _, by rw [hB.out]; rfl, hbD⟩
end Go.Proofs.YtkdodmjhpkfhnaaDoor
