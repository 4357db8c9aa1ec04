/-
  unwrap: the data of a block. Join's closure. slices.Contains over bytes; fits. Join.
-/
import Derived.Test.YtkdodmjhpkfhnaaDoorPd
namespace Go.Proofs.YtkdodmjhpkfhnaaDoor
/-! ### unwrap: the data of a block. -/
section
open Go.RowKit

theorem slice_cut3 {a : Addr} {n c m : Nat} (hm : m < n) (hn : n ≤ c) (u : World) : (Instr.slice 46 (.slice (some a) n c) (some (.int .i64 (m : Int))) (some (.int .i64 (n : Int))) (some (.int .i64 (n : Int)))).run Tryd.prog u = .ok (.slice (some (a.add m)) (n - m) (n - m)) u := by
  have h1 : ¬ n = m := by omega
  have h2 : m ≤ n := by omega
  simp [Instr.slice, Instr.sliceBounds, Instr.sliceBound, run_underlying Tryd.underlying46, asIntOf, go_sem, h1, h2, hn]
/-- A row that reads. -/
def ZRd (W : World) (r : BRow) : Prop := Rd .u8 W W.heap.size r.a r.n r.xs
theorem ZRd.abides : Abides ZRd := fun _ _ _ h hb hs => (h.block hb).more hs
theorem cells_of_cell {w : World} {a : Addr} {v : Value} (h : w.cell? a = some v) : ∃ o, w.heap[a.block]? = some o ∧ o.isCells = true := by
  unfold World.cell? at h
  split at h
  · rename_i e; exact ⟨_, e, rfl⟩
  · cases h
theorem Rd.front {q : IntKind} {w : World} {B n m : Nat} {a : Addr} {xs : List Int} (h : Rd q w B (some a) n xs) (hm : m < n) : Rd q w B (some (a.add m)) (n - m) (xs.drop m) := by
  have := Rd.cut h (lo := m) (hi := n) (cap := n) (by omega) (Nat.le_refl _) (Nat.le_refl _)
  rw [if_neg (by omega), List.take_of_length_le (by rw [List.length_drop, h.len]; exact Nat.le_refl _)] at this
  exact this
/-- What unwrap finds in a block. -/
def unwrapL (l : Lay) (i : Nat) (xs : List Int) : Option (List Int) :=
  if l.blocks = 1 then some (xs.drop (l.fill i)) else if crcI 2 (xs.take (xs.length - 24)) = xs.drop (xs.length - 24) then some ((xs.take (xs.length - 24)).drop (l.fill i)) else none
set_option maxRecDepth 100000 in
set_option maxHeartbeats 4000000 in
theorem unwrap_one {l : Lay} {i n c : Nat} {a : Addr} {xs : List Int} {w : World} (hK : Kinds w) (hl : l.blocks = 1) (_hI : Rd .u8 w w.heap.size (some a) n xs) (hc : n ≤ c) (hF : l.fill i < n) :
    Calls Tryd.prog 50 #[layV l, .int .i64 (i : Int), .slice (some a) n c] w fun e w' => e = .returned (.slice (some (a.add (l.fill i))) (n - l.fill i) (n - l.fill i)) ∧ Below w.heap.size w w' := by
  have hfl := Lib.hid (fun (u : World) => layFiller_any (l := l) (i := i) (w := u))
  have hcs := fun (u : World) (h : Below w.heap.size w u) => layChecksum_any (l := l) (hK.step h)
  rw [show l.cs = 0 by unfold Lay.cs; rw [if_pos hl]] at hcs
  have hcs := Lib.hid hcs
  have hL : LayAt (w.alloc (.cells (layA l) 70)) w.heap.size 70 l := LayAt.new w 70 l
  have hb0 := (Below.refl w.heap.size w).alloc (Nat.le_refl _) (.cells (layA l) 70)
  obtain ⟨F, hFe⟩ : ∃ F, l.fill i = F := ⟨_, rfl⟩
  rw [hFe] at hfl hF ⊢
  have hsl := slice_cut3 (a := a) hF hc
  clear hFe hl
  unfold layV layA at *
  obtain ⟨c0, c1, c2, c3, c4, c5, c6⟩ := hL.all
  go_enter Tryd.func50, Tryd.ntmps50
  go_wp2_with fail
  clear c0 c1 c2 c3 c4 c5 c6
  generalize (w.alloc (.cells #[.int .i64 l.bits, .int .i64 l.blocks, .int .i64 l.long, .int .i64 l.short, .int .i64 l.longs, .int .i64 l.shorts, .int .i64 l.filler] 70)) = W at *
  refine (hcs.out _ hb0).mono ?_
  rintro e w1 ⟨rfl, hb1⟩
  replace hL := LayAt.step hL hb1
  replace hb1 := hb0.trans (hb1.mono hb0.size)
  obtain ⟨c0, c1, c2, c3, c4, c5, c6⟩ := hL.all
  go_wp2_with fail
  refine (hfl.out _).mono ?_
  rintro e w2 ⟨rfl, hb2⟩
  replace hb2 := hb1.trans (hb2.mono hb1.size)
  go_wp2_with fail
  go_ret
  exact ⟨rfl, hb2⟩
theorem genN2_ne : (genN 2).2 ≠ 0 := by decide
set_option maxRecDepth 100000 in
set_option maxHeartbeats 4000000 in
theorem unwrap_more {l : Lay} {i n c : Nat} {A : Option Addr} {xs : List Int} {w : World} (hK : Kinds w) (hl : ¬ l.blocks = 1) (hI : Rd .u8 w w.heap.size A n xs) (hc : n ≤ c) (hx : Bits xs) (hn : n ≤ 6200) (hF : l.fill i + 24 < n) (hg : crcI 2 (xs.take (n - 24)) = xs.drop (n - 24)) :
    Calls Tryd.prog 50 #[layV l, .int .i64 (i : Int), .slice A n c] w fun e w' => ∃ r : BRow, e = .returned (hdr r) ∧ r.xs = (xs.take (n - 24)).drop (l.fill i) ∧ r.n = n - 24 - l.fill i ∧ Rd .u8 w' w'.heap.size r.a r.n r.xs ∧
      (∀ a, r.a = some a → w.heap.size ≤ a.block) ∧ Below w.heap.size w w' := by
  have hfl := Lib.hid (fun (u : World) => layFiller_any (l := l) (i := i) (w := u))
  have hcs := fun (u : World) (h : Below w.heap.size w u) => layChecksum_any (l := l) (hK.step h)
  rw [show l.cs = 24 by unfold Lay.cs; rw [if_neg hl]] at hcs
  have hcs := Lib.hid hcs
  have hlx := hI.len
  have hck := fun (u : World) (h : Below w.heap.size w u) => check_ok (c := c) (k := 2) (hK.step h) (hI.step h) (by omega) hc genN2_ne hx.valid hx (n - 24) (by show n = n - 24 + 24; omega)
  rw [decide_eq_true hg] at hck
  unfold chkR at hck
  have hck := Lib.hid hck
  have hL : LayAt (w.alloc (.cells (layA l) 70)) w.heap.size 70 l := LayAt.new w 70 l
  have hb0 := (Below.refl w.heap.size w).alloc (Nat.le_refl _) (.cells (layA l) 70)
  obtain ⟨F, hFe⟩ : ∃ F, l.fill i = F := ⟨_, rfl⟩
  rw [hFe] at hfl hF ⊢
  obtain ⟨q, hq⟩ : ∃ q, xs.take (n - 24) = q := ⟨_, rfl⟩
  have hql : q.length = n - 24 := by rw [← hq, List.length_take, hlx]; omega
  rw [hq] at hck ⊢
  obtain ⟨m, hm⟩ : ∃ m, n - 24 = m := ⟨_, rfl⟩
  rw [hm] at hql ⊢
  have hFm : F < m := by omega
  clear hFe hl hq hm hg
  unfold layV layA at *
  obtain ⟨c0, c1, c2, c3, c4, c5, c6⟩ := hL.all
  go_enter Tryd.func50, Tryd.ntmps50
  go_wp2_with fail
  clear c0 c1 c2 c3 c4 c5 c6
  generalize (w.alloc (.cells #[.int .i64 l.bits, .int .i64 l.blocks, .int .i64 l.long, .int .i64 l.short, .int .i64 l.longs, .int .i64 l.shorts, .int .i64 l.filler] 70)) = W at *
  refine (hcs.out _ hb0).mono ?_
  rintro e w1 ⟨rfl, hb1⟩
  replace hL := LayAt.step hL hb1
  replace hb1 := hb0.trans (hb1.mono hb0.size)
  go_wp2_with fail
  refine (hck.out _ hb1).mono ?_
  intro e w2 h2
  obtain ⟨A2, c2, rfl, ho2, hb2⟩ := h2.got hql
  replace hL := LayAt.step hL hb2
  have hR2 := Rd.of_own ho2
  have hcap := own_cap' ho2
  have hA2 : ∃ g, A2 = some ⟨g, 0, none⟩ ∧ w1.heap.size ≤ g := by
    obtain ⟨g, cap, hv, hg1, _⟩ := ho2.form (by omega)
    injection hv with hv _ _
    exact ⟨g, hv, hg1⟩
  have hw1 := hb1.size
  obtain ⟨g, rfl, hgb⟩ := hA2
  replace hb2 := hb1.trans (hb2.mono hb1.size)
  have hsl := slice_cut3 (a := ⟨g, 0, none⟩) hFm hcap
  have hR3 := hR2.front hFm
  have hadd : (⟨g, 0, none⟩ : Addr).add F = ⟨g, F, none⟩ := by by_cases h : F = 0 <;> simp [Addr.add, h]
  rw [hadd] at hR3 hsl
  clear hadd
  have HR := Lib.hid hR3
  clear h2 ho2 hR2 hR3
  obtain ⟨c0, c1, c2', c3, c4, c5, c6⟩ := hL.all
  go_wp2_with (go_at_call 31; refine require_ok.mono ?_; rintro e w4 ⟨rfl, rfl⟩)
  refine (hfl.out _).mono ?_
  rintro e w5 ⟨rfl, hb5⟩
  have HR5 := Lib.hid (HR.out.step hb5)
  replace hb5 := hb2.trans (hb5.mono hb2.size)
  go_wp2_with fail
  go_ret
  refine ⟨⟨some ⟨g, F, none⟩, m - F, m - F, q.drop F⟩, rfl, rfl, rfl, HR5.out, fun a ha => ?_, hb5⟩
  injection ha with ha
  subst ha
  show w.heap.size ≤ g
  omega
set_option maxRecDepth 100000 in
set_option maxHeartbeats 4000000 in
theorem unwrap_bad {l : Lay} {i n c : Nat} {A : Option Addr} {xs : List Int} {w : World} (hK : Kinds w) (hl : ¬ l.blocks = 1) (hI : Rd .u8 w w.heap.size A n xs) (hc : n ≤ c) (hx : Bits xs) (hn : n ≤ 6200) (hF : 24 < n) (hg : ¬ crcI 2 (xs.take (n - 24)) = xs.drop (n - 24)) :
    Calls Tryd.prog 50 #[layV l, .int .i64 (i : Int), .slice A n c] w fun e w' => e = .panicked [{ v := failV 61, recovered := false }] ∧ Below w.heap.size w w' := by
  have hcs := fun (u : World) (h : Below w.heap.size w u) => layChecksum_any (l := l) (hK.step h)
  rw [show l.cs = 24 by unfold Lay.cs; rw [if_neg hl]] at hcs
  have hcs := Lib.hid hcs
  have hck := fun (u : World) (h : Below w.heap.size w u) => check_ok (c := c) (k := 2) (hK.step h) (hI.step h) (by omega) hc genN2_ne hx.valid hx (n - 24) (by show n = n - 24 + 24; omega)
  rw [decide_eq_false hg] at hck
  unfold chkR at hck
  have hck := Lib.hid hck
  have hL : LayAt (w.alloc (.cells (layA l) 70)) w.heap.size 70 l := LayAt.new w 70 l
  have hb0 := (Below.refl w.heap.size w).alloc (Nat.le_refl _) (.cells (layA l) 70)
  clear hl hg
  unfold layV layA at *
  obtain ⟨c0, c1, c2, c3, c4, c5, c6⟩ := hL.all
  go_enter Tryd.func50, Tryd.ntmps50
  go_wp2_with fail
  clear c0 c1 c2 c3 c4 c5 c6
  generalize (w.alloc (.cells #[.int .i64 l.bits, .int .i64 l.blocks, .int .i64 l.long, .int .i64 l.short, .int .i64 l.longs, .int .i64 l.shorts, .int .i64 l.filler] 70)) = W at *
  refine (hcs.out _ hb0).mono ?_
  rintro e w1 ⟨rfl, hb1⟩
  replace hb1 := hb0.trans (hb1.mono hb0.size)
  go_wp2_with fail
  refine (hck.out _ hb1).mono ?_
  intro e w2 h2
  obtain ⟨A2, c2, rfl, ho2, hb2⟩ := h2.got (n := 0) rfl
  replace hb2 := hb1.trans (hb2.mono hb1.size)
  clear h2 ho2
  go_wp2_with (go_at_call 31; refine require_no.mono ?_; rintro e w4 ⟨rfl, rfl⟩)
  exact ⟨rfl, rfl, hb2⟩
end

/-! ### Join's closure. -/
section
open Go.RowKit

/-- What Join's closure finds. -/
structure JnS (L Kb B0 : Nat) (l : Lay) (A : Option Addr) (n c : Nat) (rows : List BRow) (W : World) : Prop where
  lay : LayAt W L 70 l
  box : Boxed W Kb 48 (.slice A n c)
  rds : Rds W B0 A n rows
theorem JnS.below {L Kb B0 N : Nat} {l : Lay} {A : Option Addr} {n c : Nat} {rows : List BRow} {W W' : World} (h : JnS L Kb B0 l A n c rows W) (hb : Below N W W') (hL : L < N) (hK : Kb < N) (hB : B0 ≤ N) : JnS L Kb B0 l A n c rows W' :=
  ⟨h.lay.below hb hL, Boxed.below h.box hb hK, h.rds.keep (fun p hp => hb.cell (by omega))⟩
/-- The blocks have the layout's sizes; bits; capacities. -/
def FitRows (l : Lay) (rows : List BRow) : Prop := ∀ i r, rows[i]? = some r → r.n = l.size i ∧ r.n ≤ r.c ∧ Bits r.xs
set_option maxRecDepth 100000 in
set_option maxHeartbeats 4000000 in
theorem join2_any {l : Lay} (hok : l.Ok) {rows : List BRow} {L Kb B0 N0 k n c : Nat} {A : Option Addr} (hfit : FitRows l rows) (_hL : L < N0) (_hKb : Kb < N0) (hB0 : B0 ≤ N0) (hk : k < l.blocks) (hkn : k < n) (_hn : n ≤ 100000) {w : World} (hK : Kinds w) (hN : N0 ≤ w.heap.size) (hS : JnS L Kb B0 l A n c rows w) :
    Calls Tryd.prog 49 #[.int .i64 (k : Int), .int .i64 (l.size k : Int), .pointer (some ⟨L, 0, none⟩), .pointer (some ⟨Kb, 0, none⟩)] w fun e w' => Below w.heap.size w w' ∧ ∃ r0, rows[k]? = some r0 ∧
      ((∃ r : BRow, e = .returned (hdr r) ∧ unwrapL l k r0.xs = some r.xs ∧ ZRd w' r ∧ (∀ a, r.a = some a → (∃ o, w'.heap[a.block]? = some o ∧ o.isCells = true) ∧ (w.heap.size ≤ a.block ∨ a.block < N0))) ∨
       (e = .panicked [{ v := failV 61, recovered := false }] ∧ unwrapL l k r0.xs = none)) := by
  obtain ⟨hlay, hbox, hrds⟩ := hS
  obtain ⟨b, off, r0, rfl, hbB, hr0, hcell, hRd⟩ := hrds.cells k hkn
  obtain ⟨hrn, hrc, hrb⟩ := hfit k r0 hr0
  have hroom := hok.room hk
  have hsz := hok.size_le k
  have hF : l.fill k + l.cs < r0.n := by omega
  have hrl := hRd.len
  have hun : ∀ u, Below w.heap.size w u → Calls Tryd.prog 50 #[layV l, .int .i64 (k : Int), hdr r0] u fun e w' => Below u.heap.size u w' ∧
      ((∃ r : BRow, e = .returned (hdr r) ∧ unwrapL l k r0.xs = some r.xs ∧ ZRd w' r ∧ (∀ a, r.a = some a → (∃ o, w'.heap[a.block]? = some o ∧ o.isCells = true) ∧ (w.heap.size ≤ a.block ∨ a.block < N0))) ∨
       (e = .panicked [{ v := failV 61, recovered := false }] ∧ unwrapL l k r0.xs = none)) := by
    intro u hu
    have hRu : Rd .u8 u u.heap.size r0.a r0.n r0.xs := (hRd.below' hu (by omega)).more (by have := hu.size; omega)
    by_cases hl1 : l.blocks = 1
    · have hcs : l.cs = 0 := by unfold Lay.cs; rw [if_pos hl1]
      obtain ⟨bb, oo, ha0, hbb, hc0⟩ := hRu.cells 0 (by omega)
      unfold hdr
      rw [ha0] at hRu ⊢
      refine (unwrap_one (hK.step hu) hl1 hRu hrc (by omega)).mono ?_
      rintro e w' ⟨rfl, hb⟩
      refine ⟨hb, .inl ⟨⟨some ((⟨bb, oo, none⟩ : Addr).add (l.fill k)), r0.n - l.fill k, r0.n - l.fill k, r0.xs.drop (l.fill k)⟩, rfl, by unfold unwrapL; rw [if_pos hl1], ?_, fun a ha => ?_⟩⟩
      · exact (hRu.step hb).front (by omega)
      · obtain ⟨b1, o1, e1, hb1, _⟩ := hRd.cells 0 (by omega)
        rw [ha0] at e1
        injection e1 with e1
        injection e1 with e1 e2
        injection ha with ha
        have hab : a.block = bb := by
          rw [← ha]
          simp only [Addr.add]
          split <;> rfl
        rw [hab]
        refine ⟨?_, .inr (by omega)⟩
        have := cells_of_cell hc0
        obtain ⟨o, ho, hco⟩ := this
        exact ⟨o, (hb.block _ hbb).trans ho, hco⟩
    · have hcs : l.cs = 24 := by unfold Lay.cs; rw [if_neg hl1]
      by_cases hg : crcI 2 (r0.xs.take (r0.n - 24)) = r0.xs.drop (r0.n - 24)
      · refine (unwrap_more (hK.step hu) hl1 hRu hrc hrb (by omega) (by omega) hg).mono ?_
        rintro e w' ⟨r, rfl, hx, hrn', hR, ha, hb⟩
        refine ⟨hb, .inl ⟨r, rfl, by unfold unwrapL; rw [if_neg hl1, hrl, if_pos hg, hx], hR, fun a haa => ⟨?_, .inl (by have := ha a haa; have := hu.size; omega)⟩⟩⟩
        obtain ⟨b1, o1, e1, hb1, hc1⟩ := hR.cells 0 (by omega)
        rw [haa] at e1
        injection e1 with e1
        subst e1
        exact cells_of_cell hc1
      · refine (unwrap_bad (hK.step hu) hl1 hRu hrc hrb (by omega) (by omega) hg).mono ?_
        rintro e w' ⟨rfl, hb⟩
        exact ⟨hb, .inr ⟨rfl, by unfold unwrapL; rw [if_neg hl1, hrl, if_neg hg]⟩⟩
  obtain ⟨p0, p1, p2, p3, p4, p5, p6⟩ := hlay.all
  have hLlt := hlay.lt
  have hKlt := hbox.lt
  have hq := hbox.cell
  have hblt : b < w.heap.size := by omega
  have hk0 : (0 : Int) ≤ (k : Int) := by omega
  have hk1 : (k : Int) < (n : Int) := by omega
  have hbd := (Below.refl w.heap.size w).drew
  have HR0 := Lib.hid hr0
  obtain ⟨un, hune⟩ : ∃ un, unwrapL l k r0.xs = un := ⟨_, rfl⟩
  rw [hune] at hun
  have HUN := Lib.hid hune
  unfold layV layA at hun
  clear hfit hrds hRd hroom hF hr0 hrl hune hrn hrc
  cases un with
  | some d =>
    have hU : ∀ u, Below w.heap.size w u → Calls Tryd.prog 50 #[.agg #[.int .i64 l.bits, .int .i64 l.blocks, .int .i64 l.long, .int .i64 l.short, .int .i64 l.longs, .int .i64 l.shorts, .int .i64 l.filler], .int .i64 (k : Int), .slice r0.a r0.n r0.c] u fun e w' => ∃ r : BRow, e = .returned (.slice r.a r.n r.c) ∧ Below u.heap.size u w' ∧
        r.xs = d ∧ ZRd w' r ∧ (∀ a, r.a = some a → (∃ o, w'.heap[a.block]? = some o ∧ o.isCells = true) ∧ (w.heap.size ≤ a.block ∨ a.block < N0)) := fun u hu => (hun u hu).mono fun e w' h => by
      obtain ⟨hb, (⟨r, he, hx, hz, ha⟩ | ⟨_, hx⟩)⟩ := h
      · injection hx with hx
        exact ⟨r, he, hb, hx.symm, hz, ha⟩
      · cases hx
    have HU := Lib.hid hU
    clear hU hun
    go_enter Tryd.func49, Tryd.ntmps49
    go_wp2_with fail
    go_still_tail 6, (by kernel_rfl)
    change wpList _ _ _ _ _ w.drew
    go_wp2_with fail
    refine (HU.out _ hbd).mono ?_
    rintro e w2 ⟨r, rfl, hb2, hx, hz, ha⟩
    have hb3 := hbd.trans (hb2.mono hbd.size)
    go_wp2_with fail
    go_ret
    exact ⟨hb3, r0, HR0.out, .inl ⟨r, rfl, by rw [HUN.out, hx], hz, ha⟩⟩
  | none =>
    have hU : ∀ u, Below w.heap.size w u → Calls Tryd.prog 50 #[.agg #[.int .i64 l.bits, .int .i64 l.blocks, .int .i64 l.long, .int .i64 l.short, .int .i64 l.longs, .int .i64 l.shorts, .int .i64 l.filler], .int .i64 (k : Int), .slice r0.a r0.n r0.c] u fun e w' => e = .panicked [{ v := failV 61, recovered := false }] ∧ Below u.heap.size u w' := fun u hu => (hun u hu).mono fun e w' h => by
      obtain ⟨hb, (⟨r, he, hx, hz, ha⟩ | ⟨he, _⟩)⟩ := h
      · cases hx
      · exact ⟨he, hb⟩
    have HU := Lib.hid hU
    clear hU hun
    go_enter Tryd.func49, Tryd.ntmps49
    go_wp2_with fail
    go_still_tail 6, (by kernel_rfl)
    change wpList _ _ _ _ _ w.drew
    go_wp2_with fail
    refine (HU.out _ hbd).mono ?_
    rintro e w2 ⟨rfl, hb2⟩
    have hb3 := hbd.trans (hb2.mono hbd.size)
    exact ⟨rfl, hb3, r0, HR0.out, .inr ⟨rfl, HUN.out⟩⟩
end

/-! ### slices.Contains over bytes; fits. -/
section
open Go.RowKit Go.Shelf BigFrame

attribute [local go_sem] Oper.semAt_some

set_option maxHeartbeats 1000000 in
theorem indexB_any {A : Option Addr} {n c B : Nat} {xs : List Int} {v : Int} {w : World} (h : Rd .u8 w B A n xs) (hn : n ≤ 1000000) :
    Calls Tryd.prog 67 #[.slice A n c, .int .u8 v] w fun e w' => (∃ k : Int, e = .returned (.int .i64 k) ∧ decide (0 ≤ k) = decide (v ∈ xs)) ∧ w' = w := by
  have hl := Lib.hid h.len
  go_enter Tryd.func67, Tryd.ntmps67
  go_wp2_with fail
  go_loop [8] (fun i => ∃ j : Nat, j ≤ n ∧ i = .int .i64 j ∧ v ∉ xs.take j) (fun i => n - (intOf i).toNat)
  case atStart => exact ⟨0, Nat.zero_le _, rfl, by simp⟩
  case round =>
    obtain ⟨j, hj, rfl, hv⟩ := hrel
    have hV := Lib.hid hv; clear hv
    by_cases hlt : j < n
    · obtain ⟨b, off, rfl, _, hc⟩ := h.cells j hlt
      have hS := Lib.hid (take_snoc xs j (by rw [hl.out]; exact hlt) 0)
      have hm : Hid (xs[j]?.getD 0 ∈ xs) := Lib.hid (by
        have hjl : j < xs.length := by rw [hl.out]; exact hlt
        rw [List.getElem?_eq_getElem hjl]
        exact List.getElem_mem hjl)
      generalize xs[j]?.getD 0 = y at *
      by_cases hy : v = y
      · subst hy
        have hd : (v == v) = true := by simp
        go_wp2_with fail
        go_ret
        exact ⟨⟨_, rfl, by simp [hm.out]⟩, rfl⟩
      · have hd : (v == y) = false := by simp [hy]
        have hy' : Hid (¬ v = y) := Lib.hid hy
        clear hy
        go_wp2_with fail
        go_round
        case rel => exact ⟨j + 1, by omega, by go_num, by rw [hS.out]; intro hm; rcases List.mem_append.1 hm with h1 | h1
                                                          · exact hV.out h1
                                                          · exact hy'.out (List.mem_singleton.1 h1)⟩
        case measure => simp [intOf]; omega
    · obtain rfl : j = n := by omega
      rw [← hl.out, List.take_length] at hV
      go_wp2_with fail
      go_ret
      exact ⟨⟨_, rfl, by simp [hV.out]⟩, rfl⟩
theorem containsB_any {A : Option Addr} {n c B : Nat} {xs : List Int} {v : Int} {w : World} (h : Rd .u8 w B A n xs) (hn : n ≤ 1000000) :
    Calls Tryd.prog 59 #[.slice A n c, .int .u8 v] w fun e w' => e = .returned (.bool (decide (v ∈ xs))) ∧ w' = w := by
  have hi := Lib.hid (indexB_any (c := c) (v := v) h hn)
  go_enter Tryd.func59, Tryd.ntmps59
  go_wp2_with fail
  refine hi.out.mono ?_
  rintro e w1 ⟨⟨k, rfl, hk⟩, rfl⟩
  have HK := Lib.hid hk
  clear hk
  go_wp2_with fail
  go_ret
  exact ⟨ret_bool HK.out, rfl⟩
/-- How many of the blocks, from the first on, have the layout's sizes. -/
def FitTo (l : Lay) (rows : List BRow) (k : Nat) : Prop := k ≤ rows.length ∧ ∀ i r, i < k → rows[i]? = some r → r.n = l.size i
/-- Where fits' loop is. -/
structure FtI (w : World) (l : Lay) (A : Option Addr) (n c : Nat) (rows : List BRow) (k : Nat) (W : World) : Prop where
  below : Below w.heap.size w W
  lay : LayAt W w.heap.size 70 l
  box : Boxed W (w.heap.size + 1) 48 (.slice A n c)
  cnt : Boxed W (w.heap.size + 1 + 1) 3 (.int .i64 (k : Int))
  it : LayAt W (w.heap.size + 3) 70 l
theorem FtI.own {w : World} {l : Lay} {A : Option Addr} {n c : Nat} {rows : List BRow} {base : Nat} (hb : w.heap.size ≤ base) : OwnFrom base (FtI w l A n c rows) := by
  intro k X Y row h hg hr
  have hc : ∀ (j : Nat) (o : Obj), X.heap[j]? = some o → o.isCells = true → Y.heap[j]? = some o := fun j o ho hco => by
    refine (hg.block j (Array.getElem?_eq_some_iff.1 ho).1 (fun e => ?_)).trans ho
    obtain ⟨o', ho', hc'⟩ := (hr j e.symm).2
    rw [ho] at ho'
    cases ho'
    rw [hco] at hc'
    cases hc'
  exact ⟨h.below.grown hg h.below.size (fun j e => by have := (hr j e).1; omega), ⟨hc _ _ h.lay.heap rfl⟩, hc _ _ h.box rfl, hc _ _ h.cnt rfl, ⟨hc _ _ h.it.heap rfl⟩⟩
open Classical in
/-- What fits finds. -/
noncomputable def fitB (l : Lay) (rows : List BRow) : Bool := decide (rows.length = l.blocks ∧ FitTo l rows l.blocks) && !(decide ((1 : Int) ∈ ((rows[0]?.map (·.xs)).getD []).take l.filler))
set_option maxRecDepth 100000 in
set_option maxHeartbeats 4000000 in
theorem fits_any {l : Lay} (hok : l.Ok) {rows : List BRow} {n c : Nat} {A : Option Addr} {w : World} (hrds : Rds w w.heap.size A n rows) (hn : n ≤ 100000) (hcap : ∀ r ∈ rows, r.n ≤ r.c ∧ r.n ≤ 1000000) :
    Calls Tryd.prog 48 #[layV l, .slice A n c] w fun e w' => e = .returned (.bool (fitB l rows)) ∧ Below w.heap.size w w' := by
  refine (callsIn_wide (n := 8)).1 ?_
  have hlen := hrds.len
  have hbl := hok.blocks1
  have hea := Lib.hid (fun (u : World) => each_any (l := l) (w := u))
  refine callsIn_of_wp_marks Tryd.func48 rfl trivial ?_ rfl
  simp only [Tryd.ntmps48, List.size_toArray, List.length_cons, List.length_nil, Nat.reduceAdd, Nat.reduceSub, Array.replicate_succ, Array.replicate_zero, List.push_toArray, List.append_toArray, List.nil_append, List.cons_append]
  unfold layV layA
  have hL : LayAt (((w.alloc (.cells #[.int .i64 l.bits, .int .i64 l.blocks, .int .i64 l.long, .int .i64 l.short, .int .i64 l.longs, .int .i64 l.shorts, .int .i64 l.filler] 70)).alloc (.cells #[.slice A n c] 48)).alloc (.cells #[.int .i64 0] 3)) w.heap.size 70 l := ((LayAt.new w _ l).alloc _).alloc _
  have bB : Boxed (((w.alloc (.cells #[.int .i64 l.bits, .int .i64 l.blocks, .int .i64 l.long, .int .i64 l.short, .int .i64 l.longs, .int .i64 l.shorts, .int .i64 l.filler] 70)).alloc (.cells #[.slice A n c] 48)).alloc (.cells #[.int .i64 0] 3)) (w.heap.size + 1) 48 (.slice A n c) := by
    have := (Boxed.new (w.alloc (.cells #[.int .i64 l.bits, .int .i64 l.blocks, .int .i64 l.long, .int .i64 l.short, .int .i64 l.longs, .int .i64 l.shorts, .int .i64 l.filler] 70)) 48 (.slice A n c)).alloc (.cells #[.int .i64 0] 3)
    simpa using this
  have bN : Boxed (((w.alloc (.cells #[.int .i64 l.bits, .int .i64 l.blocks, .int .i64 l.long, .int .i64 l.short, .int .i64 l.longs, .int .i64 l.shorts, .int .i64 l.filler] 70)).alloc (.cells #[.slice A n c] 48)).alloc (.cells #[.int .i64 0] 3)) (w.heap.size + 1 + 1) 3 (.int .i64 0) := by
    have := Boxed.new ((w.alloc (.cells #[.int .i64 l.bits, .int .i64 l.blocks, .int .i64 l.long, .int .i64 l.short, .int .i64 l.longs, .int .i64 l.shorts, .int .i64 l.filler] 70)).alloc (.cells #[.slice A n c] 48)) 3 (.int .i64 0)
    simpa using this
  have hb3 : Below w.heap.size w (((w.alloc (.cells #[.int .i64 l.bits, .int .i64 l.blocks, .int .i64 l.long, .int .i64 l.short, .int .i64 l.longs, .int .i64 l.shorts, .int .i64 l.filler] 70)).alloc (.cells #[.slice A n c] 48)).alloc (.cells #[.int .i64 0] 3)) := ((((Below.refl w.heap.size w).alloc (Nat.le_refl _) _).alloc (by simp) _).alloc (by simp; omega) _)
  have hs3 : (((w.alloc (.cells #[.int .i64 l.bits, .int .i64 l.blocks, .int .i64 l.long, .int .i64 l.short, .int .i64 l.longs, .int .i64 l.shorts, .int .i64 l.filler] 70)).alloc (.cells #[.slice A n c] 48)).alloc (.cells #[.int .i64 0] 3)).heap.size = w.heap.size + 3 := by simp
  gi_wp2
  refine wpIn_wide_scope ?_
  gi_wp2
  refine wpIn_label ?_
  generalize (((w.alloc (.cells #[.int .i64 l.bits, .int .i64 l.blocks, .int .i64 l.long, .int .i64 l.short, .int .i64 l.longs, .int .i64 l.shorts, .int .i64 l.filler] 70)).alloc (.cells #[.slice A n c] 48)).alloc (.cells #[.int .i64 0] 3)) = W3 at *
  obtain ⟨c0, c1, c2, c3, c4, c5, c6⟩ := hL.all
  gi_wp2_with fail
  refine ⟨trivial, ?_⟩
  refine (callsIn_wide.2 (hea.out _)).mono ?_
  rintro e w4 ⟨rfl, hL4, hb4⟩
  rw [hs3] at hb4 hL4 ⊢
  have hI0 : FtI w l A n c rows 0 w4 := ⟨hb3.trans (hb4.mono (by omega)), hL.below hb4 (by omega), Boxed.below bB hb4 (by omega), Boxed.below bN hb4 (by omega), hL4⟩
  have hs4 := hL4.lt
  clear c0 c1 c2 c3 c4 c5 c6 hea hL bB bN hb3 hL4 hb4
  gi_wp2_with fail
  refine wpIn_each (n := 8) (l := l) (B := w.heap.size + 3) (by decide) (by omega) rfl rfl
    (fun k W => FtI w l A n c rows k W ∧ FitTo l rows k) (fun cd W => cd = .exit 0 ∧ ∃ m, FtI w l A n c rows m W ∧ m < l.blocks ∧ ¬ (rows.length = l.blocks ∧ FitTo l rows l.blocks))
    (fun k X Y row h hg hr => ⟨FtI.own (base := w4.heap.size) (by omega) k X Y row h.1 hg hr, h.2⟩) (fun cd _ X Y row h hg hr => by
      obtain ⟨rfl, m, hm, h2⟩ := h
      exact ⟨rfl, m, FtI.own (base := w4.heap.size) (by omega) m X Y row hm hg hr, h2⟩) (fun _ _ h => h.1.it) ⟨hI0, by unfold FitTo; simp⟩
    (fun k => { tmps := #[.agg #[.int .i64 l.bits, .int .i64 l.blocks, .int .i64 l.long, .int .i64 l.short, .int .i64 l.longs, .int .i64 l.shorts, .int .i64 l.filler], .slice A n c, .pointer (some ⟨w.heap.size, 0, none⟩), .pointer (some ⟨w.heap.size + 1, 0, none⟩), .bool false, .pointer (some ⟨w.heap.size + 1 + 1, 0, none⟩), .int .i64 (k : Int), .int .i64 (l.size k : Int), .agg #[.int .i64 l.bits, .int .i64 l.blocks, .int .i64 l.long, .int .i64 l.short, .int .i64 l.longs, .int .i64 l.shorts, .int .i64 l.filler], .func (.func 55) #[] #[.pointer (some ⟨w.heap.size + 3, 0, none⟩)], .int .i64 (k : Int), .int .i64 (l.size k : Int),
      undef, undef, undef, undef, undef, undef, undef, undef, undef, undef, undef, undef, undef, undef, undef, undef, undef, undef, undef, undef, undef, undef, undef, undef, undef, undef, undef, undef, undef, undef, undef, undef, undef, undef, undef, undef, undef, undef, undef], defers := [] }) ?assign ?body ?done ?stop
  case assign =>
    intro lp k W K hK
    gi_wp2
    exact hK
  case body =>
    rintro lp k W hk ⟨hI, hft⟩ hsz
    dsimp only
    have q1 := hI.box.cell
    have q2 := hI.cnt.cell
    have q3 := hI.cnt.frozen
    have HI := Lib.hid hI
    have HFT := Lib.hid hft
    have hsw := hI.below
    clear hI hft
    by_cases hkn : k = n
    · have hd : ((k : Int) == (n : Int)) = true := by simp [hkn]
      have hno : ¬ (rows.length = l.blocks ∧ FitTo l rows l.blocks) := fun h => by omega
      have HNO := Lib.hid hno
      clear hkn hno
      gi_wp2
      exact ⟨KeepsFrom.refl _ _, rfl, k, HI.out, hk, HNO.out⟩
    · have hkn2 : k < n := by have := HFT.out.1; omega
      have hd : ((k : Int) == (n : Int)) = false := by simp; omega
      obtain ⟨b, off, r, rfl, hbB, hr, hc, _⟩ := (hrds.below hsw).cells k hkn2
      have hk0 : (0 : Int) ≤ (k : Int) := by omega
      have hk1 : (k : Int) < (n : Int) := by omega
      have HR := Lib.hid hr
      clear hkn hr
      by_cases hrs : r.n = l.size k
      · have hd2 : ((r.n : Int) != (l.size k : Int)) = false := by simp [hrs]
        have hft2 : Hid (FitTo l rows (k + 1)) := Lib.hid ⟨by omega, fun i r' hi hr' => by
          rcases Nat.lt_or_ge i k with h | h
          · exact HFT.out.2 i r' h hr'
          · obtain rfl : i = k := by omega
            rw [HR.out] at hr'
            injection hr' with hr'
            rw [← hr']; exact hrs⟩
        have hbb : Hid (Below w.heap.size w (W.setCell ⟨w.heap.size + 1 + 1, 0, none⟩ (.int .i64 ((k + 1 : Nat) : Int)))) := Lib.hid (hsw.setCell (p := ⟨w.heap.size + 1 + 1, 0, none⟩) (by simp; omega) _)
        have HS4 := Lib.hid hs4
        clear hrs hsw
        gi_wp2
        have hkc : ((k + 1 : Nat) : Int) = (k : Int) + 1 := by omega
        refine ⟨KeepsFrom.of_grownBy (grownBy_setCell' W (w.heap.size + 1 + 1) _) (fun j e => by cases e; have := HS4.out; omega), ⟨?_, ?_, ?_, ?_, ?_⟩, hft2.out⟩
        · rw [← hkc]; exact hbb.out
        · exact LayAt.other HI.out.lay (p := ⟨w.heap.size + 1 + 1, 0, none⟩) (by simp; omega) _
        · exact HI.out.box.other (by omega) _
        · have := HI.out.cnt.set (.int .i64 ((k + 1 : Nat) : Int))
          rwa [hkc] at this ⊢
        · exact LayAt.other HI.out.it (p := ⟨w.heap.size + 1 + 1, 0, none⟩) (by simp) _
      · have hd2 : ((r.n : Int) != (l.size k : Int)) = true := by simp; omega
        have HNO : Hid (¬ (rows.length = l.blocks ∧ FitTo l rows l.blocks)) := Lib.hid (fun h => hrs (h.2.2 k r hk HR.out))
        clear hrs hsw
        gi_wp2
        exact ⟨KeepsFrom.refl _ _, rfl, k, HI.out, hk, HNO.out⟩
  case stop =>
    rintro D cd W rfl ⟨rfl, m, hI, hm, hno⟩ hD
    have q1 := hI.box.cell
    have q2 := hI.cnt.cell
    obtain ⟨c0, c1, c2, c3, c4, c5, c6⟩ := hI.lay.all
    dsimp only
    have hB : Hid (fitB l rows = false) := Lib.hid (by classical unfold fitB; simp only [hno, decide_false, Bool.false_and])
    have HI := Lib.hid hI
    clear hno hI
    have hd1 : ((l.blocks : Int) == (m : Int)) = false := by simp; omega
    have hd2 : ((m : Int) == (l.blocks : Int)) = false := by simp; omega
    have hd3 : ((m : Int) != (l.blocks : Int)) = true := by simp; omega
    have hd4 : ((l.blocks : Int) != (m : Int)) = true := by simp; omega
    have hbD : Below w.heap.size w (W.putObj w4.heap.size (.deferred none)) := HI.out.below.grown (grownBy_putObj' W _ _) HI.out.below.size (fun j e => by cases e; omega)
    refine wpIn_exit ?_
    gi_wp2
    exact leaves_one hD ⟨_, results_tmp rfl _ _ _, by rw [hB.out]; rfl, hbD⟩
  case done =>
    rintro D W rfl ⟨hI, hft⟩ hD
    have q1 := hI.box.cell
    have q2 := hI.cnt.cell
    have hsw := hI.below
    have hbD : Below w.heap.size w (W.putObj w4.heap.size (.deferred none)) := hsw.grown (grownBy_putObj' W _ _) hsw.size (fun j e => by have := hs4; cases e; omega)
    obtain ⟨c0, c1, c2, c3, c4, c5, c6⟩ := hI.lay.all
    have HI := Lib.hid hI
    dsimp only
    have hle := hft.1
    have hf1 := hok.1
    clear hI
    by_cases hbn : l.blocks = n
    · have hn0 : 0 < n := by have := hok.blocks0; omega
      obtain ⟨b, off, r, rfl, hbB, hr, hc, hRd⟩ := (hrds.below hsw).cells 0 hn0
      have hrm : r ∈ rows := List.mem_of_getElem? hr
      obtain ⟨hrc, hrM⟩ := hcap r hrm
      have hr0 : r.n = l.size 0 := hft.2 0 r (by omega) hr
      have hfl : l.filler ≤ r.n := by
        have := hok.room (i := 0) (by omega)
        have : l.fill 0 = l.filler := by unfold Lay.fill; rfl
        omega
      have hB : Hid (fitB l rows = !decide ((1 : Int) ∈ r.xs.take l.filler)) := Lib.hid (by
        classical
        have h1 : rows.length = l.blocks ∧ FitTo l rows l.blocks := ⟨by omega, hft⟩
        unfold fitB
        rw [hr]
        simp [h1])
      have hRt : Rd .u8 W w.heap.size r.a l.filler (r.xs.take l.filler) := by
        have := Rd.cut hRd (lo := 0) (hi := l.filler) (cap := r.c) (by omega) hfl hrc
        rw [Nat.sub_zero, List.drop_zero] at this
        by_cases h0 : r.c = 0
        · rwa [if_pos h0] at this
        · rw [if_neg h0] at this
          have he : r.a.map (fun x => x.add 0) = r.a := by cases r.a <;> simp [Addr.add_zero']
          rwa [he] at this
      have hCt : Hid (∀ u : World, (∀ p, u.cell? p = W.cell? p) → Calls Tryd.prog 59 #[.slice r.a l.filler l.filler, .int .u8 1] u fun e w' => e = .returned (.bool (decide ((1 : Int) ∈ r.xs.take l.filler))) ∧ w' = u) := Lib.hid (fun u hu => containsB_any (hRt.keep (fun p _ => hu p)) (by omega))
      have hsl := slice_front3 (A := r.a) (n := r.n) (c := r.c) (m := l.filler) (by omega)
      have hn1 : (0 : Int) < (n : Int) := by omega
      have hc' : W.cell? ⟨b, off, none⟩ = some (.slice r.a r.n r.c) := by simpa using hc
      have hd1 : ((l.blocks : Int) == (n : Int)) = true := by simp; omega
      have hd2 : ((n : Int) == (l.blocks : Int)) = true := by simp; omega
      have hd3 : ((n : Int) != (l.blocks : Int)) = false := by simp; omega
      have hd4 : ((l.blocks : Int) != (n : Int)) = false := by simp; omega
      have hd5 : ¬ l.blocks < n := by omega
      clear hc hRd hrm hr hft hr0 hle hbn hlen
      gi_wp2
      refine wpIn_wide.2 ?_
      go_quiet ((go_at_call 59; exact Calls.quiet_of_same (hCt.out _ (fun p => by simp [go_sem]))))
      have hsq : Below w.heap.size w (W.drewN ‹Nat›) := ⟨hsw.os, hsw.tape, hsw.output, hsw.size, hsw.block⟩
      gi_wp2
      exact leaves_one hD ⟨_, results_tmp rfl _ _ _, by rw [hB.out]; rfl, hsq.grown (grownBy_putObj' _ _ _) hsq.size (fun j e => by have := hs4; cases e; omega)⟩
    · have hB : Hid (fitB l rows = false) := Lib.hid (by
        classical
        have hno : ¬ (rows.length = l.blocks ∧ FitTo l rows l.blocks) := fun h => by omega
        unfold fitB; simp only [hno, decide_false, Bool.false_and])
      have hd5 : l.blocks < n := by omega
      have hd1 : ((l.blocks : Int) == (n : Int)) = false := by simp; omega
      have hd2 : ((n : Int) == (l.blocks : Int)) = false := by simp; omega
      have hd3 : ((n : Int) != (l.blocks : Int)) = true := by simp; omega
      have hd4 : ((l.blocks : Int) != (n : Int)) = true := by simp; omega
      clear hft hbn hlen
      gi_wp2
      exact leaves_one hD ⟨_, results_tmp rfl _ _ _, by rw [hB.out]; rfl, hbD⟩
end

/-! ### Join. -/
section
open Go.RowKit Go.Shelf BigFrame

/-- The way out of Join without a panic. -/
theorem join_door {tmps : Array Value} {W : World} {B : Nat} {v res : Value} {R : Ending → World → Prop} (h2 : tmps.getD 4 undef = res) (h3 : tmps.getD 5 undef = .pointer (some ⟨B, 0, none⟩)) (hb : Boxed W B 22 v)
    (hR : R (.returned (.tuple #[res, .int .i64 0])) (W.setCell ⟨B, 0, none⟩ (.int .i64 0))) :
    Leaves Tryd.prog Tryd.f27 tmps R [{ target := .fn (.func 47) #[.pointer (some ⟨B, 0, none⟩)], args := #[] }] .returning W := by
  refine leaves_cons (f := 47) (args := #[.pointer (some ⟨B, 0, none⟩)]) (by simp) (by simp [go_sem]) ?_
  refine (join_calm ⟨B, 0, none⟩ W hb.cell hb.frozen).mono ?_
  rintro e u' w' ⟨rfl, rfl, rfl⟩
  have hc := (hb.set (.int .i64 0)).cell
  simp only [Array.getD_eq_getD_getElem?] at h2 h3
  simpa [Leaves, settle, results, Tryd.results27, go_sem, h2, h3, hc] using hR
/-- The way out of Join behind require's panic. -/
theorem join_door_no {tmps : Array Value} {W : World} {B : Nat} {v res : Value} {k : Int} {R : Ending → World → Prop} (h2 : tmps.getD 4 undef = res) (h3 : tmps.getD 5 undef = .pointer (some ⟨B, 0, none⟩)) (hb : Boxed W B 22 v)
    (hR : R (.returned (.tuple #[res, .int .i64 k])) (W.setCell ⟨B, 0, none⟩ (.int .i64 k))) :
    Leaves Tryd.prog Tryd.f27 tmps R [{ target := .fn (.func 47) #[.pointer (some ⟨B, 0, none⟩)], args := #[] }] (.panicking [{ v := failV k, recovered := false }]) W := by
  refine leaves_cons (f := 47) (args := #[.pointer (some ⟨B, 0, none⟩)]) (by simp) (by simp [go_sem]) ?_
  refine (join_caught k ⟨B, 0, none⟩ W hb.cell hb.frozen).mono ?_
  rintro e u' w' ⟨rfl, rfl, rfl⟩
  have hc := (hb.set (.int .i64 k)).cell
  simp only [Array.getD_eq_getD_getElem?] at h2 h3
  simpa [Leaves, settle, results, Tryd.results27, go_sem, h2, h3, hc] using hR
/-- What Join finds in block i. -/
def partO (l : Lay) (rows : List BRow) (i : Nat) : Option (List Int) := unwrapL l i ((rows[i]?.map (·.xs)).getD [])
/-- What Join hands back. -/
noncomputable def joinS (b : Int) (rows : List BRow) : List Int × Int :=
  if b < 1 ∨ 79560 < b then ([], 2) else if rows.all (fun r => validB r.xs) = false then ([], 3)
  else if fitB (planN b.toNat) rows = false then ([], 60)
  else if (List.range (planN b.toNat).blocks).all (fun i => (partO (planN b.toNat) rows i).isSome) = false then ([], 61)
  else (((List.range (planN b.toNat).blocks).map (fun i => (partO (planN b.toNat) rows i).getD [])).flatten, 0)
set_option maxRecDepth 100000 in
set_option maxHeartbeats 1000000 in
theorem Join_arg {A : Option Addr} {n c : Nat} {b : Int} {w : World} (h : b < 1 ∨ 79560 < b) :
    Calls Tryd.prog 27 #[.int .i64 b, .slice A n c] w (RetBytes 5 w ([], 2)) := by
  have hmf := makeFunc_run
  have hn := Lib.hid (fun (u : World) => plan_no (b := b) (w := u) h)
  have hb00 := (Below.refl w.heap.size w).alloc (Nat.le_refl _) (.cells #[.slice A n c] 48)
  have hb0 := hb00.alloc hb00.size (.cells #[.int .i64 0] 22)
  have bE := Boxed.new (w.alloc (.cells #[.slice A n c] 48)) 22 (.int .i64 0)
  rw [World.size_alloc] at bE
  have hs2 : ((w.alloc (.cells #[.slice A n c] 48)).alloc (.cells #[.int .i64 0] 22)).heap.size = w.heap.size + 2 := by simp
  clear hb00 h
  go_enter_defers Tryd.func27, Tryd.ntmps27
  go_wp2_with fail
  refine (hn.out _).mono ?_
  rintro e w1 ⟨rfl, hb1⟩
  rw [hs2] at hb1
  replace bE := Boxed.below bE hb1 (by omega)
  have hb2 := hb0.trans (hb1.mono (by omega))
  exact join_door_no rfl rfl bE (RetBytes.nil_ (hb2.setCell (p := ⟨w.heap.size + 1, 0, none⟩) (Nat.le_succ _) _))
set_option maxRecDepth 100000 in
set_option maxHeartbeats 1000000 in
theorem Join_bit {A : Option Addr} {n c b : Nat} {rows : List BRow} {w : World} (hK : Kinds w) (hI : Rds w w.heap.size A n rows) (hn : n ≤ 100000) (hx : ∀ r ∈ rows, Byte r.xs ∧ r.n ≤ 1000000) (h1 : 1 ≤ b) (h2 : b ≤ 79560) (hv : rows.all (fun r => validB r.xs) = false) :
    Calls Tryd.prog 27 #[.int .i64 (b : Int), .slice A n c] w (RetBytes 5 w ([], 3)) := by
  have hmf := makeFunc_run
  have hpl := Lib.hid (fun (u : World) (hb : Below w.heap.size w u) => plan_any (b := b) (hK.step hb) h1 h2)
  have hb00 := (Below.refl w.heap.size w).alloc (Nat.le_refl _) (.cells #[.slice A n c] 48)
  have hb0 := hb00.alloc hb00.size (.cells #[.int .i64 0] 22)
  have bB := (Boxed.new w 48 (.slice A n c)).alloc (.cells #[.int .i64 0] 22)
  have bE := Boxed.new (w.alloc (.cells #[.slice A n c] 48)) 22 (.int .i64 0)
  rw [World.size_alloc] at bE
  have hs2 : ((w.alloc (.cells #[.slice A n c] 48)).alloc (.cells #[.int .i64 0] 22)).heap.size = w.heap.size + 2 := by simp
  have HV := Lib.hid hv
  have HX := Lib.hid hx
  have HN := Lib.hid hn
  obtain ⟨l, hl⟩ : ∃ l, planN b = l := ⟨_, rfl⟩
  rw [hl] at hpl
  clear hl hb00 hv hx hn
  go_enter_defers Tryd.func27, Tryd.ntmps27
  go_wp2_with fail
  refine (hpl.out _ hb0).mono ?_
  rintro e w1 ⟨rfl, hb1⟩
  rw [hs2] at hb1
  replace bE := Boxed.below bE hb1 (by omega)
  replace bB := Boxed.below bB hb1 (by omega)
  have hb2 := hb0.trans (hb1.mono (by omega))
  clear hb0 hb1 hpl hs2
  have bE2 := bE.alloc (.cells (layA l) 70)
  have bB2 := bB.alloc (.cells (layA l) 70)
  have hb3 := hb2.alloc hb2.size (.cells (layA l) 70)
  unfold layV
  unfold layA at bE2 bB2 hb3 ⊢
  have q0 := bB2.cell
  go_wp2_with fail
  generalize (w1.alloc (.cells #[.int .i64 l.bits, .int .i64 l.blocks, .int .i64 l.long, .int .i64 l.short, .int .i64 l.longs, .int .i64 l.shorts, .int .i64 l.filler] 70)) = W2 at *
  have hrb := requireBits_any (c := c) (hI.below hb3) (by have := HN.out; omega) HX.out
  rw [HV.out] at hrb
  refine hrb.mono ?_
  rintro e w4 ⟨rfl, rfl⟩
  exact join_door_no rfl rfl bE2 (RetBytes.nil_ (hb3.setCell (p := ⟨w.heap.size + 1, 0, none⟩) (Nat.le_succ _) _))
set_option maxRecDepth 100000 in
set_option maxHeartbeats 1000000 in
theorem Join_unfit {A : Option Addr} {n c b : Nat} {rows : List BRow} {w : World} (hK : Kinds w) (hI : Rds w w.heap.size A n rows) (hn : n ≤ 100000) (hx : ∀ r ∈ rows, Byte r.xs ∧ r.n ≤ 1000000) (hcap : ∀ r ∈ rows, r.n ≤ r.c) (h1 : 1 ≤ b) (h2 : b ≤ 79560) (hv : rows.all (fun r => validB r.xs) = true) (hfit : fitB (planN b) rows = false) :
    Calls Tryd.prog 27 #[.int .i64 (b : Int), .slice A n c] w (RetBytes 5 w ([], 60)) := by
  have hmf := makeFunc_run
  have hpl := Lib.hid (fun (u : World) (hb : Below w.heap.size w u) => plan_any (b := b) (hK.step hb) h1 h2)
  have hb00 := (Below.refl w.heap.size w).alloc (Nat.le_refl _) (.cells #[.slice A n c] 48)
  have hb0 := hb00.alloc hb00.size (.cells #[.int .i64 0] 22)
  have bB := (Boxed.new w 48 (.slice A n c)).alloc (.cells #[.int .i64 0] 22)
  have bE := Boxed.new (w.alloc (.cells #[.slice A n c] 48)) 22 (.int .i64 0)
  rw [World.size_alloc] at bE
  have hs2 : ((w.alloc (.cells #[.slice A n c] 48)).alloc (.cells #[.int .i64 0] 22)).heap.size = w.heap.size + 2 := by simp
  have HV := Lib.hid hv
  have HX := Lib.hid hx
  have HN := Lib.hid hn
  have HC := Lib.hid hcap
  obtain ⟨hok, hbits⟩ := planN_ok h1 h2
  obtain ⟨l, hl⟩ : ∃ l, planN b = l := ⟨_, rfl⟩
  rw [hl] at hpl hok hfit
  have HF := Lib.hid hfit
  clear hl hb00 hv hx hn hcap hbits hfit
  go_enter_defers Tryd.func27, Tryd.ntmps27
  go_wp2_with fail
  refine (hpl.out _ hb0).mono ?_
  rintro e w1 ⟨rfl, hb1⟩
  rw [hs2] at hb1
  replace bE := Boxed.below bE hb1 (by omega)
  replace bB := Boxed.below bB hb1 (by omega)
  have hb2 := hb0.trans (hb1.mono (by omega))
  clear hb0 hb1 hpl hs2
  have hL := LayAt.new w1 70 l
  have bE2 := bE.alloc (.cells (layA l) 70)
  have bB2 := bB.alloc (.cells (layA l) 70)
  have hb3 := hb2.alloc hb2.size (.cells (layA l) 70)
  unfold layV
  unfold layA at bE2 bB2 hb3 hL ⊢
  have q0 := bB2.cell
  go_wp2_with fail
  generalize (w1.alloc (.cells #[.int .i64 l.bits, .int .i64 l.blocks, .int .i64 l.long, .int .i64 l.short, .int .i64 l.longs, .int .i64 l.shorts, .int .i64 l.filler] 70)) = W2 at *
  have hrb := requireBits_any (c := c) (hI.below hb3) (by have := HN.out; omega) HX.out
  rw [HV.out] at hrb
  refine hrb.mono ?_
  rintro e w4 ⟨rfl, rfl⟩
  obtain ⟨c0, c1, c2, c3, c4, c5, c6⟩ := hL.all
  have hft := Lib.hid (fits_any (c := c) hok ((hI.below hb3).more hb3.size) HN.out (fun r hr => ⟨HC.out r hr, (HX.out r hr).2⟩))
  rw [HF.out] at hft
  unfold layV layA at hft
  clear hrb
  go_wp2_with (go_at_call 48; refine hft.out.mono ?_; rintro e w5 ⟨rfl, hb5⟩)
  have hb6 := hb3.trans (hb5.mono hb3.size)
  have bE6 := Boxed.below bE2 hb5 bE2.lt
  clear c0 c1 c2 c3 c4 c5 c6 q0 hL hft bE bE2 bB bB2
  go_wp2_with (go_at_call 31; refine require_no.mono ?_; rintro e w7 ⟨rfl, rfl⟩)
  exact join_door_no rfl rfl bE6 (RetBytes.nil_ (hb6.setCell (p := ⟨w.heap.size + 1, 0, none⟩) (Nat.le_succ _) _))
theorem fitB_true {l : Lay} {rows : List BRow} (h : fitB l rows = true) : rows.length = l.blocks ∧ FitTo l rows l.blocks := by
  classical
  unfold fitB at h
  simp only [Bool.and_eq_true, decide_eq_true_eq] at h
  exact h.1
theorem Rds.of_fam {N0 C n : Nat} {X : Nat → Prop} {W : World} {A : Option Addr} {c : Nat} {rows : List BRow} (hF : Fam N0 X C ZRd W (.slice A n c) n rows) : Rds W W.heap.size A n rows := by
  refine ⟨hF.len, fun k hk => ?_⟩
  have hkl : k < rows.length := by rw [hF.len]; exact hk
  obtain ⟨g, cap, hv, _, hlt⟩ := hF.own.form (by omega)
  have hA : A = some ⟨g, 0, none⟩ := by injection hv
  subst hA
  refine ⟨g, 0, rows[k], rfl, hlt, List.getElem?_eq_getElem hkl, ?_, (hF.row _ (List.getElem_mem hkl)).z⟩
  have := hF.own.cells (g := g) rfl k (hdr rows[k]) (by simp [hkl])
  by_cases h0 : k = 0
  · subst h0; simpa [Addr.add, hdr] using this
  · simpa [Addr.add, h0, hdr] using this
theorem unwrapL_len {l : Lay} {i : Nat} {xs d : List Int} (h : unwrapL l i xs = some d) : d.length ≤ xs.length := by
  unfold unwrapL at h
  split at h
  · injection h with h; subst h; rw [List.length_drop]; omega
  · split at h
    · injection h with h; subst h; rw [List.length_drop, List.length_take]; omega
    · cases h
theorem flat_len : ∀ (ds : List (List Int)) (M : Nat), (∀ d ∈ ds, d.length ≤ M) → ds.flatten.length ≤ ds.length * M
  | [], _, _ => by simp
  | d :: ds, M, h => by
    have h1 := h d (by simp)
    have h2 := flat_len ds M (fun x hx => h x (by simp [hx]))
    rw [List.flatten_cons, List.length_append, List.length_cons, Nat.succ_mul]
    omega
set_option maxRecDepth 100000 in
set_option maxHeartbeats 1000000 in
theorem Join_fit {A : Option Addr} {n c b : Nat} {rows : List BRow} {w : World} (hK : Kinds w) (hI : Rds w w.heap.size A n rows) (hn : n ≤ 100000) (hx : ∀ r ∈ rows, Byte r.xs ∧ r.n ≤ 1000000) (hcap : ∀ r ∈ rows, r.n ≤ r.c) (h1 : 1 ≤ b) (h2 : b ≤ 79560) (hv : rows.all (fun r => validB r.xs) = true) (hfit : fitB (planN b) rows = true) :
    Calls Tryd.prog 27 #[.int .i64 (b : Int), .slice A n c] w (RetBytes 5 w (joinS (b : Int) rows)) := by
  have hmf := makeFunc_run
  have hpl := Lib.hid (fun (u : World) (hb : Below w.heap.size w u) => plan_any (b := b) (hK.step hb) h1 h2)
  have hb00 := (Below.refl w.heap.size w).alloc (Nat.le_refl _) (.cells #[.slice A n c] 48)
  have hb0 := hb00.alloc hb00.size (.cells #[.int .i64 0] 22)
  have bB := (Boxed.new w 48 (.slice A n c)).alloc (.cells #[.int .i64 0] 22)
  have bE := Boxed.new (w.alloc (.cells #[.slice A n c] 48)) 22 (.int .i64 0)
  rw [World.size_alloc] at bE
  have hs2 : ((w.alloc (.cells #[.slice A n c] 48)).alloc (.cells #[.int .i64 0] 22)).heap.size = w.heap.size + 2 := by simp
  have HV := Lib.hid hv
  have HX := Lib.hid hx
  have HN := Lib.hid hn
  have HC := Lib.hid hcap
  obtain ⟨hok, hbits⟩ := planN_ok h1 h2
  have HJ : Hid (joinS (b : Int) rows = if (List.range (planN b).blocks).all (fun i => (partO (planN b) rows i).isSome) = false then ([], 61) else (((List.range (planN b).blocks).map (fun i => (partO (planN b) rows i).getD [])).flatten, 0)) := Lib.hid (by
    unfold joinS
    rw [if_neg (by omega), if_neg (by rw [hv]; simp), Int.toNat_natCast, if_neg (by rw [hfit]; simp)])
  obtain ⟨l, hl⟩ : ∃ l, planN b = l := ⟨_, rfl⟩
  rw [hl] at hpl hok hfit HJ
  obtain ⟨hlr, hft0⟩ := fitB_true hfit
  have HFR : Hid (FitRows l rows) := Lib.hid (fun i r hr => by
    have hm := List.mem_of_getElem? hr
    have hi := (List.getElem?_eq_some_iff.1 hr).1
    exact ⟨hft0.2 i r (by omega) hr, hcap r hm, validB_bits (hx r hm).1 (by have := List.all_eq_true.1 hv r hm; simpa using this)⟩)
  have HLN : Hid (l.blocks = n) := Lib.hid (by rw [← hI.len]; exact hlr.symm)
  have HF := Lib.hid hfit
  clear hl hb00 hv hx hn hcap hbits hfit hlr hft0
  go_enter_defers Tryd.func27, Tryd.ntmps27
  go_wp2_with fail
  refine (hpl.out _ hb0).mono ?_
  rintro e w1 ⟨rfl, hb1⟩
  rw [hs2] at hb1
  replace bE := Boxed.below bE hb1 (by omega)
  replace bB := Boxed.below bB hb1 (by omega)
  have hb2 := hb0.trans (hb1.mono (by omega))
  clear hb0 hb1 hpl hs2
  have hL := LayAt.new w1 70 l
  have bE2 := bE.alloc (.cells (layA l) 70)
  have bB2 := bB.alloc (.cells (layA l) 70)
  have hb3 := hb2.alloc hb2.size (.cells (layA l) 70)
  unfold layV
  unfold layA at bE2 bB2 hb3 hL ⊢
  have q0 := bB2.cell
  go_wp2_with fail
  generalize (w1.alloc (.cells #[.int .i64 l.bits, .int .i64 l.blocks, .int .i64 l.long, .int .i64 l.short, .int .i64 l.longs, .int .i64 l.shorts, .int .i64 l.filler] 70)) = W2 at *
  have hrb := requireBits_any (c := c) (hI.below hb3) (by have := HN.out; omega) HX.out
  rw [HV.out] at hrb
  refine hrb.mono ?_
  rintro e w4 ⟨rfl, rfl⟩
  obtain ⟨c0, c1, c2, c3, c4, c5, c6⟩ := hL.all
  have hft := Lib.hid (fits_any (c := c) hok ((hI.below hb3).more hb3.size) HN.out (fun r hr => ⟨HC.out r hr, (HX.out r hr).2⟩))
  rw [HF.out] at hft
  unfold layV layA at hft
  clear hrb
  go_wp2_with (go_at_call 48; refine hft.out.mono ?_; rintro e w5 ⟨rfl, hb5⟩)
  have hb6 := hb3.trans (hb5.mono hb3.size)
  have bE6 := Boxed.below bE2 hb5 bE2.lt
  have bB6 := Boxed.below bB2 hb5 bB2.lt
  have hL6 := hL.below hb5 hL.lt
  have hltL := hL.lt
  have hs5 := hb5.size
  clear c0 c1 c2 c3 c4 c5 c6 q0 hL hft bE bE2 bB bB2
  obtain ⟨c0, c1, c2, c3, c4, c5, c6⟩ := hL6.all
  have hlow := hb2.size
  go_wp2_with (go_at_call 31; refine require_ok.mono ?_; rintro e w7 ⟨rfl, rfl⟩)
  clear c0 c1 c2 c3 c4 c5 c6
  have hS0 : JnS w1.heap.size w.heap.size w.heap.size l A n c rows w7 := ⟨hL6, bB6, hI.below hb6⟩
  have hbd := callsIn_wide.1 (build_any (n := 8) (by decide) (l := l) hok.blocks1 (G := 49) (caps := #[.pointer (some ⟨w1.heap.size, 0, none⟩), .pointer (some ⟨w.heap.size, 0, none⟩)])
    (enters_of Tryd.func49 (by kernel_rfl) rfl) (w := w7) (X := fun _ => False) (Z := ZRd) ZRd.abides (fun i hi => hi.elim)
    (S := fun k W => JnS w1.heap.size w.heap.size w.heap.size l A n c rows W ∧ Kinds W ∧ ∀ i, i < k → (partO l rows i).isSome = true) (Sp := fun ch => ch = [{ v := failV 61, recovered := false }] ∧ ∃ i, i < l.blocks ∧ partO l rows i = none) (part := fun i => (partO l rows i).getD [])
    (fun k W W' h hb => ⟨h.1.below hb (by omega) (by omega) (by omega), h.2.1.below hb (by have := hK.lt; omega), h.2.2⟩) ⟨hS0, hK.step hb6, fun i hi => by omega⟩
    (fun k W hk h hN => (join2_any hok HFR.out (L := w1.heap.size) (Kb := w.heap.size) (B0 := w.heap.size) (N0 := w7.heap.size) (by omega) (by omega) (by omega) hk (by rw [← HLN.out]; exact hk) HN.out h.2.1 hN h.1).mono fun e W' h2 => by
      obtain ⟨hb, r0, hr0, hh⟩ := h2
      have hp : partO l rows k = unwrapL l k r0.xs := by unfold partO; rw [hr0]; rfl
      refine ⟨Save.of_below hb, ?_⟩
      rcases hh with ⟨r, he, hu, hz, ha⟩ | ⟨he, hu⟩
      · refine .inl ⟨r, he, by rw [hp, hu]; rfl, ⟨h.1.below hb (by omega) (by omega) (by omega), h.2.1.step hb, fun i hi => ?_⟩, hz, fun a haa => ⟨(ha a haa).1, (ha a haa).2.imp id (fun x => ⟨x, fun y => y⟩)⟩⟩
        rcases Nat.lt_or_ge i k with h3 | h3
        · exact h.2.2 i h3
        · obtain rfl : i = k := by omega
          rw [hp, hu]; rfl
      · exact .inr ⟨_, he, rfl, k, hk, by rw [hp, hu]⟩))
  unfold layV layA at hbd
  refine hbd.mono ?_
  rintro e w6 ⟨hsv, (⟨A6, c6, rows6, C, rfl, hF, hmap, hSe⟩ | ⟨ch, rfl, rfl, i, hi, hno⟩)⟩
  · have hbw6 : Below w.heap.size w w6 := hb6.trans (hsv.below (B := w.heap.size) (fun i hi => hi.elim) hb6.size)
    have bE7 : Boxed w6 (w.heap.size + 1) 22 (.int .i64 0) := hsv.heap bE6 (fun x => x)
    have hj : Hid (joined rows6 = ((List.range l.blocks).map (fun i => (partO l rows i).getD [])).flatten) := Lib.hid (by
      unfold joined
      rw [List.flatMap_def, hmap])
    have hlen : (joined rows6).length ≤ 1000000 := by
      rw [hj.out]
      have := flat_len ((List.range l.blocks).map (fun i => (partO l rows i).getD [])) 6144 (fun d hd => by
        obtain ⟨i, hi, rfl⟩ := List.mem_map.1 hd
        have hi2 : i < n := by rw [← HLN.out]; exact List.mem_range.1 hi
        obtain ⟨_, _, r, _, _, hr, _, hR⟩ := hI.cells i hi2
        have hz := (HFR.out i r hr).1
        have hs := hok.size_le i
        have hrl := hR.len
        obtain ⟨d2, hd2⟩ := Option.isSome_iff_exists.1 (hSe.2.2 i (List.mem_range.1 hi))
        have hu : unwrapL l i r.xs = some d2 := by unfold partO at hd2; rw [hr] at hd2; exact hd2
        rw [hd2]
        have := unwrapL_len hu
        simp only [Option.getD_some]
        omega)
      rw [List.length_map, List.length_range] at this
      have := Nat.mul_le_mul_right 6144 hok.blocks1
      omega
    have hcat := Lib.hid (slicesConcat_any (c := c6) (Rds.of_fam hF) (Nat.le_refl _) (by have := HLN.out; have := HN.out; omega) hlen)
    have hall : (List.range l.blocks).all (fun i => (partO l rows i).isSome) = true := List.all_eq_true.2 (fun i hi => hSe.2.2 i (List.mem_range.1 hi))
    have HJ2 : Hid (joinS (b : Int) rows = (joined rows6, 0)) := Lib.hid (by rw [HJ.out, if_neg (by rw [hall]; simp), ← hj.out])
    clear hbd hF hmap hSe hlen hall
    go_wp2_with fail
    refine hcat.out.mono ?_
    rintro e w8 ⟨A8, c8, rfl, hown, hb8⟩
    have bE8 := Boxed.below bE7 hb8 bE7.lt
    have e0 := bE8.cell
    have e1 := bE8.frozen
    have hlt8 := bE7.lt
    have hb9 := hbw6.trans (hb8.mono hbw6.size)
    go_wp2_with fail
    refine join_door rfl rfl (bE8.set _) ?_
    rw [HJ2.out]
    have hsS : Save (fun i => i = w.heap.size + 1) w8 ((w8.setCell ⟨w.heap.size + 1, 0, none⟩ (.int .i64 0)).setCell ⟨w.heap.size + 1, 0, none⟩ (.int .i64 0)) := ((Save.refl (fun i => i = w.heap.size + 1) w8).setCell (p := ⟨w.heap.size + 1, 0, none⟩) (fun _ => rfl) _).setCell (p := ⟨w.heap.size + 1, 0, none⟩) (fun _ => rfl) _
    refine ⟨A8, c8, rfl, (ownsRow_save hown hsS (fun g hg e => ?_)).mono hbw6.size, (hb9.setCell (p := ⟨w.heap.size + 1, 0, none⟩) (Nat.le_succ _) _).setCell (p := ⟨w.heap.size + 1, 0, none⟩) (Nat.le_succ _) _⟩
    rcases hown.2 with ⟨hv, _⟩ | ⟨g', _, _, hv, hg', _⟩
    · rw [hv] at hg; cases hg
    · rw [hv] at hg
      injection hg with hg
      simp only at hg
      omega
  · have bE7 : Boxed w6 (w.heap.size + 1) 22 (.int .i64 0) := hsv.heap bE6 (fun x => x)
    have hbw6 : Below w.heap.size w w6 := hb6.trans (hsv.below (B := w.heap.size) (fun i hi => hi.elim) hb6.size)
    have hall : (List.range l.blocks).all (fun i => (partO l rows i).isSome) = false := by
      rw [List.all_eq_false]
      exact ⟨i, List.mem_range.2 hi, by rw [hno]; simp⟩
    rw [HJ.out, if_pos hall]
    exact join_door_no rfl rfl bE7 (RetBytes.nil_ (hbw6.setCell (p := ⟨w.heap.size + 1, 0, none⟩) (Nat.le_succ _) _))
theorem Join_any {A : Option Addr} {n c : Nat} {b : Int} {rows : List BRow} {w : World} (hK : Kinds w) (hI : Rds w w.heap.size A n rows) (hn : n ≤ 100000) (hx : ∀ r ∈ rows, Byte r.xs ∧ r.n ≤ 1000000) (hcap : ∀ r ∈ rows, r.n ≤ r.c) :
    Calls Tryd.prog 27 #[.int .i64 b, .slice A n c] w (RetBytes 5 w (joinS b rows)) := by
  by_cases h : b < 1 ∨ 79560 < b
  · unfold joinS; rw [if_pos h]; exact Join_arg h
  · obtain ⟨m, rfl⟩ : ∃ m : Nat, b = m := ⟨b.toNat, by omega⟩
    by_cases hv : rows.all (fun r => validB r.xs) = true
    · by_cases hf : fitB (planN m) rows = true
      · exact Join_fit hK hI hn hx hcap (by omega) (by omega) hv hf
      · have hf' : fitB (planN m) rows = false := by simpa using hf
        unfold joinS; rw [if_neg h, if_neg (by rw [hv]; simp), Int.toNat_natCast, if_pos hf']
        exact Join_unfit hK hI hn hx hcap (by omega) (by omega) hv hf'
    · have hv' : rows.all (fun r => validB r.xs) = false := by simpa using hv
      unfold joinS; rw [if_neg h, if_pos hv']
      exact Join_bit hK hI hn hx (by omega) (by omega) hv'
end
end Go.Proofs.YtkdodmjhpkfhnaaDoor
