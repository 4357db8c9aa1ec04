/-
  Join's closure.
-/
import Derived.Test.YtkdodmjhpkfhnaaDoorPe
namespace Go.Proofs.YtkdodmjhpkfhnaaDoor
open Go.RowKit

/-- What Join's closure finds. -/
structure JnS (L Kb B0 : Nat) (l : Lay) (A : Option Addr) (n c : Nat) (rows : List BRow) (W : World) : Prop where
  lay : LayAt W L 70 l
  box : Boxed W Kb 48 (.slice A n c)
  rds : Rds W B0 A n rows
theorem JnS.below {L Kb B0 N : Nat} {l : Lay} {A : Option Addr} {n c : Nat} {rows : List BRow} {W W' : World} (h : JnS L Kb B0 l A n c rows W) (hb : Below N W W') (hL : L < N) (hK : Kb < N) (hB : B0 ≤ N) : JnS L Kb B0 l A n c rows W' :=
  ⟨h.lay.below hb hL, Boxed.below h.box hb hK, h.rds.keep (fun p hp => hb.cell (by omega))⟩
/-- The blocks have the layout's sizes; bits; capacities. -/
def FitRows (l : Lay) (rows : List BRow) : Prop := ∀ i r, rows[i]? = some r → r.n = l.size i ∧ r.n ≤ r.c ∧ Bits r.xs
set_option maxRecDepth 100000 in
set_option maxHeartbeats 4000000 in
theorem join2_any {l : Lay} (hok : l.Ok) {rows : List BRow} {L Kb B0 N0 k n c : Nat} {A : Option Addr} (hfit : FitRows l rows) (_hL : L < N0) (_hKb : Kb < N0) (hB0 : B0 ≤ N0) (hk : k < l.blocks) (hkn : k < n) (_hn : n ≤ 100000) {w : World} (hK : Kinds w) (hN : N0 ≤ w.heap.size) (hS : JnS L Kb B0 l A n c rows w) :
    Calls Tryd.prog 49 #[.int .i64 (k : Int), .int .i64 (l.size k : Int), .pointer (some ⟨L, 0, none⟩), .pointer (some ⟨Kb, 0, none⟩)] w fun e w' => Below w.heap.size w w' ∧ ∃ r0, rows[k]? = some r0 ∧
      ((∃ r : BRow, e = .returned (hdr r) ∧ unwrapL l k r0.xs = some r.xs ∧ ZRd w' r ∧ (∀ a, r.a = some a → (∃ o, w'.heap[a.block]? = some o ∧ o.isCells = true) ∧ (w.heap.size ≤ a.block ∨ a.block < N0))) ∨
       (e = .panicked [{ v := failV 61, recovered := false }] ∧ unwrapL l k r0.xs = none)) := by
  obtain ⟨hlay, hbox, hrds⟩ := hS
  obtain ⟨b, off, r0, rfl, hbB, hr0, hcell, hRd⟩ := hrds.cells k hkn
  obtain ⟨hrn, hrc, hrb⟩ := hfit k r0 hr0
  have hroom := hok.room hk
  have hsz := hok.size_le k
  have hF : l.fill k + l.cs < r0.n := by omega
  have hrl := hRd.len
  have hun : ∀ u, Below w.heap.size w u → Calls Tryd.prog 50 #[layV l, .int .i64 (k : Int), hdr r0] u fun e w' => Below u.heap.size u w' ∧
      ((∃ r : BRow, e = .returned (hdr r) ∧ unwrapL l k r0.xs = some r.xs ∧ ZRd w' r ∧ (∀ a, r.a = some a → (∃ o, w'.heap[a.block]? = some o ∧ o.isCells = true) ∧ (w.heap.size ≤ a.block ∨ a.block < N0))) ∨
       (e = .panicked [{ v := failV 61, recovered := false }] ∧ unwrapL l k r0.xs = none)) := by
    intro u hu
    have hRu : Rd .u8 u u.heap.size r0.a r0.n r0.xs := (hRd.below' hu (by omega)).more (by have := hu.size; omega)
    by_cases hl1 : l.blocks = 1
    · have hcs : l.cs = 0 := by unfold Lay.cs; rw [if_pos hl1]
      obtain ⟨bb, oo, ha0, hbb, hc0⟩ := hRu.cells 0 (by omega)
      unfold hdr
      rw [ha0] at hRu ⊢
      refine (unwrap_one (hK.step hu) hl1 hRu hrc (by omega)).mono ?_
      rintro e w' ⟨rfl, hb⟩
      refine ⟨hb, .inl ⟨⟨some ((⟨bb, oo, none⟩ : Addr).add (l.fill k)), r0.n - l.fill k, r0.n - l.fill k, r0.xs.drop (l.fill k)⟩, rfl, by unfold unwrapL; rw [if_pos hl1], ?_, fun a ha => ?_⟩⟩
      · exact (hRu.step hb).front (by omega)
      · obtain ⟨b1, o1, e1, hb1, _⟩ := hRd.cells 0 (by omega)
        rw [ha0] at e1
        injection e1 with e1
        injection e1 with e1 e2
        injection ha with ha
        have hab : a.block = bb := by
          rw [← ha]
          simp only [Addr.add]
          split <;> rfl
        rw [hab]
        refine ⟨?_, .inr (by omega)⟩
        have := cells_of_cell hc0
        obtain ⟨o, ho, hco⟩ := this
        exact ⟨o, (hb.block _ hbb).trans ho, hco⟩
    · have hcs : l.cs = 24 := by unfold Lay.cs; rw [if_neg hl1]
      by_cases hg : crcI 2 (r0.xs.take (r0.n - 24)) = r0.xs.drop (r0.n - 24)
      · refine (unwrap_more (hK.step hu) hl1 hRu hrc hrb (by omega) (by omega) hg).mono ?_
        rintro e w' ⟨r, rfl, hx, hrn', hR, ha, hb⟩
        refine ⟨hb, .inl ⟨r, rfl, by unfold unwrapL; rw [if_neg hl1, hrl, if_pos hg, hx], hR, fun a haa => ⟨?_, .inl (by have := ha a haa; have := hu.size; omega)⟩⟩⟩
        obtain ⟨b1, o1, e1, hb1, hc1⟩ := hR.cells 0 (by omega)
        rw [haa] at e1
        injection e1 with e1
        subst e1
        exact cells_of_cell hc1
      · refine (unwrap_bad (hK.step hu) hl1 hRu hrc hrb (by omega) (by omega) hg).mono ?_
        rintro e w' ⟨rfl, hb⟩
        exact ⟨hb, .inr ⟨rfl, by unfold unwrapL; rw [if_neg hl1, hrl, if_neg hg]⟩⟩
  obtain ⟨p0, p1, p2, p3, p4, p5, p6⟩ := hlay.all
  have hLlt := hlay.lt
  have hKlt := hbox.lt
  have hq := hbox.cell
  have hblt : b < w.heap.size := by omega
  have hk0 : (0 : Int) ≤ (k : Int) := by omega
  have hk1 : (k : Int) < (n : Int) := by omega
  have hbd := (Below.refl w.heap.size w).drew
  have HR0 := Lib.hid hr0
  obtain ⟨un, hune⟩ : ∃ un, unwrapL l k r0.xs = un := ⟨_, rfl⟩
  rw [hune] at hun
  have HUN := Lib.hid hune
  unfold layV layA at hun
  clear hfit hrds hRd hroom hF hr0 hrl hune hrn hrc
  cases un with
  | some d =>
    have hU : ∀ u, Below w.heap.size w u → Calls Tryd.prog 50 #[.agg #[.int .i64 l.bits, .int .i64 l.blocks, .int .i64 l.long, .int .i64 l.short, .int .i64 l.longs, .int .i64 l.shorts, .int .i64 l.filler], .int .i64 (k : Int), .slice r0.a r0.n r0.c] u fun e w' => ∃ r : BRow, e = .returned (.slice r.a r.n r.c) ∧ Below u.heap.size u w' ∧
        r.xs = d ∧ ZRd w' r ∧ (∀ a, r.a = some a → (∃ o, w'.heap[a.block]? = some o ∧ o.isCells = true) ∧ (w.heap.size ≤ a.block ∨ a.block < N0)) := fun u hu => (hun u hu).mono fun e w' h => by
      obtain ⟨hb, (⟨r, he, hx, hz, ha⟩ | ⟨_, hx⟩)⟩ := h
      · injection hx with hx
        exact ⟨r, he, hb, hx.symm, hz, ha⟩
      · cases hx
    have HU := Lib.hid hU
    clear hU hun
    go_enter Tryd.func49, Tryd.ntmps49
    go_wp2_with fail
    go_still_tail 6, (by kernel_rfl)
    change wpList _ _ _ _ _ w.drew
    go_wp2_with fail
    refine (HU.out _ hbd).mono ?_
    rintro e w2 ⟨r, rfl, hb2, hx, hz, ha⟩
    have hb3 := hbd.trans (hb2.mono hbd.size)
    go_wp2_with fail
    go_ret
    exact ⟨hb3, r0, HR0.out, .inl ⟨r, rfl, by rw [HUN.out, hx], hz, ha⟩⟩
  | none =>
    have hU : ∀ u, Below w.heap.size w u → Calls Tryd.prog 50 #[.agg #[.int .i64 l.bits, .int .i64 l.blocks, .int .i64 l.long, .int .i64 l.short, .int .i64 l.longs, .int .i64 l.shorts, .int .i64 l.filler], .int .i64 (k : Int), .slice r0.a r0.n r0.c] u fun e w' => e = .panicked [{ v := failV 61, recovered := false }] ∧ Below u.heap.size u w' := fun u hu => (hun u hu).mono fun e w' h => by
      obtain ⟨hb, (⟨r, he, hx, hz, ha⟩ | ⟨he, _⟩)⟩ := h
      · cases hx
      · exact ⟨he, hb⟩
    have HU := Lib.hid hU
    clear hU hun
    go_enter Tryd.func49, Tryd.ntmps49
    go_wp2_with fail
    go_still_tail 6, (by kernel_rfl)
    change wpList _ _ _ _ _ w.drew
    go_wp2_with fail
    refine (HU.out _ hbd).mono ?_
    rintro e w2 ⟨rfl, hb2⟩
    have hb3 := hbd.trans (hb2.mono hbd.size)
    exact ⟨rfl, hb3, r0, HR0.out, .inr ⟨rfl, HUN.out⟩⟩
end Go.Proofs.YtkdodmjhpkfhnaaDoor
