/-
  Split.
-/
import Derived.Test.YtkdodmjhpkfhnaaDoorPc
namespace Go.Proofs.YtkdodmjhpkfhnaaDoor
open Go.RowKit Go.Shelf BigFrame

/-- The way out of Split without a panic. -/
theorem split_door {tmps : Array Value} {W : World} {B : Nat} {v res : Value} {R : Ending → World → Prop} (h2 : tmps.getD 2 undef = res) (h3 : tmps.getD 3 undef = .pointer (some ⟨B, 0, none⟩)) (hb : Boxed W B 22 v)
    (hR : R (.returned (.tuple #[res, .int .i64 0])) (W.setCell ⟨B, 0, none⟩ (.int .i64 0))) :
    Leaves Tryd.prog Tryd.f24 tmps R [{ target := .fn (.func 38) #[.pointer (some ⟨B, 0, none⟩)], args := #[] }] .returning W := by
  refine leaves_cons (f := 38) (args := #[.pointer (some ⟨B, 0, none⟩)]) (by simp) (by simp [go_sem]) ?_
  refine (split_calm ⟨B, 0, none⟩ W hb.cell hb.frozen).mono ?_
  rintro e u' w' ⟨rfl, rfl, rfl⟩
  have hc := (hb.set (.int .i64 0)).cell
  simp only [Array.getD_eq_getD_getElem?] at h2 h3
  simpa [Leaves, settle, results, Tryd.results24, go_sem, h2, h3, hc] using hR
/-- The way out of Split behind require's panic. -/
theorem split_door_no {tmps : Array Value} {W : World} {B : Nat} {v res : Value} {k : Int} {R : Ending → World → Prop} (h2 : tmps.getD 2 undef = res) (h3 : tmps.getD 3 undef = .pointer (some ⟨B, 0, none⟩)) (hb : Boxed W B 22 v)
    (hR : R (.returned (.tuple #[res, .int .i64 k])) (W.setCell ⟨B, 0, none⟩ (.int .i64 k))) :
    Leaves Tryd.prog Tryd.f24 tmps R [{ target := .fn (.func 38) #[.pointer (some ⟨B, 0, none⟩)], args := #[] }] (.panicking [{ v := failV k, recovered := false }]) W := by
  refine leaves_cons (f := 38) (args := #[.pointer (some ⟨B, 0, none⟩)]) (by simp) (by simp [go_sem]) ?_
  refine (split_caught k ⟨B, 0, none⟩ W hb.cell hb.frozen).mono ?_
  rintro e u' w' ⟨rfl, rfl, rfl⟩
  have hc := (hb.set (.int .i64 k)).cell
  simp only [Array.getD_eq_getD_getElem?] at h2 h3
  simpa [Leaves, settle, results, Tryd.results24, go_sem, h2, h3, hc] using hR
/-- A slice of byte slices of the call's own, each in a block of its own. -/
structure OwnRows (w w' : World) (V : Value) (n : Nat) (rows : List BRow) : Prop where
  below : Below w.heap.size w w'
  len : rows.length = n
  own : w'.ownsRow w.heap.size 46 1 V n (rows.map hdr)
  row : ∀ r ∈ rows, ZOwn w.heap.size w' r
  apart : ∀ (i j : Nat) (ri rj : BRow) (a b : Addr), rows[i]? = some ri → rows[j]? = some rj → i < j → ri.a = some a → rj.a = some b → a.block ≠ b.block
  outer : ∀ r ∈ rows, ∀ a, r.a = some a → V.ownBlock ≠ some a.block
/-- What Split hands back. -/
def RetRows (w : World) (r : List (List Int) × Int) (e : Ending) (w' : World) : Prop :=
  ∃ A c rows, e = .returned (.tuple #[.slice A r.1.length c, .int .i64 r.2]) ∧ OwnRows w w' (.slice A r.1.length c) r.1.length rows ∧ rows.map (·.xs) = r.1
def splitS (xs : List Int) : List (List Int) × Int := if xs.length < 1 ∨ 79560 < xs.length then ([], 2) else if validB xs = false then ([], 3) else (splitL xs, 0)
theorem OwnRows.nil {w w' : World} (hb : Below w.heap.size w w') : OwnRows w w' (.slice none 0 0) 0 [] :=
  ⟨hb, rfl, by simpa using World.ownsRow_nil w' w.heap.size 46 1, by simp, by simp, by simp⟩
theorem OwnRows.of_fam {w w6 w7 : World} {N0 C n : Nat} {X : Nat → Prop} {V : Value} {rows : List BRow} (hF : Fam N0 X C (ZOwn N0) w6 V n rows) (h : ∀ j, N0 ≤ j → w7.heap[j]? = w6.heap[j]?) (hB : Below w.heap.size w w7) (hN : w.heap.size ≤ N0) : OwnRows w w7 V n rows := by
  have hlow : ∀ r ∈ rows, ∀ a, r.a = some a → N0 ≤ a.block := fun r hr a ha => by
    rcases (hF.row r hr).z.2 with ⟨hv, _⟩ | ⟨g, cap, cur, hv, hg, _⟩
    · unfold hdr at hv
      injection hv with hv _ _
      rw [hv] at ha
      cases ha
    · unfold hdr at hv
      injection hv with hv _ _
      rw [hv] at ha
      injection ha with ha
      subst ha
      exact hg
  refine ⟨hB, hF.len, ?_, fun r hr => ?_, fun i j ri rj a b hi hj hij ha hb e => ?_, hF.outer⟩
  · refine World.ownsRow.mono (base := N0) ?_ hN
    refine ⟨hF.own.1, ?_⟩
    rcases hF.own.2 with h2 | ⟨g, cap, cur, hv, hg, hh, rest⟩
    · exact .inl h2
    · exact .inr ⟨g, cap, cur, hv, hg, (h g hg).trans hh, rest⟩
  · refine World.ownsRow.mono (base := N0) ?_ hN
    have hz := (hF.row r hr).z
    refine ⟨hz.1, ?_⟩
    rcases hz.2 with h2 | ⟨g, cap, cur, hv, hg, hh, rest⟩
    · exact .inl h2
    · exact .inr ⟨g, cap, cur, hv, hg, (h g hg).trans hh, rest⟩
  · have h1 := hlow rj (List.mem_of_getElem? hj) b hb
    rcases hF.asc i j ri rj a b hi hj hij ha hb with h2 | h2 <;> omega
set_option maxRecDepth 100000 in
set_option maxHeartbeats 1000000 in
theorem Split_arg {A : Option Addr} {n c : Nat} {w : World} (h : n < 1 ∨ 79560 < n) :
    Calls Tryd.prog 24 #[.slice A n c] w (RetRows w ([], 2)) := by
  have hmf := makeFunc_run
  have hn := Lib.hid (fun (u : World) => plan_no (b := (n : Int)) (w := u) (by omega))
  have hb0 := (Below.refl w.heap.size w).alloc (Nat.le_refl _) (.cells #[.int .i64 0] 22)
  have bE := Boxed.new w 22 (.int .i64 0)
  go_enter_defers Tryd.func24, Tryd.ntmps24
  go_wp2_with fail
  refine (hn.out _).mono ?_
  rintro e w1 ⟨rfl, hb1⟩
  rw [World.size_alloc] at hb1
  replace bE := Boxed.below bE hb1 (Nat.lt_succ_self _)
  have hb2 := hb0.trans (hb1.mono (Nat.le_succ _))
  exact split_door_no rfl rfl bE ⟨none, 0, [], rfl, OwnRows.nil (hb2.setCell (p := ⟨w.heap.size, 0, none⟩) (Nat.le_refl _) _), rfl⟩
theorem rds_one {w : World} {A : Option Addr} {n c : Nat} {t : TypeId} {xs : List Int} (hI : Rd .u8 w w.heap.size A n xs) : Rds (w.alloc (.cells #[.slice A n c] t)) (w.heap.size + 1) (some ⟨w.heap.size, 0, none⟩) 1 [⟨A, n, c, xs⟩] :=
  ⟨rfl, fun k hk => by
    obtain rfl : k = 0 := by omega
    exact ⟨w.heap.size, 0, _, rfl, Nat.lt_succ_self _, rfl, (Boxed.new w t (.slice A n c)).cell, (hI.alloc (Nat.le_refl _) _).more (Nat.le_succ _)⟩⟩
set_option maxRecDepth 100000 in
set_option maxHeartbeats 1000000 in
theorem Split_bit {A : Option Addr} {n c : Nat} {xs : List Int} {w : World} (hK : Kinds w) (hI : Rd .u8 w w.heap.size A n xs) (hx : Byte xs) (h1 : 1 ≤ n) (h2 : n ≤ 79560) (hv : validB xs = false) :
    Calls Tryd.prog 24 #[.slice A n c] w (RetRows w ([], 3)) := by
  have hmf := makeFunc_run
  have hpl := Lib.hid (fun (u : World) (hb : Below w.heap.size w u) => plan_any (b := n) (hK.step hb) h1 h2)
  have hb0 := (Below.refl w.heap.size w).alloc (Nat.le_refl _) (.cells #[.int .i64 0] 22)
  have bE := Boxed.new w 22 (.int .i64 0)
  obtain ⟨hok, hbits⟩ := planN_ok h1 h2
  have HLX := Lib.hid hI.len
  have HBT := Lib.hid hbits
  have HV := Lib.hid hv
  have hsp := Lib.hid (show splitL xs = (List.range (planN n).blocks).map ((planN n).block xs) by unfold splitL; rw [HLX.out])
  obtain ⟨l, hl⟩ : ∃ l, planN n = l := ⟨_, rfl⟩
  rw [hl] at hpl hok HBT hsp
  clear hl hbits hv
  go_enter_defers Tryd.func24, Tryd.ntmps24
  go_wp2_with fail
  refine (hpl.out _ hb0).mono ?_
  rintro e w1 ⟨rfl, hb1⟩
  rw [World.size_alloc] at hb1
  replace bE := Boxed.below bE hb1 (Nat.lt_succ_self _)
  have hb2 := hb0.trans (hb1.mono (Nat.le_succ _))
  clear hb0 hb1 hpl
  have hL := LayAt.new w1 70 l
  have bE2 := bE.alloc (.cells (layA l) 70)
  have hb3 := hb2.alloc hb2.size (.cells (layA l) 70)
  have hs3 : (w1.alloc (.cells (layA l) 70)).heap.size = w1.heap.size + 1 := World.size_alloc _ _
  unfold layV
  unfold layA at hL bE2 hb3 hs3 ⊢
  go_wp2_with fail
  have hL2 := hL.alloc (.cells #[.slice A n c] 46)
  have bE3 := bE2.alloc (.cells #[.slice A n c] 46)
  have hb4 := hb3.alloc hb3.size (.cells #[.slice A n c] 46)
  have hI3 := hI.step hb3
  have hrow : Rds ((w1.alloc (.cells #[.int .i64 l.bits, .int .i64 l.blocks, .int .i64 l.long, .int .i64 l.short, .int .i64 l.longs, .int .i64 l.shorts, .int .i64 l.filler] 70)).alloc (.cells #[.slice A n c] 46)) (w1.heap.size + 2) (some ⟨w1.heap.size + 1, 0, none⟩) 1 [⟨A, n, c, xs⟩] := by
    have := rds_one (A := A) (n := n) (c := c) (t := 46) hI3
    rwa [hs3] at this
  generalize ((w1.alloc (.cells #[.int .i64 l.bits, .int .i64 l.blocks, .int .i64 l.long, .int .i64 l.short, .int .i64 l.longs, .int .i64 l.shorts, .int .i64 l.filler] 70)).alloc (.cells #[.slice A n c] 46)) = W2 at *
  have hrb := requireBits_any (c := 1) hrow (by decide) (by simp only [List.mem_singleton, forall_eq]; exact ⟨hx, by omega⟩)
  simp only [List.all_cons, List.all_nil, Bool.and_true] at hrb
  rw [HV.out] at hrb
  refine hrb.mono ?_
  rintro e w4 ⟨rfl, rfl⟩
  exact split_door_no rfl rfl bE3 ⟨none, 0, [], rfl, OwnRows.nil (hb4.setCell (p := ⟨w.heap.size, 0, none⟩) (Nat.le_refl _) _), rfl⟩
set_option maxRecDepth 100000 in
set_option maxHeartbeats 1000000 in
theorem Split_ok {A : Option Addr} {n c : Nat} {xs : List Int} {w : World} (hK : Kinds w) (hI : Rd .u8 w w.heap.size A n xs) (hc : n ≤ c) (hx : Byte xs) (h1 : 1 ≤ n) (h2 : n ≤ 79560) (hv : validB xs = true) :
    Calls Tryd.prog 24 #[.slice A n c] w (RetRows w (splitL xs, 0)) := by
  have hmf := makeFunc_run
  have hpl := Lib.hid (fun (u : World) (hb : Below w.heap.size w u) => plan_any (b := n) (hK.step hb) h1 h2)
  have hb0 := (Below.refl w.heap.size w).alloc (Nat.le_refl _) (.cells #[.int .i64 0] 22)
  have bE := Boxed.new w 22 (.int .i64 0)
  obtain ⟨hok, hbits⟩ := planN_ok h1 h2
  have HLX := Lib.hid hI.len
  have HBT := Lib.hid hbits
  have HV := Lib.hid hv
  have hsp := Lib.hid (show splitL xs = (List.range (planN n).blocks).map ((planN n).block xs) by unfold splitL; rw [HLX.out])
  obtain ⟨l, hl⟩ : ∃ l, planN n = l := ⟨_, rfl⟩
  rw [hl] at hpl hok HBT hsp
  clear hl hbits hv
  go_enter_defers Tryd.func24, Tryd.ntmps24
  go_wp2_with fail
  refine (hpl.out _ hb0).mono ?_
  rintro e w1 ⟨rfl, hb1⟩
  rw [World.size_alloc] at hb1
  replace bE := Boxed.below bE hb1 (Nat.lt_succ_self _)
  have hb2 := hb0.trans (hb1.mono (Nat.le_succ _))
  clear hb0 hb1 hpl
  have hL := LayAt.new w1 70 l
  have bE2 := bE.alloc (.cells (layA l) 70)
  have hb3 := hb2.alloc hb2.size (.cells (layA l) 70)
  have hs3 : (w1.alloc (.cells (layA l) 70)).heap.size = w1.heap.size + 1 := World.size_alloc _ _
  unfold layV
  unfold layA at hL bE2 hb3 hs3 ⊢
  go_wp2_with fail
  have hL2 := hL.alloc (.cells #[.slice A n c] 46)
  have bE3 := bE2.alloc (.cells #[.slice A n c] 46)
  have hb4 := hb3.alloc hb3.size (.cells #[.slice A n c] 46)
  have hI3 := hI.step hb3
  have hrow : Rds ((w1.alloc (.cells #[.int .i64 l.bits, .int .i64 l.blocks, .int .i64 l.long, .int .i64 l.short, .int .i64 l.longs, .int .i64 l.shorts, .int .i64 l.filler] 70)).alloc (.cells #[.slice A n c] 46)) (w1.heap.size + 2) (some ⟨w1.heap.size + 1, 0, none⟩) 1 [⟨A, n, c, xs⟩] := by
    have := rds_one (A := A) (n := n) (c := c) (t := 46) hI3
    rwa [hs3] at this
  generalize ((w1.alloc (.cells #[.int .i64 l.bits, .int .i64 l.blocks, .int .i64 l.long, .int .i64 l.short, .int .i64 l.longs, .int .i64 l.shorts, .int .i64 l.filler] 70)).alloc (.cells #[.slice A n c] 46)) = W2 at *
  have hrb := requireBits_any (c := 1) hrow (by decide) (by simp only [List.mem_singleton, forall_eq]; exact ⟨hx, by omega⟩)
  simp only [List.all_cons, List.all_nil, Bool.and_true] at hrb
  rw [HV.out] at hrb
  refine hrb.mono ?_
  rintro e w4 ⟨rfl, rfl⟩
  have hbw5 := hb4.alloc hb4.size (.cells #[.slice A n c] 46)
  have bR := Boxed.new w4 46 (.slice A n c)
  have hL5 := hL2.alloc (.cells #[.slice A n c] 46)
  have bE5 := bE3.alloc (.cells #[.slice A n c] 46)
  have hs4 := hL2.lt
  have hsE := bE3.lt
  obtain ⟨c0, c1, c2, c3, c4, c5, c6⟩ := hL5.all
  have hK0 := hK.lt
  have hlow := hb2.size
  clear hrb hrow hI3 hs3 hb3 hb2 hL bE bE2
  go_wp2_with fail
  have hW5 : (w4.alloc (.cells #[.slice A n c] 46)).heap.size = w4.heap.size + 1 := World.size_alloc _ _
  clear c0 c1 c2 c3 c4 c5 c6
  generalize (w4.alloc (.cells #[.slice A n c] 46)) = W5 at *
  have hbv : Bits xs := validB_bits hx HV.out
  have hS0 : SpS w1.heap.size w4.heap.size w.heap.size l xs 0 W5 := ⟨hL5, A, n, c, bR, hc, by
    have := hI.below hbw5
    simpa [Lay.off] using this⟩
  have hbd := callsIn_wide.1 (build_any (n := 8) (by decide) (l := l) hok.blocks1 (G := 41) (caps := #[.pointer (some ⟨w1.heap.size, 0, none⟩), .pointer (some ⟨w4.heap.size, 0, none⟩)])
    (enters_of Tryd.func41 (by kernel_rfl) rfl) (w := W5) (X := fun i => i = w4.heap.size) (Z := ZOwn W5.heap.size) (ZOwn.abides _) (fun i hi => by omega)
    (S := fun k W => SpS w1.heap.size w4.heap.size w.heap.size l xs k W ∧ Kinds W) (Sp := fun _ => False) (part := l.block xs)
    (fun k W W' h hb => ⟨h.1.below hb (by omega) (by omega) (by omega), h.2.below hb (by omega)⟩) ⟨hS0, hK.step hbw5⟩
    (fun k W hk h hN => (split2_any hok (by rw [HLX.out, HBT.out]) hbv (L := w1.heap.size) (R := w4.heap.size) (B0 := w.heap.size) (N0 := W5.heap.size) (by omega) (by omega) (by omega) (by omega) (by omega) (by omega) hk h.2 hN h.1).mono fun e W' h2 => by
      obtain ⟨hsv, r, he, hx2, hs2, hz, ha⟩ := h2
      exact ⟨hsv, .inl ⟨r, he, hx2, ⟨hs2, h.2.keep hsv.size (hsv.block 1 h.2.lt (by have := h.2.lt; omega)) (hsv.block 0 (by have := h.2.lt; omega) (by omega))⟩, hz, ha⟩⟩))
  unfold layV layA at hbd
  refine hbd.mono ?_
  rintro e w6 ⟨hsv, (⟨A6, c6, rows, C, rfl, hF, hmap, _⟩ | ⟨ch, _, h⟩)⟩
  · have bE6 : Boxed w6 w.heap.size 22 (.int .i64 0) := hsv.heap bE5 (by omega)
    have e0 := bE6.cell
    have e1 := bE6.frozen
    go_wp2_with fail
    have hb6 := hbw5.trans (hsv.below (B := w.heap.size) (fun i hi => by omega) hbw5.size)
    have hbF := (hb6.setCell (p := ⟨w.heap.size, 0, none⟩) (Nat.le_refl _) (.int .i64 0)).setCell (p := ⟨w.heap.size, 0, none⟩) (Nat.le_refl _) (.int .i64 0)
    have hlen : (splitL xs).length = l.blocks := by rw [hsp.out]; simp
    refine split_door rfl rfl (bE6.set _) ⟨A6, c6, rows, ?_, ?_, ?_⟩
    · show Ending.returned (.tuple #[.slice A6 l.blocks c6, .int .i64 0]) = .returned (.tuple #[.slice A6 (splitL xs).length c6, .int .i64 0])
      rw [hlen]
    · simp only
      rw [hlen]
      exact OwnRows.of_fam hF (fun j hj => (Below.heap_setCell _ _ _ _ (show j ≠ w.heap.size by omega)).trans (Below.heap_setCell _ _ _ _ (show j ≠ w.heap.size by omega))) hbF (by omega)
    · simp only
      rw [hmap, hsp.out]
  · exact h.elim

theorem Split_any {A : Option Addr} {n c : Nat} {xs : List Int} {w : World} (hK : Kinds w) (hI : Rd .u8 w w.heap.size A n xs) (hc : n ≤ c) (hx : Byte xs) :
    Calls Tryd.prog 24 #[.slice A n c] w (RetRows w (splitS xs)) := by
  have hl := hI.len
  unfold splitS
  split
  · rename_i h; exact Split_arg (by omega)
  · rename_i h
    split
    · rename_i hv; exact Split_bit hK hI hx (by omega) (by omega) hv
    · rename_i hv; exact Split_ok hK hI hc hx (by omega) (by omega) (by simpa using hv)
end Go.Proofs.YtkdodmjhpkfhnaaDoor
