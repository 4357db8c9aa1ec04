/-
  Join.
-/
import Derived.Test.YtkdodmjhpkfhnaaDoorPg
namespace Go.Proofs.YtkdodmjhpkfhnaaDoor
open Go.RowKit Go.Shelf BigFrame

/-- The way out of Join without a panic. -/
theorem join_door {tmps : Array Value} {W : World} {B : Nat} {v res : Value} {R : Ending → World → Prop} (h2 : tmps.getD 4 undef = res) (h3 : tmps.getD 5 undef = .pointer (some ⟨B, 0, none⟩)) (hb : Boxed W B 22 v)
    (hR : R (.returned (.tuple #[res, .int .i64 0])) (W.setCell ⟨B, 0, none⟩ (.int .i64 0))) :
    Leaves Tryd.prog Tryd.f27 tmps R [{ target := .fn (.func 47) #[.pointer (some ⟨B, 0, none⟩)], args := #[] }] .returning W := by
  refine leaves_cons (f := 47) (args := #[.pointer (some ⟨B, 0, none⟩)]) (by simp) (by simp [go_sem]) ?_
  refine (join_calm ⟨B, 0, none⟩ W hb.cell hb.frozen).mono ?_
  rintro e u' w' ⟨rfl, rfl, rfl⟩
  have hc := (hb.set (.int .i64 0)).cell
  simp only [Array.getD_eq_getD_getElem?] at h2 h3
  simpa [Leaves, settle, results, Tryd.results27, go_sem, h2, h3, hc] using hR
/-- The way out of Join behind require's panic. -/
theorem join_door_no {tmps : Array Value} {W : World} {B : Nat} {v res : Value} {k : Int} {R : Ending → World → Prop} (h2 : tmps.getD 4 undef = res) (h3 : tmps.getD 5 undef = .pointer (some ⟨B, 0, none⟩)) (hb : Boxed W B 22 v)
    (hR : R (.returned (.tuple #[res, .int .i64 k])) (W.setCell ⟨B, 0, none⟩ (.int .i64 k))) :
    Leaves Tryd.prog Tryd.f27 tmps R [{ target := .fn (.func 47) #[.pointer (some ⟨B, 0, none⟩)], args := #[] }] (.panicking [{ v := failV k, recovered := false }]) W := by
  refine leaves_cons (f := 47) (args := #[.pointer (some ⟨B, 0, none⟩)]) (by simp) (by simp [go_sem]) ?_
  refine (join_caught k ⟨B, 0, none⟩ W hb.cell hb.frozen).mono ?_
  rintro e u' w' ⟨rfl, rfl, rfl⟩
  have hc := (hb.set (.int .i64 k)).cell
  simp only [Array.getD_eq_getD_getElem?] at h2 h3
  simpa [Leaves, settle, results, Tryd.results27, go_sem, h2, h3, hc] using hR
/-- What Join finds in block i. -/
def partO (l : Lay) (rows : List BRow) (i : Nat) : Option (List Int) := unwrapL l i ((rows[i]?.map (·.xs)).getD [])
/-- What Join hands back. -/
noncomputable def joinS (b : Int) (rows : List BRow) : List Int × Int :=
  if b < 1 ∨ 79560 < b then ([], 2) else if rows.all (fun r => validB r.xs) = false then ([], 3)
  else if fitB (planN b.toNat) rows = false then ([], 60)
  else if (List.range (planN b.toNat).blocks).all (fun i => (partO (planN b.toNat) rows i).isSome) = false then ([], 61)
  else (((List.range (planN b.toNat).blocks).map (fun i => (partO (planN b.toNat) rows i).getD [])).flatten, 0)
set_option maxRecDepth 100000 in
set_option maxHeartbeats 1000000 in
theorem Join_arg {A : Option Addr} {n c : Nat} {b : Int} {w : World} (h : b < 1 ∨ 79560 < b) :
    Calls Tryd.prog 27 #[.int .i64 b, .slice A n c] w (RetBytes 5 w ([], 2)) := by
  have hmf := makeFunc_run
  have hn := Lib.hid (fun (u : World) => plan_no (b := b) (w := u) h)
  have hb00 := (Below.refl w.heap.size w).alloc (Nat.le_refl _) (.cells #[.slice A n c] 48)
  have hb0 := hb00.alloc hb00.size (.cells #[.int .i64 0] 22)
  have bE := Boxed.new (w.alloc (.cells #[.slice A n c] 48)) 22 (.int .i64 0)
  rw [World.size_alloc] at bE
  have hs2 : ((w.alloc (.cells #[.slice A n c] 48)).alloc (.cells #[.int .i64 0] 22)).heap.size = w.heap.size + 2 := by simp
  clear hb00 h
  go_enter_defers Tryd.func27, Tryd.ntmps27
  go_wp2_with fail
  refine (hn.out _).mono ?_
  rintro e w1 ⟨rfl, hb1⟩
  rw [hs2] at hb1
  replace bE := Boxed.below bE hb1 (by omega)
  have hb2 := hb0.trans (hb1.mono (by omega))
  exact join_door_no rfl rfl bE (RetBytes.nil_ (hb2.setCell (p := ⟨w.heap.size + 1, 0, none⟩) (Nat.le_succ _) _))
set_option maxRecDepth 100000 in
set_option maxHeartbeats 1000000 in
theorem Join_bit {A : Option Addr} {n c b : Nat} {rows : List BRow} {w : World} (hK : Kinds w) (hI : Rds w w.heap.size A n rows) (hn : n ≤ 100000) (hx : ∀ r ∈ rows, Byte r.xs ∧ r.n ≤ 1000000) (h1 : 1 ≤ b) (h2 : b ≤ 79560) (hv : rows.all (fun r => validB r.xs) = false) :
    Calls Tryd.prog 27 #[.int .i64 (b : Int), .slice A n c] w (RetBytes 5 w ([], 3)) := by
  have hmf := makeFunc_run
  have hpl := Lib.hid (fun (u : World) (hb : Below w.heap.size w u) => plan_any (b := b) (hK.step hb) h1 h2)
  have hb00 := (Below.refl w.heap.size w).alloc (Nat.le_refl _) (.cells #[.slice A n c] 48)
  have hb0 := hb00.alloc hb00.size (.cells #[.int .i64 0] 22)
  have bB := (Boxed.new w 48 (.slice A n c)).alloc (.cells #[.int .i64 0] 22)
  have bE := Boxed.new (w.alloc (.cells #[.slice A n c] 48)) 22 (.int .i64 0)
  rw [World.size_alloc] at bE
  have hs2 : ((w.alloc (.cells #[.slice A n c] 48)).alloc (.cells #[.int .i64 0] 22)).heap.size = w.heap.size + 2 := by simp
  have HV := Lib.hid hv
  have HX := Lib.hid hx
  have HN := Lib.hid hn
  obtain ⟨l, hl⟩ : ∃ l, planN b = l := ⟨_, rfl⟩
  rw [hl] at hpl
  clear hl hb00 hv hx hn
  go_enter_defers Tryd.func27, Tryd.ntmps27
  go_wp2_with fail
  refine (hpl.out _ hb0).mono ?_
  rintro e w1 ⟨rfl, hb1⟩
  rw [hs2] at hb1
  replace bE := Boxed.below bE hb1 (by omega)
  replace bB := Boxed.below bB hb1 (by omega)
  have hb2 := hb0.trans (hb1.mono (by omega))
  clear hb0 hb1 hpl hs2
  have bE2 := bE.alloc (.cells (layA l) 70)
  have bB2 := bB.alloc (.cells (layA l) 70)
  have hb3 := hb2.alloc hb2.size (.cells (layA l) 70)
  unfold layV
  unfold layA at bE2 bB2 hb3 ⊢
  have q0 := bB2.cell
  go_wp2_with fail
  generalize (w1.alloc (.cells #[.int .i64 l.bits, .int .i64 l.blocks, .int .i64 l.long, .int .i64 l.short, .int .i64 l.longs, .int .i64 l.shorts, .int .i64 l.filler] 70)) = W2 at *
  have hrb := requireBits_any (c := c) (hI.below hb3) (by have := HN.out; omega) HX.out
  rw [HV.out] at hrb
  refine hrb.mono ?_
  rintro e w4 ⟨rfl, rfl⟩
  exact join_door_no rfl rfl bE2 (RetBytes.nil_ (hb3.setCell (p := ⟨w.heap.size + 1, 0, none⟩) (Nat.le_succ _) _))
set_option maxRecDepth 100000 in
set_option maxHeartbeats 1000000 in
theorem Join_unfit {A : Option Addr} {n c b : Nat} {rows : List BRow} {w : World} (hK : Kinds w) (hI : Rds w w.heap.size A n rows) (hn : n ≤ 100000) (hx : ∀ r ∈ rows, Byte r.xs ∧ r.n ≤ 1000000) (hcap : ∀ r ∈ rows, r.n ≤ r.c) (h1 : 1 ≤ b) (h2 : b ≤ 79560) (hv : rows.all (fun r => validB r.xs) = true) (hfit : fitB (planN b) rows = false) :
    Calls Tryd.prog 27 #[.int .i64 (b : Int), .slice A n c] w (RetBytes 5 w ([], 60)) := by
  have hmf := makeFunc_run
  have hpl := Lib.hid (fun (u : World) (hb : Below w.heap.size w u) => plan_any (b := b) (hK.step hb) h1 h2)
  have hb00 := (Below.refl w.heap.size w).alloc (Nat.le_refl _) (.cells #[.slice A n c] 48)
  have hb0 := hb00.alloc hb00.size (.cells #[.int .i64 0] 22)
  have bB := (Boxed.new w 48 (.slice A n c)).alloc (.cells #[.int .i64 0] 22)
  have bE := Boxed.new (w.alloc (.cells #[.slice A n c] 48)) 22 (.int .i64 0)
  rw [World.size_alloc] at bE
  have hs2 : ((w.alloc (.cells #[.slice A n c] 48)).alloc (.cells #[.int .i64 0] 22)).heap.size = w.heap.size + 2 := by simp
  have HV := Lib.hid hv
  have HX := Lib.hid hx
  have HN := Lib.hid hn
  have HC := Lib.hid hcap
  obtain ⟨hok, hbits⟩ := planN_ok h1 h2
  obtain ⟨l, hl⟩ : ∃ l, planN b = l := ⟨_, rfl⟩
  rw [hl] at hpl hok hfit
  have HF := Lib.hid hfit
  clear hl hb00 hv hx hn hcap hbits hfit
  go_enter_defers Tryd.func27, Tryd.ntmps27
  go_wp2_with fail
  refine (hpl.out _ hb0).mono ?_
  rintro e w1 ⟨rfl, hb1⟩
  rw [hs2] at hb1
  replace bE := Boxed.below bE hb1 (by omega)
  replace bB := Boxed.below bB hb1 (by omega)
  have hb2 := hb0.trans (hb1.mono (by omega))
  clear hb0 hb1 hpl hs2
  have hL := LayAt.new w1 70 l
  have bE2 := bE.alloc (.cells (layA l) 70)
  have bB2 := bB.alloc (.cells (layA l) 70)
  have hb3 := hb2.alloc hb2.size (.cells (layA l) 70)
  unfold layV
  unfold layA at bE2 bB2 hb3 hL ⊢
  have q0 := bB2.cell
  go_wp2_with fail
  generalize (w1.alloc (.cells #[.int .i64 l.bits, .int .i64 l.blocks, .int .i64 l.long, .int .i64 l.short, .int .i64 l.longs, .int .i64 l.shorts, .int .i64 l.filler] 70)) = W2 at *
  have hrb := requireBits_any (c := c) (hI.below hb3) (by have := HN.out; omega) HX.out
  rw [HV.out] at hrb
  refine hrb.mono ?_
  rintro e w4 ⟨rfl, rfl⟩
  obtain ⟨c0, c1, c2, c3, c4, c5, c6⟩ := hL.all
  have hft := Lib.hid (fits_any (c := c) hok ((hI.below hb3).more hb3.size) HN.out (fun r hr => ⟨HC.out r hr, (HX.out r hr).2⟩))
  rw [HF.out] at hft
  unfold layV layA at hft
  clear hrb
  go_wp2_with (go_at_call 48; refine hft.out.mono ?_; rintro e w5 ⟨rfl, hb5⟩)
  have hb6 := hb3.trans (hb5.mono hb3.size)
  have bE6 := Boxed.below bE2 hb5 bE2.lt
  clear c0 c1 c2 c3 c4 c5 c6 q0 hL hft bE bE2 bB bB2
  go_wp2_with (go_at_call 31; refine require_no.mono ?_; rintro e w7 ⟨rfl, rfl⟩)
  exact join_door_no rfl rfl bE6 (RetBytes.nil_ (hb6.setCell (p := ⟨w.heap.size + 1, 0, none⟩) (Nat.le_succ _) _))
theorem fitB_true {l : Lay} {rows : List BRow} (h : fitB l rows = true) : rows.length = l.blocks ∧ FitTo l rows l.blocks := by
  classical
  unfold fitB at h
  simp only [Bool.and_eq_true, decide_eq_true_eq] at h
  exact h.1
theorem Rds.of_fam {N0 C n : Nat} {X : Nat → Prop} {W : World} {A : Option Addr} {c : Nat} {rows : List BRow} (hF : Fam N0 X C ZRd W (.slice A n c) n rows) : Rds W W.heap.size A n rows := by
  refine ⟨hF.len, fun k hk => ?_⟩
  have hkl : k < rows.length := by rw [hF.len]; exact hk
  obtain ⟨g, cap, hv, _, hlt⟩ := hF.own.form (by omega)
  have hA : A = some ⟨g, 0, none⟩ := by injection hv
  subst hA
  refine ⟨g, 0, rows[k], rfl, hlt, List.getElem?_eq_getElem hkl, ?_, (hF.row _ (List.getElem_mem hkl)).z⟩
  have := hF.own.cells (g := g) rfl k (hdr rows[k]) (by simp [hkl])
  by_cases h0 : k = 0
  · subst h0; simpa [Addr.add, hdr] using this
  · simpa [Addr.add, h0, hdr] using this
theorem unwrapL_len {l : Lay} {i : Nat} {xs d : List Int} (h : unwrapL l i xs = some d) : d.length ≤ xs.length := by
  unfold unwrapL at h
  split at h
  · injection h with h; subst h; rw [List.length_drop]; omega
  · split at h
    · injection h with h; subst h; rw [List.length_drop, List.length_take]; omega
    · cases h
theorem flat_len : ∀ (ds : List (List Int)) (M : Nat), (∀ d ∈ ds, d.length ≤ M) → ds.flatten.length ≤ ds.length * M
  | [], _, _ => by simp
  | d :: ds, M, h => by
    have h1 := h d (by simp)
    have h2 := flat_len ds M (fun x hx => h x (by simp [hx]))
    rw [List.flatten_cons, List.length_append, List.length_cons, Nat.succ_mul]
    omega
set_option maxRecDepth 100000 in
set_option maxHeartbeats 1000000 in
theorem Join_fit {A : Option Addr} {n c b : Nat} {rows : List BRow} {w : World} (hK : Kinds w) (hI : Rds w w.heap.size A n rows) (hn : n ≤ 100000) (hx : ∀ r ∈ rows, Byte r.xs ∧ r.n ≤ 1000000) (hcap : ∀ r ∈ rows, r.n ≤ r.c) (h1 : 1 ≤ b) (h2 : b ≤ 79560) (hv : rows.all (fun r => validB r.xs) = true) (hfit : fitB (planN b) rows = true) :
    Calls Tryd.prog 27 #[.int .i64 (b : Int), .slice A n c] w (RetBytes 5 w (joinS (b : Int) rows)) := by
  have hmf := makeFunc_run
  have hpl := Lib.hid (fun (u : World) (hb : Below w.heap.size w u) => plan_any (b := b) (hK.step hb) h1 h2)
  have hb00 := (Below.refl w.heap.size w).alloc (Nat.le_refl _) (.cells #[.slice A n c] 48)
  have hb0 := hb00.alloc hb00.size (.cells #[.int .i64 0] 22)
  have bB := (Boxed.new w 48 (.slice A n c)).alloc (.cells #[.int .i64 0] 22)
  have bE := Boxed.new (w.alloc (.cells #[.slice A n c] 48)) 22 (.int .i64 0)
  rw [World.size_alloc] at bE
  have hs2 : ((w.alloc (.cells #[.slice A n c] 48)).alloc (.cells #[.int .i64 0] 22)).heap.size = w.heap.size + 2 := by simp
  have HV := Lib.hid hv
  have HX := Lib.hid hx
  have HN := Lib.hid hn
  have HC := Lib.hid hcap
  obtain ⟨hok, hbits⟩ := planN_ok h1 h2
  have HJ : Hid (joinS (b : Int) rows = if (List.range (planN b).blocks).all (fun i => (partO (planN b) rows i).isSome) = false then ([], 61) else (((List.range (planN b).blocks).map (fun i => (partO (planN b) rows i).getD [])).flatten, 0)) := Lib.hid (by
    unfold joinS
    rw [if_neg (by omega), if_neg (by rw [hv]; simp), Int.toNat_natCast, if_neg (by rw [hfit]; simp)])
  obtain ⟨l, hl⟩ : ∃ l, planN b = l := ⟨_, rfl⟩
  rw [hl] at hpl hok hfit HJ
  obtain ⟨hlr, hft0⟩ := fitB_true hfit
  have HFR : Hid (FitRows l rows) := Lib.hid (fun i r hr => by
    have hm := List.mem_of_getElem? hr
    have hi := (List.getElem?_eq_some_iff.1 hr).1
    exact ⟨hft0.2 i r (by omega) hr, hcap r hm, validB_bits (hx r hm).1 (by have := List.all_eq_true.1 hv r hm; simpa using this)⟩)
  have HLN : Hid (l.blocks = n) := Lib.hid (by rw [← hI.len]; exact hlr.symm)
  have HF := Lib.hid hfit
  clear hl hb00 hv hx hn hcap hbits hfit hlr hft0
  go_enter_defers Tryd.func27, Tryd.ntmps27
  go_wp2_with fail
  refine (hpl.out _ hb0).mono ?_
  rintro e w1 ⟨rfl, hb1⟩
  rw [hs2] at hb1
  replace bE := Boxed.below bE hb1 (by omega)
  replace bB := Boxed.below bB hb1 (by omega)
  have hb2 := hb0.trans (hb1.mono (by omega))
  clear hb0 hb1 hpl hs2
  have hL := LayAt.new w1 70 l
  have bE2 := bE.alloc (.cells (layA l) 70)
  have bB2 := bB.alloc (.cells (layA l) 70)
  have hb3 := hb2.alloc hb2.size (.cells (layA l) 70)
  unfold layV
  unfold layA at bE2 bB2 hb3 hL ⊢
  have q0 := bB2.cell
  go_wp2_with fail
  generalize (w1.alloc (.cells #[.int .i64 l.bits, .int .i64 l.blocks, .int .i64 l.long, .int .i64 l.short, .int .i64 l.longs, .int .i64 l.shorts, .int .i64 l.filler] 70)) = W2 at *
  have hrb := requireBits_any (c := c) (hI.below hb3) (by have := HN.out; omega) HX.out
  rw [HV.out] at hrb
  refine hrb.mono ?_
  rintro e w4 ⟨rfl, rfl⟩
  obtain ⟨c0, c1, c2, c3, c4, c5, c6⟩ := hL.all
  have hft := Lib.hid (fits_any (c := c) hok ((hI.below hb3).more hb3.size) HN.out (fun r hr => ⟨HC.out r hr, (HX.out r hr).2⟩))
  rw [HF.out] at hft
  unfold layV layA at hft
  clear hrb
  go_wp2_with (go_at_call 48; refine hft.out.mono ?_; rintro e w5 ⟨rfl, hb5⟩)
  have hb6 := hb3.trans (hb5.mono hb3.size)
  have bE6 := Boxed.below bE2 hb5 bE2.lt
  have bB6 := Boxed.below bB2 hb5 bB2.lt
  have hL6 := hL.below hb5 hL.lt
  have hltL := hL.lt
  have hs5 := hb5.size
  clear c0 c1 c2 c3 c4 c5 c6 q0 hL hft bE bE2 bB bB2
  obtain ⟨c0, c1, c2, c3, c4, c5, c6⟩ := hL6.all
  have hlow := hb2.size
  go_wp2_with (go_at_call 31; refine require_ok.mono ?_; rintro e w7 ⟨rfl, rfl⟩)
  clear c0 c1 c2 c3 c4 c5 c6
  have hS0 : JnS w1.heap.size w.heap.size w.heap.size l A n c rows w7 := ⟨hL6, bB6, hI.below hb6⟩
  have hbd := callsIn_wide.1 (build_any (n := 8) (by decide) (l := l) hok.blocks1 (G := 49) (caps := #[.pointer (some ⟨w1.heap.size, 0, none⟩), .pointer (some ⟨w.heap.size, 0, none⟩)])
    (enters_of Tryd.func49 (by kernel_rfl) rfl) (w := w7) (X := fun _ => False) (Z := ZRd) ZRd.abides (fun i hi => hi.elim)
    (S := fun k W => JnS w1.heap.size w.heap.size w.heap.size l A n c rows W ∧ Kinds W ∧ ∀ i, i < k → (partO l rows i).isSome = true) (Sp := fun ch => ch = [{ v := failV 61, recovered := false }] ∧ ∃ i, i < l.blocks ∧ partO l rows i = none) (part := fun i => (partO l rows i).getD [])
    (fun k W W' h hb => ⟨h.1.below hb (by omega) (by omega) (by omega), h.2.1.below hb (by have := hK.lt; omega), h.2.2⟩) ⟨hS0, hK.step hb6, fun i hi => by omega⟩
    (fun k W hk h hN => (join2_any hok HFR.out (L := w1.heap.size) (Kb := w.heap.size) (B0 := w.heap.size) (N0 := w7.heap.size) (by omega) (by omega) (by omega) hk (by rw [← HLN.out]; exact hk) HN.out h.2.1 hN h.1).mono fun e W' h2 => by
      obtain ⟨hb, r0, hr0, hh⟩ := h2
      have hp : partO l rows k = unwrapL l k r0.xs := by unfold partO; rw [hr0]; rfl
      refine ⟨Save.of_below hb, ?_⟩
      rcases hh with ⟨r, he, hu, hz, ha⟩ | ⟨he, hu⟩
      · refine .inl ⟨r, he, by rw [hp, hu]; rfl, ⟨h.1.below hb (by omega) (by omega) (by omega), h.2.1.step hb, fun i hi => ?_⟩, hz, fun a haa => ⟨(ha a haa).1, (ha a haa).2.imp id (fun x => ⟨x, fun y => y⟩)⟩⟩
        rcases Nat.lt_or_ge i k with h3 | h3
        · exact h.2.2 i h3
        · obtain rfl : i = k := by omega
          rw [hp, hu]; rfl
      · exact .inr ⟨_, he, rfl, k, hk, by rw [hp, hu]⟩))
  unfold layV layA at hbd
  refine hbd.mono ?_
  rintro e w6 ⟨hsv, (⟨A6, c6, rows6, C, rfl, hF, hmap, hSe⟩ | ⟨ch, rfl, rfl, i, hi, hno⟩)⟩
  · have hbw6 : Below w.heap.size w w6 := hb6.trans (hsv.below (B := w.heap.size) (fun i hi => hi.elim) hb6.size)
    have bE7 : Boxed w6 (w.heap.size + 1) 22 (.int .i64 0) := hsv.heap bE6 (fun x => x)
    have hj : Hid (joined rows6 = ((List.range l.blocks).map (fun i => (partO l rows i).getD [])).flatten) := Lib.hid (by
      unfold joined
      rw [List.flatMap_def, hmap])
    have hlen : (joined rows6).length ≤ 1000000 := by
      rw [hj.out]
      have := flat_len ((List.range l.blocks).map (fun i => (partO l rows i).getD [])) 6144 (fun d hd => by
        obtain ⟨i, hi, rfl⟩ := List.mem_map.1 hd
        have hi2 : i < n := by rw [← HLN.out]; exact List.mem_range.1 hi
        obtain ⟨_, _, r, _, _, hr, _, hR⟩ := hI.cells i hi2
        have hz := (HFR.out i r hr).1
        have hs := hok.size_le i
        have hrl := hR.len
        obtain ⟨d2, hd2⟩ := Option.isSome_iff_exists.1 (hSe.2.2 i (List.mem_range.1 hi))
        have hu : unwrapL l i r.xs = some d2 := by unfold partO at hd2; rw [hr] at hd2; exact hd2
        rw [hd2]
        have := unwrapL_len hu
        simp only [Option.getD_some]
        omega)
      rw [List.length_map, List.length_range] at this
      have := Nat.mul_le_mul_right 6144 hok.blocks1
      omega
    have hcat := Lib.hid (slicesConcat_any (c := c6) (Rds.of_fam hF) (Nat.le_refl _) (by have := HLN.out; have := HN.out; omega) hlen)
    have hall : (List.range l.blocks).all (fun i => (partO l rows i).isSome) = true := List.all_eq_true.2 (fun i hi => hSe.2.2 i (List.mem_range.1 hi))
    have HJ2 : Hid (joinS (b : Int) rows = (joined rows6, 0)) := Lib.hid (by rw [HJ.out, if_neg (by rw [hall]; simp), ← hj.out])
    clear hbd hF hmap hSe hlen hall
    go_wp2_with fail
    refine hcat.out.mono ?_
    rintro e w8 ⟨A8, c8, rfl, hown, hb8⟩
    have bE8 := Boxed.below bE7 hb8 bE7.lt
    have e0 := bE8.cell
    have e1 := bE8.frozen
    have hlt8 := bE7.lt
    have hb9 := hbw6.trans (hb8.mono hbw6.size)
    go_wp2_with fail
    refine join_door rfl rfl (bE8.set _) ?_
    rw [HJ2.out]
    have hsS : Save (fun i => i = w.heap.size + 1) w8 ((w8.setCell ⟨w.heap.size + 1, 0, none⟩ (.int .i64 0)).setCell ⟨w.heap.size + 1, 0, none⟩ (.int .i64 0)) := ((Save.refl (fun i => i = w.heap.size + 1) w8).setCell (p := ⟨w.heap.size + 1, 0, none⟩) (fun _ => rfl) _).setCell (p := ⟨w.heap.size + 1, 0, none⟩) (fun _ => rfl) _
    refine ⟨A8, c8, rfl, (ownsRow_save hown hsS (fun g hg e => ?_)).mono hbw6.size, (hb9.setCell (p := ⟨w.heap.size + 1, 0, none⟩) (Nat.le_succ _) _).setCell (p := ⟨w.heap.size + 1, 0, none⟩) (Nat.le_succ _) _⟩
    rcases hown.2 with ⟨hv, _⟩ | ⟨g', _, _, hv, hg', _⟩
    · rw [hv] at hg; cases hg
    · rw [hv] at hg
      injection hg with hg
      simp only at hg
      omega
  · have bE7 : Boxed w6 (w.heap.size + 1) 22 (.int .i64 0) := hsv.heap bE6 (fun x => x)
    have hbw6 : Below w.heap.size w w6 := hb6.trans (hsv.below (B := w.heap.size) (fun i hi => hi.elim) hb6.size)
    have hall : (List.range l.blocks).all (fun i => (partO l rows i).isSome) = false := by
      rw [List.all_eq_false]
      exact ⟨i, List.mem_range.2 hi, by rw [hno]; simp⟩
    rw [HJ.out, if_pos hall]
    exact join_door_no rfl rfl bE7 (RetBytes.nil_ (hbw6.setCell (p := ⟨w.heap.size + 1, 0, none⟩) (Nat.le_succ _) _))
theorem Join_any {A : Option Addr} {n c : Nat} {b : Int} {rows : List BRow} {w : World} (hK : Kinds w) (hI : Rds w w.heap.size A n rows) (hn : n ≤ 100000) (hx : ∀ r ∈ rows, Byte r.xs ∧ r.n ≤ 1000000) (hcap : ∀ r ∈ rows, r.n ≤ r.c) :
    Calls Tryd.prog 27 #[.int .i64 b, .slice A n c] w (RetBytes 5 w (joinS b rows)) := by
  by_cases h : b < 1 ∨ 79560 < b
  · unfold joinS; rw [if_pos h]; exact Join_arg h
  · obtain ⟨m, rfl⟩ : ∃ m : Nat, b = m := ⟨b.toNat, by omega⟩
    by_cases hv : rows.all (fun r => validB r.xs) = true
    · by_cases hf : fitB (planN m) rows = true
      · exact Join_fit hK hI hn hx hcap (by omega) (by omega) hv hf
      · have hf' : fitB (planN m) rows = false := by simpa using hf
        unfold joinS; rw [if_neg h, if_neg (by rw [hv]; simp), Int.toNat_natCast, if_pos hf']
        exact Join_unfit hK hI hn hx hcap (by omega) (by omega) hv hf'
    · have hv' : rows.all (fun r => validB r.xs) = false := by simpa using hv
      unfold joinS; rw [if_neg h, if_pos hv']
      exact Join_bit hK hI hn hx (by omega) (by omega) hv'
end Go.Proofs.YtkdodmjhpkfhnaaDoor
