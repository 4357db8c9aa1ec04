/-
  The reference: Inverse, Interleave, Deinterleave.
-/
import Derived.Test.YtfplklbicimhkaaDoorRb
import Derived.Test.YtfplklbicimhkaaDoorPm
namespace Go.Proofs.YtfplklbicimhkaaDoor
open Go.RowKit

theorem make_ints (n : Nat) (hn : n ≤ 1000000) (u : World) : (Instr.makeSlice 33 (.int .i64 n) (.int .i64 n)).run Tryd.prog u =
    .ok (.slice (some ⟨u.heap.size, 0, none⟩) n n) (u.alloc (.cells (madeCells #[.int .i64 0] n) 3)) := by
  obtain ⟨i0, hi, hz0, hz1, hz2⟩ := info_q Tryd.info_int
  have h := run_make (P := Tryd.prog) u 33 3 i0 (.int .i64 0) Tryd.underlying33 hi hz0 .i64 .i64 (n : Int) (n : Int) (by omega) (by omega) (by rw [hz2]; omega) (by omega)
  simpa [hz1, Value.cells] using h
theorem own_zeros_q {q : IntKind} {T : TypeId} {w : World} {B n : Nat} (hB : B ≤ w.heap.size) (hn : n ≤ 1000000) : (w.alloc (.cells (madeCells #[.int q 0] n) T)).ownsRow B T 1 (.slice (some ⟨w.heap.size, 0, none⟩) n n) n ((List.replicate n (0 : Int)).map (Value.int q)) := by
  refine ⟨by simp, .inr ⟨w.heap.size, n, madeCells #[.int q 0] n, rfl, hB, heap_alloc_new w _, Nat.le_refl _, by unfold maxLen; omega, by simp [madeCells], ?_⟩⟩
  rw [toList_madeCells_one, Nat.mul_one, List.take_replicate, List.map_replicate, Nat.min_self]
/-- A new row into which elements are put. -/
theorem putL_set {q : IntKind} {T : TypeId} {w : World} {B P n j : Nat} {f : Nat → Nat} {g : Nat → Int} (h : w.ownsRow B T 1 (.slice (some ⟨P, 0, none⟩) n n) n ((putL f g n j).map (Value.int q))) :
    (w.setCell ⟨P, f j, none⟩ (.int q (g j))).ownsRow B T 1 (.slice (some ⟨P, 0, none⟩) n n) n ((putL f g n (j + 1)).map (Value.int q)) := by
  rw [putL, List.map_set]
  exact (World.ownsRow.stored h (f j) (.int q (g j))).1
theorem putL_cell {q : IntKind} {T : TypeId} {w : World} {B P n j x : Nat} {f : Nat → Nat} {g : Nat → Int} (h : w.ownsRow B T 1 (.slice (some ⟨P, 0, none⟩) n n) n ((putL f g n j).map (Value.int q))) (hx : x < n) :
    ∃ v, w.cell? ⟨P, x, none⟩ = some (.int q v) := by
  rw [World.ownsRow.cellAt h x (by omega), List.getElem?_map, List.getElem?_eq_getElem (by rw [putL_length]; exact hx)]
  exact ⟨_, rfl⟩
def piK (k i : Nat) : Nat := piN k (f1N k) (f2N k) i
theorem piK_lt {k : Nat} (h : IsSize k) (i : Nat) : piK k i < k := piN_lt (qpOk_size h) i
theorem piK_inj {k : Nat} (h : IsSize k) : ∀ a b, a < k → b < k → piK k a = piK k b → a = b := fun _ _ ha hb e => piN_inj (qpOk_size h) ha hb e
theorem ordI_pi {k i : Nat} (h : i < k) : (ordI k k)[i]?.getD 0 = ((piK k i : Nat) : Int) := ordI_get h
/-- What is found where. -/
def invI (k j : Nat) : List Int := putL (piK k) (fun i => (i : Int)) k j
def interI (xs : List Int) : List Int := (List.range xs.length).map fun i => xs[piK xs.length i]?.getD 0
def deI (xs : List Int) (j : Nat) : List Int := putL (piK xs.length) (fun i => xs[i]?.getD 0) xs.length j
def invS (k : Int) : List Int × Int := if isB k then (invI k.toNat k.toNat, 0) else ([], 2)
def interS (xs : List Int) : List Int × Int := if isB xs.length then (interI xs, 0) else ([], 2)
def deS (xs : List Int) : List Int × Int := if isB xs.length then (deI xs xs.length, 0) else ([], 2)
theorem invS_size {k : Nat} (h : IsSize k) : invS (k : Int) = (invI k k, 0) := by
  unfold invS
  rw [isB_nat, decide_eq_true h, if_pos rfl, Int.toNat_natCast]
theorem invS_no {k : Int} (h : isB k = false) : invS k = ([], 2) := by unfold invS; rw [h]; rfl
theorem interS_size {xs : List Int} (h : IsSize xs.length) : interS xs = (interI xs, 0) := by
  unfold interS
  rw [isB_nat, decide_eq_true h, if_pos rfl]
theorem interS_no {xs : List Int} (h : isB xs.length = false) : interS xs = ([], 2) := by unfold interS; rw [h]; rfl
theorem deS_size {xs : List Int} (h : IsSize xs.length) : deS xs = (deI xs xs.length, 0) := by
  unfold deS
  rw [isB_nat, decide_eq_true h, if_pos rfl]
theorem deS_no {xs : List Int} (h : isB xs.length = false) : deS xs = ([], 2) := by unfold deS; rw [h]; rfl
set_option maxRecDepth 100000 in
set_option maxHeartbeats 4000000 in
theorem refInverse_any {k : Int} {w : World} :
    Calls Tryd.prog 19 #[.int .i64 k] w fun e w' => ∃ A c, e = .returned (.tuple #[.slice A (invS k).1.length c, .int .i64 (invS k).2]) ∧ Rd .i64 w' w'.heap.size A (invS k).1.length (invS k).1 ∧ Below w.heap.size w w' := by
  have hO := Lib.hid (refOrder_any (k := k) (w := w))
  by_cases h : isB k = true
  · obtain ⟨m, rfl, hs⟩ := isB_ex h
    rw [invS_size hs]
    rw [orderS_size hs] at hO
    have hl : (invI m m).length = m := putL_length _
    have hol := ordI_length m m
    have hk := size_le hs
    have hS := Lib.hid hs
    have HL := Lib.hid hl
    simp only
    rw [hl]
    clear h hs hl
    have hmk := make_ints m (by omega)
    go_enter Tryd.func19, Tryd.ntmps19
    go_wp2_with (go_at_call 18; refine hO.out.mono ?_; rintro e w1 ⟨A1, c1, rfl, hown, hb1⟩)
    simp only [hol] at hown
    have hR := Rd.of_own hown
    have HR0 := Lib.hid (hR.alloc (Nat.le_refl _) (.cells (madeCells #[.int .i64 0] m) 3))
    have hz := own_zeros_q (q := .i64) (T := 3) (w := w1) (B := w1.heap.size) (n := m) (Nat.le_refl _) (by omega)
    have hb2 := Lib.hid ((Below.refl w1.heap.size w1).alloc (Nat.le_refl _) (.cells (madeCells #[.int .i64 0] m) 3))
    have HZ := Lib.hid hz
    have HB1 := Lib.hid hb1
    clear hown hR hz hb1 hO
    go_wp2_with fail
    go_loopw [7] (fun i wr => ∃ t : Nat, t ≤ m ∧ i = .int .i64 (t : Int) ∧ Hid (wr.ownsRow w1.heap.size 3 1 (.slice (some ⟨w1.heap.size, 0, none⟩) m m) m ((invI m t).map (Value.int .i64))) ∧ Hid (Below w1.heap.size w1 wr) ∧ Hid (Rd .i64 wr w1.heap.size A1 m (ordI m m))) (fun i _ => m - (intOf i).toNat)
    case atStart => exact ⟨0, Nat.zero_le _, rfl, HZ, hb2, HR0⟩
    case round =>
      clear HZ hb2 HR0
      obtain ⟨t, ht, rfl, hO, hb, hR⟩ := hrel
      by_cases hlt : t < m
      · obtain ⟨b, off, rfl, hb1, hc⟩ := hR.out.cells t hlt
        rw [ordI_pi hlt] at hc
        have hpl := piK_lt hS.out t
        obtain ⟨v, hv⟩ := putL_cell hO.out hpl
        have hf := hO.out.frozenAt (piK m t)
        have hO2 := Lib.hid (putL_set hO.out)
        have hb2 := Lib.hid (hb.out.setCell (p := ⟨w1.heap.size, piK m t, none⟩) (Nat.le_refl _) (.int .i64 (t : Int)))
        have hR2 := Lib.hid (hR.out.setCell (p := ⟨w1.heap.size, piK m t, none⟩) (Nat.le_refl _) (.int .i64 (t : Int)))
        have ht1 : (t : Int) < (m : Int) := by omega
        have hp1 : ((piK m t : Nat) : Int) < (m : Int) := by omega
        generalize piK m t = p at *
        clear hO hb hR
        go_wp2_with fail
        go_roundw
        case rel => exact ⟨t + 1, by omega, by go_num, hO2, hb2, hR2⟩
        case measure => simp [intOf]; omega
      · obtain rfl : t = m := by omega
        clear hlt
        go_wp2_with fail
        go_ret2
        exact ⟨_, _, rfl, (Rd.of_own hO.out), HB1.out.trans (hb.out.mono HB1.out.size)⟩
  · have h := Bool.eq_false_iff.2 h
    rw [invS_no h]
    rw [orderS_no h] at hO
    have hmk : ∀ u : World, (Instr.makeSlice 33 (.int .i64 0) (.int .i64 0)).run Tryd.prog u = .ok (.slice (some ⟨u.heap.size, 0, none⟩) 0 0) (u.alloc (.cells (madeCells #[.int .i64 0] 0) 3)) := make_ints 0 (by decide)
    clear h
    go_enter Tryd.func19, Tryd.ntmps19
    go_wp2_with (go_at_call 18; refine hO.out.mono ?_; rintro e w1 ⟨A1, c1, rfl, hown, hb1⟩)
    go_wp2_with fail
    go_loopw [7] (fun i wr => i = .int .i64 0 ∧ Hid (Below w.heap.size w wr)) (fun _ _ => 0)
    case atStart => exact ⟨rfl, Lib.hid (hb1.alloc hb1.size _)⟩
    case round =>
      obtain ⟨rfl, hb⟩ := hrel
      go_wp2_with fail
      go_ret2
      exact ⟨_, _, rfl, Rd.nil _ _ _ _, hb.out⟩
/-- What the reference's functions on slices hand back. -/
def RdN (w : World) (r : List Int × Int) (e : Ending) (w' : World) : Prop := ∃ A c, e = .returned (.tuple #[.slice A r.1.length c, .int .i64 r.2]) ∧ Rd .i64 w' w'.heap.size A r.1.length r.1 ∧ Below w.heap.size w w'
theorem RdN.mk_ {w w' : World} {r : List Int} {A : Option Addr} {n c : Nat} {k : Int} {e : Ending} (hlen : r.length = n) (hR : Rd .i64 w' w'.heap.size A n r) (hb : Below w.heap.size w w') (he : e = .returned (.tuple #[.slice A n c, .int .i64 k])) : RdN w (r, k) e w' := by
  subst hlen
  exact ⟨A, c, he, hR, hb⟩
theorem interI_length (xs : List Int) : (interI xs).length = xs.length := by simp [interI]
theorem interI_snoc {xs : List Int} {t : Nat} (h : t < xs.length) : (interI xs).take (t + 1) = (interI xs).take t ++ [xs[piK xs.length t]?.getD 0] := by
  unfold interI
  rw [← List.map_take, ← List.map_take, List.take_range, List.take_range, Nat.min_eq_left (Nat.succ_le_of_lt h), Nat.min_eq_left (Nat.le_of_lt h), List.range_succ, List.map_append]
  rfl
set_option maxRecDepth 100000 in
set_option maxHeartbeats 4000000 in
theorem refInter_any {A : Option Addr} {n c : Nat} {xs : List Int} {w : World} (hI : Rd .i64 w w.heap.size A n xs) :
    Calls Tryd.prog 23 #[.slice A n c] w (RdN w (interS xs)) := by
  have hO := Lib.hid (refOrder_any (k := (n : Int)) (w := w))
  obtain rfl := hI.len
  by_cases h : isB (xs.length : Int) = true
  · have hs : IsSize xs.length := by rw [isB_nat] at h; simpa using h
    rw [interS_size hs]
    rw [orderS_size hs] at hO
    have hol := ordI_length xs.length xs.length
    have hk := size_le hs
    have hS := Lib.hid hs
    have HL := Lib.hid (interI_length xs)
    have HSN := Lib.hid (fun t => interI_snoc (xs := xs) (t := t))
    clear h hs
    generalize hm : xs.length = m at *
    clear hm
    go_enter Tryd.func23, Tryd.ntmps23
    go_wp2_with (go_at_call 18; refine hO.out.mono ?_; rintro e w1 ⟨A1, c1, rfl, hown, hb1⟩)
    simp only [hol] at hown
    have HR0 := Lib.hid (Rd.of_own hown)
    have HI0 := Lib.hid (hI.step hb1)
    have HB1 := Lib.hid hb1
    clear hown hb1 hO hI
    go_loopw [6, 7] (fun s i wr => ∃ (t : Nat) (A2 : Option Addr) (c2 : Nat), t ≤ m ∧ i = .int .i64 (t : Int) ∧ s = .slice A2 t c2 ∧ Hid (wr.ownsRow w1.heap.size 3 1 (.slice A2 t c2) t (((interI xs).take t).map (Value.int .i64))) ∧ Hid (Below w1.heap.size w1 wr)) (fun _ i _ => m - (intOf i).toNat)
    case atStart => exact ⟨0, none, 0, Nat.zero_le _, rfl, rfl, Lib.hid (by simpa using World.ownsRow_nil w1 w1.heap.size 3 1), Lib.hid (Below.refl _ _)⟩
    case round =>
      obtain ⟨t, A2, c2, ht, rfl, rfl, hO, hb⟩ := hrel
      by_cases hlt : t < m
      · obtain ⟨b, off, rfl, hb1, hc⟩ := (HR0.out.below hb.out).cells t hlt
        rw [ordI_pi hlt] at hc
        have hpl := piK_lt hS.out t
        obtain ⟨b2, off2, rfl, hb2, hc2⟩ := (HI0.out.below hb.out).cells (piK m t) hpl
        have HT := Lib.hid (HSN.out t hlt)
        have ht1 : (t : Int) < (m : Int) := by omega
        have hp1 : ((piK m t : Nat) : Int) < (m : Int) := by omega
        generalize piK m t = p at *
        obtain ⟨A3, c3, w2, hrun, hO2, hb2'⟩ := ints_app hO.out hb.out (by omega) (xs[p]?.getD 0)
        rw [← HT.out] at hO2
        generalize xs[p]?.getD 0 = x at *
        have HR := Lib.hid hrun
        have HO2 := Lib.hid hO2
        have HB2 := Lib.hid hb2'
        clear hrun hO2 hb2' hO hb HT
        go_wp2_with (at_builtin; refine Lib.wpList_append_run _ rfl _ _ _ _ rfl _ _ rfl rfl _ _ HR.out ?_)
        go_roundw
        case rel => exact ⟨t + 1, A3, c3, by omega, by go_num, by first | rfl | simp, HO2, HB2⟩
        case measure => simp [intOf]; omega
      · obtain rfl : t = m := by omega
        clear hlt
        have hO3 := hO.out
        rw [List.take_of_length_le (Nat.le_of_eq HL.out)] at hO3
        have HO3 := Lib.hid hO3
        clear hO hO3
        go_wp2_with fail
        go_ret2
        exact RdN.mk_ HL.out (Rd.of_own HO3.out) (HB1.out.trans (hb.out.mono HB1.out.size)) rfl
  · have h := Bool.eq_false_iff.2 h
    rw [interS_no h]
    rw [orderS_no h] at hO
    clear h
    go_enter Tryd.func23, Tryd.ntmps23
    go_wp2_with (go_at_call 18; refine hO.out.mono ?_; rintro e w1 ⟨A1, c1, rfl, hown, hb1⟩)
    go_loopw [6, 7] (fun s i wr => s = .slice none 0 0 ∧ i = .int .i64 0 ∧ Hid (Below w.heap.size w wr)) (fun _ _ _ => 0)
    case atStart => exact ⟨rfl, rfl, Lib.hid hb1⟩
    case round =>
      obtain ⟨rfl, rfl, hb⟩ := hrel
      go_wp2_with fail
      go_ret2
      exact ⟨_, _, rfl, Rd.nil _ _ _ _, hb.out⟩
set_option maxRecDepth 100000 in
set_option maxHeartbeats 4000000 in
theorem refDeinter_any {A : Option Addr} {n c : Nat} {xs : List Int} {w : World} (hI : Rd .i64 w w.heap.size A n xs) :
    Calls Tryd.prog 24 #[.slice A n c] w (RdN w (deS xs)) := by
  have hO := Lib.hid (refOrder_any (k := (n : Int)) (w := w))
  obtain rfl := hI.len
  by_cases h : isB (xs.length : Int) = true
  · have hs : IsSize xs.length := by rw [isB_nat] at h; simpa using h
    rw [deS_size hs]
    rw [orderS_size hs] at hO
    have hol := ordI_length xs.length xs.length
    have hk := size_le hs
    have hS := Lib.hid hs
    have HL : Hid ((deI xs xs.length).length = xs.length) := Lib.hid (putL_length _)
    have HST : Hid (∀ (W : World) (B P t : Nat), W.ownsRow B 3 1 (.slice (some ⟨P, 0, none⟩) xs.length xs.length) xs.length ((deI xs t).map (Value.int .i64)) →
      (W.setCell ⟨P, piK xs.length t, none⟩ (.int .i64 (xs[t]?.getD 0))).ownsRow B 3 1 (.slice (some ⟨P, 0, none⟩) xs.length xs.length) xs.length ((deI xs (t + 1)).map (Value.int .i64))) := Lib.hid (fun W B P t h => putL_set h)
    have HCL : Hid (∀ (W : World) (B P t x : Nat), W.ownsRow B 3 1 (.slice (some ⟨P, 0, none⟩) xs.length xs.length) xs.length ((deI xs t).map (Value.int .i64)) → x < xs.length →
      ∃ v, W.cell? ⟨P, x, none⟩ = some (.int .i64 v)) := Lib.hid (fun W B P t x h hx => putL_cell h hx)
    have HZ0 : Hid (deI xs 0 = List.replicate xs.length 0) := Lib.hid rfl
    clear h hs
    generalize hm : xs.length = m at *
    clear hm
    have hmk := make_ints m (by omega)
    go_enter Tryd.func24, Tryd.ntmps24
    go_wp2_with (go_at_call 18; refine hO.out.mono ?_; rintro e w1 ⟨A1, c1, rfl, hown, hb1⟩)
    simp only [hol] at hown
    have hR := Rd.of_own hown
    have HR0 := Lib.hid (hR.alloc (Nat.le_refl _) (.cells (madeCells #[.int .i64 0] m) 3))
    have HI0 := Lib.hid ((hI.step hb1).alloc (Nat.le_refl _) (.cells (madeCells #[.int .i64 0] m) 3))
    have hz := own_zeros_q (q := .i64) (T := 3) (w := w1) (B := w1.heap.size) (n := m) (Nat.le_refl _) (by omega)
    rw [← HZ0.out] at hz
    have hb2 := Lib.hid ((Below.refl w1.heap.size w1).alloc (Nat.le_refl _) (.cells (madeCells #[.int .i64 0] m) 3))
    have HZ := Lib.hid hz
    have HB1 := Lib.hid hb1
    clear hown hR hz hb1 hO hI HZ0
    go_wp2_with fail
    go_loopw [7] (fun i wr => ∃ t : Nat, t ≤ m ∧ i = .int .i64 (t : Int) ∧ Hid (wr.ownsRow w1.heap.size 3 1 (.slice (some ⟨w1.heap.size, 0, none⟩) m m) m ((deI xs t).map (Value.int .i64))) ∧ Hid (Below w1.heap.size w1 wr) ∧ Hid (Rd .i64 wr w1.heap.size A1 m (ordI m m)) ∧ Hid (Rd .i64 wr w1.heap.size A m xs)) (fun i _ => m - (intOf i).toNat)
    case atStart => exact ⟨0, Nat.zero_le _, rfl, HZ, hb2, HR0, HI0⟩
    case round =>
      clear HZ hb2 HR0 HI0
      obtain ⟨t, ht, rfl, hO, hb, hR, hJ⟩ := hrel
      by_cases hlt : t < m
      · obtain ⟨b, off, rfl, hb1, hc⟩ := hR.out.cells t hlt
        obtain ⟨b2, off2, rfl, hb2, hc2⟩ := hJ.out.cells t hlt
        rw [ordI_pi hlt] at hc
        have hpl := piK_lt hS.out t
        obtain ⟨v, hv⟩ := HCL.out _ _ _ _ _ hO.out hpl
        have hf := hO.out.frozenAt (piK m t)
        have hO2 := Lib.hid (HST.out _ _ _ _ hO.out)
        have hb3 := Lib.hid (hb.out.setCell (p := ⟨w1.heap.size, piK m t, none⟩) (Nat.le_refl _) (.int .i64 (xs[t]?.getD 0)))
        have hR2 := Lib.hid (hR.out.setCell (p := ⟨w1.heap.size, piK m t, none⟩) (Nat.le_refl _) (.int .i64 (xs[t]?.getD 0)))
        have hJ2 := Lib.hid (hJ.out.setCell (p := ⟨w1.heap.size, piK m t, none⟩) (Nat.le_refl _) (.int .i64 (xs[t]?.getD 0)))
        have ht0 : (0 : Int) ≤ (t : Int) := by omega
        have ht1 : (t : Int) < (m : Int) := by omega
        have hp0 : (0 : Int) ≤ ((piK m t : Nat) : Int) := by omega
        have hp1 : ((piK m t : Nat) : Int) < (m : Int) := by omega
        generalize piK m t = p at *
        generalize xs[t]?.getD 0 = x at *
        clear hO hb hR hJ
        go_wp2_with fail
        go_still_tail 10, (by kernel_rfl)
        change wpList _ _ _ _ _ wr.drew
        have hO3 : Hid ((World.setCell wr.drew ⟨w1.heap.size, p, none⟩ (.int .i64 x)).ownsRow w1.heap.size 3 1 (.slice (some ⟨w1.heap.size, 0, none⟩) m m) m ((deI xs (t + 1)).map (Value.int .i64))) := Lib.hid (World.ownsRow.drew hO2.out)
        have hb4 : Hid (Below w1.heap.size w1 (World.setCell wr.drew ⟨w1.heap.size, p, none⟩ (.int .i64 x))) := Lib.hid hb3.out.drew
        have hR3 : Hid (Rd .i64 (World.setCell wr.drew ⟨w1.heap.size, p, none⟩ (.int .i64 x)) w1.heap.size _ m (ordI m m)) := Lib.hid hR2.out.drew
        have hJ3 : Hid (Rd .i64 (World.setCell wr.drew ⟨w1.heap.size, p, none⟩ (.int .i64 x)) w1.heap.size _ m xs) := Lib.hid hJ2.out.drew
        have hv' : wr.drew.cell? ⟨w1.heap.size, p, none⟩ = some (.int .i64 v) := hv
        have hf' : wr.drew.frozen? ⟨w1.heap.size, p, none⟩ = false := hf
        clear hO2 hb3 hR2 hJ2 hv hf hc hc2
        go_wp2_with fail
        go_roundw
        case rel => exact ⟨t + 1, by omega, by go_num, hO3, hb4, hR3, hJ3⟩
        case measure => simp [intOf]; omega
      · obtain rfl : t = m := by omega
        clear hlt
        go_wp2_with fail
        go_ret2
        exact RdN.mk_ HL.out (Rd.of_own hO.out) (HB1.out.trans (hb.out.mono HB1.out.size)) rfl
  · have h := Bool.eq_false_iff.2 h
    rw [deS_no h]
    rw [orderS_no h] at hO
    have hmk : ∀ u : World, (Instr.makeSlice 33 (.int .i64 0) (.int .i64 0)).run Tryd.prog u = .ok (.slice (some ⟨u.heap.size, 0, none⟩) 0 0) (u.alloc (.cells (madeCells #[.int .i64 0] 0) 3)) := make_ints 0 (by decide)
    clear h
    go_enter Tryd.func24, Tryd.ntmps24
    go_wp2_with (go_at_call 18; refine hO.out.mono ?_; rintro e w1 ⟨A1, c1, rfl, hown, hb1⟩)
    go_wp2_with fail
    go_loopw [7] (fun i wr => i = .int .i64 0 ∧ Hid (Below w.heap.size w wr)) (fun _ _ => 0)
    case atStart => exact ⟨rfl, Lib.hid (hb1.alloc hb1.size _)⟩
    case round =>
      obtain ⟨rfl, hb⟩ := hrel
      go_wp2_with fail
      go_ret2
      exact ⟨_, _, rfl, Rd.nil _ _ _ _, hb.out⟩
end Go.Proofs.YtfplklbicimhkaaDoor
