/-
  The reader: GetAll.
-/
import Derived.Test.YtgcgmnopggabaaaRd3
namespace Go.Proofs.Ytgcgmnopggabaaa
open Go.RowKit

def gaV (xs : List Int) (n : Nat) : Nat → List Int → List Int
  | _, [] => []
  | p, wd :: r => getV xs n p wd :: gaV xs n (getP n p wd) r
def gaP (n : Nat) : Nat → List Int → Nat
  | p, [] => p
  | p, wd :: r => gaP n (getP n p wd) r
def gaE (n : Nat) : Nat → List Int → Int
  | _, [] => 0
  | p, wd :: r => if getE n p wd ≠ 0 then getE n p wd else gaE n (getP n p wd) r
theorem gaP_snoc (n : Nat) (l : List Int) (wd : Int) : ∀ p, gaP n p (l ++ [wd]) = getP n (gaP n p l) wd := by
  induction l with
  | nil => intro p; rfl
  | cons a l ih => intro p; exact ih _
theorem gaV_snoc (xs : List Int) (n : Nat) (l : List Int) (wd : Int) : ∀ p, gaV xs n p (l ++ [wd]) = gaV xs n p l ++ [getV xs n (gaP n p l) wd] := by
  induction l with
  | nil => intro p; rfl
  | cons a l ih => intro p; simp only [List.cons_append, gaV, gaP]; rw [ih]
theorem gaV_len (xs : List Int) (n : Nat) (l : List Int) : ∀ p, (gaV xs n p l).length = l.length := by
  induction l with
  | nil => intro p; rfl
  | cons a l ih => intro p; simp [gaV, ih]
theorem gaE_append (n : Nat) (l r : List Int) : ∀ p, gaE n p (l ++ r) = if gaE n p l ≠ 0 then gaE n p l else gaE n (gaP n p l) r := by
  induction l with
  | nil => intro p; simp [gaE, gaP]
  | cons a l ih =>
    intro p
    simp only [List.cons_append, gaE, gaP]
    by_cases h : getE n p a = 0
    · simp [h, ih]
    · simp [h]
theorem gaE_first {n p k : Nat} {ws : List Int} (hk : k < ws.length) (h0 : gaE n p (ws.take k) = 0) (h1 : getE n (gaP n p (ws.take k)) (ws[k]?.getD 0) ≠ 0) : gaE n p ws = getE n (gaP n p (ws.take k)) (ws[k]?.getD 0) := by
  have e : ws = ws.take (k + 1) ++ ws.drop (k + 1) := (List.take_append_drop _ _).symm
  have e2 := take_snoc ws k hk 0
  have h2 : gaE n p (ws.take (k + 1)) = getE n (gaP n p (ws.take k)) (ws[k]?.getD 0) := by
    rw [e2, gaE_append, if_neg (by rw [h0]; decide)]
    simp only [gaE]
    rw [if_pos h1]
  conv => lhs; rw [e]
  rw [gaE_append, if_pos (by rw [h2]; exact h1), h2]
theorem gaE_step {n p k : Nat} {ws : List Int} (hk : k < ws.length) (h0 : gaE n p (ws.take k) = 0) (h1 : getE n (gaP n p (ws.take k)) (ws[k]?.getD 0) = 0) : gaE n p (ws.take (k + 1)) = 0 := by
  rw [take_snoc ws k hk 0, gaE_append, if_neg (by rw [h0]; decide)]
  simp [gaE, h1]

theorem Rd.save0 {q : IntKind} {w w' : World} {X : Nat → Prop} {B n : Nat} {A : Option Addr} {xs : List Int} (h : Rd q w B A n xs) (hs : Save X w w') (hB : B ≤ w.heap.size) (hX : 0 < n → ∀ a, A = some a → ¬ X a.block) : Rd q w' B A n xs := by
  rcases Nat.eq_zero_or_pos n with h0 | hp
  · subst h0
    obtain rfl := List.eq_nil_of_length_eq_zero h.len
    exact Rd.nil _ _ _ _
  · exact h.save hs hB (hX hp)
theorem gaV_take_succ {xs ws : List Int} {n p j m : Nat} (hj : j < m) (hl : ws.length = m) : ((gaV xs n p (ws.take j) ++ List.replicate (m - j) (0 : Int)).set j (getV xs n (gaP n p (ws.take j)) (ws[j]?.getD 0))) = gaV xs n p (ws.take (j + 1)) ++ List.replicate (m - (j + 1)) (0 : Int) := by
  have h1 : (gaV xs n p (ws.take j)).length = j := by rw [gaV_len, List.length_take]; omega
  rw [List.set_append_right _ _ (by omega), h1, Nat.sub_self, show m - j = (m - (j + 1)) + 1 by omega, List.replicate_succ, List.set_cons_zero, take_snoc ws j (by omega) 0, gaV_snoc, List.append_assoc]
  rfl
theorem Try.info_u64 : (Try.prog.info? 33).map (fun i => (i.zero, i.size, i.bytes)) = some (some (.int .u64 0), 1, 8) := by kernel_rfl
theorem make_u64 (m : Nat) (hn : m ≤ 1000000) (u : World) : (Instr.makeSlice 62 (.int .i64 m) (.int .i64 m)).run Try.prog u =
    .ok (.slice (some ⟨u.heap.size, 0, none⟩) m m) (u.alloc (.cells (madeCells #[.int .u64 0] m) 33)) := by
  obtain ⟨i0, hi, hz0, hz1, hz2⟩ := info_parts Try.info_u64
  have h := run_make (P := Try.prog) u 62 33 i0 (.int .u64 0) Try.underlying62 hi hz0 .i64 .i64 (m : Int) (m : Int) (by omega) (by omega) (by rw [hz2]; omega) (by omega)
  simpa [hz1, Value.cells] using h
theorem own_zeros64 {w : World} {B m : Nat} (hB : B ≤ w.heap.size) (hn : m ≤ 1000000) : (w.alloc (.cells (madeCells #[.int .u64 0] m) 33)).ownsRow B 33 1 (.slice (some ⟨w.heap.size, 0, none⟩) m m) m ((List.replicate m (0 : Int)).map (Value.int .u64)) := by
  refine ⟨by simp, .inr ⟨w.heap.size, m, madeCells #[.int .u64 0] m, rfl, hB, heap_alloc_new w _, Nat.le_refl _, by unfold maxLen; omega, by simp [madeCells], ?_⟩⟩
  rw [toList_madeCells_one, Nat.mul_one, List.take_replicate, List.map_replicate, Nat.min_self]

def gaL (xs : List Int) (n p : Nat) (ws : List Int) : List Int := if gaE n p ws = 0 then gaV xs n p ws else []
def gaQ (n p : Nat) (ws : List Int) (q : Nat) : Prop := gaE n p ws = 0 → q = gaP n p ws
/-- What readList and GetAll return. -/
def RlR (w : World) (B : Nat) (A : Option Addr) (n c : Nat) (xs : List Int) (l : List Int) (er : Int) (Q : Nat → Prop) (e : Ending) (w' : World) : Prop :=
  ∃ A' c' q, e = .returned (.tuple #[.slice A' l.length c', .int .i64 er]) ∧ w'.ownsRow w.heap.size 33 1 (.slice A' l.length c') l.length (l.map (Value.int .u64)) ∧ RdrAt w' B A n c xs q ∧ Q q ∧ Save (· = B) w w'
theorem RlR.mk_ {w w' : World} {B n c q k c' : Nat} {A A' : Option Addr} {xs l : List Int} {er : Int} {Q : Nat → Prop} (hk : k = l.length) (ho : w'.ownsRow w.heap.size 33 1 (.slice A' k c') k (l.map (Value.int .u64))) (hr : RdrAt w' B A n c xs q) (hq : Q q) (hs : Save (· = B) w w') : RlR w B A n c xs l er Q (.returned (.tuple #[.slice A' k c', .int .i64 er])) w' := by
  subst hk
  exact ⟨A', c', q, rfl, ho, hr, hq, hs⟩
set_option maxRecDepth 100000 in
set_option maxHeartbeats 2000000 in
theorem readList_any {w : World} {B n c p m c1 Bl : Nat} {A A1 : Option Addr} {xs ws : List Int} (h : RdrAt w B A n c xs p) (hR : Rd .i64 w Bl A1 m ws) (hBl : Bl ≤ w.heap.size) (hm : m ≤ 1000000) (hA1 : 0 < m → ∀ a, A1 = some a → a.block ≠ B) :
    Calls Try.prog 50 #[.func (.func 24) #[.pointer (some ⟨B, 0, none⟩)] #[], .slice A1 m c1] w
      (RlR w B A n c xs (gaL xs n p ws) (gaE n p ws) (gaQ n p ws)) := by
  have hBw := h.blk.lt
  have hmk : ∀ u : World, (Instr.makeSlice 62 (.int .i64 m) (.int .i64 m)).run Try.prog u = .ok (.slice (some ⟨u.heap.size, 0, none⟩) m m) (u.alloc (.cells (madeCells #[.int .u64 0] m) 33)) := make_u64 m hm
  have HH := Lib.hid h
  have HR := Lib.hid hR
  have HA := Lib.hid hA1
  clear h hR hA1
  go_enter Try.func50, Try.ntmps50
  go_wp2_with fail
  have hRA : RdrAt (w.alloc (.cells (madeCells #[.int .u64 0] m) 33)) B A n c xs p ∧ Save (· = B) w (w.alloc (.cells (madeCells #[.int .u64 0] m) 33)) := by
    have hs : Save (fun _ => False) w (w.alloc (.cells (madeCells #[.int .u64 0] m) 33)) := (Save.refl _ w).alloc _
    exact ⟨HH.out.save hs (fun h => h) (fun _ _ h => h), (Save.refl _ w).alloc _⟩
  have hOA : World.ownsRow (w.alloc (.cells (madeCells #[.int .u64 0] m) 33)) w.heap.size 33 1 (.slice (some ⟨w.heap.size, 0, none⟩) m m) m ((gaV xs n p (ws.take 0) ++ List.replicate (m - 0) (0 : Int)).map (Value.int .u64)) := by
    simpa [gaV] using own_zeros64 (w := w) (Nat.le_refl _) hm
  have HRA := Lib.hid hRA
  have HOA := Lib.hid hOA
  clear hRA hOA hmk
  generalize w.alloc (.cells (madeCells #[.int .u64 0] m) 33) = w0 at *
  go_loopw [16] (fun i wr => ∃ j : Nat, j ≤ m ∧ i = .int .i64 j ∧ Hid (gaE n p (ws.take j) = 0) ∧ Hid (RdrAt wr B A n c xs (gaP n p (ws.take j)) ∧ Save (· = B) w wr) ∧ Hid (wr.ownsRow w.heap.size 33 1 (.slice (some ⟨w.heap.size, 0, none⟩) m m) m ((gaV xs n p (ws.take j) ++ List.replicate (m - j) (0 : Int)).map (Value.int .u64))))
    (fun i _ => m - (intOf i).toNat)
  case atStart => exact ⟨0, Nat.zero_le _, rfl, Lib.hid (by simp [gaE]), HRA, HOA⟩
  case round =>
    obtain ⟨j, hj, rfl, hE, hP, hO⟩ := hrel
    by_cases hlt : j < m
    · have hRw := (HR.out.save0 hP.out.2 hBl (fun hp a ha hx => HA.out hp a ha hx))
      obtain ⟨b, off, rfl, hb, hc⟩ := hRw.cells j hlt
      have hG := Lib.hid (get_any (wd := ws[j]?.getD 0) hP.out.1)
      unfold GetR at hG
      have hk0 : (0 : Int) ≤ (j : Int) := by omega
      have hk1 : (j : Int) < (m : Int) := by omega
      have hwl := Lib.hid (show j < ws.length by rw [HR.out.len]; exact hlt)
      have hst := Lib.hid (gaV_take_succ (xs := xs) (n := n) (p := p) hlt HR.out.len)
      have hps := Lib.hid (show gaP n p (ws.take (j + 1)) = getP n (gaP n p (ws.take j)) (ws[j]?.getD 0) by rw [take_snoc ws j hwl.out 0, gaP_snoc])
      have hfe := Lib.hid (gaE_first (p := p) (n := n) hwl.out hE.out)
      have hse := Lib.hid (gaE_step (p := p) (n := n) hwl.out hE.out)
      clear hRw
      generalize ws[j]?.getD 0 = wd at *
      generalize getE n (gaP n p (ws.take j)) wd = er at *
      generalize getV xs n (gaP n p (ws.take j)) wd = vv at *
      generalize getP n (gaP n p (ws.take j)) wd = pp at *
      go_wp2_with fail
      refine hG.out.mono ?_
      rintro e w2 ⟨rfl, hR2, hS2⟩
      have hO2 : w2.ownsRow w.heap.size 33 1 (.slice (some ⟨w.heap.size, 0, none⟩) m m) m ((gaV xs n p (ws.take j) ++ List.replicate (m - j) (0 : Int)).map (Value.int .u64)) := ownsRow_save hO.out hS2 (fun g hg => by simp [Value.ownBlock] at hg; omega)
      have hf := hO2.frozenAt j
      have hcc : w2.cell? ⟨w.heap.size, j, none⟩ = some (.int .u64 0) := by
        rw [hO2.cellAt j (by omega), List.getElem?_map, List.getElem?_append_right (by rw [gaV_len, List.length_take]; omega), gaV_len, List.length_take, Nat.min_eq_left (by have := hwl.out; omega), Nat.sub_self]
        rw [List.getElem?_replicate, if_pos (by omega)]; rfl
      have HO2 := Lib.hid hO2
      have HR2 := Lib.hid hR2
      have HS2 := Lib.hid (hP.out.2.trans hS2)
      clear hO2 hR2 hS2
      by_cases hz : er = 0
      · have hdz : (er != 0) = false := by simp [hz]
        have hE2 := Lib.hid (hse.out hz)
        clear hz
        go_wp2_with fail
        go_roundw
        case rel =>
          refine ⟨j + 1, by omega, by go_num, hE2, Lib.hid ⟨?_, ?_⟩, Lib.hid ?_⟩
          · rw [hps.out]
            exact HR2.out.save (X := fun k => k = w.heap.size) ((Save.refl (· = w.heap.size) w2).setCell (p := ⟨w.heap.size, j, none⟩) (fun _ => rfl) _) (by omega) (fun a ha hx => by
              have h1 := HH.out.low a ha
              omega)
          · exact HS2.out.setCell (p := ⟨w.heap.size, j, none⟩) (fun h => by simp at h) _
          · rw [← hst.out, List.map_set]
            exact (HO2.out.stored j _).1
        case measure => simp [intOf]; omega
      · have hdz : (er != 0) = true := by simp [hz]
        have hE2 := Lib.hid (hfe.out hz)
        have HZ := Lib.hid hz
        clear hz
        go_wp2_with fail
        go_ret2
        have hL : gaL xs n p ws = [] := by unfold gaL; rw [hE2.out, if_neg HZ.out]
        have hQ : gaQ n p ws pp := fun h => absurd (hE2.out ▸ h) HZ.out
        rw [hL, hE2.out]
        exact RlR.mk_ rfl (by simpa using World.ownsRow_nil w2 w.heap.size 33 1) HR2.out hQ HS2.out
    · obtain rfl : j = m := by omega
      clear hlt
      have ht : ws.take j = ws := by rw [← HR.out.len, List.take_length]
      have hE' := hE
      have hP' := hP
      have hO' := hO
      rw [ht] at hE' hP' hO'
      go_wp2_with fail
      go_ret2
      have hL : gaL xs n p ws = gaV xs n p ws := by unfold gaL; rw [hE'.out, if_pos rfl]
      rw [hL, hE'.out]
      exact RlR.mk_ (by rw [gaV_len, HR.out.len]) (by simpa using hO'.out) hP'.out.1 (fun _ => rfl) hP'.out.2

theorem ga_results {W : World} {tmps : Array Value} {b k c : Nat} {A : Option Addr} {z : Int} (h4 : tmps.getD 4 undef = .slice A k c) (h5 : tmps.getD 5 undef = .pointer (some ⟨b, 0, none⟩)) (hz : Boxed W b 53 (.int .i64 z)) :
    (results Try.f26 tmps).run Try.prog W = .ok (.tuple #[.slice A k c, .int .i64 z]) W := by
  have c2 := Boxed.cell hz
  simp only [Array.getD_eq_getD_getElem?] at h4 h5
  simp [results, Try.results26, go_sem, h4, h5, c2]
def gaPos (n p : Nat) (ws : List Int) : Nat := if gaE n p ws = 0 then gaP n p ws else p
set_option maxRecDepth 100000 in
set_option maxHeartbeats 2000000 in
theorem getAll_any {w : World} {B n c p m c1 Bl : Nat} {A A1 : Option Addr} {xs ws : List Int} (h : RdrAt w B A n c xs p) (hR : Rd .i64 w Bl A1 m ws) (hBl : Bl ≤ w.heap.size) (hm : m ≤ 1000000) (hA1 : 0 < m → ∀ a, A1 = some a → a.block ≠ B) :
    Calls Try.prog 26 #[.pointer (some ⟨B, 0, none⟩), .slice A1 m c1] w (RlR w B A n c xs (gaL xs n p ws) (gaE n p ws) (· = gaPos n p ws)) := by
  refine (callsIn_wide (n := 6)).1 ?_
  refine callsIn_of_wp_marks Try.func26 rfl trivial ?_ rfl
  simp only [Try.ntmps26, List.size_toArray, List.length_cons, List.length_nil, Nat.reduceAdd, Nat.reduceSub, Array.replicate_succ, Array.replicate_zero, List.push_toArray, List.append_toArray, List.nil_append, List.cons_append]
  have cc1 := (h.blk.alloc (.cells #[.int .i64 0] 53)).cell1
  have hB := h.blk.lt
  have hsv0 : Save (fun _ => False) w (w.alloc (.cells #[.int .i64 0] 53)) := (Save.refl _ _).alloc _
  have hsv : Save (· = B) w (w.alloc (.cells #[.int .i64 0] 53)) := (Save.refl _ _).alloc _
  have h0 : RdrAt (w.alloc (.cells #[.int .i64 0] 53)) B A n c xs p := h.save hsv0 (fun h => h) (fun _ _ h => h)
  have bE := Boxed.new w 53 (.int .i64 0)
  have hL := Lib.hid (readList_any (c1 := c1) h0 (hR.save0 hsv0 hBl (fun _ _ _ h => h)) (by simp; omega) hm hA1)
  have hPos : Hid (gaPos n p ws = if gaE n p ws = 0 then gaP n p ws else p) := Lib.hid rfl
  have hQ : Hid (gaQ n p ws = fun q => gaE n p ws = 0 → q = gaP n p ws) := Lib.hid rfl
  have hpl := h.pos
  generalize gaL xs n p ws = l at *
  generalize gaE n p ws = er at *
  generalize gaP n p ws = gp at *
  generalize gaPos n p ws = gq at *
  clear hR hA1
  gi_wp2_with fail
  refine ⟨trivial, ?_⟩
  refine (callsIn_wide.2 hL.out).mono ?_
  rintro e w1 ⟨A', c', q, rfl, ho, hR1, hq, hs1⟩
  have hs2 : Save (· = B) w w1 := hsv.trans hs1
  have bE1 : Boxed w1 w.heap.size 53 (.int .i64 0) := hs1.heap bE (fun e => by omega)
  have cE := Boxed.cell bE1
  have fE := Boxed.frozen bE1
  rw [hQ.out] at hq
  have HO := Lib.hid ho
  clear bE cc1 ho
  gi_wp2_with fail
  refine door_restore (Boxed.set (.int .i64 er) bE1) (hR1.blk.other (by simp; omega) _) ?_
  rintro W' rfl
  have hs3 : Save (· = B) w (w1.setCell ⟨w.heap.size, 0, none⟩ (.int .i64 er)) := hs2.setCell (fun h => by simp at h) _
  have hnO : ∀ g, (Value.slice A' l.length c').ownBlock = some g → w.heap.size + 1 ≤ g := fun g hg => by have := (HO.out.lt g hg).1; simpa using this
  have ho3 : World.ownsRow (w1.setCell ⟨w.heap.size, 0, none⟩ (.int .i64 er)) w.heap.size 33 1 (.slice A' l.length c') l.length (l.map (Value.int .u64)) :=
    ownsRow_save (X := (· = w.heap.size)) (HO.out.mono (by simp)) ((Save.refl (· = w.heap.size) w1).setCell (p := ⟨w.heap.size, 0, none⟩) (fun _ => rfl) _) (fun g hg => by have := hnO g hg; omega)
  have hR3 : RdrAt (w1.setCell ⟨w.heap.size, 0, none⟩ (.int .i64 er)) B A n c xs q := h.moved hs3 (hR1.blk.other (by simp; omega) _) hR1.pos
  by_cases hz : er = 0
  · rw [if_pos hz]
    refine ⟨_, ga_results rfl rfl (Boxed.set _ bE1), ?_⟩
    exact RlR.mk_ rfl ho3 hR3 (by rw [hPos.out, if_pos hz]; exact hq hz) hs3
  · rw [if_neg hz]
    have hs4 : Save (· = B) w ((w1.setCell ⟨w.heap.size, 0, none⟩ (.int .i64 er)).setCell ⟨B, 1, none⟩ (.int .i64 p)) := hs3.setCell (fun _ => rfl) _
    refine ⟨_, ga_results rfl rfl (Boxed.far (Boxed.set _ bE1) (by simp; omega) _), ?_⟩
    refine RlR.mk_ rfl (ownsRow_save (X := (· = B)) ho3 ((Save.refl (· = B) _).setCell (p := ⟨B, 1, none⟩) (fun _ => rfl) _) (fun g hg => by have := hnO g hg; omega)) ?_ (by rw [hPos.out, if_neg hz]) hs4
    exact h.moved hs4 (Two.set1 hR3.blk _) hpl
end Go.Proofs.Ytgcgmnopggabaaa
