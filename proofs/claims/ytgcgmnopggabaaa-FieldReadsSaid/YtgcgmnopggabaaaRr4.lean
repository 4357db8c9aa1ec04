/-
  The reference's reader: GetAll.
-/
import Derived.Test.YtgcgmnopggabaaaRr3
import Derived.Deep.RegionHeld3
namespace Go.Proofs.Ytgcgmnopggabaaa
open Go.RowKit

theorem rga_results {W : World} {tmps : Array Value} {b : Nat} {x y v z : Value} (h4 : tmps.getD 4 undef = .pointer (some ⟨b, 0, none⟩)) (h5 : tmps.getD 5 undef = v) (h6 : tmps.getD 6 undef = z) (hT : Two W b 45 x y) :
    (results Try.f42 tmps).run Try.prog W = .ok (.tuple #[.agg #[x, y], v, z]) W := by
  have c0 := hT.cell0
  have c1 := hT.cell1
  simp only [Array.getD_eq_getD_getElem?] at h4 h5 h6
  simp [results, Try.results42, go_sem, h4, h5, h6, c0, c1]
theorem getP_le (n p : Nat) (wd : Int) (hp : p ≤ 8 * n) : getP n p wd ≤ 8 * n := by
  unfold getP
  split
  · rename_i h
    unfold getE at h
    split at h
    · simp at h
    · split at h
      · omega
      · simp at h
  · exact hp
theorem gaP_le (n : Nat) (ws : List Int) : ∀ p, p ≤ 8 * n → gaP n p ws ≤ 8 * n := by
  induction ws with
  | nil => intro p hp; exact hp
  | cons wd ws ih => intro p hp; exact ih _ (getP_le n p wd hp)
/-- What the reference's GetAll returns. -/
def RgaR (w : World) (A : Option Addr) (m c : Nat) (q : Nat) (l : List Int) (er : Int) (e : Ending) (w' : World) : Prop :=
  ∃ A' c', e = .returned (.tuple #[rrV A m c q, .slice A' l.length c', .int .i64 er]) ∧ w'.ownsRow w.heap.size 33 1 (.slice A' l.length c') l.length (l.map (Value.int .u64)) ∧ Below w.heap.size w w'
theorem RgaR.mk_ {w w' : World} {A A' : Option Addr} {m c q k c' : Nat} {l : List Int} {er x : Int} (hx : x = (q : Int)) (hk : k = l.length) (ho : w'.ownsRow w.heap.size 33 1 (.slice A' k c') k (l.map (Value.int .u64))) (hb : Below w.heap.size w w') : RgaR w A m c q l er (.returned (.tuple #[.agg #[.slice A m c, .int .i64 x], .slice A' k c', .int .i64 er])) w' := by
  subst hk hx
  exact ⟨A', c', rfl, ho, hb⟩
/-- append of one u64. -/
theorem u64_append {u : World} {base k c1 s : Nat} {A1 : Option Addr} {l : List Int} {x : Int} (hO : u.ownsRow base 33 1 (.slice A1 k c1) k (l.map (Value.int .u64))) (hs : u.heap.size = s) (hk : k ≤ 1000) (hb : base ≤ u.heap.size) :
    ∃ A3 c3 w3, (Builtin.append_ #[62, 62] 62 #[.slice A1 k c1, .slice (some ⟨s, 0, none⟩) 1 1]).run Try.prog (u.alloc (.cells #[.int .u64 x] 33)) = .ok (.slice A3 (k + 1) c3) w3 ∧
      w3.ownsRow base 33 1 (.slice A3 (k + 1) c3) (k + 1) ((l ++ [x]).map (Value.int .u64)) ∧ (∀ B v, Below B v u → B ≤ base → B ≤ v.heap.size → Below B v w3) := by
  subst hs
  obtain ⟨i0, hi, hz0, hz1, hz2⟩ := info_parts Try.info_u64
  have hnew := World.alloc_heap_new u (.cells #[.int .u64 x] 33)
  obtain ⟨v', w3, h1, h2, h3, _⟩ := run_append_own (P := Try.prog) (u.alloc (.cells #[.int .u64 x] 33)) base 62 62 33 i0 (.int .u64 0) 1 8 Try.underlying62 hi hz0 hz1 hz2 rfl (by decide) _ k _ (hO.alloc _) ⟨u.heap.size, 0, none⟩ 1 1 [.int .u64 x] rfl (World.news_of_block (cs := #[.int .u64 x]) hnew) (by simp [Value.oneCell']) (by unfold maxLen; omega) (by omega) (by simp; omega)
  obtain ⟨A3, c3, rfl⟩ := ownsRow_shape h2
  exact ⟨A3, c3, w3, h1, by simpa using h2, fun B v h hB hv => (h.alloc (Nat.le_trans hv h.size) _).grown h3 (by have := h.size; simp; omega) (fun g hg => Nat.le_trans hB (hO.lt g hg).1)⟩

set_option maxRecDepth 100000 in
set_option maxHeartbeats 1000000 in
theorem rgetAll_any {w : World} {A A1 : Option Addr} {m c p n k1 c1 : Nat} {xs ws : List Int} (h : RrAt w A m c xs p) (hn : xs.length = n) (hR : Rd .i64 w w.heap.size A1 k1 ws) (hk1 : k1 ≤ 1000) :
    Calls Try.prog 42 #[rrV A m c p, .slice A1 k1 c1] w (RgaR w A m c (gaPos n p ws) (gaL xs n p ws) (gaE n p ws)) := by
  have HH := Lib.hid h
  have HR := Lib.hid hR
  have HN := Lib.hid hn
  clear h hR hn
  unfold rrV
  go_enter Try.func42, Try.ntmps42
  go_wp2_with fail
  have hb3 : Below w.heap.size w (((w.alloc (.cells #[.slice A m c, .int .i64 p] 45)).alloc (.cells #[.slice none 0 0, .int .i64 0] 45)).alloc (.cells #[.slice A m c, .int .i64 p] 45)) := (below2 w _ _).alloc (by simp; omega) _
  have hT0 : Two (((w.alloc (.cells #[.slice A m c, .int .i64 p] 45)).alloc (.cells #[.slice none 0 0, .int .i64 0] 45)).alloc (.cells #[.slice A m c, .int .i64 p] 45)) w.heap.size 45 (.slice A m c) (.int .i64 p) := ((Two.new w _ _ _).alloc _).alloc _
  have hT1 : Two (((w.alloc (.cells #[.slice A m c, .int .i64 p] 45)).alloc (.cells #[.slice none 0 0, .int .i64 0] 45)).alloc (.cells #[.slice A m c, .int .i64 p] 45)) (w.heap.size + 1) 45 (.slice none 0 0) (.int .i64 0) := (two_new1 w _ _ _ _).alloc _
  have hT2 : Two (((w.alloc (.cells #[.slice A m c, .int .i64 p] 45)).alloc (.cells #[.slice none 0 0, .int .i64 0] 45)).alloc (.cells #[.slice A m c, .int .i64 p] 45)) (w.heap.size + 2) 45 (.slice A m c) (.int .i64 p) := by
    have := two_new1 (w.alloc (.cells #[.slice A m c, .int .i64 p] 45)) (.cells #[.slice none 0 0, .int .i64 0] 45) 45 (.slice A m c) (.int .i64 p)
    rwa [show (w.alloc (.cells #[.slice A m c, .int .i64 p] 45)).heap.size + 1 = w.heap.size + 2 by simp] at this
  have HB3 := Lib.hid hb3
  have HT := Lib.hid (And.intro hT0 (And.intro hT1 hT2))
  have hsz3 : Hid (w.heap.size + 3 ≤ (((w.alloc (.cells #[.slice A m c, .int .i64 p] 45)).alloc (.cells #[.slice none 0 0, .int .i64 0] 45)).alloc (.cells #[.slice A m c, .int .i64 p] 45)).heap.size) := Lib.hid (by simp)
  clear hb3 hT0 hT1 hT2
  generalize ((w.alloc (.cells #[.slice A m c, .int .i64 p] 45)).alloc (.cells #[.slice none 0 0, .int .i64 0] 45)).alloc (.cells #[.slice A m c, .int .i64 p] 45) = w0 at *
  go_loopw [8, 9] (fun p2 i wr => ∃ (k : Nat) (A2 : Option Addr) (c2 : Nat), k ≤ k1 ∧ i = .int .i64 k ∧ p2 = .slice A2 k c2 ∧ Hid (gaE n p (ws.take k) = 0) ∧ Hid (Two wr w.heap.size 45 (.slice A m c) (.int .i64 (gaP n p (ws.take k) : Nat)) ∧ Two wr (w.heap.size + 1) 45 (.slice none 0 0) (.int .i64 0) ∧ Two wr (w.heap.size + 2) 45 (.slice A m c) (.int .i64 p)) ∧ Hid (w.heap.size + 3 ≤ wr.heap.size ∧ Below w.heap.size w wr) ∧ Hid (wr.ownsRow (w.heap.size + 3) 33 1 (.slice A2 k c2) k ((gaV xs n p (ws.take k)).map (Value.int .u64))))
    (fun _ i _ => k1 - (intOf i).toNat)
  case atStart => exact ⟨0, none, 0, Nat.zero_le _, rfl, rfl, Lib.hid rfl, Lib.hid (by simpa [gaP] using HT.out), Lib.hid ⟨hsz3.out, HB3.out⟩, Lib.hid (by simpa [gaV] using World.ownsRow_nil w0 (w.heap.size + 3) 33 1)⟩
  case round =>
    obtain ⟨k, A2, c2, hk, rfl, rfl, hE, hT, hB, hO⟩ := hrel
    by_cases hlt : k < k1
    · obtain ⟨b, off, rfl, hb, hc⟩ := (HR.out.step hB.out.2).cells k hlt
      have hk0 : (0 : Int) ≤ (k : Int) := by omega
      have hk1' : (k : Int) < (k1 : Int) := by omega
      have hwl := Lib.hid (show k < ws.length by rw [HR.out.len]; exact hlt)
      have hpos : Hid (gaP n p (ws.take k) ≤ m) := Lib.hid (by have h1 := HH.out.len; have h2 := HN.out; have h3 := HH.out.pos; have := gaP_le n (ws.take k) p (by omega); omega)
      have hps := Lib.hid (show gaP n p (ws.take (k + 1)) = getP n (gaP n p (ws.take k)) (ws[k]?.getD 0) by rw [take_snoc ws k hwl.out 0, gaP_snoc])
      have hvs := Lib.hid (show gaV xs n p (ws.take (k + 1)) = gaV xs n p (ws.take k) ++ [getV xs n (gaP n p (ws.take k)) (ws[k]?.getD 0)] by rw [take_snoc ws k hwl.out 0, gaV_snoc])
      have hfe := Lib.hid (gaE_first (p := p) (n := n) hwl.out hE.out)
      have hse := Lib.hid (gaE_step (p := p) (n := n) hwl.out hE.out)
      generalize hgp : gaP n p (ws.take k) = gp at *
      clear hgp
      have hG : Hid (∀ w', Below wr.heap.size wr w' → Calls Try.prog 40 #[.agg #[.slice A m c, .int .i64 gp], .int .i64 (ws[k]?.getD 0)] w' fun e w2 => e = .returned (.tuple #[.agg #[.slice A m c, .int .i64 (getP n gp (ws[k]?.getD 0) : Nat)], .int .u64 (getV xs n gp (ws[k]?.getD 0)), .int .i64 (getE n gp (ws[k]?.getD 0))]) ∧ Below w'.heap.size w' w2) := Lib.hid (fun w' hb' => rget_any (xs := xs) (n := n) (⟨((HH.out.rd.step hB.out.2).step hb'), HH.out.len, hpos.out, HH.out.cap, HH.out.size⟩) HN.out)
      generalize ws[k]?.getD 0 = wd at *
      generalize getE n gp wd = er at *
      generalize getV xs n gp wd = vv at *
      generalize getP n gp wd = pp at *
      have q0 := hT.out.1.cell0
      have q1 := hT.out.1.cell1
      have hs0 : w.heap.size < wr.heap.size := by have := hB.out.1; omega
      have hbA : Hid (Below wr.heap.size wr wr.drew) := Lib.hid (Below.refl _ wr).drew
      have hbB : Hid (Below wr.heap.size wr (World.drew (wr.alloc (.cells #[.slice none 0 0, .int .i64 0] 45)))) := Lib.hid ((Below.refl _ wr).alloc (Nat.le_refl _) _).drew
      have hZ : Hid (∀ w2, Below (World.drew (wr.alloc (.cells #[.slice none 0 0, .int .i64 0] 45))).heap.size (World.drew (wr.alloc (.cells #[.slice none 0 0, .int .i64 0] 45))) w2 → Two w2 wr.heap.size 45 (.slice none 0 0) (.int .i64 0)) := Lib.hid (fun w2 hb' => (show Two (World.drew (wr.alloc (.cells #[.slice none 0 0, .int .i64 0] 45))) wr.heap.size 45 (.slice none 0 0) (.int .i64 0) from Two.new wr _ _ _).save (X := fun i => wr.heap.size + 1 ≤ i) ⟨hb'.os, hb'.tape, hb'.output, hb'.size, fun i hi hn => hb'.block i (by simpa using hi)⟩ (by omega))
      go_wp2_with fail
      go_region_held3 (fun w' => w'.cell? ⟨b, off + k, none⟩ = some (.int .i64 wd) ∧ w'.cell? ⟨w.heap.size, 0, none⟩ = some (.slice A m c) ∧ w'.cell? ⟨w.heap.size, 1, none⟩ = some (.int .i64 gp))
        (first
          | go_keep
          | exact ⟨(hnew.cell (p := ⟨b, off + k, none⟩) hb).trans hc, (hnew.cell (p := ⟨w.heap.size, 0, none⟩) hs0).trans q0, (hnew.cell (p := ⟨w.heap.size, 1, none⟩) hs0).trans q1⟩
          | exact ⟨((hnew.alloc hnew.size _).cell (p := ⟨b, off + k, none⟩) hb).trans hc, ((hnew.alloc hnew.size _).cell (p := ⟨w.heap.size, 0, none⟩) hs0).trans q0, ((hnew.alloc hnew.size _).cell (p := ⟨w.heap.size, 1, none⟩) hs0).trans q1⟩
          | exact ⟨(((hnew.setCell (p := ⟨wr.heap.size, 0, none⟩) (Nat.le_refl _) _).setCell (p := ⟨wr.heap.size, 1, none⟩) (Nat.le_refl _) _).cell (p := ⟨b, off + k, none⟩) hb).trans hc, (((hnew.setCell (p := ⟨wr.heap.size, 0, none⟩) (Nat.le_refl _) _).setCell (p := ⟨wr.heap.size, 1, none⟩) (Nat.le_refl _) _).cell (p := ⟨w.heap.size, 0, none⟩) hs0).trans q0, (((hnew.setCell (p := ⟨wr.heap.size, 0, none⟩) (Nat.le_refl _) _).setCell (p := ⟨wr.heap.size, 1, none⟩) (Nat.le_refl _) _).cell (p := ⟨w.heap.size, 1, none⟩) hs0).trans q1⟩)
        (first
          | (go_at_call 40; refine (hG.out wr.drew hbA.out).mono ?_; rintro e w2 ⟨rfl, hnew0⟩; have hnew : Below wr.heap.size wr w2 := ⟨hnew0.os, hnew0.tape, hnew0.output, hnew0.size, hnew0.block⟩; clear hnew0)
          | (go_at_call 40; refine (hG.out (World.drew (wr.alloc (.cells #[.slice none 0 0, .int .i64 0] 45))) hbB.out).mono ?_; rintro e w2 ⟨rfl, hnew0⟩; have hnew : Below wr.heap.size wr w2 := hbB.out.trans (hnew0.mono hbB.out.size); have hz := hZ.out w2 hnew0; have z0 := hz.cell0; have z1 := hz.cell1; have zf0 := hz.frozen 0; have zf1 := hz.frozen 1; clear hnew0))
      · have hbl := hnew.alloc hnew.size (.cells #[.slice A m c, .int .i64 pp] 45)
        have hob := Two.new w2 45 (.slice A m c) (.int .i64 pp)
        have hobr : wr.heap.size ≤ w2.heap.size := hnew.size
        clear hnew
        generalize w2.alloc (.cells #[.slice A m c, .int .i64 pp] 45) = W at *
        generalize w2.heap.size = ob at *
        have hT' : Hid (Two W w.heap.size 45 (.slice A m c) (.int .i64 gp) ∧ Two W (w.heap.size + 1) 45 (.slice none 0 0) (.int .i64 0) ∧ Two W (w.heap.size + 2) 45 (.slice A m c) (.int .i64 p)) := Lib.hid ⟨hT.out.1.save (X := fun i => wr.heap.size ≤ i) (Save.of_below hbl) (by omega), hT.out.2.1.save (X := fun i => wr.heap.size ≤ i) (Save.of_below hbl) (by have := hB.out.1; omega), hT.out.2.2.save (X := fun i => wr.heap.size ≤ i) (Save.of_below hbl) (by have := hB.out.1; omega)⟩
        have hO' : Hid (W.ownsRow (w.heap.size + 3) 33 1 (.slice A2 k c2) k ((gaV xs n p (ws.take k)).map (Value.int .u64))) := Lib.hid (ownsRow_save hO.out (Save.of_below (X := fun i => wr.heap.size ≤ i) hbl) (fun g hg => by have := (hO.out.lt g hg).2; omega))
        have hB' : Hid (w.heap.size + 3 ≤ W.heap.size ∧ Below w.heap.size w W) := Lib.hid ⟨Nat.le_trans hB.out.1 hbl.size, hB.out.2.trans (hbl.mono hB.out.2.size)⟩
        have o0 := hob.cell0
        have o1 := hob.cell1
        clear q0 q1 hc hbl hob
        by_cases hz : er = 0
        · have hdz : (er != 0) = false := by simp [hz]
          have hE2 := Lib.hid (hse.out hz)
          clear hz
          have p0 := hT'.out.1.cell0
          have p1 := hT'.out.1.cell1
          have pf0 := hT'.out.1.frozen 0
          have pf1 := hT'.out.1.frozen 1
          have hS9 : Save (· = w.heap.size) W ((W.setCell ⟨w.heap.size, 0, none⟩ (.slice A m c)).setCell ⟨w.heap.size, 1, none⟩ (.int .i64 pp)) := save_sets (Save.refl (· = w.heap.size) W) _ _
          have hO9 := ownsRow_save hO'.out hS9 (fun g hg e => by have := (hO'.out.lt g hg).1; omega)
          have hT9 := two_sets hT'.out.1 (.slice A m c) (.int .i64 pp)
          have hB9 := Below.save hB'.out.2 hS9 (fun i hi => by omega) (Nat.le_refl _)
          obtain ⟨A3, c3, w3, hrun, hown3, hb3⟩ := u64_append (x := vv) (s := W.heap.size) hO9 (by simp [World.setCell]) (by omega) (by have := hB'.out.1; simp [World.setCell]; omega)
          have hb9 := hb3 (w.heap.size + 3) _ (Below.refl _ _) (Nat.le_refl _) (by have := hB'.out.1; simpa [World.setCell] using this)
          have hbw := hb3 w.heap.size w hB9 (by omega) (Nat.le_refl _)
          have hS3 : Save (fun i => w.heap.size + 3 ≤ i) ((W.setCell ⟨w.heap.size, 0, none⟩ (.slice A m c)).setCell ⟨w.heap.size, 1, none⟩ (.int .i64 pp)) w3 := ⟨hb9.os, hb9.tape, hb9.output, hb9.size, fun i _ hn => hb9.block i (by omega)⟩
          have HT3 : Hid (Two w3 w.heap.size 45 (.slice A m c) (.int .i64 pp) ∧ Two w3 (w.heap.size + 1) 45 (.slice none 0 0) (.int .i64 0) ∧ Two w3 (w.heap.size + 2) 45 (.slice A m c) (.int .i64 p)) := Lib.hid ⟨hT9.save hS3 (by omega), (hT'.out.2.1.save hS9 (by omega)).save hS3 (by omega), (hT'.out.2.2.save hS9 (by omega)).save hS3 (by omega)⟩
          have HRn := Lib.hid hrun
          have HO3 := Lib.hid hown3
          have HB3' : Hid (w.heap.size + 3 ≤ w3.heap.size ∧ Below w.heap.size w w3) := Lib.hid ⟨Nat.le_trans (by have := hB'.out.1; simpa [World.setCell] using this) hb9.size, hbw⟩
          clear hrun hown3 hb3 hb9 hbw hS3 hS9 hO9 hT9 hB9
          go_wp2_with (at_builtin; refine Lib.wpList_append_run _ rfl _ _ _ _ rfl _ _ rfl rfl _ _ HRn.out ?_)
          go_roundw
          case rel => exact ⟨k + 1, A3, c3, by omega, by go_num, rfl, hE2, Lib.hid (by rw [hps.out]; exact HT3.out), HB3', Lib.hid (by rw [hvs.out]; exact HO3.out)⟩
          case measure => simp [intOf]; omega
        · have hdz : (er != 0) = true := by simp [hz]
          have hE2 := Lib.hid (hfe.out hz)
          have HZ := Lib.hid hz
          clear hz
          have f0 := hT'.out.2.2.cell0
          have f1 := hT'.out.2.2.cell1
          have r0 := hT'.out.2.1.cell0
          have r1 := hT'.out.2.1.cell1
          have rf0 := hT'.out.2.1.frozen 0
          have rf1 := hT'.out.2.1.frozen 1
          go_wp2_with fail
          have hF := two_sets hT'.out.2.1 (.slice A m c) (.int .i64 p)
          have hS := save_sets (Save.refl (· = w.heap.size + 1) W) (.slice A m c) (.int .i64 p)
          refine bodyPost_ret (rga_results rfl rfl rfl hF) rfl ?_
          have hL : gaL xs n p ws = [] := by unfold gaL; rw [hE2.out, if_neg HZ.out]
          have hQ : gaPos n p ws = p := by unfold gaPos; rw [hE2.out, if_neg HZ.out]
          rw [hL, hQ, hE2.out]
          exact RgaR.mk_ rfl rfl (by simpa using World.ownsRow_nil _ w.heap.size 33 1) (Below.save hB'.out.2 hS (fun i hi => by omega) (Nat.le_refl _))
      · have hbl := (hnew.setCell (p := ⟨wr.heap.size, 0, none⟩) (Nat.le_refl _) (.slice A m c)).setCell (p := ⟨wr.heap.size, 1, none⟩) (Nat.le_refl _) (.int .i64 pp)
        have hob := two_sets hz (.slice A m c) (.int .i64 pp)
        have hobr : wr.heap.size ≤ wr.heap.size := Nat.le_refl _
        clear hnew hz z0 z1 zf0 zf1
        generalize (w2.setCell ⟨wr.heap.size, 0, none⟩ (.slice A m c)).setCell ⟨wr.heap.size, 1, none⟩ (.int .i64 pp) = W at *
        have hT' : Hid (Two W w.heap.size 45 (.slice A m c) (.int .i64 gp) ∧ Two W (w.heap.size + 1) 45 (.slice none 0 0) (.int .i64 0) ∧ Two W (w.heap.size + 2) 45 (.slice A m c) (.int .i64 p)) := Lib.hid ⟨hT.out.1.save (X := fun i => wr.heap.size ≤ i) (Save.of_below hbl) (by omega), hT.out.2.1.save (X := fun i => wr.heap.size ≤ i) (Save.of_below hbl) (by have := hB.out.1; omega), hT.out.2.2.save (X := fun i => wr.heap.size ≤ i) (Save.of_below hbl) (by have := hB.out.1; omega)⟩
        have hO' : Hid (W.ownsRow (w.heap.size + 3) 33 1 (.slice A2 k c2) k ((gaV xs n p (ws.take k)).map (Value.int .u64))) := Lib.hid (ownsRow_save hO.out (Save.of_below (X := fun i => wr.heap.size ≤ i) hbl) (fun g hg => by have := (hO.out.lt g hg).2; omega))
        have hB' : Hid (w.heap.size + 3 ≤ W.heap.size ∧ Below w.heap.size w W) := Lib.hid ⟨Nat.le_trans hB.out.1 hbl.size, hB.out.2.trans (hbl.mono hB.out.2.size)⟩
        have o0 := hob.cell0
        have o1 := hob.cell1
        clear q0 q1 hc hbl hob
        by_cases hz : er = 0
        · have hdz : (er != 0) = false := by simp [hz]
          have hE2 := Lib.hid (hse.out hz)
          clear hz
          have p0 := hT'.out.1.cell0
          have p1 := hT'.out.1.cell1
          have pf0 := hT'.out.1.frozen 0
          have pf1 := hT'.out.1.frozen 1
          have hS9 : Save (· = w.heap.size) W ((W.setCell ⟨w.heap.size, 0, none⟩ (.slice A m c)).setCell ⟨w.heap.size, 1, none⟩ (.int .i64 pp)) := save_sets (Save.refl (· = w.heap.size) W) _ _
          have hO9 := ownsRow_save hO'.out hS9 (fun g hg e => by have := (hO'.out.lt g hg).1; omega)
          have hT9 := two_sets hT'.out.1 (.slice A m c) (.int .i64 pp)
          have hB9 := Below.save hB'.out.2 hS9 (fun i hi => by omega) (Nat.le_refl _)
          obtain ⟨A3, c3, w3, hrun, hown3, hb3⟩ := u64_append (x := vv) (s := W.heap.size) hO9 (by simp [World.setCell]) (by omega) (by have := hB'.out.1; simp [World.setCell]; omega)
          have hb9 := hb3 (w.heap.size + 3) _ (Below.refl _ _) (Nat.le_refl _) (by have := hB'.out.1; simpa [World.setCell] using this)
          have hbw := hb3 w.heap.size w hB9 (by omega) (Nat.le_refl _)
          have hS3 : Save (fun i => w.heap.size + 3 ≤ i) ((W.setCell ⟨w.heap.size, 0, none⟩ (.slice A m c)).setCell ⟨w.heap.size, 1, none⟩ (.int .i64 pp)) w3 := ⟨hb9.os, hb9.tape, hb9.output, hb9.size, fun i _ hn => hb9.block i (by omega)⟩
          have HT3 : Hid (Two w3 w.heap.size 45 (.slice A m c) (.int .i64 pp) ∧ Two w3 (w.heap.size + 1) 45 (.slice none 0 0) (.int .i64 0) ∧ Two w3 (w.heap.size + 2) 45 (.slice A m c) (.int .i64 p)) := Lib.hid ⟨hT9.save hS3 (by omega), (hT'.out.2.1.save hS9 (by omega)).save hS3 (by omega), (hT'.out.2.2.save hS9 (by omega)).save hS3 (by omega)⟩
          have HRn := Lib.hid hrun
          have HO3 := Lib.hid hown3
          have HB3' : Hid (w.heap.size + 3 ≤ w3.heap.size ∧ Below w.heap.size w w3) := Lib.hid ⟨Nat.le_trans (by have := hB'.out.1; simpa [World.setCell] using this) hb9.size, hbw⟩
          clear hrun hown3 hb3 hb9 hbw hS3 hS9 hO9 hT9 hB9
          go_wp2_with (at_builtin; refine Lib.wpList_append_run _ rfl _ _ _ _ rfl _ _ rfl rfl _ _ HRn.out ?_)
          go_roundw
          case rel => exact ⟨k + 1, A3, c3, by omega, by go_num, rfl, hE2, Lib.hid (by rw [hps.out]; exact HT3.out), HB3', Lib.hid (by rw [hvs.out]; exact HO3.out)⟩
          case measure => simp [intOf]; omega
        · have hdz : (er != 0) = true := by simp [hz]
          have hE2 := Lib.hid (hfe.out hz)
          have HZ := Lib.hid hz
          clear hz
          have f0 := hT'.out.2.2.cell0
          have f1 := hT'.out.2.2.cell1
          have r0 := hT'.out.2.1.cell0
          have r1 := hT'.out.2.1.cell1
          have rf0 := hT'.out.2.1.frozen 0
          have rf1 := hT'.out.2.1.frozen 1
          go_wp2_with fail
          have hF := two_sets hT'.out.2.1 (.slice A m c) (.int .i64 p)
          have hS := save_sets (Save.refl (· = w.heap.size + 1) W) (.slice A m c) (.int .i64 p)
          refine bodyPost_ret (rga_results rfl rfl rfl hF) rfl ?_
          have hL : gaL xs n p ws = [] := by unfold gaL; rw [hE2.out, if_neg HZ.out]
          have hQ : gaPos n p ws = p := by unfold gaPos; rw [hE2.out, if_neg HZ.out]
          rw [hL, hQ, hE2.out]
          exact RgaR.mk_ rfl rfl (by simpa using World.ownsRow_nil _ w.heap.size 33 1) (Below.save hB'.out.2 hS (fun i hi => by omega) (Nat.le_refl _))
    · obtain rfl : k = k1 := by omega
      clear hlt
      have ht : ws.take k = ws := by rw [← HR.out.len, List.take_length]
      rw [ht] at hE hT hO
      have q0 := hT.out.1.cell0
      have q1 := hT.out.1.cell1
      have r0 := hT.out.2.1.cell0
      have r1 := hT.out.2.1.cell1
      have rf0 := hT.out.2.1.frozen 0
      have rf1 := hT.out.2.1.frozen 1
      have hL : Hid (gaL xs n p ws = gaV xs n p ws) := Lib.hid (by unfold gaL; rw [hE.out, if_pos rfl])
      have hQ : Hid (gaPos n p ws = gaP n p ws) := Lib.hid (by unfold gaPos; rw [hE.out, if_pos rfl])
      go_wp2_with fail
      have hF := two_sets hT.out.2.1 (.slice A m c) (.int .i64 (gaP n p ws : Nat))
      have hS := save_sets (Save.refl (· = w.heap.size + 1) wr) (.slice A m c) (.int .i64 (gaP n p ws : Nat))
      refine bodyPost_ret (rga_results rfl rfl rfl hF) rfl ?_
      rw [hL.out, hQ.out, hE.out]
      exact RgaR.mk_ rfl (by rw [gaV_len, HR.out.len]) (ownsRow_save (hO.out.mono (base' := w.heap.size) (by omega)) hS (fun g hg e => by have := (hO.out.lt g hg).1; omega)) (Below.save hB.out.2 hS (fun i hi => by omega) (Nat.le_refl _))
end Go.Proofs.Ytgcgmnopggabaaa
