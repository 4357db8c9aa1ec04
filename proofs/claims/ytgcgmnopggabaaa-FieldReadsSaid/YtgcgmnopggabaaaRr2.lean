/-
  The reference's reader: GetBytes, End.
-/
import Derived.Test.YtgcgmnopggabaaaRr1
namespace Go.Proofs.Ytgcgmnopggabaaa
open Go.RowKit

theorem gb_results {W : World} {tmps : Array Value} {b : Nat} {x y v z : Value} (h4 : tmps.getD 4 undef = .pointer (some ⟨b, 0, none⟩)) (h5 : tmps.getD 5 undef = v) (h6 : tmps.getD 6 undef = z) (hT : Two W b 45 x y) :
    (results Try.f41 tmps).run Try.prog W = .ok (.tuple #[.agg #[x, y], v, z]) W := by
  have c0 := hT.cell0
  have c1 := hT.cell1
  simp only [Array.getD_eq_getD_getElem?] at h4 h5 h6
  simp [results, Try.results41, go_sem, h4, h5, h6, c0, c1]
/-- What the reference's GetBytes returns. -/
def RgbR (w : World) (A : Option Addr) (m c : Nat) (q : Nat) (l : List Int) (er : Int) (e : Ending) (w' : World) : Prop :=
  ∃ A' c', e = .returned (.tuple #[rrV A m c q, .slice A' l.length c', .int .i64 er]) ∧ w'.ownsRow w.heap.size 5 1 (.slice A' l.length c') l.length (l.map (Value.int .u8)) ∧ Below w.heap.size w w'
theorem RgbR.mk_ {w w' : World} {A A' : Option Addr} {m c q k c' : Nat} {l : List Int} {er x : Int} (hx : x = (q : Int)) (hk : k = l.length) (ho : w'.ownsRow w.heap.size 5 1 (.slice A' k c') k (l.map (Value.int .u8))) (hb : Below w.heap.size w w') : RgbR w A m c q l er (.returned (.tuple #[.agg #[.slice A m c, .int .i64 x], .slice A' k c', .int .i64 er])) w' := by
  subst hk hx
  exact ⟨A', c', rfl, ho, hb⟩
theorem fin3 {w : World} {s : Nat} {t : TypeId} {x y : Value} (hT : Two w (s + 1) t x y) (u a b : Value) :
    Two (((w.setCell ⟨s, 1, none⟩ u).setCell ⟨s + 1, 0, none⟩ a).setCell ⟨s + 1, 1, none⟩ b) (s + 1) t a b ∧ Save (fun i => i = s ∨ i = s + 1) w (((w.setCell ⟨s, 1, none⟩ u).setCell ⟨s + 1, 0, none⟩ a).setCell ⟨s + 1, 1, none⟩ b) :=
  ⟨two_sets (hT.other (p := ⟨s, 1, none⟩) (by simp) u) a b, ((((Save.refl (fun i => i = s ∨ i = s + 1) w).setCell (p := ⟨s, 1, none⟩) (fun _ => .inl rfl) _).setCell (p := ⟨s + 1, 0, none⟩) (fun _ => .inr rfl) _).setCell (p := ⟨s + 1, 1, none⟩) (fun _ => .inr rfl) _)⟩
set_option maxRecDepth 100000 in
set_option maxHeartbeats 1000000 in
theorem rgetBytes_any {w : World} {A : Option Addr} {m c p n : Nat} {xs : List Int} {k : Int} (h : RrAt w A m c xs p) (hn : xs.length = n) (hk : k ≤ 9223372036854775807) :
    Calls Try.prog 41 #[rrV A m c p, .int .i64 k] w (RgbR w A m c (gbP n p k) (gbL xs n p k) (gbE n p k)) := by
  have hsz : m ≤ 8000000 := by have := h.size; have := h.len; omega
  have HM := Lib.hid (show m = 8 * n by rw [← hn]; exact h.len)
  have hpos := h.pos
  have hcap := h.cap
  have hbad : ∀ er : Int, er ≠ 0 → gbE n p k = er → gbL xs n p k = [] ∧ gbP n p k = p := fun er h0 h1 => by
    unfold gbL gbP
    rw [if_neg (by rw [h1]; exact h0), if_neg (by rw [h1]; exact h0)]
    exact ⟨rfl, rfl⟩
  unfold rrV
  by_cases h0 : k < 0
  · have hE : gbE n p k = 2 := by unfold gbE; rw [if_pos h0]
    obtain ⟨hV, hP⟩ := hbad 2 (by decide) hE
    rw [hE, hV, hP]
    clear hE hV hP hbad hn
    have d0 : decide (k < 0) = true := by simp; omega
    go_enter Try.func41, Try.ntmps41
    go_wp2_with fail
    refine bodyPost_ret (gb_results rfl rfl rfl (two_new1 _ _ _ _ _)) rfl ?_
    exact RgbR.mk_ rfl rfl (by simpa using World.ownsRow_nil _ w.heap.size 5 1) (below2 _ _ _)
  · have d0 : decide (k < 0) = false := by simp; omega
    have hsub : IntKind.i64.wrap ((m : Int) - (p : Int)) = (m : Int) - (p : Int) := IntWalk.i64_in _ (by omega)
    have hdv : IntKind.i64.wrap (((m : Int) - (p : Int)) / 8) = ((m : Int) - (p : Int)) / 8 := IntWalk.i64_in _ (by omega)
    have hdv2 : ((m : Int) - (p : Int)).tdiv 8 = ((m : Int) - (p : Int)) / 8 := by rw [Int.tdiv_eq_ediv_of_nonneg (by omega)]
    by_cases h2 : ((m : Int) - (p : Int)) / 8 < k
    · have d2 : decide (((m : Int) - (p : Int)) / 8 < k) = true := by simp; omega
      have hE : gbE n p k = 5 := by unfold gbE; rw [if_neg h0, if_pos (by have := HM.out; omega)]
      obtain ⟨hV, hP⟩ := hbad 5 (by decide) hE
      rw [hE, hV, hP]
      clear hE hV hP hbad hn
      go_enter Try.func41, Try.ntmps41
      go_wp2_with fail
      refine bodyPost_ret (gb_results rfl rfl rfl (two_new1 _ _ _ _ _)) rfl ?_
      exact RgbR.mk_ rfl rfl (by simpa using World.ownsRow_nil _ w.heap.size 5 1) (below2 _ _ _)
    · have d2 : decide (((m : Int) - (p : Int)) / 8 < k) = false := by simp; omega
      obtain ⟨j, rfl⟩ := Int.eq_ofNat_of_zero_le (show 0 ≤ k by omega)
      have hj : p + 8 * j ≤ m := by omega
      have hE : gbE n p (j : Int) = 0 := by unfold gbE; rw [if_neg h0, if_neg (by have := HM.out; omega)]
      have hl : (((bitsOf xs).drop p).take (8 * j)).length = 8 * j := by rw [List.length_take, List.length_drop, bitsOf_length]; have := HM.out; omega
      have hbk : Bits (((bitsOf xs).drop p).take (8 * j)) := ((bitsOf_bits xs).drop p).take _
      have hV : gbL xs n p (j : Int) = octL xs p j := by unfold gbL; rw [if_pos hE, Int.toNat_natCast]
      have hP : gbP n p (j : Int) = p + 8 * j := by unfold gbP; rw [if_pos hE, Int.toNat_natCast]
      have hpc := pack_chunk xs p j (by have := HM.out; omega)
      have hol : Hid ((octL xs p j).length = j) := Lib.hid (by simp [octL])
      rw [hE, hV]
      have h8 : IntKind.i64.wrap (8 * (j : Int)) = 8 * (j : Int) := IntWalk.i64_in _ (by omega)
      have hadd : IntKind.i64.wrap ((p : Int) + 8 * (j : Int)) = (p : Int) + 8 * (j : Int) := IntWalk.i64_in _ (by omega)
      have g0 : (0 : Int) ≤ (p : Int) := by omega
      have g1 : (p : Int) ≤ (p : Int) + 8 * (j : Int) := by omega
      have g2 : (p : Int) + 8 * (j : Int) ≤ (c : Int) := by omega
      have hcut := (h.rd.below' (below2 w (.cells #[.slice A m c, .int .i64 p] 45) (.cells #[.slice none 0 0, .int .i64 0] 45)) (Nat.le_refl _)).cut (lo := p) (hi := p + 8 * j) (cap := c) (by omega) (by omega) hcap
      rw [show p + 8 * j - p = 8 * j by omega] at hcut
      have hU := Lib.hid (fun cc : Nat => refPack_any (c := cc) hcut (by simp; omega) hbk.byte (by omega))
      rw [packS_bits hbk, hpc] at hU
      have hTr := Lib.hid (two_new1 w (.cells #[.slice A m c, .int .i64 p] 45) 45 (.slice none 0 0) (.int .i64 0))
      have hTp : Hid (Two ((w.alloc (.cells #[.slice A m c, .int .i64 p] 45)).alloc (.cells #[.slice none 0 0, .int .i64 0] 45)) w.heap.size 45 (.slice A m c) (.int .i64 p)) := Lib.hid ((Two.new w _ _ _).alloc _)
      have hB2 := Lib.hid (below2 w (.cells #[.slice A m c, .int .i64 p] 45) (.cells #[.slice none 0 0, .int .i64 0] 45))
      have hs2 : Hid (((w.alloc (.cells #[.slice A m c, .int .i64 p] 45)).alloc (.cells #[.slice none 0 0, .int .i64 0] 45)).heap.size = w.heap.size + 2) := Lib.hid (by simp)
      rw [hP]
      clear hE hV hP hbad hn h0 hl hbk hcut hpc
      by_cases hcp : c = p
      · rw [if_pos hcp] at hU
        obtain rfl : j = 0 := by omega
        subst hcp
        go_enter Try.func41, Try.ntmps41
        go_wp2_with fail
        refine (hU.out _).mono ?_
        rintro e w2 ⟨A2, c2, rfl, hown, hb2⟩
        have hTr2 := hTr.out.save (X := fun i => w.heap.size + 2 ≤ i) (Save.of_below (by rw [hs2.out]; exact hs2.out ▸ hb2)) (by omega)
        have hTp2 := hTp.out.save (X := fun i => w.heap.size + 2 ≤ i) (Save.of_below (by rw [hs2.out]; exact hs2.out ▸ hb2)) (by omega)
        have r0 := hTr2.cell0
        have r1 := hTr2.cell1
        have rf0 := hTr2.frozen 0
        have rf1 := hTr2.frozen 1
        have q0 := hTp2.cell0
        have q1 := hTp2.cell1
        have qf1 := hTp2.frozen 1
        have HO := Lib.hid hown
        have HB := Lib.hid hb2
        have HTr2 := Lib.hid hTr2
        have HTp2 := Lib.hid hTp2
        clear hown hb2 hTr2 hTp2
        go_wp2_with fail
        have hF := fin3 HTr2.out (.int .i64 (c : Int)) (.slice A m c) (.int .i64 (c : Int))
        have hlo : ∀ g, (Value.slice A2 (octL xs c 0).length c2).ownBlock = some g → w.heap.size + 2 ≤ g := fun g hg => by have := (HO.out.lt g hg).1; rw [hs2.out] at this; exact this
        have ho := ownsRow_save (HO.out.mono (base' := w.heap.size) (by rw [hs2.out]; omega)) hF.2 (fun g hg e => by have := hlo g hg; omega)
        have hb := Below.save (hB2.out.trans (HB.out.mono hB2.out.size)) hF.2 (fun i hi => by omega) (Nat.le_refl _)
        refine bodyPost_ret (gb_results rfl rfl rfl hF.1) rfl ?_
        exact RgbR.mk_ (by push_cast; omega) rfl ho hb
      · rw [if_neg hcp] at hU
        go_enter Try.func41, Try.ntmps41
        go_wp2_with fail
        refine (hU.out _).mono ?_
        rintro e w2 ⟨A2, c2, rfl, hown, hb2⟩
        have hTr2 := hTr.out.save (X := fun i => w.heap.size + 2 ≤ i) (Save.of_below (by rw [hs2.out]; exact hs2.out ▸ hb2)) (by omega)
        have hTp2 := hTp.out.save (X := fun i => w.heap.size + 2 ≤ i) (Save.of_below (by rw [hs2.out]; exact hs2.out ▸ hb2)) (by omega)
        have r0 := hTr2.cell0
        have r1 := hTr2.cell1
        have rf0 := hTr2.frozen 0
        have rf1 := hTr2.frozen 1
        have q0 := hTp2.cell0
        have q1 := hTp2.cell1
        have qf1 := hTp2.frozen 1
        have HO := Lib.hid hown
        have HB := Lib.hid hb2
        have HTr2 := Lib.hid hTr2
        have HTp2 := Lib.hid hTp2
        clear hown hb2 hTr2 hTp2
        go_wp2_with fail
        have hF := fin3 HTr2.out (.int .i64 ((p : Int) + 8 * (j : Int))) (.slice A m c) (.int .i64 ((p : Int) + 8 * (j : Int)))
        have hlo : ∀ g, (Value.slice A2 (octL xs p j).length c2).ownBlock = some g → w.heap.size + 2 ≤ g := fun g hg => by have := (HO.out.lt g hg).1; rw [hs2.out] at this; exact this
        have ho := ownsRow_save (HO.out.mono (base' := w.heap.size) (by rw [hs2.out]; omega)) hF.2 (fun g hg e => by have := hlo g hg; omega)
        have hb := Below.save (hB2.out.trans (HB.out.mono hB2.out.size)) hF.2 (fun i hi => by omega) (Nat.le_refl _)
        refine bodyPost_ret (gb_results rfl rfl rfl hF.1) rfl ?_
        exact RgbR.mk_ (by push_cast; omega) rfl ho hb

set_option maxRecDepth 100000 in
set_option maxHeartbeats 1000000 in
theorem rend_any {w : World} {A : Option Addr} {m c p n : Nat} {xs : List Int} (h : RrAt w A m c xs p) (hn : xs.length = n) :
    Calls Try.prog 23 #[rrV A m c p] w fun e w' => e = .returned (.int .i64 (endE xs n p)) ∧ Below w.heap.size w w' := by
  have hsz : m ≤ 8000000 := by have := h.size; have := h.len; omega
  have HM := Lib.hid (show m = 8 * n by rw [← hn]; exact h.len)
  have hpos := h.pos
  have hcap := h.cap
  have hsub : IntKind.i64.wrap ((m : Int) - (p : Int)) = (m : Int) - (p : Int) := IntWalk.i64_in _ (by omega)
  unfold rrV
  by_cases h8 : (8 : Int) ≤ (m : Int) - (p : Int)
  · have d8 : decide ((8 : Int) ≤ (m : Int) - (p : Int)) = true := by simp; omega
    have hE : endE xs n p = 9 := by unfold endE; rw [if_pos (by have := HM.out; omega)]
    rw [hE]
    clear hE hn
    go_enter Try.func23, Try.ntmps23
    go_wp2_with fail
    go_ret
    exact ⟨rfl, (Below.refl _ w).alloc (Nat.le_refl _) _⟩
  · have d8 : decide ((8 : Int) ≤ (m : Int) - (p : Int)) = false := by simp; omega
    have hEv : Hid (endE xs n p = if 0 < weight ((bitsOf xs).drop p) then 9 else 0) := Lib.hid (by have := end_short (xs := xs) (p := p) (by have := h.len; omega) (by have := h.len; omega); rwa [hn] at this)
    have hb1 : Below w.heap.size w (w.alloc (.cells #[.slice A m c, .int .i64 p] 45)) := (Below.refl _ w).alloc (Nat.le_refl _) _
    have hcut := (h.rd.below' hb1 (Nat.le_refl _)).cut (lo := p) (hi := m) (cap := c) hpos (Nat.le_refl _) hcap
    have hl : ((bitsOf xs).drop p).length = m - p := by rw [List.length_drop, bitsOf_length]; have := h.len; omega
    rw [List.take_of_length_le (by omega)] at hcut
    have hU := Lib.hid (fun cc : Nat => refWeight_any (c := cc) hcut (by omega))
    have g0 : (0 : Int) ≤ (p : Int) := by omega
    have g1 : (p : Int) ≤ (m : Int) := by omega
    have g2 : (m : Int) ≤ (c : Int) := by omega
    have hwl := weight_le ((bitsOf xs).drop p)
    clear hn hcut
    by_cases hcp : c = p
    · rw [if_pos hcp] at hU
      obtain rfl : m = p := by omega
      have hw0 : weight ((bitsOf xs).drop m) = 0 := by omega
      have hE0 : endE xs n m = 0 := by rw [hEv.out, hw0]; rfl
      rw [hw0, Nat.sub_self] at hU
      rw [hE0]
      subst hcp
      clear hw0 hE0 hwl hl hEv h8 d8
      go_enter Try.func23, Try.ntmps23
      go_wp2_with fail
      refine (hU.out _).mono ?_
      rintro e w2 ⟨rfl, rfl⟩
      go_wp2_with fail
      go_ret
      exact ⟨rfl, hb1⟩
    · rw [if_neg hcp] at hU
      have hl2 := hl
      generalize weight ((bitsOf xs).drop p) = wt at *
      by_cases hw : 0 < wt
      · have dw : decide (0 < wt) = true := by simp; omega
        have hE0 : endE xs n p = 9 := by rw [hEv.out, if_pos hw]
        rw [hE0]
        clear hE0 hl hl2 hEv
        go_enter Try.func23, Try.ntmps23
        go_wp2_with fail
        refine (hU.out _).mono ?_
        rintro e w2 ⟨rfl, rfl⟩
        go_wp2_with fail
        go_ret
        exact ⟨rfl, hb1⟩
      · have dw : decide (0 < wt) = false := by simp; omega
        have hE0 : endE xs n p = 0 := by rw [hEv.out, if_neg hw]
        rw [hE0]
        clear hE0 hl hl2 hEv
        go_enter Try.func23, Try.ntmps23
        go_wp2_with fail
        refine (hU.out _).mono ?_
        rintro e w2 ⟨rfl, rfl⟩
        go_wp2_with fail
        go_ret
        exact ⟨rfl, hb1⟩
end Go.Proofs.Ytgcgmnopggabaaa
