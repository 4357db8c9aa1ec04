/-
  The reference's reader: NewReader, Get, GetBytes, End, Align.
-/
import Derived.Test.YtgcgmnopggabaaaRrM
import Derived.Test.YtgcgmnopggabaaaL2
namespace Go.Proofs.Ytgcgmnopggabaaa
open Go.RowKit

theorem own_cap' {w : World} {base n c s : Nat} {A : Option Addr} {t : TypeId} {xs : List Value} (h : w.ownsRow base t s (.slice A n c) n xs) : n ≤ c := by
  rcases h.2 with ⟨h1, h2⟩ | ⟨g, cap, cur, h1, _, _, hnc, _⟩
  · injection h1 with _ e1 e2; omega
  · injection h1 with _ e1 e2; omega
/-- A value of the reference's reader. -/
def rrV (A : Option Addr) (n c : Nat) (p : Nat) : Value := .agg #[.slice A n c, .int .i64 p]
/-- Its bits are those of the bytes xs. -/
structure RrAt (w : World) (A : Option Addr) (m c : Nat) (xs : List Int) (p : Nat) : Prop where
  rd : Rd .u8 w w.heap.size A m (bitsOf xs)
  len : m = 8 * xs.length
  pos : p ≤ m
  cap : m ≤ c
  size : xs.length ≤ 1000000
theorem RrAt.step {w w' : World} {A : Option Addr} {m c p : Nat} {xs : List Int} (h : RrAt w A m c xs p) (hb : Below w.heap.size w w') : RrAt w' A m c xs p := ⟨h.rd.step hb, h.len, h.pos, h.cap, h.size⟩

theorem RrAt.save {w w' : World} {A : Option Addr} {m c p : Nat} {xs : List Int} {X : Nat → Prop} (h : RrAt w A m c xs p) (hs : Save X w w') (hX : 0 < m → ∀ a, A = some a → ¬ X a.block) : RrAt w' A m c xs p :=
  ⟨(h.rd.save0 hs (Nat.le_refl _) hX).more hs.size, h.len, h.pos, h.cap, h.size⟩
theorem RrAt.low {w : World} {A : Option Addr} {m c p : Nat} {xs : List Int} (h : RrAt w A m c xs p) (hm : 0 < m) : ∀ a, A = some a → a.block < w.heap.size := fun a ha => by
  obtain ⟨b, off, e, hb, _⟩ := h.rd.cells 0 hm
  rw [ha] at e
  injection e with e
  subst e
  exact hb
theorem two_sets {w : World} {B : Nat} {t : TypeId} {x y : Value} (h : Two w B t x y) (a b : Value) : Two ((w.setCell ⟨B, 0, none⟩ a).setCell ⟨B, 1, none⟩ b) B t a b := (h.set0 a).set1 b
theorem save_sets {w w' : World} {B : Nat} (h : Save (· = B) w w') (a b : Value) : Save (· = B) w ((w'.setCell ⟨B, 0, none⟩ a).setCell ⟨B, 1, none⟩ b) := (h.setCell (p := ⟨B, 0, none⟩) (fun _ => rfl) _).setCell (p := ⟨B, 1, none⟩) (fun _ => rfl) _
theorem new_results {W : World} {tmps : Array Value} {b : Nat} {x y : Value} (h2 : tmps.getD 2 undef = .pointer (some ⟨b, 0, none⟩)) (hT : Two W b 45 x y) :
    (results Try.f17 tmps).run Try.prog W = .ok (.agg #[x, y]) W := by
  have c0 := hT.cell0
  have c1 := hT.cell1
  simp only [Array.getD_eq_getD_getElem?] at h2
  simp [results, Try.results17, go_sem, h2, c0, c1]
set_option maxRecDepth 100000 in
set_option maxHeartbeats 1000000 in
theorem rnew_any {w : World} {A : Option Addr} {n c B : Nat} {xs : List Int} (hI : Rd .u8 w B A n xs) (hB : B ≤ w.heap.size) (hx : Byte xs) (hn : n ≤ 1000000) :
    Calls Try.prog 17 #[.slice A n c] w fun e w' => ∃ A' c', e = .returned (rrV A' (8 * n) c' 0) ∧ RrAt w' A' (8 * n) c' xs 0 ∧ (∀ a, A' = some a → w.heap.size ≤ a.block) ∧ Below w.heap.size w w' := by
  have hl := hI.len
  obtain ⟨wa, hwa⟩ : ∃ W, W = w.alloc (.cells #[.slice none 0 0, .int .i64 0] 45) := ⟨_, rfl⟩
  have hba : Below w.heap.size w wa := by rw [hwa]; exact (Below.refl _ w).alloc (Nat.le_refl _) _
  have hF := Lib.hid (refUnpack_any (m := 8 * (n : Int)) (w := wa) (c := c) (hI.below' hba hB) (Nat.le_trans hB hba.size) hx (by omega) (by omega))
  have hU : unpackS xs (8 * (n : Int)) = (bitsOf xs, 0) := by
    have := unpackS_ok (p := xs) (m := 8 * n) (by omega)
    rw [bitsOf, hl]
    push_cast at this
    exact this
  rw [hU] at hF
  have h8 : IntKind.i64.wrap (8 * (n : Int)) = 8 * (n : Int) := IntWalk.i64_in _ (by omega)
  have HL := Lib.hid hl
  clear hI hB hx hU hl
  subst hwa
  go_enter Try.func17, Try.ntmps17
  go_wp2_with fail
  have hT0 := Two.new w 45 (.slice none 0 0) (.int .i64 0)
  refine hF.out.mono ?_
  rintro e w2 ⟨A2, c2, rfl, hown, hb2⟩
  have hT2 : Two w2 w.heap.size 45 (.slice none 0 0) (.int .i64 0) := hT0.save (X := fun k => w.heap.size + 1 ≤ k) (Save.of_below (by simpa using hb2)) (by omega)
  have c0 := hT2.cell0
  have c1 := hT2.cell1
  have f0 := hT2.frozen 0
  have f1 := hT2.frozen 1
  have HO := Lib.hid hown
  have HB := Lib.hid hb2
  have HT := Lib.hid hT2
  clear hown hb2 hT2 hT0
  rw [bitsOf_length, HL.out]
  go_wp2_with fail
  have hT3 := two_sets HT.out (.slice A2 (8 * n) c2) (.int .i64 0)
  have hO2 : Rd .u8 w2 w2.heap.size A2 (8 * n) (bitsOf xs) := by have := Rd.of_own HO.out; rwa [bitsOf_length, HL.out] at this
  have hlo : ∀ a, A2 = some a → w.heap.size + 1 ≤ a.block := fun a ha => by have := (HO.out.lt a.block (by rw [ha]; rfl)).1; simpa using this
  have hR2 : RrAt w2 A2 (8 * n) c2 xs 0 := ⟨hO2, by rw [HL.out], Nat.zero_le _, by have := own_cap' HO.out; rwa [bitsOf_length, HL.out] at this, by rw [HL.out]; exact hn⟩
  have hs := save_sets (Save.refl (· = w.heap.size) w2) (.slice A2 (8 * n) c2) (.int .i64 0)
  refine bodyPost_ret (v := rrV A2 (8 * n) c2 0) (new_results rfl hT3) rfl ?_
  exact ⟨A2, c2, rfl, hR2.save hs (fun _ a ha e => by have := hlo a ha; omega), fun a ha => by have := hlo a ha; omega, Below.save (hba.trans (HB.out.mono hba.size)) hs (fun i hi => by omega) (Nat.le_refl _)⟩

theorem two_new1 (w : World) (o : Obj) (t : TypeId) (x y : Value) : Two ((w.alloc o).alloc (.cells #[x, y] t)) (w.heap.size + 1) t x y := by
  have := Two.new (w.alloc o) t x y
  rwa [show (w.alloc o).heap.size = w.heap.size + 1 by simp] at this
theorem below2 (w : World) (o o' : Obj) : Below w.heap.size w ((w.alloc o).alloc o') := ((Below.refl _ w).alloc (Nat.le_refl _) _).alloc (by simp) _
theorem get_results2 {W : World} {tmps : Array Value} {b : Nat} {x y v z : Value} (h4 : tmps.getD 4 undef = .pointer (some ⟨b, 0, none⟩)) (h5 : tmps.getD 5 undef = v) (h6 : tmps.getD 6 undef = z) (hT : Two W b 45 x y) :
    (results Try.f40 tmps).run Try.prog W = .ok (.tuple #[.agg #[x, y], v, z]) W := by
  have c0 := hT.cell0
  have c1 := hT.cell1
  simp only [Array.getD_eq_getD_getElem?] at h4 h5 h6
  simp [results, Try.results40, go_sem, h4, h5, h6, c0, c1]
set_option maxRecDepth 100000 in
set_option maxHeartbeats 1000000 in
theorem rget_any {w : World} {A : Option Addr} {m c p n : Nat} {xs : List Int} {wd : Int} (h : RrAt w A m c xs p) (hn : xs.length = n) :
    Calls Try.prog 40 #[rrV A m c p, .int .i64 wd] w fun e w' => e = .returned (.tuple #[rrV A m c (getP n p wd), .int .u64 (getV xs n p wd), .int .i64 (getE n p wd)]) ∧ Below w.heap.size w w' := by
  have hsz : m ≤ 8000000 := by have := h.size; have := h.len; omega
  have HM := Lib.hid (show m = 8 * n by rw [← hn]; exact h.len)
  have hpos := h.pos
  have hcap := h.cap
  have hbad : ∀ er : Int, er ≠ 0 → getE n p wd = er → getV xs n p wd = 0 ∧ getP n p wd = p := fun er h0 h1 => by
    unfold getV getP
    rw [if_neg (by rw [h1]; exact h0), if_neg (by rw [h1]; exact h0)]
    exact ⟨rfl, rfl⟩
  unfold rrV
  by_cases h0 : wd < 0 ∨ 64 < wd
  · have hE : getE n p wd = 2 := by unfold getE; rw [if_pos h0]
    obtain ⟨hV, hP⟩ := hbad 2 (by decide) hE
    rw [hE, hV, hP]
    clear hE hV hP hbad hn
    by_cases h1 : wd < 0
    · have d0 : decide (wd < 0) = true := by simp; omega
      clear h0
      go_enter Try.func40, Try.ntmps40
      go_wp2_with fail
      refine bodyPost_ret (get_results2 rfl rfl rfl (two_new1 _ _ _ _ _)) rfl ?_
      exact ⟨rfl, below2 _ _ _⟩
    · have d0 : decide (wd < 0) = false := by simp; omega
      have d1 : decide (64 < wd) = true := by simp; omega
      clear h0
      go_enter Try.func40, Try.ntmps40
      go_wp2_with fail
      refine bodyPost_ret (get_results2 rfl rfl rfl (two_new1 _ _ _ _ _)) rfl ?_
      exact ⟨rfl, below2 _ _ _⟩
  · have d0 : decide (wd < 0) = false := by simp; omega
    have d1 : decide (64 < wd) = false := by simp; omega
    have hsub : IntKind.i64.wrap ((m : Int) - (p : Int)) = (m : Int) - (p : Int) := IntWalk.i64_in _ (by omega)
    by_cases h2 : (m : Int) - (p : Int) < wd
    · have d2 : decide ((m : Int) - (p : Int) < wd) = true := by simp; omega
      have hE : getE n p wd = 5 := by unfold getE; rw [if_neg (by omega), if_neg (by have := HM.out; omega)]
      obtain ⟨hV, hP⟩ := hbad 5 (by decide) hE
      rw [hE, hV, hP]
      clear hE hV hP hbad hn h0
      go_enter Try.func40, Try.ntmps40
      go_wp2_with fail
      refine bodyPost_ret (get_results2 rfl rfl rfl (two_new1 _ _ _ _ _)) rfl ?_
      exact ⟨rfl, below2 _ _ _⟩
    · have d2 : decide ((m : Int) - (p : Int) < wd) = false := by simp; omega
      obtain ⟨k, rfl⟩ := Int.eq_ofNat_of_zero_le (show 0 ≤ wd by omega)
      have hE : getE n p (k : Int) = 0 := by unfold getE; rw [if_neg (by omega), if_pos (by have := HM.out; omega)]
      have hl : (((bitsOf xs).drop p).take k).length = k := by rw [List.length_take, List.length_drop, bitsOf_length]; have := HM.out; omega
      have hbk : Bits (((bitsOf xs).drop p).take k) := ((bitsOf_bits xs).drop p).take k
      have hV : getV xs n p (k : Int) = valueOf (((bitsOf xs).drop p).take k) := by unfold getV; rw [if_pos hE, Int.toNat_natCast, ← hn, restL_bitsOf]
      have hP : getP n p (k : Int) = p + k := by unfold getP; rw [if_pos hE, Int.toNat_natCast]
      rw [hE, hV, hP]
      have hadd : IntKind.i64.wrap ((p : Int) + (k : Int)) = (p : Int) + (k : Int) := IntWalk.i64_in _ (by omega)
      have g0 : (0 : Int) ≤ (p : Int) := by omega
      have g1 : (p : Int) ≤ (p : Int) + (k : Int) := by omega
      have g2 : (p : Int) + (k : Int) ≤ (c : Int) := by omega
      have hcut := (h.rd.below' (below2 w (.cells #[.slice A m c, .int .i64 p] 45) (.cells #[.slice none 0 0, .int .i64 0] 45)) (Nat.le_refl _)).cut (lo := p) (hi := p + k) (cap := c) (by omega) (by omega) hcap
      rw [show p + k - p = k by omega] at hcut
      have hU := Lib.hid (fun cc : Nat => refUint_any (c := cc) hcut hbk.byte (by omega))
      rw [uintS_bits hbk (by rw [hl]; omega)] at hU
      rw [show ((p + k : Nat) : Int) = (p : Int) + (k : Int) by push_cast; rfl]
      clear hE hV hP hbad hn h0 hl hbk hcut
      generalize valueOf (((bitsOf xs).drop p).take k) = vv at *
      by_cases hcp : c = p
      · rw [if_pos hcp] at hU
        obtain rfl : k = 0 := by omega
        subst hcp
        go_enter Try.func40, Try.ntmps40
        go_wp2_with fail
        refine (hU.out _).mono ?_
        rintro e w2 ⟨rfl, rfl⟩
        go_wp2_with fail
        refine bodyPost_ret (get_results2 rfl rfl rfl (two_new1 _ _ _ _ _)) rfl ?_
        exact ⟨by first | rfl | simp, below2 _ _ _⟩
      · rw [if_neg hcp] at hU
        go_enter Try.func40, Try.ntmps40
        go_wp2_with fail
        refine (hU.out _).mono ?_
        rintro e w2 ⟨rfl, rfl⟩
        go_wp2_with fail
        refine bodyPost_ret (get_results2 rfl rfl rfl (two_new1 _ _ _ _ _)) rfl ?_
        exact ⟨rfl, below2 _ _ _⟩
end Go.Proofs.Ytgcgmnopggabaaa
