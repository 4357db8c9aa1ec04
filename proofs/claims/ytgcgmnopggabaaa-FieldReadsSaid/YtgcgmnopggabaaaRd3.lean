/-
  The reader's Get in every case, Align, End; NewReader.
-/
import Derived.Test.YtgcgmnopggabaaaRd2
import Derived.Test.YtgcgmnopggabaaaClone
namespace Go.Proofs.Ytgcgmnopggabaaa
open Go.RowKit Go.Shelf BigFrame

attribute [local go_sem] Oper.semAt_some

def getE (n p : Nat) (wd : Int) : Int := if wd < 0 ∨ 64 < wd then 2 else if wd ≤ ((8 * n - p : Nat) : Int) then 0 else 5
def getV (xs : List Int) (n p : Nat) (wd : Int) : Int := if getE n p wd = 0 then valueOf ((restL xs n p).take wd.toNat) else 0
def getP (n p : Nat) (wd : Int) : Nat := if getE n p wd = 0 then p + wd.toNat else p

set_option maxRecDepth 100000 in
set_option maxHeartbeats 1000000 in
theorem get_nil {w : World} {wd : Int} : Calls Try.prog 24 #[.pointer none, .int .i64 wd] w fun e w' => e = .returned (.tuple #[.int .u64 0, .int .i64 1]) ∧ Below w.heap.size w w' := by
  refine (callsIn_wide (n := 6)).1 ?_
  refine callsIn_of_wp_marks Try.func24 rfl trivial ?_ rfl
  simp only [Try.ntmps24, List.size_toArray, List.length_cons, List.length_nil, Nat.reduceAdd, Nat.reduceSub, Array.replicate_succ, Array.replicate_zero, List.push_toArray, List.append_toArray, List.nil_append, List.cons_append]
  obtain ⟨N, hN⟩ : ∃ N, N = w.heap.size := ⟨_, rfl⟩
  gi_wp2
  refine wpIn_wide_scope ?_
  gi_wp2_with fail
  rw [Exit.noGoto_ret]
  have bV := (Boxed.new (w.alloc (.cells #[.int .i64 wd] 3)) 33 (.int .u64 0)).alloc (.cells #[.int .i64 1] 53)
  have bE := Boxed.new ((w.alloc (.cells #[.int .i64 wd] 3)).alloc (.cells #[.int .u64 0] 33)) 53 (.int .i64 1)
  simp only [World.size_alloc] at bV bE
  exact ⟨_, get_results rfl rfl bV bE, rfl, (((Below.refl _ w).alloc (Nat.le_refl _) _).alloc (by simp) _).alloc (by simp; omega) _⟩

set_option maxRecDepth 100000 in
set_option maxHeartbeats 1000000 in
theorem get_arg {w : World} {wd : Int} {B : Nat} (h : wd < 0 ∨ 64 < wd) : Calls Try.prog 24 #[.pointer (some ⟨B, 0, none⟩), .int .i64 wd] w fun e w' => e = .returned (.tuple #[.int .u64 0, .int .i64 2]) ∧ Below w.heap.size w w' := by
  refine (callsIn_wide (n := 6)).1 ?_
  have hP := fun (W : World) => Lib.hid (possible_no (w := W) h)
  refine callsIn_of_wp_marks Try.func24 rfl trivial ?_ rfl
  simp only [Try.ntmps24, List.size_toArray, List.length_cons, List.length_nil, Nat.reduceAdd, Nat.reduceSub, Array.replicate_succ, Array.replicate_zero, List.push_toArray, List.append_toArray, List.nil_append, List.cons_append]
  gi_wp2
  refine wpIn_wide_scope ?_
  gi_wp2_with fail
  refine ⟨trivial, ?_⟩
  refine (callsIn_wide.2 (hP _).out).mono ?_
  rintro e w' ⟨rfl, rfl⟩
  gi_wp2_with fail
  rw [Exit.noGoto_ret]
  have bV := (Boxed.new (w.alloc (.cells #[.int .i64 wd] 3)) 33 (.int .u64 0)).alloc (.cells #[.int .i64 2] 53)
  have bE := Boxed.new ((w.alloc (.cells #[.int .i64 wd] 3)).alloc (.cells #[.int .u64 0] 33)) 53 (.int .i64 2)
  simp only [World.size_alloc] at bV bE
  exact ⟨_, get_results rfl rfl bV bE, rfl, (((Below.refl _ w).alloc (Nat.le_refl _) _).alloc (by simp) _).alloc (by simp; omega) _⟩

/-- What Get hands back. -/
def GetR (w : World) (B : Nat) (A : Option Addr) (n c : Nat) (xs : List Int) (p : Nat) (wd : Int) (e : Ending) (w' : World) : Prop :=
  e = .returned (.tuple #[.int .u64 (getV xs n p wd), .int .i64 (getE n p wd)]) ∧ RdrAt w' B A n c xs (getP n p wd) ∧ Save (· = B) w w'
theorem get_any {w : World} {B : Nat} {A : Option Addr} {n c : Nat} {xs : List Int} {p : Nat} {wd : Int} (h : RdrAt w B A n c xs p) :
    Calls Try.prog 24 #[.pointer (some ⟨B, 0, none⟩), .int .i64 wd] w (GetR w B A n c xs p wd) := by
  unfold GetR
  by_cases hw : wd < 0 ∨ 64 < wd
  · have e1 : getE n p wd = 2 := by unfold getE; rw [if_pos hw]
    refine (get_arg hw).mono ?_
    rintro e w' ⟨rfl, hb⟩
    have hs : Save (· = B) w w' := Save.of_below hb
    refine ⟨by simp [getV, e1], ?_, hs⟩
    have : getP n p wd = p := by simp [getP, e1]
    rw [this]
    exact h.moved hs ((hb.block _ h.blk.lt).trans h.blk) h.pos
  · obtain ⟨k, rfl⟩ := Int.eq_ofNat_of_zero_le (show 0 ≤ wd by omega)
    refine (callsIn_wide.1 (get_run 6 (by omega) h (wd := k) (by omega))).mono ?_
    rintro e w' (⟨h1, rfl, h2, h3⟩ | ⟨h1, rfl, h2, h3⟩)
    · have e1 : getE n p (k : Int) = 0 := by unfold getE; rw [if_neg hw, if_pos (by omega)]
      exact ⟨by simp [getV, e1], by simpa [getP, e1] using h2, h3⟩
    · have e1 : getE n p (k : Int) = 5 := by unfold getE; rw [if_neg hw, if_neg (by omega)]
      exact ⟨by simp [getV, e1], by simpa [getP, e1] using h2, h3⟩

/-! ### the door with one deferred call of restore -/
theorem door_restore {fn : Func} {tmps : Array Value} {W : World} {R : Ending → World → Prop} {m B Be : Nat} {p : Nat} {z q : Int} {x : Value} (hz : Boxed W Be 53 (.int .i64 z)) (hT : Two W B 57 x (.int .i64 q))
    (hR : ∀ W', W' = (if z = 0 then W else W.setCell ⟨B, 1, none⟩ (.int .i64 p)) → ∃ v, (results fn tmps).run Try.prog W' = .ok v W' ∧ R (.returned v) W') :
    LeavesInM Fence.wide m Try.prog fn tmps R [{ target := .fn (.func 47) #[], args := #[.pointer (some ⟨B, 0, none⟩), .int .i64 p, .pointer (some ⟨Be, 0, none⟩)] }] .returning W := by
  refine ⟨by simp, .inr ⟨(fun h => by cases h), _, _, 47, _, rfl, (by simp [invoke, go_sem]; rfl), fun _ _ => trivial, ?_⟩⟩
  by_cases h0 : z = 0
  · subst h0
    refine (restore_ok hz).mono ?_
    rintro e u' w'' ⟨rfl, rfl, rfl⟩
    exact hR _ (by simp)
  · refine (restore_bad h0 hz hT).mono ?_
    rintro e u' w'' ⟨rfl, rfl, rfl⟩
    exact hR _ (by simp [h0])

/-! ### Align -/
theorem and_seven (x : Int) : bits .and .i64 x 7 = x % 8 := by
  have h1 : ((BitVec.ofInt 64 x) &&& (BitVec.ofInt 64 7)).toNat = (x % 18446744073709551616).toNat % 8 := by
    rw [BitVec.toNat_and]
    have : (BitVec.ofInt 64 7).toNat = 2 ^ 3 - 1 := by decide
    rw [this, Nat.and_two_pow_sub_one_eq_mod, BitVec.toNat_ofInt]
    simp
  simp only [bits]
  rw [show IntKind.i64.bits = 64 from rfl, h1]
  simp only [IntKind.wrap, IntKind.bits, IntKind.signed]
  have h2 : 0 ≤ x % 18446744073709551616 := Int.emod_nonneg _ (by decide)
  simp
  omega
def padOf (p : Nat) : Nat := (8 - p % 8) % 8
def alignE (xs : List Int) (n p : Nat) : Int := if valueOf ((restL xs n p).take (padOf p)) = 0 then 0 else 9
def alignP (xs : List Int) (n p : Nat) : Nat := if alignE xs n p = 0 then p + padOf p else p
theorem pad_le {n p : Nat} (h : p ≤ 8 * n) : padOf p ≤ 8 * n - p := by unfold padOf; omega
theorem align_results {W : World} {tmps : Array Value} {b : Nat} {z : Int} (h2 : tmps.getD 2 undef = .pointer (some ⟨b, 0, none⟩)) (hz : Boxed W b 53 (.int .i64 z)) :
    (results Try.f31 tmps).run Try.prog W = .ok (.int .i64 z) W := by
  have c2 := Boxed.cell hz
  simp only [Array.getD_eq_getD_getElem?] at h2
  simp [results, Try.results31, go_sem, h2, c2]
set_option maxRecDepth 100000 in
set_option maxHeartbeats 1000000 in
theorem align_any {w : World} {B : Nat} {A : Option Addr} {n c : Nat} {xs : List Int} {p : Nat} (h : RdrAt w B A n c xs p) :
    Calls Try.prog 31 #[.pointer (some ⟨B, 0, none⟩)] w fun e w' => e = .returned (.int .i64 (alignE xs n p)) ∧ RdrAt w' B A n c xs (alignP xs n p) ∧ Save (· = B) w w' := by
  refine (callsIn_wide (n := 6)).1 ?_
  refine callsIn_of_wp_marks Try.func31 rfl trivial ?_ rfl
  simp only [Try.ntmps31, List.size_toArray, List.length_cons, List.length_nil, Nat.reduceAdd, Nat.reduceSub, Array.replicate_succ, Array.replicate_zero, List.push_toArray, List.append_toArray, List.nil_append, List.cons_append]
  have c1 := (h.blk.alloc (.cells #[.int .i64 0] 53)).cell1
  have hp := h.pos
  have hn := h.size
  have hsv : Save (· = B) w (w.alloc (.cells #[.int .i64 0] 53)) := (Save.refl _ _).alloc _
  have h0 : RdrAt (w.alloc (.cells #[.int .i64 0] 53)) B A n c xs p := h.moved hsv (h.blk.alloc _) h.pos
  have bE := Boxed.new w 53 (.int .i64 0)
  have hpad : bits .and .i64 (-(p : Int)) 7 = ((padOf p : Nat) : Int) := by rw [and_seven]; unfold padOf; omega
  have hle := pad_le hp
  have hB := h.blk.lt
  have hgE : getE n p ((padOf p : Nat) : Int) = 0 := by unfold getE; rw [if_neg (by unfold padOf; omega), if_pos (by omega)]
  have hgV : getV xs n p ((padOf p : Nat) : Int) = valueOf ((restL xs n p).take (padOf p)) := by simp [getV, hgE]
  have hgP : getP n p ((padOf p : Nat) : Int) = p + padOf p := by simp [getP, hgE]
  have hG := get_any (wd := ((padOf p : Nat) : Int)) h0
  unfold GetR at hG
  rw [hgE, hgV, hgP] at hG
  have HG := Lib.hid hG
  have HP := Lib.hid hpad
  have hA : Hid (alignE xs n p = if valueOf ((restL xs n p).take (padOf p)) = 0 then 0 else 9) := Lib.hid rfl
  have hAP : Hid (alignP xs n p = if alignE xs n p = 0 then p + padOf p else p) := Lib.hid rfl
  generalize valueOf ((restL xs n p).take (padOf p)) = v at HG hA
  clear hG hpad hgE hgV hgP h0
  gi_wp2_with fail
  rw [HP.out]
  refine ⟨trivial, ?_⟩
  refine (callsIn_wide.2 HG.out).mono ?_
  rintro e w1 ⟨rfl, hR1, hs1⟩
  have hs2 : Save (· = B) w w1 := hsv.trans hs1
  have bE1 : Boxed w1 w.heap.size 53 (.int .i64 0) := hs1.heap bE (fun e => by omega)
  have cE := Boxed.cell bE1
  have fE := Boxed.frozen bE1
  clear bE HP c1
  by_cases hv : v = 0
  · have hd : (v != 0) = false := by simp [hv]
    have hAE : Hid (alignE xs n p = 0) := Lib.hid (by rw [hA.out, if_pos hv])
    clear hv
    gi_wp2_with fail
    refine door_restore (Boxed.set (.int .i64 0) bE1) (hR1.blk.other (by simp; omega) _) ?_
    rintro W' rfl
    rw [if_pos rfl, hAP.out, hAE.out, if_pos rfl]
    have hs3 : Save (· = B) w (w1.setCell ⟨w.heap.size, 0, none⟩ (.int .i64 0)) := hs2.setCell (fun h => by simp at h) _
    exact ⟨_, align_results rfl (Boxed.set _ bE1), rfl, h.moved hs3 (hR1.blk.other (by simp; omega) _) hR1.pos, hs3⟩
  · have hd : (v != 0) = true := by simp [hv]
    have hAE : Hid (alignE xs n p = 9) := Lib.hid (by rw [hA.out, if_neg hv])
    clear hv
    gi_wp2_with fail
    refine door_restore (Boxed.set (.int .i64 9) bE1) (hR1.blk.other (by simp; omega) _) ?_
    rintro W' rfl
    rw [if_neg (by decide), hAP.out, hAE.out, if_neg (by decide)]
    have hs3 : Save (· = B) w ((w1.setCell ⟨w.heap.size, 0, none⟩ (.int .i64 9)).setCell ⟨B, 1, none⟩ (.int .i64 p)) := (hs2.setCell (fun h => by simp at h) _).setCell (fun _ => rfl) _
    exact ⟨_, align_results rfl (Boxed.far (Boxed.set _ bE1) (by simp; omega) _), rfl, h.moved hs3 (Two.set1 (hR1.blk.other (by simp; omega) _) _) h.pos, hs3⟩
set_option maxRecDepth 100000 in
set_option maxHeartbeats 1000000 in
theorem align_nil {w : World} : Calls Try.prog 31 #[.pointer none] w fun e w' => e = .returned (.int .i64 1) ∧ Below w.heap.size w w' := by
  refine (callsIn_wide (n := 6)).1 ?_
  refine callsIn_of_wp_marks Try.func31 rfl trivial ?_ rfl
  simp only [Try.ntmps31, List.size_toArray, List.length_cons, List.length_nil, Nat.reduceAdd, Nat.reduceSub, Array.replicate_succ, Array.replicate_zero, List.push_toArray, List.append_toArray, List.nil_append, List.cons_append]
  gi_wp2_with fail
  exact ⟨_, align_results rfl (Boxed.new w 53 (.int .i64 1)), rfl, (Below.refl _ w).alloc (Nat.le_refl _) _⟩

/-! ### End -/
def endE (xs : List Int) (n p : Nat) : Int := if 8 ≤ 8 * n - p then 9 else alignE xs n p
set_option maxRecDepth 100000 in
set_option maxHeartbeats 1000000 in
theorem end_any {w : World} {B : Nat} {A : Option Addr} {n c : Nat} {xs : List Int} {p : Nat} (h : RdrAt w B A n c xs p) :
    Calls Try.prog 22 #[.pointer (some ⟨B, 0, none⟩)] w fun e w' => e = .returned (.int .i64 (endE xs n p)) ∧ Below w.heap.size w w' := by
  have hL := left_any h.blk h.size h.pos
  by_cases hl : 8 ≤ 8 * n - p
  · have he : Hid (endE xs n p = 9) := Lib.hid (by unfold endE; rw [if_pos hl])
    have hd : ((8 : Int) ≤ ((8 * n - p : Nat) : Int)) := by omega
    go_enter Try.func22, Try.ntmps22
    go_wp2_with fail
    refine hL.mono ?_
    rintro e w' ⟨rfl, k, rfl⟩
    go_wp2_with fail
    go_ret
    exact ⟨by rw [he.out]; rfl, below_drewN (Below.refl _ _) _⟩
  · have he : Hid (endE xs n p = alignE xs n p) := Lib.hid (by unfold endE; rw [if_neg hl])
    have hd : ¬ ((8 : Int) ≤ ((8 * n - p : Nat) : Int)) := by omega
    go_enter Try.func22, Try.ntmps22
    go_wp2_with fail
    refine hL.mono ?_
    rintro e w2 ⟨rfl, k, hk⟩
    have hs2 : Save (fun _ => False) w w2 := by rw [hk]; exact (Save.refl _ _).drewN _
    have hb2 : Below w.heap.size w w2 := by rw [hk]; exact below_drewN (Below.refl _ _) _
    have h2 := h.save hs2 (fun h => h) (fun _ _ h => h)
    clear hk
    have c0 := h2.blk.cell0
    have c1 := h2.blk.cell1
    have hN := Two.new w2 57 (.slice none 0 0) (.int .i64 0)
    have n0 := hN.cell0
    have n1 := hN.cell1
    have f0 := hN.frozen 0
    have f1 := hN.frozen 1
    have h3 : RdrAt (w2.alloc (.cells #[.slice A n c, .int .i64 p] 57)) w2.heap.size A n c xs p :=
      ⟨Two.new _ _ _ _, (h2.row.alloc (Nat.le_refl _) _).more (by simp), fun a ha => by have := h2.low a ha; omega, fun a ha => by have := h2.low a ha; simp; omega, h2.byte, h2.size, h2.pos⟩
    have hAl := Lib.hid (align_any h3)
    have hsz := hb2.size
    go_wp2_with fail
    clear hL c0 c1 n0 n1 f0 f1 hN
    refine hAl.out.mono ?_
    rintro e w3 ⟨rfl, _, hs3⟩
    go_wp2_with fail
    go_ret
    exact ⟨by rw [he.out]; rfl, Below.save (hb2.alloc hb2.size _) hs3 (fun i hi => by omega) (Nat.le_refl _)⟩
theorem end_nil {w : World} : Calls Try.prog 22 #[.pointer none] w fun e w' => e = .returned (.int .i64 1) ∧ w = w' := by
  go_enter Try.func22, Try.ntmps22
  go_wp2
  go_ret
  exact ⟨rfl, rfl⟩

/-! ### NewReader -/
theorem newReader_any {A : Option Addr} {n c B : Nat} {xs : List Int} {w : World} (hI : Rd .u8 w B A n xs) (hB : B ≤ w.heap.size) (hx : Byte xs) (hn : n ≤ 1099511627776) :
    Calls Try.prog 16 #[.slice A n c] w fun e w' => ∃ Br A2 c2, e = .returned (.pointer (some ⟨Br, 0, none⟩)) ∧ RdrAt w' Br A2 n c2 xs 0 ∧ Below w.heap.size w w' ∧ w.heap.size ≤ Br ∧ ∀ a, A2 = some a → w.heap.size ≤ a.block := by
  have hC := Lib.hid (clone_any (c := c) hI hB (by omega))
  go_enter Try.func16, Try.ntmps16
  go_wp2_with fail
  refine hC.out.mono ?_
  rintro e w1 ⟨A2, c2, rfl, hown, hb1⟩
  have hO := Lib.hid hown
  clear hown
  go_wp2_with fail
  go_ret
  have hlo : ∀ a, A2 = some a → w.heap.size ≤ a.block ∧ a.block < w1.heap.size := by
    rintro a rfl
    obtain ⟨g, cap, cur, h1, h2, h3, _⟩ := hO.out.2.resolve_left (fun h => by cases h.1)
    injection h1 with h1
    injection h1 with h1
    subst h1
    exact ⟨h2, (Array.getElem?_eq_some_iff.1 h3).1⟩
  refine ⟨w1.heap.size, A2, c2, rfl, ⟨Two.new _ _ _ _, ?_, fun a ha => ?_, fun a ha => ?_, hx, hn, Nat.zero_le _⟩, hb1.alloc hb1.size _, hb1.size, fun a ha => (hlo a ha).1⟩
  · exact ((Rd.of_own hO.out).alloc (Nat.le_refl _) _).more (by simp)
  · have := (hlo a ha).2; omega
  · have := (hlo a ha).2; simp; omega
end Go.Proofs.Ytgcgmnopggabaaa
