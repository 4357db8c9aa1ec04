/-
  The reference's Size. The reference's Bits. The reference's Encode.
-/
import Derived.Test.YtbpkoilecdejiaaDoorRd
import Derived.Test.YtbpkoilecdejiaaDoorTx
import Derived.Test.YtbpkoilecdejiaaDoorLw
namespace Go.Proofs.YtbpkoilecdejiaaDoor
/-! ### The reference's Size. -/
section
set_option maxRecDepth 100000
open Go.RowKit

theorem sizeS_size {m : Nat} (hs : IsSize m) : sizeS (m : Int) = 3 * ((m : Int) + 4) := by
  unfold sizeS
  rw [isB_nat, decide_eq_true hs, if_pos rfl]
theorem sizeS_no {k : Int} (h : isB k = false) : sizeS k = 0 := by
  unfold sizeS
  rw [h]
  rfl
theorem refSize_any {k : Int} {w : World} :
    Calls Tryd.prog 16 #[.int .i64 k] w fun e w' => e = .returned (.int .i64 (sizeS k)) ∧ Below w.heap.size w w' := by
  have hO := Lib.hid (refOrder_any (k := k) (w := w))
  by_cases hk : isB k = true
  · obtain ⟨m, rfl, hs⟩ := isB_ex hk
    have hm := size_le hs
    have HE := Lib.hid (sizeS_size hs)
    rw [orderS_size hs] at hO
    have h1 : (40 : Int) ≤ (m : Int) := by omega
    have h2 : (m : Int) ≤ 6144 := by omega
    clear hk hs
    go_enter Tryd.func16, Tryd.ntmps16
    go_wp2_with fail
    refine hO.out.mono ?_
    rintro e w1 ⟨A1, c1, rfl, hO1, hb1⟩
    clear hO hO1
    go_wp2_with fail
    go_ret
    rw [HE.out]
    exact ⟨by go_num, hb1⟩
  · have hk := Bool.eq_false_iff.2 hk
    have HE := Lib.hid (sizeS_no hk)
    rw [orderS_no hk] at hO
    clear hk
    go_enter Tryd.func16, Tryd.ntmps16
    go_wp2_with fail
    refine hO.out.mono ?_
    rintro e w1 ⟨A1, c1, rfl, hO1, hb1⟩
    clear hO hO1
    go_wp2_with fail
    go_ret
    rw [HE.out]
    exact ⟨rfl, hb1⟩
end

/-! ### The reference's Bits. -/
section
set_option maxRecDepth 100000
open Go.RowKit

theorem Rd.take {q : IntKind} {w : World} {B n : Nat} {A : Option Addr} {xs : List Int} (h : Rd q w B A n xs) {m : Nat} (hm : m ≤ n) : Rd q w B A m (xs.take m) := by
  refine ⟨by rw [List.length_take, h.len]; omega, fun k hk => ?_⟩
  obtain ⟨b, off, e, hb, hc⟩ := h.cells k (by omega)
  exact ⟨b, off, e, hb, by rw [hc, List.getElem?_take, if_pos hk]⟩
/-- What Bits answers. -/
def bitsS (xs : List Int) : List Int × Int := if xs.length % 3 = 0 ∧ isB (((xs.length / 3 : Nat) : Int) - 4) = true then (if validB xs then (xs.take (xs.length / 3 - 4), 0) else ([], 3)) else ([], 2)
theorem bitsS_no {xs : List Int} (h : ¬ (xs.length % 3 = 0 ∧ isB (((xs.length / 3 : Nat) : Int) - 4) = true)) : bitsS xs = ([], 2) := by unfold bitsS; rw [if_neg h]
theorem bitsS_size {xs : List Int} {m : Nat} (hs : IsSize m) (hl : xs.length = 3 * (m + 4)) : bitsS xs = if validB xs then (xs.take m, 0) else ([], 3) := by
  have e1 : xs.length / 3 = m + 4 := by omega
  unfold bitsS
  rw [e1, if_pos ⟨by omega, by rw [show ((m + 4 : Nat) : Int) - 4 = (m : Int) by omega, isB_nat, decide_eq_true hs]⟩, Nat.add_sub_cancel]
/-- The lengths of words. -/
theorem word_len {n : Nat} (h : n % 3 = 0 ∧ isB (((n / 3 : Nat) : Int) - 4) = true) : ∃ m, IsSize m ∧ n = 3 * (m + 4) := by
  obtain ⟨m, hm, hs⟩ := isB_ex h.2
  exact ⟨m, hs, by omega⟩
set_option maxHeartbeats 2000000 in
theorem refBits_no {A : Option Addr} {n c : Nat} {xs : List Int} {w : World} (hl : xs.length = n) (hn : n ≤ 100000) (h : ¬ (n % 3 = 0 ∧ isB (((n / 3 : Nat) : Int) - 4) = true)) :
    Calls Tryd.prog 18 #[.slice A n c] w (RetBytes 5 w ([], 2)) := by
  have hq : (n : Int).tdiv 3 = ((n / 3 : Nat) : Int) := by rw [Int.tdiv_eq_ediv_of_nonneg (by omega)]; omega
  have hr : (n : Int).tmod 3 = ((n % 3 : Nat) : Int) := by rw [IntWalk.rem_in _ _ (by omega)]; omega
  have hq1 : n / 3 ≤ 100000 := by omega
  by_cases h3 : n % 3 = 0
  · have hb : isB (((n / 3 : Nat) : Int) - 4) = false := Bool.eq_false_iff.2 fun e => h ⟨h3, e⟩
    have hS := Lib.hid (refSize_any (k := ((n / 3 : Nat) : Int) - 4) (w := w))
    rw [sizeS_no hb] at hS
    rw [h3] at hr
    clear h hb
    generalize n / 3 = q at *
    go_enter Tryd.func18, Tryd.ntmps18
    go_wp2_with fail
    refine hS.out.mono ?_
    rintro e w1 ⟨rfl, hb1⟩
    go_wp2_with fail
    go_ret2
    exact RetBytes.nil_ hb1
  · have hr0 : ¬ ((n % 3 : Nat) : Int) = 0 := by omega
    clear h h3
    generalize n / 3 = q at *
    generalize n % 3 = r at *
    go_enter Tryd.func18, Tryd.ntmps18
    go_wp2_with fail
    go_ret2
    exact RetBytes.nil_ (Below.refl _ _)
set_option maxHeartbeats 2000000 in
theorem refBits_size {A : Option Addr} {n c m : Nat} {xs : List Int} {w : World} (hI : Rd .u8 w w.heap.size A n xs) (hb : Byte xs) (hn : n ≤ 100000) (hc : n ≤ c) (hs : IsSize m) (hm : n = 3 * (m + 4)) :
    Calls Tryd.prog 18 #[.slice A n c] w (RetBytes 5 w (if validB xs then (xs.take m, 0) else ([], 3))) := by
  generalize hres : (if validB xs = true then (xs.take m, (0 : Int)) else ([], 3)) = res
  have HRES := Lib.hid hres
  clear hres
  obtain ⟨bb, off, rfl, _, _⟩ := hI.cells 0 (by omega)
  have hq : (n : Int).tdiv 3 = ((m + 4 : Nat) : Int) := by rw [Int.tdiv_eq_ediv_of_nonneg (by omega)]; omega
  have hr : (n : Int).tmod 3 = 0 := by rw [IntWalk.rem_in _ _ (by omega)]; omega
  have hmk := size_le hs
  have hS := Lib.hid (refSize_any (k := (m : Int)) (w := w))
  rw [sizeS_size hs] at hS
  have hq4 : ((m + 4 : Nat) : Int) - 4 = (m : Int) := by omega
  have hz : ¬ (3 * ((m : Int) + 4)) = 0 := by omega
  have hHI := Lib.hid hI
  have HB := Lib.hid hb
  have HL := Lib.hid hI.len
  have hm1 : (m : Int) ≤ (c : Int) := by omega
  have hm2 : m ≤ c := by omega
  have hm3 : (0 : Int) ≤ (m : Int) := by omega
  have hmn : m ≤ n := by omega
  generalize m + 4 = q at *
  clear hI hb hs hm
  go_enter Tryd.func18, Tryd.ntmps18
  go_wp2_with fail
  refine hS.out.mono ?_
  rintro e w1 ⟨rfl, hb1⟩
  go_wp2_with fail
  have h1 := Lib.hid (hHI.out.step hb1)
  have HB1 := Lib.hid hb1
  clear hb1 hS
  go_loopw [5] (fun i W => ∃ k : Nat, k ≤ n ∧ i = .int .i64 k ∧ validB (xs.take k) = true ∧ W = w1) (fun i _ => n - (intOf i).toNat)
  case atStart => exact ⟨0, Nat.zero_le _, rfl, rfl, rfl⟩
  case round =>
    obtain ⟨k, hk, rfl, hv, hw⟩ := hrel
    subst hw
    have hV := Lib.hid hv; clear hv
    by_cases hlt : k < n
    · obtain ⟨b, off', hbe, _, hcl⟩ := h1.out.cells k hlt
      injection hbe with hbe
      injection hbe with hb3 hb4
      subst hb3 hb4
      have hS := Lib.hid (take_snoc xs k (by rw [HL.out]; exact hlt) 0)
      have hk0 : (0 : Int) ≤ (k : Int) := by omega
      have hk1 : (k : Int) < (n : Int) := by omega
      by_cases hx : 1 < xs[k]?.getD 0
      · have hf : validB xs = false := validB_prefix (k := k + 1) (by rw [hS.out, validB_snoc]; simp; intro _; exact hx)
        have HF := Lib.hid (show res = ([], 3) by rw [← HRES.out, hf]; rfl)
        clear hf
        generalize xs[k]?.getD 0 = x at *
        clear hS hV
        go_wp2_with fail
        go_ret2
        rw [HF.out]
        exact RetBytes.nil_ HB1.out
      · have hV2 := Lib.hid (show validB (xs.take (k + 1)) = true by rw [hS.out, validB_snoc, hV.out]; simp; omega)
        generalize xs[k]?.getD 0 = x at *
        clear hS hV
        go_wp2_with fail
        go_roundw
        case rel => exact ⟨k + 1, by omega, by go_num, hV2.out, by first | rfl | trivial⟩
        case measure => simp [intOf]; omega
    · obtain rfl : k = n := by omega
      have hv : validB xs = true := by rw [← hV.out, ← HL.out, List.take_length]
      have HE := Lib.hid (show res = (xs.take m, 0) by rw [← HRES.out, hv]; rfl)
      clear hv
      have hT := h1.out.take hmn
      obtain ⟨A2, c2, w2, run2, hO2, hb2⟩ := copy_run (c := c) hT (by omega)
      have R := Lib.hid run2
      have HF := Lib.hid (RetBytes.mk_ (k := 0) hT.len hO2 HB1.out.size (HB1.out.trans (hb2.mono HB1.out.size)) rfl)
      clear run2 hO2 hb2 hT hV
      go_wp2_with (at_builtin; refine Lib.wpList_append_run _ rfl _ _ _ _ rfl _ _ rfl rfl _ _ R.out ?_)
      go_ret2
      rw [HE.out]
      exact HF.out
theorem refBits_any {A : Option Addr} {n c : Nat} {xs : List Int} {w : World} (hI : Rd .u8 w w.heap.size A n xs) (hb : Byte xs) (hn : n ≤ 100000) (hc : n ≤ c) :
    Calls Tryd.prog 18 #[.slice A n c] w (RetBytes 5 w (bitsS xs)) := by
  by_cases h : n % 3 = 0 ∧ isB (((n / 3 : Nat) : Int) - 4) = true
  · obtain ⟨m, hs, hm⟩ := word_len h
    rw [bitsS_size hs (by rw [hI.len, hm])]
    exact refBits_size hI hb hn hc hs hm
  · rw [bitsS_no (by rw [hI.len]; exact h)]
    exact refBits_no hI.len hn h
end

/-! ### The reference's Encode. -/
section
set_option maxRecDepth 100000
open Go.RowKit

theorem valid_of_bits {xs : List Int} (h : Bits xs) : validB xs = true := by
  simp only [validB, List.all_eq_true, decide_eq_true_eq]
  intro x hx
  have := h x hx
  omega
theorem Rd.four (w : World) (t : TypeId) (a b c d : Int) : Rd .u8 (w.alloc (.cells #[.int .u8 a, .int .u8 b, .int .u8 c, .int .u8 d] t)) (w.alloc (.cells #[.int .u8 a, .int .u8 b, .int .u8 c, .int .u8 d] t)).heap.size (some ⟨w.heap.size, 0, none⟩) 4 [a, b, c, d] := by
  refine ⟨rfl, fun k hk => ⟨w.heap.size, 0, rfl, by simp, ?_⟩⟩
  have h : (w.alloc (.cells #[.int .u8 a, .int .u8 b, .int .u8 c, .int .u8 d] t)).heap[w.heap.size]? = _ := World.alloc_heap_new w _
  simp only [World.cell?, h, Nat.zero_add]
  have : k = 0 ∨ k = 1 ∨ k = 2 ∨ k = 3 := by omega
  rcases this with rfl | rfl | rfl | rfl <;> rfl
/-- append of four bytes. -/
theorem more_four {w : World} {base : Nat} {A : Option Addr} {n c : Nat} {xs : List Int} {a b d e : Int} (hO : w.ownsRow base 5 1 (.slice A n c) n (xs.map (Value.int .u8))) (hn : n ≤ 2199023255552) (hb : base ≤ w.heap.size) :
    ∃ A2 c2 w2, (Builtin.append_ #[22, 22] 22 #[.slice A n c, .slice (some ⟨w.heap.size, 0, none⟩) 4 4]).run Tryd.prog (w.alloc (.cells #[.int .u8 a, .int .u8 b, .int .u8 d, .int .u8 e] 5)) = .ok (.slice A2 (n + 4) c2) w2 ∧
      w2.ownsRow base 5 1 (.slice A2 (n + 4) c2) (n + 4) ((xs ++ [a, b, d, e]).map (Value.int .u8)) ∧ (∀ B v, Below B v w → B ≤ base → B ≤ v.heap.size → Below B v w2) := by
  obtain ⟨A2, c2, w2, h1, h2, h3⟩ := more_run (c' := 4) (hO.alloc (.cells #[.int .u8 a, .int .u8 b, .int .u8 d, .int .u8 e] 5)) (Rd.four w 5 a b d e) hn (by omega) (by simp; omega)
  exact ⟨A2, c2, w2, h1, h2, fun B v hv hB hs => h3 B v (hv.alloc (Nat.le_trans hs hv.size) _) hB hs⟩
set_option maxHeartbeats 2000000 in
theorem refEnc_no {A : Option Addr} {n c : Nat} {xs : List Int} {w : World} (hI : Rd .u8 w w.heap.size A n xs) (hb : Byte xs) (hn : n ≤ 100000) (h : isB (n : Int) = false ∨ validB xs = false) :
    Calls Tryd.prog 12 #[.slice A n c] w (RetBytes 5 w (tbS xs)) := by
  have hO := Lib.hid (refOrder_any (k := (n : Int)) (w := w))
  by_cases hk : isB (n : Int) = true
  · have hv : validB xs = false := by
      rcases h with h | h
      · rw [hk] at h; cases h
      · exact h
    have e0 : tbS xs = ([], 3) := by unfold tbS; rw [hI.len, if_pos hk, hv]; rfl
    have HE := Lib.hid (fun (u : World) (h : Rd .u8 u u.heap.size A n xs) => refEncode_any (c := c) h hb (by omega))
    have e1 : encR xs = [] := by unfold encR; rw [hv]; rfl
    have e2 : encN xs = 0 := by unfold encN; rw [hv]; rfl
    have e3 : encE xs = 3 := by unfold encE; rw [hv]; rfl
    rw [e1, e2, e3] at HE
    rw [e0]
    have hs : IsSize n := by rw [isB_nat] at hk; simpa using hk
    rw [orderS_size hs] at hO
    have HI := Lib.hid hI
    clear e0 e1 e2 e3 hI hb h hk hv hs
    go_enter Tryd.func12, Tryd.ntmps12
    go_wp2_with fail
    refine hO.out.mono ?_
    rintro e w1 ⟨A1, c1, rfl, hO1, hb1⟩
    have HI1 := Lib.hid (HI.out.step hb1)
    clear hO hO1
    go_wp2_with fail
    refine (HE.out _ HI1.out).mono ?_
    rintro e w2 ⟨A2, c2, rfl, hO2, hb2⟩
    have hb12 := hb1.trans (hb2.mono hb1.size)
    clear hO2 HE
    go_wp2_with fail
    go_ret2
    exact RetBytes.nil_ hb12
  · have hk := Bool.eq_false_iff.2 hk
    have e0 : tbS xs = ([], 2) := by unfold tbS; rw [hI.len, hk]; rfl
    rw [e0]
    rw [orderS_no hk] at hO
    clear e0 hI hb h hk
    go_enter Tryd.func12, Tryd.ntmps12
    go_wp2_with fail
    refine hO.out.mono ?_
    rintro e w1 ⟨A1, c1, rfl, hO1, hb1⟩
    clear hO hO1
    go_wp2_with fail
    go_ret2
    exact RetBytes.nil_ hb1
end
end Go.Proofs.YtbpkoilecdejiaaDoor
