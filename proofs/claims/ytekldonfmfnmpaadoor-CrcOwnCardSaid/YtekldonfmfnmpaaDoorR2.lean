/-
  The reference's Compute: the long division in place.
-/
import Derived.Test.YtekldonfmfnmpaaDoorR1
import Derived.Test.YtekldonfmfnmpaaDoorZ1
namespace Go.Proofs.YtekldonfmfnmpaaDoor
open Go.RowKit

/-- Element p of the word after i steps and t places of the next one. -/
def midB (g bs : List Bool) (i t p : Nat) : Bool := if i ≤ p ∧ p < i + t then divAt g bs (i + 1) p else divAt g bs i p
def rowD (g bs : List Bool) (N i t : Nat) : List Int := (List.range N).map fun p => bI (midB g bs i t p)
theorem rowD_length (g bs : List Bool) (N i t : Nat) : (rowD g bs N i t).length = N := by simp [rowD]
theorem rowD_get {g bs : List Bool} {N i t p : Nat} (h : p < N) : (rowD g bs N i t)[p]?.getD 0 = bI (midB g bs i t p) := by simp [rowD, h]
theorem rowD_start (g bs : List Bool) (L : Nat) : rowD g bs (bs.length + L) 0 0 = toI bs ++ List.replicate L 0 := by
  apply List.ext_getElem (by simp [rowD, toI])
  intro p h1 h2
  have e1 : (rowD g bs (bs.length + L) 0 0)[p] = bI (bs.getD p false) := by
    simp only [rowD, List.getElem_map, List.getElem_range]
    unfold midB
    rw [if_neg (by omega), divAt_zero]
  rw [e1]
  by_cases hp : p < bs.length
  · rw [List.getElem_append_left (by simpa [toI] using hp)]
    simp [toI, List.getD_eq_getElem?_getD, hp]
  · rw [List.getElem_append_right (by simp [toI]; omega), getD_past (by omega)]
    simp [bI]
theorem rowD_next {g bs : List Bool} {N i : Nat} (hi : i < bs.length) : rowD g bs N i (g.length + 1) = rowD g bs N (i + 1) 0 := by
  unfold rowD
  apply List.map_congr_left
  intro p hp
  congr 1
  unfold midB
  rw [if_neg (show ¬(i + 1 ≤ p ∧ p < i + 1 + 0) by omega)]
  split
  · rfl
  · rename_i h
    rw [divAt_step g bs i p hi, if_neg (show ¬(i ≤ p ∧ p ≤ i + g.length) by omega), Bool.and_false, Bool.xor_false]
theorem rowD_skip {g bs : List Bool} {N i : Nat} (hi : i < bs.length) (h0 : divAt g bs i i = false) : rowD g bs N i 0 = rowD g bs N (i + 1) 0 := by
  unfold rowD
  apply List.map_congr_left
  intro p hp
  congr 1
  unfold midB
  rw [if_neg (by omega), if_neg (by omega), divAt_step g bs i p hi, h0, Bool.false_and, Bool.xor_false]
theorem rowD_set {g bs : List Bool} {N i t : Nat} (hi : i < bs.length) (h1 : divAt g bs i i = true) (ht : t ≤ g.length) : rowD g bs N i (t + 1) = (rowD g bs N i t).set (i + t) (bI (xor (midB g bs i t (i + t)) ((true :: g).getD t false))) := by
  apply List.ext_getElem (by simp [rowD])
  intro p hp1 hp2
  rw [List.getElem_set]
  simp only [rowD, List.getElem_map, List.getElem_range]
  by_cases h : i + t = p
  · subst h
    rw [if_pos rfl]
    congr 1
    have e1 : midB g bs i (t + 1) (i + t) = divAt g bs (i + 1) (i + t) := by unfold midB; rw [if_pos (by omega)]
    have e2 : midB g bs i t (i + t) = divAt g bs i (i + t) := by unfold midB; rw [if_neg (by omega)]
    rw [e1, e2, divAt_step g bs i (i + t) hi, h1, if_pos (by omega), Bool.true_and, Nat.add_sub_cancel_left]
  · rw [if_neg h]
    congr 1
    unfold midB
    by_cases h3 : i ≤ p ∧ p < i + t
    · rw [if_pos h3, if_pos (by omega)]
    · rw [if_neg h3, if_neg (by omega)]
theorem rowD_end (g bs : List Bool) : (rowD g bs (bs.length + g.length) bs.length 0).drop bs.length = toI (crcB g bs) := by
  apply List.ext_getElem (by simp [rowD, toI, crcB_length])
  intro t h1 h2
  have ht : t < g.length := by simpa [toI, crcB_length] using h2
  rw [List.getElem_drop]
  simp only [rowD, List.getElem_map, List.getElem_range]
  unfold midB
  rw [if_neg (by omega), divAt_end]
  have := toI_getD (crcB g bs) t
  rw [List.getElem?_eq_getElem h2] at this
  simpa using this.symm
theorem xor_bI (a b : Bool) : bits .xor .u8 (bI a) (bI b) = bI (xor a b) := by cases a <;> cases b <;> decide
theorem polyL_get {k : Int} {t : Nat} (h : (genN k).2 ≠ 0) (ht : t ≤ (genN k).2) : (polyL k)[t]?.getD 0 = bI ((true :: genB k).getD t false) := by
  unfold polyL
  rw [if_neg h]
  cases t with
  | zero => rfl
  | succ t =>
    rw [List.getElem?_cons_succ, toI_getD]
    rfl
theorem bI_range (b : Bool) : 0 ≤ bI b ∧ bI b ≤ 255 := by cases b <;> simp [bI]
theorem refCompute_arg {A : Option Addr} {n c : Nat} {k : Int} {w : World} (h : (genN k).2 = 0) :
    Calls Tryd.prog 13 #[.int .i64 k, .slice A n c] w (RetN w none ([], 2)) := by
  have hp := poly_any (k := k) (w := w)
  have hN : polyN k = 0 := by unfold polyN; rw [if_pos h]
  rw [hN] at hp
  have HP := Lib.hid hp; clear hp h hN
  go_enter Tryd.func13, Tryd.ntmps13
  go_wp2_with fail
  refine HP.out.mono ?_
  rintro e w1 ⟨⟨A2, c2, rfl, hown⟩, hb⟩
  clear hown
  go_wp2_with fail
  go_ret2
  exact RetN.mk_ rfl (NewB.same (Rd.nil _ _ _ _) hb)
theorem refCompute_bit {A : Option Addr} {n c : Nat} {k : Int} {xs : List Int} {w : World} (hI : Rd .u8 w w.heap.size A n xs) (hn : n ≤ 1000000) (h : (genN k).2 ≠ 0) (hv : validB xs = false) :
    Calls Tryd.prog 13 #[.int .i64 k, .slice A n c] w (RetN w none ([], 3)) := by
  have hp := poly_any (k := k) (w := w)
  have hN : polyN k = (genN k).2 + 1 := by unfold polyN; rw [if_neg h]
  rw [hN] at hp
  have HP := Lib.hid hp; clear hp hN
  have hval := Lib.hid (fun (u : World) (h : Below w.heap.size w u) => refValid_any (c := c) (hI.below h) (by omega))
  have HV := Lib.hid hv; clear hv
  generalize (genN k).2 = L at *
  go_enter Tryd.func13, Tryd.ntmps13
  go_wp2_with fail
  refine HP.out.mono ?_
  rintro e w1 ⟨⟨A2, c2, rfl, hown⟩, hb⟩
  clear hown
  go_wp2_with fail
  refine (hval.out _ hb).mono ?_
  rintro e w2 ⟨rfl, rfl⟩
  rw [HV.out]
  go_wp2_with fail
  go_ret2
  exact RetN.mk_ rfl (NewB.same (Rd.nil _ _ _ _) hb)
set_option maxRecDepth 100000 in
set_option maxHeartbeats 4000000 in
theorem refCompute_ok {A : Option Addr} {n c : Nat} {k : Int} {xs : List Int} {w : World} (hI : Rd .u8 w w.heap.size A n xs) (hn : n ≤ 1000000) (h : (genN k).2 ≠ 0) (hv : validB xs = true) (hx : Bits xs) :
    Calls Tryd.prog 13 #[.int .i64 k, .slice A n c] w (RetN w none (crcI k xs, 0)) := by
  obtain ⟨i0, hi, hz0, hz1, hz2⟩ := info_parts Tryd.info_u8
  have hp := poly_any (k := k) (w := w)
  have hN : polyN k = (genN k).2 + 1 := by unfold polyN; rw [if_neg h]
  have hPget := Lib.hid (fun t (ht : t ≤ (genN k).2) => polyL_get (k := k) h ht)
  have hcl : Hid ((crcI k xs).length = (genN k).2) := Lib.hid (crcI_length k xs)
  have hgl : Hid ((genB k).length = (genN k).2) := Lib.hid (genB_length k)
  have hL1 : 0 < (genN k).2 := by omega
  have hL24 := genN_le k
  have hbl : Hid ((toB xs).length = n) := Lib.hid (by rw [toB_length, hI.len])
  have hend : Hid ((rowD (genB k) (toB xs) (n + (genN k).2) n 0).drop n = crcI k xs) := Lib.hid (by
    have := rowD_end (genB k) (toB xs)
    rw [hbl.out, hgl.out] at this
    exact this)
  have hst : Hid (rowD (genB k) (toB xs) (n + (genN k).2) 0 0 = xs ++ List.replicate (genN k).2 0) := Lib.hid (by
    have := rowD_start (genB k) (toB xs) (genN k).2
    rw [hbl.out, toI_toB hx] at this
    exact this)
  rw [hN] at hp
  generalize polyL k = pl at *
  generalize genB k = g at *
  generalize toB xs = bs at *
  generalize crcI k xs = cr at *
  generalize (genN k).2 = L at *
  clear hN
  have HP := Lib.hid hp; clear hp
  have hval := Lib.hid (fun (u : World) (h : Below w.heap.size w u) => refValid_any (c := c) (hI.below h) (by omega))
  have HV := Lib.hid hv; clear hv h
  have hlen := Lib.hid hI.len
  go_enter Tryd.func13, Tryd.ntmps13
  go_wp2_with fail
  refine HP.out.mono ?_
  rintro e w1 ⟨⟨A2, c2, rfl, hown⟩, hb⟩
  have hgr := Rd.of_own hown
  have hA2 := own_cap' hown
  clear hown
  go_wp2_with fail
  refine (hval.out _ hb).mono ?_
  rintro e w2 ⟨rfl, rfl⟩
  rw [HV.out]
  obtain ⟨V3, w3, hr1, ho1, hg1, _⟩ := run_append_rd_at (P := Tryd.prog) (t := 23) (ty := 23) (base := w1.heap.size) (c' := c) (xs := []) Tryd.underlying23 hi hz0 hz1 hz2 (by simpa using World.ownsRow_nil w1 w1.heap.size 5 1) (hI.below hb) (by omega) (Nat.le_refl _)
  obtain ⟨A3, c3, rfl⟩ := ownsRow_shape ho1
  rw [Nat.zero_add] at hr1 ho1
  have hb1 : Below w1.heap.size w1 w3 := (Below.refl _ w1).grown hg1 (Nat.le_refl _) (fun g hg => by cases hg)
  obtain ⟨A4, c4, w4, hr2, ho2, hb2⟩ := append_zeros_own (k := L) (by simpa using ho1) hL1 (by omega) (by omega) hb1.size
  rw [← hst.out] at ho2
  have hb3 := hb2 w1.heap.size w1 hb1 (Nat.le_refl _) (Nat.le_refl _)
  have HR1 := Lib.hid hr1; have HR2 := Lib.hid hr2
  have HO2 := Lib.hid ho2
  clear hr1 hr2 ho1 ho2 hb1 hb2 hg1
  go_wp2_with (at_builtin; first | (refine Lib.wpList_append_run _ rfl _ _ _ _ rfl _ _ rfl rfl _ _ HR1.out ?_; clear HR1) | (refine Lib.wpList_append_run _ rfl _ _ _ _ rfl _ _ rfl rfl _ _ HR2.out ?_; clear HR2))
  obtain ⟨gb, cap4, hv4, hgb, hgl4⟩ := HO2.out.form (by omega)
  injection hv4 with e1 _ e3
  subst e1 e3
  clear hgl4
  go_loopw [8] (fun s wr => ∃ i : Nat, i ≤ n ∧ s = .int .i64 i ∧ Hid (wr.ownsRow w1.heap.size 5 1 (.slice (some ⟨gb, 0, none⟩) (n + L) c4) (n + L) ((rowD g bs (n + L) i 0).map (Value.int .u8))) ∧ Below w1.heap.size w1 wr)
    (fun s _ => n - (intOf s).toNat)
  case atStart => exact ⟨0, Nat.zero_le _, rfl, HO2, hb3⟩
  case round =>
    clear HO2 hb3
    obtain ⟨i, hi2, rfl, hO, hB⟩ := hrel
    by_cases hlt : i < n
    · have hc0 : wr.cell? ⟨gb, i, none⟩ = some (.int .u8 (bI (divAt g bs i i))) := by
        rw [hO.out.cellAt i (by omega)]
        have : i < n + L := by omega
        simp [rowD, this, midB]
      by_cases hd : divAt g bs i i = true
      · have hD := Lib.hid hd
        rw [hd, show bI true = 1 from rfl] at hc0
        clear hd
        go_wp2_with fail
        go_loopw [9] (fun s wr2 => ∃ t : Nat, t ≤ L + 1 ∧ s = .int .i64 t ∧ Hid (wr2.ownsRow w1.heap.size 5 1 (.slice (some ⟨gb, 0, none⟩) (n + L) c4) (n + L) ((rowD g bs (n + L) i t).map (Value.int .u8))) ∧ Below w1.heap.size w1 wr2)
          (fun s _ => L + 1 - (intOf s).toNat)
        case atStart => exact ⟨0, Nat.zero_le _, rfl, hO, hB⟩
        case round =>
          clear hc0 hO hB
          rename World => wr2
          obtain ⟨t, ht, rfl, hO, hB⟩ := hrel
          by_cases htl : t < L + 1
          · have hc1 : wr2.cell? ⟨gb, i + t, none⟩ = some (.int .u8 (bI (midB g bs i t (i + t)))) := by
              rw [hO.out.cellAt (i + t) (by omega)]
              have : i + t < n + L := by omega
              simp [rowD, this]
            have hf1 := hO.out.frozenAt (i + t)
            obtain ⟨b2, off2, rfl, hb2, hc2⟩ := (hgr.below hB).cells t htl
            rw [hPget.out t (by omega)] at hc2
            have hS := Lib.hid (rowD_set (N := n + L) (g := g) (bs := bs) (i := i) (t := t) (by rw [hbl.out]; exact hlt) hD.out (by rw [hgl.out]; omega))
            have hST := Lib.hid (hO.out.stored (i + t) (.int .u8 (bI (xor (midB g bs i t (i + t)) ((true :: g).getD t false)))))
            have hxor := Lib.hid (xor_bI (midB g bs i t (i + t)) ((true :: g).getD t false))
            have hr3 := bI_range (xor (midB g bs i t (i + t)) ((true :: g).getD t false))
            generalize bI (xor (midB g bs i t (i + t)) ((true :: g).getD t false)) = z at *
            generalize bI (midB g bs i t (i + t)) = x at *
            generalize bI ((true :: g).getD t false) = y at *
            have hk0 : (0 : Int) ≤ (i : Int) + (t : Int) := by omega
            have hk1 : (i : Int) + (t : Int) < (n : Int) + (L : Int) := by omega
            have hk2 : IntKind.i64.wrap ((i : Int) + (t : Int)) = (i : Int) + (t : Int) := IntWalk.i64_in _ (by omega)
            have hk3 : ((i : Int) + (t : Int)).toNat = i + t := by omega
            have hk4 : (0 : Int) ≤ (t : Int) := by omega
            have hk5 : (t : Int) < (L : Int) + 1 := by omega
            have hk6 : (t : Int) < ((L + 1 : Nat) : Int) := by omega
            have hk7 : (i : Int) + (t : Int) < ((n + L : Nat) : Int) := by omega
            have hxo := hxor.out
            go_wp2_with fail
            go_still_tail 15, (by kernel_rfl)
            change wpList _ _ _ _ _ wr2.drew
            go_wp2_with fail
            go_roundw
            case rel =>
              refine ⟨t + 1, by omega, by go_num, Lib.hid ?_, (hB.setCell (p := ⟨gb, i + t, none⟩) hgb _).drew⟩
              rw [hS.out, List.map_set]
              exact hST.out.1
            case measure => simp [intOf]; omega
          · obtain rfl : t = L + 1 := by omega
            have hnx : Hid (rowD g bs (n + L) i (L + 1) = rowD g bs (n + L) (i + 1) 0) := Lib.hid (by
              have := rowD_next (N := n + L) (g := g) (bs := bs) (i := i) (by rw [hbl.out]; exact hlt)
              rw [hgl.out] at this
              exact this)
            rw [hnx.out] at hO
            clear hnx htl
            go_wp2_with fail
            go_roundw
            case rel => exact ⟨i + 1, by omega, by go_num, hO, hB⟩
            case measure => simp [intOf]; omega
      · have hd0 : divAt g bs i i = false := by simpa using hd
        have hsk := Lib.hid (rowD_skip (N := n + L) (g := g) (bs := bs) (i := i) (by rw [hbl.out]; exact hlt) hd0)
        rw [hd0, show bI false = 0 from rfl] at hc0
        rw [hsk.out] at hO
        clear hd hd0 hsk
        go_wp2_with fail
        go_roundw
        case rel => exact ⟨i + 1, by omega, by go_num, hO, hB⟩
        case measure => simp [intOf]; omega
    · obtain rfl : i = n := by omega
      have hRd := Rd.of_own hO.out
      have hcap := own_cap' hO.out
      have hcut := Rd.cut hRd (lo := i) (hi := i + L) (cap := c4) (by omega) (by omega) hcap
      rw [List.take_of_length_le (by rw [List.length_drop, rowD_length]; omega), hend.out, Nat.add_sub_cancel_left] at hcut
      have hadr : (if c4 = i then (some ⟨gb, 0, none⟩ : Option Addr) else (some ⟨gb, 0, none⟩ : Option Addr).map (·.add i)) = some ⟨gb, i, none⟩ := by
        rw [if_neg (by omega)]
        by_cases h0 : i = 0 <;> simp [Addr.add, h0]
      rw [hadr] at hcut
      have hglt := (hO.out.lt gb rfl).2
      have hbw : Below w.heap.size w wr := hb.trans (hB.mono hb.size)
      have HC := Lib.hid hcut
      clear hcut hadr hRd hO
      go_wp2_with fail
      go_ret2
      have HC2 := HC.out
      rw [← hcl.out] at HC2
      exact RetN.mk_ hcl.out.symm ⟨HC2, fun a ha => .inr (by cases ha; exact ⟨Nat.le_trans hb.size hgb, hglt⟩), hbw⟩
theorem refCompute_any {A : Option Addr} {n c : Nat} {k : Int} {xs : List Int} {w : World} (hI : Rd .u8 w w.heap.size A n xs) (hn : n ≤ 1000000) (hx : Byte xs) :
    Calls Tryd.prog 13 #[.int .i64 k, .slice A n c] w (RetN w none (computeS k xs)) := by
  unfold computeS
  split
  · rename_i h; exact refCompute_arg h
  · rename_i h
    split
    · rename_i hv; exact refCompute_bit hI hn h hv
    · rename_i hv
      have hv' : validB xs = true := by simpa using hv
      exact refCompute_ok hI hn h hv' (validB_bits hx hv')
end Go.Proofs.YtekldonfmfnmpaaDoor
