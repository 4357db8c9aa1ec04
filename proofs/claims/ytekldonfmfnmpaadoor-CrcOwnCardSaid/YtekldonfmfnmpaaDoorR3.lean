/-
  The reference's Check: what it returns; what was there stays.
-/
import Derived.Test.YtekldonfmfnmpaaDoorR2
import Derived.Test.YtekldonfmfnmpaaDoorK8
namespace Go.Proofs.YtekldonfmfnmpaaDoor
open Go.RowKit

theorem bits_valid {xs : List Int} (h : Bits xs) : validB xs = true := by
  unfold validB
  rw [List.all_eq_true]
  intro x hx
  rcases h x hx with rfl | rfl <;> decide
theorem NewB.nil_ {w w' : World} {A : Option Addr} (hb : Below w.heap.size w w') : NewB w A [] none w' := ⟨Rd.nil _ _ _ _, fun a ha => by (cases ha), hb⟩
theorem refCheck_arg {A : Option Addr} {n c : Nat} {k : Int} {w : World} (h : (genN k).2 = 0) (hn : n ≤ 1000000) :
    Calls Tryd.prog 18 #[.int .i64 k, .slice A n c] w (RetN w A ([], 2)) := by
  have hl := Lib.hid (fun u : World => refLen_any (k := k) (w := u))
  rw [h] at hl
  go_enter Tryd.func18, Tryd.ntmps18
  go_wp2_with fail
  refine (hl.out _).mono ?_
  rintro e w1 ⟨rfl, hb⟩
  go_wp2_with fail
  refine (hl.out _).mono ?_
  rintro e w2 ⟨rfl, hb2⟩
  have hbb := hb.trans (hb2.mono hb.size)
  go_wp2_with fail
  go_ret2
  exact RetN.mk_ rfl (NewB.nil_ hbb)
theorem refCheck_bit {A : Option Addr} {n c : Nat} {k : Int} {xs : List Int} {w : World} (hI : Rd .u8 w w.heap.size A n xs) (hn : n ≤ 900000) (h : (genN k).2 ≠ 0) (hv : validB xs = false) :
    Calls Tryd.prog 18 #[.int .i64 k, .slice A n c] w (RetN w A ([], 3)) := by
  have hl := Lib.hid (fun u : World => refLen_any (k := k) (w := u))
  have hval := Lib.hid (fun (u : World) (h : Below w.heap.size w u) => refValid_any (c := c) (hI.below h) (by omega))
  have HV := Lib.hid hv; clear hv
  have hle := genN_le k
  have hd : ((((genN k).2 : Nat) : Int) == 0) = false := by simp; omega
  clear h
  generalize (genN k).2 = L at *
  go_enter Tryd.func18, Tryd.ntmps18
  go_wp2_with fail
  refine (hl.out _).mono ?_
  rintro e w1 ⟨rfl, hb⟩
  go_wp2_with fail
  refine (hl.out _).mono ?_
  rintro e w2 ⟨rfl, hb2⟩
  have hbb := hb.trans (hb2.mono hb.size)
  go_wp2_with fail
  refine (hval.out _ hbb).mono ?_
  rintro e w3 ⟨rfl, rfl⟩
  rw [HV.out]
  go_wp2_with fail
  go_ret2
  exact RetN.mk_ rfl (NewB.nil_ hbb)
theorem refCheck_short {A : Option Addr} {n c : Nat} {k : Int} {xs : List Int} {w : World} (hI : Rd .u8 w w.heap.size A n xs) (hn : n ≤ 900000) (h : (genN k).2 ≠ 0) (hv : validB xs = true) (hs : n < (genN k).2) :
    Calls Tryd.prog 18 #[.int .i64 k, .slice A n c] w (RetN w A ([], 5)) := by
  have hl := Lib.hid (fun u : World => refLen_any (k := k) (w := u))
  have hval := Lib.hid (fun (u : World) (h : Below w.heap.size w u) => refValid_any (c := c) (hI.below h) (by omega))
  have HV := Lib.hid hv; clear hv
  have hle := genN_le k
  have hd : ((((genN k).2 : Nat) : Int) == 0) = false := by simp; omega
  clear h
  generalize (genN k).2 = L at *
  have hd2 : decide ((n : Int) - (L : Int) < 0) = true := by simp; omega
  go_enter Tryd.func18, Tryd.ntmps18
  go_wp2_with fail
  refine (hl.out _).mono ?_
  rintro e w1 ⟨rfl, hb⟩
  go_wp2_with fail
  refine (hl.out _).mono ?_
  rintro e w2 ⟨rfl, hb2⟩
  have hbb := hb.trans (hb2.mono hb.size)
  go_wp2_with fail
  refine (hval.out _ hbb).mono ?_
  rintro e w3 ⟨rfl, rfl⟩
  rw [HV.out]
  go_wp2_with fail
  go_ret2
  exact RetN.mk_ rfl (NewB.nil_ hbb)
set_option maxRecDepth 100000 in
set_option maxHeartbeats 1000000 in
theorem refCheck_ok {A : Option Addr} {n c : Nat} {k : Int} {xs : List Int} {w : World} (hI : Rd .u8 w w.heap.size A n xs) (hn : n ≤ 900000) (hc : n ≤ c) (h : (genN k).2 ≠ 0) (hv : validB xs = true) (hx : Bits xs) (m : Nat) (hm : n = m + (genN k).2) :
    Calls Tryd.prog 18 #[.int .i64 k, .slice A n c] w (RetN w A (chkR (decide (crcI k (xs.take m) = xs.drop m)) (xs.take m))) := by
  obtain ⟨bb, off, rfl, _, _⟩ := hI.cells 0 (by omega)
  have hl := Lib.hid (fun u : World => refLen_any (k := k) (w := u))
  have hval := Lib.hid (fun (u : World) (h : Below w.heap.size w u) => refValid_any (c := c) (hI.below h) (by omega))
  have hlx := hI.len
  have hcut1 : Rd .u8 w w.heap.size (some ⟨bb, off, none⟩) m (xs.take m) := by
    have h0 := Rd.cut hI (lo := 0) (hi := m) (cap := n + 1) (Nat.zero_le _) (by omega) (by omega)
    rw [if_neg (by omega)] at h0
    simp only [List.drop_zero, Nat.sub_zero] at h0
    simpa [Addr.add] using h0
  have hcut2 := Rd.cut hI (lo := m) (hi := n) (cap := c) (by omega) (Nat.le_refl _) hc
  have hadr : (if c = m then (some ⟨bb, off, none⟩ : Option Addr) else (some ⟨bb, off, none⟩ : Option Addr).map (·.add m)) = some ⟨bb, off + m, none⟩ := by
    rw [if_neg (by omega)]
    by_cases h0 : m = 0 <;> simp [Addr.add, h0]
  rw [hadr] at hcut2
  have hs := Lib.hid (fun (u : World) (hb : Below w.heap.size w u) => refCompute_ok (c := c) (k := k) (hcut1.step hb) (by omega) h (bits_valid (Bits.take hx m)) (Bits.take hx m))
  have hle := genN_le k
  have hq8 := Lib.hid (show (xs.take m).length = m by rw [List.length_take]; omega)
  have hr8 := Lib.hid (crcI_length k (xs.take m))
  rw [List.take_of_length_le (show (xs.drop m).length ≤ n - m by rw [List.length_drop]; omega)] at hcut2
  have hL0 : 0 < (genN k).2 := by omega
  have HV := Lib.hid hv; clear hv
  have hd : ((((genN k).2 : Nat) : Int) == 0) = false := by simp; omega
  clear h hlx hadr
  generalize crcI k (xs.take m) = r at *
  generalize (genN k).2 = L at *
  subst hm
  generalize xs.take m = q at *
  generalize xs.drop m = d at *
  rw [Nat.add_sub_cancel_left] at hcut2
  have hC2 := Lib.hid hcut2; clear hcut2
  have hi0 : (0 : Int) ≤ (m : Int) := by omega
  have hi1 : (m : Int) ≤ (c : Int) := by omega
  have hi2 : (m : Int) ≤ (m : Int) + (L : Int) := by omega
  have hi3 : m ≤ c := by omega
  have hi4 : m ≤ m + L := by omega
  have hi5 : ¬ c = m := by omega
  obtain ⟨b, hbd⟩ : ∃ b, decide (r = d) = b := ⟨_, rfl⟩
  rw [hbd]
  have HBD := Lib.hid hbd; clear hbd
  cases b
  all_goals
    unfold chkR
    go_enter Tryd.func18, Tryd.ntmps18
    go_wp2_with fail
    refine (hl.out _).mono ?_
    rintro e w1 ⟨rfl, hb⟩
    go_wp2_with fail
    refine (hl.out _).mono ?_
    rintro e w2 ⟨rfl, hb2⟩
    have hbb := hb.trans (hb2.mono hb.size)
    clear hb hb2
    go_wp2_with fail
    refine (hval.out _ hbb).mono ?_
    rintro e w3 ⟨rfl, rfl⟩
    rw [HV.out]
    go_wp2_with fail
    refine (hs.out _ hbb).mono ?_
    rintro e w4 ⟨A3, c3, rfl, hnew⟩
    have hb4 := hbb.trans (hnew.below.mono hbb.size)
    have hrd := hnew.rd
    simp only at hrd ⊢
    rw [hr8.out] at hrd ⊢
    clear hnew
    have hsm := Lib.hid (same_any (c := c3) (c' := c - m) hrd (hC2.out.below hb4) (by omega) (by omega))
    go_wp2_with fail
    refine hsm.out.mono ?_
    rintro e w5 ⟨rfl, i, rfl⟩
    rw [HBD.out]
    have hb5 : Below w.heap.size w (w4.drewN i) := below_drewN hb4 i
    clear hsm hrd
    go_wp2_with fail
    go_ret2
  · exact RetN.mk_ rfl (NewB.nil_ hb5)
  · exact RetN.mk_ hq8.out.symm (NewB.same hcut1 hb5)
theorem refCheck_any {A : Option Addr} {n c : Nat} {k : Int} {xs : List Int} {w : World} (hI : Rd .u8 w w.heap.size A n xs) (hn : n ≤ 900000) (hc : n ≤ c) (hx : Byte xs) :
    Calls Tryd.prog 18 #[.int .i64 k, .slice A n c] w (RetN w A (checkS k xs)) := by
  have hl := hI.len
  unfold checkS
  split
  · rename_i h; exact refCheck_arg h (by omega)
  · rename_i h
    split
    · rename_i hv; exact refCheck_bit hI hn h hv
    · rename_i hv
      have hv' : validB xs = true := by simpa using hv
      split
      · rename_i hs; exact refCheck_short hI hn h hv' (by omega)
      · rename_i hs
        have h1 := refCheck_ok (k := k) hI hn hc h hv' (validB_bits hx hv') (xs.length - (genN k).2) (by omega)
        by_cases he : crcI k (xs.take (xs.length - (genN k).2)) = xs.drop (xs.length - (genN k).2)
        · rw [if_pos he]; rw [decide_eq_true he] at h1; exact h1
        · rw [if_neg he]; rw [decide_eq_false he] at h1; exact h1
end Go.Proofs.YtekldonfmfnmpaaDoor
