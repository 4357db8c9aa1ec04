/-
  The walk of TrellisEncodes.
-/
import Derived.Test.YtjehfdnkdfmmbaaWk
import Derived.Test.YtjehfdnkdfmmbaaR3
namespace Go.Proofs.Ytjehfdnkdfmmbaa
open Go.RowKit

theorem paL_byte {xs : List Int} (hb : Byte xs) (n : Nat) (h : ∀ j : Nat, j < n → xs[j]?.getD 0 ≤ 1) : Byte (paL xs n) := Byte.of_mem fun x hx => by
  obtain ⟨j, hj, rfl⟩ := List.mem_map.1 hx
  have hj := List.mem_range.1 hj
  have h0 := hb j
  have e : paK xs j = ((parS7 (stK xs j) (xs[j]?.getD 0).toNat : Nat) : Int) := by unfold paK goP; rw [if_pos (h j hj)]
  have := (step_lt _ (stK_lt hb j) (xs[j]?.getD 0).toNat (by have := h j hj; omega)).2
  rw [e]
  omega
theorem valid_all {xs : List Int} (hv : validB xs = true) : ∀ j : Nat, xs[j]?.getD 0 ≤ 1 := fun j => by
  simp only [validB, List.all_eq_true, decide_eq_true_eq] at hv
  rcases Nat.lt_or_ge j xs.length with h | h
  · have := hv _ (List.getElem_mem h)
    simpa [h] using this
  · simp [h]
theorem encR_byte {xs : List Int} (hb : Byte xs) : Byte (encR xs) := by
  unfold encR
  split
  · rename_i hv
    exact paL_byte hb _ (fun j _ => valid_all hv j)
  · exact Byte.of_mem (by simp)
theorem intsOf_byte {l : List Nat} (h : Bits7 l) : Byte (intsOf l) := Byte.of_mem fun x hx => by
  obtain ⟨y, hy, rfl⟩ := List.mem_map.1 hx
  have := h y hy
  omega
theorem Byte.append {a b : List Int} (ha : Byte a) (hb : Byte b) : Byte (a ++ b) := Byte.of_mem fun x hx => by
  rcases List.mem_append.1 hx with h | h
  · exact ha.mem x h
  · exact hb.mem x h
theorem wordS_byte {xs : List Int} (hb : Byte xs) : Byte (wordS xs).1 := by
  unfold wordS
  split
  · rename_i hv
    exact hb.append ((paL_byte hb _ (fun j _ => valid_all hv j)).append ((intsOf_byte (tailU_bits _)).append (intsOf_byte (parL_bits _ _ (stK_lt hb _) (tailU_bits _)))))
  · exact Byte.of_mem (by simp)
theorem same_true {A A' : Option Addr} {n c n' c' B B' : Nat} {xs : List Int} {w : World} (h : Rd .u8 w B A n xs) (h' : Rd .u8 w B' A' n' xs) (hx : Byte xs) :
    Calls Try.prog 21 #[.slice A n c, .slice A' n' c'] w fun e w' => e = .returned (.bool true) ∧ w' = w := by
  have := same_any (c := c) (c' := c') h h' hx hx
  rwa [decide_eq_true rfl] at this
theorem works_to {w v : World} (h : Below w.heap.size w v) : Calls Try.prog 13 #[] v fun e w' => e = .returned (.bool true) ∧ Below w.heap.size w w' :=
  works_any.mono fun _ _ he => ⟨he.1, h.trans (he.2.mono h.size)⟩
set_option maxRecDepth 100000 in
set_option maxHeartbeats 8000000 in
theorem encodes_walk {A : Option Addr} {n c : Nat} {xs : List Int} {w : World} (hI : Rd .u8 w w.heap.size A n xs) (hb : Byte xs) :
    Calls Try.prog 4 #[.slice A n c] w fun e w' => e = .returned (.bool true) ∧ Below w.heap.size w w' := by
  have hK := Lib.hid (fun (v : World) (h : Below w.heap.size w v) => works_to h)
  by_cases hn : n ≤ 1000
  · have hn1 : ¬ (1000 : Int) < (n : Int) := by omega
    obtain ⟨A1, c1, w1, run1, hO1, hb1⟩ := copy_run (c := c) hI (by omega)
    have R1 := Rd.of_own hO1
    have RI1 := hI.step hb1
    have hE := Lib.hid (fun (v : World) (A : Option Addr) (c : Nat) (h : Rd .u8 v v.heap.size A n xs) => Encode_any (c := c) h hb (by omega))
    have hRE := Lib.hid (fun (v : World) (A : Option Addr) (c : Nat) (h : Rd .u8 v v.heap.size A n xs) => refEncode_any (c := c) h hb (by omega))
    have hW := Lib.hid (fun (v : World) (A : Option Addr) (c : Nat) (h : Rd .u8 v v.heap.size A n xs) => Word_any (c := c) h hb (by omega))
    have hRW := Lib.hid (fun (v : World) (A : Option Addr) (c : Nat) (h : Rd .u8 v v.heap.size A n xs) => refWord_any (c := c) h hb (by omega))
    have bE := Lib.hid (encR_byte hb)
    have bW := Lib.hid (wordS_byte hb)
    have bX := Lib.hid hb
    have H1 := Lib.hid run1
    generalize encR xs = er at *
    generalize encN xs = en at *
    generalize encE xs = ee at *
    generalize wordS xs = wr at *
    obtain ⟨ws, we⟩ := wr
    simp only at bW
    have hb1' := Lib.hid hb1
    clear hI run1 hO1 hn hb hb1
    go_enter Try.func4, Try.ntmps4
    go_wp2_with (at_builtin; refine Lib.wpList_append_run _ rfl _ _ _ _ rfl _ _ rfl rfl _ _ H1.out ?_)
    refine (hE.out w1 A1 c1 R1).mono ?_
    rintro e w2 ⟨A2, c2, rfl, hO2, hb2⟩
    have P2 := Rd.of_own hO2
    have X2 := R1.step hb2
    have I2 := RI1.step hb2
    have B2 := hb1'.out.trans (hb2.mono hb1'.out.size)
    clear H1 R1 RI1 hb1' hO2 hb2 hE
    go_wp2_with fail
    refine (hRE.out w2 A c I2).mono ?_
    rintro e w3 ⟨A3, c3, rfl, hO3, hb3⟩
    have Q3 := Rd.of_own hO3
    have P3 := P2.step hb3
    have X3 := X2.step hb3
    have I3 := I2.step hb3
    have B3 := B2.trans (hb3.mono B2.size)
    clear P2 X2 I2 B2 hO3 hb3 hRE
    go_wp2_with fail
    refine (hW.out w3 A1 c1 X3).mono ?_
    rintro e w4 ⟨A4, c4, rfl, hO4, hb4⟩
    have W4 := Rd.of_own hO4
    have Q4 := Q3.step hb4
    have P4 := P3.step hb4
    have X4 := X3.step hb4
    have I4 := I3.step hb4
    have B4 := B3.trans (hb4.mono B3.size)
    clear Q3 P3 X3 I3 B3 hO4 hb4 hW
    go_wp2_with fail
    refine (hRW.out w4 A c I4).mono ?_
    rintro e w5 ⟨A5, c5, rfl, hO5, hb5⟩
    have V5 := Rd.of_own hO5
    have W5 := W4.step hb5
    have Q5 := Q4.step hb5
    have P5 := P4.step hb5
    have X5 := X4.step hb5
    have I5 := I4.step hb5
    have B5 := B4.trans (hb5.mono B4.size)
    have S1 := Lib.hid (same_true (c := c2) (c' := c3) P5 Q5 bE.out)
    have S2 := Lib.hid (same_true (c := c4) (c' := c5) W5 V5 bW.out)
    have S3 := Lib.hid (same_true (c := c1) (c' := c) X5 I5 bX.out)
    have HN := Lib.hid (fun (k : Int) => num_any (k := k) (w := w5))
    have HK := Lib.hid (hK.out w5 B5)
    clear W4 Q4 P4 X4 I4 B4 hO5 hb5 hRW V5 W5 Q5 P5 X5 I5 B5 hK
    simp only at S2
    go_wp2_with fail
    refine S1.out.mono ?_
    rintro e w6 ⟨rfl, he⟩
    obtain rfl := he.symm
    go_wp2_with fail
    refine (HN.out _).mono ?_
    rintro e w6 ⟨rfl, he⟩
    obtain rfl := he.symm
    go_wp2_with fail
    refine S2.out.mono ?_
    rintro e w6 ⟨rfl, he⟩
    obtain rfl := he.symm
    go_wp2_with fail
    refine (HN.out _).mono ?_
    rintro e w6 ⟨rfl, he⟩
    obtain rfl := he.symm
    go_wp2_with fail
    refine S3.out.mono ?_
    rintro e w6 ⟨rfl, he⟩
    obtain rfl := he.symm
    go_wp2_with fail
    refine HK.out.mono ?_
    rintro e w7 ⟨rfl, hb7⟩
    clear S1 S2 S3 HN HK
    go_wp2_with fail
    go_ret
    exact ⟨rfl, hb7⟩
  · have hn1 : (1000 : Int) < (n : Int) := by omega
    have HK := Lib.hid (hK.out w (Below.refl _ _))
    clear hI hb hK hn
    go_enter Try.func4, Try.ntmps4
    go_wp2_with fail
    refine HK.out.mono ?_
    rintro e w1 ⟨rfl, hb1⟩
    clear HK
    go_wp2_with fail
    go_ret
    exact ⟨rfl, hb1⟩
end Go.Proofs.Ytjehfdnkdfmmbaa
