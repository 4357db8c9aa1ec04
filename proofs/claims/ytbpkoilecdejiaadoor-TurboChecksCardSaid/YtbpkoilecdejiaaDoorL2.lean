/-
  The walk of TurboChecks.
-/
import Derived.Test.YtbpkoilecdejiaaDoorL1
import Derived.Test.YtbpkoilecdejiaaDoorV8
import Derived.Test.YtbpkoilecdejiaaDoorS5
namespace Go.Proofs.YtbpkoilecdejiaaDoor
set_option maxRecDepth 100000
open Go.RowKit

theorem bitsS_byte {xs : List Int} (hb : Byte xs) : Byte (bitsS xs).1 := by
  unfold bitsS
  split
  · split
    · exact Byte.of_mem fun x hx => hb.mem x (List.mem_of_mem_take hx)
    · exact Byte.of_mem (by simp)
  · exact Byte.of_mem (by simp)
set_option maxHeartbeats 8000000 in
theorem checks_walk {A : Option Addr} {n c : Nat} {xs : List Int} {w : World} (hKi : Kinds w) (hI : Rd .u8 w w.heap.size A n xs) (hb : Byte xs) (hc : n ≤ c) :
    Calls Tryd.prog 4 #[.slice A n c] w fun e w' => e = .returned (.bool true) ∧ Below w.heap.size w w' := by
  have hK := Lib.hid (fun (v : World) (h : Below w.heap.size w v) => works_to hKi h)
  by_cases hn : n ≤ 1600
  · have hn1 : ¬ (1600 : Int) < (n : Int) := by omega
    obtain ⟨A1, c1, w1, run1, hO1, hb1⟩ := copy_run (c := c) hI (by omega)
    have hc1 := own_cap hO1
    have R1 := Rd.of_own hO1
    have I1 := hI.step hb1
    have hE := Lib.hid (fun (v : World) (hB : Below w.heap.size w v) (h : Rd .u8 v v.heap.size A1 n xs) => turboBits_any (c := c1) (hKi.step hB) h hb (by omega) hc1)
    have hRE := Lib.hid (fun (v : World) (h : Rd .u8 v v.heap.size A n xs) => refBits_any (c := c) h hb (by omega) hc)
    have hC := Lib.hid (fun (v : World) (hB : Below w.heap.size w v) (h : Rd .u8 v v.heap.size A1 n xs) => Check_any (c := c1) (hKi.step hB) h hb (by omega) hc1)
    have hRC := Lib.hid (fun (v : World) (h : Rd .u8 v v.heap.size A n xs) => refCheck_any (c := c) h hb (by omega) hc)
    have bE := Lib.hid (bitsS_byte hb)
    have bX := Lib.hid hb
    have H1 := Lib.hid run1
    generalize bitsS xs = er at *
    generalize chkS xs = sk at *
    obtain ⟨ws, we⟩ := er
    simp only at bE
    have B1 := Lib.hid hb1
    clear hI run1 hO1 hn hb hb1 hKi hc hc1
    go_enter Tryd.func4, Tryd.ntmps4
    go_wp2_with (at_builtin; refine Lib.wpList_append_run _ rfl _ _ _ _ rfl _ _ rfl rfl _ _ H1.out ?_)
    refine (hE.out w1 B1.out R1).mono ?_
    rintro e w2 ⟨A2, c2, rfl, hO2, hb2⟩
    have P2 := Rd.of_own hO2
    have X2 := R1.step hb2
    have I2 := I1.step hb2
    have B2 := B1.out.trans (hb2.mono B1.out.size)
    clear H1 R1 I1 B1 hO2 hb2 hE
    go_wp2_with fail
    refine (hRE.out w2 I2).mono ?_
    rintro e w3 ⟨A3, c3, rfl, hO3, hb3⟩
    have Q3 := Rd.of_own hO3
    have P3 := P2.step hb3
    have X3 := X2.step hb3
    have I3 := I2.step hb3
    have B3 := B2.trans (hb3.mono B2.size)
    clear P2 X2 I2 B2 hO3 hb3 hRE
    go_wp2_with fail
    refine (hC.out w3 B3 X3).mono ?_
    rintro e w4 ⟨rfl, hb4⟩
    have Q4 := Q3.step hb4
    have P4 := P3.step hb4
    have X4 := X3.step hb4
    have I4 := I3.step hb4
    have B4 := B3.trans (hb4.mono B3.size)
    have S1 := Lib.hid (same_true (c := c2) (c' := c3) P4 Q4 bE.out)
    have HN := Lib.hid (fun (k : Int) (w : World) => num_any (k := k) (w := w))
    clear Q3 P3 X3 I3 B3 hb4 hC Q4 P4
    go_wp2_with fail
    refine S1.out.mono ?_
    rintro e w5 ⟨rfl, he⟩
    obtain rfl := he.symm
    clear S1
    go_wp2_with (go_at_call 14; refine (HN.out _ _).mono ?_; rintro e wn ⟨rfl, he⟩; obtain rfl := he.symm)
    refine (hRC.out _ I4).mono ?_
    rintro e w5 ⟨rfl, hb5⟩
    have X5 := X4.step hb5
    have I5 := I4.step hb5
    have B5 := B4.trans (hb5.mono B4.size)
    have S2 := Lib.hid (same_true (c := c1) (c' := c) X5 I5 bX.out)
    clear hRC X4 I4 B4 hb5 X5 I5 HN
    go_wp2_with fail
    refine S2.out.mono ?_
    rintro e w6 ⟨rfl, he⟩
    obtain rfl := he.symm
    clear S2
    go_wp2_with fail
    refine (hK.out _ B5).mono ?_
    rintro e w6 ⟨rfl, h6⟩
    clear hK B5
    go_wp2_with fail
    go_ret
    exact ⟨rfl, h6⟩
  · have hn1 : (1600 : Int) < (n : Int) := by omega
    clear hI hb
    go_enter Tryd.func4, Tryd.ntmps4
    go_wp2_with fail
    refine (hK.out _ (Below.refl _ _)).mono ?_
    rintro e w6 ⟨rfl, h6⟩
    clear hK
    go_wp2_with fail
    go_ret
    exact ⟨rfl, h6⟩
end Go.Proofs.YtbpkoilecdejiaaDoor
