/-
  The walk of TurboEncodes.
-/
import Derived.Test.YtbpkoilecdejiaaDoorWk
import Derived.Test.YtbpkoilecdejiaaDoorS4
namespace Go.Proofs.YtbpkoilecdejiaaDoor
set_option maxRecDepth 100000
open Go.RowKit

theorem works_to {w v : World} (hK : Kinds w) (h : Below w.heap.size w v) : Calls Tryd.prog 10 #[] v fun e w' => e = .returned (.bool true) ∧ Below w.heap.size w w' :=
  (works_any (hK.step h)).mono fun _ _ he => ⟨he.1, h.trans (he.2.mono h.size)⟩
theorem bits_byte {xs : List Int} (h : Bits xs) : Byte xs := Byte.of_mem fun x hx => by
  have := h x hx
  omega
theorem tbS_byte {xs : List Int} (hb : Byte xs) : Byte (tbS xs).1 := by
  unfold tbS
  split
  · split
    · rename_i hv
      exact bits_byte (tbI_bits (validB_bits hb hv))
    · exact Byte.of_mem (by simp)
  · exact Byte.of_mem (by simp)
theorem own_cap {w : World} {base n c : Nat} {T : TypeId} {A : Option Addr} {xs : List Value} (h : w.ownsRow base T 1 (.slice A n c) n xs) : n ≤ c := by
  rcases h.2 with ⟨e, h0⟩ | ⟨g, cap, cur, e, _, _, h1, _⟩
  · injection e with _ e1 e2
    omega
  · injection e with _ _ e2
    omega
set_option maxHeartbeats 8000000 in
theorem encodes_walk {A : Option Addr} {n c : Nat} {k : Int} {xs : List Int} {w : World} (hKi : Kinds w) (hI : Rd .u8 w w.heap.size A n xs) (hb : Byte xs) :
    Calls Tryd.prog 3 #[.slice A n c, .int .i64 k] w fun e w' => e = .returned (.bool true) ∧ Below w.heap.size w w' := by
  have hK := Lib.hid (fun (v : World) (h : Below w.heap.size w v) => works_to hKi h)
  by_cases hn : n ≤ 1100
  · have hn1 : ¬ (1100 : Int) < (n : Int) := by omega
    obtain ⟨A1, c1, w1, run1, hO1, hb1⟩ := copy_run (c := c) hI (by omega)
    have R1 := Rd.of_own hO1
    have I1 := hI.step hb1
    have hE := Lib.hid (fun (v : World) (A : Option Addr) (c : Nat) (hB : Below w.heap.size w v) (h : Rd .u8 v v.heap.size A n xs) => turboEncode_any (c := c) (hKi.step hB) h hb (by omega))
    have hRE := Lib.hid (fun (v : World) (A : Option Addr) (c : Nat) (h : Rd .u8 v v.heap.size A n xs) => refEnc_any (c := c) h hb (by omega))
    have hS := Lib.hid (fun (v : World) (hB : Below w.heap.size w v) => Size_any (k := k) (hKi.step hB))
    have hRS := Lib.hid (fun (v : World) => refSize_any (k := k) (w := v))
    have bE := Lib.hid (tbS_byte hb)
    have bX := Lib.hid hb
    have H1 := Lib.hid run1
    generalize tbS xs = er at *
    generalize sizeS k = sk at *
    obtain ⟨ws, we⟩ := er
    simp only at bE
    have B1 := Lib.hid hb1
    clear hI run1 hO1 hn hb hb1 hKi
    go_enter Tryd.func3, Tryd.ntmps3
    go_wp2_with (at_builtin; refine Lib.wpList_append_run _ rfl _ _ _ _ rfl _ _ rfl rfl _ _ H1.out ?_)
    refine (hE.out w1 A1 c1 B1.out R1).mono ?_
    rintro e w2 ⟨A2, c2, rfl, hO2, hb2⟩
    have P2 := Rd.of_own hO2
    have X2 := R1.step hb2
    have I2 := I1.step hb2
    have B2 := B1.out.trans (hb2.mono B1.out.size)
    clear H1 R1 I1 B1 hO2 hb2 hE
    go_wp2_with fail
    refine (hRE.out w2 A c I2).mono ?_
    rintro e w3 ⟨A3, c3, rfl, hO3, hb3⟩
    have Q3 := Rd.of_own hO3
    have P3 := P2.step hb3
    have X3 := X2.step hb3
    have I3 := I2.step hb3
    have B3 := B2.trans (hb3.mono B2.size)
    have S1 := Lib.hid (same_true (c := c2) (c' := c3) P3 Q3 bE.out)
    have S2 := Lib.hid (same_true (c := c1) (c' := c) X3 I3 bX.out)
    have HN := Lib.hid (fun (k : Int) => num_any (k := k) (w := w3))
    have HS := Lib.hid (hS.out w3 B3)
    clear P2 X2 I2 B2 hO3 hb3 hRE Q3 P3 X3 I3 hS
    simp only at S1
    go_wp2_with fail
    refine S1.out.mono ?_
    rintro e w4 ⟨rfl, he⟩
    obtain rfl := he.symm
    clear S1
    go_wp2_with (go_at_call 14; refine (HN.out _).mono ?_; rintro e wn ⟨rfl, he⟩; obtain rfl := he.symm)
    refine S2.out.mono ?_
    rintro e w4 ⟨rfl, he⟩
    obtain rfl := he.symm
    clear S2 HN
    go_wp2_with fail
    refine HS.out.mono ?_
    rintro e w4 ⟨rfl, hb4⟩
    have B4 := B3.trans (hb4.mono B3.size)
    clear HS hb4 B3
    go_wp2_with fail
    refine (hRS.out _).mono ?_
    rintro e w5 ⟨rfl, hb5⟩
    have B5 := B4.trans (hb5.mono B4.size)
    clear hRS hb5 B4
    go_wp2_with fail
    refine (hK.out _ B5).mono ?_
    rintro e w6 ⟨rfl, h6⟩
    clear hK B5
    go_wp2_with fail
    go_ret
    exact ⟨rfl, h6⟩
  · have hn1 : (1100 : Int) < (n : Int) := by omega
    clear hI hb
    go_enter Tryd.func3, Tryd.ntmps3
    go_wp2_with fail
    refine (hK.out _ (Below.refl _ _)).mono ?_
    rintro e w6 ⟨rfl, h6⟩
    clear hK
    go_wp2_with fail
    go_ret
    exact ⟨rfl, h6⟩
end Go.Proofs.YtbpkoilecdejiaaDoor
