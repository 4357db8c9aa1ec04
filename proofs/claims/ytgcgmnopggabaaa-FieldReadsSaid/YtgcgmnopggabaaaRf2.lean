/-
  The reference's writer: PutBytes, PutAll, Bytes.
-/
import Derived.Test.YtgcgmnopggabaaaRf1
namespace Go.Proofs.Ytgcgmnopggabaaa
open Go.RowKit

set_option maxRecDepth 100000 in
set_option maxHeartbeats 1000000 in
theorem rputBytes_any {w : World} {A A1 : Option Addr} {n c m c1 B : Nat} {bs l : List Int} (hI : Rd .u8 w w.heap.size A n bs) (hn : n ≤ 1099511627776) (hR : Rd .u8 w B A1 m l) (hB : B ≤ w.heap.size) (hl : Byte l) (hm : m ≤ 1000000) :
    Calls Try.prog 32 #[.slice A n c, .slice A1 m c1] w (RetS w A (bs ++ bitsOf l)) := by
  have hF := Lib.hid (refUnpack_any (m := 8 * (m : Int)) (w := w) (c := c1) hR hB hl (by omega) (by omega))
  have hU : Hid (unpackS l (8 * (m : Int)) = (bitsOf l, 0)) := Lib.hid (by
    have h1 := hR.len
    have := unpackS_ok (p := l) (m := 8 * m) (by omega)
    rw [bitsOf, h1]
    push_cast at this
    exact this)
  rw [hU.out] at hF
  clear hU
  have hlen := hI.len
  have hlen2 : Hid ((bitsOf l).length = 8 * m) := Lib.hid (by rw [bitsOf_length, hR.len])
  generalize bitsOf l = q at *
  have HI := Lib.hid hI
  have HN := Lib.hid hn
  have HM := Lib.hid hm
  have h8 : IntKind.i64.wrap (8 * (m : Int)) = 8 * (m : Int) := IntWalk.i64_in _ (by omega)
  clear hI hn hR hB hl hm
  go_enter Try.func32, Try.ntmps32
  go_wp2_with fail
  refine hF.out.mono ?_
  rintro e w1 ⟨A1, c1, rfl, hown, hb1⟩
  have hR1 : Rd .u8 w1 w1.heap.size A1 q.length q := Rd.of_own hown
  obtain ⟨A2, c2, w2, hrun1, hown2, hb2⟩ := copy_run (c := c) (HI.out.step hb1) (by have := HN.out; omega)
  obtain ⟨A3, c3, w3, hrun2, hown3, hb3⟩ := more_run (c' := c1) hown2 (hR1.step hb2) (by have := HN.out; omega) (by have := HM.out; have := hlen2.out; omega) hb2.size
  have HR1 := Lib.hid hrun1
  have HR2 := Lib.hid hrun2
  have HO := Lib.hid hown3
  have HB := Lib.hid (hb3 _ _ (hb1.trans (hb2.mono hb1.size)) hb1.size (Nat.le_refl _))
  have HS := Lib.hid hb1.size
  clear hown hb1 hrun1 hrun2 hown2 hown3 hb2 hb3 hR1
  go_wp2_with (at_builtin; first | (refine Lib.wpList_append_run _ rfl _ _ _ _ rfl _ _ rfl rfl _ _ HR1.out ?_; clear HR1) | refine Lib.wpList_append_run _ rfl _ _ _ _ rfl _ _ rfl rfl _ _ HR2.out ?_)
  go_ret
  exact RetS.mk_ (by rw [List.length_append, hlen]) (NewB.own_le HO.out HB.out HS.out)

set_option maxRecDepth 100000 in
theorem rbytes_any {w : World} {A : Option Addr} {n c : Nat} {bs : List Int} (hI : Rd .u8 w w.heap.size A n bs) (hn : n ≤ 1099511627776) (hb : Bits bs) :
    Calls Try.prog 15 #[.slice A n c] w (RetS w none (packL bs)) := by
  have hF := Lib.hid (refPack_any (c := c) hI (Nat.le_refl _) hb.byte (by omega))
  rw [packS_bits hb] at hF
  clear hI hn hb
  go_enter Try.func15, Try.ntmps15
  go_wp2_with fail
  refine hF.out.mono ?_
  rintro e w1 ⟨A1, c1, rfl, hown, hb1⟩
  have HO := Lib.hid hown
  have HB := Lib.hid hb1
  clear hown hb1
  go_wp2_with fail
  go_ret
  exact RetS.mk_ rfl (NewB.own_le HO.out HB.out (Nat.le_refl _))
end Go.Proofs.Ytgcgmnopggabaaa
