/-
  The reference's writer: PutAll.
-/
import Derived.Test.YtgcgmnopggabaaaRf2
import Derived.Deep.RegionHeld3
namespace Go.Proofs.Ytgcgmnopggabaaa
open Go.RowKit

theorem RdF.step {w w' : World} {n : Nat} {A : Option Addr} {fs : List (Int × Int)} (h : RdF w w.heap.size A n fs) (hb : Below w.heap.size w w') : RdF w' w'.heap.size A n fs :=
  ⟨h.len, fun k hk => by
    obtain ⟨b, off, e, h1, h2, h3⟩ := h.cells k hk
    exact ⟨b, off, e, Nat.lt_of_lt_of_le h1 hb.size, (hb.cell (p := ⟨b, off + k * 2, none⟩) h1).trans h2, (hb.cell (p := ⟨b, off + k * 2 + 1, none⟩) h1).trans h3⟩, h.range⟩
def putAllS (bs : List Int) (fs : List (Int × Int)) : List Int × Int := (if errAll fs = 0 then bs ++ bitsAll fs else bs, errAll fs)
theorem take_snocF (fs : List (Int × Int)) (k : Nat) (h : k < fs.length) : fs.take (k + 1) = fs.take k ++ [fs[k]?.getD (0, 0)] := by
  rw [List.take_add_one]
  simp [h]
theorem putS_snoc {bs : List Int} {fs : List (Int × Int)} {k : Nat} (hk : k < fs.length) (h0 : (fromUintS (fs[k]?.getD (0, 0)).1 (fs[k]?.getD (0, 0)).2).2 = 0) :
    bs ++ bitsAll (fs.take k) ++ putS (fs[k]?.getD (0, 0)).1 (fs[k]?.getD (0, 0)).2 = bs ++ bitsAll (fs.take (k + 1)) := by
  rw [take_snocF _ _ hk, bitsAll_snoc, putS, if_pos h0, List.append_assoc]
set_option maxRecDepth 100000 in
set_option maxHeartbeats 1000000 in
theorem rputAll_any {w : World} {A A1 : Option Addr} {n c m c1 : Nat} {bs : List Int} {fs : List (Int × Int)} (hI : Rd .u8 w w.heap.size A n bs) (hn : n ≤ 100000000) (hR : RdF w w.heap.size A1 m fs) (hm : m ≤ 10000) :
    Calls Try.prog 35 #[.slice A n c, .slice A1 m c1] w (RetN w A (putAllS bs fs)) := by
  have HI := Lib.hid hI
  have HR := Lib.hid hR
  have HN := Lib.hid hn
  have HM := Lib.hid hm
  clear hI hn hR
  go_enter Try.func35, Try.ntmps35
  go_wp2_with fail
  go_loopw [6, 7, 8, 9] (fun p i _ _ wr => ∃ (k : Nat) (A2 : Option Addr) (c2 n2 : Nat), k ≤ m ∧ i = .int .i64 k ∧ p = .slice A2 n2 c2 ∧ n2 ≤ n + 64 * k ∧ Hid ((∀ f ∈ fs.take k, (fromUintS f.1 f.2).2 = 0) ∧ (bs ++ bitsAll (fs.take k)).length = n2 ∧ NewB w A (bs ++ bitsAll (fs.take k)) A2 wr))
    (fun _ i _ _ _ => m - (intOf i).toNat)
  case atStart => exact ⟨0, A, c, n, Nat.zero_le _, rfl, rfl, by omega, Lib.hid ⟨by simp, by simp [bitsAll, HI.out.len], by have := NewB.same HI.out (Below.refl _ w); simpa [bitsAll] using this⟩⟩
  case round =>
    obtain ⟨k, A2, c2, n2, hk, rfl, rfl, hn2, hJ⟩ := hrel
    by_cases hlt : k < m
    · have hml := HR.out.len
      have hrd := hJ.out.2.2.rd
      rw [hJ.out.2.1] at hrd
      have hbw := hJ.out.2.2.below
      obtain ⟨b, off, rfl, hb, hc, hd⟩ := (HR.out.step hbw).cells k hlt
      have hrg := (HR.out.step hbw).at_range k hlt
      have hkf : k < fs.length := by rw [hml]; exact hlt
      have hbd : Below w.heap.size w wr.drew := ⟨hbw.os, hbw.tape, hbw.output, hbw.size, hbw.block⟩
      have hP := Lib.hid (rput_any (w := wr.drew) (c := c2) (v := (fs[k]?.getD (0, 0)).1) (wd := (fs[k]?.getD (0, 0)).2) hrd.drew (by have := HN.out; omega) hrg)
      have hsn : Hid (∀ h0 : (fromUintS (fs[k]?.getD (0, 0)).1 (fs[k]?.getD (0, 0)).2).2 = 0, bs ++ bitsAll (fs.take k) ++ putS (fs[k]?.getD (0, 0)).1 (fs[k]?.getD (0, 0)).2 = bs ++ bitsAll (fs.take (k + 1)) ∧ ∀ f ∈ fs.take (k + 1), (fromUintS f.1 f.2).2 = 0) := Lib.hid (fun h0 => ⟨putS_snoc hkf h0, fun f hf => by
        rw [take_snocF _ _ hkf] at hf
        rcases List.mem_append.1 hf with h | h
        · exact hJ.out.1 f h
        · rw [List.mem_singleton.1 h]; exact h0⟩)
      have hse : Hid ((fromUintS (fs[k]?.getD (0, 0)).1 (fs[k]?.getD (0, 0)).2).2 ≠ 0 → errAll fs = (fromUintS (fs[k]?.getD (0, 0)).1 (fs[k]?.getD (0, 0)).2).2) := Lib.hid (errAll_first hkf hJ.out.1)
      have hpl := Lib.hid (putS_len (fs[k]?.getD (0, 0)).1 (fs[k]?.getD (0, 0)).2)
      generalize (fs[k]?.getD (0, 0)).1 = v at *
      generalize (fs[k]?.getD (0, 0)).2 = wd at *
      have HH := Lib.hid (And.intro hkf (And.intro hml hrg))
      clear hkf hml hrg hrd
      have HB := Lib.hid hbd
      clear hbw hbd
      have hql : Hid ((bs ++ bitsAll (fs.take k) ++ putS v wd).length ≤ n2 + 64) := Lib.hid (by rw [List.length_append, hJ.out.2.1]; have := hpl.out; omega)
      generalize bs ++ bitsAll (fs.take k) ++ putS v wd = q at *
      generalize (fromUintS v wd).2 = ez at *
      have hk0 : (0 : Int) ≤ (k : Int) := by omega
      have hk1 : (k : Int) < (m : Int) := by omega
      go_wp2_with fail
      go_region_held3 (fun w' => w'.cell? ⟨b, off + k * 2, none⟩ = some (.int .u64 v) ∧ w'.cell? ⟨b, off + k * 2 + 1, none⟩ = some (.int .i64 wd))
        (first
          | go_keep
          | exact ⟨(hnew.below.cell (p := ⟨b, off + k * 2, none⟩) hb).trans hc, (hnew.below.cell (p := ⟨b, off + k * 2 + 1, none⟩) hb).trans hd⟩)
        (first | (go_at_call 34; refine hP.out.mono ?_; rintro e w3 ⟨A3, c3, rfl, hnew⟩))
      have HW := Lib.hid hnew
      clear hnew
      by_cases hz : ez = 0
      · have hdz : (ez != 0) = false := by simp [hz]
        have HS := Lib.hid (hsn.out hz)
        go_wp2_with fail
        go_roundw
        case rel => exact ⟨k + 1, A3, c3, q.length, by omega, by go_num, rfl, by have := hql.out; omega, Lib.hid (by
          obtain ⟨h1, h2⟩ := HS.out
          rw [← h1]
          exact ⟨h2, rfl, ⟨HW.out.rd, fun a ha => (HW.out.place a ha).elim (fun h => (hJ.out.2.2.place a h).imp id (fun h => ⟨h.1, Nat.lt_of_lt_of_le h.2 HW.out.below.size⟩)) (fun h => .inr ⟨Nat.le_trans HB.out.size h.1, h.2⟩), HB.out.trans (HW.out.below.mono HB.out.size)⟩⟩)⟩
        case measure => simp [intOf]; omega
      · have hdz : (ez != 0) = true := by simp [hz]
        have HE := Lib.hid (hse.out hz)
        have HZ := Lib.hid hz
        clear hz
        go_wp2_with fail
        go_ret2
        have hps : putAllS bs fs = (bs, ez) := by unfold putAllS; rw [HE.out, if_neg HZ.out]
        rw [hps]
        exact RetN.mk_ HI.out.len.symm (NewB.same HI.out (HB.out.trans (HW.out.below.mono HB.out.size)))
    · obtain rfl : k = m := by omega
      clear hlt
      have hml := HR.out.len
      have h0 : errAll fs = 0 := (errAll_zero fs).2 (by have := hJ.out.1; rwa [← hml, List.take_length] at this)
      have hps : Hid (putAllS bs fs = (bs ++ bitsAll fs, 0)) := Lib.hid (by unfold putAllS; rw [h0, if_pos rfl])
      have ht : fs.take k = fs := by rw [← hml, List.take_length]
      have HJ := hJ
      rw [ht] at HJ
      clear h0 hml
      go_wp2_with fail
      go_ret2
      rw [hps.out]
      exact RetN.mk_ HJ.out.2.1.symm HJ.out.2.2
end Go.Proofs.Ytgcgmnopggabaaa
