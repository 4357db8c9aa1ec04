/-
  The law FieldWrites: its walk.
-/
import Derived.Test.YtgcgmnopggabaaaFew
namespace Go.Proofs.Ytgcgmnopggabaaa
open Go.RowKit

set_option maxRecDepth 100000 in
set_option maxHeartbeats 4000000 in
theorem writes_any {w : World} {n c : Nat} {A : Option Addr} {rs : List ActRow} (h : RdA w w.heap.size A n rs) :
    Calls Try.prog 3 #[.slice A n c] w fun e w' => e = .returned (.bool true) ∧ Below w.heap.size w w' := by
  have hF := Lib.hid (few_any (c := c) h)
  by_cases hf : fewB n rs = true
  · have hm := fewB_mem hf
    rw [hf] at hF
    obtain ⟨w0, hw0⟩ : ∃ W, W = w.alloc (.cells #[.slice none 0 0, .int .i64 0] 29) := ⟨_, rfl⟩
    have hW : WrtAt w0 w.heap.size (.slice none 0 0) [] := by rw [hw0]; exact wrt_new w
    have hb : Below w.heap.size w w0 := by rw [hw0]; exact (Below.refl _ w).alloc (Nat.le_refl _) _
    have hP0 : Hid (Pair w0 w.heap.size (.slice none 0 0) none []) := Lib.hid ⟨hW, Rd.nil _ _ _ _, fun a ha => by cases ha⟩
    have HB := Lib.hid hb
    have HR := Lib.hid h
    have HM := Lib.hid hm
    have hn40 := hm.1
    subst hw0
    clear hW hb h hm hf
    go_enter Try.func3, Try.ntmps3
    go_wp2_with fail
    refine hF.out.mono ?_
    rintro e w' ⟨rfl, rfl⟩
    go_wp2_with fail
    generalize w'.alloc (.cells #[.slice none 0 0, .int .i64 0] 29) = w0 at *
    go_loopw [4, 5] (fun p i wr => ∃ (k : Nat) (A' : Option Addr) (c' m : Nat) (V : Value) (bs : List Int), k ≤ n ∧ i = .int .i64 k ∧ p = .slice A' m c' ∧ Hid (m = bs.length) ∧ m ≤ 1280 * k ∧ Hid (Pair wr w'.heap.size V A' bs) ∧ Hid (Below w'.heap.size w' wr))
      (fun _ i _ => n - (intOf i).toNat)
    case atStart => exact ⟨0, none, 0, 0, _, [], Nat.zero_le _, rfl, rfl, Lib.hid rfl, Nat.le_refl _, hP0, HB⟩
    case round =>
      obtain ⟨k, A', c', m, V, bs, hk, rfl, rfl, hm1, hm2, hP, hBw⟩ := hrel
      by_cases hlt : k < n
      · obtain ⟨b, off, r, rfl, hb, hr, hcs, hg⟩ := (HR.out.step (Nat.le_refl _) hBw.out).cells k hlt
        have c0 : wr.cell? ⟨b, off + k * 5, none⟩ = some (.int .i64 r.what) := hcs 0 (by decide)
        have c1 : wr.cell? ⟨b, off + k * 5 + 1, none⟩ = some (.int .u64 r.v) := hcs 1 (by decide)
        have c2 : wr.cell? ⟨b, off + k * 5 + 2, none⟩ = some (.int .i64 r.num) := hcs 2 (by decide)
        have c3 : wr.cell? ⟨b, off + k * 5 + 3, none⟩ = some (.slice r.ba r.bn r.bc) := hcs 3 (by decide)
        have c4 : wr.cell? ⟨b, off + k * 5 + 4, none⟩ = some (.slice r.la r.ln r.lc) := hcs 4 (by decide)
        have hk0 : (0 : Int) ≤ (k : Int) := by omega
        have hk1 : (k : Int) < (n : Int) := by omega
        have HC := Lib.hid hcs
        have HK := Lib.hid hr
        have HG := Lib.hid hg
        clear hcs hr hg
        have hrm := HM.out.2 r (List.mem_of_getElem? HK.out)
        have hA := Lib.hid (act_any (c := c') (n := m) hP.out HG.out (Nat.le_refl _) hrm.1 hrm.2 (by have := hm1.out; omega) hm1.out)
        have hq2 : Hid ((actL bs r).length ≤ m + 1280) := Lib.hid (by have := hm1.out; rw [this]; exact actL_len (by rw [HG.out.bytes.len]; exact hrm.1) (by rw [HG.out.fields.len]; exact hrm.2))
        have hqb : Hid (Bits (actL bs r)) := Lib.hid (actL_bits hP.out.wrt.bits r)
        generalize actL bs r = q at *
        clear hrm
        go_wp2_with fail
        refine hA.out.mono ?_
        rintro e w2 ⟨A2, cc2, V2, rfl, hP2, hT2⟩
        have HP2 := Lib.hid hP2
        have HB2 := Lib.hid (Below.save hBw.out hT2.1 (fun i hi => by
          rcases hi with hi | hi
          · omega
          · have := (hP.out.wrt.own_lt i hi.symm).1; omega) (Nat.le_refl _))
        clear hP2 hT2 c0 c1 c2 c3 c4
        go_wp2_with fail
        refine (wlen_any HP2.out.wrt).mono ?_
        rintro e w3 ⟨rfl, rfl⟩
        go_wp2_with fail
        refine (wbytes_any HP2.out.wrt).mono ?_
        rintro e w3 ⟨X, cx, rfl, hox, hb3⟩
        have HX := Lib.hid hox
        have HB3 := Lib.hid hb3
        clear hox hb3
        go_wp2_with fail
        have hr4 := Lib.hid (rbytes_any (c := cc2) ((HP2.out.below HB3.out).rd) (by have := hq2.out; omega) hqb.out)
        refine hr4.out.mono ?_
        rintro e w4 ⟨Y, cy, rfl, hn4⟩
        have HN := Lib.hid hn4
        have hs4 := Lib.hid (same_true (c := cx) (c' := cy) ((Rd.of_own HX.out).step hn4.below) hn4.rd (byte_packL hqb.out))
        clear hn4
        go_wp2_with fail
        refine hs4.out.mono ?_
        rintro e w5 ⟨rfl, rfl⟩
        go_wp2_with fail
        go_roundw
        case rel => exact ⟨k + 1, A2, cc2, q.length, V2, q, by omega, by go_num, rfl, Lib.hid rfl, by have := hq2.out; omega, Lib.hid ((HP2.out.below HB3.out).below HN.out.below), Lib.hid ((HB2.out.trans (HB3.out.mono HB2.out.size)).trans (HN.out.below.mono (Nat.le_trans HB2.out.size HB3.out.size)))⟩
        case measure => simp [intOf]; omega
      · obtain rfl : k = n := by omega
        clear hlt
        go_wp2_with fail
        refine (works_any _).mono ?_
        rintro e w1 ⟨rfl, hb1⟩
        go_wp2
        go_ret
        exact ⟨rfl, hBw.out.trans (hb1.mono hBw.out.size)⟩
  · have hf' : fewB n rs = false := by simpa using hf
    rw [hf'] at hF
    clear hf hf' h
    go_enter Try.func3, Try.ntmps3
    go_wp2_with fail
    refine hF.out.mono ?_
    rintro e w' ⟨rfl, rfl⟩
    go_wp2_with fail
    refine (works_any _).mono ?_
    rintro e w1 ⟨rfl, hb1⟩
    go_wp2
    go_ret
    exact ⟨rfl, hb1⟩
end Go.Proofs.Ytgcgmnopggabaaa
