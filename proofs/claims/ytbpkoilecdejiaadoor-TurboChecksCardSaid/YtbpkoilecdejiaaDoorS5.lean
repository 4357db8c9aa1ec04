/-
  The reference's Check.
-/
import Derived.Test.YtbpkoilecdejiaaDoorS4
import Derived.Test.YtbpkoilecdejiaaDoorV8
namespace Go.Proofs.YtbpkoilecdejiaaDoor
set_option maxRecDepth 100000
open Go.RowKit

theorem str_ne8 {a b : ByteArray} (h : ¬ a = b) : (a.toList == b.toList) = false := by
  rw [beq_eq_false_iff_ne]
  intro e
  refine h (ByteArray.ext (Array.ext' ?_))
  rw [← ByteArray.toList_eq, ← ByteArray.toList_eq]
  exact e
theorem bitsS_cases (ws : List Int) (hb : Byte ws) : ((bitsS ws).2 = 2 ∨ (bitsS ws).2 = 3) ∨ ∃ xs, bitsS ws = (xs, 0) ∧ IsSize xs.length ∧ Bits xs ∧ ws.length = 3 * (xs.length + 4) := by
  by_cases h : ws.length % 3 = 0 ∧ isB (((ws.length / 3 : Nat) : Int) - 4) = true
  · obtain ⟨m, hs, hm⟩ := word_len h
    have e0 := bitsS_size hs hm
    by_cases hv : validB ws = true
    · rw [if_pos hv] at e0
      have hlx : (ws.take m).length = m := by rw [List.length_take]; omega
      exact .inr ⟨_, e0, by rw [hlx]; exact hs, fun x hm => validB_bits hb hv x (List.mem_of_mem_take hm), by rw [hlx, hm]⟩
    · rw [if_neg hv] at e0
      exact .inl (.inr (by rw [e0]))
  · exact .inl (.inl (by rw [bitsS_no h]))
set_option maxHeartbeats 2000000 in
theorem refCheck_any {A : Option Addr} {n c : Nat} {ws : List Int} {w : World} (hI : Rd .u8 w w.heap.size A n ws) (hb : Byte ws) (hn : n ≤ 100000) (hc : n ≤ c) :
    Calls Tryd.prog 20 #[.slice A n c] w fun e w' => e = .returned (.int .i64 (chkS ws)) ∧ Below w.heap.size w w' := by
  have hB := Lib.hid (refBits_any (c := c) hI hb hn hc)
  rcases bitsS_cases ws hb with h | ⟨xs, hx0, hs, hx, hl⟩
  · have HC : Hid (chkS ws = (bitsS ws).2) := Lib.hid (chkS_no (by rcases h with h | h <;> rw [h] <;> decide))
    unfold RetBytes at hB
    obtain ⟨⟨ys, k⟩, hr⟩ : ∃ r, bitsS ws = r := ⟨_, rfl⟩
    rw [hr] at hB h HC
    simp only at hB h HC
    clear hr hI hb
    rcases h with rfl | rfl
    all_goals
      go_enter Tryd.func20, Tryd.ntmps20
      go_wp2_with fail
      refine hB.out.mono ?_
      rintro e w1 ⟨A2, c2, rfl, _, hb1⟩
      go_wp2_with fail
      go_ret
      exact ⟨by rw [HC.out]; rfl, hb1⟩
  · have HC := Lib.hid (chkS_ok hx0)
    rw [hx0] at hB
    unfold RetBytes at hB
    have hk := size_le hs
    have hE := Lib.hid (fun (u : World) (A2 : Option Addr) (c2 : Nat) (h : Rd .u8 u u.heap.size A2 xs.length xs) => refEnc_any (c := c2) h hx.byte (by omega))
    rw [show tbS xs = (tbI xs, 0) by unfold tbS; rw [isB_nat, decide_eq_true hs, valid_of_bits hx]; rfl] at hE
    unfold RetBytes at hE
    have hcv : Hid (∀ (u : World) (A3 : Option Addr) (m c3 : Nat), Rd .u8 u u.heap.size A3 m (tbI xs) → (convert 22 9 (.slice A3 m c3)).run Tryd.prog u = .ok (.string (strOfNums (tbI xs))) u) := Lib.hid fun u A3 m c3 h => h.convert (P := Tryd.prog) Tryd.underlying22 Tryd.underlying5 c3 9 Tryd.underlying9
    have hcw : Hid (∀ (u : World), Below w.heap.size w u → (convert 22 9 (.slice A n c)).run Tryd.prog u = .ok (.string (strOfNums ws)) u) := Lib.hid fun u h => (hI.below h).convert (P := Tryd.prog) Tryd.underlying22 Tryd.underlying5 c 9 Tryd.underlying9
    have hinj : Hid (strOfNums (tbI xs) = strOfNums ws → tbI xs = ws) := Lib.hid fun h => strOfNums_inj (tbI_bits hx).byte hb h
    simp only at hB hE
    clear hx0 hs hx hl hI hb
    go_enter Tryd.func20, Tryd.ntmps20
    go_wp2_with fail
    refine hB.out.mono ?_
    rintro e w1 ⟨A2, c2, rfl, ho1, hb1⟩
    have r1 := Rd.of_own ho1
    clear hB ho1
    go_wp2_with fail
    refine (hE.out _ _ _ r1).mono ?_
    rintro e w2 ⟨A3, c3, rfl, ho2, hb2⟩
    have hb3 := hb1.trans (hb2.mono hb1.size)
    have k1 := hcv.out _ _ _ c3 (Rd.of_own ho2)
    have k2 := hcw.out _ hb3
    by_cases he : tbI xs = ws
    · have HC2 := Lib.hid (HC.out.trans (if_pos he))
      subst he
      clear r1 ho2 hb1 hb2 hE hcv hcw HC hinj
      generalize strOfNums (tbI xs) = s1 at *
      go_wp2_with fail
      go_ret
      rw [HC2.out]
      exact ⟨rfl, hb3⟩
    · have HC2 := Lib.hid (HC.out.trans (if_neg he))
      have hne := str_ne8 (fun h => he (hinj.out h))
      clear r1 ho2 hb1 hb2 hE hcv hcw HC hinj
      generalize strOfNums (tbI xs) = s1 at *
      generalize strOfNums ws = s2 at *
      go_wp2_with fail
      go_ret
      rw [HC2.out]
      exact ⟨rfl, hb3⟩
end Go.Proofs.YtbpkoilecdejiaaDoor
