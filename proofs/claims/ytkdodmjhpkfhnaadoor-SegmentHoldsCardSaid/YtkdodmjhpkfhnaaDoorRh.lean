/-
  The reference's right and check.
-/
import Derived.Test.YtkdodmjhpkfhnaaDoorRg
namespace Go.Proofs.YtkdodmjhpkfhnaaDoor
open Go.RowKit

set_option maxHeartbeats 1000000 in
theorem right_any {A : Option Addr} {n c B : Nat} {xs : List Int} {w : World} (h : Rd .u8 w B A n xs) (hn : n ≤ 1000000) :
    Calls Tryd.prog 45 #[.slice A n c] w fun e w' => e = .returned (.bool (validB xs)) ∧ w' = w := by
  have hl := Lib.hid h.len
  go_enter Tryd.func45, Tryd.ntmps45
  go_wp2_with fail
  go_loop [3] (fun i => ∃ k : Nat, k ≤ n ∧ i = .int .i64 k ∧ validB (xs.take k) = true) (fun i => n - (intOf i).toNat)
  case atStart => exact ⟨0, Nat.zero_le _, rfl, by simp [validB]⟩
  case round =>
    obtain ⟨k, hk, rfl, hv⟩ := hrel
    have hV := Lib.hid hv; clear hv
    by_cases hlt : k < n
    · obtain ⟨b, off, rfl, _, hc⟩ := h.cells k hlt
      have hS := Lib.hid (take_snoc xs k (by rw [hl.out]; exact hlt) 0)
      have hm : Hid (xs[k]?.getD 0 ∈ xs) := Lib.hid (by
        have hkl : k < xs.length := by rw [hl.out]; exact hlt
        rw [List.getElem?_eq_getElem hkl]
        exact List.getElem_mem hkl)
      generalize xs[k]?.getD 0 = x at *
      by_cases hx : (1 : Int) < x
      · have hF : Hid (validB xs = false) := Lib.hid (by
          unfold validB
          rw [List.all_eq_false]
          exact ⟨x, hm.out, by simp; omega⟩)
        go_wp2_with fail
        all_goals first | (exfalso; omega) | skip
        go_ret
        exact ⟨ret_bool hF.out.symm, rfl⟩
      · have hx2 : x ≤ 1 := by omega
        go_wp2_with fail
        all_goals first | (exfalso; omega) | skip
        go_round
        case rel => exact ⟨k + 1, by omega, by go_num, by rw [hS.out, validB_snoc, hV.out]; simp; omega⟩
        case measure => simp [intOf]; omega
    · obtain rfl : k = n := by omega
      rw [← hl.out, List.take_length] at hV
      go_wp2_with fail
      go_ret
      exact ⟨ret_bool hV.out.symm, rfl⟩
theorem bits_xor_i (a b : Nat) (ha : a < 9223372036854775808) (hb : b < 9223372036854775808) : bits .xor .i64 (a : Int) (b : Int) = ((a ^^^ b : Nat) : Int) := by
  have e : ((BitVec.ofInt IntKind.i64.bits (a : Int)) ^^^ (BitVec.ofInt IntKind.i64.bits (b : Int))).toNat = a ^^^ b := by
    rw [BitVec.toNat_xor, ofInt_nat, ofInt_nat, BitVec.toNat_ofNat, BitVec.toNat_ofNat, Nat.mod_eq_of_lt (by simp [IntKind.bits]; omega), Nat.mod_eq_of_lt (by simp [IntKind.bits]; omega)]
  have hlt : a ^^^ b < 2 ^ 63 := Nat.xor_lt_two_pow (by omega) (by omega)
  simp only [bits]
  rw [e, wrap_small (by omega) (by omega)]
/-- One step of the reference's division. -/
theorem ref_step {v x : Int} {pre : List Int} (hv : v = regA 2 pre) (hx : x = 0 ∨ x = 1) :
    (0 ≤ v ∧ v < 16777216) ∧ ((2 * v + x < 16777216) → 2 * v + x = regA 2 (pre ++ [x])) ∧ ((16777216 ≤ 2 * v + x) → bits .xor .i64 (2 * v + x) 25165923 = regA 2 (pre ++ [x])) := by
  have hg : genN 2 = (8388707, 24) := by decide
  have hr := regA_range 2 pre
  have hs := regA_snoc (k := 2) (x := x) pre (by rw [hg]; decide) hx
  rw [hg, ← hv] at hr hs
  simp only [show (2 : Int) ^ 24 = 16777216 from by decide] at hr hs
  refine ⟨hr, fun h => (hs.2 (by omega)).symm, fun h => ?_⟩
  rw [hs.1 (by omega)]
  obtain ⟨z, hz⟩ := Int.eq_ofNat_of_zero_le (show 0 ≤ 2 * v + x by omega)
  rw [hz, Int.toNat_natCast, show (2 ^ 24 ||| 8388707 : Nat) = 25165923 from by decide]
  exact bits_xor_i z 25165923 (by omega) (by decide)
theorem ref_pre {xs : List Int} {k : Nat} (h : k < xs.length + 24) : (xs ++ zerosL 24).take (k + 1) = (xs ++ zerosL 24).take k ++ [(xs[k]?.getD 0)] := by
  rw [take_snoc (xs ++ zerosL 24) k (by simp [zerosL]; exact h) 0]
  congr 2
  rcases Nat.lt_or_ge k xs.length with h1 | h1
  · rw [List.getElem?_append_left h1]
  · rw [List.getElem?_append_right h1, List.getElem?_eq_none (show xs.length ≤ k from h1)]
    have h2 : k - xs.length < (zerosL 24).length := by simp [zerosL]; omega
    rw [List.getElem?_eq_getElem h2]
    simp only [zerosL, List.getElem_replicate, Option.getD_some, Option.getD_none]
theorem binL_at {v : Int} {n i : Nat} (h : i < n) : (binL v n)[i]?.getD 0 = v / 2 ^ (n - 1 - i) % 2 := by
  unfold binL
  rw [List.getElem?_map, List.getElem?_range h]
  rfl
/-- append of one byte. -/
theorem bytes_app {w wr : World} {n : Nat} {A : Option Addr} {c : Nat} {xs : List Int} (hO : wr.ownsRow w.heap.size 5 1 (.slice A n c) n (xs.map (Value.int .u8))) (hb : Below w.heap.size w wr) (hn : n ≤ 2199023255552) (x : Int) :
    ∃ A2 c2 w2, (Builtin.append_ #[46, 46] 46 #[.slice A n c, .slice (some ⟨wr.heap.size, 0, none⟩) 1 1]).run Tryd.prog (wr.alloc (.cells #[.int .u8 x] 5)) = .ok (.slice A2 (n + 1) c2) w2 ∧
      w2.ownsRow w.heap.size 5 1 (.slice A2 (n + 1) c2) (n + 1) ((xs ++ [x]).map (Value.int .u8)) ∧ Below w.heap.size w w2 := by
  have hO' : (wr.alloc (.cells #[.int .u8 x] 5)).ownsRow w.heap.size 5 1 (.slice A n c) n (xs.map (Value.int .u8)) := hO.alloc _
  obtain ⟨A2, c2, w2, h1, h2, h3⟩ := more_run (c' := 1) hO' ((rd_lit wr [x] 5).more (by simp)) hn (by simp) (by rw [World.size_alloc]; have := hb.size; omega)
  exact ⟨A2, c2, w2, h1, h2, h3 _ _ (hb.alloc hb.size _) (Nat.le_refl _) (Nat.le_refl _)⟩
set_option maxHeartbeats 2000000 in
theorem refCheck_any {A : Option Addr} {n c : Nat} {xs : List Int} {w : World} (h : Rd .u8 w w.heap.size A n xs) (hn : n ≤ 1000000) (hx : Bits xs) :
    Calls Tryd.prog 46 #[.slice A n c] w fun e w' => ∃ A2 c2, e = .returned (.slice A2 24 c2) ∧
      w'.ownsRow w.heap.size 5 1 (.slice A2 24 c2) 24 ((crcI 2 xs).map (Value.int .u8)) ∧ Below w.heap.size w w' := by
  have hl := Lib.hid h.len
  go_enter Tryd.func46, Tryd.ntmps46
  go_wp2_with fail
  go_loop [3, 4] (fun s i => ∃ (k : Nat) (v : Int), k ≤ n + 24 ∧ i = .int .i64 k ∧ s = .int .i64 v ∧ v = regA 2 ((xs ++ zerosL 24).take k)) (fun _ i => n + 24 - (intOf i).toNat)
  case atStart => exact ⟨0, 0, by omega, rfl, rfl, (regA_nil 2).symm⟩
  case round =>
    obtain ⟨k, v, hk, rfl, rfl, hv⟩ := hrel
    by_cases hlt : k < n + 24
    · have hP := Lib.hid (ref_pre (xs := xs) (k := k) (by rw [hl.out]; exact hlt))
      have hxk : xs[k]?.getD 0 = 0 ∨ xs[k]?.getD 0 = 1 := by
        rcases Nat.lt_or_ge k xs.length with h1 | h1
        · rw [List.getElem?_eq_getElem h1]; exact hx _ (List.getElem_mem h1)
        · rw [List.getElem?_eq_none h1]; exact .inl rfl
      obtain ⟨⟨v0, v1⟩, hs1, hs2⟩ := ref_step hv hxk
      rw [← hP.out] at hs1 hs2
      have HS1 := Lib.hid hs1
      have HS2 := Lib.hid hs2
      clear hs1 hs2 hv
      by_cases hkn : k < n
      · obtain ⟨b, off, rfl, _, hc⟩ := h.cells k hkn
        generalize xs[k]?.getD 0 = x at *
        have x0 : 0 ≤ x := by omega
        have x1 : x ≤ 1 := by omega
        clear hxk
        by_cases hge : 16777216 ≤ 2 * v + x
        · have hy := HS2.out hge
          have HY := Lib.hid hy
          clear hy
          go_wp2_with fail
          all_goals first | (exfalso; omega) | skip
          go_round
          case rel => exact ⟨k + 1, _, by omega, by go_num, rfl, by first | exact HY.out | (have := HY.out; simpa using this)⟩
          case measure => simp [intOf]; omega
        · have hy := HS1.out (by omega)
          have HY := Lib.hid hy
          clear hy
          go_wp2_with fail
          all_goals first | (exfalso; omega) | skip
          go_round
          case rel => exact ⟨k + 1, _, by omega, by go_num, rfl, HY.out⟩
          case measure => simp [intOf]; omega
      · have hx0 : Hid (xs[k]?.getD 0 = 0) := Lib.hid (by rw [List.getElem?_eq_none (by rw [hl.out]; omega)]; rfl)
        rw [hx0.out] at HS1 HS2
        clear hxk
        by_cases hge : 16777216 ≤ 2 * v + 0
        · have hy := HS2.out hge
          have HY := Lib.hid hy
          clear hy
          go_wp2_with fail
          all_goals first | (exfalso; omega) | skip
          go_round
          case rel => exact ⟨k + 1, _, by omega, by go_num, rfl, by first | exact HY.out | (have := HY.out; simpa using this)⟩
          case measure => simp [intOf]; omega
        · have hy := HS1.out (by omega)
          have HY := Lib.hid hy
          clear hy
          go_wp2_with fail
          all_goals first | (exfalso; omega) | skip
          go_round
          case rel => exact ⟨k + 1, _, by omega, by go_num, rfl, by have := HY.out; simpa using this⟩
          case measure => simp [intOf]; omega
    · obtain rfl : k = n + 24 := by omega
      have hfin : Hid (v = regA 2 (xs ++ zerosL 24)) := Lib.hid (by rw [hv, List.take_of_length_le (by rw [List.length_append, hl.out]; simp [zerosL])])
      have hcr := Lib.hid (regA_crc (k := 2) (xs := xs) (by decide))
      have hrg := regA_range 2 (xs ++ zerosL 24)
      rw [← hfin.out] at hrg
      clear hv hk hlt
      go_wp2_with fail
      have hv2 : v < 16777216 := by
        have := hrg.2
        rw [show (2 : Int) ^ (genN 2).2 = 16777216 from by decide] at this
        exact this
      have hv1 := hrg.1
      rw [show (genN 2).2 = 24 from by decide, ← hfin.out] at hcr
      clear hrg
      go_loopw [6, 7] (fun s i wr => ∃ (j m : Nat) (A : Option Addr) (c : Nat), j + m = 24 ∧ i = .int .i64 ((m : Int) - 1) ∧ s = .slice A j c ∧ wr.ownsRow w.heap.size 5 1 (.slice A j c) j (((binL v 24).take j).map (Value.int .u8)) ∧ Below w.heap.size w wr) (fun _ i _ => (intOf i + 1).toNat)
      case atStart => exact ⟨0, 24, none, 0, rfl, rfl, rfl, by simpa using World.ownsRow_nil w w.heap.size 5 1, Below.refl _ _⟩
      case round =>
        obtain ⟨j, m, A2, c2, hjm, rfl, rfl, hO, hb⟩ := hrel
        rcases m with _ | m
        · obtain rfl : j = 24 := by omega
          rw [List.take_of_length_le (by rw [binL_length]; exact Nat.le_refl _), hcr.out] at hO
          have HO := Lib.hid hO
          clear hO
          go_wp2_with fail
          go_ret
          exact ⟨A2, c2, rfl, HO.out, hb⟩
        · rw [show ((m + 1 : Nat) : Int) - 1 = (m : Int) by omega]
          have hq := div_pow_range (v := v) ⟨hv1, by omega⟩ m
          have hy1 : 0 ≤ v / 2 ^ m % 2 := by omega
          have hy2 : v / 2 ^ m % 2 ≤ 1 := by omega
          obtain ⟨A3, c3, w3, hrun, hO3, hb3⟩ := bytes_app hO hb (by omega) (v / 2 ^ m % 2)
          have HT : Hid ((binL v 24).take (j + 1) = (binL v 24).take j ++ [v / 2 ^ m % 2]) := Lib.hid (by
            rw [take_snoc (binL v 24) j (by rw [binL_length]; omega) 0]
            rw [binL_at (by omega), show 24 - 1 - j = m by omega])
          have HR := Lib.hid hrun
          have HO3 := Lib.hid hO3
          clear hrun hO3 hO
          have hm2 : m ≤ 23 := by omega
          go_wp2_with (at_builtin; refine Lib.wpList_append_run _ rfl _ _ _ _ rfl _ _ rfl rfl _ _ HR.out ?_)
          go_roundw
          case rel => exact ⟨j + 1, m, A3, c3, by omega, rfl, rfl, by rw [HT.out]; exact HO3.out, hb3⟩
          case measure => simp only [intOf]; omega
end Go.Proofs.YtkdodmjhpkfhnaaDoor
