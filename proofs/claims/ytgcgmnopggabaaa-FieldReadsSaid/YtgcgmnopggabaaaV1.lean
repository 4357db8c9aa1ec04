/-
  The reference's Valid, Weight, Unpack, FromUint, Uint and Pack, the law's num and same: what each returns; what was there stays.
-/
import Derived.Test.YtgcgmnopggabaaaMarks
import Derived.Test.YtgcgmnopggabaaaBits3
import Derived.Test.YtgcgmnopggabaaaProg
import Derived.WalkKit
import Derived.StillTailTactics
import Derived.Deep.RegionHeld3
import Derived.Laws.MakeOwn
import Derived.Lib.AppendZerosOnto
import Derived.Lib.SliceRun
namespace Go.Proofs.Ytgcgmnopggabaaa
open Go.RowKit

theorem num_any (k : Int) (w : World) : Calls Try.prog 21 #[.int .i64 k] w fun e w' => e = .returned (.int .i64 k) ∧ w = w' := by
  go_enter Try.func21, Try.ntmps21
  go_wp2
  go_ret
  exact ⟨rfl, rfl⟩

theorem refValid_any {A : Option Addr} {n c B : Nat} {xs : List Int} {w : World} (h : Rd .u8 w B A n xs) (hn : n ≤ 140737488351232) :
    Calls Try.prog 57 #[.slice A n c] w fun e w' => e = .returned (.bool (validB xs)) ∧ w = w' := by
  have hl := Lib.hid h.len
  go_enter Try.func57, Try.ntmps57
  go_wp2
  go_loop [3] (fun i => ∃ k : Nat, k ≤ n ∧ i = .int .i64 k ∧ validB (xs.take k) = true) (fun i => n - (intOf i).toNat)
  case atStart => exact ⟨0, Nat.zero_le _, rfl, rfl⟩
  case round =>
    obtain ⟨k, hk, rfl, hv⟩ := hrel
    have hV := Lib.hid hv; clear hv
    by_cases hlt : k < n
    · obtain ⟨b, off, rfl, _, hc⟩ := h.cells k hlt
      have hS := Lib.hid (take_snoc xs k (by rw [hl.out]; exact hlt) 0)
      go_wp2
      · go_ret
        have hx : 1 < xs[k]?.getD 0 := by assumption
        refine ⟨ret_bool (Eq.symm ?_), rfl⟩
        have : validB (xs.take (k + 1)) = false := by rw [hS.out, validB_snoc]; simp; intro _; exact hx
        exact validB_prefix this
      · go_round
        case rel => exact ⟨k + 1, by omega, by go_num, by rw [hS.out, validB_snoc, hV.out]; simp; omega⟩
        case measure => simp [intOf]; omega
    · obtain rfl : k = n := by omega
      go_wp2
      go_ret
      rw [← hl.out, List.take_length] at hV
      exact ⟨ret_bool hV.out.symm, rfl⟩

theorem refWeight_any {A : Option Addr} {n c B : Nat} {xs : List Int} {w : World} (h : Rd .u8 w B A n xs) (hn : n ≤ 140737488351232) :
    Calls Try.prog 45 #[.slice A n c] w fun e w' => e = .returned (.int .i64 (weight xs)) ∧ w = w' := by
  have hl := Lib.hid h.len
  go_enter Try.func45, Try.ntmps45
  go_wp2
  go_loop [3, 4] (fun s i => ∃ k : Nat, k ≤ n ∧ i = .int .i64 k ∧ s = .int .i64 (weight (xs.take k))) (fun _ i => n - (intOf i).toNat)
  case atStart => exact ⟨0, Nat.zero_le _, rfl, rfl⟩
  case round =>
    obtain ⟨k, hk, rfl, rfl⟩ := hrel
    have hw := weight_le (xs.take k)
    have hwl : (xs.take k).length ≤ k := List.length_take_le _ _
    by_cases hlt : k < n
    · obtain ⟨b, off, rfl, _, hc⟩ := h.cells k hlt
      have hS := Lib.hid (take_snoc xs k (by rw [hl.out]; exact hlt) 0)
      by_cases hx : xs[k]?.getD 0 = 1
      all_goals
        go_wp2
        go_round
        case rel => exact ⟨k + 1, by omega, by go_num, by rw [hS.out, weight_snoc]; first | rw [if_pos hx] | (rw [if_neg hx]; simp)⟩
        case measure => simp [intOf]; omega
    · obtain rfl : k = n := by omega
      go_wp2
      go_ret
      exact ⟨ret_int (by rw [← hl.out, List.take_length]), rfl⟩

theorem same_any {A A' : Option Addr} {n c n' c' B B' : Nat} {xs ys : List Int} {w : World} (h : Rd .u8 w B A n xs) (h' : Rd .u8 w B' A' n' ys) (hx : Byte xs) (hy : Byte ys) :
    Calls Try.prog 13 #[.slice A n c, .slice A' n' c'] w fun e w' => e = .returned (.bool (decide (xs = ys))) ∧ w = w' := by
  have c1 := h.convert (P := Try.prog) Try.underlying25 Try.underlying5 c
  have c2 := h'.convert (P := Try.prog) Try.underlying25 Try.underlying5 c'
  have k1 := c1 9 Try.underlying9
  have k2 := c2 9 Try.underlying9
  clear c1 c2
  go_enter Try.func13, Try.ntmps13
  go_wp2
  go_ret
  refine ⟨ret_bool ?_, rfl⟩
  rw [ByteArray.toList_eq, ByteArray.toList_eq]
  by_cases e : xs = ys
  · subst e; simp
  · rw [decide_eq_false e, beq_eq_false_iff_ne]
    intro h3
    refine e (strOfNums_inj hx hy ?_)
    show ByteArray.mk _ = ByteArray.mk _
    exact congrArg ByteArray.mk (Array.toList_inj.1 h3)

theorem Try.info_u8 : (Try.prog.info? 5).map (fun i => (i.zero, i.size, i.bytes)) = some (some (.int .u8 0), 1, 1) := by kernel_rfl

theorem make_bytes (n m : Nat) (hm : m ≤ n) (hn : n ≤ 140737488351232) (u : World) : (Instr.makeSlice 25 (.int .i64 m) (.int .i64 n)).run Try.prog u =
    .ok (.slice (some ⟨u.heap.size, 0, none⟩) m n) (u.alloc (.cells (madeCells #[.int .u8 0] n) 5)) := by
  obtain ⟨i0, hi, hz0, hz1, hz2⟩ := info_parts Try.info_u8
  have h := run_make (P := Try.prog) u 25 5 i0 (.int .u8 0) Try.underlying25 hi hz0 .i64 .i64 (m : Int) (n : Int) (by omega) (by omega) (by rw [hz2]; omega) (by omega)
  simpa [hz1, Value.cells] using h

/-- A new slice of n zeros is a row of the call's own. -/
theorem own_zeros {w : World} {B n m : Nat} (hB : B ≤ w.heap.size) (hn : n ≤ 140737488351232) (hm : m ≤ n) : (w.alloc (.cells (madeCells #[.int .u8 0] n) 5)).ownsRow B 5 1 (.slice (some ⟨w.heap.size, 0, none⟩) m n) m ((List.replicate m (0 : Int)).map (Value.int .u8)) := by
  refine ⟨by simp, .inr ⟨w.heap.size, n, madeCells #[.int .u8 0] n, rfl, hB, heap_alloc_new w _, hm, by unfold maxLen; omega, by simp [madeCells], ?_⟩⟩
  rw [toList_madeCells_one, Nat.mul_one, List.take_replicate, List.map_replicate, Nat.min_eq_left hm]

set_option maxRecDepth 100000 in
set_option maxHeartbeats 1000000 in
theorem ownsRow_shape {w : World} {base : Nat} {e : TypeId} {size : Nat} {v : Value} {n : Nat} {xs : List Value} (h : w.ownsRow base e size v n xs) : ∃ A c, v = .slice A n c := by
  rcases h.2 with ⟨rfl, rfl⟩ | ⟨g, cap, cur, rfl, _⟩
  · exact ⟨none, 0, rfl⟩
  · exact ⟨_, _, rfl⟩

/-- append of a byte slice that is read onto one of the call's own. -/
theorem run_append_rd {P : Program} {w : World} {B base : Nat} {t ty e : TypeId} {i : TypeInfo} (ht : P.underlying t = some (.slice e)) (hi : P.info? e = some i) (hz : i.zero = some (.int .u8 0)) (hsize : i.size = 1) (hby : i.bytes = 1)
    {A A1 : Option Addr} {n c m c' : Nat} {xs ys : List Int} (hown : w.ownsRow base e 1 (.slice A1 n c) n (xs.map (Value.int .u8))) (hR : Rd .u8 w B A m ys) (hlim : n + m ≤ 140737488355328) (hbase : base ≤ w.heap.size) :
    ∃ A2 c2 w', (Builtin.append_ #[t, t] ty #[.slice A1 n c, .slice A m c']).run P w = .ok (.slice A2 (n + m) c2) w' ∧
      w'.ownsRow base e 1 (.slice A2 (n + m) c2) (n + m) ((xs ++ ys).map (Value.int .u8)) ∧ w.grownBy w' (Value.slice A1 n c).ownBlock := by
  rcases A with _ | a
  · have hm : m = 0 := by
      rcases Nat.eq_zero_or_pos m with h0 | h0
      · exact h0
      · obtain ⟨_, _, h, _⟩ := hR.cells 0 h0
        cases h
    subst hm
    obtain rfl : ys = [] := List.eq_nil_of_length_eq_zero hR.len
    refine ⟨A1, c, w, ?_, by simpa using hown, ⟨rfl, rfl, rfl, Nat.le_refl _, fun _ _ _ => rfl⟩⟩
    rcases hown.2 with ⟨h1, h2⟩ | ⟨g, cap, cur, h1, _, _, hnc, _⟩
    · injection h1 with e1 e2 e3
      subst e1 e2 e3
      simp [Builtin.append_, run_underlying ht, sizeOf, typeInfo, hi, Builtin.lenOf, Builtin.firstCells]
    · injection h1 with e1 e2 e3
      subst e1 e3
      simp [Builtin.append_, run_underlying ht, sizeOf, typeInfo, hi, Builtin.lenOf, Builtin.firstCells, hnc, storeCells]
  · have hnews : ∀ j u, (ys.map (Value.int .u8))[j]? = some u → w.cell? (a.add j) = some u := by
      intro j u hu
      rw [List.getElem?_map] at hu
      obtain ⟨y, hy, rfl⟩ := Option.map_eq_some_iff.1 hu
      obtain ⟨hj, _⟩ := List.getElem?_eq_some_iff.1 hy
      obtain ⟨b, off, he, _, hc⟩ := hR.cells j (by rw [← hR.len]; exact hj)
      injection he with he
      subst he
      rw [hy] at hc
      by_cases h0 : j = 0
      · subst h0; simpa [Addr.add] using hc
      · simpa [Addr.add, h0] using hc
    obtain ⟨v', w', hr, h2, h3, _⟩ := run_append_own (P := P) w base t ty e i (.int .u8 0) 1 1 ht hi hz hsize hby rfl (by decide) _ n _ hown a m c' (ys.map (Value.int .u8)) (by simp [hR.len]) hnews (by simp [Value.oneCell']) (by unfold maxLen; omega) (by omega) hbase
    obtain ⟨A2, c2, rfl⟩ := ownsRow_shape h2
    exact ⟨A2, c2, w', hr, by simpa using h2, h3⟩

/-! ### the reference's Unpack -/
set_option maxRecDepth 100000 in
set_option maxHeartbeats 1000000 in
theorem refUnpack_ok {A : Option Addr} {n c B m : Nat} {xs : List Int} {w : World} (hI : Rd .u8 w B A n xs) (hB : B ≤ w.heap.size) (hx : Byte xs) (_hn : n ≤ 140737488351232) (hm : m ≤ 8 * n) (hm2 : m ≤ 140737488351232) :
    Calls Try.prog 39 #[.slice A n c, .int .i64 m] w (RetBytes 5 w (unpackL xs m, 0)) := by
  obtain ⟨i0, hi, hz0, hz1, hz2⟩ := info_parts Try.info_u8
  have hd1 : decide ((n : Int) < (m : Int) / 8) = false := by simp; omega
  have hxb := Lib.hid hx; clear hx
  by_cases he : m / 8 = n
  all_goals
    first | (have hd2 : ((m : Int) / 8 == (n : Int)) = true := by simp; omega
             have hd3 : decide (0 < (m : Int) % 8) = false := by simp; omega) | (have hd2 : ((m : Int) / 8 == (n : Int)) = false := by simp; omega)
    go_enter Try.func39, Try.ntmps39
    go_wp2
    go_loopw [6, 7] (fun p i wr => ∃ (k : Nat) (A1 : Option Addr) (c1 : Nat), k ≤ m ∧ i = .int .i64 k ∧ p = .slice A1 k c1 ∧ wr.ownsRow w.heap.size 5 1 (.slice A1 k c1) k (((unpackL xs m).take k).map (Value.int .u8)) ∧ Below w.heap.size w wr)
      (fun _ i _ => m - (intOf i).toNat)
    case atStart => exact ⟨0, none, 0, Nat.zero_le _, rfl, rfl, by simpa using World.ownsRow_nil w w.heap.size 5 1, Below.refl _ _⟩
    case round =>
      obtain ⟨k, A1, c1, hk, rfl, rfl, hown, hB1⟩ := hrel
      by_cases hlt : k < m
      · have hO := Lib.hid hown; clear hown
        obtain ⟨b, off, rfl, _, hcell⟩ := (hI.below' hB1 hB).cells (k / 8) (by omega)
        have hbk := shr_byte hxb.out (k / 8) (7 - k % 8)
        go_wp2_with (at_builtin; refine wpList_append_own _ rfl _ _ 25 rfl w.heap.size 5 i0 (.int .u8 0) 1 1 Try.underlying25 hi hz0 hz1 hz2 rfl (by decide) _ _ _ rfl (hO.out.alloc _) ⟨wr.heap.size, 0, none⟩ 1 1 [.int .u8 (xs[k / 8]?.getD 0 / 2 ^ (7 - k % 8) % 2)] rfl rfl (cell_one_new _ _ _) (by simp [Value.oneCell']) (by unfold maxLen; omega) (by omega) (by have := hB1.size; simp; omega) ?_; intro v3 w3 hown3 hgrow3 _; obtain ⟨g3, c3, rfl⟩ := ownsRow_succ hown3)
        have hB3 : Below w.heap.size w w3 := (hB1.alloc hB1.size _).grown hgrow3 (by have := hB1.size; simp; omega) (fun g hg => (hO.out.lt g hg).1)
        have hrow := row_take (g := fun i => xs[i / 8]?.getD 0 / 2 ^ (7 - i % 8) % 2) hlt rfl
        rw [show (List.range m).map (fun i => xs[i / 8]?.getD 0 / 2 ^ (7 - i % 8) % 2) = unpackL xs m from rfl] at hrow
        rw [hrow] at hown3
        have hO3 := Lib.hid hown3; clear hown3 hrow
        go_wp2
        go_roundw
        case rel => exact ⟨k + 1, some ⟨g3, 0, none⟩, c3, by omega, by go_num, rfl, hO3.out, hB3⟩
        case measure => simp [intOf]; omega
      · obtain rfl : k = m := by omega
        rw [List.take_of_length_le (by simp [unpackL])] at hown
        have hO := Lib.hid hown; clear hown
        go_wp2
        go_ret2
        exact RetBytes.mk_ (by simp [unpackL]) hO.out (Nat.le_refl _) hB1 rfl
theorem refUnpack_arg {A : Option Addr} {n c : Nat} {m : Int} {w : World} (hm : m < 0) :
    Calls Try.prog 39 #[.slice A n c, .int .i64 m] w (RetBytes 5 w ([], 2)) := by
  go_enter Try.func39, Try.ntmps39
  go_wp2
  go_ret2
  exact RetBytes.nil_ (Below.refl _ w)
set_option maxRecDepth 100000 in
theorem refUnpack_short {A : Option Addr} {n c m : Nat} {w : World} (hm : 8 * n < m) (hm2 : m ≤ 9223372036854775807) :
    Calls Try.prog 39 #[.slice A n c, .int .i64 m] w (RetBytes 5 w ([], 5)) := by
  by_cases hd : n < m / 8
  · have hd1 : decide ((n : Int) < (m : Int) / 8) = true := by simp; omega
    go_enter Try.func39, Try.ntmps39
    go_wp2
    go_ret2
    exact RetBytes.nil_ (Below.refl _ w)
  · have hd1 : decide ((n : Int) < (m : Int) / 8) = false := by simp; omega
    have hd2 : ((m : Int) / 8 == (n : Int)) = true := by simp; omega
    have hd3 : decide (0 < (m : Int) % 8) = true := by simp; omega
    go_enter Try.func39, Try.ntmps39
    go_wp2
    go_ret2
    exact RetBytes.nil_ (Below.refl _ w)
theorem refUnpack_any {A : Option Addr} {n c B : Nat} {m : Int} {xs : List Int} {w : World} (hI : Rd .u8 w B A n xs) (hB : B ≤ w.heap.size) (hx : Byte xs) (hn : n ≤ 17592186043904) (hm : m ≤ 9223372036854775807) :
    Calls Try.prog 39 #[.slice A n c, .int .i64 m] w (RetBytes 5 w (unpackS xs m)) := by
  have hl := hI.len
  unfold unpackS
  split
  · rename_i h; exact refUnpack_arg h
  · rename_i h
    obtain ⟨k, rfl⟩ := Int.eq_ofNat_of_zero_le (show 0 ≤ m by omega)
    rw [Int.toNat_natCast]
    split
    · rename_i h'; exact refUnpack_short (by omega) (by omega)
    · rename_i h'; exact refUnpack_ok hI hB hx (by omega) (by omega) (by omega)

/-! ### the reference's FromUint -/
theorem refFromUint_arg {v n : Int} {w : World} (hn : n < 0 ∨ 64 < n) :
    Calls Try.prog 56 #[.int .u64 v, .int .i64 n] w (RetBytes 5 w ([], 2)) := by
  rcases hn with hn | hn
  all_goals
    go_enter Try.func56, Try.ntmps56
    go_wp2
    go_ret2
    exact RetBytes.nil_ (Below.refl _ w)
set_option maxRecDepth 100000 in
set_option maxHeartbeats 1000000 in
theorem refFromUint_run {v : Int} {n : Nat} {w : World} (hv : 0 ≤ v ∧ v < 18446744073709551616) (hn : n ≤ 64) :
    Calls Try.prog 56 #[.int .u64 v, .int .i64 n] w (RetBytes 5 w (fromUintR v n)) := by
  have hmk := make_bytes n n (Nat.le_refl _) (by omega)
  have hvb := Lib.hid hv
  clear hv
  go_enter Try.func56, Try.ntmps56
  go_wp2
  all_goals
    go_loopw [0, 7] (fun u i wr => ∃ k : Nat, k ≤ n ∧ i = .int .i64 ((k : Int) - 1) ∧ u = .int .u64 (v / 2 ^ (n - k)) ∧ wr.ownsRow w.heap.size 5 1 (.slice (some ⟨w.heap.size, 0, none⟩) n n) n ((fillR (fun i => v / 2 ^ (n - 1 - i) % 2) n k).map (Value.int .u8)) ∧ Below w.heap.size w wr)
      (fun _ i _ => (intOf i + 1).toNat)
    case atStart => exact ⟨n, Nat.le_refl _, rfl, by simp, by rw [fillR_zero]; exact own_zeros (Nat.le_refl _) (by omega) (Nat.le_refl _), (Below.refl _ w).alloc (Nat.le_refl _) _⟩
    case round =>
      obtain ⟨k, hk, rfl, rfl, hown, hB1⟩ := hrel
      have hq := Lib.hid (shr_range hvb.out (n - k))
      have hq0 := hq.out.1
      have hq1 : v / 2 ^ (n - k) ≤ 18446744073709551615 := by have := hq.out.2; omega
      rcases k with _ | k
      · have hO := Lib.hid hown; clear hown
        simp only [Nat.sub_zero] at hq hq0 hq1 ⊢
        by_cases hz : v / 2 ^ n = 0
        · have hz' : decide (0 < v / 2 ^ n) = false := by simp; omega
          have HZ := Lib.hid hz; clear hz
          go_wp2
          go_ret2
          unfold fromUintR
          rw [if_neg (by simp [HZ.out])]
          have hO2 := hO.out
          rw [fillR_full] at hO2
          exact RetBytes.mk_ (by simp [fromUintL]) hO2 (Nat.le_refl _) hB1 rfl
        · have hz' : decide (0 < v / 2 ^ n) = true := by simp; omega
          have HZ := Lib.hid hz; clear hz
          go_wp2
          go_ret2
          unfold fromUintR
          rw [if_pos HZ.out]
          exact RetBytes.nil_ hB1
      · have hc0 : wr.cell? ⟨w.heap.size, k, none⟩ = some (.int .u8 ((fillR (fun i => v / 2 ^ (n - 1 - i) % 2) n (k + 1))[k]?.getD 0)) := by
          rw [hown.cellAt k (by omega)]
          have : k < n := by omega
          simp [fillR_length, this]
        have hf0 := hown.frozenAt k
        have hST := Lib.hid (hown.stored k (.int .u8 (v / 2 ^ (n - 1 - k) % 2)))
        have hH := Lib.hid (halves v (n - (k + 1)))
        rw [show n - (k + 1) + 1 = n - k from by omega, show n - (k + 1) = n - 1 - k from by omega] at hH
        have hE : n - (k + 1) = n - 1 - k := by omega
        rw [hE] at hq0 hq1
        go_wp2
        go_roundw
        case rel =>
          refine ⟨k, by omega, by go_num, by rw [hH.out], ?_, hB1.setCell (p := ⟨w.heap.size, k, none⟩) (Nat.le_refl _) _⟩
          rw [← fillR_pred, List.map_set]
          exact hST.out.1
        case measure => simp [intOf]
theorem refFromUint_any {v n : Int} {w : World} (hv : 0 ≤ v ∧ v < 18446744073709551616) :
    Calls Try.prog 56 #[.int .u64 v, .int .i64 n] w (RetBytes 5 w (fromUintS v n)) := by
  unfold fromUintS
  split
  · rename_i h; exact refFromUint_arg h
  · rename_i h
    obtain ⟨m, rfl⟩ := Int.eq_ofNat_of_zero_le (show 0 ≤ n by omega)
    rw [Int.toNat_natCast]
    exact refFromUint_run hv (by omega)

/-! ### the reference's Uint -/
set_option maxRecDepth 100000 in
set_option maxHeartbeats 400000 in
theorem refUint_any {A : Option Addr} {n c B : Nat} {xs : List Int} {w : World} (hI : Rd .u8 w B A n xs) (hx : Byte xs) (hn : n ≤ 140737488351232) :
    Calls Try.prog 58 #[.slice A n c] w fun e w' => e = .returned (.tuple #[.int .u64 (uintS xs).1, .int .i64 (uintS xs).2]) ∧ w = w' := by
  have hV1 := Lib.hid (refValid_any (c := c) hI hn)
  have hl := hI.len
  by_cases hv : validB xs = true
  · have hV := Lib.hid hv
    have hbits := Lib.hid (validB_bits hx hv)
    clear hv hx
    by_cases h64 : n ≤ 64
    · have hU : Hid (uintS xs = (valueOf xs, 0)) := by unfold uintS; rw [if_neg (by rw [hV.out]; decide), if_neg (by omega)]; exact Lib.hid rfl
      have hL := Lib.hid hl; clear hl
      have hd : decide ((64 : Int) < (n : Int)) = false := by simp; omega
      go_enter Try.func58, Try.ntmps58
      go_wp2_with fail
      refine hV1.out.mono ?_
      rintro e w1 ⟨rfl, rfl⟩
      rw [hV.out]
      go_wp2_with fail
      go_loop [4, 5] (fun s i => ∃ k : Nat, k ≤ n ∧ i = .int .i64 k ∧ s = .int .u64 (valueOf (xs.take k))) (fun _ i => n - (intOf i).toNat)
      case atStart => exact ⟨0, Nat.zero_le _, rfl, rfl⟩
      case round =>
        obtain ⟨k, hk, rfl, rfl⟩ := hrel
        by_cases hlt : k < n
        · obtain ⟨b, off, rfl, _, hc⟩ := hI.cells k hlt
          have hS := Lib.hid (number_step2 hbits.out hL.out h64 hlt)
          have hb1 := bits_range hbits.out k
          have hv0 := hS.out.2.1
          have hv1 := hS.out.2.2
          go_wp2
          go_round
          case rel => exact ⟨k + 1, by omega, by go_num, by rw [hS.out.1]⟩
          case measure => simp [intOf]; omega
        · obtain rfl : k = n := by omega
          rw [← hL.out, List.take_length]
          go_wp2
          go_ret2
          exact ⟨by rw [hU.out]; rfl, rfl⟩
    · have hU : Hid (uintS xs = (0, 4)) := by unfold uintS; rw [if_neg (by rw [hV.out]; decide), if_pos (by omega)]; exact Lib.hid rfl
      have hL := Lib.hid hl; clear hl
      go_enter Try.func58, Try.ntmps58
      go_wp2_with fail
      refine hV1.out.mono ?_
      rintro e w1 ⟨rfl, rfl⟩
      rw [hV.out]
      go_wp2_with fail
      go_ret2
      exact ⟨by rw [hU.out]; rfl, rfl⟩
  · have hv' : validB xs = false := by simpa using hv
    have hU : Hid (uintS xs = (0, 3)) := by unfold uintS; rw [if_pos hv']; exact Lib.hid rfl
    have hV := Lib.hid hv'
    clear hv hv'
    have hL := Lib.hid hl; clear hl
    go_enter Try.func58, Try.ntmps58
    go_wp2_with fail
    refine hV1.out.mono ?_
    rintro e w1 ⟨rfl, rfl⟩
    rw [hV.out]
    go_wp2_with fail
    go_ret2
    exact ⟨by rw [hU.out]; rfl, rfl⟩

/-! ### the reference's Pack -/
set_option maxRecDepth 100000 in
set_option maxHeartbeats 1000000 in
theorem refPack_ok {A : Option Addr} {n c B : Nat} {xs : List Int} {w : World} (hI : Rd .u8 w B A n xs) (hB : B ≤ w.heap.size) (hx : Byte xs) (hv : validB xs = true) (hn : n ≤ 140737488351232) :
    Calls Try.prog 38 #[.slice A n c] w (RetBytes 5 w (packL xs, 0)) := by
  have hV1 := Lib.hid (refValid_any (c := c) hI hn)
  have hbits := Lib.hid (validB_bits hx hv)
  have hV := Lib.hid hv; clear hv hx
  have hL := Lib.hid hI.len
  obtain ⟨N, hN⟩ : ∃ N, (n + 7) / 8 = N := ⟨_, rfl⟩
  have hN' := Lib.hid hN
  have hNle : N ≤ 140737488351232 := by omega
  have hmk : ∀ u : World, (Instr.makeSlice 25 (.int .i64 (((n : Int) + 7) / 8)) (.int .i64 (((n : Int) + 7) / 8))).run Try.prog u = .ok (.slice (some ⟨u.heap.size, 0, none⟩) N N) (u.alloc (.cells (madeCells #[.int .u8 0] N) 5)) := fun u => by
    have h := make_bytes N N (Nat.le_refl _) hNle u
    rw [show (N : Int) = ((n : Int) + 7) / 8 from by omega] at h
    exact h
  clear hN
  go_enter Try.func38, Try.ntmps38
  go_wp2_with fail
  refine hV1.out.mono ?_
  rintro e w1 ⟨rfl, rfl⟩
  rw [hV.out]
  go_wp2_with fail
  go_loopw [5] (fun i wr => ∃ k : Nat, k ≤ n ∧ i = .int .i64 k ∧ wr.ownsRow w.heap.size 5 1 (.slice (some ⟨w.heap.size, 0, none⟩) N N) N ((packPart xs N k).map (Value.int .u8)) ∧ Below w.heap.size w wr)
    (fun i _ => n - (intOf i).toNat)
  case atStart => exact ⟨0, Nat.zero_le _, rfl, by rw [packPart_zero]; exact own_zeros (Nat.le_refl _) hNle (Nat.le_refl _), (Below.refl _ w).alloc (Nat.le_refl _) _⟩
  case round =>
    obtain ⟨k, hk, rfl, hown, hB1⟩ := hrel
    by_cases hlt : k < n
    · obtain ⟨b, off, rfl, _, hcell⟩ := (hI.below' hB1 hB).cells k hlt
      have hS := Lib.hid (packPart_succ xs N k (by rw [hL.out]; exact hlt))
      by_cases h1 : xs[k]?.getD 0 = 1
      · have h8 : k / 8 < N := by have := hN'.out; omega
        have hc0 : wr.cell? ⟨w.heap.size, k / 8, none⟩ = some (.int .u8 (byteAt (xs.take k) (k / 8))) := by
          rw [hown.cellAt (k / 8) (by omega)]
          simp [packPart, h8]
        have hf0 := hown.frozenAt (k / 8)
        have hr0 := byteAt_range (hbits.out.take k) (k / 8)
        have hr1 := byteAt_range (hbits.out.take (k + 1)) (k / 8)
        have hbs := byteAt_succ xs k (k / 8) (by rw [hL.out]; exact hlt)
        rw [if_pos rfl, h1] at hbs
        have hST := Lib.hid (hown.stored (k / 8) (.int .u8 (byteAt (xs.take (k + 1)) (k / 8))))
        have hvv := pack_step hr1 hbs
        clear hbs
        generalize byteAt (xs.take (k + 1)) (k / 8) = p' at hr1 hST hvv hS
        generalize byteAt (xs.take k) (k / 8) = p at hc0 hr0 hvv
        have hd0 : (0 : Int) ≤ (k : Int) / 8 := by omega
        have hd1 : (k : Int) / 8 < (N : Int) := by omega
        have hd2 : (0 : Int) ≤ 7 - (k : Int) % 8 := by omega
        have hd3 : IntKind.i64.wrap ((k : Int) / 8) = (k : Int) / 8 := IntWalk.i64_in _ (by omega)
        have hd4 : (k : Int).tmod 8 = (k : Int) % 8 := IntWalk.rem_in _ _ (by omega)
        have hd5 : IntKind.i64.wrap (7 - (k : Int) % 8) = 7 - (k : Int) % 8 := IntWalk.i64_in _ (by omega)
        have hd6 : IntKind.i64.wrap ((k : Int) % 8) = (k : Int) % 8 := IntWalk.i64_in _ (by omega)
        have hd7 : ((k : Int) / 8).toNat = k / 8 := by omega
        go_wp2
        go_still_tail 14, (by kernel_rfl)
        change wpList _ _ _ _ _ wr.drew
        go_wp2
        go_roundw
        case rel =>
          have hO3 : (wr.setCell ⟨w.heap.size, k / 8, none⟩ (.int .u8 p')).drew.ownsRow w.heap.size 5 1 (.slice (some ⟨w.heap.size, 0, none⟩) N N) N ((packPart xs N (k + 1)).map (Value.int .u8)) := by
            rw [hS.out, if_neg (by omega), List.map_set]
            exact hST.out.1
          have hB3 : Below w.heap.size w (wr.setCell ⟨w.heap.size, k / 8, none⟩ (.int .u8 p')).drew := (hB1.setCell (p := ⟨w.heap.size, k / 8, none⟩) (Nat.le_refl _) _).drew
          exact ⟨k + 1, by omega, by go_num, hO3, hB3⟩
        case measure => simp [intOf]; omega
      · have h0 : xs[k]?.getD 0 = 0 := by have := bits_nonneg hbits.out k; omega
        have hO := Lib.hid hown; clear hown
        go_wp2
        go_roundw
        case rel => exact ⟨k + 1, by omega, by go_num, by rw [hS.out, if_pos h0]; exact hO.out, hB1⟩
        case measure => simp [intOf]; omega
    · obtain rfl : k = n := by omega
      have hO := Lib.hid hown; clear hown
      go_wp2_with fail
      go_ret2
      have hO2 := hO.out
      rw [packPart_full hL.out hN'.out] at hO2
      exact RetBytes.mk_ (by rw [packL_length, hL.out, hN'.out]) hO2 (Nat.le_refl _) hB1 rfl
theorem refPack_any {A : Option Addr} {n c B : Nat} {xs : List Int} {w : World} (hI : Rd .u8 w B A n xs) (hB : B ≤ w.heap.size) (hx : Byte xs) (hn : n ≤ 140737488351232) :
    Calls Try.prog 38 #[.slice A n c] w (RetBytes 5 w (packS xs)) := by
  unfold packS
  split
  · rename_i h
    have hV1 := Lib.hid (refValid_any (c := c) hI hn)
    have hX := Lib.hid h
    clear h
    go_enter Try.func38, Try.ntmps38
    go_wp2_with fail
    refine hV1.out.mono ?_
    rintro e w1 ⟨rfl, rfl⟩
    rw [hX.out]
    go_wp2_with fail
    go_ret2
    exact RetBytes.nil_ (Below.refl _ _)
  · rename_i h; exact refPack_ok hI hB hx (by simpa using h) hn
end Go.Proofs.Ytgcgmnopggabaaa
