/-
  The references of Valid, Next. The reference of Sizes; same. num, ones, plans; what Split and Join find, over lists. plans.
-/
import Derived.Test.YtkdodmjhpkfhnaaDoorPh
namespace Go.Proofs.YtkdodmjhpkfhnaaDoor
/-! ### The references of Valid, Next. -/
section
open Go.RowKit

/-- Is an integer a block size? -/
def isB (n : Int) : Bool := decide (0 ≤ n ∧ IsSize n.toNat)
theorem isB_nat (m : Nat) : isB (m : Int) = decide (IsSize m) := by simp [isB]
theorem validS_isB (n : Int) : validS n = isB n := by
  unfold validS nextS isB
  by_cases h : n < 0 ∨ 6144 < n
  · rw [if_pos h]
    have hno : ¬ (0 ≤ n ∧ IsSize n.toNat) := fun ⟨h1, h2⟩ => by
      unfold IsSize at h2
      omega
    simp [hno]
  · rw [if_neg h]
    obtain ⟨m, rfl⟩ : ∃ m : Nat, n = m := ⟨n.toNat, by omega⟩
    have := nextN_self (n := m) (by omega)
    simp only [Int.toNat_natCast, Int.natCast_nonneg, true_and, decide_true, Bool.true_and]
    rw [decide_eq_decide, ← this]
    exact Int.natCast_inj
theorem isB_out {n : Int} (h : n < 40 ∨ 6144 < n) : isB n = false := by
  unfold isB IsSize
  rw [decide_eq_false_iff_not]
  omega
set_option maxHeartbeats 1000000 in
theorem refValid_mid {m : Nat} {w : World} (h1 : 40 ≤ m) (h2 : m ≤ 6144) :
    Calls Tryd.prog 16 #[.int .i64 (m : Int)] w fun e w' => e = .returned (.bool (decide (IsSize m))) ∧ w' = w := by
  go_enter Tryd.func16, Tryd.ntmps16
  go_wp2_with fail
  all_goals (go_ret; exact ⟨ret_bool (by rw [Bool.eq_iff_iff, decide_eq_true_iff]; unfold IsSize; simp only [beq_iff_eq, Bool.false_eq_true, false_iff, true_iff]; omega), rfl⟩)
set_option maxHeartbeats 1000000 in
theorem refValid_any {n : Int} {w : World} :
    Calls Tryd.prog 16 #[.int .i64 n] w fun e w' => e = .returned (.bool (isB n)) ∧ w' = w := by
  by_cases h : n < 40 ∨ 6144 < n
  · have hb := Lib.hid (isB_out h)
    rcases h with h | h
    · go_enter Tryd.func16, Tryd.ntmps16
      go_wp2_with fail
      all_goals first | (exfalso; omega) | (go_ret; exact ⟨ret_bool hb.out.symm, rfl⟩)
    · go_enter Tryd.func16, Tryd.ntmps16
      go_wp2_with fail
      all_goals first | (exfalso; omega) | (go_ret; exact ⟨ret_bool hb.out.symm, rfl⟩)
  · obtain ⟨m, rfl⟩ : ∃ m : Nat, n = m := ⟨n.toNat, by omega⟩
    rw [isB_nat]
    exact refValid_mid (by omega) (by omega)
set_option maxHeartbeats 1000000 in
theorem refNext_any {n : Int} {w : World} :
    Calls Tryd.prog 11 #[.int .i64 n] w fun e w' => e = .returned (.tuple #[.int .i64 (nextS n).1, .int .i64 (nextS n).2]) ∧ w' = w := by
  by_cases h : n < 0 ∨ 6144 < n
  · have hb : Hid (nextS n = (0, 2)) := Lib.hid (by unfold nextS; rw [if_pos h])
    rcases h with h | h
    · go_enter Tryd.func11, Tryd.ntmps11
      go_wp2_with fail
      all_goals first | (exfalso; omega) | (go_ret2; exact ⟨by rw [hb.out]; rfl, rfl⟩)
    · go_enter Tryd.func11, Tryd.ntmps11
      go_wp2_with fail
      all_goals first | (exfalso; omega) | (go_ret2; exact ⟨by rw [hb.out]; rfl, rfl⟩)
  · obtain ⟨m, rfl⟩ : ∃ m : Nat, n = m := ⟨n.toNat, by omega⟩
    have hm : m ≤ 6144 := by omega
    have hb : Hid (nextS (m : Int) = (((nextN m : Nat) : Int), 0)) := Lib.hid (by unfold nextS; rw [if_neg h, Int.toNat_natCast])
    have hg := Lib.hid (nextN_ge hm)
    have hv := Lib.hid (fun (k : Nat) (u : World) => refValid_any (n := (k : Int)) (w := u))
    clear h
    go_enter Tryd.func11, Tryd.ntmps11
    go_wp2_with fail
    go_loop [0] (fun i => ∃ k : Nat, m ≤ k ∧ k ≤ nextN m ∧ i = .int .i64 (k : Int)) (fun i => nextN m - (intOf i).toNat)
    case atStart => exact ⟨m, Nat.le_refl _, hg.out.1, rfl⟩
    case round =>
      obtain ⟨k, hk1, hk2, rfl⟩ := hrel
      by_cases hke : k = nextN m
      · have hs : Hid (isB (k : Int) = true) := Lib.hid (by rw [isB_nat, hke]; exact decide_eq_true (nextN_size hm))
        have hke' := Lib.hid hke
        clear hke
        go_wp2_with (go_at_call 16; refine (hv.out _ _).mono ?_; rintro e w1 ⟨rfl, rfl⟩; rw [hs.out])
        go_ret2
        exact ⟨by rw [hb.out, ← hke'.out]; rfl, rfl⟩
      · have hs : Hid (isB (k : Int) = false) := Lib.hid (by rw [isB_nat]; exact decide_eq_false (nextN_least hk1 (by omega)))
        have hg2 := hg.out.2
        have hk3 : k < nextN m := by omega
        have hk4 : k < 6144 := by omega
        clear hg2 hke
        have HK3 := Lib.hid hk3
        clear hk3
        go_wp2_with (go_at_call 16; refine (hv.out _ _).mono ?_; rintro e w1 ⟨rfl, rfl⟩; rw [hs.out])
        go_round
        case rel => exact ⟨k + 1, by omega, HK3.out, by go_num⟩
        case measure => have := HK3.out; simp [intOf]; omega
end

/-! ### The reference of Sizes; same. -/
section
open Go.RowKit

def filtL (k : Nat) : List Int := ((List.range k).filter (fun k => decide (IsSize k))).map Int.ofNat
theorem filtL_yes {k : Nat} (h : IsSize k) : filtL (k + 1) = filtL k ++ [(k : Int)] := by simp [filtL, List.range_succ, List.filter_append, h]
theorem filtL_no {k : Nat} (h : ¬ IsSize k) : filtL (k + 1) = filtL k := by simp [filtL, List.range_succ, List.filter_append, h]
theorem filtL_mono (k : Nat) : ∀ j, (filtL k).length ≤ (filtL (k + j)).length
  | 0 => Nat.le_refl _
  | j + 1 => by
    have := filtL_mono k j
    by_cases h : IsSize (k + j)
    · rw [← Nat.add_assoc, filtL_yes h, List.length_append]; omega
    · rw [← Nat.add_assoc, filtL_no h]; exact this
theorem filtL_all : filtL 6145 = sizesL.map Int.ofNat := by unfold filtL; rw [sizesL_filter]
theorem filtL_le {k : Nat} (h : k ≤ 6145) : (filtL k).length ≤ 188 := by
  have := filtL_mono k (6145 - k)
  rw [show k + (6145 - k) = 6145 by omega, filtL_all, List.length_map, sizesL_length] at this
  exact this
/-- append of one integer. -/
theorem ints_app {w wr : World} {n : Nat} {A : Option Addr} {c : Nat} {xs : List Int} (hO : wr.ownsRow w.heap.size 3 1 (.slice A n c) n (xs.map (Value.int .i64))) (hb : Below w.heap.size w wr) (hn : n < 1000) (x : Int) :
    ∃ A2 c2 w2, (Builtin.append_ #[28, 28] 28 #[.slice A n c, .slice (some ⟨wr.heap.size, 0, none⟩) 1 1]).run Tryd.prog (wr.alloc (.cells #[.int .i64 x] 3)) = .ok (.slice A2 (n + 1) c2) w2 ∧
      w2.ownsRow w.heap.size 3 1 (.slice A2 (n + 1) c2) (n + 1) ((xs ++ [x]).map (Value.int .i64)) ∧ Below w.heap.size w w2 := by
  obtain ⟨i0, hi, hz0, hz1, hz2⟩ := info_q Tryd.info_int
  obtain ⟨A2, c2, w2, h1, h2, h3⟩ := append_one_q (P := Tryd.prog) (q := .i64) (x := x) Tryd.underlying28 hi hz0 hz1 hz2 (by decide) hO (by omega) hb.size
  exact ⟨A2, c2, w2, h1, h2, (hb.alloc hb.size _).grown h3 (by simp; have := hb.size; omega) (fun k hk => (hO.lt k hk).1)⟩
/-- Where the reference's loop is. -/
structure RszAt (w : World) (s k : Value) (w3 : World) : Prop where
  ex : ∃ (t n : Nat) (A : Option Addr) (c : Nat), t ≤ 6145 ∧ k = .int .i64 (t : Int) ∧ (filtL t).length = n ∧ s = .slice A n c ∧ w3.ownsRow w.heap.size 3 1 (.slice A n c) n ((filtL t).map (Value.int .i64)) ∧ Below w.heap.size w w3
set_option maxRecDepth 100000 in
set_option maxHeartbeats 1000000 in
theorem refSizes_any {w : World} :
    Calls Tryd.prog 14 #[] w fun e w' => ∃ A c, e = .returned (.slice A 188 c) ∧
      w'.ownsRow w.heap.size 3 1 (.slice A 188 c) 188 ((sizesL.map Int.ofNat).map (Value.int .i64)) ∧ Below w.heap.size w w' := by
  have hv := Lib.hid (fun (k : Nat) (u : World) => refValid_any (n := (k : Int)) (w := u))
  go_enter Tryd.func14, Tryd.ntmps14
  go_wp2_with fail
  go_loopw [1, 2] (fun s k wr => RszAt w s k wr) (fun _ k _ => 6145 - (intOf k).toNat)
  case atStart => exact ⟨⟨0, 0, none, 0, by decide, rfl, rfl, rfl, by simpa [filtL] using World.ownsRow_nil w w.heap.size 3 1, Below.refl _ _⟩⟩
  case round =>
    obtain ⟨⟨t, n, A, c, ht, rfl, hn, rfl, hO, hb⟩⟩ := hrel
    have hle := filtL_le ht
    have HN := Lib.hid hn
    clear hn
    by_cases ht2 : t = 6145
    · subst ht2
      have hn2 : n = 188 := by rw [← HN.out, filtL_all, List.length_map, sizesL_length]
      subst hn2
      rw [filtL_all] at hO
      have HO := Lib.hid hO
      clear hO hle
      go_wp2_with fail
      go_ret
      exact ⟨A, c, rfl, HO.out, hb⟩
    · have ht3 : t ≤ 6144 := by omega
      by_cases hs : IsSize t
      · have hB : Hid (isB (t : Int) = true) := Lib.hid (by rw [isB_nat]; exact decide_eq_true hs)
        obtain ⟨A2, c2, w2, hrun, hO2, hb2⟩ := ints_app hO hb (by have := HN.out; omega) (t : Int)
        have HR := Lib.hid hrun
        have HO2 := Lib.hid hO2
        have HS := Lib.hid hs
        clear hrun hO2 hO hs hle ht2
        go_wp2_with (first | (at_builtin; refine Lib.wpList_append_run _ rfl _ _ _ _ rfl _ _ rfl rfl _ _ HR.out ?_) | (go_at_call 16; refine (hv.out _ _).mono ?_; rintro e w1 ⟨rfl, rfl⟩; rw [hB.out]))
        go_roundw
        case rel => exact ⟨⟨t + 1, n + 1, A2, c2, by omega, by go_num, by rw [filtL_yes HS.out, List.length_append, HN.out]; rfl, by first | rfl | simp, by rw [filtL_yes HS.out]; exact HO2.out, hb2⟩⟩
        case measure => simp [intOf]; omega
      · have hB : Hid (isB (t : Int) = false) := Lib.hid (by rw [isB_nat]; exact decide_eq_false hs)
        have HS := Lib.hid hs
        have HO2 := Lib.hid hO
        clear hO hs hle ht2
        go_wp2_with (go_at_call 16; refine (hv.out _ _).mono ?_; rintro e w1 ⟨rfl, rfl⟩; rw [hB.out])
        go_roundw
        case rel => exact ⟨⟨t + 1, n, A, c, by omega, by go_num, by rw [filtL_no HS.out]; exact HN.out, rfl, by rw [filtL_no HS.out]; exact HO2.out, hb⟩⟩
        case measure => simp [intOf]; omega
theorem drewN_two' (w : World) (i j : Nat) : (w.drewN i).drewN j = w.drewN (i + j) := World.drewN_drewN _ _ _
set_option maxHeartbeats 1000000 in
/-- The law's same, of integers. -/
theorem same_any {A A' : Option Addr} {n c n' c' B B' : Nat} {xs ys : List Int} {w : World} (h : Rd .i64 w B A n xs) (h' : Rd .i64 w B' A' n' ys) (hn : n ≤ 140737488351232) (hn' : n' ≤ 140737488351232) :
    Calls Tryd.prog 12 #[.slice A n c, .slice A' n' c'] w fun e w' => e = .returned (.bool (decide (xs = ys))) ∧ ∃ i, w' = w.drewN i := by
  have hl := Lib.hid h.len
  have hl' := Lib.hid h'.len
  by_cases hnn : n = n'
  · subst hnn
    go_enter Tryd.func12, Tryd.ntmps12
    go_wp2_with fail
    go_loopw [5] (fun i wr => ∃ k j : Nat, k ≤ n ∧ i = .int .i64 k ∧ (xs.take k = ys.take k) ∧ wr = w.drewN j) (fun i _ => n - (intOf i).toNat)
    case atStart => exact ⟨0, 0, Nat.zero_le _, rfl, rfl, rfl⟩
    case round =>
      obtain ⟨k, j, hk, rfl, hv, rfl⟩ := hrel
      have hV := Lib.hid hv; clear hv
      by_cases hlt : k < n
      · obtain ⟨b, off, rfl, hb1, hc⟩ := h.cells k hlt
        obtain ⟨b', off', rfl, hb1', hc'⟩ := h'.cells k hlt
        have hT1 := Lib.hid (take_snoc xs k (by rw [hl.out]; exact hlt) 0)
        have hT2 := Lib.hid (take_snoc ys k (by rw [hl'.out]; exact hlt) 0)
        have hE := Lib.hid (fun e : xs = ys => show xs[k]?.getD 0 = ys[k]?.getD 0 by rw [e])
        generalize xs[k]?.getD 0 = x at *
        generalize ys[k]?.getD 0 = y at *
        have hc2 : World.cell? (w.drewN j) ⟨b, off + k, none⟩ = some (.int .i64 x) := hc
        have hc2' : World.cell? (w.drewN j) ⟨b', off' + k, none⟩ = some (.int .i64 y) := hc'
        have hk0 : (0 : Int) ≤ (k : Int) := by omega
        have hk1 : (k : Int) < (n : Int) := by omega
        clear h h' hb1 hb1'
        by_cases hxy : x = y
        · subst hxy
          go_wp2_with fail
          go_quiet (fail)
          go_wp2_with fail
          go_roundw
          case rel => exact ⟨k + 1, _, by omega, by go_num, by rw [hT1.out, hT2.out, hV.out], by first | rfl | exact drewN_two' _ _ _⟩
          case measure => simp [intOf]; omega
        · have hd : (x != y) = true := by simp [hxy]
          have hE2 : Hid (¬ xs = ys) := Lib.hid (fun e => hxy (hE.out e))
          clear hxy
          go_wp2_with fail
          go_quiet (fail)
          go_wp2_with fail
          go_ret
          exact ⟨ret_bool (by simp [hE2.out]), _, by first | rfl | exact drewN_two' _ _ _⟩
      · obtain rfl : k = n := by omega
        clear hlt h h'
        go_wp2_with fail
        go_ret
        have e1 := hV.out
        rw [List.take_of_length_le (Nat.le_of_eq hl.out), List.take_of_length_le (Nat.le_of_eq hl'.out)] at e1
        exact ⟨ret_bool (by simp [e1]), j, rfl⟩
  · have hd : ((n : Int) != (n' : Int)) = true := by simp; omega
    have hne : Hid (¬ xs = ys) := Lib.hid (fun e : xs = ys => hnn (by rw [← hl.out, ← hl'.out, e]))
    clear hnn h h'
    go_enter Tryd.func12, Tryd.ntmps12
    go_wp2_with fail
    go_ret
    exact ⟨ret_bool (by simp [hne.out]), 0, rfl⟩
end

/-! ### num, ones, plans; what Split and Join find, over lists. -/
section
open Go.RowKit

theorem num_any {k : Int} {w : World} : Calls Tryd.prog 17 #[.int .i64 k] w fun e w' => e = .returned (.int .i64 k) ∧ w' = w := by
  go_enter Tryd.func17, Tryd.ntmps17
  go_wp2_with fail
  go_ret
  exact ⟨rfl, rfl⟩
theorem fill_one (n : Nat) : fillL (fun _ => 1) n n = List.replicate n 1 := by
  apply List.ext_getElem
  · simp [fillL]
  · intro j h1 h2
    have : j < n := by simpa [fillL] using h1
    simp [fillL, this]
set_option maxHeartbeats 1000000 in
theorem ones_any {n : Nat} {w : World} (hn : n ≤ 1000000) :
    Calls Tryd.prog 34 #[.int .i64 n] w fun e w' => ∃ A2 c2, e = .returned (.slice A2 n c2) ∧
      w'.ownsRow w.heap.size 5 1 (.slice A2 n c2) n ((List.replicate n (1 : Int)).map (Value.int .u8)) ∧ Below w.heap.size w w' := by
  have hmk := make_bytes n n (Nat.le_refl _) (by omega)
  go_enter Tryd.func34, Tryd.ntmps34
  go_wp2_with fail
  go_loopw [4] (fun i wr => ∃ k : Nat, k ≤ n ∧ i = .int .i64 k ∧ wr.ownsRow w.heap.size 5 1 (.slice (some ⟨w.heap.size, 0, none⟩) n n) n ((fillL (fun _ => 1) n k).map (Value.int .u8)) ∧ Below w.heap.size w wr)
    (fun i _ => n - (intOf i).toNat)
  case atStart => exact ⟨0, Nat.zero_le _, rfl, by rw [fillL_zero]; exact own_zeros (Nat.le_refl _) (by omega) (Nat.le_refl _), (Below.refl _ w).alloc (Nat.le_refl _) _⟩
  case round =>
    obtain ⟨k, hk, rfl, hown, hB1⟩ := hrel
    by_cases hlt : k < n
    · have hc0 : wr.cell? ⟨w.heap.size, k, none⟩ = some (.int .u8 ((fillL (fun _ => 1) n k)[k]?.getD 0)) := by
        rw [hown.cellAt k (by omega)]
        simp [fillL, hlt]
      have hf0 := hown.frozenAt k
      have hST := Lib.hid (hown.stored k (.int .u8 1))
      clear hown
      go_wp2
      go_roundw
      case rel =>
        refine ⟨k + 1, by omega, by go_num, ?_, hB1.setCell (p := ⟨w.heap.size, k, none⟩) (Nat.le_refl _) _⟩
        rw [← fillL_succ, List.map_set]
        exact hST.out.1
      case measure => simp [intOf]; omega
    · obtain rfl : k = n := by omega
      have hO := Lib.hid hown; clear hown
      go_wp2_with fail
      go_ret
      have hO2 := hO.out
      rw [fill_one] at hO2
      exact ⟨_, _, rfl, hO2, hB1⟩
/-! ### over lists -/
def fitL (l : Lay) (xss : List (List Int)) : Bool := decide (xss.length = l.blocks) && (List.range l.blocks).all (fun i => decide ((xss[i]?.getD []).length = l.size i)) && !(((xss[0]?.getD []).take l.filler).contains 1)
def partL (l : Lay) (xss : List (List Int)) (i : Nat) : Option (List Int) := unwrapL l i (xss[i]?.getD [])
def joinL (b : Int) (xss : List (List Int)) : List Int × Int :=
  if b < 1 ∨ 79560 < b then ([], 2) else if xss.all validB = false then ([], 3)
  else if fitL (planN b.toNat) xss = false then ([], 60)
  else if (List.range (planN b.toNat).blocks).all (fun i => (partL (planN b.toNat) xss i).isSome) = false then ([], 61)
  else (((List.range (planN b.toNat).blocks).map (fun i => (partL (planN b.toNat) xss i).getD [])).flatten, 0)
theorem fitB_list {l : Lay} {rows : List BRow} (h : ∀ r ∈ rows, r.xs.length = r.n) : fitB l rows = fitL l (rows.map (·.xs)) := by
  classical
  have hg : ∀ i, ((rows.map (·.xs))[i]?.getD []) = (rows[i]?.map (fun r : BRow => r.xs)).getD [] := fun i => by rw [List.getElem?_map]
  unfold fitB fitL
  rw [hg]
  congr 1
  · rw [Bool.eq_iff_iff]
    simp only [decide_eq_true_eq, Bool.and_eq_true, List.all_eq_true, List.mem_range, List.length_map]
    constructor
    · rintro ⟨h1, _, h2⟩
      refine ⟨h1, fun i hi => ?_⟩
      have hil : i < rows.length := by omega
      rw [hg, List.getElem?_eq_getElem hil]
      have := h2 i rows[i] hi (List.getElem?_eq_getElem hil)
      simp only [Option.map_some, Option.getD_some]
      rw [h _ (List.getElem_mem hil)]
      exact this
    · rintro ⟨h1, h2⟩
      refine ⟨h1, by omega, fun i r hi hr => ?_⟩
      have := h2 i hi
      rw [hg, hr] at this
      simp only [Option.map_some, Option.getD_some] at this
      rw [← h r (List.mem_of_getElem? hr)]
      exact this
  · rw [Bool.eq_iff_iff]; simp
theorem partO_list (l : Lay) (rows : List BRow) (i : Nat) : partO l rows i = partL l (rows.map (·.xs)) i := by
  unfold partO partL
  rw [List.getElem?_map]
theorem joinS_list {b : Int} {rows : List BRow} (h : ∀ r ∈ rows, r.xs.length = r.n) : joinS b rows = joinL b (rows.map (·.xs)) := by
  unfold joinS joinL
  simp only [fitB_list h, partO_list, List.all_map, Function.comp_def]
theorem Rds.len1 {w : World} {B n : Nat} {A : Option Addr} {rows : List BRow} (h : Rds w B A n rows) : ∀ r ∈ rows, r.xs.length = r.n := fun r hr => by
  obtain ⟨k, hk, rfl⟩ := List.getElem_of_mem hr
  obtain ⟨_, _, r', _, _, hr', _, hR⟩ := h.cells k (by rw [← h.len]; exact hk)
  rw [List.getElem?_eq_getElem hk] at hr'
  injection hr' with hr'
  subst hr'
  exact hR.len
/-- Join, over lists. -/
theorem Join_list {A : Option Addr} {n c : Nat} {b : Int} {rows : List BRow} {xss : List (List Int)} {w : World} (hK : Kinds w) (hI : Rds w w.heap.size A n rows) (hn : n ≤ 100000) (hx : ∀ xs ∈ xss, Byte xs ∧ xs.length ≤ 1000000) (hcap : ∀ r ∈ rows, r.n ≤ r.c) (hm : rows.map (·.xs) = xss) :
    Calls Tryd.prog 27 #[.int .i64 b, .slice A n c] w (RetBytes 5 w (joinL b xss)) := by
  have h1 := hI.len1
  rw [← hm, ← joinS_list h1]
  refine Join_any hK hI hn (fun r hr => ?_) hcap
  have := hx r.xs (by rw [← hm]; exact List.mem_map_of_mem hr)
  rw [h1 r hr] at this
  exact this
theorem OwnRows.rds {w w' : World} {A : Option Addr} {n c : Nat} {rows : List BRow} (h : OwnRows w w' (.slice A n c) n rows) : Rds w' w'.heap.size A n rows := by
  refine ⟨h.len, fun k hk => ?_⟩
  have hkl : k < rows.length := by rw [h.len]; exact hk
  obtain ⟨g, cap, hv, _, hlt⟩ := h.own.form (by omega)
  have hA : A = some ⟨g, 0, none⟩ := by injection hv
  subst hA
  refine ⟨g, 0, rows[k], rfl, hlt, List.getElem?_eq_getElem hkl, ?_, Rd.of_own (h.row _ (List.getElem_mem hkl))⟩
  have := h.own.cells (g := g) rfl k (hdr rows[k]) (by simp [hkl])
  by_cases h0 : k = 0
  · subst h0; simpa [Addr.add, hdr] using this
  · simpa [Addr.add, h0, hdr] using this
theorem OwnRows.cap {w w' : World} {V : Value} {n : Nat} {rows : List BRow} (h : OwnRows w w' V n rows) : ∀ r ∈ rows, r.n ≤ r.c := fun r hr => own_cap' (h.row r hr)
theorem split38 : splitS (List.replicate 38 1) = ([0 :: 0 :: List.replicate 38 1], 0) := by decide +kernel
theorem join38 : joinL 38 [0 :: 0 :: List.replicate 38 1] = (List.replicate 38 1, 0) := by decide +kernel
theorem join37 : joinL 37 [0 :: 0 :: List.replicate 38 1] = ([], 60) := by decide +kernel
end

/-! ### plans. -/
section
open Go.RowKit

theorem layout_eql (l : Lay) (u : World) : (binOp .eql 34 (layV l) (layV l)).run Tryd.prog u = .ok (.bool true) u := by
  unfold layV layA
  simp [go_sem]
set_option maxHeartbeats 1000000 in
theorem plans_true {b : Int} {l : Lay} {w : World} (hK : Kinds w) (hl : planS b = (l, 0)) :
    Calls Tryd.prog 33 #[.int .i64 b, layV l] w fun e w' => e = .returned (.bool true) ∧ Below w.heap.size w w' := by
  have hp := Lib.hid (fun (u : World) (h : Below w.heap.size w u) => Plan_any (b := b) (hK.step h))
  rw [hl] at hp
  have hb0 := (Below.refl w.heap.size w).alloc (Nat.le_refl _) (.cells (layA l) 34)
  have hL := LayAt.new w 34 l
  have heq := layout_eql l
  have hs1 : (w.alloc (.cells (layA l) 34)).heap.size = w.heap.size + 1 := World.size_alloc _ _
  unfold layV layA at *
  go_enter Tryd.func33, Tryd.ntmps33
  go_wp2_with fail
  refine (hp.out _ hb0).mono ?_
  rintro e w1 ⟨rfl, hb1⟩
  rw [hs1] at hb1
  have hL1 := hL.below hb1 (by omega)
  have hb2 := hb0.trans (hb1.mono (by omega))
  have hL2 := hL1.alloc (.cells (layA l) 34)
  have hM2 := LayAt.new w1 34 l
  have hb3 := hb2.alloc hb2.size (.cells (layA l) 34)
  unfold layA at hL2 hM2 hb3
  obtain ⟨c0, c1, c2, c3, c4, c5, c6⟩ := hL2.all
  obtain ⟨d0, d1, d2, d3, d4, d5, d6⟩ := hM2.all
  clear hL hL1 hL2 hM2 hp
  go_wp2_with (go_at_call 17; refine num_any.mono ?_; rintro e w2 ⟨rfl, rfl⟩)
  go_ret
  exact ⟨rfl, hb3⟩
end
end Go.Proofs.YtkdodmjhpkfhnaaDoor
