/-
  num, ones, plans; what Split and Join find, over lists.
-/
import Derived.Test.YtkdodmjhpkfhnaaDoorRb
namespace Go.Proofs.YtkdodmjhpkfhnaaDoor
open Go.RowKit

theorem num_any {k : Int} {w : World} : Calls Tryd.prog 17 #[.int .i64 k] w fun e w' => e = .returned (.int .i64 k) ∧ w' = w := by
  go_enter Tryd.func17, Tryd.ntmps17
  go_wp2_with fail
  go_ret
  exact ⟨rfl, rfl⟩
theorem fill_one (n : Nat) : fillL (fun _ => 1) n n = List.replicate n 1 := by
  apply List.ext_getElem
  · simp [fillL]
  · intro j h1 h2
    have : j < n := by simpa [fillL] using h1
    simp [fillL, this]
set_option maxHeartbeats 1000000 in
theorem ones_any {n : Nat} {w : World} (hn : n ≤ 1000000) :
    Calls Tryd.prog 34 #[.int .i64 n] w fun e w' => ∃ A2 c2, e = .returned (.slice A2 n c2) ∧
      w'.ownsRow w.heap.size 5 1 (.slice A2 n c2) n ((List.replicate n (1 : Int)).map (Value.int .u8)) ∧ Below w.heap.size w w' := by
  have hmk := make_bytes n n (Nat.le_refl _) (by omega)
  go_enter Tryd.func34, Tryd.ntmps34
  go_wp2_with fail
  go_loopw [4] (fun i wr => ∃ k : Nat, k ≤ n ∧ i = .int .i64 k ∧ wr.ownsRow w.heap.size 5 1 (.slice (some ⟨w.heap.size, 0, none⟩) n n) n ((fillL (fun _ => 1) n k).map (Value.int .u8)) ∧ Below w.heap.size w wr)
    (fun i _ => n - (intOf i).toNat)
  case atStart => exact ⟨0, Nat.zero_le _, rfl, by rw [fillL_zero]; exact own_zeros (Nat.le_refl _) (by omega) (Nat.le_refl _), (Below.refl _ w).alloc (Nat.le_refl _) _⟩
  case round =>
    obtain ⟨k, hk, rfl, hown, hB1⟩ := hrel
    by_cases hlt : k < n
    · have hc0 : wr.cell? ⟨w.heap.size, k, none⟩ = some (.int .u8 ((fillL (fun _ => 1) n k)[k]?.getD 0)) := by
        rw [hown.cellAt k (by omega)]
        simp [fillL, hlt]
      have hf0 := hown.frozenAt k
      have hST := Lib.hid (hown.stored k (.int .u8 1))
      clear hown
      go_wp2
      go_roundw
      case rel =>
        refine ⟨k + 1, by omega, by go_num, ?_, hB1.setCell (p := ⟨w.heap.size, k, none⟩) (Nat.le_refl _) _⟩
        rw [← fillL_succ, List.map_set]
        exact hST.out.1
      case measure => simp [intOf]; omega
    · obtain rfl : k = n := by omega
      have hO := Lib.hid hown; clear hown
      go_wp2_with fail
      go_ret
      have hO2 := hO.out
      rw [fill_one] at hO2
      exact ⟨_, _, rfl, hO2, hB1⟩
/-! ### over lists -/
def fitL (l : Lay) (xss : List (List Int)) : Bool := decide (xss.length = l.blocks) && (List.range l.blocks).all (fun i => decide ((xss[i]?.getD []).length = l.size i)) && !(((xss[0]?.getD []).take l.filler).contains 1)
def partL (l : Lay) (xss : List (List Int)) (i : Nat) : Option (List Int) := unwrapL l i (xss[i]?.getD [])
def joinL (b : Int) (xss : List (List Int)) : List Int × Int :=
  if b < 1 ∨ 79560 < b then ([], 2) else if xss.all validB = false then ([], 3)
  else if fitL (planN b.toNat) xss = false then ([], 60)
  else if (List.range (planN b.toNat).blocks).all (fun i => (partL (planN b.toNat) xss i).isSome) = false then ([], 61)
  else (((List.range (planN b.toNat).blocks).map (fun i => (partL (planN b.toNat) xss i).getD [])).flatten, 0)
theorem fitB_list {l : Lay} {rows : List BRow} (h : ∀ r ∈ rows, r.xs.length = r.n) : fitB l rows = fitL l (rows.map (·.xs)) := by
  classical
  have hg : ∀ i, ((rows.map (·.xs))[i]?.getD []) = (rows[i]?.map (fun r : BRow => r.xs)).getD [] := fun i => by rw [List.getElem?_map]
  unfold fitB fitL
  rw [hg]
  congr 1
  · rw [Bool.eq_iff_iff]
    simp only [decide_eq_true_eq, Bool.and_eq_true, List.all_eq_true, List.mem_range, List.length_map]
    constructor
    · rintro ⟨h1, _, h2⟩
      refine ⟨h1, fun i hi => ?_⟩
      have hil : i < rows.length := by omega
      rw [hg, List.getElem?_eq_getElem hil]
      have := h2 i rows[i] hi (List.getElem?_eq_getElem hil)
      simp only [Option.map_some, Option.getD_some]
      rw [h _ (List.getElem_mem hil)]
      exact this
    · rintro ⟨h1, h2⟩
      refine ⟨h1, by omega, fun i r hi hr => ?_⟩
      have := h2 i hi
      rw [hg, hr] at this
      simp only [Option.map_some, Option.getD_some] at this
      rw [← h r (List.mem_of_getElem? hr)]
      exact this
  · rw [Bool.eq_iff_iff]; simp
theorem partO_list (l : Lay) (rows : List BRow) (i : Nat) : partO l rows i = partL l (rows.map (·.xs)) i := by
  unfold partO partL
  rw [List.getElem?_map]
theorem joinS_list {b : Int} {rows : List BRow} (h : ∀ r ∈ rows, r.xs.length = r.n) : joinS b rows = joinL b (rows.map (·.xs)) := by
  unfold joinS joinL
  simp only [fitB_list h, partO_list, List.all_map, Function.comp_def]
theorem Rds.len1 {w : World} {B n : Nat} {A : Option Addr} {rows : List BRow} (h : Rds w B A n rows) : ∀ r ∈ rows, r.xs.length = r.n := fun r hr => by
  obtain ⟨k, hk, rfl⟩ := List.getElem_of_mem hr
  obtain ⟨_, _, r', _, _, hr', _, hR⟩ := h.cells k (by rw [← h.len]; exact hk)
  rw [List.getElem?_eq_getElem hk] at hr'
  injection hr' with hr'
  subst hr'
  exact hR.len
/-- Join, over lists. -/
theorem Join_list {A : Option Addr} {n c : Nat} {b : Int} {rows : List BRow} {xss : List (List Int)} {w : World} (hK : Kinds w) (hI : Rds w w.heap.size A n rows) (hn : n ≤ 100000) (hx : ∀ xs ∈ xss, Byte xs ∧ xs.length ≤ 1000000) (hcap : ∀ r ∈ rows, r.n ≤ r.c) (hm : rows.map (·.xs) = xss) :
    Calls Tryd.prog 27 #[.int .i64 b, .slice A n c] w (RetBytes 5 w (joinL b xss)) := by
  have h1 := hI.len1
  rw [← hm, ← joinS_list h1]
  refine Join_any hK hI hn (fun r hr => ?_) hcap
  have := hx r.xs (by rw [← hm]; exact List.mem_map_of_mem hr)
  rw [h1 r hr] at this
  exact this
theorem OwnRows.rds {w w' : World} {A : Option Addr} {n c : Nat} {rows : List BRow} (h : OwnRows w w' (.slice A n c) n rows) : Rds w' w'.heap.size A n rows := by
  refine ⟨h.len, fun k hk => ?_⟩
  have hkl : k < rows.length := by rw [h.len]; exact hk
  obtain ⟨g, cap, hv, _, hlt⟩ := h.own.form (by omega)
  have hA : A = some ⟨g, 0, none⟩ := by injection hv
  subst hA
  refine ⟨g, 0, rows[k], rfl, hlt, List.getElem?_eq_getElem hkl, ?_, Rd.of_own (h.row _ (List.getElem_mem hkl))⟩
  have := h.own.cells (g := g) rfl k (hdr rows[k]) (by simp [hkl])
  by_cases h0 : k = 0
  · subst h0; simpa [Addr.add, hdr] using this
  · simpa [Addr.add, h0, hdr] using this
theorem OwnRows.cap {w w' : World} {V : Value} {n : Nat} {rows : List BRow} (h : OwnRows w w' V n rows) : ∀ r ∈ rows, r.n ≤ r.c := fun r hr => own_cap' (h.row r hr)
theorem split38 : splitS (List.replicate 38 1) = ([0 :: 0 :: List.replicate 38 1], 0) := by decide +kernel
theorem join38 : joinL 38 [0 :: 0 :: List.replicate 38 1] = (List.replicate 38 1, 0) := by decide +kernel
theorem join37 : joinL 37 [0 :: 0 :: List.replicate 38 1] = ([], 60) := by decide +kernel
end Go.Proofs.YtkdodmjhpkfhnaaDoor
