/-
  The table of the columns; Rows, Column, the shifts, size, of, indices.
-/
import Derived.Test.YtoegamlpgenfcaaDoorGn
import Derived.Test.YtoegamlpgenfcaaDoorGm
import Derived.Test.YtoegamlpgenfcaaDoorSm
import Derived.Test.YtoegamlpgenfcaaDoorSmR
import Derived.Test.YtoegamlpgenfcaaDoorT3
import Derived.ScopeJumps
namespace Go.Proofs.YtoegamlpgenfcaaDoor
open Go.RowKit Go.Shelf

/-- The columns (block 1) hold what start-up lays. -/
structure KCol (w : World) : Prop where
  lt : 1 < w.heap.size
  cells : ∀ j, j < 32 → w.cell? ⟨1, j, none⟩ = some (.int .i64 (colN j : Nat))
theorem KCol.keep {w w' : World} (h : KCol w) (hs : w.heap.size ≤ w'.heap.size) (hr : w'.heap[1]? = w.heap[1]?) : KCol w' :=
  ⟨Nat.lt_of_lt_of_le h.lt hs, fun j hj => (World.cell?_of_block hr).trans (h.cells j hj)⟩
theorem KCol.below {w w' : World} {B : Nat} (h : KCol w) (hb : Below B w w') (hB : 1 < B) : KCol w' := h.keep hb.size (hb.block 1 hB)
theorem KCol.step {w w' : World} (h : KCol w) (hb : Below w.heap.size w w') : KCol w' := h.below hb h.lt
theorem KCol.drew {w : World} (h : KCol w) : KCol w.drew := h.keep (Nat.le_refl _) rfl
theorem KCol.drewN {w : World} (h : KCol w) (n : Nat) : KCol (w.drewN n) := h.keep (Nat.le_refl _) rfl
theorem KCol.alloc {w : World} (h : KCol w) (o : Obj) : KCol (w.alloc o) := h.step ((Below.refl _ w).alloc (Nat.le_refl _) _)

def rowsI (d : Int) : Int := if okD d = true then ((rowsN d.toNat : Nat) : Int) else 0
def colI (k : Int) : Int := if (decide (0 ≤ k) && decide (k < 32)) = true then ((colN k.toNat : Nat) : Int) else -1
theorem Rows_any {d : Int} {w : World} : Calls Tryd.prog 70 #[.int .i64 d] w fun e w' => e = .returned (.int .i64 (rowsI d)) ∧ w' = w := by
  unfold rowsI
  by_cases h : okD d = true
  · rw [if_pos h]
    obtain ⟨k, rfl, h1, h2⟩ := okD_nat h
    have he : Hid (((k : Int) + 31) / 32 = ((rowsN k : Nat) : Int)) := Lib.hid (by unfold rowsN; omega)
    have e1 : ((k : Int) + 32) - 1 = (k : Int) + 31 := by omega
    rw [Int.toNat_natCast]
    clear h
    go_enter Tryd.func70, Tryd.ntmps70
    go_wp2_with fail
    go_ret
    refine ⟨ret_int ?_, rfl⟩
    first | exact he.out | (rw [← he.out]; first | rfl | (congr 1; omega) | omega)
  · rw [if_neg h]
    have h' : ¬ (1 ≤ d) ∨ ¬ (d ≤ 6148) := by
      by_cases h1 : 1 ≤ d
      · right; intro h2; exact h (by simp [okD, h1, h2])
      · exact .inl h1
    clear h
    by_cases h1 : d < 1
    · go_enter Tryd.func70, Tryd.ntmps70
      go_wp2_with fail
      go_ret
      exact ⟨rfl, rfl⟩
    · have h2 : 6148 < d := by omega
      clear h'
      go_enter Tryd.func70, Tryd.ntmps70
      go_wp2_with fail
      go_ret
      exact ⟨rfl, rfl⟩
theorem shift0_any {m : Int} {w : World} : Calls Tryd.prog 91 #[.int .i64 m] w fun e w' => e = .returned (.int .i64 m) ∧ w' = w := by
  go_enter Tryd.func91, Tryd.ntmps91
  go_wp2_with fail
  go_ret
  exact ⟨rfl, rfl⟩
theorem shift1_any {m R X : Nat} {w : World} (hm : m ≤ 100000) (hR : 1 ≤ R ∧ R ≤ 193) (hc : w.cell? ⟨X, 0, none⟩ = some (.int .i64 (R : Int))) : Calls Tryd.prog 92 #[.int .i64 (m : Int), .pointer (some ⟨X, 0, none⟩)] w fun e w' => e = .returned (.int .i64 (((m + 1) % (32 * R) : Nat) : Int)) ∧ w' = w := by
  obtain ⟨hR1, hR2⟩ := hR
  have he : Hid (((m : Int) + 1) % (32 * (R : Int)) = (((m + 1) % (32 * R) : Nat) : Int)) := Lib.hid (by push_cast; rfl)
  have he2 : Hid (((m : Int) + 1).tmod (32 * (R : Int)) = (((m + 1) % (32 * R) : Nat) : Int)) := Lib.hid (by rw [Int.tmod_eq_emod_of_nonneg (by omega)]; push_cast; rfl)
  have hlt : Hid ((m + 1) % (32 * R) ≤ 100001) := Lib.hid (by have := Nat.mod_le (m + 1) (32 * R); omega)
  go_enter Tryd.func92, Tryd.ntmps92
  go_wp2_with fail
  go_ret
  refine ⟨ret_int ?_, rfl⟩
  first | exact he.out | exact he2.out
theorem size_any {R N : Int} {F : Value} {w : World} (hR : 0 ≤ R ∧ R ≤ 193) : Calls Tryd.prog 87 #[.agg #[.int .i64 R, .int .i64 N, F]] w fun e w' => e = .returned (.int .i64 (32 * R)) ∧ w.grownBy w' none := by
  obtain ⟨hR1, hR2⟩ := hR
  have hT := Three.new w 115 (.int .i64 R) (.int .i64 N) F
  have c0 := hT.cell0
  have hG := World.grownBy_alloc w (.cells #[.int .i64 R, .int .i64 N, F] 115) none
  clear hT
  go_enter Tryd.func87, Tryd.ntmps87
  go_wp2_with fail
  go_ret
  exact ⟨rfl, hG⟩
theorem indices_any {R N : Int} {F : Value} {w : World} : Calls Tryd.prog 88 #[.agg #[.int .i64 R, .int .i64 N, F]] w fun e w' => e = .returned (.func (.func 93) #[] #[.pointer (some ⟨w.heap.size, 0, none⟩)]) ∧ w' = w.alloc (.cells #[.int .i64 R, .int .i64 N, F] 115) := by
  have hmf := makeFunc_run
  go_enter Tryd.func88, Tryd.ntmps88
  go_wp2_with fail
  go_ret
  exact ⟨rfl, rfl⟩
theorem of_results {W : World} {tmps : Array Value} {B : Nat} {a b c : Value} {e : Int} {t : TypeId} (h4 : tmps.getD 4 undef = .pointer (some ⟨B, 0, none⟩)) (h5 : tmps.getD 5 undef = .int .i64 e) (hL : Three W B t a b c) :
    (results Tryd.f86 tmps).run Tryd.prog W = .ok (.tuple #[.agg #[a, b, c], .int .i64 e]) W := by
  have c0 := hL.cell0
  have c1 := hL.cell1
  have c2 := hL.cell2
  simp only [Array.getD_eq_getD_getElem?] at h4 h5
  simp [results, Tryd.results86, go_sem, h4, h5, c0, c1, c2]
end Go.Proofs.YtoegamlpgenfcaaDoor
