/-
  The table of the kinds; find, Len; valid, examine.
-/
import Derived.Test.YtkdodmjhpkfhnaaDoorApp
import Derived.Test.YtkdodmjhpkfhnaaDoorCrcA
namespace Go.Proofs.YtkdodmjhpkfhnaaDoor
open Go.RowKit

/-- The ranges of sizes (block 0) hold what start-up lays. -/
def rgC : Array Value := #[.int .i64 40, .int .i64 512, .int .i64 8, .int .i64 528, .int .i64 1024, .int .i64 16, .int .i64 1056, .int .i64 2048, .int .i64 32, .int .i64 2112, .int .i64 6144, .int .i64 64]
structure Ranges (w : World) : Prop where
  lt : 0 < w.heap.size
  cells : ∀ (j : Nat) (v : Value), rgC[j]? = some v → w.cell? ⟨0, j, none⟩ = some v
/-- The table of the kinds (block 1) holds what start-up lays. -/
structure Kinds (w : World) : Prop where
  lt : 1 < w.heap.size
  a0 : w.cell? ⟨1, 2, none⟩ = some (.int .i64 24)
  a1 : w.cell? ⟨1, 3, none⟩ = some (.int .u32 8801531)
  b0 : w.cell? ⟨1, 4, none⟩ = some (.int .i64 24)
  b1 : w.cell? ⟨1, 5, none⟩ = some (.int .u32 8388707)
  c0 : w.cell? ⟨1, 6, none⟩ = some (.int .i64 16)
  c1 : w.cell? ⟨1, 7, none⟩ = some (.int .u32 4129)
  d0 : w.cell? ⟨1, 8, none⟩ = some (.int .i64 8)
  d1 : w.cell? ⟨1, 9, none⟩ = some (.int .u32 155)
  rg : Ranges w
theorem Kinds.keep {w w' : World} (h : Kinds w) (hs : w.heap.size ≤ w'.heap.size) (hc : w'.heap[1]? = w.heap[1]?) (hr : w'.heap[0]? = w.heap[0]?) : Kinds w' := by
  have hk : ∀ j, w'.cell? ⟨1, j, none⟩ = w.cell? ⟨1, j, none⟩ := fun j => World.cell?_of_block hc
  have hg : ∀ j, w'.cell? ⟨0, j, none⟩ = w.cell? ⟨0, j, none⟩ := fun j => World.cell?_of_block hr
  exact ⟨Nat.lt_of_lt_of_le h.lt hs, (hk 2).trans h.a0, (hk 3).trans h.a1, (hk 4).trans h.b0, (hk 5).trans h.b1, (hk 6).trans h.c0, (hk 7).trans h.c1, (hk 8).trans h.d0, (hk 9).trans h.d1,
    ⟨Nat.lt_of_lt_of_le h.rg.lt hs, fun j v hv => (hg j).trans (h.rg.cells j v hv)⟩⟩
theorem Kinds.below {w w' : World} {B : Nat} (h : Kinds w) (hb : Below B w w') (hB : 1 < B) : Kinds w' := h.keep hb.size (hb.block 1 hB) (hb.block 0 (by omega))
theorem Kinds.step {w w' : World} (h : Kinds w) (hb : Below w.heap.size w w') : Kinds w' := h.below hb h.lt
theorem Kinds.drew {w : World} (h : Kinds w) : Kinds w.drew := h.keep (Nat.le_refl _) rfl rfl
theorem Kinds.drewN {w : World} (h : Kinds w) (n : Nat) : Kinds (w.drewN n) := h.keep (Nat.le_refl _) rfl rfl
theorem Kinds.alloc {w : World} (h : Kinds w) (o : Obj) : Kinds (w.alloc o) := h.step ((Below.refl _ w).alloc (Nat.le_refl _) _)

def kindV (k : Int) : Value := .agg #[.int .i64 ((genN k).2 : Nat), .int .u32 ((genN k).1 : Nat)]
theorem find_results {W : World} {tmps : Array Value} {b : Nat} {x y : Value} (h2 : tmps.getD 2 undef = .pointer (some ⟨b, 0, none⟩)) (hT : Two W b 95 x y) :
    (results Tryd.f62 tmps).run Tryd.prog W = .ok (.agg #[x, y]) W := by
  have c0 := hT.cell0
  have c1 := hT.cell1
  simp only [Array.getD_eq_getD_getElem?] at h2
  simp [results, Tryd.results62, go_sem, h2, c0, c1]
set_option maxHeartbeats 1000000 in
theorem find_any {k : Int} {w : World} (hK : Kinds w) :
    Calls Tryd.prog 62 #[.int .i64 k] w fun e w' => e = .returned (kindV k) ∧ Below w.heap.size w w' := by
  obtain ⟨hlt, a0, a1, b0, b1, c0, c1, d0, d1, _⟩ := hK
  have hsz := Lib.hid hlt
  have fin : ∀ (tmps : Array Value) (x y : Value), tmps.getD 2 undef = .pointer (some ⟨w.heap.size, 0, none⟩) → kindV k = .agg #[x, y] →
      bodyPost Tryd.prog Tryd.f62 (fun e w' => e = .returned (kindV k) ∧ Below w.heap.size w w') .ret { tmps := tmps, defers := [] } (w.alloc (.cells #[x, y] 95)) := by
    intro tmps x y h2 hk
    refine bodyPost_ret (find_results h2 (Two.new w 95 x y)) rfl ?_
    exact ⟨by rw [hk], (Below.refl _ w).alloc (Nat.le_refl _) _⟩
  have HF := Lib.hid fin; clear fin
  rcases genN_cases k with ⟨hk, e⟩ | ⟨hk, e⟩ | ⟨hk, e⟩ | ⟨hk, e⟩ | ⟨hk, e⟩
  · subst hk
    have HE := Lib.hid e; clear e
    go_enter Tryd.func62, Tryd.ntmps62
    go_wp2
    exact HF.out _ _ _ rfl (by unfold kindV; rw [HE.out]; rfl)
  · subst hk
    have HE := Lib.hid e; clear e
    go_enter Tryd.func62, Tryd.ntmps62
    go_wp2
    exact HF.out _ _ _ rfl (by unfold kindV; rw [HE.out]; rfl)
  · subst hk
    have HE := Lib.hid e; clear e
    go_enter Tryd.func62, Tryd.ntmps62
    go_wp2
    exact HF.out _ _ _ rfl (by unfold kindV; rw [HE.out]; rfl)
  · subst hk
    have HE := Lib.hid e; clear e
    go_enter Tryd.func62, Tryd.ntmps62
    go_wp2
    exact HF.out _ _ _ rfl (by unfold kindV; rw [HE.out]; rfl)
  · have HE := Lib.hid e; clear e
    rcases hk with hk | hk
    all_goals
      go_enter Tryd.func62, Tryd.ntmps62
      go_wp2
      exact HF.out _ _ _ rfl (by unfold kindV; rw [HE.out]; rfl)

theorem valid_any {A : Option Addr} {n c B : Nat} {xs : List Int} {w : World} (h : Rd .u8 w B A n xs) (hn : n ≤ 140737488351232) :
    Calls Tryd.prog 70 #[.slice A n c] w fun e w' => e = .returned (.bool (validB xs)) ∧ w = w' := by
  have hl := Lib.hid h.len
  go_enter Tryd.func70, Tryd.ntmps70
  go_wp2
  go_loop [7] (fun i => ∃ k : Nat, k ≤ n ∧ i = .int .i64 k ∧ validB (xs.take k) = true) (fun i => n - (intOf i).toNat)
  case atStart => exact ⟨0, Nat.zero_le _, rfl, rfl⟩
  case round =>
    obtain ⟨k, hk, rfl, hv⟩ := hrel
    have hV := Lib.hid hv; clear hv
    by_cases hlt : k < n
    · obtain ⟨b, off, rfl, _, hc⟩ := h.cells k hlt
      have hS := Lib.hid (take_snoc xs k (by rw [hl.out]; exact hlt) 0)
      go_wp2
      · go_ret
        have hx : 1 < xs[k]?.getD 0 := by assumption
        refine ⟨ret_bool (Eq.symm ?_), rfl⟩
        have : validB (xs.take (k + 1)) = false := by rw [hS.out, validB_snoc]; simp; intro _; exact hx
        exact validB_prefix this
      · go_round
        case rel => exact ⟨k + 1, by omega, by go_num, by rw [hS.out, validB_snoc, hV.out]; simp; omega⟩
        case measure => simp [intOf]; omega
    · obtain rfl : k = n := by omega
      go_wp2
      go_ret
      rw [← hl.out, List.take_length] at hV
      exact ⟨ret_bool hV.out.symm, rfl⟩
end Go.Proofs.YtkdodmjhpkfhnaaDoor
