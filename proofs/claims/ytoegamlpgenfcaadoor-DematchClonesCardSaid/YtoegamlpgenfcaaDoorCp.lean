/-
  compute at its three pairs of types (made by tools/genCp.py).
-/
import Derived.Test.YtoegamlpgenfcaaDoorEx
namespace Go.Proofs.YtoegamlpgenfcaaDoor
open Go.RowKit Go.Shelf

/-- The first j elements of a new slice of n noughts have been filled. -/
def newL (f : Nat → Int) (n j : Nat) : List Int := (List.range j).map f ++ List.replicate (n - j) 0
theorem newL_zero (f : Nat → Int) (n : Nat) : newL f n 0 = List.replicate n 0 := by simp [newL]
theorem newL_all (f : Nat → Int) (n : Nat) : newL f n n = (List.range n).map f := by simp [newL]
theorem newL_set {f : Nat → Int} {n j : Nat} (h : j < n) : (newL f n j).set j (f j) = newL f n (j + 1) := by
  unfold newL
  rw [List.set_append_right _ _ (by simp), List.length_map, List.length_range, Nat.sub_self, List.range_succ, List.map_append, List.append_assoc]
  congr 1
  obtain ⟨m, hm⟩ : ∃ m, n - j = m + 1 := ⟨n - j - 1, by omega⟩
  rw [hm, show n - (j + 1) = m by omega, List.replicate_succ, List.set_cons_zero]
  rfl
/-- A function hands back a slice of its own. -/
def RetV (q : IntKind) (T : TypeId) (w : World) (r : List Int) (e : Ending) (w' : World) : Prop :=
  ∃ A c, e = .returned (.slice A r.length c) ∧ w'.ownsRow w.heap.size T 1 (.slice A r.length c) r.length (r.map (Value.int q)) ∧ Below w.heap.size w w'
theorem RetV.mk_ {q : IntKind} {T : TypeId} {w w' : World} {r : List Int} {A : Option Addr} {n c B : Nat} {e : Ending} (hlen : r.length = n) (hown : w'.ownsRow B T 1 (.slice A n c) n (r.map (Value.int q))) (hB : w.heap.size ≤ B) (hb : Below w.heap.size w w')
    (he : e = .returned (.slice A n c)) : RetV q T w r e w' := by
  subst hlen
  exact ⟨A, c, he, hown.mono hB, hb⟩
theorem RetV.got {q : IntKind} {T : TypeId} {w w' : World} {r : List Int} {e : Ending} {n : Nat} (h : RetV q T w r e w') (hn : r.length = n) :
    ∃ A c, e = .returned (.slice A n c) ∧ w'.ownsRow w.heap.size T 1 (.slice A n c) n (r.map (Value.int q)) ∧ Below w.heap.size w w' := by
  obtain ⟨A, c, h1, h2, h3⟩ := h
  subst hn
  exact ⟨A, c, h1, h2, h3⟩
set_option maxHeartbeats 4000000 in
theorem compute_bi {A : Option Addr} {n c : Nat} {xs : List Int} {G : Nat} {lb : Array Value} {g : Nat → Int → Int} {w : World} (eG : ∀ args w, (callFunc G args).run Tryd.prog w = .ok (.enter G args) w)
    (h : Rd .u8 w w.heap.size A n xs) (hn : n ≤ 2000000)
    (hG : ∀ (j : Nat) (u : World), j < n → Below w.heap.size w u → Calls Tryd.prog G (#[.int .i64 (j : Int), .int .u8 (xs[j]?.getD 0)] ++ lb) u fun e u' => e = .returned (.int .i64 (g j (xs[j]?.getD 0))) ∧ u' = u) :
    Calls Tryd.prog 53 #[.slice A n c, .func (.func G) #[] lb] w (RetV .i64 3 w ((List.range n).map fun j => g j (xs[j]?.getD 0))) := by
  have hmk := (fun u => make_ints n (by omega) u)
  have hO0 := own_zeros_q (q := .i64) (T := 3) (w := w) (B := w.heap.size) (n := n) (Nat.le_refl _) (by omega)
  have hb0 := (Below.refl w.heap.size w).alloc (Nat.le_refl _) (.cells (madeCells #[.int .i64 0] n) 3)
  have hG' := Lib.hid hG
  have hl := Lib.hid h
  obtain ⟨f, hf⟩ : ∃ f : Nat → Int, (fun j => g j (xs[j]?.getD 0)) = f := ⟨_, rfl⟩
  have hf' := Lib.hid (fun j => congrFun hf j)
  rw [hf]
  have HO := Lib.hid hO0; have HB := Lib.hid hb0
  have hn' : (n : Int) ≤ 2000000 := by omega
  clear h hG hf hO0 hb0
  go_enter Tryd.func53, Tryd.ntmps53
  go_wp2_with fail
  go_loopw [13] (fun i wr => ∃ j : Nat, j ≤ n ∧ i = .int .i64 (j : Int) ∧ Hid (wr.ownsRow w.heap.size 3 1 (.slice (some ⟨w.heap.size, 0, none⟩) n n) n ((newL f n j).map (Value.int .i64))) ∧ Hid (Below w.heap.size w wr)) (fun i _ => n - (intOf i).toNat)
  case atStart => exact ⟨0, Nat.zero_le _, rfl, Lib.hid (by rw [newL_zero]; exact HO.out), HB⟩
  case round =>
    obtain ⟨j, hj, rfl, hO, hb⟩ := hrel
    by_cases hlt : j < n
    · have hz : (j : Int) < (n : Int) := by omega
      have hz0 : (0 : Int) ≤ (j : Int) := by omega
      obtain ⟨b, off, rfl, hbl, hc0⟩ := hl.out.cells j hlt
      have hc := (hb.out.cell (p := ⟨b, off + j, none⟩) hbl).trans hc0
      have hF := Lib.hid (hG'.out j wr hlt hb.out)
      have hfj := hf'.out j
      try dsimp only at hfj
      rw [hfj] at hF
      generalize xs[j]?.getD 0 = x at *
      have hst := Lib.hid (World.ownsRow.stored hO.out j (.int .i64 (f j))).1
      rw [← List.map_set, newL_set hlt] at hst
      have hfz := World.ownsRow.frozenAt hO.out j
      obtain ⟨y0, hcy⟩ : ∃ y, wr.cell? ⟨w.heap.size, j, none⟩ = some y := by
        have hcx := World.ownsRow.cellAt hO.out j (by omega)
        have hjl : j < ((newL f n j).map (Value.int .i64)).length := by unfold newL; simp; omega
        rw [List.getElem?_eq_getElem hjl] at hcx
        exact ⟨_, hcx⟩
      have hbs := Lib.hid (hb.out.setCell (p := ⟨w.heap.size, j, none⟩) (Nat.le_refl _) (.int .i64 (f j)))
      generalize f j = y at *
      clear hO hb hc0 hbl hfj hmk
      go_wp2_with (first | (refine hF.out.mono ?_; rintro e w2 ⟨rfl, rfl⟩) | fail)
      go_roundw
      case rel => exact ⟨j + 1, by omega, by go_num, hst, hbs⟩
      case measure => simp [intOf]; omega
    · obtain rfl : j = n := by omega
      clear hlt hmk
      go_wp2_with fail
      go_ret
      have hown := hO.out
      rw [newL_all] at hown
      exact RetV.mk_ (by simp) hown (Nat.le_refl _) hb.out rfl
end Go.Proofs.YtoegamlpgenfcaaDoor
