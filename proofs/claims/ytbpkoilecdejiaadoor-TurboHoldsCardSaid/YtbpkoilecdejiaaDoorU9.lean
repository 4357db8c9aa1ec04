/-
  encoders. encoders. encoders, the whole. of, Layout, Steps. The iterator over an encoder's steps, a range over it; input, encode.
-/
import Derived.Test.YtbpkoilecdejiaaDoorU4
import Derived.Test.YtbpkoilecdejiaaDoorFh
namespace Go.Proofs.YtbpkoilecdejiaaDoor
/-! ### encoders. -/
section
set_option maxRecDepth 100000
open Go.RowKit

/-- The first k indices of stream s. -/
def strL (k s : Nat) : List Int := (List.range k).map fun i : Nat => ((s * (k + 4) + i : Nat) : Int)
/-- The memory ahead of the region: the streams, their indices, the tails, the order. -/
structure EncW (W : World) (H S I T O cO k : Nat) : Prop where
  rows : Three W S 36 (hdr3 I (k + 4) 0) (hdr3 I (k + 4) 1) (hdr3 I (k + 4) 2)
  idx : ∀ j, j < 3 * (k + 4) → W.cell? ⟨I, j, none⟩ = some (.int .i64 (j : Int))
  tl : ∀ i, i < 12 → W.cell? ⟨T, i, none⟩ = some (.int .i64 (tailF k i))
  ord : ∀ j, j < k → W.cell? ⟨O, j, none⟩ = some (.int .i64 ((ordI k k)[j]?.getD 0))
  size : 40 ≤ k ∧ k ≤ 6144
  cap : k ≤ cO
  low : H ≤ W.heap.size
theorem EncW.cell {W w : World} (hg : W.grownBy w none) {p : Addr} {v : Value} (h : W.cell? p = some v) : w.cell? p = some v := cell_kept h hg (fun r e => by cases e)
section
variable {W w : World} {H S I T O cO k : Nat}
theorem EncW.strm (h : EncW W H S I T O cO k) (hg : W.grownBy w none) {s : Nat} (hs : s < 3) : Rd .i64 w (I + 1) (some ⟨I, s * (k + 4), none⟩) k (strL k s) := by
  refine ⟨by simp [strL], fun j hj => ⟨I, _, rfl, Nat.lt_succ_self I, ?_⟩⟩
  have hle : s * (k + 4) + j < 3 * (k + 4) := by
    have : s = 0 ∨ s = 1 ∨ s = 2 := by omega
    rcases this with rfl | rfl | rfl <;> omega
  rw [EncW.cell hg (h.idx _ hle)]
  simp [strL, hj]
theorem EncW.order (h : EncW W H S I T O cO k) (hg : W.grownBy w none) : Rd .i64 w (O + 1) (some ⟨O, 0, none⟩) k (ordI k k) :=
  ⟨ordI_length k k, fun j hj => ⟨O, 0, rfl, Nat.lt_succ_self O, by rw [Nat.zero_add]; exact EncW.cell hg (h.ord j hj)⟩⟩
theorem EncW.head (h : EncW W H S I T O cO k) (hg : W.grownBy w none) {s : Nat} (hs : s < 3) : w.cell? ⟨S, s, none⟩ = some (.slice (some ⟨I, s * (k + 4), none⟩) (k + 4) (k + 4)) := by
  have : s = 0 ∨ s = 1 ∨ s = 2 := by omega
  rcases this with rfl | rfl | rfl
  · exact EncW.cell hg h.rows.cell0
  · exact EncW.cell hg h.rows.cell1
  · exact EncW.cell hg h.rows.cell2
end
/-- What is known of the value of each operation that is done. -/
noncomputable def RX (H S I T O cO k : Nat) : Nat → Value → World → Prop
  | 0 => fun v _ => v = .slice (some ⟨S, 0, none⟩) 3 3
  | 1 => fun v _ => v = .pointer (some ⟨S, 0, none⟩)
  | 2 => fun v _ => v = hdr3 I (k + 4) 0
  | 3 => fun v _ => v = .int .i64 (k : Int)
  | 4 => fun v _ => v = .int .i64 (k : Int)
  | 5 => fun v _ => v = .slice (some ⟨I, 0 * (k + 4), none⟩) k k
  | 6 => fun v _ => v = .slice (some ⟨T, 0, none⟩) 12 12
  | 7 => fun v _ => v = .pointer (some ⟨T, 0, none⟩)
  | 8 => fun v _ => v = .int .i64 (tailF k 0)
  | 9 => fun v _ => v = .slice (some ⟨T, 0, none⟩) 12 12
  | 10 => fun v _ => v = .pointer (some ⟨T, 2, none⟩)
  | 11 => fun v _ => v = .int .i64 (tailF k 2)
  | 12 => fun v _ => v = .slice (some ⟨T, 0, none⟩) 12 12
  | 13 => fun v _ => v = .pointer (some ⟨T, 4, none⟩)
  | 14 => fun v _ => v = .int .i64 (tailF k 4)
  | 15 => fun v w => ∃ g, v = .slice (some ⟨g, 0, none⟩) 3 3 ∧ w.heap[g]? = some (.cells #[.int .i64 (tailF k 0), .int .i64 (tailF k 2), .int .i64 (tailF k 4)] 3)
  | 16 => fun v w => NewI H (k + 3) (strL k 0 ++ [tailF k 0, tailF k 2, tailF k 4]) v w
  | 17 => fun v _ => v = .slice (some ⟨S, 0, none⟩) 3 3
  | 18 => fun v _ => v = .pointer (some ⟨S, 1, none⟩)
  | 19 => fun v _ => v = hdr3 I (k + 4) 1
  | 20 => fun v _ => v = .int .i64 (k : Int)
  | 21 => fun v _ => v = .int .i64 (k : Int)
  | 22 => fun v _ => v = .slice (some ⟨I, 1 * (k + 4), none⟩) k k
  | 23 => fun v _ => v = .slice (some ⟨T, 0, none⟩) 12 12
  | 24 => fun v _ => v = .pointer (some ⟨T, 1, none⟩)
  | 25 => fun v _ => v = .int .i64 (tailF k 1)
  | 26 => fun v _ => v = .slice (some ⟨T, 0, none⟩) 12 12
  | 27 => fun v _ => v = .pointer (some ⟨T, 3, none⟩)
  | 28 => fun v _ => v = .int .i64 (tailF k 3)
  | 29 => fun v _ => v = .slice (some ⟨T, 0, none⟩) 12 12
  | 30 => fun v _ => v = .pointer (some ⟨T, 5, none⟩)
  | 31 => fun v _ => v = .int .i64 (tailF k 5)
  | 32 => fun v w => ∃ g, v = .slice (some ⟨g, 0, none⟩) 3 3 ∧ w.heap[g]? = some (.cells #[.int .i64 (tailF k 1), .int .i64 (tailF k 3), .int .i64 (tailF k 5)] 3)
  | 33 => fun v w => NewI H (k + 3) (strL k 1 ++ [tailF k 1, tailF k 3, tailF k 5]) v w
  | 34 => fun v w => ∃ x y, v = .agg #[.int .i64 0, x, y] ∧ NewI H (k + 3) (strL k 0 ++ [tailF k 0, tailF k 2, tailF k 4]) x w ∧ NewI H (k + 3) (strL k 1 ++ [tailF k 1, tailF k 3, tailF k 5]) y w
  | 35 => fun v _ => v = .slice (some ⟨O, 0, none⟩) k cO
  | 36 => fun v _ => v = .int .i64 (k : Int)
  | 37 => fun v _ => v = .int .i64 (k : Int)
  | 38 => fun v _ => v = .slice (some ⟨O, 0, none⟩) k k
  | 39 => fun v _ => v = .slice (some ⟨T, 0, none⟩) 12 12
  | 40 => fun v _ => v = .pointer (some ⟨T, 6, none⟩)
  | 41 => fun v _ => v = .int .i64 (tailF k 6)
  | 42 => fun v _ => v = .slice (some ⟨T, 0, none⟩) 12 12
  | 43 => fun v _ => v = .pointer (some ⟨T, 8, none⟩)
  | 44 => fun v _ => v = .int .i64 (tailF k 8)
  | 45 => fun v _ => v = .slice (some ⟨T, 0, none⟩) 12 12
  | 46 => fun v _ => v = .pointer (some ⟨T, 10, none⟩)
  | 47 => fun v _ => v = .int .i64 (tailF k 10)
  | 48 => fun v w => ∃ g, v = .slice (some ⟨g, 0, none⟩) 3 3 ∧ w.heap[g]? = some (.cells #[.int .i64 (tailF k 6), .int .i64 (tailF k 8), .int .i64 (tailF k 10)] 3)
  | 49 => fun v w => NewI H (k + 3) (ordI k k ++ [tailF k 6, tailF k 8, tailF k 10]) v w
  | 50 => fun v _ => v = .slice (some ⟨S, 0, none⟩) 3 3
  | 51 => fun v _ => v = .pointer (some ⟨S, 2, none⟩)
  | 52 => fun v _ => v = hdr3 I (k + 4) 2
  | 53 => fun v _ => v = .int .i64 (k : Int)
  | 54 => fun v _ => v = .int .i64 (k : Int)
  | 55 => fun v _ => v = .slice (some ⟨I, 2 * (k + 4), none⟩) k k
  | 56 => fun v _ => v = .slice (some ⟨T, 0, none⟩) 12 12
  | 57 => fun v _ => v = .pointer (some ⟨T, 7, none⟩)
  | 58 => fun v _ => v = .int .i64 (tailF k 7)
  | 59 => fun v _ => v = .slice (some ⟨T, 0, none⟩) 12 12
  | 60 => fun v _ => v = .pointer (some ⟨T, 9, none⟩)
  | 61 => fun v _ => v = .int .i64 (tailF k 9)
  | 62 => fun v _ => v = .slice (some ⟨T, 0, none⟩) 12 12
  | 63 => fun v _ => v = .pointer (some ⟨T, 11, none⟩)
  | 64 => fun v _ => v = .int .i64 (tailF k 11)
  | 65 => fun v w => ∃ g, v = .slice (some ⟨g, 0, none⟩) 3 3 ∧ w.heap[g]? = some (.cells #[.int .i64 (tailF k 7), .int .i64 (tailF k 9), .int .i64 (tailF k 11)] 3)
  | 66 => fun v w => NewI H (k + 3) (strL k 2 ++ [tailF k 7, tailF k 9, tailF k 11]) v w
  | 67 => fun v w => ∃ x y, v = .agg #[.int .i64 0, x, y] ∧ NewI H (k + 3) (ordI k k ++ [tailF k 6, tailF k 8, tailF k 10]) x w ∧ NewI H (k + 3) (strL k 2 ++ [tailF k 7, tailF k 9, tailF k 11]) y w
  | 68 => fun v w => ∃ x y x2 y2, v = .agg #[.int .i64 0, x, y, .int .i64 0, x2, y2] ∧ NewI H (k + 3) (strL k 0 ++ [tailF k 0, tailF k 2, tailF k 4]) x w ∧ NewI H (k + 3) (strL k 1 ++ [tailF k 1, tailF k 3, tailF k 5]) y w ∧ NewI H (k + 3) (ordI k k ++ [tailF k 6, tailF k 8, tailF k 10]) x2 w ∧ NewI H (k + 3) (strL k 2 ++ [tailF k 7, tailF k 9, tailF k 11]) y2 w
  | _ => fun _ _ => True
theorem heap_grown {w w' : World} {g : Nat} {x : Obj} (h : w.heap[g]? = some x) (hg : w.grownBy w' none) : w'.heap[g]? = some x := (hg.block g (Array.getElem?_eq_some_iff.1 h).1 (fun e => by cases e)).trans h
theorem lt69 {i : Nat} (h : i < 69) : i = 0 ∨ i = 1 ∨ i = 2 ∨ i = 3 ∨ i = 4 ∨ i = 5 ∨ i = 6 ∨ i = 7 ∨ i = 8 ∨ i = 9 ∨ i = 10 ∨ i = 11 ∨ i = 12 ∨ i = 13 ∨ i = 14 ∨ i = 15 ∨ i = 16 ∨ i = 17 ∨ i = 18 ∨ i = 19 ∨ i = 20 ∨ i = 21 ∨ i = 22 ∨ i = 23 ∨ i = 24 ∨ i = 25 ∨ i = 26 ∨ i = 27 ∨ i = 28 ∨ i = 29 ∨ i = 30 ∨ i = 31 ∨ i = 32 ∨ i = 33 ∨ i = 34 ∨ i = 35 ∨ i = 36 ∨ i = 37 ∨ i = 38 ∨ i = 39 ∨ i = 40 ∨ i = 41 ∨ i = 42 ∨ i = 43 ∨ i = 44 ∨ i = 45 ∨ i = 46 ∨ i = 47 ∨ i = 48 ∨ i = 49 ∨ i = 50 ∨ i = 51 ∨ i = 52 ∨ i = 53 ∨ i = 54 ∨ i = 55 ∨ i = 56 ∨ i = 57 ∨ i = 58 ∨ i = 59 ∨ i = 60 ∨ i = 61 ∨ i = 62 ∨ i = 63 ∨ i = 64 ∨ i = 65 ∨ i = 66 ∨ i = 67 ∨ i = 68 := by omega
theorem RX_grown {H S I T O cO k i : Nat} {v : Value} {w w' : World} (hi : i < 69) (h : RX H S I T O cO k i v w) (hg : w.grownBy w' none) : RX H S I T O cO k i v w' := by
  have hc := lt69 hi
  rcases hc with rfl | rfl | rfl | rfl | rfl | rfl | rfl | rfl | rfl | rfl | rfl | rfl | rfl | rfl | rfl | rfl | rfl | rfl | rfl | rfl | rfl | rfl | rfl | rfl | rfl | rfl | rfl | rfl | rfl | rfl | rfl | rfl | rfl | rfl | rfl | rfl | rfl | rfl | rfl | rfl | rfl | rfl | rfl | rfl | rfl | rfl | rfl | rfl | rfl | rfl | rfl | rfl | rfl | rfl | rfl | rfl | rfl | rfl | rfl | rfl | rfl | rfl | rfl | rfl | rfl | rfl | rfl | rfl | rfl
  · exact h
  · exact h
  · exact h
  · exact h
  · exact h
  · exact h
  · exact h
  · exact h
  · exact h
  · exact h
  · exact h
  · exact h
  · exact h
  · exact h
  · exact h
  · obtain ⟨g, h1, h2⟩ := h
    exact ⟨g, h1, heap_grown h2 hg⟩
  · exact NewI.grown h hg
  · exact h
  · exact h
  · exact h
  · exact h
  · exact h
  · exact h
  · exact h
  · exact h
  · exact h
  · exact h
  · exact h
  · exact h
  · exact h
  · exact h
  · exact h
  · obtain ⟨g, h1, h2⟩ := h
    exact ⟨g, h1, heap_grown h2 hg⟩
  · exact NewI.grown h hg
  · obtain ⟨x, y, h0, h1, h2⟩ := h
    exact ⟨x, y, h0, h1.grown hg, h2.grown hg⟩
  · exact h
  · exact h
  · exact h
  · exact h
  · exact h
  · exact h
  · exact h
  · exact h
  · exact h
  · exact h
  · exact h
  · exact h
  · exact h
  · obtain ⟨g, h1, h2⟩ := h
    exact ⟨g, h1, heap_grown h2 hg⟩
  · exact NewI.grown h hg
  · exact h
  · exact h
  · exact h
  · exact h
  · exact h
  · exact h
  · exact h
  · exact h
  · exact h
  · exact h
  · exact h
  · exact h
  · exact h
  · exact h
  · exact h
  · obtain ⟨g, h1, h2⟩ := h
    exact ⟨g, h1, heap_grown h2 hg⟩
  · exact NewI.grown h hg
  · obtain ⟨x, y, h0, h1, h2⟩ := h
    exact ⟨x, y, h0, h1.grown hg, h2.grown hg⟩
  · obtain ⟨x, y, x2, y2, h0, h1, h2, h3, h4⟩ := h
    exact ⟨x, y, x2, y2, h0, h1.grown hg, h2.grown hg, h3.grown hg, h4.grown hg⟩
/-- What is known within the region. -/
def SX (W : World) (H S I T O cO k : Nat) (L : Nat → Bool) (V : Nat → Value) (w : World) : Prop := W.grownBy w none ∧ ∀ j, j < 69 → L j = true → RX H S I T O cO k j (V j) w
theorem SX.next {W w w' : World} {H S I T O cO k i : Nat} {L : Nat → Bool} {V : Nat → Value} {v : Value} (h : SX W H S I T O cO k L V w) (hg : w.grownBy w' none) (hR : RX H S I T O cO k i v w') : SX W H S I T O cO k (upd L i true) (upd V i v) w' := by
  refine ⟨grown_same h.1 hg, fun j hj hL => ?_⟩
  by_cases e : j = i
  · subst e
    rw [upd_same]
    exact hR
  · rw [upd_other _ _ e] at hL ⊢
    exact RX_grown hj (h.2 j hj hL) hg
theorem grown_refl (w : World) : w.grownBy w none := ⟨rfl, rfl, rfl, Nat.le_refl _, fun _ _ _ => rfl⟩
/-- The region's operations. -/
noncomputable def opsOf (id : Nat) : Code → Option (Array Oper)
  | .region i ops _ => if i = id then some ops else none
  | .seq a b => (opsOf id a).orElse fun _ => opsOf id b
  | _ => none
noncomputable def encOps : Array Oper := ((Tryd.f40.body.bind (opsOf 6)).getD #[])
set_option maxHeartbeats 4000000 in
theorem enc_step {W : World} {H S I T O cO k : Nat} {a0 : Act} (hW : EncW W H S I T O cO k) (h0 : a0.tmps.getD 0 undef = .int .i64 (k : Int)) (h5 : a0.tmps.getD 5 undef = .slice (some ⟨S, 0, none⟩) 3 3) (h6 : a0.tmps.getD 6 undef = .slice (some ⟨T, 0, none⟩) 12 12) (h7 : a0.tmps.getD 7 undef = .slice (some ⟨O, 0, none⟩) k cO)
    (i : Nat) (L : Nat → Bool) (V : Nat → Value) (a : Act) (w : World) (hi : i < 69) (hS : SX W H S I T O cO k L V w) (hF : FrameAt 24 a0 a V 69) (hafter : ∀ (t : Nat) (e : Edge), ((encOps[i]?).bind fun o => o.after[t]?) = some e → Region.binds .any e = true → L e.on = true) :
    ∃ o v w', encOps[i]? = some o ∧ o.guard = none ∧ o.dst = some (24 + i) ∧ (execOp a.eval o).run Tryd.prog w = .ok (.value v) w' ∧ SX W H S I T O cO k (upd L i true) (upd V i v) w' := by
  have hsz := hW.size
  have hc := lt69 hi
  rcases hc with rfl | rfl | rfl | rfl | rfl | rfl | rfl | rfl | rfl | rfl | rfl | rfl | rfl | rfl | rfl | rfl | rfl | rfl | rfl | rfl | rfl | rfl | rfl | rfl | rfl | rfl | rfl | rfl | rfl | rfl | rfl | rfl | rfl | rfl | rfl | rfl | rfl | rfl | rfl | rfl | rfl | rfl | rfl | rfl | rfl | rfl | rfl | rfl | rfl | rfl | rfl | rfl | rfl | rfl | rfl | rfl | rfl | rfl | rfl | rfl | rfl | rfl | rfl | rfl | rfl | rfl | rfl | rfl | rfl
  · exact ⟨_, _, w, rfl, rfl, rfl, ex_move (hF.evalLow (by decide) h5), hS.next (grown_refl w) rfl⟩
  · exact ⟨_, _, w, rfl, rfl, rfl, ex_index_rows (j := 0) rfl ((hF.eval (j := 0) (by decide) rfl).trans (hS.2 0 (by decide) (hafter 0 ⟨0, .data⟩ rfl rfl))) rfl (by decide), hS.next (grown_refl w) rfl⟩
  · exact ⟨_, _, w, rfl, rfl, rfl, ex_load_ints ((hF.eval (j := 1) (by decide) rfl).trans (hS.2 1 (by decide) (hafter 0 ⟨1, .data⟩ rfl rfl))) (hW.head hS.1 (s := 0) (by decide)), hS.next (grown_refl w) rfl⟩
  · exact ⟨_, _, w, rfl, rfl, rfl, ex_move (hF.evalLow (by decide) h0), hS.next (grown_refl w) rfl⟩
  · exact ⟨_, _, w, rfl, rfl, rfl, ex_move (hF.evalLow (by decide) h0), hS.next (grown_refl w) rfl⟩
  · exact ⟨_, _, w, rfl, rfl, rfl, ex_cut ((hF.eval (j := 2) (by decide) rfl).trans (hS.2 2 (by decide) (hafter 0 ⟨2, .data⟩ rfl rfl))) ((hF.eval (j := 3) (by decide) rfl).trans (hS.2 3 (by decide) (hafter 1 ⟨3, .data⟩ rfl rfl))) ((hF.eval (j := 4) (by decide) rfl).trans (hS.2 4 (by decide) (hafter 2 ⟨4, .data⟩ rfl rfl))) (by omega), hS.next (grown_refl w) rfl⟩
  · exact ⟨_, _, w, rfl, rfl, rfl, ex_move (hF.evalLow (by decide) h6), hS.next (grown_refl w) rfl⟩
  · exact ⟨_, _, w, rfl, rfl, rfl, ex_index_ints (j := 0) rfl ((hF.eval (j := 6) (by decide) rfl).trans (hS.2 6 (by decide) (hafter 0 ⟨6, .data⟩ rfl rfl))) rfl (by decide), hS.next (grown_refl w) rfl⟩
  · exact ⟨_, _, w, rfl, rfl, rfl, ex_load_int ((hF.eval (j := 7) (by decide) rfl).trans (hS.2 7 (by decide) (hafter 0 ⟨7, .data⟩ rfl rfl))) (EncW.cell hS.1 (hW.tl 0 (by decide))), hS.next (grown_refl w) rfl⟩
  · exact ⟨_, _, w, rfl, rfl, rfl, ex_move (hF.evalLow (by decide) h6), hS.next (grown_refl w) rfl⟩
  · exact ⟨_, _, w, rfl, rfl, rfl, ex_index_ints (j := 2) rfl ((hF.eval (j := 9) (by decide) rfl).trans (hS.2 9 (by decide) (hafter 0 ⟨9, .data⟩ rfl rfl))) rfl (by decide), hS.next (grown_refl w) rfl⟩
  · exact ⟨_, _, w, rfl, rfl, rfl, ex_load_int ((hF.eval (j := 10) (by decide) rfl).trans (hS.2 10 (by decide) (hafter 0 ⟨10, .data⟩ rfl rfl))) (EncW.cell hS.1 (hW.tl 2 (by decide))), hS.next (grown_refl w) rfl⟩
  · exact ⟨_, _, w, rfl, rfl, rfl, ex_move (hF.evalLow (by decide) h6), hS.next (grown_refl w) rfl⟩
  · exact ⟨_, _, w, rfl, rfl, rfl, ex_index_ints (j := 4) rfl ((hF.eval (j := 12) (by decide) rfl).trans (hS.2 12 (by decide) (hafter 0 ⟨12, .data⟩ rfl rfl))) rfl (by decide), hS.next (grown_refl w) rfl⟩
  · exact ⟨_, _, w, rfl, rfl, rfl, ex_load_int ((hF.eval (j := 13) (by decide) rfl).trans (hS.2 13 (by decide) (hafter 0 ⟨13, .data⟩ rfl rfl))) (EncW.cell hS.1 (hW.tl 4 (by decide))), hS.next (grown_refl w) rfl⟩
  · exact ⟨_, _, _, rfl, rfl, rfl, ex_three ((hF.eval (j := 8) (by decide) rfl).trans (hS.2 8 (by decide) (hafter 0 ⟨8, .data⟩ rfl rfl))) ((hF.eval (j := 11) (by decide) rfl).trans (hS.2 11 (by decide) (hafter 1 ⟨11, .data⟩ rfl rfl))) ((hF.eval (j := 14) (by decide) rfl).trans (hS.2 14 (by decide) (hafter 2 ⟨14, .data⟩ rfl rfl))), hS.next (World.grownBy_alloc w _ none) ⟨w.heap.size, rfl, World.alloc_heap_new w _⟩⟩
  · obtain ⟨g, hv, hgc⟩ := (hS.2 15 (by decide) (hafter 1 ⟨15, .data⟩ rfl rfl))
    obtain ⟨val, w', hrun, hR, hg⟩ := ex_append (H := H) (dst := some 40) (pos := _) (after := _) (guard := none) ((hF.eval (j := 5) (by decide) rfl).trans (hS.2 5 (by decide) (hafter 0 ⟨5, .data⟩ rfl rfl))) ((hF.eval (j := 15) (by decide) rfl).trans hv) (hW.strm hS.1 (s := 0) (by decide)) (by omega) (by omega) hgc (Nat.le_trans hW.low hS.1.size)
    exact ⟨_, val, w', rfl, rfl, rfl, hrun, hS.next hg hR⟩
  · exact ⟨_, _, w, rfl, rfl, rfl, ex_move (hF.evalLow (by decide) h5), hS.next (grown_refl w) rfl⟩
  · exact ⟨_, _, w, rfl, rfl, rfl, ex_index_rows (j := 1) rfl ((hF.eval (j := 17) (by decide) rfl).trans (hS.2 17 (by decide) (hafter 0 ⟨17, .data⟩ rfl rfl))) rfl (by decide), hS.next (grown_refl w) rfl⟩
  · exact ⟨_, _, w, rfl, rfl, rfl, ex_load_ints ((hF.eval (j := 18) (by decide) rfl).trans (hS.2 18 (by decide) (hafter 0 ⟨18, .data⟩ rfl rfl))) (hW.head hS.1 (s := 1) (by decide)), hS.next (grown_refl w) rfl⟩
  · exact ⟨_, _, w, rfl, rfl, rfl, ex_move (hF.evalLow (by decide) h0), hS.next (grown_refl w) rfl⟩
  · exact ⟨_, _, w, rfl, rfl, rfl, ex_move (hF.evalLow (by decide) h0), hS.next (grown_refl w) rfl⟩
  · exact ⟨_, _, w, rfl, rfl, rfl, ex_cut ((hF.eval (j := 19) (by decide) rfl).trans (hS.2 19 (by decide) (hafter 0 ⟨19, .data⟩ rfl rfl))) ((hF.eval (j := 20) (by decide) rfl).trans (hS.2 20 (by decide) (hafter 1 ⟨20, .data⟩ rfl rfl))) ((hF.eval (j := 21) (by decide) rfl).trans (hS.2 21 (by decide) (hafter 2 ⟨21, .data⟩ rfl rfl))) (by omega), hS.next (grown_refl w) rfl⟩
  · exact ⟨_, _, w, rfl, rfl, rfl, ex_move (hF.evalLow (by decide) h6), hS.next (grown_refl w) rfl⟩
  · exact ⟨_, _, w, rfl, rfl, rfl, ex_index_ints (j := 1) rfl ((hF.eval (j := 23) (by decide) rfl).trans (hS.2 23 (by decide) (hafter 0 ⟨23, .data⟩ rfl rfl))) rfl (by decide), hS.next (grown_refl w) rfl⟩
  · exact ⟨_, _, w, rfl, rfl, rfl, ex_load_int ((hF.eval (j := 24) (by decide) rfl).trans (hS.2 24 (by decide) (hafter 0 ⟨24, .data⟩ rfl rfl))) (EncW.cell hS.1 (hW.tl 1 (by decide))), hS.next (grown_refl w) rfl⟩
  · exact ⟨_, _, w, rfl, rfl, rfl, ex_move (hF.evalLow (by decide) h6), hS.next (grown_refl w) rfl⟩
  · exact ⟨_, _, w, rfl, rfl, rfl, ex_index_ints (j := 3) rfl ((hF.eval (j := 26) (by decide) rfl).trans (hS.2 26 (by decide) (hafter 0 ⟨26, .data⟩ rfl rfl))) rfl (by decide), hS.next (grown_refl w) rfl⟩
  · exact ⟨_, _, w, rfl, rfl, rfl, ex_load_int ((hF.eval (j := 27) (by decide) rfl).trans (hS.2 27 (by decide) (hafter 0 ⟨27, .data⟩ rfl rfl))) (EncW.cell hS.1 (hW.tl 3 (by decide))), hS.next (grown_refl w) rfl⟩
  · exact ⟨_, _, w, rfl, rfl, rfl, ex_move (hF.evalLow (by decide) h6), hS.next (grown_refl w) rfl⟩
  · exact ⟨_, _, w, rfl, rfl, rfl, ex_index_ints (j := 5) rfl ((hF.eval (j := 29) (by decide) rfl).trans (hS.2 29 (by decide) (hafter 0 ⟨29, .data⟩ rfl rfl))) rfl (by decide), hS.next (grown_refl w) rfl⟩
  · exact ⟨_, _, w, rfl, rfl, rfl, ex_load_int ((hF.eval (j := 30) (by decide) rfl).trans (hS.2 30 (by decide) (hafter 0 ⟨30, .data⟩ rfl rfl))) (EncW.cell hS.1 (hW.tl 5 (by decide))), hS.next (grown_refl w) rfl⟩
  · exact ⟨_, _, _, rfl, rfl, rfl, ex_three ((hF.eval (j := 25) (by decide) rfl).trans (hS.2 25 (by decide) (hafter 0 ⟨25, .data⟩ rfl rfl))) ((hF.eval (j := 28) (by decide) rfl).trans (hS.2 28 (by decide) (hafter 1 ⟨28, .data⟩ rfl rfl))) ((hF.eval (j := 31) (by decide) rfl).trans (hS.2 31 (by decide) (hafter 2 ⟨31, .data⟩ rfl rfl))), hS.next (World.grownBy_alloc w _ none) ⟨w.heap.size, rfl, World.alloc_heap_new w _⟩⟩
  · obtain ⟨g, hv, hgc⟩ := (hS.2 32 (by decide) (hafter 1 ⟨32, .data⟩ rfl rfl))
    obtain ⟨val, w', hrun, hR, hg⟩ := ex_append (H := H) (dst := some 57) (pos := _) (after := _) (guard := none) ((hF.eval (j := 22) (by decide) rfl).trans (hS.2 22 (by decide) (hafter 0 ⟨22, .data⟩ rfl rfl))) ((hF.eval (j := 32) (by decide) rfl).trans hv) (hW.strm hS.1 (s := 1) (by decide)) (by omega) (by omega) hgc (Nat.le_trans hW.low hS.1.size)
    exact ⟨_, val, w', rfl, rfl, rfl, hrun, hS.next hg hR⟩
  · obtain ⟨A1, c1, e1, r1⟩ := (hS.2 16 (by decide) (hafter 0 ⟨16, .data⟩ rfl rfl))
    obtain ⟨A2, c2, e2, r2⟩ := (hS.2 33 (by decide) (hafter 1 ⟨33, .data⟩ rfl rfl))
    exact ⟨_, _, w, rfl, rfl, rfl, ex_build2 ((hF.eval (j := 16) (by decide) rfl).trans e1) ((hF.eval (j := 33) (by decide) rfl).trans e2), hS.next (grown_refl w) ⟨_, _, rfl, ⟨A1, c1, rfl, r1⟩, ⟨A2, c2, rfl, r2⟩⟩⟩
  · exact ⟨_, _, w, rfl, rfl, rfl, ex_move (hF.evalLow (by decide) h7), hS.next (grown_refl w) rfl⟩
  · exact ⟨_, _, w, rfl, rfl, rfl, ex_move (hF.evalLow (by decide) h0), hS.next (grown_refl w) rfl⟩
  · exact ⟨_, _, w, rfl, rfl, rfl, ex_move (hF.evalLow (by decide) h0), hS.next (grown_refl w) rfl⟩
  · exact ⟨_, _, w, rfl, rfl, rfl, ex_cut ((hF.eval (j := 35) (by decide) rfl).trans (hS.2 35 (by decide) (hafter 0 ⟨35, .data⟩ rfl rfl))) ((hF.eval (j := 36) (by decide) rfl).trans (hS.2 36 (by decide) (hafter 1 ⟨36, .data⟩ rfl rfl))) ((hF.eval (j := 37) (by decide) rfl).trans (hS.2 37 (by decide) (hafter 2 ⟨37, .data⟩ rfl rfl))) hW.cap, hS.next (grown_refl w) rfl⟩
  · exact ⟨_, _, w, rfl, rfl, rfl, ex_move (hF.evalLow (by decide) h6), hS.next (grown_refl w) rfl⟩
  · exact ⟨_, _, w, rfl, rfl, rfl, ex_index_ints (j := 6) rfl ((hF.eval (j := 39) (by decide) rfl).trans (hS.2 39 (by decide) (hafter 0 ⟨39, .data⟩ rfl rfl))) rfl (by decide), hS.next (grown_refl w) rfl⟩
  · exact ⟨_, _, w, rfl, rfl, rfl, ex_load_int ((hF.eval (j := 40) (by decide) rfl).trans (hS.2 40 (by decide) (hafter 0 ⟨40, .data⟩ rfl rfl))) (EncW.cell hS.1 (hW.tl 6 (by decide))), hS.next (grown_refl w) rfl⟩
  · exact ⟨_, _, w, rfl, rfl, rfl, ex_move (hF.evalLow (by decide) h6), hS.next (grown_refl w) rfl⟩
  · exact ⟨_, _, w, rfl, rfl, rfl, ex_index_ints (j := 8) rfl ((hF.eval (j := 42) (by decide) rfl).trans (hS.2 42 (by decide) (hafter 0 ⟨42, .data⟩ rfl rfl))) rfl (by decide), hS.next (grown_refl w) rfl⟩
  · exact ⟨_, _, w, rfl, rfl, rfl, ex_load_int ((hF.eval (j := 43) (by decide) rfl).trans (hS.2 43 (by decide) (hafter 0 ⟨43, .data⟩ rfl rfl))) (EncW.cell hS.1 (hW.tl 8 (by decide))), hS.next (grown_refl w) rfl⟩
  · exact ⟨_, _, w, rfl, rfl, rfl, ex_move (hF.evalLow (by decide) h6), hS.next (grown_refl w) rfl⟩
  · exact ⟨_, _, w, rfl, rfl, rfl, ex_index_ints (j := 10) rfl ((hF.eval (j := 45) (by decide) rfl).trans (hS.2 45 (by decide) (hafter 0 ⟨45, .data⟩ rfl rfl))) rfl (by decide), hS.next (grown_refl w) rfl⟩
  · exact ⟨_, _, w, rfl, rfl, rfl, ex_load_int ((hF.eval (j := 46) (by decide) rfl).trans (hS.2 46 (by decide) (hafter 0 ⟨46, .data⟩ rfl rfl))) (EncW.cell hS.1 (hW.tl 10 (by decide))), hS.next (grown_refl w) rfl⟩
  · exact ⟨_, _, _, rfl, rfl, rfl, ex_three ((hF.eval (j := 41) (by decide) rfl).trans (hS.2 41 (by decide) (hafter 0 ⟨41, .data⟩ rfl rfl))) ((hF.eval (j := 44) (by decide) rfl).trans (hS.2 44 (by decide) (hafter 1 ⟨44, .data⟩ rfl rfl))) ((hF.eval (j := 47) (by decide) rfl).trans (hS.2 47 (by decide) (hafter 2 ⟨47, .data⟩ rfl rfl))), hS.next (World.grownBy_alloc w _ none) ⟨w.heap.size, rfl, World.alloc_heap_new w _⟩⟩
  · obtain ⟨g, hv, hgc⟩ := (hS.2 48 (by decide) (hafter 1 ⟨48, .data⟩ rfl rfl))
    obtain ⟨val, w', hrun, hR, hg⟩ := ex_append (H := H) (dst := some 73) (pos := _) (after := _) (guard := none) ((hF.eval (j := 38) (by decide) rfl).trans (hS.2 38 (by decide) (hafter 0 ⟨38, .data⟩ rfl rfl))) ((hF.eval (j := 48) (by decide) rfl).trans hv) (hW.order hS.1) (by omega) (by omega) hgc (Nat.le_trans hW.low hS.1.size)
    exact ⟨_, val, w', rfl, rfl, rfl, hrun, hS.next hg hR⟩
  · exact ⟨_, _, w, rfl, rfl, rfl, ex_move (hF.evalLow (by decide) h5), hS.next (grown_refl w) rfl⟩
  · exact ⟨_, _, w, rfl, rfl, rfl, ex_index_rows (j := 2) rfl ((hF.eval (j := 50) (by decide) rfl).trans (hS.2 50 (by decide) (hafter 0 ⟨50, .data⟩ rfl rfl))) rfl (by decide), hS.next (grown_refl w) rfl⟩
  · exact ⟨_, _, w, rfl, rfl, rfl, ex_load_ints ((hF.eval (j := 51) (by decide) rfl).trans (hS.2 51 (by decide) (hafter 0 ⟨51, .data⟩ rfl rfl))) (hW.head hS.1 (s := 2) (by decide)), hS.next (grown_refl w) rfl⟩
  · exact ⟨_, _, w, rfl, rfl, rfl, ex_move (hF.evalLow (by decide) h0), hS.next (grown_refl w) rfl⟩
  · exact ⟨_, _, w, rfl, rfl, rfl, ex_move (hF.evalLow (by decide) h0), hS.next (grown_refl w) rfl⟩
  · exact ⟨_, _, w, rfl, rfl, rfl, ex_cut ((hF.eval (j := 52) (by decide) rfl).trans (hS.2 52 (by decide) (hafter 0 ⟨52, .data⟩ rfl rfl))) ((hF.eval (j := 53) (by decide) rfl).trans (hS.2 53 (by decide) (hafter 1 ⟨53, .data⟩ rfl rfl))) ((hF.eval (j := 54) (by decide) rfl).trans (hS.2 54 (by decide) (hafter 2 ⟨54, .data⟩ rfl rfl))) (by omega), hS.next (grown_refl w) rfl⟩
  · exact ⟨_, _, w, rfl, rfl, rfl, ex_move (hF.evalLow (by decide) h6), hS.next (grown_refl w) rfl⟩
  · exact ⟨_, _, w, rfl, rfl, rfl, ex_index_ints (j := 7) rfl ((hF.eval (j := 56) (by decide) rfl).trans (hS.2 56 (by decide) (hafter 0 ⟨56, .data⟩ rfl rfl))) rfl (by decide), hS.next (grown_refl w) rfl⟩
  · exact ⟨_, _, w, rfl, rfl, rfl, ex_load_int ((hF.eval (j := 57) (by decide) rfl).trans (hS.2 57 (by decide) (hafter 0 ⟨57, .data⟩ rfl rfl))) (EncW.cell hS.1 (hW.tl 7 (by decide))), hS.next (grown_refl w) rfl⟩
  · exact ⟨_, _, w, rfl, rfl, rfl, ex_move (hF.evalLow (by decide) h6), hS.next (grown_refl w) rfl⟩
  · exact ⟨_, _, w, rfl, rfl, rfl, ex_index_ints (j := 9) rfl ((hF.eval (j := 59) (by decide) rfl).trans (hS.2 59 (by decide) (hafter 0 ⟨59, .data⟩ rfl rfl))) rfl (by decide), hS.next (grown_refl w) rfl⟩
  · exact ⟨_, _, w, rfl, rfl, rfl, ex_load_int ((hF.eval (j := 60) (by decide) rfl).trans (hS.2 60 (by decide) (hafter 0 ⟨60, .data⟩ rfl rfl))) (EncW.cell hS.1 (hW.tl 9 (by decide))), hS.next (grown_refl w) rfl⟩
  · exact ⟨_, _, w, rfl, rfl, rfl, ex_move (hF.evalLow (by decide) h6), hS.next (grown_refl w) rfl⟩
  · exact ⟨_, _, w, rfl, rfl, rfl, ex_index_ints (j := 11) rfl ((hF.eval (j := 62) (by decide) rfl).trans (hS.2 62 (by decide) (hafter 0 ⟨62, .data⟩ rfl rfl))) rfl (by decide), hS.next (grown_refl w) rfl⟩
  · exact ⟨_, _, w, rfl, rfl, rfl, ex_load_int ((hF.eval (j := 63) (by decide) rfl).trans (hS.2 63 (by decide) (hafter 0 ⟨63, .data⟩ rfl rfl))) (EncW.cell hS.1 (hW.tl 11 (by decide))), hS.next (grown_refl w) rfl⟩
  · exact ⟨_, _, _, rfl, rfl, rfl, ex_three ((hF.eval (j := 58) (by decide) rfl).trans (hS.2 58 (by decide) (hafter 0 ⟨58, .data⟩ rfl rfl))) ((hF.eval (j := 61) (by decide) rfl).trans (hS.2 61 (by decide) (hafter 1 ⟨61, .data⟩ rfl rfl))) ((hF.eval (j := 64) (by decide) rfl).trans (hS.2 64 (by decide) (hafter 2 ⟨64, .data⟩ rfl rfl))), hS.next (World.grownBy_alloc w _ none) ⟨w.heap.size, rfl, World.alloc_heap_new w _⟩⟩
  · obtain ⟨g, hv, hgc⟩ := (hS.2 65 (by decide) (hafter 1 ⟨65, .data⟩ rfl rfl))
    obtain ⟨val, w', hrun, hR, hg⟩ := ex_append (H := H) (dst := some 90) (pos := _) (after := _) (guard := none) ((hF.eval (j := 55) (by decide) rfl).trans (hS.2 55 (by decide) (hafter 0 ⟨55, .data⟩ rfl rfl))) ((hF.eval (j := 65) (by decide) rfl).trans hv) (hW.strm hS.1 (s := 2) (by decide)) (by omega) (by omega) hgc (Nat.le_trans hW.low hS.1.size)
    exact ⟨_, val, w', rfl, rfl, rfl, hrun, hS.next hg hR⟩
  · obtain ⟨A1, c1, e1, r1⟩ := (hS.2 49 (by decide) (hafter 0 ⟨49, .data⟩ rfl rfl))
    obtain ⟨A2, c2, e2, r2⟩ := (hS.2 66 (by decide) (hafter 1 ⟨66, .data⟩ rfl rfl))
    exact ⟨_, _, w, rfl, rfl, rfl, ex_build2 ((hF.eval (j := 49) (by decide) rfl).trans e1) ((hF.eval (j := 66) (by decide) rfl).trans e2), hS.next (grown_refl w) ⟨_, _, rfl, ⟨A1, c1, rfl, r1⟩, ⟨A2, c2, rfl, r2⟩⟩⟩
  · obtain ⟨x, y, e1, r1, r2⟩ := (hS.2 34 (by decide) (hafter 0 ⟨34, .data⟩ rfl rfl))
    obtain ⟨x2, y2, e2, r3, r4⟩ := (hS.2 67 (by decide) (hafter 1 ⟨67, .data⟩ rfl rfl))
    exact ⟨_, _, w, rfl, rfl, rfl, ex_build6 ((hF.eval (j := 34) (by decide) rfl).trans e1) ((hF.eval (j := 67) (by decide) rfl).trans e2), hS.next (grown_refl w) ⟨x, y, x2, y2, rfl, r1, r2, r3, r4⟩⟩
end

/-! ### encoders. -/
section
set_option maxRecDepth 100000
open Go.RowKit

theorem encOps_size : encOps.size = 70 := by kernel_rfl
theorem encOps_rd : readyB encOps 69 = true := by kernel_rfl
theorem encOps_last : ((encOps[69]?).map fun o => (List.range 69).all fun j => o.after.any fun e => Region.binds .any e && (e.on == j)) = some true := by kernel_rfl
theorem encOps_ready : Region.ready .any encOps (Array.replicate 69 true ++ Array.replicate (encOps.size - 69) false) = [69] := by kernel_rfl
theorem encOps_done : Region.ready .any encOps ((Array.replicate 69 true ++ Array.replicate (encOps.size - 69) false).setIfInBounds 69 true) = [] := by kernel_rfl
/-- Block B holds six cells. -/
def Six (w : World) (B : Nat) (t : TypeId) (a b c d e f : Value) : Prop := w.heap[B]? = some (.cells #[a, b, c, d, e, f] t)
section
variable {w : World} {B : Nat} {t : TypeId} {a b c d e f : Value}
theorem Six.cell (h : Six w B t a b c d e f) (j : Nat) : w.cell? ⟨B, j, none⟩ = #[a, b, c, d, e, f][j]? := by simp [World.cell?, show w.heap[B]? = _ from h]
theorem Six.frozen (h : Six w B t a b c d e f) (j : Nat) : w.frozen? ⟨B, j, none⟩ = false := by simp [World.frozen?, show w.heap[B]? = _ from h]
def put6 (w : World) (B : Nat) (x0 x1 x2 x3 x4 x5 : Value) : World := (((((w.setCell ⟨B, 0, none⟩ x0).setCell ⟨B, 1, none⟩ x1).setCell ⟨B, 2, none⟩ x2).setCell ⟨B, 3, none⟩ x3).setCell ⟨B, 4, none⟩ x4).setCell ⟨B, 5, none⟩ x5
theorem Six.put (h : Six w B t a b c d e f) (x0 x1 x2 x3 x4 x5 : Value) : Six (put6 w B x0 x1 x2 x3 x4 x5) B t x0 x1 x2 x3 x4 x5 := arr_set (arr_set (arr_set (arr_set (arr_set (arr_set h)))))
theorem put6_grown (w : World) (B : Nat) (x0 x1 x2 x3 x4 x5 : Value) : w.grownBy (put6 w B x0 x1 x2 x3 x4 x5) (some B) := by
  have g := fun (W : World) (j : Nat) (v : Value) => grownBy_setCell_at W ⟨B, j, none⟩ v
  exact grown_same (grown_same (grown_same (grown_same (grown_same (g _ 0 x0) (g _ 1 x1)) (g _ 2 x2)) (g _ 3 x3)) (g _ 4 x4)) (g _ 5 x5)
theorem ex_store6 {ρ : Operand → Value} {x y : Operand} {dst : Option Tmp} {ty : TypeId} {pos : String} {after : Array Edge} {guard : Option (Nat × Bool)} {k k' : Int} {A1 A2 A3 A4 : Option Addr} {n1 n2 n3 n4 c1 c2 c3 c4 : Nat} (h : Six w B t a b c d e f) (hx : ρ x = .pointer (some ⟨B, 0, none⟩)) (hy : ρ y = .agg #[.int .i64 k, .slice A1 n1 c1, .slice A2 n2 c2, .int .i64 k', .slice A3 n3 c3, .slice A4 n4 c4]) :
    (execOp ρ { dst := dst, op := .store 74 x y, type := ty, pos := pos, after := after, guard := guard }).run Tryd.prog w = .ok .skip (put6 w B (.int .i64 k) (.slice A1 n1 c1) (.slice A2 n2 c2) (.int .i64 k') (.slice A3 n3 c3) (.slice A4 n4 c4)) := by
  have q0 := h.cell 0
  have q1 := h.cell 1
  have q2 := h.cell 2
  have q3 := h.cell 3
  have q4 := h.cell 4
  have q5 := h.cell 5
  have f0 := h.frozen 0
  have f1 := h.frozen 1
  have f2 := h.frozen 2
  have f3 := h.frozen 3
  have f4 := h.frozen 4
  have f5 := h.frozen 5
  simp only [List.getElem?_toArray, List.getElem?_cons_zero, List.getElem?_cons_succ] at q0 q1 q2 q3 q4 q5
  simp [execOp, hx, hy, go_sem, q0, q1, q2, q3, q4, q5, f0, f1, f2, f3, f4, f5, put6]
end
theorem enc_results {W : World} {tmps : Array Value} {B : Nat} {a b c d e f : Value} {t : TypeId} (h2 : tmps.getD 2 undef = .pointer (some ⟨B, 0, none⟩)) (hL : Six W B t a b c d e f) :
    (results Tryd.f40 tmps).run Tryd.prog W = .ok (.agg #[a, b, c, d, e, f]) W := by
  have q0 := hL.cell 0
  have q1 := hL.cell 1
  have q2 := hL.cell 2
  have q3 := hL.cell 3
  have q4 := hL.cell 4
  have q5 := hL.cell 5
  simp only [List.getElem?_toArray, List.getElem?_cons_zero, List.getElem?_cons_succ] at q0 q1 q2 q3 q4 q5
  simp only [Array.getD_eq_getD_getElem?] at h2
  simp [results, Tryd.results40, go_sem, h2, q0, q1, q2, q3, q4, q5]
end

/-! ### encoders, the whole. -/
section
set_option maxRecDepth 100000
open Go.RowKit

/-- The encoders' lists. -/
def EncL (H k : Nat) (x1 y1 x2 y2 : Value) (w : World) : Prop := NewI H (k + 3) (sysL k 1 (k + 3)) x1 w ∧ NewI H (k + 3) (parLay k 1 (k + 3)) y1 w ∧ NewI H (k + 3) (sysL k 2 (k + 3)) x2 w ∧ NewI H (k + 3) (parLay k 2 (k + 3)) y2 w
def RetEnc (w : World) (k : Nat) (e : Ending) (w' : World) : Prop := ∃ x1 y1 x2 y2, e = .returned (.agg #[.int .i64 0, x1, y1, .int .i64 0, x2, y2]) ∧ EncL w.heap.size k x1 y1 x2 y2 w' ∧ Below w.heap.size w w'
theorem NewI.keep {H k : Nat} {xs : List Int} {v : Value} {w w' : World} (h : NewI H k xs v w) (hk : ∀ b, H ≤ b → b < w.heap.size → w'.heap[b]? = w.heap[b]?) (hs : w.heap.size ≤ w'.heap.size) : NewI H k xs v w' := by
  obtain ⟨A, c, e, h1, h2⟩ := h
  refine ⟨A, c, e, ⟨h1.len, fun j hj => ?_⟩, h2⟩
  obtain ⟨b, off, ea, hb, hc⟩ := h1.cells j hj
  exact ⟨b, off, ea, Nat.lt_of_lt_of_le hb hs, (World.cell?_of_block (hk b (h2.1 _ ea) hb)).trans hc⟩
theorem NewI.low {H H' k : Nat} {xs : List Int} {v : Value} {w : World} (h : NewI H k xs v w) (hH : H' ≤ H) : NewI H' k xs v w := by
  obtain ⟨A, c, e, h1, h2⟩ := h
  exact ⟨A, c, e, h1, fun a ha => Nat.le_trans hH (h2.1 a ha), h2.2⟩
theorem tailF_at {k i x : Nat} (h : tailAt k i = x) : tailF k i = ((x : Nat) : Int) := by unfold tailF; rw [h]
theorem lists_eq (k : Nat) : strL k 0 ++ [tailF k 0, tailF k 2, tailF k 4] = sysL k 1 (k + 3) ∧ strL k 1 ++ [tailF k 1, tailF k 3, tailF k 5] = parLay k 1 (k + 3) ∧
    ordI k k ++ [tailF k 6, tailF k 8, tailF k 10] = sysL k 2 (k + 3) ∧ strL k 2 ++ [tailF k 7, tailF k 9, tailF k 11] = parLay k 2 (k + 3) := by
  have h0 : strL k 0 = sysL k 1 k := by
    rw [sysL_one]
    unfold strL
    exact List.map_congr_left fun i _ => by rw [Nat.zero_mul, Nat.zero_add]
  have h1 : strL k 1 = parLay k 1 k := by rw [parLay_k]; rfl
  have h2 : strL k 2 = parLay k 2 k := by rw [parLay_k]; rfl
  rw [sysL_three, sysL_three, parLay_three, parLay_three, h0, h1, h2, sysL_two]
  refine ⟨?_, ?_, ?_, ?_⟩
  · rw [tailF_at (k := k) (i := 0) (x := k + 2 * (1 - 1)) (by unfold tailAt; omega), tailF_at (k := k) (i := 2) (x := 2 * (k + 4) + (k + 2 * (1 - 1))) (by unfold tailAt; omega), tailF_at (k := k) (i := 4) (x := (k + 4) + (k + 2 * (1 - 1)) + 1) (by unfold tailAt; omega)]
  · rw [tailF_at (k := k) (i := 1) (x := (k + 4) + (k + 2 * (1 - 1))) (by unfold tailAt; omega), tailF_at (k := k) (i := 3) (x := k + 2 * (1 - 1) + 1) (by unfold tailAt; omega), tailF_at (k := k) (i := 5) (x := 2 * (k + 4) + (k + 2 * (1 - 1)) + 1) (by unfold tailAt; omega)]
  · rw [tailF_at (k := k) (i := 6) (x := k + 2 * (2 - 1)) (by unfold tailAt; omega), tailF_at (k := k) (i := 8) (x := 2 * (k + 4) + (k + 2 * (2 - 1))) (by unfold tailAt; omega), tailF_at (k := k) (i := 10) (x := (k + 4) + (k + 2 * (2 - 1)) + 1) (by unfold tailAt; omega)]
  · rw [tailF_at (k := k) (i := 7) (x := (k + 4) + (k + 2 * (2 - 1))) (by unfold tailAt; omega), tailF_at (k := k) (i := 9) (x := k + 2 * (2 - 1) + 1) (by unfold tailAt; omega), tailF_at (k := k) (i := 11) (x := 2 * (k + 4) + (k + 2 * (2 - 1)) + 1) (by unfold tailAt; omega)]
set_option maxHeartbeats 4000000 in
theorem encoders_any {k : Nat} {w : World} (hK : Kinds w) (hs : IsSize k) :
    Calls Tryd.prog 40 #[.int .i64 (k : Int)] w (RetEnc w k) := by
  have hk := size_le hs
  have hmf := makeFunc_run
  have hL1 := Lib.hid (fun (u : World) => listIdx_any (n := 3 * (k + 4)) (w := u) (by omega))
  have e3 : ((3 * (k + 4) : Nat) : Int) = 3 * ((k : Int) + 4) := by omega
  rw [e3] at hL1
  have hL2 := Lib.hid (fun (u : World) (I C D : Nat) h1 h2 => listRows_any (I := I) (C := C) (D := D) (n := k + 4) (w := u) (by omega) (by omega) h1 h2)
  have hTl := Lib.hid (fun (u : World) (S I : Nat) h1 h2 h3 => tails_any (S := S) (I := I) (k := k) (w := u) h1 h2 h3 hk.2)
  have hO := Lib.hid (fun (u : World) (h : Kinds u) => Order_any (k := (k : Int)) h)
  rw [orderS_size hs] at hO
  have b40 : (40 : Int) ≤ (k : Int) := by omega
  have b61 : (k : Int) ≤ 6144 := by omega
  have HK := Lib.hid hK
  have HS := Lib.hid hs
  clear hK hs e3
  go_enter Tryd.func40, Tryd.ntmps40
  go_wp2_with fail
  have e4 : ((k + 4 : Nat) : Int) = (k : Int) + 4 := by omega
  rw [e4] at hL2
  have q1 : Six ((w.alloc (.cells #[.int .i64 0, .slice none 0 0, .slice none 0 0, .int .i64 0, .slice none 0 0, .slice none 0 0] 74)).alloc (.cells #[.int .i64 ((k : Int) + 4)] 3)) w.heap.size 74 (.int .i64 0) (.slice none 0 0) (.slice none 0 0) (.int .i64 0) (.slice none 0 0) (.slice none 0 0) := heap_old (World.alloc_heap_new w _)
  have n1 := Boxed.new (w.alloc (.cells #[.int .i64 0, .slice none 0 0, .slice none 0 0, .int .i64 0, .slice none 0 0, .slice none 0 0] 74)) 3 (.int .i64 ((k : Int) + 4))
  rw [World.size_alloc] at n1
  have hb1 : Below w.heap.size w ((w.alloc (.cells #[.int .i64 0, .slice none 0 0, .slice none 0 0, .int .i64 0, .slice none 0 0, .slice none 0 0] 74)).alloc (.cells #[.int .i64 ((k : Int) + 4)] 3)) := below_two _ _
  have s1 : ((w.alloc (.cells #[.int .i64 0, .slice none 0 0, .slice none 0 0, .int .i64 0, .slice none 0 0, .slice none 0 0] 74)).alloc (.cells #[.int .i64 ((k : Int) + 4)] 3)).heap.size = w.heap.size + 2 := by simp
  generalize (w.alloc (.cells #[.int .i64 0, .slice none 0 0, .slice none 0 0, .int .i64 0, .slice none 0 0, .slice none 0 0] 74)).alloc (.cells #[.int .i64 ((k : Int) + 4)] 3) = W1 at *
  refine (hL1.out _).mono ?_
  rintro e w2 ⟨rfl, ho2, hb2⟩
  rw [s1] at ho2 hb2 ⊢
  have hsz2 := hb2.size
  rw [s1] at hsz2
  have q2 : Six w2 w.heap.size 74 (.int .i64 0) (.slice none 0 0) (.slice none 0 0) (.int .i64 0) (.slice none 0 0) (.slice none 0 0) := (hb2.block _ (by omega)).trans q1
  have n2 := Boxed.below n1 hb2 (by omega)
  have hb12 := hb1.trans (hb2.mono (by omega))
  have i2 : ∀ j, j < 3 * (k + 4) → w2.cell? ⟨w.heap.size + 2, j, none⟩ = some (.int .i64 (j : Int)) := fun j hj => by
    obtain ⟨b, off, ea, _, hc⟩ := (Rd.of_own ho2).cells j hj
    injection ea with ea
    injection ea with ea eb
    subst ea eb
    rw [Nat.zero_add] at hc
    rw [hc]
    simp [fillL, hj]
  have l2 : w.heap.size + 2 < w2.heap.size := by
    have := (ho2.lt (w.heap.size + 2) rfl).2
    exact this
  have I2 := Lib.hid i2
  clear q1 n1 hb1 hb2 ho2 hL1 i2 s1
  go_wp2_with fail
  have cb := Boxed.new w2 36 (.slice (some ⟨w.heap.size + 2, 0, none⟩) (3 * (k + 4)) (3 * (k + 4)))
  have n3 := n2.alloc (.cells #[.slice (some ⟨w.heap.size + 2, 0, none⟩) (3 * (k + 4)) (3 * (k + 4))] 36)
  have q3 : Six (w2.alloc (.cells #[.slice (some ⟨w.heap.size + 2, 0, none⟩) (3 * (k + 4)) (3 * (k + 4))] 36)) w.heap.size 74 (.int .i64 0) (.slice none 0 0) (.slice none 0 0) (.int .i64 0) (.slice none 0 0) (.slice none 0 0) := heap_old q2
  have hb3 := hb12.alloc hb12.size (.cells #[.slice (some ⟨w.heap.size + 2, 0, none⟩) (3 * (k + 4)) (3 * (k + 4))] 36)
  have I3 : Hid (∀ j, j < 3 * (k + 4) → (w2.alloc (.cells #[.slice (some ⟨w.heap.size + 2, 0, none⟩) (3 * (k + 4)) (3 * (k + 4))] 36)).cell? ⟨w.heap.size + 2, j, none⟩ = some (.int .i64 (j : Int))) := Lib.hid fun j hj => cell_new _ (I2.out j hj)
  have s3 : (w2.alloc (.cells #[.slice (some ⟨w.heap.size + 2, 0, none⟩) (3 * (k + 4)) (3 * (k + 4))] 36)).heap.size = w2.heap.size + 1 := by simp
  generalize w2.alloc (.cells #[.slice (some ⟨w.heap.size + 2, 0, none⟩) (3 * (k + 4)) (3 * (k + 4))] 36) = W3 at *
  refine (hL2.out _ _ _ _ cb n3).mono ?_
  rintro e w4 ⟨rfl, hr4, hb4⟩
  rw [s3] at hr4 hb4 ⊢
  have q4 : Six w4 w.heap.size 74 (.int .i64 0) (.slice none 0 0) (.slice none 0 0) (.int .i64 0) (.slice none 0 0) (.slice none 0 0) := (hb4.block _ (by omega)).trans q3
  have hb04 := hb3.trans (hb4.mono (by omega))
  have I4 : Hid (∀ j, j < 3 * (k + 4) → w4.cell? ⟨w.heap.size + 2, j, none⟩ = some (.int .i64 (j : Int))) := Lib.hid fun j hj => (hb4.cell (p := ⟨w.heap.size + 2, j, none⟩) (show w.heap.size + 2 < w2.heap.size + 1 by omega)).trans (I3.out j hj)
  have hs4 := hr4.lt
  clear cb n3 q3 hb3 I3 s3 hb4 hL2 hb12 q2 n2 I2
  go_wp2_with fail
  refine (hTl.out _ _ _ hr4 I4.out (by omega)).mono ?_
  rintro e w5 ⟨rfl, ho5, hb5⟩
  have q5 : Six w5 w.heap.size 74 (.int .i64 0) (.slice none 0 0) (.slice none 0 0) (.int .i64 0) (.slice none 0 0) (.slice none 0 0) := (hb5.block _ (by omega)).trans q4
  have hr5 := hr4.below hb5 hs4
  have I5 : Hid (∀ j, j < 3 * (k + 4) → w5.cell? ⟨w.heap.size + 2, j, none⟩ = some (.int .i64 (j : Int))) := Lib.hid fun j hj => (hb5.cell (p := ⟨w.heap.size + 2, j, none⟩) (show w.heap.size + 2 < w4.heap.size by omega)).trans (I4.out j hj)
  have hb05 := hb04.trans (hb5.mono hb04.size)
  have hsz5 := hb5.size
  have T5 : Hid (∀ i, i < 12 → w5.cell? ⟨w4.heap.size + 2, i, none⟩ = some (.int .i64 (tailF k i))) := Lib.hid fun i hi => by
    obtain ⟨b, off, ea, _, hc⟩ := (Rd.of_own ho5).cells i hi
    injection ea with ea
    injection ea with ea eb
    subst ea eb
    rw [Nat.zero_add] at hc
    rw [hc]
    simp [fillL, hi]
  have ht5 : w4.heap.size + 2 < w5.heap.size := (ho5.lt (w4.heap.size + 2) rfl).2
  have hK5 := HK.out.step hb05
  clear hr4 I4 q4 hb04 hb5 ho5 hTl
  go_wp2_with fail
  refine (hO.out _ hK5).mono ?_
  rintro e w6 ⟨A, c, rfl, ho6, hb6⟩
  have hol := ordI_length k k
  simp only [hol] at ho6 ⊢
  have hsz6 := hb6.size
  have q6 : Six w6 w.heap.size 74 (.int .i64 0) (.slice none 0 0) (.slice none 0 0) (.int .i64 0) (.slice none 0 0) (.slice none 0 0) := (hb6.block _ (by omega)).trans q5
  have hr6 := hr5.below hb6 (by omega)
  have I6 : Hid (∀ j, j < 3 * (k + 4) → w6.cell? ⟨w.heap.size + 2, j, none⟩ = some (.int .i64 (j : Int))) := Lib.hid fun j hj => (hb6.cell (p := ⟨w.heap.size + 2, j, none⟩) (show w.heap.size + 2 < w5.heap.size by omega)).trans (I5.out j hj)
  have T6 : Hid (∀ i, i < 12 → w6.cell? ⟨w4.heap.size + 2, i, none⟩ = some (.int .i64 (tailF k i))) := Lib.hid fun i hi => (hb6.cell (p := ⟨w4.heap.size + 2, i, none⟩) (show w4.heap.size + 2 < w5.heap.size by omega)).trans (T5.out i hi)
  have hb06 := hb05.trans (hb6.mono hb05.size)
  obtain ⟨O, cO, hv, hcO⟩ : ∃ O cO, Value.slice A k c = .slice (some ⟨O, 0, none⟩) k cO ∧ k ≤ cO := by
    rcases ho6.2 with ⟨h1, h2⟩ | ⟨g, cap, cur, h1, _, _, hle, _⟩
    · exfalso
      omega
    · exact ⟨g, cap, h1, hle⟩
  injection hv with hv1 _ hv2
  subst hv1 hv2
  have O6 : Hid (∀ j, j < k → w6.cell? ⟨O, j, none⟩ = some (.int .i64 ((ordI k k)[j]?.getD 0))) := Lib.hid fun j hj => by
    obtain ⟨b, off, ea, _, hcc⟩ := (Rd.of_own ho6).cells j hj
    injection ea with ea
    injection ea with ea eb
    subst ea eb
    rwa [Nat.zero_add] at hcc
  clear hr5 I5 q5 hb05 hb6 ho6 T5 hO hK5 hol
  go_wp2_with fail
  refine wp_region_any (by kernel_rfl) ?_
  have hEW : EncW w6.drew w6.heap.size (w2.heap.size + 1) (w.heap.size + 2) (w4.heap.size + 2) O c k := ⟨hr6.drew, fun j hj => I6.out j hj, fun i hi => T6.out i hi, fun j hj => O6.out j hj, hk, hcO, Nat.le_refl _⟩
  have q7 : Six w6.drew w.heap.size 74 (.int .i64 0) (.slice none 0 0) (.slice none 0 0) (.int .i64 0) (.slice none 0 0) (.slice none 0 0) := q6
  change wpAny Tryd.prog .any encOps _ encOps.size (Array.replicate encOps.size false) _ w6.drew
  refine wpAny_steps (N := 69) (base := 24) (by rw [encOps_size]; omega) encOps_rd (Nat.le_refl 93) ?rest (SX w6.drew w6.heap.size (w2.heap.size + 1) (w.heap.size + 2) (w4.heap.size + 2) O c k) ?step ?last (fun _ => undef) ⟨grown_refl _, fun _ _ h => by cases h⟩ ?hV
  case rest =>
    intro i o hi ho j hj
    have hi2 := (Array.getElem?_eq_some_iff.1 ho).1
    rw [encOps_size] at hi2
    obtain rfl : i = 69 := by omega
    have hl := encOps_last
    rw [ho] at hl
    simp only [Option.map_some, Option.some.injEq, List.all_eq_true, List.mem_range, Array.any_eq_true, Bool.and_eq_true, beq_iff_eq] at hl
    obtain ⟨t, ht, h1, h2⟩ := hl j hj
    exact ⟨_, Array.getElem_mem ht, h1, h2⟩
  case hV =>
    intro j hj
    have hc := lt69 hj
    rcases hc with rfl | rfl | rfl | rfl | rfl | rfl | rfl | rfl | rfl | rfl | rfl | rfl | rfl | rfl | rfl | rfl | rfl | rfl | rfl | rfl | rfl | rfl | rfl | rfl | rfl | rfl | rfl | rfl | rfl | rfl | rfl | rfl | rfl | rfl | rfl | rfl | rfl | rfl | rfl | rfl | rfl | rfl | rfl | rfl | rfl | rfl | rfl | rfl | rfl | rfl | rfl | rfl | rfl | rfl | rfl | rfl | rfl | rfl | rfl | rfl | rfl | rfl | rfl | rfl | rfl | rfl | rfl | rfl | rfl <;> rfl
  case step =>
    intro i L V a w' hi hS _ hF hafter
    exact enc_step hEW rfl rfl rfl rfl i L V a w' hi hS hF (fun t e h hb => by
      obtain ⟨o, ho, he⟩ := Option.bind_eq_some_iff.1 h
      exact hafter o ho e (Array.mem_of_getElem? he) hb)
  case last =>
    intro L V a w' hL hS hF
    rw [show encOps.size - 69 = 1 by rw [encOps_size]]
    refine wpAny_one (N := 69) encOps_ready encOps_done ?_
    obtain ⟨x1, y1, x2, y2, hv, ⟨A1, c1, rfl, r1⟩, ⟨A2, c2, rfl, r2⟩, ⟨A3, c3, rfl, r3⟩, ⟨A4, c4, rfl, r4⟩⟩ := hS.2 68 (by decide) (hL 68 (by decide))
    have q8 : Six w' w.heap.size 74 (.int .i64 0) (.slice none 0 0) (.slice none 0 0) (.int .i64 0) (.slice none 0 0) (.slice none 0 0) := heap_grown q7 hS.1
    refine wpOp_skip rfl rfl rfl (ex_store6 q8 (hF.evalLow (t := 2) (by decide) rfl) ((hF.eval (j := 68) (by decide) rfl).trans hv)) ?_
    go_wp2
    obtain ⟨l1, l2, l3, l4⟩ := lists_eq k
    rw [l1] at r1
    rw [l2] at r2
    rw [l3] at r3
    rw [l4] at r4
    have hp := put6_grown w' w.heap.size (.int .i64 0) (.slice A1 (k + 3) c1) (.slice A2 (k + 3) c2) (.int .i64 0) (.slice A3 (k + 3) c3) (.slice A4 (k + 3) c4)
    have hsz := hS.1.size
    have hsz8 : w6.heap.size ≤ w'.heap.size := hsz
    have fin : ∀ {xs : List Int} {A : Option Addr} {cc : Nat}, (Rd .i64 w' w'.heap.size A (k + 3) xs ∧ (∀ a, A = some a → w6.heap.size ≤ a.block) ∧ k + 3 ≤ cc) → NewI w.heap.size (k + 3) xs (.slice A (k + 3) cc) (put6 w' w.heap.size (.int .i64 0) (.slice A1 (k + 3) c1) (.slice A2 (k + 3) c2) (.int .i64 0) (.slice A3 (k + 3) c3) (.slice A4 (k + 3) c4)) := fun h =>
      NewI.low (H := w6.heap.size) (NewI.keep ⟨_, _, rfl, h⟩ (fun b h1 h2 => hp.block b h2 (fun e => by injection e with e; omega)) hp.size) hb06.size
    have hb8 : Below w.heap.size w w' := hb06.trans ((Below.refl _ w6).drew.grown hS.1 (by show w.heap.size ≤ w6.heap.size; exact hb06.size) (fun g e => by cases e))
    refine bodyPost_ret (enc_results (hF.low 2 (by decide)) (q8.put _ _ _ _ _ _)) hF.defers ?_
    exact ⟨_, _, _, _, rfl, ⟨fin r1, fin r2, fin r3, fin r4⟩, hb8.grown hp hb8.size (fun g e => by injection e with e; omega)⟩
end

/-! ### of, Layout, Steps. -/
section
set_option maxRecDepth 100000
open Go.RowKit

/-- Is there such a layout? -/
def lyB (k code : Int) : Bool := isB k && (decide (code = 1) || decide (code = 2))
def lyS (k code : Int) : List Int := if lyB k code then sysL k.toNat code.toNat (k.toNat + 3) else []
def lyP (k code : Int) : List Int := if lyB k code then parLay k.toNat code.toNat (k.toNat + 3) else []
def lyN (k code : Int) : Nat := if lyB k code then k.toNat + 3 else 0
def lyE (k code : Int) : Int := if lyB k code then 0 else 2
theorem lyB_ok {k code : Int} (h : lyB k code = true) : ∃ m c : Nat, k = (m : Int) ∧ code = (c : Int) ∧ IsSize m ∧ (c = 1 ∨ c = 2) := by
  unfold lyB at h
  rw [Bool.and_eq_true, Bool.or_eq_true, decide_eq_true_eq, decide_eq_true_eq] at h
  obtain ⟨m, rfl, hs⟩ := isB_ex h.1
  rcases h.2 with rfl | rfl
  · exact ⟨m, 1, rfl, rfl, hs, .inl rfl⟩
  · exact ⟨m, 2, rfl, rfl, hs, .inr rfl⟩
theorem lyB_size {m c : Nat} (hs : IsSize m) (hc : c = 1 ∨ c = 2) : lyB (m : Int) (c : Int) = true := by
  unfold lyB
  rw [isB_nat, decide_eq_true hs]
  rcases hc with rfl | rfl <;> rfl
theorem lyS_size {m c : Nat} (hs : IsSize m) (hc : c = 1 ∨ c = 2) : lyS (m : Int) (c : Int) = sysL m c (m + 3) ∧ lyP (m : Int) (c : Int) = parLay m c (m + 3) ∧ lyN (m : Int) (c : Int) = m + 3 ∧ lyE (m : Int) (c : Int) = 0 := by
  unfold lyS lyP lyN lyE
  rw [lyB_size hs hc]
  exact ⟨rfl, rfl, rfl, rfl⟩
theorem lyS_no {k c : Int} (h : lyB k c = false) : lyS k c = [] ∧ lyP k c = [] ∧ lyN k c = 0 ∧ lyE k c = 2 := by
  unfold lyS lyP lyN lyE
  rw [h]
  exact ⟨rfl, rfl, rfl, rfl⟩
theorem lyN_le (k c : Int) : lyN k c ≤ 6147 := by
  by_cases h : lyB k c = true
  · obtain ⟨m, d, rfl, rfl, hs, hd⟩ := lyB_ok h
    have := size_le hs
    rw [(lyS_size hs hd).2.2.1]
    omega
  · rw [(lyS_no (Bool.eq_false_iff.2 h)).2.2.1]
    omega
/-- An encoder of either code, or the empty one. -/
def RetOf (w : World) (k code : Int) (e : Ending) (w' : World) : Prop := ∃ x y, e = .returned (.tuple #[.agg #[.int .i64 0, x, y], .int .i64 (lyE k code)]) ∧ NewI w.heap.size (lyN k code) (lyS k code) x w' ∧ NewI w.heap.size (lyN k code) (lyP k code) y w' ∧ Below w.heap.size w w'
theorem NewI.nil (H : Nat) (w : World) : NewI H 0 [] (.slice none 0 0) w := ⟨none, 0, rfl, Rd.nil _ _ _ _, (fun a e => by cases e), Nat.le_refl _⟩
theorem ofT_results {W : World} {tmps : Array Value} {B : Nat} {a b c : Value} {e : Int} {t : TypeId} (h4 : tmps.getD 4 undef = .pointer (some ⟨B, 0, none⟩)) (h5 : tmps.getD 5 undef = .int .i64 e) (hL : Three W B t a b c) :
    (results Tryd.f35 tmps).run Tryd.prog W = .ok (.tuple #[.agg #[a, b, c], .int .i64 e]) W := by
  have c0 := hL.cell0
  have c1 := hL.cell1
  have c2 := hL.cell2
  simp only [Array.getD_eq_getD_getElem?] at h4 h5
  simp [results, Tryd.results35, go_sem, h4, h5, c0, c1, c2]
theorem put3_new {H k B : Nat} {xs : List Int} {v : Value} {w : World} (h : NewI H k xs v w) (hB : B < H) (a b c : Value) : NewI H k xs v (((w.setCell ⟨B, 0, none⟩ a).setCell ⟨B, 1, none⟩ b).setCell ⟨B, 2, none⟩ c) :=
  h.keep (fun i h1 h2 => (put_grown w B a b c).block i h2 (fun e => by injection e with e; omega)) (put_grown w B a b c).size
theorem index_enc0 (a b c d e f : Value) (u : World) : (Instr.index 74 (.agg #[a, b, c, d, e, f]) (.int .i64 0)).run Tryd.prog u = .ok (.agg #[a, b, c]) u := by
  simp [Instr.index, go_sem]
theorem index_enc1 (a b c d e f : Value) (u : World) : (Instr.index 74 (.agg #[a, b, c, d, e, f]) (.int .i64 1)).run Tryd.prog u = .ok (.agg #[d, e, f]) u := by
  simp [Instr.index, go_sem]
set_option maxHeartbeats 4000000 in
theorem ofT_ok {k c : Nat} {w : World} (hK : Kinds w) (hs : IsSize k) (hc : c = 1 ∨ c = 2) :
    Calls Tryd.prog 35 #[.int .i64 (k : Int), .int .i64 (c : Int)] w (RetOf w (k : Int) (c : Int)) := by
  obtain ⟨e1, e2, e3, e4⟩ := lyS_size hs hc
  unfold RetOf
  rw [e1, e2, e3, e4]
  have hV := Lib.hid (fun (u : World) (h : Below w.heap.size w u) => valid_call (n := (k : Int)) (hK.step h))
  rw [isB_nat, decide_eq_true hs] at hV
  have hE := Lib.hid (fun (u : World) (h : Below w.heap.size w u) => encoders_any (hK.step h) hs)
  have hT := Three.new w 68 (.int .i64 0) (.slice none 0 0) (.slice none 0 0)
  have hb0 := (Below.refl w.heap.size w).alloc (Nat.le_refl _) (.cells #[.int .i64 0, .slice none 0 0, .slice none 0 0] 68)
  have hs1 : (w.alloc (.cells #[.int .i64 0, .slice none 0 0, .slice none 0 0] 68)).heap.size = w.heap.size + 1 := by simp
  have hi0 := index_enc0
  have hi1 := index_enc1
  clear hK hs e1 e2 e3 e4
  rcases hc with rfl | rfl
  all_goals
    simp only [Int.cast_ofNat_Int]
    go_enter Tryd.func35, Tryd.ntmps35
    go_wp2
    refine wp_scope_forward 0 rfl ?_
    generalize w.alloc (.cells #[.int .i64 0, .slice none 0 0, .slice none 0 0] 68) = W at *
    go_wp2_with fail
    refine (hV.out _ hb0).mono ?_
    rintro e w1 ⟨rfl, hb1⟩
    rw [hs1] at hb1
    have hb2 := hb0.trans (hb1.mono (by omega))
    have hT1 := hT.below hb1 (by omega)
    go_wp2_with fail
    refine (hE.out _ hb2).mono ?_
    rintro e w2 ⟨x1, y1, x2, y2, rfl, ⟨⟨A1, c1, rfl, r1⟩, ⟨A2, c2, rfl, r2⟩, ⟨A3, c3, rfl, r3⟩, ⟨A4, c4, rfl, r4⟩⟩, hb3⟩
    have hT2 := hT1.below hb3 hT1.lt
    have hb4 := hb2.trans (hb3.mono hb2.size)
    have b0 := hT2.cell0
    have b1 := hT2.cell1
    have b2 := hT2.cell2
    have g0 := hT2.frozen 0
    have g1 := hT2.frozen 1
    have g2 := hT2.frozen 2
    have hlt := hT1.lt
    have HL := Lib.hid (And.intro r1 (And.intro r2 (And.intro r3 r4)))
    have HT := Lib.hid hT2
    have HB := Lib.hid hb4
    have hle := hb2.size
    clear hT hT1 hT2 hb0 hb1 hb2 hb3 hb4 r1 r2 r3 r4 hs1 hV hE
    go_wp2_with fail
    refine jump_ret ?_
  · refine bodyPost_ret (ofT_results (e := 0) ?_ ?_ (HT.out.put _ _ _)) rfl ⟨_, _, rfl, NewI.low (put3_new ⟨A1, c1, rfl, HL.out.1⟩ hlt _ _ _) hle, NewI.low (put3_new ⟨A2, c2, rfl, HL.out.2.1⟩ hlt _ _ _) hle, HB.out.grown (put_grown _ _ _ _ _) HB.out.size (fun g e => by injection e with e; omega)⟩
    · rfl
    · rfl
  · refine bodyPost_ret (ofT_results (e := 0) ?_ ?_ (HT.out.put _ _ _)) rfl ⟨_, _, rfl, NewI.low (put3_new ⟨A3, c3, rfl, HL.out.2.2.1⟩ hlt _ _ _) hle, NewI.low (put3_new ⟨A4, c4, rfl, HL.out.2.2.2⟩ hlt _ _ _) hle, HB.out.grown (put_grown _ _ _ _ _) HB.out.size (fun g e => by injection e with e; omega)⟩
    · rfl
    · rfl
set_option maxHeartbeats 4000000 in
theorem ofT_no {k c : Int} {w : World} (hK : Kinds w) (h : lyB k c = false) :
    Calls Tryd.prog 35 #[.int .i64 k, .int .i64 c] w (RetOf w k c) := by
  obtain ⟨e1, e2, e3, e4⟩ := lyS_no h
  unfold RetOf
  rw [e1, e2, e3, e4]
  have hV := Lib.hid (fun (u : World) (h : Below w.heap.size w u) => valid_call (n := k) (hK.step h))
  have hT := Three.new w 68 (.int .i64 0) (.slice none 0 0) (.slice none 0 0)
  have hb0 := (Below.refl w.heap.size w).alloc (Nat.le_refl _) (.cells #[.int .i64 0, .slice none 0 0, .slice none 0 0] 68)
  have hs1 : (w.alloc (.cells #[.int .i64 0, .slice none 0 0, .slice none 0 0] 68)).heap.size = w.heap.size + 1 := by simp
  have hbuild : ∀ u : World, (Instr.build 68 #[]).run Tryd.prog u = .ok (.agg #[.int .i64 0, .slice none 0 0, .slice none 0 0]) u := fun u => run_build u _ _ _ (by rfl)
  have hcase : isB k = false ∨ (isB k = true ∧ (c < 1 ∨ 2 < c)) := by
    unfold lyB at h
    by_cases hk : isB k = true
    · rw [hk, Bool.true_and, Bool.or_eq_false_iff, decide_eq_false_iff_not, decide_eq_false_iff_not] at h
      exact .inr ⟨hk, by omega⟩
    · exact .inl (Bool.eq_false_iff.2 hk)
  clear hK e1 e2 e3 e4 h
  rcases hcase with hk | ⟨hk, hc⟩
  · rw [hk] at hV
    clear hk
    go_enter Tryd.func35, Tryd.ntmps35
    go_wp2
    refine wp_scope_forward 0 rfl ?_
    generalize w.alloc (.cells #[.int .i64 0, .slice none 0 0, .slice none 0 0] 68) = W at *
    go_wp2_with fail
    refine (hV.out _ hb0).mono ?_
    rintro e w1 ⟨rfl, hb1⟩
    rw [hs1] at hb1
    have hb2 := hb0.trans (hb1.mono (by omega))
    have hT2 := hT.below hb1 (by omega)
    have b0 := hT2.cell0
    have b1 := hT2.cell1
    have b2 := hT2.cell2
    have g0 := hT2.frozen 0
    have g1 := hT2.frozen 1
    have g2 := hT2.frozen 2
    have HT := Lib.hid hT2
    have HB := Lib.hid hb2
    clear hT hT2 hb0 hb1 hb2 hs1 hV
    go_wp2_with fail
    go_step3
    refine ⟨rfl, ?_⟩
    go_wp2_with fail
    rw [Exit.noGoto_ret]
    refine bodyPost_ret (ofT_results (e := 2) ?_ ?_ (HT.out.put _ _ _)) rfl ⟨_, _, rfl, NewI.nil _ _, NewI.nil _ _, HB.out.grown (put_grown _ _ _ _ _) HB.out.size (fun g e => by injection e with e; omega)⟩
    · rfl
    · rfl
  · rw [hk] at hV
    clear hk
    rcases hc with hc | hc
    · have c1 : decide (c < 1) = true := decide_eq_true hc
      go_enter Tryd.func35, Tryd.ntmps35
      go_wp2
      refine wp_scope_forward 0 rfl ?_
      generalize w.alloc (.cells #[.int .i64 0, .slice none 0 0, .slice none 0 0] 68) = W at *
      go_wp2_with fail
      refine (hV.out _ hb0).mono ?_
      rintro e w1 ⟨rfl, hb1⟩
      rw [hs1] at hb1
      have hb2 := hb0.trans (hb1.mono (by omega))
      have hT2 := hT.below hb1 (by omega)
      have b0 := hT2.cell0
      have b1 := hT2.cell1
      have b2 := hT2.cell2
      have g0 := hT2.frozen 0
      have g1 := hT2.frozen 1
      have g2 := hT2.frozen 2
      have HT := Lib.hid hT2
      have HB := Lib.hid hb2
      clear hT hT2 hb0 hb1 hb2 hs1 hV
      go_wp2_with fail
      go_step3
      refine ⟨rfl, ?_⟩
      go_wp2_with fail
      rw [Exit.noGoto_ret]
      refine bodyPost_ret (ofT_results (e := 2) ?_ ?_ (HT.out.put _ _ _)) rfl ⟨_, _, rfl, NewI.nil _ _, NewI.nil _ _, HB.out.grown (put_grown _ _ _ _ _) HB.out.size (fun g e => by injection e with e; omega)⟩
      · rfl
      · rfl
    · have c1 : decide (c < 1) = false := by simp; omega
      have c2 : decide (2 < c) = true := decide_eq_true hc
      go_enter Tryd.func35, Tryd.ntmps35
      go_wp2
      refine wp_scope_forward 0 rfl ?_
      generalize w.alloc (.cells #[.int .i64 0, .slice none 0 0, .slice none 0 0] 68) = W at *
      go_wp2_with fail
      refine (hV.out _ hb0).mono ?_
      rintro e w1 ⟨rfl, hb1⟩
      rw [hs1] at hb1
      have hb2 := hb0.trans (hb1.mono (by omega))
      have hT2 := hT.below hb1 (by omega)
      have b0 := hT2.cell0
      have b1 := hT2.cell1
      have b2 := hT2.cell2
      have g0 := hT2.frozen 0
      have g1 := hT2.frozen 1
      have g2 := hT2.frozen 2
      have HT := Lib.hid hT2
      have HB := Lib.hid hb2
      clear hT hT2 hb0 hb1 hb2 hs1 hV
      go_wp2_with fail
      go_step3
      refine ⟨rfl, ?_⟩
      go_wp2_with fail
      rw [Exit.noGoto_ret]
      refine bodyPost_ret (ofT_results (e := 2) ?_ ?_ (HT.out.put _ _ _)) rfl ⟨_, _, rfl, NewI.nil _ _, NewI.nil _ _, HB.out.grown (put_grown _ _ _ _ _) HB.out.size (fun g e => by injection e with e; omega)⟩
      · rfl
      · rfl
theorem ofT_any {k c : Int} {w : World} (hK : Kinds w) : Calls Tryd.prog 35 #[.int .i64 k, .int .i64 c] w (RetOf w k c) := by
  by_cases h : lyB k c = true
  · obtain ⟨m, d, rfl, rfl, hs, hd⟩ := lyB_ok h
    exact ofT_ok hK hs hd
  · exact ofT_no hK (Bool.eq_false_iff.2 h)
/-- What Layout answers. -/
def RetLay (w : World) (k code : Int) (e : Ending) (w' : World) : Prop := ∃ A c A' c', e = .returned (.tuple #[.slice A (lyN k code) c, .slice A' (lyN k code) c', .int .i64 (lyE k code)]) ∧ NewI w.heap.size (lyN k code) (lyS k code) (.slice A (lyN k code) c) w' ∧ NewI w.heap.size (lyN k code) (lyP k code) (.slice A' (lyN k code) c') w' ∧ Below w.heap.size w w'
theorem NewI.alloc {H k : Nat} {xs : List Int} {v : Value} {w : World} (h : NewI H k xs v w) (o : Obj) : NewI H k xs v (w.alloc o) := h.grown (World.grownBy_alloc w o none)
theorem NewI.drewN {H k : Nat} {xs : List Int} {v : Value} {w : World} (h : NewI H k xs v w) (n : Nat) : NewI H k xs v (w.drewN n) := h.keep (fun _ _ _ => rfl) (Nat.le_refl _)
set_option maxHeartbeats 2000000 in
theorem Layout_any {k c : Int} {w : World} (hK : Kinds w) : Calls Tryd.prog 21 #[.int .i64 k, .int .i64 c] w (RetLay w k c) := by
  have hO := Lib.hid (ofT_any (k := k) (c := c) hK)
  unfold RetLay
  unfold RetOf at hO
  generalize lyE k c = E at *
  generalize lyN k c = n at *
  generalize lyS k c = xs at *
  generalize lyP k c = ps at *
  clear hK
  go_enter Tryd.func21, Tryd.ntmps21
  go_wp2_with fail
  refine hO.out.mono ?_
  rintro e w1 ⟨x, y, rfl, ⟨A, c1, rfl, r1⟩, ⟨A', c1', rfl, r2⟩, hb1⟩
  have hT := Three.new w1 68 (.int .i64 0) (.slice A n c1) (.slice A' n c1')
  have b1 := hT.cell1
  have b2 := hT.cell2
  have H1 := Lib.hid (NewI.alloc (show NewI w.heap.size n xs (.slice A n c1) w1 from ⟨A, c1, rfl, r1⟩) (.cells #[.int .i64 0, .slice A n c1, .slice A' n c1'] 68))
  have H2 := Lib.hid (NewI.alloc (show NewI w.heap.size n ps (.slice A' n c1') w1 from ⟨A', c1', rfl, r2⟩) (.cells #[.int .i64 0, .slice A n c1, .slice A' n c1'] 68))
  have HB := Lib.hid (hb1.alloc hb1.size (.cells #[.int .i64 0, .slice A n c1, .slice A' n c1'] 68))
  clear hT r1 r2 hb1 hO
  go_wp2_with fail
  generalize w1.alloc (.cells #[.int .i64 0, .slice A n c1, .slice A' n c1'] 68) = W at *
  go_quiet (fail)
  go_wp2_with fail
  go_ret3
  exact ⟨A, c1, A', c1', rfl, H1.out.drewN _, H2.out.drewN _, below_drewN HB.out _⟩
theorem stepsT_any {x y z : Value} {w : World} : Calls Tryd.prog 36 #[.agg #[x, y, z]] w fun e w' => e = .returned (.func (.func 47) #[] #[.pointer (some ⟨w.heap.size, 0, none⟩)]) ∧ w' = w.alloc (.cells #[x, y, z] 68) := by
  have hmf := makeFunc_run
  go_enter Tryd.func36, Tryd.ntmps36
  go_wp2_with fail
  go_ret
  exact ⟨rfl, rfl⟩
/-- What Steps answers. -/
def RetSt (w : World) (k code : Int) (e : Ending) (w' : World) : Prop := ∃ E A c A' c', e = .returned (.func (.func 47) #[] #[.pointer (some ⟨E, 0, none⟩)]) ∧ w.heap.size ≤ E ∧ Three w' E 68 (.int .i64 0) (.slice A (lyN k code) c) (.slice A' (lyN k code) c') ∧ NewI w.heap.size (lyN k code) (lyS k code) (.slice A (lyN k code) c) w' ∧ NewI w.heap.size (lyN k code) (lyP k code) (.slice A' (lyN k code) c') w' ∧ Below w.heap.size w w'
set_option maxHeartbeats 2000000 in
theorem Steps_any {k c : Int} {w : World} (hK : Kinds w) : Calls Tryd.prog 24 #[.int .i64 k, .int .i64 c] w (RetSt w k c) := by
  have hO := Lib.hid (ofT_any (k := k) (c := c) hK)
  have hS := Lib.hid (fun (x y z : Value) (u : World) => stepsT_any (x := x) (y := y) (z := z) (w := u))
  unfold RetSt
  unfold RetOf at hO
  generalize lyE k c = E at *
  generalize lyN k c = n at *
  generalize lyS k c = xs at *
  generalize lyP k c = ps at *
  clear hK
  go_enter Tryd.func24, Tryd.ntmps24
  go_wp2_with fail
  refine hO.out.mono ?_
  rintro e w1 ⟨x, y, rfl, ⟨A, c1, rfl, r1⟩, ⟨A', c1', rfl, r2⟩, hb1⟩
  have hT := Three.new w1 68 (.int .i64 0) (.slice A n c1) (.slice A' n c1')
  have b0 := hT.cell0
  have b1 := hT.cell1
  have b2 := hT.cell2
  have H1 := Lib.hid (NewI.alloc (show NewI w.heap.size n xs (.slice A n c1) w1 from ⟨A, c1, rfl, r1⟩) (.cells #[.int .i64 0, .slice A n c1, .slice A' n c1'] 68))
  have H2 := Lib.hid (NewI.alloc (show NewI w.heap.size n ps (.slice A' n c1') w1 from ⟨A', c1', rfl, r2⟩) (.cells #[.int .i64 0, .slice A n c1, .slice A' n c1'] 68))
  have HB := Lib.hid (hb1.alloc hb1.size (.cells #[.int .i64 0, .slice A n c1, .slice A' n c1'] 68))
  clear hT r1 r2 hb1 hO
  go_wp2_with fail
  generalize w1.alloc (.cells #[.int .i64 0, .slice A n c1, .slice A' n c1'] 68) = W at *
  refine (hS.out _ _ _ _).mono ?_
  rintro e w2 ⟨rfl, rfl⟩
  have HT := Lib.hid (Three.new W 68 (.int .i64 0) (.slice A n c1) (.slice A' n c1'))
  have H3 := Lib.hid (H1.out.alloc (.cells #[.int .i64 0, .slice A n c1, .slice A' n c1'] 68))
  have H4 := Lib.hid (H2.out.alloc (.cells #[.int .i64 0, .slice A n c1, .slice A' n c1'] 68))
  have HB2 := Lib.hid (HB.out.alloc HB.out.size (.cells #[.int .i64 0, .slice A n c1, .slice A' n c1'] 68))
  have hle := HB.out.size
  clear H1 H2 hS b0 b1 b2
  go_wp2_with fail
  go_ret
  exact ⟨_, A, c1, A', c1', rfl, hle, HT.out, H3.out, H4.out, HB2.out⟩
end

/-! ### The iterator over an encoder's steps, a range over it; input, encode. -/
section
set_option maxRecDepth 100000
open Go.RowKit Go.Shelf BigFrame

attribute [local go_sem] Oper.semAt_some

theorem grown_of_below {w w' : World} (h : Below w.heap.size w w') : w.grownBy w' none := ⟨h.os, h.tape, h.output, h.size, fun k hk _ => h.block k hk⟩
set_option maxHeartbeats 2000000 in
theorem tsteps_runs {n lp : Nat} (hn : 1 ≤ n) {E m B : Nat} {z : Value} {A A' : Option Addr} {c c' : Nat} {ss ps : List Int} {J : Nat → World → Prop} {Jx : World → Prop} {W : World} (hm : m ≤ 10000)
    (hE : ∀ k W1, J k W1 → Three W1 E 68 z (.slice A m c) (.slice A' m c'))
    (hR1 : ∀ k W1, J k W1 → Rd .i64 W1 B A m ss) (hR2 : ∀ k W1, J k W1 → Rd .i64 W1 B A' m ps)
    (hY : ∀ k W1, k < m → J k W1 → YieldAt Fence.wide (n - 1) Tryd.prog lp #[.int .i64 (ss[k]?.getD 0), .int .i64 (ps[k]?.getD 0)] W1 fun e W' =>
      (e = .returned (.bool true) ∧ J (k + 1) W') ∨ (e = .returned (.bool false) ∧ Jx W'))
    (h0 : J 0 W) :
    CallsIn Fence.wide n Tryd.prog 47 #[.func (.yield lp) #[] #[], .pointer (some ⟨E, 0, none⟩)] W fun e W' =>
      (∃ v, e = .returned v) ∧ (J m W' ∨ Jx W') := by
  have c1 := (hE 0 W h0).cell1
  refine callsIn_of_wp Tryd.func47 rfl trivial ?_ rfl
  simp only [Tryd.ntmps47, List.size_toArray, List.length_cons, List.length_nil, Nat.reduceAdd, Nat.reduceSub, Array.replicate_succ, Array.replicate_zero, List.push_toArray, List.append_toArray, List.nil_append, List.cons_append]
  gi_wp2
  clear c1
  gi_loopw [8] (fun x wr => ∃ k : Nat, k ≤ m ∧ x = .int .i64 (k : Int) ∧ J k wr) (fun x _ => m - (intOf x).toNat)
  case atStart => exact ⟨0, Nat.zero_le _, rfl, h0⟩
  case round =>
    obtain ⟨k, hk, rfl, hJk⟩ := hrel
    by_cases hlt : k < m
    · have c2 := (hE k wr hJk).cell2
      obtain ⟨b, off, rfl, _, hc1⟩ := (hR1 k wr hJk).cells k hlt
      obtain ⟨b', off', rfl, _, hc2⟩ := (hR2 k wr hJk).cells k hlt
      have HY := Lib.hid (hY k wr hlt hJk)
      have hk0 : (0 : Int) ≤ (k : Int) := by omega
      have hk1 : (k : Int) < (m : Int) := by omega
      clear hE hR1 hR2
      generalize ss[k]?.getD 0 = x at *
      generalize ps[k]?.getD 0 = y at *
      obtain ⟨fn, tmps, assign, body, hy, hRd⟩ := HY.out
      clear HY hJk
      gi_wp2
      refine hRd.mono ?_
      rintro e W3 (⟨rfl, hJ3⟩ | ⟨rfl, hJx3⟩)
      · gi_wp2
        go_roundw
        case rel => exact ⟨k + 1, by omega, by go_num, hJ3⟩
        case measure => simp [intOf]; omega
      · gi_wp2
        refine bodyPost_ret (results_none rfl _ _ _) rfl ?_
        exact ⟨⟨_, rfl⟩, .inr hJx3⟩
    · obtain rfl : k = m := by omega
      gi_wp2
      go_end0
      exact ⟨⟨_, rfl⟩, .inl hJk⟩
theorem input_low {s i u : Nat} {A : Option Addr} {n c B : Nat} {xs : List Int} {w : World} (hR : Rd .u8 w B A n xs) (hi : i < n) (hu : xs[i]?.getD 0 = (u : Int)) :
    Calls Tryd.prog 41 #[.int .i64 (s : Int), .slice A n c, .int .i64 (i : Int)] w fun e w' => e = .returned (.int .u8 (u : Int)) ∧ w' = w := by
  obtain ⟨b, off, rfl, _, hc⟩ := hR.cells i hi
  rw [hu] at hc
  have h0 : (0 : Int) ≤ (i : Int) := by omega
  have h1 : (i : Int) < (n : Int) := by omega
  clear hR hu
  go_enter Tryd.func41, Tryd.ntmps41
  go_wp2_with fail
  go_ret
  exact ⟨rfl, rfl⟩
set_option maxHeartbeats 1000000 in
theorem input_high {s i : Nat} {A : Option Addr} {n c : Nat} {w : World} (hs : s < 8) (hi : n ≤ i) :
    Calls Tryd.prog 41 #[.int .i64 (s : Int), .slice A n c, .int .i64 (i : Int)] w fun e w' => e = .returned (.int .u8 (tailIn s : Nat)) ∧ Below w.heap.size w w' := by
  have hT := Lib.hid (Tail_ok (w := w) hs)
  rw [tailU_eq, tailZ_eq, b3_eq, b3_eq] at hT
  rw [show tuN s 0 = tailIn s from rfl] at hT
  have h1 : ¬ (i : Int) < (n : Int) := by omega
  generalize tailIn s = u at *
  generalize tuN s 1 = u1 at *
  generalize tuN s 2 = u2 at *
  generalize tzN s 0 = z0 at *
  generalize tzN s 1 = z1 at *
  generalize tzN s 2 = z2 at *
  go_enter Tryd.func41, Tryd.ntmps41
  go_wp2_with fail
  refine hT.out.mono ?_
  rintro e w1 ⟨rfl, hb1⟩
  have t1 := (Three.new w1 61 (.int .u8 (u : Int)) (.int .u8 (u1 : Int)) (.int .u8 (u2 : Int))).alloc (.cells #[.int .u8 (z0 : Int), .int .u8 (z1 : Int), .int .u8 (z2 : Int)] 61)
  have c0 := t1.cell0
  have HB := Lib.hid (hb1.trans ((below_two (w := w1) (.cells #[.int .u8 (u : Int), .int .u8 (u1 : Int), .int .u8 (u2 : Int)] 61) (.cells #[.int .u8 (z0 : Int), .int .u8 (z1 : Int), .int .u8 (z2 : Int)] 61)).mono hb1.size))
  clear t1 hb1 hT
  go_wp2_with fail
  go_ret
  exact ⟨rfl, HB.out⟩
set_option maxHeartbeats 1000000 in
theorem encode_any {E s u : Nat} {t : TypeId} {x y : Value} {w : World} (hT : Three w E t (.int .i64 (s : Int)) x y) (hs : s < 8) (hu : u < 2) :
    Calls Tryd.prog 42 #[.pointer (some ⟨E, 0, none⟩), .int .u8 (u : Int)] w fun e w' => e = .returned (.int .u8 (parS7 s u : Nat)) ∧ Three w' E t (.int .i64 (nextS s u : Nat)) x y ∧ w.grownBy w' (some E) := by
  have hS := Lib.hid (Step_ok (w := w) hs hu)
  have c0 := hT.cell0
  have hp := (step_lt s hs u hu).2
  generalize parS7 s u = p at *
  generalize nextS s u = q at *
  have hw : IntKind.u8.wrap (p : Int) = (p : Int) := by rw [IntWalk.u8_in _ (by omega)]
  have hw2 : IntKind.i64.wrap (u : Int) = (u : Int) := by rw [IntWalk.i64_in _ (by omega)]
  go_enter Tryd.func42, Tryd.ntmps42
  go_wp2_with fail
  refine hS.out.mono ?_
  rintro e w1 ⟨rfl, hb1⟩
  have hT1 := hT.below hb1 hT.lt
  have d0 := hT1.cell0
  have g0 := hT1.frozen 0
  have HT := Lib.hid (hT1.set0 (.int .i64 (q : Int)))
  have HG := Lib.hid (grown_two (grown_of_below hb1) (grownBy_setCell_at w1 ⟨E, 0, none⟩ (.int .i64 (q : Int))))
  clear hT hT1 hb1 hS c0
  go_wp2_with fail
  go_ret
  exact ⟨rfl, HT.out, HG.out⟩
theorem places_any {A : Option Addr} {n c : Nat} {w : World} : Calls Tryd.prog 28 #[.slice A n c] w fun e w' => e = .returned (.func (.func 39) #[] #[.pointer (some ⟨w.heap.size, 0, none⟩)]) ∧ w' = w.alloc (.cells #[.slice A n c] 22) := by
  have hmf := makeFunc_run
  go_enter Tryd.func28, Tryd.ntmps28
  go_wp2_with fail
  go_ret
  exact ⟨rfl, rfl⟩
end
end Go.Proofs.YtbpkoilecdejiaaDoor
