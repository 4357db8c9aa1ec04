/-
  The law's Pattern.bits and lists.
-/
import Derived.Test.YtkdodmjhpkfhnaaDoorRd
namespace Go.Proofs.YtkdodmjhpkfhnaaDoor
open Go.RowKit

/-- Where the loop is. -/
structure PatS (w : World) (n : Nat) (a b p q : Int) (wr : World) : Prop where
  ex : ∃ xs : List Int, wr.ownsRow w.heap.size 5 1 (.slice (some ⟨w.heap.size + 1, 0, none⟩) n n) n (xs.map (Value.int .u8)) ∧ Byte xs
  below : Below w.heap.size w wr
  pat : wr.heap[w.heap.size]? = some (.cells #[.int .i64 a, .int .i64 b, .int .i64 p, .int .u8 q] 45 (0, 0))
theorem Byte.set {xs : List Int} (h : Byte xs) {k : Nat} {x : Int} (hx : 0 ≤ x ∧ x ≤ 255) : Byte (xs.set k x) := Byte.of_mem fun y hy => by
  rcases List.mem_or_eq_of_mem_set hy with h1 | h1
  · exact h.mem y h1
  · rw [h1]; exact hx
theorem PatS.set {w wr : World} {n : Nat} {a b p q x : Int} (h : PatS w n a b p q wr) (k : Nat) (hx : 0 ≤ x ∧ x ≤ 255) : PatS w n a b p q (wr.setCell ⟨w.heap.size + 1, k, none⟩ (.int .u8 x)) := by
  obtain ⟨xs, hO, hB⟩ := h.ex
  have hST := hO.stored k (.int .u8 x)
  refine ⟨⟨xs.set k x, ?_, hB.set hx⟩, h.below.setCell (p := ⟨w.heap.size + 1, k, none⟩) (Nat.le_succ _) _, (Below.heap_setCell _ _ _ _ (by simp)).trans h.pat⟩
  rw [List.map_set]
  exact hST.1
theorem PatS.at {w wr : World} {n : Nat} {a b p q : Int} (h : PatS w n a b p q wr) {k : Nat} (hk : k < n) : (∃ y, wr.cell? ⟨w.heap.size + 1, k, none⟩ = some (.int .u8 y)) ∧ wr.frozen? ⟨w.heap.size + 1, k, none⟩ = false := by
  obtain ⟨xs, hO, hB⟩ := h.ex
  have hl : xs.length = n := by have := hO.1; simpa using this
  refine ⟨⟨xs[k]?.getD 0, ?_⟩, hO.frozenAt k⟩
  rw [hO.cellAt k (by omega)]
  have : k < xs.length := by omega
  simp [this]
theorem PatS.cells {w wr : World} {n : Nat} {a b p q : Int} (h : PatS w n a b p q wr) : wr.cell? ⟨w.heap.size, 0, none⟩ = some (.int .i64 a) ∧ wr.cell? ⟨w.heap.size, 1, none⟩ = some (.int .i64 b) ∧ wr.cell? ⟨w.heap.size, 2, none⟩ = some (.int .i64 p) ∧ wr.cell? ⟨w.heap.size, 3, none⟩ = some (.int .u8 q) := by
  refine ⟨?_, ?_, ?_, ?_⟩ <;> simp [World.cell?, h.pat]
set_option maxRecDepth 100000 in
set_option maxHeartbeats 2000000 in
theorem patBits_any {a b p : Int} {q : Int} {w : World} (hq : 0 ≤ q ∧ q ≤ 255) :
    Calls Tryd.prog 23 #[.agg #[.int .i64 a, .int .i64 b, .int .i64 p, .int .u8 q]] w fun e w' => ∃ A2 n c2 xs, e = .returned (.slice A2 n c2) ∧ n ≤ 30000 ∧
      w'.ownsRow w.heap.size 5 1 (.slice A2 n c2) n (xs.map (Value.int .u8)) ∧ Byte xs ∧ Below w.heap.size w w' := by
  have hmk0 := fun n : Nat => fun hn : n ≤ 30000 => make_bytes n n (Nat.le_refl _) (by omega)
  have hcase : (a ≤ 0 ∧ a < 30000) ∨ (30000 ≤ a) ∨ (0 < a ∧ a < 30000) := by omega
  have hn : ∃ n : Nat, n ≤ 30000 ∧ ((a ≤ 0 ∧ n = 0) ∨ (30000 ≤ a ∧ n = 30000) ∨ (0 < a ∧ a < 30000 ∧ (n : Int) = a)) := by
    rcases hcase with h | h | h
    · exact ⟨0, by decide, .inl ⟨h.1, rfl⟩⟩
    · exact ⟨30000, Nat.le_refl _, .inr (.inl ⟨h, rfl⟩)⟩
    · exact ⟨a.toNat, by omega, .inr (.inr ⟨h.1, h.2, by omega⟩)⟩
  obtain ⟨n, hn2, hn⟩ := hn
  have hmk := hmk0 n hn2
  clear hmk0 hcase
  rcases hn with ⟨h, hn⟩ | ⟨h, hn⟩ | ⟨h, h', hn⟩
  rw [show ((n : Nat) : Int) = 0 by omega] at hmk
  clear hn
  have h3 : a < 30000 := by omega
  go_enter Tryd.func23, Tryd.ntmps23
  go_wp2_with fail
  rotate_left
  rw [show ((n : Nat) : Int) = 30000 by omega] at hmk
  clear hn
  go_enter Tryd.func23, Tryd.ntmps23
  go_wp2_with fail
  rotate_left
  rw [show ((n : Nat) : Int) = a by omega] at hmk
  clear hn
  go_enter Tryd.func23, Tryd.ntmps23
  go_wp2_with fail
  rotate_left
  all_goals
    have hP0 : PatS w n a b p q ((w.alloc (.cells #[.int .i64 a, .int .i64 b, .int .i64 p, .int .u8 q] 45)).alloc (.cells (madeCells #[.int .u8 0] n) 5)) := by
      have h1 := (Below.refl w.heap.size w).alloc (Nat.le_refl _) (.cells #[.int .i64 a, .int .i64 b, .int .i64 p, .int .u8 q] 45)
      refine ⟨⟨List.replicate n 0, ?_, Byte.of_mem (fun x hx => by have := (List.mem_replicate.1 hx).2; omega)⟩, h1.alloc h1.size _, ?_⟩
      · have := own_zeros (w := w.alloc (.cells #[.int .i64 a, .int .i64 b, .int .i64 p, .int .u8 q] 45)) (B := w.heap.size) (n := n) (m := n) (by simp) (by omega) (Nat.le_refl _)
        rwa [World.size_alloc] at this
      · exact (Below.heap_alloc _ _ _ (by simp)).trans (World.alloc_heap_new w _)
    clear hmk
    go_loopw [4, 5] (fun x i wr => ∃ (k : Nat) (y : Int), k ≤ n ∧ i = .int .i64 k ∧ x = .int .u32 y ∧ PatS w n a b p q wr) (fun _ i _ => n - (intOf i).toNat)
    case atStart => exact ⟨0, _, Nat.zero_le _, rfl, rfl, hP0⟩
    case round =>
      obtain ⟨k, y, hk, rfl, rfl, hP⟩ := hrel
      by_cases hlt : k < n
      · obtain ⟨⟨z, hc0⟩, hf0⟩ := hP.at hlt
        have HP := Lib.hid hP
        clear hP
        go_wp2
        go_roundw
        case rel => exact ⟨k + 1, _, by omega, by go_num, rfl, HP.out.set k (by omega)⟩
        case measure => simp [intOf]; omega
      · obtain rfl : k = n := by omega
        obtain ⟨c0, c1, c2, c3⟩ := hP.cells
        have hbl := hP.below
        by_cases hp : 0 ≤ p ∧ p < (k : Int)
        · obtain ⟨t, rfl⟩ : ∃ t : Nat, p = t := ⟨p.toNat, by omega⟩
          obtain ⟨⟨z, hc0⟩, hf0⟩ := hP.at (k := t) (by omega)
          have hP2 := hP.set t hq
          obtain ⟨xs, hO, hB⟩ := hP2.ex
          have HO := Lib.hid hO
          have HB := Lib.hid hB
          have HL := Lib.hid hP2.below
          obtain ⟨p1, p2⟩ := hp
          clear hP hP2 hO hB
          go_wp2_with fail
          go_ret
          first | exact ⟨_, k, _, rfl, hn2, xs, HO.out, HB.out, HL.out⟩ | exact ⟨_, k, _, xs, rfl, hn2, HO.out, HB.out, HL.out⟩
        · obtain ⟨xs, hO, hB⟩ := hP.ex
          have HO := Lib.hid hO
          have HB := Lib.hid hB
          clear hP hO hB
          rcases Int.lt_or_le p 0 with h9 | h9
          · go_wp2_with fail
            go_ret
            first | exact ⟨_, k, _, rfl, hn2, xs, HO.out, HB.out, hbl⟩ | exact ⟨_, k, _, xs, rfl, hn2, HO.out, HB.out, hbl⟩
          · have h8 : (k : Int) ≤ p := by omega
            clear hp
            go_wp2_with fail
            all_goals first | (exfalso; omega) | skip
            go_ret
            first | exact ⟨_, k, _, rfl, hn2, xs, HO.out, HB.out, hbl⟩ | exact ⟨_, k, _, xs, rfl, hn2, HO.out, HB.out, hbl⟩
set_option maxHeartbeats 1000000 in
/-- The law's lists, of lists that are equal. -/
theorem lists_true {A A' : Option Addr} {n c c' B B' : Nat} {rows rows' : List BRow} {w : World} (h : Rds w B A n rows) (h' : Rds w B' A' n rows') (hn : n ≤ 1000000) (he : rows.map (·.xs) = rows'.map (·.xs)) :
    Calls Tryd.prog 26 #[.slice A n c, .slice A' n c'] w fun e w' => e = .returned (.bool true) ∧ ∃ i, w' = w.drewN i := by
  go_enter Tryd.func26, Tryd.ntmps26
  go_wp2_with fail
  go_loopw [5] (fun i wr => ∃ k j : Nat, k ≤ n ∧ i = .int .i64 k ∧ wr = w.drewN j) (fun i _ => n - (intOf i).toNat)
  case atStart => exact ⟨0, 0, Nat.zero_le _, rfl, rfl⟩
  case round =>
    obtain ⟨k, j, hk, rfl, rfl⟩ := hrel
    by_cases hlt : k < n
    · obtain ⟨b, off, r, rfl, hb1, hr, hc, hR⟩ := h.cells k hlt
      obtain ⟨b', off', r', rfl, hb1', hr', hc', hR'⟩ := h'.cells k hlt
      have hxs : r.xs = r'.xs := by
        have := congrArg (fun l => l[k]?) he
        simp only [List.getElem?_map, hr, hr', Option.map_some, Option.some.injEq] at this
        exact this
      have k1 : ∀ i, (convert 46 9 (.slice r.a r.n r.c)).run Tryd.prog (w.drewN i) = .ok (.string (strOfNums r.xs)) (w.drewN i) := fun i => (hR.keep (w' := w.drewN i) (fun p _ => rfl)).convert (P := Tryd.prog) Tryd.underlying46 Tryd.underlying5 r.c 9 Tryd.underlying9
      have k2 : ∀ i, (convert 46 9 (.slice r'.a r'.n r'.c)).run Tryd.prog (w.drewN i) = .ok (.string (strOfNums r.xs)) (w.drewN i) := fun i => by
        rw [hxs]
        exact (hR'.keep (w' := w.drewN i) (fun p _ => rfl)).convert (P := Tryd.prog) Tryd.underlying46 Tryd.underlying5 r'.c 9 Tryd.underlying9
      have hc2 : World.cell? (w.drewN j) ⟨b, off + k, none⟩ = some (.slice r.a r.n r.c) := hc
      have hc2' : World.cell? (w.drewN j) ⟨b', off' + k, none⟩ = some (.slice r'.a r'.n r'.c) := hc'
      have hk0 : (0 : Int) ≤ (k : Int) := by omega
      have hk1 : (k : Int) < (n : Int) := by omega
      generalize strOfNums r.xs = st at *
      clear h h' hb1 hb1' hr hr' hR hR' hxs
      go_wp2_with fail
      go_quiet (fail)
      go_wp2_with fail
      go_roundw
      case rel => exact ⟨k + 1, _, by omega, by go_num, by first | rfl | exact drewN_two' _ _ _⟩
      case measure => simp [intOf]; omega
    · obtain rfl : k = n := by omega
      clear h h'
      go_wp2_with fail
      go_ret
      exact ⟨rfl, j, rfl⟩
end Go.Proofs.YtkdodmjhpkfhnaaDoor
