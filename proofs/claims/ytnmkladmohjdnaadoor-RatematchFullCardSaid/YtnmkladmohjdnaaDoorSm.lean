/-
  The references' Same, Own, Valid; slices.ContainsFunc at the two predicates.
-/
import Derived.Test.YtnmkladmohjdnaaDoorApp
import Derived.Test.YtnmkladmohjdnaaDoorQ
import Derived.Shelf.Abstract
import Derived.Test.YtnmkladmohjdnaaDoorSbM
namespace Go.Proofs.YtnmkladmohjdnaaDoor
open Go.RowKit Go.Shelf

theorem drewN_two (w : World) (i j : Nat) : (w.drewN i).drewN j = w.drewN (i + j) := by simp [World.drewN, Nat.add_assoc]
set_option maxHeartbeats 1000000 in
/-- The reference's Same, of integers. -/
theorem sameI_any {A A' : Option Addr} {n c n' c' B B' : Nat} {xs ys : List Int} {w : World} (h : Rd .i64 w B A n xs) (h' : Rd .i64 w B' A' n' ys) (hn : n ≤ 140737488351232) (hn' : n' ≤ 140737488351232) :
    Calls Tryd.prog 15 #[.slice A n c, .slice A' n' c'] w fun e w' => e = .returned (.bool (decide (xs = ys))) ∧ ∃ i, w' = w.drewN i := by
  have hl := Lib.hid h.len
  have hl' := Lib.hid h'.len
  by_cases hnn : n = n'
  · subst hnn
    go_enter Tryd.func15, Tryd.ntmps15
    go_wp2_with fail
    go_loopw [5] (fun i wr => ∃ k j : Nat, k ≤ n ∧ i = .int .i64 k ∧ (xs.take k = ys.take k) ∧ wr = w.drewN j) (fun i _ => n - (intOf i).toNat)
    case atStart => exact ⟨0, 0, Nat.zero_le _, rfl, rfl, rfl⟩
    case round =>
      obtain ⟨k, j, hk, rfl, hv, rfl⟩ := hrel
      have hV := Lib.hid hv; clear hv
      by_cases hlt : k < n
      · obtain ⟨b, off, rfl, hb1, hc⟩ := h.cells k hlt
        obtain ⟨b', off', rfl, hb1', hc'⟩ := h'.cells k hlt
        have hT1 := Lib.hid (take_snoc xs k (by rw [hl.out]; exact hlt) 0)
        have hT2 := Lib.hid (take_snoc ys k (by rw [hl'.out]; exact hlt) 0)
        have hE := Lib.hid (fun e : xs = ys => show xs[k]?.getD 0 = ys[k]?.getD 0 by rw [e])
        generalize xs[k]?.getD 0 = x at *
        generalize ys[k]?.getD 0 = y at *
        have hc2 : World.cell? (w.drewN j) ⟨b, off + k, none⟩ = some (.int .i64 x) := hc
        have hc2' : World.cell? (w.drewN j) ⟨b', off' + k, none⟩ = some (.int .i64 y) := hc'
        have hk0 : (0 : Int) ≤ (k : Int) := by omega
        have hk1 : (k : Int) < (n : Int) := by omega
        clear h h' hb1 hb1'
        by_cases hxy : x = y
        · subst hxy
          go_wp2_with fail
          go_quiet (fail)
          go_wp2_with fail
          go_roundw
          case rel => exact ⟨k + 1, _, by omega, by go_num, by rw [hT1.out, hT2.out, hV.out], by first | rfl | exact drewN_two _ _ _⟩
          case measure => simp [intOf]; omega
        · have hd : (x != y) = true := by simp [hxy]
          have hE2 : Hid (¬ xs = ys) := Lib.hid (fun e => hxy (hE.out e))
          clear hxy
          go_wp2_with fail
          go_quiet (fail)
          go_wp2_with fail
          go_ret
          exact ⟨ret_bool (by simp [hE2.out]), _, by first | rfl | exact drewN_two _ _ _⟩
      · obtain rfl : k = n := by omega
        clear hlt h h'
        go_wp2_with fail
        go_ret
        have e1 := hV.out
        rw [List.take_of_length_le (Nat.le_of_eq hl.out), List.take_of_length_le (Nat.le_of_eq hl'.out)] at e1
        exact ⟨ret_bool (by simp [e1]), j, rfl⟩
  · have hd : ((n : Int) != (n' : Int)) = true := by simp; omega
    have hne : Hid (¬ xs = ys) := Lib.hid (fun e : xs = ys => hnn (by rw [← hl.out, ← hl'.out, e]))
    clear hnn h h'
    go_enter Tryd.func15, Tryd.ntmps15
    go_wp2_with fail
    go_ret
    exact ⟨ret_bool (by simp [hne.out]), 0, rfl⟩
theorem sameI_true {w : World} {A A' : Option Addr} {n n' c c' B B' : Nat} {xs : List Int} (h : Rd .i64 w B A n xs) (h' : Rd .i64 w B' A' n' xs) (hn : n ≤ 1000000) :
    Calls Tryd.prog 15 #[.slice A n c, .slice A' n' c'] w fun e w' => e = .returned (.bool true) ∧ Below w.heap.size w w' := by
  have e : n = n' := by rw [← h.len, ← h'.len]
  refine (sameI_any h h' (by omega) (by omega)).mono ?_
  rintro e w' ⟨rfl, i, rfl⟩
  exact ⟨ret_bool (by simp), below_drewN (Below.refl _ _) i⟩
/-- A literal of bytes. -/
theorem lit_rd {w : World} (xs : List Int) (t : TypeId) : Rd .u8 (w.alloc (.cells (xs.map (Value.int .u8)).toArray t)) (w.alloc (.cells (xs.map (Value.int .u8)).toArray t)).heap.size (some ⟨w.heap.size, 0, none⟩) xs.length xs :=
  (rd_lit w xs t).more (by simp)
theorem own_low {w1 w2 : World} {t : TypeId} {A : Option Addr} {n c : Nat} {xs : List Value} (h : w2.ownsRow w1.heap.size t 1 (.slice A n c) n xs) (hn : 0 < n) : ∀ a, A = some a → w1.heap.size ≤ a.block ∧ a.block < w2.heap.size := by
  rintro a rfl
  obtain ⟨g, cap, h1, h2, h3⟩ := h.form hn
  injection h1 with h1
  injection h1 with h1
  subst h1
  exact ⟨h2, h3⟩
theorem own_step {w w' : World} {base n : Nat} {t : TypeId} {V : Value} {xs : List Value} (h : w.ownsRow base t 1 V n xs) (hb : Below w.heap.size w w') : w'.ownsRow base t 1 V n xs :=
  ownsRow_save h (Save.of_below (X := fun i => w.heap.size ≤ i) hb) (fun g hg => by have := (h.lt g hg).2; omega)
/-- A slice of the call's own, whatever it holds. -/
def Has (w : World) (lo : Nat) (V : Value) (n : Nat) : Prop := ∃ ys, w.ownsRow lo 5 1 V n ys
theorem Has.of {w : World} {lo n : Nat} {V : Value} {ys : List Value} (h : w.ownsRow lo 5 1 V n ys) : Has w lo V n := ⟨ys, h⟩
theorem Has.setCell {w : World} {lo n : Nat} {V : Value} (h : Has w lo V n) (b o : Nat) (u : Value) : Has (w.setCell ⟨b, o, none⟩ u) lo V n := by
  obtain ⟨ys, hl, h2⟩ := h
  obtain ⟨p, hpe⟩ : ∃ p : Addr, p = ⟨b, o, none⟩ := ⟨_, rfl⟩
  have hsp : p.spot = none := by rw [hpe]
  rw [← hpe]
  rcases h2 with ⟨rfl, rfl⟩ | ⟨g, cap, cur, rfl, hb, hg, hnc, hcm, hcs, ht⟩
  · exact ⟨ys, hl, .inl ⟨rfl, rfl⟩⟩
  · by_cases hp : g = p.block
    · subst hp
      have hg2 : ∃ cur2 : Array Value, (w.setCell p u).heap[p.block]? = some (.cells cur2 5 (0, 0)) ∧ cur2.size = cur.size := by
        refine ⟨cur.setIfInBounds p.off u, ?_, by simp⟩
        simp only [World.setCell, Array.getElem?_modify, hg]
        simp [hsp]
      obtain ⟨cur2, h3, h4⟩ := hg2
      refine ⟨cur2.toList.take (n * 1), ?_, .inr ⟨p.block, cap, cur2, rfl, hb, h3, hnc, hcm, by rw [h4]; exact hcs, rfl⟩⟩
      rw [List.length_take, Array.length_toList, h4, hcs]
      omega
    · exact ⟨ys, hl, .inr ⟨g, cap, cur, rfl, hb, (Below.heap_setCell _ _ _ _ hp).trans hg, hnc, hcm, hcs, ht⟩⟩
theorem Has.save {X : Nat → Prop} {w w' : World} {lo n : Nat} {V : Value} (h : Has w lo V n) (hs : Save X w w') (hX : ∀ g, V.ownBlock = some g → ¬ X g) : Has w' lo V n := by
  obtain ⟨ys, hy⟩ := h
  exact ⟨ys, ownsRow_save hy hs hX⟩
theorem Has.step {w w' : World} {lo n : Nat} {V : Value} (h : Has w lo V n) (hb : Below w.heap.size w w') : Has w' lo V n := by
  obtain ⟨ys, hy⟩ := h
  exact ⟨ys, own_step hy hb⟩
theorem Has.mono {w : World} {lo lo' n : Nat} {V : Value} (h : Has w lo V n) (hl : lo' ≤ lo) : Has w lo' V n := by
  obtain ⟨ys, hy⟩ := h
  exact ⟨ys, hy.mono hl⟩
theorem Rd.take {q : IntKind} {w : World} {B n : Nat} {A : Option Addr} {xs : List Int} (h : Rd q w B A n xs) {m : Nat} (hm : m ≤ n) : Rd q w B A m (xs.take m) := by
  refine ⟨by rw [List.length_take, h.len]; omega, fun k hk => ?_⟩
  obtain ⟨b, off, e, hb, hc⟩ := h.cells k (by omega)
  exact ⟨b, off, e, hb, by rw [hc, List.getElem?_take, if_pos hk]⟩
theorem Byte.take {xs : List Int} (h : Byte xs) (m : Nat) : Byte (xs.take m) := Byte.of_mem fun x hx => h.mem x (List.mem_of_mem_take hx)
theorem Two.below {w w' : World} {B N : Nat} {t : TypeId} {x y : Value} (h : Two w B t x y) (hb : Below N w w') (hB : B < N) : Two w' B t x y := (hb.block B hB).trans h
theorem bits_valid {xs : List Int} (h : Bits xs) : validB xs = true := by
  unfold validB
  rw [List.all_eq_true]
  intro x hx
  rcases h x hx with rfl | rfl <;> decide
theorem NewB.nil_ {w w' : World} {A : Option Addr} (hb : Below w.heap.size w w') : NewB w A [] none w' := ⟨Rd.nil _ _ _ _, fun a ha => by (cases ha), hb⟩

theorem any_snoc {p : Int → Bool} {xs : List Int} {k : Nat} {x : Int} {ys : List Int} (h : xs.take (k + 1) = ys ++ [x]) : (xs.take (k + 1)).any p = (ys.any p || p x) := by rw [h]; simp
theorem any_prefix {p : Int → Bool} {xs : List Int} {k : Nat} (h : (xs.take k).any p = true) : xs.any p = true := by
  rw [List.any_eq_true] at h ⊢
  obtain ⟨x, hx, hp⟩ := h
  exact ⟨x, List.mem_of_mem_take hx, hp⟩
theorem any_valid (xs : List Int) : xs.any (fun x => decide (1 < x)) = !(validB xs) := by
  unfold validB
  induction xs with
  | nil => rfl
  | cons x xs ih =>
    rw [List.any_cons, List.all_cons, ih, Bool.not_and]
    congr 1
    by_cases h : x ≤ 1
    · rw [decide_eq_true h, decide_eq_false (by omega)]; rfl
    · rw [decide_eq_false h, decide_eq_true (by omega)]; rfl
end Go.Proofs.YtnmkladmohjdnaaDoor
