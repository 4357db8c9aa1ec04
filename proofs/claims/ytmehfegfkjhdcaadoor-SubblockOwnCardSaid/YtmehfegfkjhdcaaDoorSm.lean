/-
  The references' Same, Own, Valid; slices.ContainsFunc at the two predicates.
-/
import Derived.Test.YtmehfegfkjhdcaaDoorApp
import Derived.Test.YtmehfegfkjhdcaaDoorQ
import Derived.Shelf.Abstract
import Derived.Test.YtmehfegfkjhdcaaDoorSbM
namespace Go.Proofs.YtmehfegfkjhdcaaDoor
open Go.RowKit Go.Shelf

theorem drewN_two (w : World) (i j : Nat) : (w.drewN i).drewN j = w.drewN (i + j) := by simp [World.drewN, Nat.add_assoc]
set_option maxHeartbeats 1000000 in
/-- The reference's Same. -/
theorem same_any {A A' : Option Addr} {n c n' c' B B' : Nat} {xs ys : List Int} {w : World} (h : Rd .u8 w B A n xs) (h' : Rd .u8 w B' A' n' ys) (hn : n ≤ 140737488351232) (hn' : n' ≤ 140737488351232) :
    Calls Tryd.prog 22 #[.slice A n c, .slice A' n' c'] w fun e w' => e = .returned (.bool (decide (xs = ys))) ∧ ∃ i, w' = w.drewN i := by
  have hl := Lib.hid h.len
  have hl' := Lib.hid h'.len
  by_cases hnn : n = n'
  · subst hnn
    go_enter Tryd.func22, Tryd.ntmps22
    go_wp2_with fail
    go_loopw [5] (fun i wr => ∃ k j : Nat, k ≤ n ∧ i = .int .i64 k ∧ (xs.take k = ys.take k) ∧ wr = w.drewN j) (fun i _ => n - (intOf i).toNat)
    case atStart => exact ⟨0, 0, Nat.zero_le _, rfl, rfl, rfl⟩
    case round =>
      obtain ⟨k, j, hk, rfl, hv, rfl⟩ := hrel
      have hV := Lib.hid hv; clear hv
      by_cases hlt : k < n
      · obtain ⟨b, off, rfl, hb1, hc⟩ := h.cells k hlt
        obtain ⟨b', off', rfl, hb1', hc'⟩ := h'.cells k hlt
        have hT1 := Lib.hid (take_snoc xs k (by rw [hl.out]; exact hlt) 0)
        have hT2 := Lib.hid (take_snoc ys k (by rw [hl'.out]; exact hlt) 0)
        have hE := Lib.hid (fun e : xs = ys => show xs[k]?.getD 0 = ys[k]?.getD 0 by rw [e])
        generalize xs[k]?.getD 0 = x at *
        generalize ys[k]?.getD 0 = y at *
        have hc2 : World.cell? (w.drewN j) ⟨b, off + k, none⟩ = some (.int .u8 x) := hc
        have hc2' : World.cell? (w.drewN j) ⟨b', off' + k, none⟩ = some (.int .u8 y) := hc'
        have hk0 : (0 : Int) ≤ (k : Int) := by omega
        have hk1 : (k : Int) < (n : Int) := by omega
        clear h h' hb1 hb1'
        by_cases hxy : x = y
        · subst hxy
          go_wp2_with fail
          go_quiet (fail)
          go_wp2_with fail
          go_roundw
          case rel => exact ⟨k + 1, _, by omega, by go_num, by rw [hT1.out, hT2.out, hV.out], by first | rfl | exact drewN_two _ _ _⟩
          case measure => simp [intOf]; omega
        · have hd : (x != y) = true := by simp [hxy]
          have hE2 : Hid (¬ xs = ys) := Lib.hid (fun e => hxy (hE.out e))
          clear hxy
          go_wp2_with fail
          go_quiet (fail)
          go_wp2_with fail
          go_ret
          exact ⟨ret_bool (by simp [hE2.out]), _, by first | rfl | exact drewN_two _ _ _⟩
      · obtain rfl : k = n := by omega
        clear hlt h h'
        go_wp2_with fail
        go_ret
        have e1 := hV.out
        rw [List.take_of_length_le (Nat.le_of_eq hl.out), List.take_of_length_le (Nat.le_of_eq hl'.out)] at e1
        exact ⟨ret_bool (by simp [e1]), j, rfl⟩
  · have hd : ((n : Int) != (n' : Int)) = true := by simp; omega
    have hne : Hid (¬ xs = ys) := Lib.hid (fun e : xs = ys => hnn (by rw [← hl.out, ← hl'.out, e]))
    clear hnn h h'
    go_enter Tryd.func22, Tryd.ntmps22
    go_wp2_with fail
    go_ret
    exact ⟨ret_bool (by simp [hne.out]), 0, rfl⟩
theorem own_any {A : Option Addr} {n c : Nat} {xs : List Int} {w : World} (hI : Rd .u8 w w.heap.size A n xs) (hn : n ≤ 2199023255552) :
    Calls Tryd.prog 23 #[.slice A n c] w fun e w' => ∃ A2 c2, e = .returned (.slice A2 n c2) ∧
      w'.ownsRow w.heap.size 5 1 (.slice A2 n c2) n (xs.map (Value.int .u8)) ∧ Below w.heap.size w w' := by
  obtain ⟨i0, hi, hz0, hz1, hz2⟩ := info_parts Tryd.info_u8
  obtain ⟨V2, w2, h1, h2, h3, _⟩ := run_append_rd_at (P := Tryd.prog) (t := 33) (ty := 33) (base := w.heap.size) (c' := c) (xs := []) Tryd.underlying33 hi hz0 hz1 hz2 (by simpa using World.ownsRow_nil w w.heap.size 5 1) hI (by omega) (Nat.le_refl _)
  obtain ⟨A2, c2, rfl⟩ := ownsRow_shape h2
  rw [Nat.zero_add] at h1 h2
  have hO := Lib.hid h2; have hR := Lib.hid h1; have hG := Lib.hid h3
  clear h1 h2 h3
  go_enter Tryd.func23, Tryd.ntmps23
  go_wp2_with (at_builtin; refine Lib.wpList_append_run _ rfl _ _ _ _ rfl _ _ rfl rfl _ _ hR.out ?_)
  go_ret
  exact ⟨A2, c2, rfl, by simpa using hO.out, (Below.refl _ w).grown hG.out (Nat.le_refl _) (fun g hg => by cases hg)⟩
theorem refValid_any {A : Option Addr} {n c B : Nat} {xs : List Int} {w : World} (h : Rd .u8 w B A n xs) (hn : n ≤ 140737488351232) :
    Calls Tryd.prog 20 #[.slice A n c] w fun e w' => e = .returned (.bool (validB xs)) ∧ w = w' := by
  have hl := Lib.hid h.len
  go_enter Tryd.func20, Tryd.ntmps20
  go_wp2
  go_loop [3] (fun i => ∃ k : Nat, k ≤ n ∧ i = .int .i64 k ∧ validB (xs.take k) = true) (fun i => n - (intOf i).toNat)
  case atStart => exact ⟨0, Nat.zero_le _, rfl, rfl⟩
  case round =>
    obtain ⟨k, hk, rfl, hv⟩ := hrel
    have hV := Lib.hid hv; clear hv
    by_cases hlt : k < n
    · obtain ⟨b, off, rfl, _, hc⟩ := h.cells k hlt
      have hS := Lib.hid (take_snoc xs k (by rw [hl.out]; exact hlt) 0)
      go_wp2
      · go_ret
        have hx : 1 < xs[k]?.getD 0 := by assumption
        refine ⟨ret_bool (Eq.symm ?_), rfl⟩
        have : validB (xs.take (k + 1)) = false := by rw [hS.out, validB_snoc]; simp; intro _; exact hx
        exact validB_prefix this
      · go_round
        case rel => exact ⟨k + 1, by omega, by go_num, by rw [hS.out, validB_snoc, hV.out]; simp; omega⟩
        case measure => simp [intOf]; omega
    · obtain rfl : k = n := by omega
      go_wp2
      go_ret
      rw [← hl.out, List.take_length] at hV
      exact ⟨ret_bool hV.out.symm, rfl⟩
set_option maxHeartbeats 1000000 in
/-- The reference's Same, of integers. -/
theorem sameI_any {A A' : Option Addr} {n c n' c' B B' : Nat} {xs ys : List Int} {w : World} (h : Rd .i64 w B A n xs) (h' : Rd .i64 w B' A' n' ys) (hn : n ≤ 140737488351232) (hn' : n' ≤ 140737488351232) :
    Calls Tryd.prog 13 #[.slice A n c, .slice A' n' c'] w fun e w' => e = .returned (.bool (decide (xs = ys))) ∧ ∃ i, w' = w.drewN i := by
  have hl := Lib.hid h.len
  have hl' := Lib.hid h'.len
  by_cases hnn : n = n'
  · subst hnn
    go_enter Tryd.func13, Tryd.ntmps13
    go_wp2_with fail
    go_loopw [5] (fun i wr => ∃ k j : Nat, k ≤ n ∧ i = .int .i64 k ∧ (xs.take k = ys.take k) ∧ wr = w.drewN j) (fun i _ => n - (intOf i).toNat)
    case atStart => exact ⟨0, 0, Nat.zero_le _, rfl, rfl, rfl⟩
    case round =>
      obtain ⟨k, j, hk, rfl, hv, rfl⟩ := hrel
      have hV := Lib.hid hv; clear hv
      by_cases hlt : k < n
      · obtain ⟨b, off, rfl, hb1, hc⟩ := h.cells k hlt
        obtain ⟨b', off', rfl, hb1', hc'⟩ := h'.cells k hlt
        have hT1 := Lib.hid (take_snoc xs k (by rw [hl.out]; exact hlt) 0)
        have hT2 := Lib.hid (take_snoc ys k (by rw [hl'.out]; exact hlt) 0)
        have hE := Lib.hid (fun e : xs = ys => show xs[k]?.getD 0 = ys[k]?.getD 0 by rw [e])
        generalize xs[k]?.getD 0 = x at *
        generalize ys[k]?.getD 0 = y at *
        have hc2 : World.cell? (w.drewN j) ⟨b, off + k, none⟩ = some (.int .i64 x) := hc
        have hc2' : World.cell? (w.drewN j) ⟨b', off' + k, none⟩ = some (.int .i64 y) := hc'
        have hk0 : (0 : Int) ≤ (k : Int) := by omega
        have hk1 : (k : Int) < (n : Int) := by omega
        clear h h' hb1 hb1'
        by_cases hxy : x = y
        · subst hxy
          go_wp2_with fail
          go_quiet (fail)
          go_wp2_with fail
          go_roundw
          case rel => exact ⟨k + 1, _, by omega, by go_num, by rw [hT1.out, hT2.out, hV.out], by first | rfl | exact drewN_two _ _ _⟩
          case measure => simp [intOf]; omega
        · have hd : (x != y) = true := by simp [hxy]
          have hE2 : Hid (¬ xs = ys) := Lib.hid (fun e => hxy (hE.out e))
          clear hxy
          go_wp2_with fail
          go_quiet (fail)
          go_wp2_with fail
          go_ret
          exact ⟨ret_bool (by simp [hE2.out]), _, by first | rfl | exact drewN_two _ _ _⟩
      · obtain rfl : k = n := by omega
        clear hlt h h'
        go_wp2_with fail
        go_ret
        have e1 := hV.out
        rw [List.take_of_length_le (Nat.le_of_eq hl.out), List.take_of_length_le (Nat.le_of_eq hl'.out)] at e1
        exact ⟨ret_bool (by simp [e1]), j, rfl⟩
  · have hd : ((n : Int) != (n' : Int)) = true := by simp; omega
    have hne : Hid (¬ xs = ys) := Lib.hid (fun e : xs = ys => hnn (by rw [← hl.out, ← hl'.out, e]))
    clear hnn h h'
    go_enter Tryd.func13, Tryd.ntmps13
    go_wp2_with fail
    go_ret
    exact ⟨ret_bool (by simp [hne.out]), 0, rfl⟩
theorem sameI_true {w : World} {A A' : Option Addr} {n n' c c' B B' : Nat} {xs : List Int} (h : Rd .i64 w B A n xs) (h' : Rd .i64 w B' A' n' xs) (hn : n ≤ 1000000) :
    Calls Tryd.prog 13 #[.slice A n c, .slice A' n' c'] w fun e w' => e = .returned (.bool true) ∧ Below w.heap.size w w' := by
  have e : n = n' := by rw [← h.len, ← h'.len]
  refine (sameI_any h h' (by omega) (by omega)).mono ?_
  rintro e w' ⟨rfl, i, rfl⟩
  exact ⟨ret_bool (by simp), below_drewN (Below.refl _ _) i⟩
/-- A literal of bytes. -/
theorem lit_rd {w : World} (xs : List Int) (t : TypeId) : Rd .u8 (w.alloc (.cells (xs.map (Value.int .u8)).toArray t)) (w.alloc (.cells (xs.map (Value.int .u8)).toArray t)).heap.size (some ⟨w.heap.size, 0, none⟩) xs.length xs :=
  (rd_lit w xs t).more (by simp)
theorem same_true {w : World} {A A' : Option Addr} {n n' c c' B B' : Nat} {xs : List Int} (h : Rd .u8 w B A n xs) (h' : Rd .u8 w B' A' n' xs) (hn : n ≤ 1000000) :
    Calls Tryd.prog 22 #[.slice A n c, .slice A' n' c'] w fun e w' => e = .returned (.bool true) ∧ Below w.heap.size w w' := by
  have e : n = n' := by rw [← h.len, ← h'.len]
  refine (same_any h h' (by omega) (by omega)).mono ?_
  rintro e w' ⟨rfl, i, rfl⟩
  exact ⟨ret_bool (by simp), below_drewN (Below.refl _ _) i⟩
theorem own_low {w1 w2 : World} {t : TypeId} {A : Option Addr} {n c : Nat} {xs : List Value} (h : w2.ownsRow w1.heap.size t 1 (.slice A n c) n xs) (hn : 0 < n) : ∀ a, A = some a → w1.heap.size ≤ a.block ∧ a.block < w2.heap.size := by
  rintro a rfl
  obtain ⟨g, cap, h1, h2, h3⟩ := h.form hn
  injection h1 with h1
  injection h1 with h1
  subst h1
  exact ⟨h2, h3⟩
theorem own_step {w w' : World} {base n : Nat} {t : TypeId} {V : Value} {xs : List Value} (h : w.ownsRow base t 1 V n xs) (hb : Below w.heap.size w w') : w'.ownsRow base t 1 V n xs :=
  ownsRow_save h (Save.of_below (X := fun i => w.heap.size ≤ i) hb) (fun g hg => by have := (h.lt g hg).2; omega)
/-- A slice of the call's own, whatever it holds. -/
def Has (w : World) (lo : Nat) (V : Value) (n : Nat) : Prop := ∃ ys, w.ownsRow lo 5 1 V n ys
theorem Has.of {w : World} {lo n : Nat} {V : Value} {ys : List Value} (h : w.ownsRow lo 5 1 V n ys) : Has w lo V n := ⟨ys, h⟩
theorem Has.setCell {w : World} {lo n : Nat} {V : Value} (h : Has w lo V n) (b o : Nat) (u : Value) : Has (w.setCell ⟨b, o, none⟩ u) lo V n := by
  obtain ⟨ys, hl, h2⟩ := h
  obtain ⟨p, hpe⟩ : ∃ p : Addr, p = ⟨b, o, none⟩ := ⟨_, rfl⟩
  have hsp : p.spot = none := by rw [hpe]
  rw [← hpe]
  rcases h2 with ⟨rfl, rfl⟩ | ⟨g, cap, cur, rfl, hb, hg, hnc, hcm, hcs, ht⟩
  · exact ⟨ys, hl, .inl ⟨rfl, rfl⟩⟩
  · by_cases hp : g = p.block
    · subst hp
      have hg2 : ∃ cur2 : Array Value, (w.setCell p u).heap[p.block]? = some (.cells cur2 5 (0, 0)) ∧ cur2.size = cur.size := by
        refine ⟨cur.setIfInBounds p.off u, ?_, by simp⟩
        simp only [World.setCell, Array.getElem?_modify, hg]
        simp [hsp]
      obtain ⟨cur2, h3, h4⟩ := hg2
      refine ⟨cur2.toList.take (n * 1), ?_, .inr ⟨p.block, cap, cur2, rfl, hb, h3, hnc, hcm, by rw [h4]; exact hcs, rfl⟩⟩
      rw [List.length_take, Array.length_toList, h4, hcs]
      omega
    · exact ⟨ys, hl, .inr ⟨g, cap, cur, rfl, hb, (Below.heap_setCell _ _ _ _ hp).trans hg, hnc, hcm, hcs, ht⟩⟩
theorem Has.save {X : Nat → Prop} {w w' : World} {lo n : Nat} {V : Value} (h : Has w lo V n) (hs : Save X w w') (hX : ∀ g, V.ownBlock = some g → ¬ X g) : Has w' lo V n := by
  obtain ⟨ys, hy⟩ := h
  exact ⟨ys, ownsRow_save hy hs hX⟩
theorem Has.step {w w' : World} {lo n : Nat} {V : Value} (h : Has w lo V n) (hb : Below w.heap.size w w') : Has w' lo V n := by
  obtain ⟨ys, hy⟩ := h
  exact ⟨ys, own_step hy hb⟩
theorem Has.mono {w : World} {lo lo' n : Nat} {V : Value} (h : Has w lo V n) (hl : lo' ≤ lo) : Has w lo' V n := by
  obtain ⟨ys, hy⟩ := h
  exact ⟨ys, hy.mono hl⟩
theorem slice_front {A : Option Addr} {n c m : Nat} (hm : m ≤ c) (u : World) : (Instr.slice 33 (.slice A n c) none (some (.int .i64 (m : Int))) none).run Tryd.prog u = .ok (.slice A m c) u := by
  rcases A with _ | a
  · simp [Instr.slice, Instr.sliceBounds, Instr.sliceBound, run_underlying Tryd.underlying33, asIntOf, go_sem, hm]
  · simp [Instr.slice, Instr.sliceBounds, Instr.sliceBound, run_underlying Tryd.underlying33, asIntOf, go_sem, hm]
theorem Rd.take {q : IntKind} {w : World} {B n : Nat} {A : Option Addr} {xs : List Int} (h : Rd q w B A n xs) {m : Nat} (hm : m ≤ n) : Rd q w B A m (xs.take m) := by
  refine ⟨by rw [List.length_take, h.len]; omega, fun k hk => ?_⟩
  obtain ⟨b, off, e, hb, hc⟩ := h.cells k (by omega)
  exact ⟨b, off, e, hb, by rw [hc, List.getElem?_take, if_pos hk]⟩
theorem Byte.take {xs : List Int} (h : Byte xs) (m : Nat) : Byte (xs.take m) := Byte.of_mem fun x hx => h.mem x (List.mem_of_mem_take hx)
theorem Two.below {w w' : World} {B N : Nat} {t : TypeId} {x y : Value} (h : Two w B t x y) (hb : Below N w w') (hB : B < N) : Two w' B t x y := (hb.block B hB).trans h
theorem bits_valid {xs : List Int} (h : Bits xs) : validB xs = true := by
  unfold validB
  rw [List.all_eq_true]
  intro x hx
  rcases h x hx with rfl | rfl <;> decide
theorem NewB.nil_ {w w' : World} {A : Option Addr} (hb : Below w.heap.size w w') : NewB w A [] none w' := ⟨Rd.nil _ _ _ _, fun a ha => by (cases ha), hb⟩

theorem noBit_any {x : Int} {w : World} : Calls Tryd.prog 29 #[.int .u8 x] w fun e w' => e = .returned (.bool (decide (1 < x))) ∧ w' = w := by
  go_enter Tryd.func29, Tryd.ntmps29
  go_wp2
  go_ret
  exact ⟨rfl, rfl⟩
theorem noDummy_any {x : Int} {w : World} : Calls Tryd.prog 31 #[.int .u8 x] w fun e w' => e = .returned (.bool (x != 2)) ∧ w' = w := by
  go_enter Tryd.func31, Tryd.ntmps31
  go_wp2
  go_ret
  exact ⟨rfl, rfl⟩
theorem any_snoc {p : Int → Bool} {xs : List Int} {k : Nat} {x : Int} {ys : List Int} (h : xs.take (k + 1) = ys ++ [x]) : (xs.take (k + 1)).any p = (ys.any p || p x) := by rw [h]; simp
theorem any_prefix {p : Int → Bool} {xs : List Int} {k : Nat} (h : (xs.take k).any p = true) : xs.any p = true := by
  rw [List.any_eq_true] at h ⊢
  obtain ⟨x, hx, hp⟩ := h
  exact ⟨x, List.mem_of_mem_take hx, hp⟩
set_option maxHeartbeats 1000000 in
theorem indexFunc_any {G : Nat} {p : Int → Bool} {A : Option Addr} {n c B : Nat} {xs : List Int} {w : World} (eG : ∀ args w, (callFunc G args).run Tryd.prog w = .ok (.enter G args) w) (hG : ∀ x, Calls Tryd.prog G #[.int .u8 x] w fun e w' => e = .returned (.bool (p x)) ∧ w' = w) (h : Rd .u8 w B A n xs) (hn : n ≤ 1000000) :
    Calls Tryd.prog 35 #[.slice A n c, .func (.func G) #[] #[]] w fun e w' => (∃ k : Int, e = .returned (.int .i64 k) ∧ decide (0 ≤ k) = xs.any p) ∧ w' = w := by
  have hl := Lib.hid h.len
  have hb := Lib.hid hG
  clear hG
  go_enter Tryd.func35, Tryd.ntmps35
  go_wp2_with fail
  go_loop [8] (fun i => ∃ k : Nat, k ≤ n ∧ i = .int .i64 k ∧ (xs.take k).any p = false) (fun i => n - (intOf i).toNat)
  case atStart => exact ⟨0, Nat.zero_le _, rfl, rfl⟩
  case round =>
    obtain ⟨k, hk, rfl, hv⟩ := hrel
    have hV := Lib.hid hv; clear hv
    by_cases hlt : k < n
    · obtain ⟨b, off, rfl, _, hc⟩ := h.cells k hlt
      have hS := Lib.hid (any_snoc (p := p) (take_snoc xs k (by rw [hl.out]; exact hlt) 0))
      have hbk := Lib.hid (hb.out (xs[k]?.getD 0))
      generalize xs[k]?.getD 0 = x at *
      cases hx : p x
      · have HX := Lib.hid hx
        rw [hx] at hbk
        clear hx
        go_wp2_with (refine hbk.out.mono ?_; rintro e w1 ⟨rfl, rfl⟩)
        go_round
        case rel => exact ⟨k + 1, by omega, by go_num, by rw [hS.out, hV.out, HX.out]; rfl⟩
        case measure => simp [intOf]; omega
      · have HX := Lib.hid hx
        rw [hx] at hbk
        clear hx
        go_wp2_with (refine hbk.out.mono ?_; rintro e w1 ⟨rfl, rfl⟩)
        go_ret
        have hbad : xs.any p = true := any_prefix (k := k + 1) (by rw [hS.out, HX.out]; simp)
        exact ⟨⟨_, rfl, by rw [hbad]; simp⟩, rfl⟩
    · obtain rfl : k = n := by omega
      rw [← hl.out, List.take_length] at hV
      go_wp2_with fail
      go_ret
      exact ⟨⟨_, rfl, by rw [hV.out]; rfl⟩, rfl⟩
theorem containsFunc_any {G : Nat} {p : Int → Bool} {A : Option Addr} {n c B : Nat} {xs : List Int} {w : World} (eG : ∀ args w, (callFunc G args).run Tryd.prog w = .ok (.enter G args) w) (hG : ∀ x, Calls Tryd.prog G #[.int .u8 x] w fun e w' => e = .returned (.bool (p x)) ∧ w' = w) (h : Rd .u8 w B A n xs) (hn : n ≤ 1000000) :
    Calls Tryd.prog 28 #[.slice A n c, .func (.func G) #[] #[]] w fun e w' => e = .returned (.bool (xs.any p)) ∧ w' = w := by
  have hi := Lib.hid (indexFunc_any (c := c) eG hG h hn)
  clear hG
  go_enter Tryd.func28, Tryd.ntmps28
  go_wp2_with fail
  refine hi.out.mono ?_
  rintro e w1 ⟨⟨k, rfl, hk⟩, rfl⟩
  have HK := Lib.hid hk
  clear hk
  go_wp2_with fail
  go_ret
  exact ⟨ret_bool HK.out, rfl⟩
theorem any_valid (xs : List Int) : xs.any (fun x => decide (1 < x)) = !(validB xs) := by
  unfold validB
  induction xs with
  | nil => rfl
  | cons x xs ih =>
    rw [List.any_cons, List.all_cons, ih, Bool.not_and]
    congr 1
    by_cases h : x ≤ 1
    · rw [decide_eq_true h, decide_eq_false (by omega)]; rfl
    · rw [decide_eq_false h, decide_eq_true (by omega)]; rfl
theorem containsBad_any {A : Option Addr} {n c B : Nat} {xs : List Int} {w : World} (h : Rd .u8 w B A n xs) (hn : n ≤ 1000000) :
    Calls Tryd.prog 28 #[.slice A n c, .func (.func 29) #[] #[]] w fun e w' => e = .returned (.bool (!(validB xs))) ∧ w' = w := by
  rw [← any_valid]
  exact containsFunc_any (enters_of Tryd.func29 (by kernel_rfl) rfl) (fun x => noBit_any) h hn
theorem containsFull_any {A : Option Addr} {n c B : Nat} {xs : List Int} {w : World} (h : Rd .u8 w B A n xs) (hn : n ≤ 1000000) :
    Calls Tryd.prog 28 #[.slice A n c, .func (.func 31) #[] #[]] w fun e w' => e = .returned (.bool (xs.any (fun x => x != 2))) ∧ w' = w :=
  containsFunc_any (enters_of Tryd.func31 (by kernel_rfl) rfl) (fun x => noDummy_any) h hn
end Go.Proofs.YtmehfegfkjhdcaaDoor
