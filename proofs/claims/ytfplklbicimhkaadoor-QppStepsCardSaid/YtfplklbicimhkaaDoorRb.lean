/-
  The reference: At, Order.
-/
import Derived.Test.YtfplklbicimhkaaDoorRa
namespace Go.Proofs.YtfplklbicimhkaaDoor
open Go.RowKit

/-- What one value of the reference costs: the steps, as they are reckoned. -/
structure PiR (k f1 f2 i a b c d p : Nat) : Prop where
  ha : (f1 : Int) * (i : Int) = (a : Int)
  hb : (f2 : Int) * (i : Int) = (b : Int)
  hc : (b : Int) % (k : Int) = (c : Int)
  hd : (c : Int) * (i : Int) = (d : Int)
  hp : ((a : Int) + (d : Int)) % (k : Int) = (p : Int)
  la : a ≤ 400000
  lb : b ≤ 40000000
  lc : c ≤ 6144
  ld : d ≤ 40000000
  lp : p < k
theorem piR {k i : Nat} (h : IsSize k) (hi : i < k) : ∃ a b c d, PiR k (f1N k) (f2N k) i a b c d (piN k (f1N k) (f2N k) i) := by
  have hk := size_le h
  have hq := qpOk_size h
  have h1 := hq.le1
  have h2 := hq.le2
  refine ⟨f1N k * i, f2N k * i, f2N k * i % k, f2N k * i % k * i, ⟨rfl, rfl, rfl, rfl, ?_, ?_, ?_, ?_, ?_, piN_lt hq i⟩⟩
  · rw [← piN_ref]; rfl
  · exact Nat.le_trans (Nat.mul_le_mul (Nat.le_of_lt h1) (Nat.le_of_lt (Nat.lt_of_lt_of_le hi hk.2))) (by decide)
  · exact Nat.le_trans (Nat.mul_le_mul (Nat.le_trans h2 hk.2) (Nat.le_of_lt (Nat.lt_of_lt_of_le hi hk.2))) (by decide)
  · exact Nat.le_trans (Nat.le_of_lt (Nat.mod_lt _ (by omega))) hk.2
  · exact Nat.le_trans (Nat.mul_le_mul (Nat.le_trans (Nat.le_of_lt (Nat.mod_lt _ (by omega))) hk.2) (Nat.le_of_lt (Nat.lt_of_lt_of_le hi hk.2))) (by decide)
set_option maxHeartbeats 1000000 in
theorem refAt_size {k i : Nat} {w : World} (h : IsSize k) (hi : i < k) :
    Calls Tryd.prog 15 #[.int .i64 (k : Int), .int .i64 (i : Int)] w fun e w' => e = .returned (.int .i64 (piN k (f1N k) (f2N k) i : Nat)) ∧ ∃ j, w' = w.drewN j := by
  have hP := Lib.hid (refParams_size (w := w) h)
  obtain ⟨a, b, c, d, ha, hb, hc, hd, hp, la, lb, lc, ld, lp⟩ := piR h hi
  have hk := size_le h
  generalize f1N k = f1 at *
  generalize f2N k = f2 at *
  generalize piN k f1 f2 i = p at *
  have hk0 : (k : Int) ≠ 0 := by omega
  clear h
  go_enter Tryd.func15, Tryd.ntmps15
  go_wp2_with (go_at_call 11; refine hP.out.mono ?_; rintro e w1 ⟨rfl, j, rfl⟩)
  go_ret
  exact ⟨ret_int (by first | rfl | exact hp), j, rfl⟩
/-- The order's first j elements, as integers. -/
def ordI (k j : Nat) : List Int := (List.range j).map fun i => ((piN k (f1N k) (f2N k) i : Nat) : Int)
theorem ordI_length (k j : Nat) : (ordI k j).length = j := by simp [ordI]
theorem ordI_succ (k j : Nat) : ordI k (j + 1) = ordI k j ++ [((piN k (f1N k) (f2N k) j : Nat) : Int)] := by simp [ordI, List.range_succ]
theorem ordI_get {k j i : Nat} (h : i < j) : (ordI k j)[i]?.getD 0 = ((piN k (f1N k) (f2N k) i : Nat) : Int) := by simp [ordI, h]
/-- append of one integer. -/
theorem ints_app {w wr : World} {n : Nat} {A : Option Addr} {c : Nat} {xs : List Int} (hO : wr.ownsRow w.heap.size 3 1 (.slice A n c) n (xs.map (Value.int .i64))) (hb : Below w.heap.size w wr) (hn : n < 100000) (x : Int) :
    ∃ A2 c2 w2, (Builtin.append_ #[33, 33] 33 #[.slice A n c, .slice (some ⟨wr.heap.size, 0, none⟩) 1 1]).run Tryd.prog (wr.alloc (.cells #[.int .i64 x] 3)) = .ok (.slice A2 (n + 1) c2) w2 ∧
      w2.ownsRow w.heap.size 3 1 (.slice A2 (n + 1) c2) (n + 1) ((xs ++ [x]).map (Value.int .i64)) ∧ Below w.heap.size w w2 := by
  obtain ⟨i0, hi, hz0, hz1, hz2⟩ := info_q Tryd.info_int
  obtain ⟨A2, c2, w2, h1, h2, h3⟩ := append_one_q (P := Tryd.prog) (q := .i64) (x := x) Tryd.underlying33 hi hz0 hz1 hz2 (by decide) hO (by omega) hb.size
  exact ⟨A2, c2, w2, h1, h2, (hb.alloc hb.size _).grown h3 (by simp; have := hb.size; omega) (fun k hk => (hO.lt k hk).1)⟩
/-- A function hands back a slice of integers of its own and a number. (q, T: the kind, the number of the element type.) -/
def RetQ (q : IntKind) (T : TypeId) (w : World) (r : List Int × Int) (e : Ending) (w' : World) : Prop :=
  ∃ A c, e = .returned (.tuple #[.slice A r.1.length c, .int .i64 r.2]) ∧ w'.ownsRow w.heap.size T 1 (.slice A r.1.length c) r.1.length (r.1.map (Value.int q)) ∧ Below w.heap.size w w'
theorem RetQ.nil_ {q : IntKind} {T : TypeId} {w w' : World} {k : Int} (hb : Below w.heap.size w w') : RetQ q T w ([], k) (.returned (.tuple #[.slice none 0 0, .int .i64 k])) w' := ⟨none, 0, rfl, by simpa using World.ownsRow_nil w' w.heap.size T 1, hb⟩
theorem RetQ.mk_ {q : IntKind} {T : TypeId} {w w' : World} {r : List Int} {A : Option Addr} {n c B : Nat} {k : Int} {e : Ending} (hlen : r.length = n) (hown : w'.ownsRow B T 1 (.slice A n c) n (r.map (Value.int q))) (hB : w.heap.size ≤ B) (hb : Below w.heap.size w w')
    (he : e = .returned (.tuple #[.slice A n c, .int .i64 k])) : RetQ q T w (r, k) e w' := by
  subst hlen
  exact ⟨A, c, he, hown.mono hB, hb⟩
def orderS (k : Int) : List Int × Int := if isB k then (ordI k.toNat k.toNat, 0) else ([], 2)
theorem orderS_size {k : Nat} (h : IsSize k) : orderS (k : Int) = (ordI k k, 0) := by
  unfold orderS
  rw [isB_nat, decide_eq_true h, if_pos rfl, Int.toNat_natCast]
theorem orderS_no {k : Int} (h : isB k = false) : orderS k = ([], 2) := by unfold orderS; rw [h]; rfl
set_option maxRecDepth 100000 in
set_option maxHeartbeats 4000000 in
theorem refOrder_any {k : Int} {w : World} :
    Calls Tryd.prog 18 #[.int .i64 k] w (RetQ .i64 3 w (orderS k)) := by
  by_cases h : isB k = true
  · obtain ⟨m, rfl, hs⟩ := isB_ex h
    rw [orderS_size hs]
    have hP := Lib.hid (refParams_size (w := w) hs)
    have hS := Lib.hid hs
    have hk := size_le hs
    have hk0 : (m : Int) ≠ 0 := by omega
    have hL := Lib.hid (ordI_length m m)
    clear h hs
    go_enter Tryd.func18, Tryd.ntmps18
    go_wp2_with (go_at_call 11; refine hP.out.mono ?_; rintro e w1 ⟨rfl, j, rfl⟩)
    have hb0 := below_drewN (Below.refl w.heap.size w) j
    go_loopw [7, 8] (fun s i wr => ∃ (t : Nat) (A : Option Addr) (c : Nat), t ≤ m ∧ i = .int .i64 (t : Int) ∧ s = .slice A t c ∧ Hid (wr.ownsRow w.heap.size 3 1 (.slice A t c) t ((ordI m t).map (Value.int .i64))) ∧ Hid (Below w.heap.size w wr)) (fun _ i _ => m - (intOf i).toNat)
    case atStart => exact ⟨0, none, 0, Nat.zero_le _, rfl, rfl, Lib.hid (by simpa [ordI] using World.ownsRow_nil (w.drewN j) w.heap.size 3 1), Lib.hid hb0⟩
    case round =>
      obtain ⟨t, A, c, ht, rfl, rfl, hO, hb⟩ := hrel
      by_cases hlt : t < m
      · obtain ⟨a, b, c', d, ha, hb', hc, hd, hp, la, lb, lc, ld, lp⟩ := piR hS.out hlt
        obtain ⟨A2, c2, w2, hrun, hO2, hb2⟩ := ints_app hO.out hb.out (by omega) ((piN m (f1N m) (f2N m) t : Nat) : Int)
        rw [← ordI_succ] at hO2
        have HR := Lib.hid hrun
        have HO2 := Lib.hid hO2
        have HB2 := Lib.hid hb2
        generalize f1N m = f1 at *
        generalize f2N m = f2 at *
        generalize piN m f1 f2 t = p at *
        clear hrun hO2 hb2 hO hb hP
        go_wp2_with (at_builtin; refine Lib.wpList_append_run _ rfl _ _ _ _ rfl _ _ rfl rfl _ _ HR.out ?_)
        go_roundw
        case rel => exact ⟨t + 1, A2, c2, by omega, by go_num, by first | rfl | simp, HO2, HB2⟩
        case measure => simp [intOf]; omega
      · obtain rfl : t = m := by omega
        clear hlt
        go_wp2_with fail
        go_ret2
        exact RetQ.mk_ hL.out hO.out (Nat.le_refl _) hb.out rfl
  · have h := Bool.eq_false_iff.2 h
    rw [orderS_no h]
    have hP := Lib.hid (refParams_any (k := k) (w := w))
    rw [parS_no h] at hP
    clear h
    go_enter Tryd.func18, Tryd.ntmps18
    go_wp2_with (go_at_call 11; refine hP.out.mono ?_; rintro e w1 ⟨rfl, j, rfl⟩)
    go_ret2
    exact RetQ.nil_ (below_drewN (Below.refl _ _) _)
end Go.Proofs.YtfplklbicimhkaaDoor
