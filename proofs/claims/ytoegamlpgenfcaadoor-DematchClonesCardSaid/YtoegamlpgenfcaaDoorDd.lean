/-
  initial: the values of a new buffer. New.
-/
import Derived.Test.YtoegamlpgenfcaaDoorDb
import Derived.Deep.RegionHeld3
namespace Go.Proofs.YtoegamlpgenfcaaDoor
/-! ### initial: the values of a new buffer. -/
section
open Go.RowKit Go.Shelf

/-- Of the first two streams the first a and b values are those of fillers. -/
def fl2 (L N a b : Nat) : List Int := (List.range N).map fun p => if (decide (p < a) || (decide (L ≤ p) && decide (p < L + b))) = true then 127 else 0
theorem fl2_length (L N a b : Nat) : (fl2 L N a b).length = N := by simp [fl2]
theorem fl2_at {L N a b p : Nat} (h : p < N) : (fl2 L N a b)[p]?.getD 0 = if (decide (p < a) || (decide (L ≤ p) && decide (p < L + b))) = true then 127 else 0 := by
  unfold fl2
  rw [List.getElem?_map, List.getElem?_range h]; rfl
theorem fl2_zero (L N : Nat) : fl2 L N 0 0 = List.replicate N 0 := by
  refine list_ext0 (by rw [fl2_length, List.length_replicate]) (fun i hi => ?_)
  rw [List.length_replicate] at hi
  rw [fl2_at hi, if_neg (by simp), List.getElem?_replicate, if_pos hi]
  rfl
theorem fl2_a {L N a : Nat} (h : a < L) (hN : L ≤ N) : (fl2 L N a 0).set a 127 = fl2 L N (a + 1) 0 := by
  refine list_ext0 (by rw [List.length_set, fl2_length, fl2_length]) (fun i hi => ?_)
  rw [fl2_length] at hi
  rw [set_get _ _ _ _ (by rw [fl2_length]; omega), fl2_at hi, fl2_at hi]
  by_cases e : i = a
  · subst e; rw [if_pos rfl, if_pos (by simp)]
  · rw [if_neg e]
    by_cases e2 : i < a
    · rw [if_pos (by simp [e2]), if_pos (by simp; omega)]
    · rw [if_neg (by simp; omega), if_neg (by simp; omega)]
theorem fl2_b {L N a b : Nat} (h : b < L) (hN : L + L ≤ N) : (fl2 L N a b).set (L + b) 127 = fl2 L N a (b + 1) := by
  refine list_ext0 (by rw [List.length_set, fl2_length, fl2_length]) (fun i hi => ?_)
  rw [fl2_length] at hi
  rw [set_get _ _ _ _ (by rw [fl2_length]; omega), fl2_at hi, fl2_at hi]
  by_cases e : i = L + b
  · subst e; rw [if_pos rfl, if_pos (by simp)]
  · rw [if_neg e]
    by_cases e2 : i < a ∨ (L ≤ i ∧ i < L + b)
    · rw [if_pos (by simp; omega), if_pos (by simp; omega)]
    · rw [if_neg (by simp; omega), if_neg (by simp; omega)]
theorem fl2_new (k f : Nat) : fl2 (k + 4) (3 * (k + 4)) f f = newV k f := by
  refine list_ext0 (by rw [fl2_length, newV_length]) (fun i hi => ?_)
  rw [newV_length] at hi
  rw [fl2_at hi, newV_at hi]
  unfold fillB
  rfl
theorem own_below {w w' : World} {base n : Nat} {e : TypeId} {v : Value} {xs : List Value} (h : w.ownsRow base e 1 v n xs) (hb : Below w.heap.size w w') : w'.ownsRow base e 1 v n xs :=
  ownsRow_save h (Save.of_below (X := fun _ => False) hb) (fun _ _ h => h)
/-- A value of a slice of one's own is stored. -/
theorem own_put {w wr : World} {D N c p : Nat} {l l2 : List Int} {x : Int} (hO : wr.ownsRow w.heap.size 3 1 (.slice (some ⟨D, 0, none⟩) N c) N (l.map (Value.int .i64))) (hp : l.set p x = l2) (hl : p < l.length) :
    (wr.setCell ⟨D, p, none⟩ (.int .i64 x)).ownsRow w.heap.size 3 1 (.slice (some ⟨D, 0, none⟩) N c) N (l2.map (Value.int .i64)) ∧ wr.frozen? ⟨D, p, none⟩ = false ∧ ∃ y, wr.cell? ⟨D, p, none⟩ = some y := by
  have hst := (World.ownsRow.stored hO p (.int .i64 x)).1
  rw [← List.map_set, hp] at hst
  refine ⟨hst, World.ownsRow.frozenAt hO p, ?_⟩
  have hlen : N = l.length := by have := hO.1; simpa using this.symm
  have hcx := World.ownsRow.cellAt hO p (by omega)
  rw [List.getElem?_eq_getElem (by rw [List.length_map]; omega)] at hcx
  exact ⟨_, hcx⟩
set_option maxRecDepth 100000 in
set_option maxHeartbeats 2000000 in
theorem initial_any {k f : Nat} {l : Int} {w : World} (h1 : 40 ≤ k) (h2 : k ≤ 6144) (h3 : f < k) :
    Calls Tryd.prog 31 #[.agg #[.int .i64 (k : Int), .int .i64 (f : Int), .int .i64 l]] w (RetI w (newV k f)) := by
  obtain ⟨L, hL⟩ : ∃ L, k + 4 = L := ⟨_, rfl⟩
  obtain ⟨N, hN⟩ : ∃ N, 3 * L = N := ⟨_, rfl⟩
  have e1 : (k : Int) + 4 = (L : Int) := by omega
  have e2 : 3 * (L : Int) = (N : Int) := by omega
  have l0 : 44 ≤ (L : Int) := by omega
  have l1 : (L : Int) ≤ 6148 := by omega
  have l2 : (N : Int) ≤ 18444 := by omega
  have f1 : (f : Int) < (L : Int) := by omega
  have k0 : 40 ≤ (k : Int) := by omega
  have k1 : (k : Int) ≤ 6144 := by omega
  have hmk := fun u => make_ints N (by omega) u
  have hC := Lib.hid (fun (g : Nat) (u : World) => cut_any (k := (k : Int)) (f := (f : Int)) (l := l) (g := g) (N := N) (c := N) (L := L) (w := u) e1 (by omega) (by omega) (by omega))
  have hnew := Lib.hid (fl2_new k f)
  rw [hL, hN] at hnew
  have hlen := Lib.hid (newV_length k f)
  rw [hL, hN] at hlen
  generalize newV k f = res at *
  obtain ⟨w1, hw1⟩ : ∃ W, W = w.alloc (.cells #[.int .i64 (k : Int), .int .i64 (f : Int), .int .i64 l] 47) := ⟨_, rfl⟩
  have hb1 : Below w.heap.size w w1 := by rw [hw1]; exact (Below.refl _ w).alloc (Nat.le_refl _) _
  have hs1 : w1.heap.size = w.heap.size + 1 := by rw [hw1]; simp
  have hO := own_zeros_q (q := .i64) (T := 3) (w := w1) (B := w.heap.size) (n := N) hb1.size (by omega)
  rw [hs1, ← fl2_zero L N] at hO
  have hb2 := hb1.alloc hb1.size (.cells (madeCells #[.int .i64 0] N) 3)
  have hP : w1.heap[w.heap.size]? = some (.cells #[.int .i64 (k : Int), .int .i64 (f : Int), .int .i64 l] 47) := by rw [hw1]; exact World.alloc_heap_new _ _
  have hP2 : (w1.alloc (.cells (madeCells #[.int .i64 0] N) 3)).heap[w.heap.size]? = some (.cells #[.int .i64 (k : Int), .int .i64 (f : Int), .int .i64 l] 47) := (Below.heap_alloc _ _ _ (by omega)).trans hP
  have HO := Lib.hid hO
  have HB := Lib.hid hb2
  have HP := Lib.hid hP2
  have hND := Lib.hid hN
  have hfl := Lib.hid (show f < L by omega)
  subst hw1
  clear hO hb2 hP hP2 hs1 hb1 h1 h2 h3 hL hN
  go_enter Tryd.func31, Tryd.ntmps31
  go_wp2_with fail
  refine (hC.out _ _).mono ?_
  rintro e w2 ⟨rfl, b2⟩
  unfold cutV
  have hO := own_below HO.out b2
  have hb := HB.out.trans (b2.mono HB.out.size)
  have hP := blk_below HP.out b2
  have hT := Three.new w2 73 (.slice (some ⟨w.heap.size + 1, 0, none⟩) L L) (.slice (some ⟨w.heap.size + 1, L, none⟩) L L) (.slice (some ⟨w.heap.size + 1, L + L, none⟩) L L)
  have hlt : w.heap.size + 1 < w2.heap.size := by have := b2.size; simp at this; omega
  have hO3 := Lib.hid (World.ownsRow.alloc hO (.cells #[.slice (some ⟨w.heap.size + 1, 0, none⟩) L L, .slice (some ⟨w.heap.size + 1, L, none⟩) L L, .slice (some ⟨w.heap.size + 1, L + L, none⟩) L L] 73))
  have hP3 := Lib.hid ((Below.heap_alloc w2 (.cells #[.slice (some ⟨w.heap.size + 1, 0, none⟩) L L, .slice (some ⟨w.heap.size + 1, L, none⟩) L L, .slice (some ⟨w.heap.size + 1, L + L, none⟩) L L] 73) w.heap.size (by omega)).trans hP)
  have hT3 := Lib.hid hT
  have hb3 := Lib.hid (hb.alloc hb.size (.cells #[.slice (some ⟨w.heap.size + 1, 0, none⟩) L L, .slice (some ⟨w.heap.size + 1, L, none⟩) L L, .slice (some ⟨w.heap.size + 1, L + L, none⟩) L L] 73))
  clear hO hb hP hT hC HO HB HP hmk b2
  go_wp2_with fail
  have HLT := Lib.hid hlt
  clear hlt
  go_loopw [18] (fun i wr => ∃ a b : Nat, ((i = .int .i64 0 ∧ a = 0 ∧ b = 0) ∨ (i = .int .i64 1 ∧ f = a ∧ b = 0) ∨ (i = .int .i64 2 ∧ f = a ∧ f = b)) ∧ Hid (wr.ownsRow w.heap.size 3 1 (.slice (some ⟨w.heap.size + 1, 0, none⟩) N N) N ((fl2 L N a b).map (Value.int .i64))) ∧
    Hid (wr.heap[w.heap.size]? = some (.cells #[.int .i64 (k : Int), .int .i64 (f : Int), .int .i64 l] 47)) ∧ Hid (Three wr w2.heap.size 73 (.slice (some ⟨w.heap.size + 1, 0, none⟩) L L) (.slice (some ⟨w.heap.size + 1, L, none⟩) L L) (.slice (some ⟨w.heap.size + 1, L + L, none⟩) L L)) ∧ Hid (Below w.heap.size w wr)) (fun i _ => 2 - (intOf i).toNat)
  case atStart => exact ⟨0, 0, .inl ⟨rfl, rfl, rfl⟩, hO3, hP3, hT3, hb3⟩
  case round =>
    obtain ⟨a, b, hc, hO, hP, hT, hb⟩ := hrel
    rcases hc with ⟨rfl, rfl, rfl⟩ | ⟨rfl, rfl, rfl⟩ | ⟨rfl, rfl, rfl⟩
    · have c0 := hT.out.cell0
      have c1 := blk_cell hP.out (j := 1) (v := .int .i64 (f : Int)) rfl
      go_wp2_with fail
      clear c0 c1
      go_loopw [24] (fun i wr => ∃ j : Nat, j ≤ f ∧ i = .int .i64 (j : Int) ∧ Hid (wr.ownsRow w.heap.size 3 1 (.slice (some ⟨w.heap.size + 1, 0, none⟩) N N) N ((fl2 L N j 0).map (Value.int .i64))) ∧
        Hid (wr.heap[w.heap.size]? = some (.cells #[.int .i64 (k : Int), .int .i64 (f : Int), .int .i64 l] 47)) ∧ Hid (Three wr w2.heap.size 73 (.slice (some ⟨w.heap.size + 1, 0, none⟩) L L) (.slice (some ⟨w.heap.size + 1, L, none⟩) L L) (.slice (some ⟨w.heap.size + 1, L + L, none⟩) L L)) ∧ Hid (Below w.heap.size w wr)) (fun i _ => f - (intOf i).toNat)
      case atStart => exact ⟨0, Nat.zero_le _, rfl, hO, hP, hT, hb⟩
      case round =>
        obtain ⟨j, hj, rfl, hO, hP, hT, hb⟩ := hrel
        by_cases hlt : j < f
        · have hz : (j : Int) < (f : Int) := by omega
          have hzL : (j : Int) < (L : Int) := by omega
          obtain ⟨o1, o2, y, o3⟩ := own_put hO.out (x := 127) (fl2_a (L := L) (N := N) (a := j) (by have := hfl.out; omega) (by have := hND.out; omega)) (by rw [fl2_length]; have := hND.out; have := hfl.out; omega)
          have O1 := Lib.hid o1
          clear o1 hO
          go_wp2_with fail
          go_roundw
          case rel => exact ⟨j + 1, by omega, by go_num, O1, Lib.hid ((Below.heap_setCell _ _ _ _ (by simp)).trans hP.out), Lib.hid (hT.out.other (show w.heap.size + 1 ≠ w2.heap.size by have := HLT.out; omega) _), Lib.hid (hb.out.setCell (show w.heap.size ≤ w.heap.size + 1 by omega) _)⟩
          case measure => simp [intOf]; omega
        · obtain rfl : j = f := by omega
          clear hlt
          go_wp2_with fail
          go_roundw
          case rel => exact ⟨_, _, .inr (.inl ⟨by go_num, rfl, rfl⟩), hO, hP, hT, hb⟩
          case measure => simp [intOf]
    · have c0 := hT.out.cell1
      have c1 := blk_cell hP.out (j := 1) (v := .int .i64 (f : Int)) rfl
      go_wp2_with fail
      clear c0 c1
      go_loopw [24] (fun i wr => ∃ j : Nat, j ≤ f ∧ i = .int .i64 (j : Int) ∧ Hid (wr.ownsRow w.heap.size 3 1 (.slice (some ⟨w.heap.size + 1, 0, none⟩) N N) N ((fl2 L N f j).map (Value.int .i64))) ∧
        Hid (wr.heap[w.heap.size]? = some (.cells #[.int .i64 (k : Int), .int .i64 (f : Int), .int .i64 l] 47)) ∧ Hid (Three wr w2.heap.size 73 (.slice (some ⟨w.heap.size + 1, 0, none⟩) L L) (.slice (some ⟨w.heap.size + 1, L, none⟩) L L) (.slice (some ⟨w.heap.size + 1, L + L, none⟩) L L)) ∧ Hid (Below w.heap.size w wr)) (fun i _ => f - (intOf i).toNat)
      case atStart => exact ⟨0, Nat.zero_le _, rfl, hO, hP, hT, hb⟩
      case round =>
        obtain ⟨j, hj, rfl, hO, hP, hT, hb⟩ := hrel
        by_cases hlt : j < f
        · have hz : (j : Int) < (f : Int) := by omega
          have hzL : (j : Int) < (L : Int) := by omega
          obtain ⟨o1, o2, y, o3⟩ := own_put hO.out (x := 127) (fl2_b (L := L) (N := N) (a := f) (b := j) (by have := hfl.out; omega) (by have := hND.out; omega)) (by rw [fl2_length]; have := hND.out; have := hfl.out; omega)
          have O1 := Lib.hid o1
          clear o1 hO
          go_wp2_with fail
          go_roundw
          case rel => exact ⟨j + 1, by omega, by go_num, O1, Lib.hid ((Below.heap_setCell _ _ _ _ (by simp)).trans hP.out), Lib.hid (hT.out.other (show w.heap.size + 1 ≠ w2.heap.size by have := HLT.out; omega) _), Lib.hid (hb.out.setCell (show w.heap.size ≤ w.heap.size + 1 by omega) _)⟩
          case measure => simp [intOf]; omega
        · obtain rfl : j = f := by omega
          clear hlt
          go_wp2_with fail
          go_roundw
          case rel => exact ⟨_, _, .inr (.inr ⟨by go_num, rfl, rfl⟩), hO, hP, hT, hb⟩
          case measure => simp [intOf]
    · go_wp2_with fail
      go_ret
      have h := hO.out
      rw [hnew.out] at h
      exact RetI.mk_ hlen.out h (Nat.le_refl _) hb.out rfl
end

/-! ### New. -/
section
open Go.RowKit Go.Shelf

theorem below_undrew {B : Nat} {w w' : World} (h : Below B w.drew w') : Below B w w' := ⟨h.os, h.tape, h.output, h.size, h.block⟩
/-- The state of a new buffer. -/
def newSt (k f l : Nat) : St := ⟨k, f, l, newV k f, 0⟩
theorem newSt_ok {k f l : Nat} (h1 : 40 ≤ k) (h2 : k ≤ 6144) (h3 : f < k) (hl : 1 ≤ l) : (newSt k f l).Ok := ⟨h1, h2, h3, hl, newV_length k f, newV_soft k f⟩
/-- A buffer is handed back, a new one. -/
def RetB (w : World) (s : St) (v : Value) (w' : World) : Prop := ∃ B A N c, v = .pointer (some ⟨B, 0, none⟩) ∧ w.heap.size ≤ B ∧ BufAt w' B s A N c ∧ Below w.heap.size w w'
/-- A new block that holds a buffer. -/
theorem RetB.box {w w2 : World} {s : St} {A : Option Addr} {N c : Nat} (hO : w2.ownsRow w.heap.size 3 1 (.slice A N c) N (s.V.map (Value.int .i64))) (hN : N = 3 * (s.k + 4)) (hb : Below w.heap.size w w2) (hs : s.Ok) (hz : 1 < w.heap.size) :
    RetB w s (.pointer (some ⟨w2.heap.size, 0, none⟩)) (w2.alloc (.cells (bufC s.k s.f s.l s.n A N c) 49)) :=
  ⟨w2.heap.size, A, N, c, rfl, hb.size, ⟨World.alloc_heap_new _ _, (World.ownsRow.alloc hO _).mono (Nat.zero_le _), hN, hs, Nat.lt_of_lt_of_le hz hb.size⟩, hb.alloc hb.size _⟩
set_option maxRecDepth 100000 in
set_option maxHeartbeats 2000000 in
theorem New_ok {k f l : Nat} {w : World} (hz : 1 < w.heap.size) (h1 : 40 ≤ k) (h2 : k ≤ 6144) (h3 : f < k) (hl : 1 ≤ l) :
    Calls Tryd.prog 10 #[.int .i64 (k : Int), .int .i64 (f : Int), .int .i64 (l : Int)] w fun e w' => ∃ v, e = .returned (.tuple #[v, .int .i64 0]) ∧ RetB w (newSt k f l) v w' := by
  have hR := Lib.hid (fun (u : World) => areInRange_any (k := (k : Int)) (f := (f : Int)) (l := (l : Int)) (w := u))
  rw [okB_of h1 h2 h3 hl] at hR
  have hI := Lib.hid (fun (u : World) => initial_any (k := k) (f := f) (l := (l : Int)) (w := u) h1 h2 h3)
  have hfin := Lib.hid (fun (w2 : World) (A : Option Addr) (N c : Nat) (hO : w2.ownsRow w.heap.size 3 1 (.slice A N c) N ((newV k f).map (Value.int .i64))) (hN : N = 3 * (k + 4)) (hb : Below w.heap.size w w2) => RetB.box (s := newSt k f l) hO hN hb (newSt_ok h1 h2 h3 hl) hz)
  have hlen := Lib.hid (newV_length k f)
  generalize newV k f = V at *
  obtain ⟨w1, hw1⟩ : ∃ W, W = w.alloc (.cells #[.int .i64 (k : Int), .int .i64 (f : Int), .int .i64 (l : Int)] 47) := ⟨_, rfl⟩
  have hb1 : Below w.heap.size w w1 := by rw [hw1]; exact (Below.refl _ w).alloc (Nat.le_refl _) _
  have hT1 : Three w1 w.heap.size 47 (.int .i64 (k : Int)) (.int .i64 (f : Int)) (.int .i64 (l : Int)) := by rw [hw1]; exact Three.new _ _ _ _ _
  have HB := Lib.hid hb1
  have HT := Lib.hid hT1
  subst hw1
  clear hb1 hT1 h1 h2 h3 hl hz
  go_enter Tryd.func10, Tryd.ntmps10
  go_wp2_with fail
  refine wp_scope_forward 0 rfl ?_
  go_wp2_with fail
  refine (hR.out _).mono ?_
  rintro e w2 ⟨rfl, b2⟩
  have hb2 := HB.out.trans (b2.mono HB.out.size)
  have hT2 := HT.out.below b2 (by simp)
  have HB2 := Lib.hid hb2
  have HT2 := Lib.hid hT2
  have c0 := hT2.cell0
  have c1 := hT2.cell1
  have c2 := hT2.cell2
  have HLT := Lib.hid hT2.lt
  clear hb2 hT2 HB HT b2 hR
  go_wp2_with fail
  go_region_held3 (fun w' => w'.cell? ⟨w.heap.size, 0, none⟩ = some (.int .i64 (k : Int)) ∧ w'.cell? ⟨w.heap.size, 1, none⟩ = some (.int .i64 (f : Int)) ∧ w'.cell? ⟨w.heap.size, 2, none⟩ = some (.int .i64 (l : Int))) (first | go_keep) (first
    | (go_at_call 31; refine (hI.out _).mono ?_; rintro e w3 he; obtain ⟨A, c, rfl, o3, b3⟩ := he.got hlen.out; have T3 := (Three.drew HT2.out).below b3 HLT.out; have c0 := T3.cell0; have c1 := T3.cell1; have c2 := T3.cell2)
    | fail)
  have hO := Lib.hid (o3.mono (show w.heap.size ≤ w2.drew.heap.size from HB2.out.size))
  have hb3 := Lib.hid (HB2.out.trans (Below.mono b3 (show w.heap.size ≤ w2.drew.heap.size from HB2.out.size) |> below_undrew))
  clear o3 b3 T3 c0 c1 c2 he hI
  go_wp2_with fail
  refine jump_ret ?_
  go_ret2
  exact ⟨_, rfl, hfin.out _ _ _ _ hO.out rfl hb3.out⟩
theorem New_no {k f l : Int} {w : World} (h : okB k f l = false) :
    Calls Tryd.prog 10 #[.int .i64 k, .int .i64 f, .int .i64 l] w fun e w' => e = .returned (.tuple #[.pointer none, .int .i64 2]) ∧ Below w.heap.size w w' := by
  have hR := Lib.hid (fun (u : World) => areInRange_any (k := k) (f := f) (l := l) (w := u))
  rw [h] at hR
  have hb1 := (Below.refl w.heap.size w).alloc (Nat.le_refl _) (.cells #[.int .i64 k, .int .i64 f, .int .i64 l] 47)
  have HB := Lib.hid hb1
  clear hb1 h
  go_enter Tryd.func10, Tryd.ntmps10
  go_wp2_with fail
  refine wp_scope_forward 0 rfl ?_
  go_wp2_with fail
  refine (hR.out _).mono ?_
  rintro e w2 ⟨rfl, b2⟩
  have HB2 := Lib.hid (HB.out.trans (b2.mono HB.out.size))
  clear b2 HB hR
  go_wp2_with fail
  go_step3
  refine ⟨rfl, ?_⟩
  go_wp2
  rw [Exit.noGoto_ret]
  go_ret2
  exact ⟨rfl, HB2.out⟩
end
end Go.Proofs.YtoegamlpgenfcaaDoor
