/-
  The reference's Sequence: two tables, filled in place.
-/
import Derived.Test.YtofcjcmbbkiaaaaAd
import Derived.Test.YtofcjcmbbkiaaaaG4
namespace Go.Proofs.Ytofcjcmbbkiaaaa
open Go.RowKit

def el1 (i : Nat) : Int := ((elN fb1 1 i : Nat) : Int)
def el2 (v i : Nat) : Int := ((elN fb2 v i : Nat) : Int)
def fill (f : Nat → Int) (L k : Nat) : List Int := (List.range L).map fun i => if i < k then f i else 0
theorem fill_length (f : Nat → Int) (L k : Nat) : (fill f L k).length = L := by simp [fill]
theorem fill_zero (f : Nat → Int) (L : Nat) : fill f L 0 = List.replicate L 0 := by
  apply List.ext_getElem (by simp [fill])
  intro i h1 h2
  simp [fill]
theorem fill_succ (f : Nat → Int) (L k : Nat) : fill f L (k + 1) = (fill f L k).set k (f k) := by
  apply List.ext_getElem (by simp [fill])
  intro i h1 h2
  rw [List.getElem_set]
  by_cases h : k = i
  · subst h
    simp [fill]
  · rw [if_neg h]
    simp only [fill, List.getElem_map, List.getElem_range]
    by_cases h3 : i < k
    · rw [if_pos (by omega), if_pos h3]
    · rw [if_neg (by omega), if_neg h3]
theorem fill_at {f : Nat → Int} {L k i : Nat} (hi : i < L) (hk : i < k) : (fill f L k)[i]?.getD 0 = f i := by
  simp [fill, hi, hk]
theorem el1_start : ∀ i, i < 31 → el1 i = if i = 0 then 1 else 0 := by decide +kernel
theorem fill_first (L : Nat) (_ : 31 ≤ L) : fill el1 L 31 = (List.replicate L 0).set 0 1 := by
  apply List.ext_getElem (by simp [fill])
  intro i h1 h2
  rw [List.getElem_set]
  simp only [fill, List.getElem_map, List.getElem_range, List.getElem_replicate]
  by_cases h3 : i < 31
  · rw [if_pos h3, el1_start i h3]
    by_cases h : i = 0
    · subst h; simp
    · rw [if_neg h, if_neg (fun e => h e.symm)]
  · rw [if_neg h3, if_neg (by omega)]
theorem el1_bit (i : Nat) : 0 ≤ el1 i ∧ el1 i ≤ 1 := by have := elN_le (f := fb1) (s := 1) i; unfold el1; omega
theorem el2_bit (v i : Nat) : 0 ≤ el2 v i ∧ el2 v i ≤ 1 := by have := elN_le (f := fb2) (s := v) i; unfold el2; omega
theorem el1_next (i : Nat) : (el1 (i + 3) + el1 i) % 2 = el1 (i + 31) := by have := el1_rec 1 i (by decide); unfold el1; omega
theorem el2_next {v : Nat} (hv : v < 2147483648) (i : Nat) : (el2 v (i + 3) + el2 v (i + 2) + el2 v (i + 1) + el2 v i) % 2 = el2 v (i + 31) := by have := el2_rec v i hv; unfold el2; omega
theorem el2_first {v k : Nat} (hv : v < 2147483648) (hk : k < 31) : bits .and .u32 ((v : Int) / 2 ^ k) 1 % 256 = el2 v k := by
  have h1 : ((v : Int) / 2 ^ k) = ((v / 2 ^ k : Nat) : Int) := by simp
  have h2 : v / 2 ^ k ≤ v := Nat.div_le_self _ _
  have h3 := elN_start (f := fb2) (s := v) k hk
  unfold el2
  have h4 := and1_u32 (x := ((v / 2 ^ k : Nat) : Int)) (Int.natCast_nonneg _) (by omega)
  rw [h1, h4, h3]
  omega
theorem gold_el (v k : Nat) : (el1 (1600 + k) + el2 v (1600 + k)) % 2 = goldI v k := by unfold el1 el2 goldI goldN; rw [Nat.add_comm 1600 k]; omega
/-- A table of L elements; the first k of them are f's. -/
def Tab (w : World) (lo P L : Nat) (f : Nat → Int) (k : Nat) : Prop := w.ownsRow lo 5 1 (.slice (some ⟨P, 0, none⟩) L L) L ((fill f L k).map (Value.int .u8))
theorem Tab.read {w : World} {lo P L k i : Nat} {f : Nat → Int} (h : Tab w lo P L f k) (hi : i < L) (hk : i < k) : w.cell? ⟨P, i, none⟩ = some (.int .u8 (f i)) := by
  rw [World.ownsRow.cellAt h i (by omega)]
  simp [fill, hi, hk]
theorem Tab.cell {w : World} {lo P L k i : Nat} {f : Nat → Int} (h : Tab w lo P L f k) (hi : i < L) : w.cell? ⟨P, i, none⟩ = some (.int .u8 (if i < k then f i else 0)) := by
  rw [World.ownsRow.cellAt h i (by omega)]
  simp [fill, hi]
theorem Tab.frozen {w : World} {lo P L k : Nat} {f : Nat → Int} (h : Tab w lo P L f k) (i : Nat) : w.frozen? ⟨P, i, none⟩ = false := World.ownsRow.frozenAt h i
theorem Tab.set {w : World} {lo P L k : Nat} {f : Nat → Int} (h : Tab w lo P L f k) : Tab (w.setCell ⟨P, k, none⟩ (.int .u8 (f k))) lo P L f (k + 1) := by
  unfold Tab
  rw [fill_succ, List.map_set]
  exact (World.ownsRow.stored h k (.int .u8 (f k))).1
theorem Tab.other {w : World} {lo P L k Q j : Nat} {f : Nat → Int} (h : Tab w lo P L f k) (hne : P ≠ Q) (u : Value) : Tab (w.setCell ⟨Q, j, none⟩ u) lo P L f k :=
  World.ownsRow.kept h (grownBy_setCell_at w ⟨Q, j, none⟩ u) (.inr (by simp [Value.ownBlock]; exact hne))
theorem Tab.drew {w : World} {lo P L k : Nat} {f : Nat → Int} (h : Tab w lo P L f k) : Tab w.drew lo P L f k := World.ownsRow.drew h
theorem Tab.lo_le {w : World} {lo P L k : Nat} {f : Nat → Int} (h : Tab w lo P L f k) : lo ≤ P := (World.ownsRow.lt h P rfl).1
set_option maxRecDepth 100000 in
set_option maxHeartbeats 4000000 in
theorem refSeq_any {v m : Nat} {w : World} (hv : v < 2147483648) (hm : m ≤ 1000000) :
    Calls Try.prog 17 #[.int .u32 (v : Int), .int .i64 (m : Int)] w fun e w' => (∃ A c, e = .returned (.slice A m c) ∧
      w'.ownsRow w.heap.size 5 1 (.slice A m c) m ((goldL v m).map (Value.int .u8))) ∧ Below w.heap.size w w' := by
  have hmk : ∀ u : World, (Instr.makeSlice 30 (.int .i64 (1631 + (m : Int))) (.int .i64 (1631 + (m : Int)))).run Try.prog u = .ok (.slice (some ⟨u.heap.size, 0, none⟩) (1631 + m) (1631 + m)) (u.alloc (.cells (madeCells #[.int .u8 0] (1631 + m)) 5)) := fun u => by
    have h := make_bytes (1631 + m) (1631 + m) (Nat.le_refl _) (by omega) u
    have e : ((1631 + m : Nat) : Int) = 1631 + (m : Int) := by omega
    rwa [e] at h
  obtain ⟨L, hL⟩ : ∃ L, 1631 + m = L := ⟨_, rfl⟩
  rw [hL] at hmk
  have HL := Lib.hid hL
  have hw1 : IntKind.i64.wrap (1600 + (m : Int) + 31) = 1631 + (m : Int) := by rw [IntWalk.i64_in _ (by omega)]; omega
  clear hL
  go_enter Try.func17, Try.ntmps17
  go_wp2_with fail
  have hz1 := own_zeros (w := w) (B := w.heap.size) (n := L) (m := L) (Nat.le_refl _) (by have := HL.out; omega) (Nat.le_refl _)
  have hz2 := own_zeros (w := w.alloc (.cells (madeCells #[.int .u8 0] L) 5)) (B := w.heap.size) (n := L) (m := L) (by simp) (by have := HL.out; omega) (Nat.le_refl _)
  rw [World.size_alloc] at hz2
  have hZ1 := Lib.hid ((hz1.alloc (.cells (madeCells #[.int .u8 0] L) 5)).drew)
  have hZ2 := Lib.hid (hz2.drew)
  have hB0 := Lib.hid ((((Below.refl w.heap.size w).alloc (Nat.le_refl _) (.cells (madeCells #[.int .u8 0] L) 5)).alloc (by simp) (.cells (madeCells #[.int .u8 0] L) 5)).drew)
  clear hz1 hz2
  go_region_held3 (fun _ => True) (first | trivial | go_keep) (fail)
  · rename_i hHeld
    clear hHeld
    generalize ((w.alloc (Obj.cells (madeCells #[Value.int IntKind.u8 0] L) 5)).alloc (Obj.cells (madeCells #[Value.int IntKind.u8 0] L) 5)).drew = W0 at hZ1 hZ2 hB0 ⊢
    have T2 : Tab W0 w.heap.size (w.heap.size + 1) L (el2 v) 0 := by
      unfold Tab
      rw [fill_zero]
      exact hZ2.out
    have T1 : Tab (W0.setCell ⟨w.heap.size, 0, none⟩ (.int .u8 1)) w.heap.size w.heap.size L el1 31 := by
      unfold Tab
      rw [fill_first L (by have := HL.out; omega), List.map_set]
      exact (World.ownsRow.stored hZ1.out 0 (.int .u8 1)).1
    have T2' : Tab (W0.setCell ⟨w.heap.size, 0, none⟩ (.int .u8 1)) w.heap.size (w.heap.size + 1) L (el2 v) 0 := T2.other (by omega) _
    have hB : Below w.heap.size w (W0.setCell ⟨w.heap.size, 0, none⟩ (.int .u8 1)) := hB0.out.setCell (p := ⟨w.heap.size, 0, none⟩) (by simp) _
    have c0 : W0.cell? ⟨w.heap.size, 0, none⟩ = some (.int .u8 0) := by
      have := HL.out
      rw [World.ownsRow.cellAt hZ1.out 0 (by omega)]
      have h : 0 < L := by omega
      simp [h]
    have f0 : W0.frozen? ⟨w.heap.size, 0, none⟩ = false := World.ownsRow.frozenAt hZ1.out 0
    have l0 : (0 : Int) < (L : Int) := by have := HL.out; omega
    have HT1 := Lib.hid T1; have HT2 := Lib.hid T2'; have HB := Lib.hid hB
    clear T1 T2 T2' hB hZ1 hZ2 hB0 hw1 hmk
    go_wp2_with fail
    clear c0 f0
    go_loopw [8] (fun s wr => ∃ k : Nat, k ≤ 31 ∧ s = .int .i64 k ∧ Hid (Tab wr w.heap.size w.heap.size L el1 31) ∧ Hid (Tab wr w.heap.size (w.heap.size + 1) L (el2 v) k) ∧ Hid (Below w.heap.size w wr)) (fun s _ => 31 - (intOf s).toNat)
    case atStart => exact ⟨0, by omega, rfl, HT1, HT2, HB⟩
    case round =>
      clear HT1 HT2 HB
      obtain ⟨k, hk, rfl, HT1, HT2, HB⟩ := hrel
      by_cases hlt : k < 31
      · have c1 := HT2.out.cell (i := k) (by have := HL.out; omega)
        have f1 := HT2.out.frozen k
        have hS := HT2.out.set
        have hO := HT1.out.other (Q := (w.heap.size + 1)) (j := k) (by omega) (.int .u8 (el2 v k))
        have hbb := HB.out.setCell (p := ⟨(w.heap.size + 1), k, none⟩) (by simp) (.int .u8 (el2 v k))
        have hval : bits .and .u32 ((v : Int) / 2 ^ k) 1 % 256 = el2 v k := el2_first hv hlt
        have l1 : (k : Int) < (L : Int) := by have := HL.out; omega
        have HS := Lib.hid hS; have HO := Lib.hid hO; have HBB := Lib.hid hbb
        generalize el2 v k = z at *
        clear hS hO hbb HT1 HT2 HB
        go_wp2_with fail
        go_roundw
        case rel => exact ⟨k + 1, by omega, by go_num, HO, HS, HBB⟩
        case measure => simp [intOf]; omega
      · obtain rfl : k = 31 := by omega
        clear hlt
        rw [show ((31 : Nat) : Int) = 31 from rfl]
        go_wp2_with fail
        go_loopw [9] (fun s wr => ∃ i : Nat, i ≤ 1600 + m ∧ s = .int .i64 i ∧ Hid (Tab wr w.heap.size w.heap.size L el1 (i + 31)) ∧ Hid (Tab wr w.heap.size (w.heap.size + 1) L (el2 v) (i + 31)) ∧ Hid (Below w.heap.size w wr)) (fun s _ => 1600 + m - (intOf s).toNat)
        case atStart => exact ⟨0, by omega, rfl, HT1, HT2, HB⟩
        case round =>
          clear HT1 HT2 HB
          rename World => wr
          obtain ⟨i, hi, rfl, HT1, HT2, HB⟩ := hrel
          by_cases hlt : i < 1600 + m
          · have hLi : i + 31 < L := by have := HL.out; omega
            have c1 := HT1.out.read (i := i + 3) (by omega) (by omega)
            have c2 := HT1.out.read (i := i) (by omega) (by omega)
            have c3 : wr.cell? ⟨w.heap.size, i + 31, none⟩ = some (.int .u8 0) := (HT1.out.cell (i := i + 31) (by omega)).trans (by simp)
            have f3 := HT1.out.frozen (i + 31)
            have hS := HT1.out.set
            have hO := HT2.out.other (Q := w.heap.size) (j := i + 31) (by omega) (.int .u8 (el1 (i + 31)))
            have hbb := HB.out.setCell (p := ⟨w.heap.size, i + 31, none⟩) (by simp) (.int .u8 (el1 (i + 31)))
            have hz := el1_next i
            have hx := el1_bit (i + 3)
            have hy := el1_bit i
            have HS := Lib.hid hS; have HO := Lib.hid hO; have HBB := Lib.hid hbb
            generalize el1 (i + 31) = z at *
            generalize el1 (i + 3) = x at *
            generalize el1 i = y at *
            have w1 : IntKind.i64.wrap ((i : Int) + 31) = (i : Int) + 31 := IntWalk.i64_in _ (by omega)
            have w2 : IntKind.i64.wrap ((i : Int) + 3) = (i : Int) + 3 := IntWalk.i64_in _ (by omega)
            have t1 : ((i : Int) + 31).toNat = i + 31 := by omega
            have t2 : ((i : Int) + 3).toNat = i + 3 := by omega
            have l1 : (0 : Int) ≤ (i : Int) + 31 := by omega
            have l2 : (i : Int) + 31 < (L : Int) := by omega
            have l3 : (0 : Int) ≤ (i : Int) + 3 := by omega
            have l4 : (i : Int) + 3 < (L : Int) := by omega
            have l5 : (0 : Int) ≤ (i : Int) := by omega
            have l6 : (i : Int) < (L : Int) := by omega
            have u1 : IntKind.u8.wrap (x + y) = x + y := by rw [IntKind.wrap_u8]; omega
            have u2 : (x + y).tmod 2 = z := by rw [Int.tmod_eq_emod_of_nonneg (by omega)]; exact hz
            clear hS hO hbb hx hy hz HT1 HT2 HB hLi
            go_wp2_with fail
            go_still_tail 15, (by kernel_rfl)
            change wpList _ _ _ _ _ wr.drew
            have HS' : Hid (Tab (World.setCell wr.drew ⟨w.heap.size, i + 31, none⟩ (.int .u8 z)) w.heap.size w.heap.size L el1 (i + 31 + 1)) := Lib.hid HS.out.drew
            have HO' : Hid (Tab (World.setCell wr.drew ⟨w.heap.size, i + 31, none⟩ (.int .u8 z)) w.heap.size (w.heap.size + 1) L (el2 v) (i + 31)) := Lib.hid HO.out.drew
            have HBB' : Hid (Below w.heap.size w (World.setCell wr.drew ⟨w.heap.size, i + 31, none⟩ (.int .u8 z))) := Lib.hid HBB.out.drew
            clear HS HO HBB w2
            generalize hWr : wr.drew = wd at *
            have c3' : wd.cell? ⟨w.heap.size, i + 31, none⟩ = some (.int .u8 0) := by rw [← hWr]; exact c3
            have f3' : wd.frozen? ⟨w.heap.size, i + 31, none⟩ = false := by rw [← hWr]; exact f3
            clear c1 c2 c3 f3 hWr u1 u2
            have d1 := HO'.out.read (i := i + 3) (by omega) (by omega)
            have d2 := HO'.out.read (i := i + 2) (by omega) (by omega)
            have d3 := HO'.out.read (i := i + 1) (by omega) (by omega)
            have d4 := HO'.out.read (i := i) (by omega) (by omega)
            have d5 : World.cell? (wd.setCell ⟨w.heap.size, i + 31, none⟩ (.int .u8 z)) ⟨(w.heap.size + 1), i + 31, none⟩ = some (.int .u8 0) := (HO'.out.cell (i := i + 31) (by omega)).trans (by simp)
            have g5 := HO'.out.frozen (i + 31)
            have hS := HO'.out.set
            have hO := HS'.out.other (Q := (w.heap.size + 1)) (j := i + 31) (by omega) (.int .u8 (el2 v (i + 31)))
            have hbb := HBB'.out.setCell (p := ⟨(w.heap.size + 1), i + 31, none⟩) (by simp) (.int .u8 (el2 v (i + 31)))
            have hz := el2_next hv i
            have b1 := el2_bit v (i + 3)
            have b2 := el2_bit v (i + 2)
            have b3 := el2_bit v (i + 1)
            have b4 := el2_bit v i
            have HS := Lib.hid hS; have HO := Lib.hid hO; have HBB := Lib.hid hbb
            generalize el2 v (i + 31) = z2 at *
            generalize el2 v (i + 3) = a1 at *
            generalize el2 v (i + 2) = a2 at *
            generalize el2 v (i + 1) = a3 at *
            generalize el2 v i = a4 at *
            have w2 : IntKind.i64.wrap ((i : Int) + 3) = (i : Int) + 3 := IntWalk.i64_in _ (by omega)
            have w3 : IntKind.i64.wrap ((i : Int) + 2) = (i : Int) + 2 := IntWalk.i64_in _ (by omega)
            have w4 : IntKind.i64.wrap ((i : Int) + 1) = (i : Int) + 1 := IntWalk.i64_in _ (by omega)
            have t3 : ((i : Int) + 2).toNat = i + 2 := by omega
            have t4 : ((i : Int) + 1).toNat = i + 1 := by omega
            have m1 : (0 : Int) ≤ (i : Int) + 2 := by omega
            have m2 : (i : Int) + 2 < (L : Int) := by omega
            have m3 : (0 : Int) ≤ (i : Int) + 1 := by omega
            have m4 : (i : Int) + 1 < (L : Int) := by omega
            have v1 : IntKind.u8.wrap (a1 + a2) = a1 + a2 := by rw [IntKind.wrap_u8]; omega
            have v2 : IntKind.u8.wrap (a1 + a2 + a3) = a1 + a2 + a3 := by rw [IntKind.wrap_u8]; omega
            have v3 : IntKind.u8.wrap (a1 + a2 + a3 + a4) = a1 + a2 + a3 + a4 := by rw [IntKind.wrap_u8]; omega
            have v4 : (a1 + a2 + a3 + a4).tmod 2 = z2 := by rw [Int.tmod_eq_emod_of_nonneg (by omega)]; exact hz
            clear hS hO hbb hz b1 b2 b3 b4 HS' HO' HBB'
            go_wp2_with fail
            generalize wd.setCell ⟨w.heap.size, i + 31, none⟩ (.int .u8 z) = wc at *
            go_still_tail 27, (by kernel_rfl)
            change wpList _ _ _ _ _ wc.drew
            have HS2 : Hid (Tab (World.setCell wc.drew ⟨(w.heap.size + 1), i + 31, none⟩ (.int .u8 z2)) w.heap.size (w.heap.size + 1) L (el2 v) (i + 1 + 31)) := Lib.hid (by rw [show i + 1 + 31 = i + 31 + 1 by omega]; exact HS.out.drew)
            have HO2 : Hid (Tab (World.setCell wc.drew ⟨(w.heap.size + 1), i + 31, none⟩ (.int .u8 z2)) w.heap.size w.heap.size L el1 (i + 1 + 31)) := Lib.hid (by rw [show i + 1 + 31 = i + 31 + 1 by omega]; exact HO.out.drew)
            have HB2 : Hid (Below w.heap.size w (World.setCell wc.drew ⟨(w.heap.size + 1), i + 31, none⟩ (.int .u8 z2))) := Lib.hid HBB.out.drew
            have d5' : wc.drew.cell? ⟨(w.heap.size + 1), i + 31, none⟩ = some (.int .u8 0) := d5
            have g5' : wc.drew.frozen? ⟨(w.heap.size + 1), i + 31, none⟩ = false := g5
            clear HS HO HBB d1 d2 d3 d4 d5 g5 v1 v2 v3 v4 w1 w2 w3 t2 t3 t4 m1 m2 m3 m4 l3 l4 c3' f3'
            go_wp2_with fail
            go_roundw
            case rel => exact ⟨i + 1, by omega, by go_num, HO2, HS2, HB2⟩
            case measure => simp [intOf]; omega
          · obtain rfl : i = 1600 + m := by omega
            clear hlt
            rw [show ((1600 + m : Nat) : Int) = 1600 + (m : Int) from by omega]
            go_wp2_with fail
            go_loopw [10, 11] (fun p s wr => ∃ (k : Nat) (A2 : Option Addr) (c2 : Nat), k ≤ m ∧ s = .int .i64 (1600 + (k : Int)) ∧ p = .slice A2 k c2 ∧ Hid (wr.ownsRow (w.heap.size + 2) 5 1 (.slice A2 k c2) k ((goldL v k).map (Value.int .u8))) ∧
                Hid (Tab wr w.heap.size w.heap.size L el1 (1600 + m + 31)) ∧ Hid (Tab wr w.heap.size (w.heap.size + 1) L (el2 v) (1600 + m + 31)) ∧ Hid (Below w.heap.size w wr)) (fun _ s _ => 1600 + m - (intOf s).toNat)
            case atStart => exact ⟨0, none, 0, Nat.zero_le _, rfl, rfl, Lib.hid (World.ownsRow_nil _ _ _ _), HT1, HT2, HB⟩
            case round =>
              clear HT1 HT2 HB
              rename World => wr
              obtain ⟨k, A2, c2, hk, rfl, rfl, hO, HT1, HT2, HB⟩ := hrel
              by_cases hlt : k < m
              · have hLk : 1600 + k < L := by have := HL.out; omega
                have c1 := HT1.out.read (i := 1600 + k) (by omega) (by omega)
                have c2' := HT2.out.read (i := 1600 + k) (by omega) (by omega)
                have s1 : w.heap.size < wr.heap.size := (World.ownsRow.lt HT1.out _ rfl).2
                have s2 : (w.heap.size + 1) < wr.heap.size := (World.ownsRow.lt HT2.out _ rfl).2
                have hz := gold_el v k
                have hx := el1_bit (1600 + k)
                have hy := el2_bit v (1600 + k)
                have hT := Lib.hid (goldL_succ v k)
                generalize goldI v k = z at *
                generalize el1 (1600 + k) = x at *
                generalize el2 v (1600 + k) = y at *
                have t1 : (1600 + (k : Int)).toNat = 1600 + k := by omega
                have l1 : (0 : Int) ≤ 1600 + (k : Int) := by omega
                have l2 : 1600 + (k : Int) < (L : Int) := by omega
                have u1 : IntKind.u8.wrap (x + y) = x + y := by rw [IntKind.wrap_u8]; omega
                have u2 : (x + y).tmod 2 = z := by rw [Int.tmod_eq_emod_of_nonneg (by omega)]; exact hz
                have hsz : w.heap.size + 2 ≤ wr.heap.size := by omega
                have hbn1 : some w.heap.size ≠ (Value.slice A2 k c2).ownBlock := fun e => by have := (hO.out.lt _ e.symm).1; omega
                have hbn2 : some (w.heap.size + 1) ≠ (Value.slice A2 k c2).ownBlock := fun e => by have := (hO.out.lt _ e.symm).1; omega
                obtain ⟨i0, hi0, hz0, hz1, hz2⟩ := info_parts Try.info_u8
                have q1 : w.heap.size < wr.heap.size + 1 := by omega
                have q2 : (w.heap.size + 1) < wr.heap.size + 1 := by omega
                clear hz hx hy hLk s1 s2
                go_wp2_with fail
                go_region_held3 (fun w' => w'.cell? ⟨w.heap.size, 1600 + k, none⟩ = some (.int .u8 x) ∧ w'.cell? ⟨(w.heap.size + 1), 1600 + k, none⟩ = some (.int .u8 y))
                  (first
                    | go_keep
                    | (go_split_ands
                       refine ⟨?_, ?_⟩
                       · (rw [hgrow.cell_far _ (by simp; omega) hbn1]; assumption)
                       · (rw [hgrow.cell_far _ (by simp; omega) hbn2]; assumption)))
                  ((refine step_append_lies _ (by rfl) _ _ _ (by rfl) (w.heap.size + 2) 5 i0 _ 1 1 Try.underlying30 hi0 hz0 hz1 hz2 rfl (by omega) (.slice A2 k c2) k _ (by rfl) ((hO.out.alloc _).drew)
                        ⟨wr.heap.size, 0, none⟩ 1 1 [.int .u8 z] (by rfl) (by rfl) (World.news_of_block (cs := #[.int .u8 z]) (t := 5) (fr := (0, 0)) (heap_alloc_new wr _)) (by simp [Value.oneCell'])
                        (by omega) (by unfold maxLen; omega) (by omega) (by simp; omega) (wr.heap.size + 1) (by simp) ?_; intro gg cap w3 hown3 hgrow hat hlt3))
                have hB3 : Below w.heap.size w w3 := (HB.out.alloc HB.out.size _).drew.grown hgrow (by simp; omega) (fun g hg => by have := (hO.out.lt g hg).1; omega)
                have hO3 : Hid (w3.ownsRow (w.heap.size + 2) 5 1 (.slice (some ⟨gg, 0, none⟩) (k + 1) cap) (k + 1) ((goldL v (k + 1)).map (Value.int .u8))) := Lib.hid (by rw [hT.out, List.map_append]; exact hown3)
                have hT1 : Tab w3 w.heap.size w.heap.size L el1 (1600 + m + 31) := World.ownsRow.kept ((World.ownsRow.alloc HT1.out _).drew) hgrow (.inr hbn1)
                have hT2 : Tab w3 w.heap.size (w.heap.size + 1) L (el2 v) (1600 + m + 31) := World.ownsRow.kept ((World.ownsRow.alloc HT2.out _).drew) hgrow (.inr hbn2)
                have HT1' := Lib.hid hT1; have HT2' := Lib.hid hT2; have HB3 := Lib.hid hB3
                clear hown3 hgrow hT1 hT2 hB3 HT1 HT2 HB hO
                go_wp2_with fail
                go_roundw
                case rel => exact ⟨k + 1, some ⟨gg, 0, none⟩, cap, by omega, by simp; omega, rfl, hO3, HT1', HT2', HB3⟩
                case measure => simp [intOf]; omega
              · obtain rfl : k = m := by omega
                clear hlt
                have h1 : IntKind.i64.wrap (1600 + (k : Int)) = 1600 + (k : Int) := IntWalk.i64_in _ (by omega)
                go_wp2_with fail
                go_ret
                exact ⟨⟨A2, c2, rfl, hO.out.mono (by omega)⟩, HB.out⟩
  · rename_i hHeld
    clear hHeld
    generalize ((w.alloc (Obj.cells (madeCells #[Value.int IntKind.u8 0] L) 5)).alloc (Obj.cells (madeCells #[Value.int IntKind.u8 0] L) 5)).drew = W0 at hZ1 hZ2 hB0 ⊢
    have T2 : Tab W0 w.heap.size w.heap.size L (el2 v) 0 := by
      unfold Tab
      rw [fill_zero]
      exact hZ1.out
    have T1 : Tab (W0.setCell ⟨(w.heap.size + 1), 0, none⟩ (.int .u8 1)) w.heap.size (w.heap.size + 1) L el1 31 := by
      unfold Tab
      rw [fill_first L (by have := HL.out; omega), List.map_set]
      exact (World.ownsRow.stored hZ2.out 0 (.int .u8 1)).1
    have T2' : Tab (W0.setCell ⟨(w.heap.size + 1), 0, none⟩ (.int .u8 1)) w.heap.size w.heap.size L (el2 v) 0 := T2.other (by omega) _
    have hB : Below w.heap.size w (W0.setCell ⟨(w.heap.size + 1), 0, none⟩ (.int .u8 1)) := hB0.out.setCell (p := ⟨(w.heap.size + 1), 0, none⟩) (by simp) _
    have c0 : W0.cell? ⟨(w.heap.size + 1), 0, none⟩ = some (.int .u8 0) := by
      have := HL.out
      rw [World.ownsRow.cellAt hZ2.out 0 (by omega)]
      have h : 0 < L := by omega
      simp [h]
    have f0 : W0.frozen? ⟨(w.heap.size + 1), 0, none⟩ = false := World.ownsRow.frozenAt hZ2.out 0
    have l0 : (0 : Int) < (L : Int) := by have := HL.out; omega
    have HT1 := Lib.hid T1; have HT2 := Lib.hid T2'; have HB := Lib.hid hB
    clear T1 T2 T2' hB hZ1 hZ2 hB0 hw1 hmk
    go_wp2_with fail
    clear c0 f0
    go_loopw [8] (fun s wr => ∃ k : Nat, k ≤ 31 ∧ s = .int .i64 k ∧ Hid (Tab wr w.heap.size (w.heap.size + 1) L el1 31) ∧ Hid (Tab wr w.heap.size w.heap.size L (el2 v) k) ∧ Hid (Below w.heap.size w wr)) (fun s _ => 31 - (intOf s).toNat)
    case atStart => exact ⟨0, by omega, rfl, HT1, HT2, HB⟩
    case round =>
      clear HT1 HT2 HB
      obtain ⟨k, hk, rfl, HT1, HT2, HB⟩ := hrel
      by_cases hlt : k < 31
      · have c1 := HT2.out.cell (i := k) (by have := HL.out; omega)
        have f1 := HT2.out.frozen k
        have hS := HT2.out.set
        have hO := HT1.out.other (Q := w.heap.size) (j := k) (by omega) (.int .u8 (el2 v k))
        have hbb := HB.out.setCell (p := ⟨w.heap.size, k, none⟩) (by simp) (.int .u8 (el2 v k))
        have hval : bits .and .u32 ((v : Int) / 2 ^ k) 1 % 256 = el2 v k := el2_first hv hlt
        have l1 : (k : Int) < (L : Int) := by have := HL.out; omega
        have HS := Lib.hid hS; have HO := Lib.hid hO; have HBB := Lib.hid hbb
        generalize el2 v k = z at *
        clear hS hO hbb HT1 HT2 HB
        go_wp2_with fail
        go_roundw
        case rel => exact ⟨k + 1, by omega, by go_num, HO, HS, HBB⟩
        case measure => simp [intOf]; omega
      · obtain rfl : k = 31 := by omega
        clear hlt
        rw [show ((31 : Nat) : Int) = 31 from rfl]
        go_wp2_with fail
        go_loopw [9] (fun s wr => ∃ i : Nat, i ≤ 1600 + m ∧ s = .int .i64 i ∧ Hid (Tab wr w.heap.size (w.heap.size + 1) L el1 (i + 31)) ∧ Hid (Tab wr w.heap.size w.heap.size L (el2 v) (i + 31)) ∧ Hid (Below w.heap.size w wr)) (fun s _ => 1600 + m - (intOf s).toNat)
        case atStart => exact ⟨0, by omega, rfl, HT1, HT2, HB⟩
        case round =>
          clear HT1 HT2 HB
          rename World => wr
          obtain ⟨i, hi, rfl, HT1, HT2, HB⟩ := hrel
          by_cases hlt : i < 1600 + m
          · have hLi : i + 31 < L := by have := HL.out; omega
            have c1 := HT1.out.read (i := i + 3) (by omega) (by omega)
            have c2 := HT1.out.read (i := i) (by omega) (by omega)
            have c3 : wr.cell? ⟨(w.heap.size + 1), i + 31, none⟩ = some (.int .u8 0) := (HT1.out.cell (i := i + 31) (by omega)).trans (by simp)
            have f3 := HT1.out.frozen (i + 31)
            have hS := HT1.out.set
            have hO := HT2.out.other (Q := (w.heap.size + 1)) (j := i + 31) (by omega) (.int .u8 (el1 (i + 31)))
            have hbb := HB.out.setCell (p := ⟨(w.heap.size + 1), i + 31, none⟩) (by simp) (.int .u8 (el1 (i + 31)))
            have hz := el1_next i
            have hx := el1_bit (i + 3)
            have hy := el1_bit i
            have HS := Lib.hid hS; have HO := Lib.hid hO; have HBB := Lib.hid hbb
            generalize el1 (i + 31) = z at *
            generalize el1 (i + 3) = x at *
            generalize el1 i = y at *
            have w1 : IntKind.i64.wrap ((i : Int) + 31) = (i : Int) + 31 := IntWalk.i64_in _ (by omega)
            have w2 : IntKind.i64.wrap ((i : Int) + 3) = (i : Int) + 3 := IntWalk.i64_in _ (by omega)
            have t1 : ((i : Int) + 31).toNat = i + 31 := by omega
            have t2 : ((i : Int) + 3).toNat = i + 3 := by omega
            have l1 : (0 : Int) ≤ (i : Int) + 31 := by omega
            have l2 : (i : Int) + 31 < (L : Int) := by omega
            have l3 : (0 : Int) ≤ (i : Int) + 3 := by omega
            have l4 : (i : Int) + 3 < (L : Int) := by omega
            have l5 : (0 : Int) ≤ (i : Int) := by omega
            have l6 : (i : Int) < (L : Int) := by omega
            have u1 : IntKind.u8.wrap (x + y) = x + y := by rw [IntKind.wrap_u8]; omega
            have u2 : (x + y).tmod 2 = z := by rw [Int.tmod_eq_emod_of_nonneg (by omega)]; exact hz
            clear hS hO hbb hx hy hz HT1 HT2 HB hLi
            go_wp2_with fail
            go_still_tail 15, (by kernel_rfl)
            change wpList _ _ _ _ _ wr.drew
            have HS' : Hid (Tab (World.setCell wr.drew ⟨(w.heap.size + 1), i + 31, none⟩ (.int .u8 z)) w.heap.size (w.heap.size + 1) L el1 (i + 31 + 1)) := Lib.hid HS.out.drew
            have HO' : Hid (Tab (World.setCell wr.drew ⟨(w.heap.size + 1), i + 31, none⟩ (.int .u8 z)) w.heap.size w.heap.size L (el2 v) (i + 31)) := Lib.hid HO.out.drew
            have HBB' : Hid (Below w.heap.size w (World.setCell wr.drew ⟨(w.heap.size + 1), i + 31, none⟩ (.int .u8 z))) := Lib.hid HBB.out.drew
            clear HS HO HBB w2
            generalize hWr : wr.drew = wd at *
            have c3' : wd.cell? ⟨(w.heap.size + 1), i + 31, none⟩ = some (.int .u8 0) := by rw [← hWr]; exact c3
            have f3' : wd.frozen? ⟨(w.heap.size + 1), i + 31, none⟩ = false := by rw [← hWr]; exact f3
            clear c1 c2 c3 f3 hWr u1 u2
            have d1 := HO'.out.read (i := i + 3) (by omega) (by omega)
            have d2 := HO'.out.read (i := i + 2) (by omega) (by omega)
            have d3 := HO'.out.read (i := i + 1) (by omega) (by omega)
            have d4 := HO'.out.read (i := i) (by omega) (by omega)
            have d5 : World.cell? (wd.setCell ⟨(w.heap.size + 1), i + 31, none⟩ (.int .u8 z)) ⟨w.heap.size, i + 31, none⟩ = some (.int .u8 0) := (HO'.out.cell (i := i + 31) (by omega)).trans (by simp)
            have g5 := HO'.out.frozen (i + 31)
            have hS := HO'.out.set
            have hO := HS'.out.other (Q := w.heap.size) (j := i + 31) (by omega) (.int .u8 (el2 v (i + 31)))
            have hbb := HBB'.out.setCell (p := ⟨w.heap.size, i + 31, none⟩) (by simp) (.int .u8 (el2 v (i + 31)))
            have hz := el2_next hv i
            have b1 := el2_bit v (i + 3)
            have b2 := el2_bit v (i + 2)
            have b3 := el2_bit v (i + 1)
            have b4 := el2_bit v i
            have HS := Lib.hid hS; have HO := Lib.hid hO; have HBB := Lib.hid hbb
            generalize el2 v (i + 31) = z2 at *
            generalize el2 v (i + 3) = a1 at *
            generalize el2 v (i + 2) = a2 at *
            generalize el2 v (i + 1) = a3 at *
            generalize el2 v i = a4 at *
            have w2 : IntKind.i64.wrap ((i : Int) + 3) = (i : Int) + 3 := IntWalk.i64_in _ (by omega)
            have w3 : IntKind.i64.wrap ((i : Int) + 2) = (i : Int) + 2 := IntWalk.i64_in _ (by omega)
            have w4 : IntKind.i64.wrap ((i : Int) + 1) = (i : Int) + 1 := IntWalk.i64_in _ (by omega)
            have t3 : ((i : Int) + 2).toNat = i + 2 := by omega
            have t4 : ((i : Int) + 1).toNat = i + 1 := by omega
            have m1 : (0 : Int) ≤ (i : Int) + 2 := by omega
            have m2 : (i : Int) + 2 < (L : Int) := by omega
            have m3 : (0 : Int) ≤ (i : Int) + 1 := by omega
            have m4 : (i : Int) + 1 < (L : Int) := by omega
            have v1 : IntKind.u8.wrap (a1 + a2) = a1 + a2 := by rw [IntKind.wrap_u8]; omega
            have v2 : IntKind.u8.wrap (a1 + a2 + a3) = a1 + a2 + a3 := by rw [IntKind.wrap_u8]; omega
            have v3 : IntKind.u8.wrap (a1 + a2 + a3 + a4) = a1 + a2 + a3 + a4 := by rw [IntKind.wrap_u8]; omega
            have v4 : (a1 + a2 + a3 + a4).tmod 2 = z2 := by rw [Int.tmod_eq_emod_of_nonneg (by omega)]; exact hz
            clear hS hO hbb hz b1 b2 b3 b4 HS' HO' HBB'
            go_wp2_with fail
            generalize wd.setCell ⟨(w.heap.size + 1), i + 31, none⟩ (.int .u8 z) = wc at *
            go_still_tail 27, (by kernel_rfl)
            change wpList _ _ _ _ _ wc.drew
            have HS2 : Hid (Tab (World.setCell wc.drew ⟨w.heap.size, i + 31, none⟩ (.int .u8 z2)) w.heap.size w.heap.size L (el2 v) (i + 1 + 31)) := Lib.hid (by rw [show i + 1 + 31 = i + 31 + 1 by omega]; exact HS.out.drew)
            have HO2 : Hid (Tab (World.setCell wc.drew ⟨w.heap.size, i + 31, none⟩ (.int .u8 z2)) w.heap.size (w.heap.size + 1) L el1 (i + 1 + 31)) := Lib.hid (by rw [show i + 1 + 31 = i + 31 + 1 by omega]; exact HO.out.drew)
            have HB2 : Hid (Below w.heap.size w (World.setCell wc.drew ⟨w.heap.size, i + 31, none⟩ (.int .u8 z2))) := Lib.hid HBB.out.drew
            have d5' : wc.drew.cell? ⟨w.heap.size, i + 31, none⟩ = some (.int .u8 0) := d5
            have g5' : wc.drew.frozen? ⟨w.heap.size, i + 31, none⟩ = false := g5
            clear HS HO HBB d1 d2 d3 d4 d5 g5 v1 v2 v3 v4 w1 w2 w3 t2 t3 t4 m1 m2 m3 m4 l3 l4 c3' f3'
            go_wp2_with fail
            go_roundw
            case rel => exact ⟨i + 1, by omega, by go_num, HO2, HS2, HB2⟩
            case measure => simp [intOf]; omega
          · obtain rfl : i = 1600 + m := by omega
            clear hlt
            rw [show ((1600 + m : Nat) : Int) = 1600 + (m : Int) from by omega]
            go_wp2_with fail
            go_loopw [10, 11] (fun p s wr => ∃ (k : Nat) (A2 : Option Addr) (c2 : Nat), k ≤ m ∧ s = .int .i64 (1600 + (k : Int)) ∧ p = .slice A2 k c2 ∧ Hid (wr.ownsRow (w.heap.size + 2) 5 1 (.slice A2 k c2) k ((goldL v k).map (Value.int .u8))) ∧
                Hid (Tab wr w.heap.size (w.heap.size + 1) L el1 (1600 + m + 31)) ∧ Hid (Tab wr w.heap.size w.heap.size L (el2 v) (1600 + m + 31)) ∧ Hid (Below w.heap.size w wr)) (fun _ s _ => 1600 + m - (intOf s).toNat)
            case atStart => exact ⟨0, none, 0, Nat.zero_le _, rfl, rfl, Lib.hid (World.ownsRow_nil _ _ _ _), HT1, HT2, HB⟩
            case round =>
              clear HT1 HT2 HB
              rename World => wr
              obtain ⟨k, A2, c2, hk, rfl, rfl, hO, HT1, HT2, HB⟩ := hrel
              by_cases hlt : k < m
              · have hLk : 1600 + k < L := by have := HL.out; omega
                have c1 := HT1.out.read (i := 1600 + k) (by omega) (by omega)
                have c2' := HT2.out.read (i := 1600 + k) (by omega) (by omega)
                have s1 : (w.heap.size + 1) < wr.heap.size := (World.ownsRow.lt HT1.out _ rfl).2
                have s2 : w.heap.size < wr.heap.size := (World.ownsRow.lt HT2.out _ rfl).2
                have hz := gold_el v k
                have hx := el1_bit (1600 + k)
                have hy := el2_bit v (1600 + k)
                have hT := Lib.hid (goldL_succ v k)
                generalize goldI v k = z at *
                generalize el1 (1600 + k) = x at *
                generalize el2 v (1600 + k) = y at *
                have t1 : (1600 + (k : Int)).toNat = 1600 + k := by omega
                have l1 : (0 : Int) ≤ 1600 + (k : Int) := by omega
                have l2 : 1600 + (k : Int) < (L : Int) := by omega
                have u1 : IntKind.u8.wrap (x + y) = x + y := by rw [IntKind.wrap_u8]; omega
                have u2 : (x + y).tmod 2 = z := by rw [Int.tmod_eq_emod_of_nonneg (by omega)]; exact hz
                have hsz : w.heap.size + 2 ≤ wr.heap.size := by omega
                have hbn1 : some (w.heap.size + 1) ≠ (Value.slice A2 k c2).ownBlock := fun e => by have := (hO.out.lt _ e.symm).1; omega
                have hbn2 : some w.heap.size ≠ (Value.slice A2 k c2).ownBlock := fun e => by have := (hO.out.lt _ e.symm).1; omega
                obtain ⟨i0, hi0, hz0, hz1, hz2⟩ := info_parts Try.info_u8
                have q1 : (w.heap.size + 1) < wr.heap.size + 1 := by omega
                have q2 : w.heap.size < wr.heap.size + 1 := by omega
                clear hz hx hy hLk s1 s2
                go_wp2_with fail
                go_region_held3 (fun w' => w'.cell? ⟨(w.heap.size + 1), 1600 + k, none⟩ = some (.int .u8 x) ∧ w'.cell? ⟨w.heap.size, 1600 + k, none⟩ = some (.int .u8 y))
                  (first
                    | go_keep
                    | (go_split_ands
                       refine ⟨?_, ?_⟩
                       · (rw [hgrow.cell_far _ (by simp; omega) hbn1]; assumption)
                       · (rw [hgrow.cell_far _ (by simp; omega) hbn2]; assumption)))
                  ((refine step_append_lies _ (by rfl) _ _ _ (by rfl) (w.heap.size + 2) 5 i0 _ 1 1 Try.underlying30 hi0 hz0 hz1 hz2 rfl (by omega) (.slice A2 k c2) k _ (by rfl) ((hO.out.alloc _).drew)
                        ⟨wr.heap.size, 0, none⟩ 1 1 [.int .u8 z] (by rfl) (by rfl) (World.news_of_block (cs := #[.int .u8 z]) (t := 5) (fr := (0, 0)) (heap_alloc_new wr _)) (by simp [Value.oneCell'])
                        (by omega) (by unfold maxLen; omega) (by omega) (by simp; omega) (wr.heap.size + 1) (by simp) ?_; intro gg cap w3 hown3 hgrow hat hlt3))
                have hB3 : Below w.heap.size w w3 := (HB.out.alloc HB.out.size _).drew.grown hgrow (by simp; omega) (fun g hg => by have := (hO.out.lt g hg).1; omega)
                have hO3 : Hid (w3.ownsRow (w.heap.size + 2) 5 1 (.slice (some ⟨gg, 0, none⟩) (k + 1) cap) (k + 1) ((goldL v (k + 1)).map (Value.int .u8))) := Lib.hid (by rw [hT.out, List.map_append]; exact hown3)
                have hT1 : Tab w3 w.heap.size (w.heap.size + 1) L el1 (1600 + m + 31) := World.ownsRow.kept ((World.ownsRow.alloc HT1.out _).drew) hgrow (.inr hbn1)
                have hT2 : Tab w3 w.heap.size w.heap.size L (el2 v) (1600 + m + 31) := World.ownsRow.kept ((World.ownsRow.alloc HT2.out _).drew) hgrow (.inr hbn2)
                have HT1' := Lib.hid hT1; have HT2' := Lib.hid hT2; have HB3 := Lib.hid hB3
                clear hown3 hgrow hT1 hT2 hB3 HT1 HT2 HB hO
                go_wp2_with fail
                go_roundw
                case rel => exact ⟨k + 1, some ⟨gg, 0, none⟩, cap, by omega, by simp; omega, rfl, hO3, HT1', HT2', HB3⟩
                case measure => simp [intOf]; omega
              · obtain rfl : k = m := by omega
                clear hlt
                have h1 : IntKind.i64.wrap (1600 + (k : Int)) = 1600 + (k : Int) := IntWalk.i64_in _ (by omega)
                go_wp2_with fail
                go_ret
                exact ⟨⟨A2, c2, rfl, hO.out.mono (by omega)⟩, HB.out⟩
end Go.Proofs.Ytofcjcmbbkiaaaa
