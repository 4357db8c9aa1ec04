/-
  examine: what it returns; what was there stays.
-/
import Derived.Test.YtkdodmjhpkfhnaaDoorK1
namespace Go.Proofs.YtkdodmjhpkfhnaaDoor
open Go.RowKit

def zeroV : Value := .agg #[.int .i64 0, .int .u32 0]
theorem examine_results {W : World} {tmps : Array Value} {b : Nat} {x y z : Value} (h4 : tmps.getD 4 undef = .pointer (some ⟨b, 0, none⟩)) (h5 : tmps.getD 5 undef = z) (hT : Two W b 95 x y) :
    (results Tryd.f65 tmps).run Tryd.prog W = .ok (.tuple #[.agg #[x, y], z]) W := by
  have c0 := hT.cell0
  have c1 := hT.cell1
  simp only [Array.getD_eq_getD_getElem?] at h4 h5
  simp [results, Tryd.results65, go_sem, h4, h5, c0, c1]
theorem Two.below {w w' : World} {B N : Nat} {t : TypeId} {x y : Value} (h : Two w B t x y) (hb : Below N w w') (hB : B < N) : Two w' B t x y := (hb.block B hB).trans h
set_option maxHeartbeats 1000000 in
theorem examine_arg {A : Option Addr} {n c : Nat} {k : Int} {w : World} (hK : Kinds w) (hz : (genN k).2 = 0) :
    Calls Tryd.prog 65 #[.int .i64 k, .slice A n c] w fun e w' => e = .returned (.tuple #[zeroV, .int .i64 2]) ∧ Below w.heap.size w w' := by
  have hf := Lib.hid (fun (u : World) (h : Below w.heap.size w u) => find_any (k := k) (hK.step h))
  have HZ := Lib.hid hz; clear hz hK
  have b0 : Below w.heap.size w (w.alloc (.cells #[.int .i64 0, .int .u32 0] 95)) := (Below.refl _ w).alloc (Nat.le_refl _) _
  have T0 := Two.new w 95 (.int .i64 0) (.int .u32 0)
  go_enter Tryd.func65, Tryd.ntmps65
  go_wp2_with fail
  refine (hf.out _ b0).mono ?_
  rintro e w1 ⟨rfl, hb⟩
  rw [World.size_alloc] at hb
  replace T0 := Two.below T0 hb (by omega)
  have hbb := b0.trans (hb.mono (by omega))
  unfold kindV
  rw [HZ.out]
  generalize (((genN k).1 : Nat) : Int) = g
  replace T0 := T0.alloc (.cells #[.int .i64 0, .int .u32 g] 95)
  replace hbb := Below.alloc hbb hbb.size (.cells #[.int .i64 0, .int .u32 g] 95)
  have c0 := T0.cell0
  have c1 := T0.cell1
  have f0 := T0.frozen 0
  have f1 := T0.frozen 1
  go_wp2_with fail
  refine bodyPost_ret (examine_results rfl rfl ((T0.set0 _).set1 _)) rfl ?_
  exact ⟨rfl, (hbb.setCell (p := ⟨w.heap.size, 0, none⟩) (Nat.le_refl _) _).setCell (p := ⟨w.heap.size, 1, none⟩) (Nat.le_refl _) _⟩
set_option maxHeartbeats 1000000 in
theorem examine_bit {A : Option Addr} {n c : Nat} {k : Int} {xs : List Int} {w : World} (hK : Kinds w) (hI : Rd .u8 w w.heap.size A n xs) (hn : n ≤ 140737488351232) (hz : (genN k).2 ≠ 0) (hv : validB xs = false) :
    Calls Tryd.prog 65 #[.int .i64 k, .slice A n c] w fun e w' => e = .returned (.tuple #[zeroV, .int .i64 3]) ∧ Below w.heap.size w w' := by
  have hf := Lib.hid (fun (u : World) (h : Below w.heap.size w u) => find_any (k := k) (hK.step h))
  have hval := Lib.hid (fun (u : World) (h : Below w.heap.size w u) => valid_any (c := c) (hI.below h) hn)
  have hd : ((((genN k).2 : Nat) : Int) == 0) = false := by simp; omega
  have HV := Lib.hid hv; clear hz hK hv
  have b0 : Below w.heap.size w (w.alloc (.cells #[.int .i64 0, .int .u32 0] 95)) := (Below.refl _ w).alloc (Nat.le_refl _) _
  have T0 := Two.new w 95 (.int .i64 0) (.int .u32 0)
  go_enter Tryd.func65, Tryd.ntmps65
  go_wp2_with fail
  refine (hf.out _ b0).mono ?_
  rintro e w1 ⟨rfl, hb⟩
  rw [World.size_alloc] at hb
  replace T0 := Two.below T0 hb (by omega)
  have hbb := b0.trans (hb.mono (by omega))
  unfold kindV
  generalize (((genN k).1 : Nat) : Int) = g at *
  generalize (((genN k).2 : Nat) : Int) = L at *
  replace T0 := T0.alloc (.cells #[.int .i64 L, .int .u32 g] 95)
  replace hbb := Below.alloc hbb hbb.size (.cells #[.int .i64 L, .int .u32 g] 95)
  have c0 := T0.cell0
  have c1 := T0.cell1
  have f0 := T0.frozen 0
  have f1 := T0.frozen 1
  go_wp2_with fail
  refine (hval.out _ hbb).mono ?_
  rintro e w2 ⟨rfl, rfl⟩
  rw [HV.out]
  go_wp2_with fail
  refine bodyPost_ret (examine_results rfl rfl ((T0.set0 _).set1 _)) rfl ?_
  exact ⟨rfl, (hbb.setCell (p := ⟨w.heap.size, 0, none⟩) (Nat.le_refl _) _).setCell (p := ⟨w.heap.size, 1, none⟩) (Nat.le_refl _) _⟩
set_option maxHeartbeats 1000000 in
theorem examine_ok {A : Option Addr} {n c : Nat} {k : Int} {xs : List Int} {w : World} (hK : Kinds w) (hI : Rd .u8 w w.heap.size A n xs) (hn : n ≤ 140737488351232) (hz : (genN k).2 ≠ 0) (hv : validB xs = true) :
    Calls Tryd.prog 65 #[.int .i64 k, .slice A n c] w fun e w' => e = .returned (.tuple #[kindV k, .int .i64 0]) ∧ Below w.heap.size w w' := by
  have hf := Lib.hid (fun (u : World) (h : Below w.heap.size w u) => find_any (k := k) (hK.step h))
  have hval := Lib.hid (fun (u : World) (h : Below w.heap.size w u) => valid_any (c := c) (hI.below h) hn)
  have hd : ((((genN k).2 : Nat) : Int) == 0) = false := by simp; omega
  have HV := Lib.hid hv; clear hz hK hv
  have b0 : Below w.heap.size w (w.alloc (.cells #[.int .i64 0, .int .u32 0] 95)) := (Below.refl _ w).alloc (Nat.le_refl _) _
  have T0 := Two.new w 95 (.int .i64 0) (.int .u32 0)
  unfold kindV at *
  generalize (((genN k).1 : Nat) : Int) = g at *
  generalize (((genN k).2 : Nat) : Int) = L at *
  go_enter Tryd.func65, Tryd.ntmps65
  go_wp2_with fail
  refine (hf.out _ b0).mono ?_
  rintro e w1 ⟨rfl, hb⟩
  rw [World.size_alloc] at hb
  replace T0 := Two.below T0 hb (by omega)
  have hbb := b0.trans (hb.mono (by omega))
  replace T0 := T0.alloc (.cells #[.int .i64 L, .int .u32 g] 95)
  replace hbb := Below.alloc hbb hbb.size (.cells #[.int .i64 L, .int .u32 g] 95)
  have c0 := T0.cell0
  have c1 := T0.cell1
  have f0 := T0.frozen 0
  have f1 := T0.frozen 1
  go_wp2_with fail
  refine (hval.out _ hbb).mono ?_
  rintro e w2 ⟨rfl, rfl⟩
  rw [HV.out]
  go_wp2_with fail
  refine bodyPost_ret (examine_results rfl rfl ((T0.set0 _).set1 _)) rfl ?_
  exact ⟨rfl, (hbb.setCell (p := ⟨w.heap.size, 0, none⟩) (Nat.le_refl _) _).setCell (p := ⟨w.heap.size, 1, none⟩) (Nat.le_refl _) _⟩
end Go.Proofs.YtkdodmjhpkfhnaaDoor
