/-
  Sizes. (Made by genP4.py.)
-/
import Derived.Test.YtkdodmjhpkfhnaaDoorP3
import Derived.Test.YtkdodmjhpkfhnaaDoorQ
namespace Go.Proofs.YtkdodmjhpkfhnaaDoor
open Go.RowKit

/-- The first t sizes of a range. -/
def segL (f st t : Nat) : List Int := (List.range t).map fun i => ((f + st * i : Nat) : Int)
theorem segL_succ (f st t : Nat) : segL f st (t + 1) = segL f st t ++ [((f + st * t : Nat) : Int)] := by simp [segL, List.range_succ]
theorem segL_length (f st t : Nat) : (segL f st t).length = t := by simp [segL]
def szs (j : Nat) : List Int := if j = 0 then [] else if j = 1 then segL 40 8 60 else if j = 2 then segL 40 8 60 ++ segL 528 16 32 else if j = 3 then segL 40 8 60 ++ segL 528 16 32 ++ segL 1056 32 32 else segL 40 8 60 ++ segL 528 16 32 ++ segL 1056 32 32 ++ segL 2112 64 64
def cnt (j : Nat) : Nat := if j = 0 then 0 else if j = 1 then 60 else if j = 2 then 92 else if j = 3 then 124 else 188
theorem szs_succ0 : szs 1 = szs 0 ++ segL 40 8 60 := rfl
theorem szs_succ1 : szs 2 = szs 1 ++ segL 528 16 32 := rfl
theorem szs_succ2 : szs 3 = szs 2 ++ segL 1056 32 32 := rfl
theorem szs_succ3 : szs 4 = szs 3 ++ segL 2112 64 64 := rfl
theorem szs_all : szs 4 = sizesL.map Int.ofNat := by decide +kernel
theorem Three.frozen {w : World} {B : Nat} {t : TypeId} {x y z : Value} (h : Three w B t x y z) (j : Nat) : w.frozen? ⟨B, j, none⟩ = false := by simp [World.frozen?, show w.heap[B]? = _ from h]
theorem Three.lt {w : World} {B : Nat} {t : TypeId} {x y z : Value} (h : Three w B t x y z) : B < w.heap.size := (Array.getElem?_eq_some_iff.1 h).1
theorem Three.grown {w w' : World} {B : Nat} {t : TypeId} {x y z : Value} {row : Option Nat} (h : Three w B t x y z) (hg : w.grownBy w' row) (hne : some B ≠ row) : Three w' B t x y z := (hg.block B h.lt hne).trans h
theorem Three.alloc {w : World} {B : Nat} {t : TypeId} {x y z : Value} (h : Three w B t x y z) (o : Obj) : Three (w.alloc o) B t x y z := h.grown (World.grownBy_alloc w o none) (by simp)
theorem Three.not_row {W : World} {B : Nat} {t e : TypeId} {x y z : Value} (h : Three W B t x y z) (hte : t ≠ e) {base size k : Nat} {v : Value} {xs : List Value} (hr : W.ownsRow base e size v k xs) : some B ≠ v.ownBlock := by
  rcases hr.2 with ⟨rfl, _⟩ | ⟨g, cap, cur, rfl, _, hgb, _⟩
  · simp [Value.ownBlock]
  · intro e'
    simp only [Value.ownBlock, Option.some.injEq] at e'
    subst e'
    rw [show W.heap[B]? = _ from h] at hgb
    injection hgb with hgb
    injection hgb with _ h2
    exact hte h2
/-- Where the inner loop is. -/
structure SzAt (w : World) (B f la st j n0 N : Nat) (s k : Value) (w3 : World) : Prop where
  ex : ∃ (t : Nat) (A : Option Addr) (c : Nat), t ≤ N ∧ k = .int .i64 ((f + st * t : Nat) : Int) ∧ s = .slice A (n0 + t) c ∧ w3.ownsRow w.heap.size 3 1 (.slice A (n0 + t) c) (n0 + t) ((szs j ++ segL f st t).map (Value.int .i64)) ∧ Below w.heap.size w w3 ∧
          Three w3 B 65 (.int .i64 (f : Int)) (.int .i64 (la : Int)) (.int .i64 (st : Int))
/-- Where the outer loop is. -/
structure SzOut (w : World) (s i : Value) (wr : World) : Prop where
  ex : ∃ (j : Nat) (A : Option Addr) (c : Nat), j ≤ 4 ∧ i = .int .i64 j ∧ s = .slice A (cnt j) c ∧ wr.ownsRow w.heap.size 3 1 (.slice A (cnt j) c) (cnt j) ((szs j).map (Value.int .i64)) ∧ Below w.heap.size w wr
/-- append of one size. -/
theorem sizes_app {w wr : World} {B f la st n : Nat} {A : Option Addr} {c : Nat} {xs : List Int} (hO : wr.ownsRow w.heap.size 3 1 (.slice A n c) n (xs.map (Value.int .i64))) (hb : Below w.heap.size w wr)
    (hT : Three wr B 65 (.int .i64 f) (.int .i64 la) (.int .i64 st)) (hn : n < 1000) (x : Int) :
    ∃ A2 c2 w2, (Builtin.append_ #[28, 28] 28 #[.slice A n c, .slice (some ⟨wr.heap.size, 0, none⟩) 1 1]).run Tryd.prog (wr.alloc (.cells #[.int .i64 x] 3)) = .ok (.slice A2 (n + 1) c2) w2 ∧
      w2.ownsRow w.heap.size 3 1 (.slice A2 (n + 1) c2) (n + 1) ((xs ++ [x]).map (Value.int .i64)) ∧ Below w.heap.size w w2 ∧ Three w2 B 65 (.int .i64 f) (.int .i64 la) (.int .i64 st) := by
  obtain ⟨i0, hi, hz0, hz1, hz2⟩ := info_q Tryd.info_int
  obtain ⟨A2, c2, w2, h1, h2, h3⟩ := append_one_q (P := Tryd.prog) (q := .i64) (x := x) Tryd.underlying28 hi hz0 hz1 hz2 (by decide) hO (by omega) hb.size
  exact ⟨A2, c2, w2, h1, h2, (hb.alloc hb.size _).grown h3 (by simp; have := hb.size; omega) (fun k hk => (hO.lt k hk).1), (hT.alloc _).grown h3 (hT.not_row (by decide) hO)⟩
theorem range_at0 (w : World) : (Instr.index 66 (.agg #[.int .i64 40, .int .i64 512, .int .i64 8, .int .i64 528, .int .i64 1024, .int .i64 16, .int .i64 1056, .int .i64 2048, .int .i64 32, .int .i64 2112, .int .i64 6144, .int .i64 64]) (.int .i64 0)).run Tryd.prog w = .ok (.agg #[.int .i64 40, .int .i64 512, .int .i64 8]) w := by kernel_rfl
theorem range_at1 (w : World) : (Instr.index 66 (.agg #[.int .i64 40, .int .i64 512, .int .i64 8, .int .i64 528, .int .i64 1024, .int .i64 16, .int .i64 1056, .int .i64 2048, .int .i64 32, .int .i64 2112, .int .i64 6144, .int .i64 64]) (.int .i64 1)).run Tryd.prog w = .ok (.agg #[.int .i64 528, .int .i64 1024, .int .i64 16]) w := by kernel_rfl
theorem range_at2 (w : World) : (Instr.index 66 (.agg #[.int .i64 40, .int .i64 512, .int .i64 8, .int .i64 528, .int .i64 1024, .int .i64 16, .int .i64 1056, .int .i64 2048, .int .i64 32, .int .i64 2112, .int .i64 6144, .int .i64 64]) (.int .i64 2)).run Tryd.prog w = .ok (.agg #[.int .i64 1056, .int .i64 2048, .int .i64 32]) w := by kernel_rfl
theorem range_at3 (w : World) : (Instr.index 66 (.agg #[.int .i64 40, .int .i64 512, .int .i64 8, .int .i64 528, .int .i64 1024, .int .i64 16, .int .i64 1056, .int .i64 2048, .int .i64 32, .int .i64 2112, .int .i64 6144, .int .i64 64]) (.int .i64 3)).run Tryd.prog w = .ok (.agg #[.int .i64 2112, .int .i64 6144, .int .i64 64]) w := by kernel_rfl
set_option maxRecDepth 100000 in
set_option maxHeartbeats 4000000 in
theorem Sizes_any {w : World} (hK : Kinds w) :
    Calls Tryd.prog 13 #[] w fun e w' => ∃ A c, e = .returned (.slice A 188 c) ∧
      w'.ownsRow w.heap.size 3 1 (.slice A 188 c) 188 ((sizesL.map Int.ofNat).map (Value.int .i64)) ∧ Below w.heap.size w w' := by
  obtain ⟨a0, a1, a2, b0, b1, b2, c0, c1, c2, d0, d1, d2⟩ := hK.rg.all
  have hlt := hK.lt
  clear hK
  rw [← szs_all]
  go_enter Tryd.func13, Tryd.ntmps13
  go_wp2_with fail
  clear a0 a1 a2 b0 b1 b2 c0 c1 c2 d0 d1 d2
  go_loopw [1, 6] (fun s i wr => SzOut w s i wr) (fun _ i _ => 4 - (intOf i).toNat)
  case atStart => exact ⟨⟨0, none, 0, by decide, rfl, rfl, by simpa [cnt, szs] using World.ownsRow_nil w w.heap.size 3 1, Below.refl _ _⟩⟩
  case round =>
    obtain ⟨⟨j, A, c, hj, rfl, rfl, hown, hbb⟩⟩ := hrel
    have hj5 : j = 0 ∨ j = 1 ∨ j = 2 ∨ j = 3 ∨ j = 4 := by omega
    rcases hj5 with rfl | rfl | rfl | rfl | rfl
    · rw [show cnt 0 = 0 from rfl] at hown ⊢
      have hT := Three.new wr 65 (.int .i64 40) (.int .i64 512) (.int .i64 8)
      have hb1 := hbb.alloc hbb.size (.cells #[.int .i64 40, .int .i64 512, .int .i64 8] 65)
      have hO1 : Hid (_) := Lib.hid (hown.alloc (.cells #[.int .i64 40, .int .i64 512, .int .i64 8] 65))
      have p0 := hT.cell0
      have p1 := hT.cell1
      have p2 := hT.cell2
      have hix := range_at0
      clear hown
      go_wp2_with fail
      have hSz : (wr.alloc (.cells #[.int .i64 40, .int .i64 512, .int .i64 8] 65)).heap.size = wr.heap.size + 1 := World.size_alloc _ _
      generalize (wr.alloc (.cells #[.int .i64 40, .int .i64 512, .int .i64 8] 65)) = W at *
      clear p0 p1 p2 hix
      go_loopw [1, 4] (fun s k w3 => SzAt w wr.heap.size 40 512 8 0 0 60 s k w3) (fun _ k _ => 520 - (intOf k).toNat)
      case atStart => exact ⟨⟨0, A, c, by decide, rfl, rfl, by simpa [segL] using hO1.out, hb1, hT⟩⟩
      case round =>
        obtain ⟨⟨t, A2, c2, ht, rfl, rfl, hO2, hb2, hT2⟩⟩ := hrel
        simp only [Int.cast_ofNat_Int] at hT2
        have p1 := hT2.cell1
        by_cases htt : t < 60
        · obtain ⟨A3, c3, w4, hrun, hO3, hb3, hT3⟩ := sizes_app (la := 512) (f := 40) (st := 8) hO2 hb2 hT2 (by omega) ((40 + 8 * t : Nat) : Int)
          simp only [Int.cast_ofNat_Int] at hT3
          have p1' := hT3.cell1
          have p2' := hT3.cell2
          have HR := Lib.hid hrun
          have HO3 := Lib.hid hO3
          clear hrun hO3 hO2 hb2 hO1 hb1 hT
          obtain ⟨x, hx⟩ : ∃ x, 40 + 8 * t = x := ⟨_, rfl⟩
          rw [hx] at HR HO3 ⊢
          have hxl : (x : Int) ≤ 512 := by omega
          have HX := Lib.hid hx
          clear hx htt ht
          go_wp2_with (at_builtin; refine Lib.wpList_append_run _ rfl _ _ _ _ rfl _ _ rfl rfl _ _ HR.out ?_)
          go_roundw
          case rel =>
            refine ⟨_, _, _, _, _, _, _, _, _, _, _, _, _, _, ?_, rfl⟩
            exact ⟨⟨t + 1, A3, c3, by have := HX.out; omega, congrArg (Value.int .i64) (by have := HX.out; omega), by first | rfl | simp, by rw [segL_succ, HX.out, ← List.append_assoc]; exact HO3.out, hb3, hT3⟩⟩
          case measure => simp [intOf]; omega
        · obtain rfl : t = 60 := by omega
          rw [← szs_succ0] at hO2
          have HO2 := Lib.hid hO2
          clear hO2
          go_wp2_with fail
          go_roundw
          case rel => exact SzOut.mk ⟨1, A2, c2, by decide, rfl, rfl, HO2.out, hb2⟩
          case measure => simp [intOf]
    · rw [show cnt 1 = 60 from rfl] at hown ⊢
      have hT := Three.new wr 65 (.int .i64 528) (.int .i64 1024) (.int .i64 16)
      have hb1 := hbb.alloc hbb.size (.cells #[.int .i64 528, .int .i64 1024, .int .i64 16] 65)
      have hO1 : Hid (_) := Lib.hid (hown.alloc (.cells #[.int .i64 528, .int .i64 1024, .int .i64 16] 65))
      have p0 := hT.cell0
      have p1 := hT.cell1
      have p2 := hT.cell2
      have hix := range_at1
      clear hown
      go_wp2_with fail
      have hSz : (wr.alloc (.cells #[.int .i64 528, .int .i64 1024, .int .i64 16] 65)).heap.size = wr.heap.size + 1 := World.size_alloc _ _
      generalize (wr.alloc (.cells #[.int .i64 528, .int .i64 1024, .int .i64 16] 65)) = W at *
      clear p0 p1 p2 hix
      go_loopw [1, 4] (fun s k w3 => SzAt w wr.heap.size 528 1024 16 1 60 32 s k w3) (fun _ k _ => 1040 - (intOf k).toNat)
      case atStart => exact ⟨⟨0, A, c, by decide, rfl, rfl, by simpa [segL] using hO1.out, hb1, hT⟩⟩
      case round =>
        obtain ⟨⟨t, A2, c2, ht, rfl, rfl, hO2, hb2, hT2⟩⟩ := hrel
        simp only [Int.cast_ofNat_Int] at hT2
        have p1 := hT2.cell1
        by_cases htt : t < 32
        · obtain ⟨A3, c3, w4, hrun, hO3, hb3, hT3⟩ := sizes_app (la := 1024) (f := 528) (st := 16) hO2 hb2 hT2 (by omega) ((528 + 16 * t : Nat) : Int)
          simp only [Int.cast_ofNat_Int] at hT3
          have p1' := hT3.cell1
          have p2' := hT3.cell2
          have HR := Lib.hid hrun
          have HO3 := Lib.hid hO3
          clear hrun hO3 hO2 hb2 hO1 hb1 hT
          obtain ⟨x, hx⟩ : ∃ x, 528 + 16 * t = x := ⟨_, rfl⟩
          rw [hx] at HR HO3 ⊢
          have hxl : (x : Int) ≤ 1024 := by omega
          have HX := Lib.hid hx
          clear hx htt ht
          go_wp2_with (at_builtin; refine Lib.wpList_append_run _ rfl _ _ _ _ rfl _ _ rfl rfl _ _ HR.out ?_)
          go_roundw
          case rel =>
            refine ⟨_, _, _, _, _, _, _, _, _, _, _, _, _, _, ?_, rfl⟩
            exact ⟨⟨t + 1, A3, c3, by have := HX.out; omega, congrArg (Value.int .i64) (by have := HX.out; omega), by first | rfl | simp, by rw [segL_succ, HX.out, ← List.append_assoc]; exact HO3.out, hb3, hT3⟩⟩
          case measure => simp [intOf]; omega
        · obtain rfl : t = 32 := by omega
          rw [← szs_succ1] at hO2
          have HO2 := Lib.hid hO2
          clear hO2
          go_wp2_with fail
          go_roundw
          case rel => exact SzOut.mk ⟨2, A2, c2, by decide, rfl, rfl, HO2.out, hb2⟩
          case measure => simp [intOf]
    · rw [show cnt 2 = 92 from rfl] at hown ⊢
      have hT := Three.new wr 65 (.int .i64 1056) (.int .i64 2048) (.int .i64 32)
      have hb1 := hbb.alloc hbb.size (.cells #[.int .i64 1056, .int .i64 2048, .int .i64 32] 65)
      have hO1 : Hid (_) := Lib.hid (hown.alloc (.cells #[.int .i64 1056, .int .i64 2048, .int .i64 32] 65))
      have p0 := hT.cell0
      have p1 := hT.cell1
      have p2 := hT.cell2
      have hix := range_at2
      clear hown
      go_wp2_with fail
      have hSz : (wr.alloc (.cells #[.int .i64 1056, .int .i64 2048, .int .i64 32] 65)).heap.size = wr.heap.size + 1 := World.size_alloc _ _
      generalize (wr.alloc (.cells #[.int .i64 1056, .int .i64 2048, .int .i64 32] 65)) = W at *
      clear p0 p1 p2 hix
      go_loopw [1, 4] (fun s k w3 => SzAt w wr.heap.size 1056 2048 32 2 92 32 s k w3) (fun _ k _ => 2080 - (intOf k).toNat)
      case atStart => exact ⟨⟨0, A, c, by decide, rfl, rfl, by simpa [segL] using hO1.out, hb1, hT⟩⟩
      case round =>
        obtain ⟨⟨t, A2, c2, ht, rfl, rfl, hO2, hb2, hT2⟩⟩ := hrel
        simp only [Int.cast_ofNat_Int] at hT2
        have p1 := hT2.cell1
        by_cases htt : t < 32
        · obtain ⟨A3, c3, w4, hrun, hO3, hb3, hT3⟩ := sizes_app (la := 2048) (f := 1056) (st := 32) hO2 hb2 hT2 (by omega) ((1056 + 32 * t : Nat) : Int)
          simp only [Int.cast_ofNat_Int] at hT3
          have p1' := hT3.cell1
          have p2' := hT3.cell2
          have HR := Lib.hid hrun
          have HO3 := Lib.hid hO3
          clear hrun hO3 hO2 hb2 hO1 hb1 hT
          obtain ⟨x, hx⟩ : ∃ x, 1056 + 32 * t = x := ⟨_, rfl⟩
          rw [hx] at HR HO3 ⊢
          have hxl : (x : Int) ≤ 2048 := by omega
          have HX := Lib.hid hx
          clear hx htt ht
          go_wp2_with (at_builtin; refine Lib.wpList_append_run _ rfl _ _ _ _ rfl _ _ rfl rfl _ _ HR.out ?_)
          go_roundw
          case rel =>
            refine ⟨_, _, _, _, _, _, _, _, _, _, _, _, _, _, ?_, rfl⟩
            exact ⟨⟨t + 1, A3, c3, by have := HX.out; omega, congrArg (Value.int .i64) (by have := HX.out; omega), by first | rfl | simp, by rw [segL_succ, HX.out, ← List.append_assoc]; exact HO3.out, hb3, hT3⟩⟩
          case measure => simp [intOf]; omega
        · obtain rfl : t = 32 := by omega
          rw [← szs_succ2] at hO2
          have HO2 := Lib.hid hO2
          clear hO2
          go_wp2_with fail
          go_roundw
          case rel => exact SzOut.mk ⟨3, A2, c2, by decide, rfl, rfl, HO2.out, hb2⟩
          case measure => simp [intOf]
    · rw [show cnt 3 = 124 from rfl] at hown ⊢
      have hT := Three.new wr 65 (.int .i64 2112) (.int .i64 6144) (.int .i64 64)
      have hb1 := hbb.alloc hbb.size (.cells #[.int .i64 2112, .int .i64 6144, .int .i64 64] 65)
      have hO1 : Hid (_) := Lib.hid (hown.alloc (.cells #[.int .i64 2112, .int .i64 6144, .int .i64 64] 65))
      have p0 := hT.cell0
      have p1 := hT.cell1
      have p2 := hT.cell2
      have hix := range_at3
      clear hown
      go_wp2_with fail
      have hSz : (wr.alloc (.cells #[.int .i64 2112, .int .i64 6144, .int .i64 64] 65)).heap.size = wr.heap.size + 1 := World.size_alloc _ _
      generalize (wr.alloc (.cells #[.int .i64 2112, .int .i64 6144, .int .i64 64] 65)) = W at *
      clear p0 p1 p2 hix
      go_loopw [1, 4] (fun s k w3 => SzAt w wr.heap.size 2112 6144 64 3 124 64 s k w3) (fun _ k _ => 6208 - (intOf k).toNat)
      case atStart => exact ⟨⟨0, A, c, by decide, rfl, rfl, by simpa [segL] using hO1.out, hb1, hT⟩⟩
      case round =>
        obtain ⟨⟨t, A2, c2, ht, rfl, rfl, hO2, hb2, hT2⟩⟩ := hrel
        simp only [Int.cast_ofNat_Int] at hT2
        have p1 := hT2.cell1
        by_cases htt : t < 64
        · obtain ⟨A3, c3, w4, hrun, hO3, hb3, hT3⟩ := sizes_app (la := 6144) (f := 2112) (st := 64) hO2 hb2 hT2 (by omega) ((2112 + 64 * t : Nat) : Int)
          simp only [Int.cast_ofNat_Int] at hT3
          have p1' := hT3.cell1
          have p2' := hT3.cell2
          have HR := Lib.hid hrun
          have HO3 := Lib.hid hO3
          clear hrun hO3 hO2 hb2 hO1 hb1 hT
          obtain ⟨x, hx⟩ : ∃ x, 2112 + 64 * t = x := ⟨_, rfl⟩
          rw [hx] at HR HO3 ⊢
          have hxl : (x : Int) ≤ 6144 := by omega
          have HX := Lib.hid hx
          clear hx htt ht
          go_wp2_with (at_builtin; refine Lib.wpList_append_run _ rfl _ _ _ _ rfl _ _ rfl rfl _ _ HR.out ?_)
          go_roundw
          case rel =>
            refine ⟨_, _, _, _, _, _, _, _, _, _, _, _, _, _, ?_, rfl⟩
            exact ⟨⟨t + 1, A3, c3, by have := HX.out; omega, congrArg (Value.int .i64) (by have := HX.out; omega), by first | rfl | simp, by rw [segL_succ, HX.out, ← List.append_assoc]; exact HO3.out, hb3, hT3⟩⟩
          case measure => simp [intOf]; omega
        · obtain rfl : t = 64 := by omega
          rw [← szs_succ3] at hO2
          have HO2 := Lib.hid hO2
          clear hO2
          go_wp2_with fail
          go_roundw
          case rel => exact SzOut.mk ⟨4, A2, c2, by decide, rfl, rfl, HO2.out, hb2⟩
          case measure => simp [intOf]
    · rw [show cnt 4 = 188 from rfl] at hown ⊢
      have hO := Lib.hid hown
      clear hown
      go_wp2_with fail
      go_ret
      exact ⟨A, c, rfl, hO.out, hbb⟩
end Go.Proofs.YtkdodmjhpkfhnaaDoor
