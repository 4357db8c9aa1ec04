/-
  The law's works.
-/
import Derived.Test.YtbpkoilecdejiaaDoorU9
import Derived.Test.YtbpkoilecdejiaaDoorV8
import Derived.Test.YtbpkoilecdejiaaDoorSm
import Derived.Test.YtbpkoilecdejiaaDoorLw
namespace Go.Proofs.YtbpkoilecdejiaaDoor
set_option maxRecDepth 100000
open Go.RowKit

def onesL : List Nat := [39, 42, 83, 84, 85, 87, 111, 112, 113, 114, 117, 119, 120, 121, 124, 126, 127, 128, 129, 130, 131]
def oneF (i : Nat) : Nat := onesL[i]?.getD 0
def bit40 : List Int := (List.replicate 40 0).set 39 1
def wantI : List Int := putL oneF (fun _ => 1) 132 21
theorem ex_enc0 : tbS (List.replicate 40 0) = (List.replicate 132 0, 0) := by decide +kernel
theorem ex_enc1 : tbS bit40 = (wantI, 0) := by decide +kernel
theorem ex_size : sizeS 40 = 132 ∧ sizeS 41 = 0 := by decide +kernel
theorem ex_ly1 : (sysL 40 1 43)[39]?.getD 0 = 39 ∧ ((sysL 40 1 43).drop 40).take (43 - 40) = [40, 128, 85] ∧ (parLay 40 1 43)[0]?.getD 0 = 44 ∧ ((parLay 40 1 43).drop 40).take (43 - 40) = [84, 41, 129] := by decide +kernel
theorem ex_ly2 : (sysL 40 2 43).take 3 = [0, 13, 6] ∧ ((sysL 40 2 43).drop 40).take (43 - 40) = [42, 130, 87] ∧ (parLay 40 2 43)[0]?.getD 0 = 88 ∧ ((parLay 40 2 43).drop 40).take (43 - 40) = [86, 43, 131] := by decide +kernel
theorem oneF_lt : ∀ t, t < 21 → oneF t < 132 := by decide
theorem byte_all {xs : List Int} (h : xs.all (fun x => decide (0 ≤ x ∧ x ≤ 255)) = true) : Byte xs := Byte.of_mem (fun x hx => by
  rw [List.all_eq_true] at h
  simpa using h x hx)
theorem rd_litq (q : IntKind) (w : World) (xs : List Int) (T : TypeId) : Rd q (w.alloc (.cells (xs.map (Value.int q)).toArray T)) (w.alloc (.cells (xs.map (Value.int q)).toArray T)).heap.size (some ⟨w.heap.size, 0, none⟩) xs.length xs := by
  refine ⟨rfl, fun k hk => ⟨w.heap.size, 0, rfl, by simp, ?_⟩⟩
  have h := World.alloc_heap_new w (.cells (xs.map (Value.int q)).toArray T)
  simp only [World.cell?, h, Nat.zero_add]
  rw [List.getElem?_toArray, List.getElem?_map, List.getElem?_eq_getElem hk]
  rfl
theorem enc_lit {A : Option Addr} {n c m : Nat} {xs ys : List Int} {w : World} (hK : Kinds w) (hI : Rd .u8 w w.heap.size A n xs) (hb : Byte xs) (hn : n ≤ 2199023255552) (h : tbS xs = (ys, 0)) (hl : ys.length = m) :
    Calls Tryd.prog 11 #[.slice A n c] w fun e w' => ∃ A2 c2, e = .returned (.tuple #[.slice A2 m c2, .int .i64 0]) ∧ Rd .u8 w' w'.heap.size A2 m ys ∧ Below w.heap.size w w' := by
  have hE := turboEncode_any (c := c) hK hI hb hn
  rw [h] at hE
  subst hl
  exact hE.mono fun e w' ⟨A2, c2, h1, h2, h3⟩ => ⟨A2, c2, h1, Rd.of_own h2, h3⟩
theorem lay_lit {m c : Nat} {w : World} (hK : Kinds w) (hs : IsSize m) (hc : c = 1 ∨ c = 2) :
    Calls Tryd.prog 21 #[.int .i64 (m : Int), .int .i64 (c : Int)] w fun e w' => ∃ A c1 A' c1', e = .returned (.tuple #[.slice A (m + 3) c1, .slice A' (m + 3) c1', .int .i64 0]) ∧ (Rd .i64 w' w'.heap.size A (m + 3) (sysL m c (m + 3)) ∧ Rd .i64 w' w'.heap.size A' (m + 3) (parLay m c (m + 3))) ∧ (m + 3 ≤ c1 ∧ m + 3 ≤ c1') ∧ Below w.heap.size w w' := by
  obtain ⟨e1, e2, e3, e4⟩ := lyS_size hs hc
  have hL := Layout_any (k := (m : Int)) (c := (c : Int)) hK
  unfold RetLay at hL
  rw [e1, e2, e3, e4] at hL
  refine hL.mono ?_
  rintro e w' ⟨A, c1, A', c1', rfl, ⟨A2, c2, h1, h2, _, h3⟩, ⟨A4, c4, h4, h5, _, h6⟩, hb⟩
  injection h1 with h1 _ h1'
  injection h4 with h4 _ h4'
  subst h1 h1' h4 h4'
  exact ⟨_, _, _, _, rfl, ⟨h2, h5⟩, ⟨h3, h6⟩, hb⟩
theorem ints_lit {A A' : Option Addr} {n c c' B B' : Nat} {xs ys : List Int} {w : World} (h : Rd .i64 w B A n xs) (h' : Rd .i64 w B' A' n ys) (hn : n ≤ 140737488351232) (e : xs = ys) :
    Calls Tryd.prog 23 #[.slice A n c, .slice A' n c'] w fun e w' => e = .returned (.bool true) ∧ Below w.heap.size w w' := by
  have hS := sameQ_any (c := c) (c' := c') h h' hn hn
  rw [decide_eq_true e] at hS
  exact hS.mono fun e w' ⟨h1, i, h2⟩ => ⟨h1, by subst h2; exact below_drewN (Below.refl _ _) i⟩
theorem back3 {A : Option Addr} {c B : Nat} {xs : List Int} {w : World} (h : Rd .i64 w B A 43 xs) (hc : 43 ≤ c) : ∃ A', (∀ u : World, (Instr.slice 36 (.slice A 43 c) (some (.int .i64 40)) none none).run Tryd.prog u = .ok (.slice A' 3 (c - 40)) u) ∧ Rd .i64 w B A' 3 ((xs.drop 40).take (43 - 40)) := by
  refine ⟨_, fun u => ?_, h.cut (lo := 40) (hi := 43) (cap := c) (by decide) (Nat.le_refl _) hc⟩
  simp [Instr.slice, Instr.sliceBounds, Instr.sliceBound, run_underlying Tryd.underlying36, asIntOf, go_sem]
theorem front3 {A : Option Addr} {n c m : Nat} (hm : m ≤ c) (u : World) : (Instr.slice 36 (.slice A n c) none (some (.int .i64 (m : Int))) none).run Tryd.prog u = .ok (.slice A m c) u := by
  rcases A with _ | a
  · simp [Instr.slice, Instr.sliceBounds, Instr.sliceBound, run_underlying Tryd.underlying36, asIntOf, go_sem, hm]
  · simp [Instr.slice, Instr.sliceBounds, Instr.sliceBound, run_underlying Tryd.underlying36, asIntOf, go_sem, hm]
set_option maxHeartbeats 8000000 in
theorem works_any {w : World} (hK : Kinds w) :
    Calls Tryd.prog 10 #[] w fun e w' => e = .returned (.bool true) ∧ Below w.heap.size w w' := by
  have hmk40 : ∀ u : World, (Instr.makeSlice 22 (.int .i64 40) (.int .i64 40)).run Tryd.prog u = .ok (.slice (some ⟨u.heap.size, 0, none⟩) 40 40) (u.alloc (.cells (madeCells #[.int .u8 0] 40) 5)) := make_bytes 40 40 (by decide) (by decide)
  have hmk132 : ∀ u : World, (Instr.makeSlice 22 (.int .i64 132) (.int .i64 132)).run Tryd.prog u = .ok (.slice (some ⟨u.heap.size, 0, none⟩) 132 132) (u.alloc (.cells (madeCells #[.int .u8 0] 132) 5)) := make_bytes 132 132 (by decide) (by decide)
  have hE := Lib.hid (fun (u : World) (xs ys : List Int) (A : Option Addr) (h : Below w.heap.size w u) (hI : Rd .u8 u u.heap.size A 40 xs) (hx : Byte xs) (e : tbS xs = (ys, 0)) (hl : ys.length = 132) => enc_lit (c := 40) (hK.step h) hI hx (by decide) e hl)
  have hL := Lib.hid (fun (u : World) (c : Nat) (h : Below w.heap.size w u) (hc : c = 1 ∨ c = 2) => lay_lit (m := 40) (hK.step h) (by decide) hc)
  have hS := Lib.hid (fun (u : World) (k : Int) (h : Below w.heap.size w u) => Size_any (k := k) (hK.step h))
  clear hK
  go_enter Tryd.func10, Tryd.ntmps10
  have hba := (Below.refl w.heap.size w).alloc (Nat.le_refl _) (.cells (madeCells #[.int .u8 0] 40) 5)
  have oa := own_zeros (w := w) (B := w.heap.size) (n := 40) (m := 40) (Nat.le_refl _) (by decide) (Nat.le_refl _)
  have C1 := hE.out _ _ _ _ hba (Rd.of_own oa) (byte_all (by decide +kernel)) ex_enc0 (by decide +kernel)
  clear oa
  go_wp2_with fail
  refine C1.mono ?_
  rintro e w1 ⟨A1, c1, rfl, R1, h⟩
  have hb := hba.trans (h.mono hba.size)
  clear hba h C1
  have oa := own_zeros (w := w1) (B := w1.heap.size) (n := 40) (m := 40) (Nat.le_refl _) (by decide) (Nat.le_refl _)
  have ca := World.ownsRow.cellAt oa 39 (by decide)
  have fa := oa.frozenAt 39
  have ob := (World.ownsRow.stored oa 39 (.int .u8 1)).1
  rw [← List.map_set] at ob
  have hb2 := (hb.alloc hb.size (.cells (madeCells #[.int .u8 0] 40) 5)).setCell (p := ⟨w1.heap.size, 39, none⟩) hb.size (.int .u8 1)
  have hab := ((Below.refl w1.heap.size w1).alloc (Nat.le_refl _) (.cells (madeCells #[.int .u8 0] 40) 5)).setCell (p := ⟨w1.heap.size, 39, none⟩) (Nat.le_refl _) (.int .u8 1)
  have R1 := R1.step hab
  have ez : (w1.alloc (.cells (madeCells #[.int .u8 0] 40) 5)).setCell ⟨w1.heap.size, 39, none⟩ (.int .u8 1) = w1.alloc (.cells ((madeCells #[.int .u8 0] 40).setIfInBounds 39 (.int .u8 1)) 5) := by simp [go_sem]
  rw [ez] at ob hb2 hab R1
  clear ez
  have C1 := hE.out _ _ _ _ hb2 (Rd.of_own ob) (byte_all (by decide +kernel)) ex_enc1 (by decide +kernel)
  simp only [List.map_replicate, List.getElem?_replicate, Nat.reduceLT, if_true] at ca
  clear oa ob hb hab
  go_wp2_with fail
  generalize w1.alloc (.cells ((madeCells #[.int .u8 0] 40).setIfInBounds 39 (.int .u8 1)) 5) = w2 at *
  refine C1.mono ?_
  rintro e w3 ⟨A4, c4, rfl, R4, h⟩
  have R1 := R1.step h
  have hb := hb2.trans (h.mono hb2.size)
  clear hb2 h C1 ca fa hE
  have R6 := rd_litq .i64 w3 (intsOf onesL) 3
  have h1 := (Below.refl w3.heap.size w3).alloc (Nat.le_refl _) (.cells ((intsOf onesL).map (Value.int .i64)).toArray 3)
  have s1 : (w3.alloc (.cells ((intsOf onesL).map (Value.int .i64)).toArray 3)).heap.size = w3.heap.size + 1 := by simp
  have R1 := R1.step h1
  have R4 := R4.step h1
  have hb := hb.trans (h1.mono hb.size)
  clear h1
  have eo : ((intsOf onesL).map (Value.int .i64)).toArray = #[.int .i64 39, .int .i64 42, .int .i64 83, .int .i64 84, .int .i64 85, .int .i64 87, .int .i64 111, .int .i64 112, .int .i64 113, .int .i64 114, .int .i64 117, .int .i64 119, .int .i64 120, .int .i64 121, .int .i64 124, .int .i64 126, .int .i64 127, .int .i64 128, .int .i64 129, .int .i64 130, .int .i64 131] := rfl
  rw [eo] at R6 s1 R1 R4 hb
  clear eo
  rw [show (intsOf onesL).length = 21 from rfl] at R6
  have oW := own_zeros (w := w3.alloc (.cells #[.int .i64 39, .int .i64 42, .int .i64 83, .int .i64 84, .int .i64 85, .int .i64 87, .int .i64 111, .int .i64 112, .int .i64 113, .int .i64 114, .int .i64 117, .int .i64 119, .int .i64 120, .int .i64 121, .int .i64 124, .int .i64 126, .int .i64 127, .int .i64 128, .int .i64 129, .int .i64 130, .int .i64 131] 3)) (B := (w3.alloc (.cells #[.int .i64 39, .int .i64 42, .int .i64 83, .int .i64 84, .int .i64 85, .int .i64 87, .int .i64 111, .int .i64 112, .int .i64 113, .int .i64 114, .int .i64 117, .int .i64 119, .int .i64 120, .int .i64 121, .int .i64 124, .int .i64 126, .int .i64 127, .int .i64 128, .int .i64 129, .int .i64 130, .int .i64 131] 3)).heap.size) (n := 132) (m := 132) (Nat.le_refl _) (by decide) (Nat.le_refl _)
  have hb0 := (Below.refl (w3.alloc (.cells #[.int .i64 39, .int .i64 42, .int .i64 83, .int .i64 84, .int .i64 85, .int .i64 87, .int .i64 111, .int .i64 112, .int .i64 113, .int .i64 114, .int .i64 117, .int .i64 119, .int .i64 120, .int .i64 121, .int .i64 124, .int .i64 126, .int .i64 127, .int .i64 128, .int .i64 129, .int .i64 130, .int .i64 131] 3)).heap.size (w3.alloc (.cells #[.int .i64 39, .int .i64 42, .int .i64 83, .int .i64 84, .int .i64 85, .int .i64 87, .int .i64 111, .int .i64 112, .int .i64 113, .int .i64 114, .int .i64 117, .int .i64 119, .int .i64 120, .int .i64 121, .int .i64 124, .int .i64 126, .int .i64 127, .int .i64 128, .int .i64 129, .int .i64 130, .int .i64 131] 3))).alloc (Nat.le_refl _) (.cells (madeCells #[.int .u8 0] 132) 5)
  go_wp2_with fail
  generalize w3.alloc (.cells #[.int .i64 39, .int .i64 42, .int .i64 83, .int .i64 84, .int .i64 85, .int .i64 87, .int .i64 111, .int .i64 112, .int .i64 113, .int .i64 114, .int .i64 117, .int .i64 119, .int .i64 120, .int .i64 121, .int .i64 124, .int .i64 126, .int .i64 127, .int .i64 128, .int .i64 129, .int .i64 130, .int .i64 131] 3) = w4 at *
  rw [← s1]
  clear s1
  obtain ⟨D, hD⟩ : ∃ D, w4.heap.size = D := ⟨_, rfl⟩
  rw [hD] at oW hb0 ⊢
  have HD := Lib.hid hD
  clear hD
  have HW := Lib.hid oW
  have HB0 := Lib.hid hb0
  have H4 := Lib.hid (And.intro R1 (And.intro R4 R6))
  have HB := Lib.hid hb
  clear oW hb0 R1 R4 R6 hb
  go_loopw [8] (fun i wr => ∃ t : Nat, t ≤ 21 ∧ i = .int .i64 (t : Int) ∧ Hid (wr.ownsRow D 5 1 (.slice (some ⟨D, 0, none⟩) 132 132) 132 ((putL oneF (fun _ => 1) 132 t).map (Value.int .u8))) ∧ Hid (Below D w4 wr)) (fun i _ => 21 - (intOf i).toNat)
  case atStart => exact ⟨0, Nat.zero_le _, rfl, HW, HB0⟩
  case round =>
    clear HW HB0
    obtain ⟨t, ht, rfl, hO, hbw⟩ := hrel
    by_cases hlt : t < 21
    · obtain ⟨b, off, e6, hb1, hc⟩ := (H4.out.2.2.below (w' := wr) (by rw [HD.out]; exact hbw.out)).cells t hlt
      injection e6 with e6
      injection e6 with e6 e7
      subst e6 e7
      rw [intsOf_get, Nat.zero_add] at hc
      have hpl : oneF t < 132 := oneF_lt t hlt
      have hcc : wr.cell? ⟨w3.heap.size, t, none⟩ = some (.int .i64 (oneF t : Nat)) := hc
      obtain ⟨v, hv⟩ := putL_cell hO.out hpl
      have hf := hO.out.frozenAt (oneF t)
      have hO2 := Lib.hid (putL_set hO.out)
      have hb2 := Lib.hid (hbw.out.setCell (p := ⟨D, oneF t, none⟩) (Nat.le_refl _) (.int .u8 1))
      have ht1 : (t : Int) < 21 := by omega
      have hp1 : ((oneF t : Nat) : Int) < 132 := by omega
      have hp0 : (0 : Int) ≤ ((oneF t : Nat) : Int) := by omega
      have ht0 : (0 : Int) ≤ (t : Int) := by omega
      generalize oneF t = p at *
      clear hO hbw hc H4 HB hL hS
      go_wp2_with fail
      go_roundw
      case rel => exact ⟨t + 1, by omega, by go_num, hO2, hb2⟩
      case measure => simp [intOf]; omega
    · obtain rfl : t = 21 := by omega
      have R7 : Rd .u8 wr wr.heap.size (some ⟨D, 0, none⟩) 132 wantI := Rd.of_own hO.out
      have hbw : Below w4.heap.size w4 wr := by rw [HD.out]; exact hbw.out
      have R1 := H4.out.1.step hbw
      have R4 := H4.out.2.1.step hbw
      have hb := HB.out.trans (hbw.mono HB.out.size)
      clear hO hbw H4 HB hlt HD
      have C := hL.out _ 1 hb (by decide)
      simp only [Nat.reduceAdd, Int.cast_ofNat_Int] at C
      go_wp2_with fail
      refine C.mono ?_
      rintro e w5 ⟨AR9, kR9, AR10, kR10, rfl, ⟨R9, R10⟩, ⟨mR9, mR10⟩, h⟩
      have R1 := R1.step h
      have R4 := R4.step h
      have R7 := R7.step h
      have hb := hb.trans (h.mono hb.size)
      clear h
      clear C
      have C := hL.out _ 2 hb (by decide)
      simp only [Nat.reduceAdd, Int.cast_ofNat_Int] at C
      go_wp2_with fail
      refine C.mono ?_
      rintro e w6 ⟨AR12, kR12, AR13, kR13, rfl, ⟨R12, R13⟩, ⟨mR12, mR13⟩, h⟩
      have R1 := R1.step h
      have R4 := R4.step h
      have R7 := R7.step h
      have R9 := R9.step h
      have R10 := R10.step h
      have hb := hb.trans (h.mono hb.size)
      clear h
      clear C
      clear hL
      obtain ⟨bR9, oR9, rfl, _, _⟩ := R9.cells 0 (by decide)
      obtain ⟨bR10, oR10, rfl, _, _⟩ := R10.cells 0 (by decide)
      obtain ⟨bR12, oR12, rfl, _, _⟩ := R12.cells 0 (by decide)
      obtain ⟨bR13, oR13, rfl, _, _⟩ := R13.cells 0 (by decide)
      have x40 := ex_size.1
      have x41 := ex_size.2
      have S40 := hS.out _ 40 hb
      rw [x40] at S40
      have C := S40
      go_wp2_with (go_at_call 14; refine num_any.mono ?_; rintro e wn ⟨rfl, he⟩; obtain rfl := he.symm)
      refine C.mono ?_
      rintro e w7 ⟨rfl, h⟩
      have R1 := R1.step h
      have R4 := R4.step h
      have R7 := R7.step h
      have R9 := R9.step h
      have R10 := R10.step h
      have R12 := R12.step h
      have R13 := R13.step h
      have hb := hb.trans (h.mono hb.size)
      clear h
      clear C
      clear S40
      have S41 := hS.out _ 41 hb
      rw [x41] at S41
      have C := S41
      go_wp2_with (go_at_call 14; refine num_any.mono ?_; rintro e wn ⟨rfl, he⟩; obtain rfl := he.symm)
      refine C.mono ?_
      rintro e w8 ⟨rfl, h⟩
      have R1 := R1.step h
      have R4 := R4.step h
      have R7 := R7.step h
      have R9 := R9.step h
      have R10 := R10.step h
      have R12 := R12.step h
      have R13 := R13.step h
      have hb := hb.trans (h.mono hb.size)
      clear h
      clear C
      clear S41 x40 x41 hS
      have oz := own_zeros (w := w8) (B := w8.heap.size) (n := 132) (m := 132) (Nat.le_refl _) (by decide) (Nat.le_refl _)
      have ha := (Below.refl w8.heap.size w8).alloc (Nat.le_refl _) (.cells (madeCells #[.int .u8 0] 132) 5)
      have RZ := Rd.of_own oz
      clear oz
      have R1 := R1.step ha
      have R4 := R4.step ha
      have R7 := R7.step ha
      have R9 := R9.step ha
      have R10 := R10.step ha
      have R12 := R12.step ha
      have R13 := R13.step ha
      have hb := hb.trans (ha.mono hb.size)
      clear ha
      have C := same_true (c := c1) (c' := 132) R1 RZ (byte_all (by decide +kernel))
      go_wp2_with fail
      generalize w8.alloc (.cells (madeCells #[.int .u8 0] 132) 5) = w9 at *
      refine C.mono ?_
      rintro e wn ⟨rfl, he⟩
      obtain rfl := he.symm
      clear C RZ R1
      have C := same_true (c := c4) (c' := 132) R4 R7 (byte_all (by decide +kernel))
      go_wp2_with fail
      refine C.mono ?_
      rintro e wn ⟨rfl, he⟩
      obtain rfl := he.symm
      clear C R4 R7
      obtain ⟨_, _, e1, _, x1⟩ := R9.cells 39 (by decide)
      injection e1 with e1
      injection e1 with e1 e2
      subst e1 e2
      rw [ex_ly1.1] at x1
      have RL : Rd .i64 (w9.alloc (.cells #[.int .i64 40, .int .i64 128, .int .i64 85] 3)) (w9.alloc (.cells #[.int .i64 40, .int .i64 128, .int .i64 85] 3)).heap.size (some ⟨w9.heap.size, 0, none⟩) 3 [40, 128, 85] := rd_litq .i64 w9 [40, 128, 85] 3
      have ha := (Below.refl w9.heap.size w9).alloc (Nat.le_refl _) (.cells #[.int .i64 40, .int .i64 128, .int .i64 85] 3)
      obtain ⟨AZ, hsl, _⟩ := back3 R9 mR9
      obtain ⟨AY, hs2, RY⟩ := back3 (R9.step ha) mR9
      have eq1 := (hsl w9).symm.trans (hs2 w9)
      injection eq1 with eq1
      injection eq1 with eq1
      subst eq1
      have C := ints_lit (c := kR9 - 40) (c' := 3) RY RL (by decide) ex_ly1.2.1
      clear hs2 RY RL
      have R9 := R9.step ha
      have R10 := R10.step ha
      have R12 := R12.step ha
      have R13 := R13.step ha
      have hb := hb.trans (ha.mono hb.size)
      clear ha
      go_wp2_with fail
      generalize w9.alloc (.cells #[.int .i64 40, .int .i64 128, .int .i64 85] 3) = w10 at *
      refine C.mono ?_
      rintro e w11 ⟨rfl, h⟩
      have R9 := R9.step h
      have R10 := R10.step h
      have R12 := R12.step h
      have R13 := R13.step h
      have hb := hb.trans (h.mono hb.size)
      clear h
      clear C hsl x1
      clear R9
      obtain ⟨_, _, e1, _, x1⟩ := R10.cells 0 (by decide)
      injection e1 with e1
      injection e1 with e1 e2
      subst e1 e2
      rw [ex_ly1.2.2.1] at x1
      rw [Nat.add_zero] at x1
      have RL : Rd .i64 (w11.alloc (.cells #[.int .i64 84, .int .i64 41, .int .i64 129] 3)) (w11.alloc (.cells #[.int .i64 84, .int .i64 41, .int .i64 129] 3)).heap.size (some ⟨w11.heap.size, 0, none⟩) 3 [84, 41, 129] := rd_litq .i64 w11 [84, 41, 129] 3
      have ha := (Below.refl w11.heap.size w11).alloc (Nat.le_refl _) (.cells #[.int .i64 84, .int .i64 41, .int .i64 129] 3)
      obtain ⟨AZ, hsl, _⟩ := back3 R10 mR10
      obtain ⟨AY, hs2, RY⟩ := back3 (R10.step ha) mR10
      have eq1 := (hsl w11).symm.trans (hs2 w11)
      injection eq1 with eq1
      injection eq1 with eq1
      subst eq1
      have C := ints_lit (c := kR10 - 40) (c' := 3) RY RL (by decide) ex_ly1.2.2.2
      clear hs2 RY RL
      have R10 := R10.step ha
      have R12 := R12.step ha
      have R13 := R13.step ha
      have hb := hb.trans (ha.mono hb.size)
      clear ha
      go_wp2_with fail
      generalize w11.alloc (.cells #[.int .i64 84, .int .i64 41, .int .i64 129] 3) = w12 at *
      refine C.mono ?_
      rintro e w13 ⟨rfl, h⟩
      have R10 := R10.step h
      have R12 := R12.step h
      have R13 := R13.step h
      have hb := hb.trans (h.mono hb.size)
      clear h
      clear C hsl x1
      clear R10
      have RL : Rd .i64 (w13.alloc (.cells #[.int .i64 0, .int .i64 13, .int .i64 6] 3)) (w13.alloc (.cells #[.int .i64 0, .int .i64 13, .int .i64 6] 3)).heap.size (some ⟨w13.heap.size, 0, none⟩) 3 [0, 13, 6] := rd_litq .i64 w13 [0, 13, 6] 3
      have ha := (Below.refl w13.heap.size w13).alloc (Nat.le_refl _) (.cells #[.int .i64 0, .int .i64 13, .int .i64 6] 3)
      have hsl : ∀ u : World, (Instr.slice 36 (.slice (some ⟨bR12, oR12, none⟩) 43 kR12) none (some (.int .i64 3)) none).run Tryd.prog u = .ok (.slice (some ⟨bR12, oR12, none⟩) 3 kR12) u := front3 (m := 3) (by omega)
      have C := ints_lit (c := kR12) (c' := 3) ((R12.step ha).take (m := 3) (by decide)) RL (by decide) ex_ly2.1
      clear RL
      have R12 := R12.step ha
      have R13 := R13.step ha
      have hb := hb.trans (ha.mono hb.size)
      clear ha
      go_wp2_with fail
      generalize w13.alloc (.cells #[.int .i64 0, .int .i64 13, .int .i64 6] 3) = w14 at *
      refine C.mono ?_
      rintro e w15 ⟨rfl, h⟩
      have R12 := R12.step h
      have R13 := R13.step h
      have hb := hb.trans (h.mono hb.size)
      clear h
      clear C hsl
      have RL : Rd .i64 (w15.alloc (.cells #[.int .i64 42, .int .i64 130, .int .i64 87] 3)) (w15.alloc (.cells #[.int .i64 42, .int .i64 130, .int .i64 87] 3)).heap.size (some ⟨w15.heap.size, 0, none⟩) 3 [42, 130, 87] := rd_litq .i64 w15 [42, 130, 87] 3
      have ha := (Below.refl w15.heap.size w15).alloc (Nat.le_refl _) (.cells #[.int .i64 42, .int .i64 130, .int .i64 87] 3)
      obtain ⟨AZ, hsl, _⟩ := back3 R12 mR12
      obtain ⟨AY, hs2, RY⟩ := back3 (R12.step ha) mR12
      have eq1 := (hsl w15).symm.trans (hs2 w15)
      injection eq1 with eq1
      injection eq1 with eq1
      subst eq1
      have C := ints_lit (c := kR12 - 40) (c' := 3) RY RL (by decide) ex_ly2.2.1
      clear hs2 RY RL
      have R12 := R12.step ha
      have R13 := R13.step ha
      have hb := hb.trans (ha.mono hb.size)
      clear ha
      go_wp2_with fail
      generalize w15.alloc (.cells #[.int .i64 42, .int .i64 130, .int .i64 87] 3) = w16 at *
      refine C.mono ?_
      rintro e w17 ⟨rfl, h⟩
      have R12 := R12.step h
      have R13 := R13.step h
      have hb := hb.trans (h.mono hb.size)
      clear h
      clear C hsl
      clear R12
      obtain ⟨_, _, e1, _, x1⟩ := R13.cells 0 (by decide)
      injection e1 with e1
      injection e1 with e1 e2
      subst e1 e2
      rw [ex_ly2.2.2.1] at x1
      rw [Nat.add_zero] at x1
      have RL : Rd .i64 (w17.alloc (.cells #[.int .i64 86, .int .i64 43, .int .i64 131] 3)) (w17.alloc (.cells #[.int .i64 86, .int .i64 43, .int .i64 131] 3)).heap.size (some ⟨w17.heap.size, 0, none⟩) 3 [86, 43, 131] := rd_litq .i64 w17 [86, 43, 131] 3
      have ha := (Below.refl w17.heap.size w17).alloc (Nat.le_refl _) (.cells #[.int .i64 86, .int .i64 43, .int .i64 131] 3)
      obtain ⟨AZ, hsl, _⟩ := back3 R13 mR13
      obtain ⟨AY, hs2, RY⟩ := back3 (R13.step ha) mR13
      have eq1 := (hsl w17).symm.trans (hs2 w17)
      injection eq1 with eq1
      injection eq1 with eq1
      subst eq1
      have C := ints_lit (c := kR13 - 40) (c' := 3) RY RL (by decide) ex_ly2.2.2.2
      clear hs2 RY RL
      have R13 := R13.step ha
      have hb := hb.trans (ha.mono hb.size)
      clear ha
      go_wp2_with fail
      generalize w17.alloc (.cells #[.int .i64 86, .int .i64 43, .int .i64 131] 3) = w18 at *
      refine C.mono ?_
      rintro e w19 ⟨rfl, h⟩
      have R13 := R13.step h
      have hb := hb.trans (h.mono hb.size)
      clear h
      clear C hsl x1
      clear R13
      go_wp2_with fail
      go_ret
      exact ⟨rfl, hb⟩
end Go.Proofs.YtbpkoilecdejiaaDoor
