/-
  works.
-/
import Derived.Test.YtkdodmjhpkfhnaaDoorRd
namespace Go.Proofs.YtkdodmjhpkfhnaaDoor
open Go.RowKit Go.Shelf BigFrame

deriving instance DecidableEq for Lay
theorem RetRows.got {w w' : World} {xss : List (List Int)} {k : Int} {n : Nat} {e : Ending} (h : RetRows w (xss, k) e w') (hn : xss.length = n) :
    ∃ A c rows, e = .returned (.tuple #[.slice A n c, .int .i64 k]) ∧ OwnRows w w' (.slice A n c) n rows ∧ rows.map (·.xs) = xss := by
  subst hn
  exact h
theorem Rds.step {w w' : World} {A : Option Addr} {n : Nat} {rows : List BRow} (h : Rds w w.heap.size A n rows) (hb : Below w.heap.size w w') : Rds w' w'.heap.size A n rows := (h.below hb).more hb.size
set_option maxRecDepth 100000 in
set_option maxHeartbeats 4000000 in
theorem works_any {w : World} (hK : Kinds w) :
    Calls Tryd.prog 18 #[] w fun e w' => e = .returned (.bool true) ∧ Below w.heap.size w w' := by
  have hN1 := Lib.hid (Next_any (n := 41) hK)
  have hN2 := Lib.hid (fun (u : World) (h : Below w.heap.size w u) => Next_any (n := 6144) (hK.step h))
  have hN3 := Lib.hid (fun (u : World) (h : Below w.heap.size w u) => Next_any (n := 6145) (hK.step h))
  have hP0 := Lib.hid (fun (u : World) (h : Below w.heap.size w u) => Plan_any (b := 0) (hK.step h))
  have hV1 := Lib.hid (fun (u : World) (h : Below w.heap.size w u) => Valid_any (n := 528) (hK.step h))
  have hV2 := Lib.hid (fun (u : World) (h : Below w.heap.size w u) => Valid_any (n := 520) (hK.step h))
  have hSz := Lib.hid (fun (u : World) (h : Below w.heap.size w u) => Sizes_any (hK.step h))
  rw [show nextS 41 = (48, 0) from by decide +kernel] at hN1
  rw [show nextS 6144 = (6144, 0) from by decide +kernel] at hN2
  rw [show nextS 6145 = (0, 2) from by decide +kernel] at hN3
  rw [show planS 0 = (zeroLay, 2) from by decide +kernel] at hP0
  rw [show validS 528 = true from by decide +kernel] at hV1
  rw [show validS 520 = false from by decide +kernel] at hV2
  have hL1 := Lib.hid (fun (u : World) (h : Below w.heap.size w u) => plans_true (b := 100) (l := ⟨100, 1, 104, 0, 1, 0, 4⟩) (hK.step h) (by decide +kernel))
  have hL2 := Lib.hid (fun (u : World) (h : Below w.heap.size w u) => plans_true (b := 6144) (l := ⟨6144, 1, 6144, 0, 1, 0, 0⟩) (hK.step h) (by decide +kernel))
  have hL3 := Lib.hid (fun (u : World) (h : Below w.heap.size w u) => plans_true (b := 6145) (l := ⟨6145, 2, 3136, 3072, 1, 1, 15⟩) (hK.step h) (by decide +kernel))
  unfold layV layA at hL1 hL2 hL3 hP0
  simp only [Int.cast_ofNat_Int] at hL1 hL2 hL3
  unfold zeroLay at hP0
  simp only [Int.cast_ofNat_Int] at hP0
  go_enter Tryd.func18, Tryd.ntmps18
  go_wp2_with fail
  refine hN1.out.mono ?_
  rintro e w1 ⟨rfl, hb1⟩
  go_wp2_with fail
  refine (hN2.out _ hb1).mono ?_
  rintro e w2 ⟨rfl, hb2⟩
  replace hb2 := hb1.trans (hb2.mono hb1.size)
  go_wp2_with fail
  refine (hN3.out _ hb2).mono ?_
  rintro e w3 ⟨rfl, hb3⟩
  replace hb3 := hb2.trans (hb3.mono hb2.size)
  go_wp2_with fail
  refine (hP0.out _ hb3).mono ?_
  rintro e w4 ⟨rfl, hb4⟩
  replace hb4 := hb3.trans (hb4.mono hb3.size)
  clear hb1 hb2 hb3 hN1 hN2 hN3 hP0
  go_wp2_with (first | (go_at_call 17; refine num_any.mono ?_; rintro e w9 ⟨rfl, rfl⟩) | fail)
  have hb5 := hb4.alloc hb4.size (.cells #[.int .i64 0, .int .i64 0, .int .i64 0, .int .i64 0, .int .i64 0, .int .i64 0, .int .i64 0] 34)
  generalize (w4.alloc (.cells #[.int .i64 0, .int .i64 0, .int .i64 0, .int .i64 0, .int .i64 0, .int .i64 0, .int .i64 0] 34)) = W4 at *
  refine (hV1.out _ hb5).mono ?_
  rintro e w6 ⟨rfl, hb6⟩
  replace hb6 := hb5.trans (hb6.mono hb5.size)
  go_wp2_with fail
  refine (hV2.out _ hb6).mono ?_
  rintro e w7 ⟨rfl, hb7⟩
  replace hb7 := hb6.trans (hb7.mono hb6.size)
  go_wp2_with fail
  refine (hSz.out _ hb7).mono ?_
  rintro e w8 ⟨A8, c8, rfl, _, hb8⟩
  replace hb8 := hb7.trans (hb8.mono hb7.size)
  clear hb4 hb5 hb6 hb7 hV1 hV2 hSz
  go_wp2_with (go_at_call 17; refine num_any.mono ?_; rintro e w9 ⟨rfl, rfl⟩)
  refine (hL1.out _ hb8).mono ?_
  rintro e w10 ⟨rfl, hb10⟩
  replace hb10 := hb8.trans (hb10.mono hb8.size)
  go_wp2_with fail
  refine (hL2.out _ hb10).mono ?_
  rintro e w11 ⟨rfl, hb11⟩
  replace hb11 := hb10.trans (hb11.mono hb10.size)
  go_wp2_with fail
  refine (hL3.out _ hb11).mono ?_
  rintro e w12 ⟨rfl, hb12⟩
  replace hb12 := hb11.trans (hb12.mono hb11.size)
  clear hb8 hb10 hb11 hL1 hL2 hL3
  have hOn := ones_any (n := 38) (w := w12) (by decide)
  go_wp2_with fail
  refine hOn.mono ?_
  rintro e w13 ⟨A13, c13, rfl, hown, hb13⟩
  replace hb13 := hb12.trans (hb13.mono hb12.size)
  have hSp := Split_any (hK.step hb13) (Rd.of_own hown) (own_cap' hown) (Byte.of_mem (fun x hx => by have := (List.mem_replicate.1 hx).2; omega))
  rw [split38] at hSp
  have HSp := Lib.hid hSp
  clear hOn hown hSp
  go_wp2_with fail
  refine HSp.out.mono ?_
  intro e w14 h14
  obtain ⟨A14, c14, rows, rfl, hOR, hmap⟩ := h14.got (n := 1) rfl
  have hb14 := hb13.trans (hOR.below.mono hb13.size)
  have hrds := hOR.rds
  have hcap := hOR.cap
  obtain ⟨b, off, r, rfl, hbB, hr, hc, hRd⟩ := hrds.cells 0 (by decide)
  have hrx : r.xs = 0 :: 0 :: List.replicate 38 1 := by
    have := congrArg (fun l => l[0]?) hmap
    simp only [List.getElem?_map, hr, Option.map_some, List.getElem?_cons_zero, Option.some.injEq] at this
    exact this
  have hrn : r.n = 40 := by have := hRd.len; rw [hrx] at this; simpa using this.symm
  rw [hrx, hrn] at hRd
  obtain ⟨b2, off2, ha2, hb2B, hd0⟩ := hRd.cells 0 (by decide)
  obtain ⟨b3, off3, ha3, hb3B, hd1⟩ := hRd.cells 1 (by decide)
  have hab : some (⟨b2, off2, none⟩ : Addr) = some ⟨b3, off3, none⟩ := ha2.symm.trans ha3
  injection hab with hab
  injection hab with hab1 hab2
  subst hab1 hab2
  simp only [List.getElem?_cons_zero, List.getElem?_cons_succ, Option.getD_some, Nat.add_zero] at hd0 hd1 hc
  rw [hrn, ha2] at hc
  have HR := Lib.hid hrds
  have HC := Lib.hid hcap
  have HM := Lib.hid hmap
  clear hb12 hb13 h14 hOR hrds hcap hmap hrx hr hrn hRd ha2 ha3 HSp
  simp only
  have hJ1 := Lib.hid (fun (u : World) (h : Below w14.heap.size w14 u) => Join_list (b := 38) (c := c14) (hK.step (hb14.trans (h.mono hb14.size))) (HR.out.step h) (by decide) (xss := [0 :: 0 :: List.replicate 38 1]) (fun xs hx => by
    obtain rfl := List.mem_singleton.1 hx
    exact ⟨Byte.of_mem (fun x hx => by simp only [List.mem_cons, List.mem_replicate] at hx; omega), by decide⟩) HC.out HM.out)
  have hJ2 := Lib.hid (fun (u : World) (h : Below w14.heap.size w14 u) => Join_list (b := 37) (c := c14) (hK.step (hb14.trans (h.mono hb14.size))) (HR.out.step h) (by decide) (xss := [0 :: 0 :: List.replicate 38 1]) (fun xs hx => by
    obtain rfl := List.mem_singleton.1 hx
    exact ⟨Byte.of_mem (fun x hx => by simp only [List.mem_cons, List.mem_replicate] at hx; omega), by decide⟩) HC.out HM.out)
  rw [join38] at hJ1
  rw [join37] at hJ2
  clear HR HC HM
  go_wp2_with (go_at_call 17; refine num_any.mono ?_; rintro e w19 ⟨rfl, rfl⟩)
  refine (hJ1.out _ (Below.refl _ _)).mono ?_
  intro e w20 h20
  obtain ⟨A20, c20, rfl, hown20, hb20⟩ := h20.got (n := 38) rfl
  have hrd20 := Rd.of_own hown20
  clear h20 hown20 hJ1
  go_wp2_with fail
  refine (hJ2.out _ hb20).mono ?_
  intro e w21 h21
  obtain ⟨A21, c21, rfl, _, hb21⟩ := h21.got (n := 0) rfl
  have hrd21 := Lib.hid (hrd20.step hb21)
  have hbw := (hb14.trans (hb20.mono hb14.size))
  have hbw2 := hbw.trans (hb21.mono hbw.size)
  clear h21 hJ2 hb14 hb20 hb21 hrd20 hbw hc hd0 hd1
  have hcv := Lib.hid (fun (u : World) (h : Below w21.heap.size w21 u) => (hrd21.out.step h).convert (P := Tryd.prog) Tryd.underlying46 Tryd.underlying5 c20 9 Tryd.underlying9)
  have hOn := Lib.hid (fun (u : World) => ones_any (n := 38) (w := u) (by decide))
  have hcv2 := Lib.hid (fun (u : World) (A : Option Addr) (c : Nat) (hown : Rd .u8 u u.heap.size A 38 (List.replicate 38 1)) => hown.convert (P := Tryd.prog) Tryd.underlying46 Tryd.underlying5 c 9 Tryd.underlying9)
  have hbd21 : Below w21.heap.size w21 w21.drew := (Below.refl _ _).drew
  have k0 := hcv.out _ hbd21
  go_wp2_with fail
  go_region_with (first
      | (go_at_call 34; refine (hOn.out _).mono ?_; rintro e w22 ⟨A22, c22, rfl, hown22, hb22⟩; have k1 := hcv.out _ (hbd21.trans (hb22.mono hbd21.size)); have k2 := hcv2.out _ _ c22 (Rd.of_own hown22))
      | (go_at_call 17; refine num_any.mono ?_; rintro e w23 ⟨rfl, rfl⟩))
  all_goals
    have hbz := hbw2.trans ((hbd21.trans (hb22.mono hbd21.size)).mono hbw2.size)
    clear hcv hcv2 hOn k0 k1 k2 hown22 hb22 hbw2
    go_wp2_with fail
    go_ret
    exact ⟨rfl, hbz⟩
end Go.Proofs.YtkdodmjhpkfhnaaDoor
