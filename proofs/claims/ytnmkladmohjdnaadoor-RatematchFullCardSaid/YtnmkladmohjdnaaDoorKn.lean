/-
  The package's functions at any arguments; known.
-/
import Derived.Test.YtnmkladmohjdnaaDoorPo
import Derived.Test.YtnmkladmohjdnaaDoorSm
namespace Go.Proofs.YtnmkladmohjdnaaDoor
open Go.RowKit Go.Shelf

theorem Buffer_any {k f l : Int} {w : World} (hK : Kinds w) :
    Calls Tryd.prog 10 #[.int .i64 k, .int .i64 f, .int .i64 l] w fun e w' => ∃ A c, e = .returned (.tuple #[.slice A (bufS k f l).1.length c, .int .i64 (bufS k f l).2]) ∧ Rd .i64 w' w'.heap.size A (bufS k f l).1.length (bufS k f l).1 ∧ Below w.heap.size w w' := by
  by_cases h : okB k f l = true
  · obtain ⟨K, F, L, rfl, rfl, rfl, h1, h2, h3, h4⟩ := okB_nat h
    rw [bufS_ok h]
    have := Buffer_ok (f := F) hK h1 h2 h3 h4
    rw [← cirI_length K F L] at this
    exact this
  · have h := Bool.eq_false_iff.2 h
    rw [bufS_no h]
    refine (Buffer_no h).mono ?_
    rintro e w' ⟨rfl, rfl⟩
    exact ⟨none, 0, rfl, Rd.nil _ _ _ _, Below.refl _ _⟩
theorem Usable_any {k f l : Int} {w : World} (hK : Kinds w) :
    Calls Tryd.prog 11 #[.int .i64 k, .int .i64 f, .int .i64 l] w fun e w' => e = .returned (.tuple #[.int .i64 (useS k f l).1, .int .i64 (useS k f l).2]) ∧ Below w.heap.size w w' := by
  by_cases h : okB k f l = true
  · obtain ⟨K, F, L, rfl, rfl, rfl, h1, h2, h3, h4⟩ := okB_nat h
    rw [useS_ok h]
    exact Usable_ok (f := F) hK h1 h2 h3 h4
  · have h := Bool.eq_false_iff.2 h
    rw [useS_no h]
    refine (Usable_no h).mono ?_
    rintro e w' ⟨rfl, rfl⟩
    exact ⟨rfl, Below.refl _ _⟩
theorem Start_any {k l v : Int} {w : World} :
    Calls Tryd.prog 17 #[.int .i64 k, .int .i64 l, .int .i64 v] w fun e w' => e = .returned (.tuple #[.int .i64 (startS k l v).1, .int .i64 (startS k l v).2]) ∧ w' = w := by
  by_cases h : (okB k 0 l && okV v) = true
  · rw [Bool.and_eq_true] at h
    obtain ⟨K, F, L, rfl, hF, rfl, h1, h2, h3, h4⟩ := okB_nat h.1
    obtain ⟨V, rfl, h5⟩ := okV_nat h.2
    rw [startS_ok h.1 h.2]
    exact Start_ok h1 h2 h4 h5
  · have h := Bool.eq_false_iff.2 h
    rw [startS_no h]
    exact Start_no h
theorem lit4 {w : World} (a b c d : Int) (t : TypeId) : Rd .i64 (w.alloc (.cells #[.int .i64 a, .int .i64 b, .int .i64 c, .int .i64 d] t)) (w.alloc (.cells #[.int .i64 a, .int .i64 b, .int .i64 c, .int .i64 d] t)).heap.size (some ⟨w.heap.size, 0, none⟩) 4 [a, b, c, d] := by
  refine ⟨rfl, fun k hk => ⟨w.heap.size, 0, rfl, by simp, ?_⟩⟩
  have h1 : (w.alloc (.cells #[.int .i64 a, .int .i64 b, .int .i64 c, .int .i64 d] t)).heap[w.heap.size]? = some (.cells #[.int .i64 a, .int .i64 b, .int .i64 c, .int .i64 d] t) := World.alloc_heap_new w _
  simp only [World.cell?, h1, Nat.zero_add]
  obtain rfl | rfl | rfl | rfl : k = 0 ∨ k = 1 ∨ k = 2 ∨ k = 3 := by omega
  all_goals rfl
theorem kn1 : startS 40 192 0 = (4, 0) := by decide +kernel
theorem kn2 : startS 40 192 1 = (52, 0) := by decide +kernel
theorem kn3 : startS 40 64 1 = (20, 0) := by decide +kernel
theorem kn4 : useS 40 0 192 = (132, 0) := by decide +kernel
theorem kn5 : useS 40 8 1000 = (116, 0) := by decide +kernel
theorem kn6 : posS 40 0 192 0 4 = ([20, 4, 36, 16], 0) := by decide +kernel
theorem kn7 : posS 40 39 3 0 1 = ([], 10) := by decide +kernel
set_option maxRecDepth 100000 in
set_option maxHeartbeats 4000000 in
theorem known_any {w : World} (hK : Kinds w) : Calls Tryd.prog 13 #[] w fun e w' => e = .returned (.bool true) ∧ Below w.heap.size w w' := by
  have hS1 := Lib.hid (fun (u : World) => Start_any (k := 40) (l := 192) (v := 0) (w := u))
  have hS2 := Lib.hid (fun (u : World) => Start_any (k := 40) (l := 192) (v := 1) (w := u))
  have hS3 := Lib.hid (fun (u : World) => Start_any (k := 40) (l := 64) (v := 1) (w := u))
  have hU4 := Lib.hid (fun (u : World) (h : Below w.heap.size w u) => Usable_any (k := 40) (f := 0) (l := 192) (hK.step h))
  have hU5 := Lib.hid (fun (u : World) (h : Below w.heap.size w u) => Usable_any (k := 40) (f := 8) (l := 1000) (hK.step h))
  have hP6 := Lib.hid (fun (u : World) (h : Below w.heap.size w u) => Positions_any (k := 40) (f := 0) (l := 192) (v := 0) (e := 4) (hK.step h))
  have hP7 := Lib.hid (fun (u : World) (h : Below w.heap.size w u) => Positions_any (k := 40) (f := 39) (l := 3) (v := 0) (e := 1) (hK.step h))
  rw [kn1] at hS1
  rw [kn2] at hS2
  rw [kn3] at hS3
  rw [kn4] at hU4
  rw [kn5] at hU5
  rw [kn6] at hP6
  rw [kn7] at hP7
  have hb0 := Below.refl w.heap.size w
  dsimp only at hS1 hS2 hS3 hU4 hU5
  clear hK
  go_enter Tryd.func13, Tryd.ntmps13
  go_wp2_with fail
  refine (hS1.out _).mono ?_
  rintro e w1 ⟨rfl, rfl⟩
  go_wp2_with fail
  refine (hS2.out _).mono ?_
  rintro e w1 ⟨rfl, rfl⟩
  go_wp2_with fail
  refine (hS3.out _).mono ?_
  rintro e w1 ⟨rfl, rfl⟩
  go_wp2_with fail
  refine (hU4.out _ hb0).mono ?_
  rintro e w2 ⟨rfl, hb2⟩
  go_wp2_with fail
  refine (hU5.out _ hb2).mono ?_
  rintro e w3 ⟨rfl, hb3'⟩
  have hb3 := hb2.trans (hb3'.mono hb2.size)
  clear hb2 hb3' hb0
  go_wp2_with fail
  refine (hP6.out _ hb3).mono ?_
  rintro e w4 he
  obtain ⟨A, c, rfl, ho, hb4'⟩ := he.got (n := 4) rfl
  have hR := Rd.of_own ho
  have hb4 := hb3.trans (hb4'.mono hb3.size)
  clear hb3 hb4' ho he
  go_wp2_with fail
  refine (hP7.out _ hb4).mono ?_
  rintro e w5 he
  obtain ⟨A', c', rfl, ho, hb5'⟩ := he.got (n := 0) rfl
  have hR5 := hR.step hb5'
  have hb5 := hb4.trans (hb5'.mono hb4.size)
  clear hb4 hb5' ho he hR
  have hR6 := hR5.step ((Below.refl _ w5).alloc (Nat.le_refl _) (.cells #[.int .i64 20, .int .i64 4, .int .i64 36, .int .i64 16] 3))
  have hb6 := hb5.alloc hb5.size (.cells #[.int .i64 20, .int .i64 4, .int .i64 36, .int .i64 16] 3)
  have hs := Lib.hid (sameI_true (c := c) (c' := 4) hR6 (lit4 20 4 36 16 3) (by decide))
  have HB := Lib.hid hb6
  clear hR5 hR6 hb5 hb6
  go_wp2_with fail
  refine hs.out.mono ?_
  rintro e w7 ⟨rfl, hb7⟩
  go_wp2_with fail
  go_ret
  exact ⟨rfl, HB.out.trans (hb7.mono HB.out.size)⟩
end Go.Proofs.YtnmkladmohjdnaaDoor
