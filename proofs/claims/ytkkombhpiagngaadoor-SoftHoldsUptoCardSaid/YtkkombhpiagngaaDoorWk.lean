/-
  The law's works (made by tools/genWk11.py).
-/
import Derived.Test.YtkkombhpiagngaaDoorLw
namespace Go.Proofs.YtkkombhpiagngaaDoor
open Go.RowKit Go.Shelf

theorem rd_litq (q : IntKind) (w : World) (xs : List Int) (T : TypeId) : Rd q (w.alloc (.cells (xs.map (Value.int q)).toArray T)) (w.alloc (.cells (xs.map (Value.int q)).toArray T)).heap.size (some ⟨w.heap.size, 0, none⟩) xs.length xs := by
  refine ⟨rfl, fun k hk => ⟨w.heap.size, 0, rfl, by simp, ?_⟩⟩
  have h := World.alloc_heap_new w (.cells (xs.map (Value.int q)).toArray T)
  simp only [World.cell?, h, Nat.zero_add]
  rw [List.getElem?_toArray, List.getElem?_map, List.getElem?_eq_getElem hk]
  rfl
theorem rd_at (q : IntKind) (w : World) (xs : List Int) (T : TypeId) (a n : Nat) (ha : a = w.heap.size) (hn : n = xs.length) : Rd q (w.alloc (.cells (xs.map (Value.int q)).toArray T)) (w.alloc (.cells (xs.map (Value.int q)).toArray T)).heap.size (some ⟨a, 0, none⟩) n xs := by
  subst ha hn
  exact rd_litq q w xs T
theorem is_true {A A' : Option Addr} {n n' c c' B B' : Nat} {xs : List Int} {e : Int} {w : World} (h : Rd .i64 w B A n xs) (h' : Rd .i64 w B' A' n' xs) (hn : n ≤ 1000000) (hn' : n' ≤ 1000000) :
    Calls Tryd.prog 32 #[.slice A n c, .int .i64 e, .int .i64 e, .slice A' n' c'] w fun r w' => r = .returned (.bool true) ∧ Below w.heap.size w w' := by
  have := is_any (c := c) (c' := c') (e := e) (no := e) h h' hn hn'
  rw [decide_eq_true rfl, beq_self_eq_true, Bool.true_and] at this
  exact this
theorem byte_small {xs : List Int} (h : xs.all (fun x => decide (0 ≤ x ∧ x ≤ 255)) = true) : Byte xs := Byte.of_mem (fun x hx => by
  rw [List.all_eq_true] at h
  simpa using h x hx)
theorem kn1 : sumS [1, -100] [2, -100] = ([3, -127], 0) := by decide +kernel
theorem kn2 : scaleS [7, -7, 127] 3 4 = ([5, -5, 95], 0) := by decide +kernel
theorem kn3 : scaleS [100] 2 1 = ([127], 0) := by decide +kernel
theorem kn4 : sumS [1] [] = ([], 2) := by decide +kernel
theorem kn5 : hardS [5, -1, 0] = ([0, 1, 0], 0) := by decide +kernel
theorem kn6 : idealS [0, 1] 9 = ([9, -9], 0) := by decide +kernel
theorem kn7 : idealS [2] 9 = ([], 3) := by decide +kernel
theorem kn8 : compareS [5, -1, 0, 3] [0, 0, 1, 1] = ((2, 1), 0) := by decide +kernel
theorem kn9 : leastS [5, -2, 2] = (1, 0) := by decide +kernel
theorem str3 : strOfNums [0, 1, 0] = { data := #[0, 1, 0] } := by decide +kernel
set_option maxRecDepth 100000 in
set_option maxHeartbeats 8000000 in
theorem works_any {w : World} (hK : Kinds w) : Calls Tryd.prog 14 #[] w fun e w' => e = .returned (.bool true) ∧ Below w.heap.size w w' := by
  have HK := Lib.hid (fun (u : World) (h : Below w.heap.size w u) => hK.step h)
  have hC1 := Lib.hid (Clamp_any (v := 200) hK)
  have hC2 := Lib.hid (Clamp_any (v := -128) hK)
  have hA1 := Lib.hid (Add_any (a := 100) (b := 100) hK)
  have hA2 := Lib.hid (Add_any (a := -500) (b := 127) hK)
  rw [show clampI 200 = 127 from rfl] at hC1
  rw [show clampI (-128) = -127 from rfl] at hC2
  rw [show addI 100 100 = 127 from rfl] at hA1
  rw [show addI (-500) 127 = 0 from rfl] at hA2
  have b1 := (Below.refl w.heap.size w).alloc (Nat.le_refl _) (.cells #[.int .i64 127, .int .i64 (-127)] 3)
  have b2 := b1.alloc b1.size (.cells #[.int .i64 128] 3)
  have hV1 := Lib.hid (Valid_any (c := 2) (hK.step b1) (rd_litq .i64 w [127, -127] 3) (by decide))
  have hV2 := Lib.hid (Valid_any (c := 1) (hK.step b2) (rd_litq .i64 (w.alloc (.cells #[.int .i64 127, .int .i64 (-127)] 3)) [128] 3) (by decide))
  rw [show softB [127, -127] = true from rfl] at hV1
  rw [show softB [128] = false from rfl] at hV2
  simp only [World.size_alloc] at hV2
  have hb := Lib.hid b2
  clear b1 b2 hK
  go_enter Tryd.func14, Tryd.ntmps14
  go_wp2_with (first
    | (go_at_call 10; with_reducible refine hC1.out.mono ?_; rintro e w ⟨rfl, rfl⟩)
    | (go_at_call 10; with_reducible refine hC2.out.mono ?_; rintro e w ⟨rfl, rfl⟩)
    | (go_at_call 12; with_reducible refine hA1.out.mono ?_; rintro e w ⟨rfl, rfl⟩)
    | (go_at_call 12; with_reducible refine hA2.out.mono ?_; rintro e w ⟨rfl, rfl⟩)
    | (go_at_call 19; refine hV1.out.mono ?_; rintro e w1 ⟨rfl, rfl⟩; clear hV1)
    | (go_at_call 19; refine hV2.out.mono ?_; rintro e w1 ⟨rfl, rfl⟩)
    | fail)
  have hN := Lib.hid (fun (e : Int) (u : World) => num_any (e := e) (w := u))
  clear hC1 hC2 hA1 hA2 hV2
  -- Sum
  have s0 := hb.out.alloc hb.out.size (.cells #[.int .i64 1, .int .i64 (-100)] 3)
  have s1 := s0.alloc s0.size (.cells #[.int .i64 2, .int .i64 (-100)] 3)
  have t0 : Below ((w.alloc (.cells #[.int .i64 127, .int .i64 (-127)] 3)).alloc (.cells #[.int .i64 128] 3)).heap.size ((w.alloc (.cells #[.int .i64 127, .int .i64 (-127)] 3)).alloc (.cells #[.int .i64 128] 3)) (((((w.alloc (.cells #[.int .i64 127, .int .i64 (-127)] 3)).alloc (.cells #[.int .i64 128] 3))).alloc (.cells #[.int .i64 1, .int .i64 (-100)] 3)).alloc (.cells #[.int .i64 2, .int .i64 (-100)] 3)) := (((Below.refl _ ((w.alloc (.cells #[.int .i64 127, .int .i64 (-127)] 3)).alloc (.cells #[.int .i64 128] 3))).alloc (Nat.le_refl _) (.cells #[.int .i64 1, .int .i64 (-100)] 3)).alloc (by simp) (.cells #[.int .i64 2, .int .i64 (-100)] 3))
  have hS := Sum_any (c := 2) (c2 := 2) (HK.out _ s1) ((rd_at .i64 (((w.alloc (.cells #[.int .i64 127, .int .i64 (-127)] 3)).alloc (.cells #[.int .i64 128] 3))) [1, -100] 3 (w.heap.size + 1 + 1) 2 (by simp) rfl).step ((Below.refl _ _).alloc (Nat.le_refl _) (.cells #[.int .i64 2, .int .i64 (-100)] 3))) (rd_at .i64 ((((w.alloc (.cells #[.int .i64 127, .int .i64 (-127)] 3)).alloc (.cells #[.int .i64 128] 3))).alloc (.cells #[.int .i64 1, .int .i64 (-100)] 3)) [2, -100] 3 (w.heap.size + 1 + 1 + 1) 2 (by simp) rfl) (by decide) (by decide)
  rw [kn1] at hS
  have HS := Lib.hid hS
  clear hS
  have V := Lib.hid (And.intro t0 s1)
  clear s0 s1 t0
  go_wp2_with (fail)
  refine HS.out.mono ?_
  rintro e W3 he
  obtain ⟨A1, c1, rfl, ow, bx⟩ := he.got (n := 2) rfl
  clear he
  try dsimp only
  have b' := V.out.1.trans (bx.mono V.out.1.size)
  have hb' := Lib.hid (hb.out.trans (b'.mono hb.out.size))
  have R1' := Lib.hid (Rd.of_own ow)
  clear hb V HS bx ow b'
  have hb := hb'; clear hb'
  have R1 := R1'; clear R1'
  -- Scale
  have s0 := hb.out.alloc hb.out.size (.cells #[.int .i64 7, .int .i64 (-7), .int .i64 127] 3)
  have t0 : Below W3.heap.size W3 (W3.alloc (.cells #[.int .i64 7, .int .i64 (-7), .int .i64 127] 3)) := ((Below.refl _ W3).alloc (Nat.le_refl _) (.cells #[.int .i64 7, .int .i64 (-7), .int .i64 127] 3))
  have hS := Scale_any (c := 3) (num := 3) (den := 4) (HK.out _ s0) (rd_at .i64 W3 [7, -7, 127] 3 (W3.heap.size) 3 (by simp) rfl) (by decide)
  rw [kn2] at hS
  have HS := Lib.hid hS
  clear hS
  have V := Lib.hid (And.intro t0 s0)
  clear s0 t0
  go_wp2_with (fail)
  refine HS.out.mono ?_
  rintro e W4 he
  obtain ⟨A2, c2, rfl, ow, bx⟩ := he.got (n := 3) rfl
  clear he
  try dsimp only
  have b' := V.out.1.trans (bx.mono V.out.1.size)
  have hb' := Lib.hid (hb.out.trans (b'.mono hb.out.size))
  have R1' := Lib.hid (R1.out.step b')
  have R2' := Lib.hid (Rd.of_own ow)
  clear hb V HS bx R1 ow b'
  have hb := hb'; clear hb'
  have R1 := R1'; clear R1'
  have R2 := R2'; clear R2'
  -- Scale
  have s0 := hb.out.alloc hb.out.size (.cells #[.int .i64 100] 3)
  have t0 : Below W4.heap.size W4 (W4.alloc (.cells #[.int .i64 100] 3)) := ((Below.refl _ W4).alloc (Nat.le_refl _) (.cells #[.int .i64 100] 3))
  have hS := Scale_any (c := 1) (num := 2) (den := 1) (HK.out _ s0) (rd_at .i64 W4 [100] 3 (W4.heap.size) 1 (by simp) rfl) (by decide)
  rw [kn3] at hS
  have HS := Lib.hid hS
  clear hS
  have V := Lib.hid (And.intro t0 s0)
  clear s0 t0
  go_wp2_with (fail)
  refine HS.out.mono ?_
  rintro e W5 he
  obtain ⟨A3, c3, rfl, ow, bx⟩ := he.got (n := 1) rfl
  clear he
  try dsimp only
  have b' := V.out.1.trans (bx.mono V.out.1.size)
  have hb' := Lib.hid (hb.out.trans (b'.mono hb.out.size))
  have R1' := Lib.hid (R1.out.step b')
  have R2' := Lib.hid (R2.out.step b')
  have R3' := Lib.hid (Rd.of_own ow)
  clear hb V HS bx R1 R2 ow b'
  have hb := hb'; clear hb'
  have R1 := R1'; clear R1'
  have R2 := R2'; clear R2'
  have R3 := R3'; clear R3'
  -- Sum
  have s0 := hb.out.alloc hb.out.size (.cells #[.int .i64 1] 3)
  have t0 : Below W5.heap.size W5 (W5.alloc (.cells #[.int .i64 1] 3)) := ((Below.refl _ W5).alloc (Nat.le_refl _) (.cells #[.int .i64 1] 3))
  have hS := Sum_any (c := 1) (c2 := 0) (n2 := 0) (ys := []) (A2 := none) (HK.out _ s0) (rd_at .i64 W5 [1] 3 (W5.heap.size) 1 (by simp) rfl) (Rd.nil _ _ _ _) (by decide) (by decide)
  rw [kn4] at hS
  have HS := Lib.hid hS
  clear hS
  have V := Lib.hid (And.intro t0 s0)
  clear s0 t0
  go_wp2_with (fail)
  refine HS.out.mono ?_
  rintro e W6 he
  obtain ⟨A4, c4, rfl, ow, bx⟩ := he.got (n := 0) rfl
  clear he
  try dsimp only
  have b' := V.out.1.trans (bx.mono V.out.1.size)
  have hb' := Lib.hid (hb.out.trans (b'.mono hb.out.size))
  have R1' := Lib.hid (R1.out.step b')
  have R2' := Lib.hid (R2.out.step b')
  have R3' := Lib.hid (R3.out.step b')
  have R4' := Lib.hid (Rd.of_own ow)
  clear hb V HS bx R1 R2 R3 ow b'
  have hb := hb'; clear hb'
  have R1 := R1'; clear R1'
  have R2 := R2'; clear R2'
  have R3 := R3'; clear R3'
  have R4 := R4'; clear R4'
  -- is
  have s0 := hb.out.alloc hb.out.size (.cells #[.int .i64 3, .int .i64 (-127)] 3)
  have t0 : Below W6.heap.size W6 (W6.alloc (.cells #[.int .i64 3, .int .i64 (-127)] 3)) := ((Below.refl _ W6).alloc (Nat.le_refl _) (.cells #[.int .i64 3, .int .i64 (-127)] 3))
  have hS := is_true (c := c1) (c' := 2) (e := 0) (R1.out.step t0) (rd_at .i64 W6 [3, -127] 3 (W6.heap.size) 2 (by simp) rfl) (by decide) (by decide)
  have HS := Lib.hid hS
  clear hS
  have V := Lib.hid (And.intro t0 s0)
  clear s0 t0
  go_wp2_with (fail)
  refine HS.out.mono ?_
  rintro e W7 ⟨rfl, bx⟩
  have b' := V.out.1.trans (bx.mono V.out.1.size)
  have hb' := Lib.hid (hb.out.trans (b'.mono hb.out.size))
  have R1' := Lib.hid (R1.out.step b')
  have R2' := Lib.hid (R2.out.step b')
  have R3' := Lib.hid (R3.out.step b')
  have R4' := Lib.hid (R4.out.step b')
  clear hb V HS bx R1 R2 R3 R4 b'
  have hb := hb'; clear hb'
  have R1 := R1'; clear R1'
  have R2 := R2'; clear R2'
  have R3 := R3'; clear R3'
  have R4 := R4'; clear R4'
  clear R1
  -- is
  have s0 := hb.out.alloc hb.out.size (.cells #[.int .i64 5, .int .i64 (-5), .int .i64 95] 3)
  have t0 : Below W7.heap.size W7 (W7.alloc (.cells #[.int .i64 5, .int .i64 (-5), .int .i64 95] 3)) := ((Below.refl _ W7).alloc (Nat.le_refl _) (.cells #[.int .i64 5, .int .i64 (-5), .int .i64 95] 3))
  have hS := is_true (c := c2) (c' := 3) (e := 0) (R2.out.step t0) (rd_at .i64 W7 [5, -5, 95] 3 (W7.heap.size) 3 (by simp) rfl) (by decide) (by decide)
  have HS := Lib.hid hS
  clear hS
  have V := Lib.hid (And.intro t0 s0)
  clear s0 t0
  go_wp2_with (fail)
  refine HS.out.mono ?_
  rintro e W8 ⟨rfl, bx⟩
  have b' := V.out.1.trans (bx.mono V.out.1.size)
  have hb' := Lib.hid (hb.out.trans (b'.mono hb.out.size))
  have R2' := Lib.hid (R2.out.step b')
  have R3' := Lib.hid (R3.out.step b')
  have R4' := Lib.hid (R4.out.step b')
  clear hb V HS bx R2 R3 R4 b'
  have hb := hb'; clear hb'
  have R2 := R2'; clear R2'
  have R3 := R3'; clear R3'
  have R4 := R4'; clear R4'
  clear R2
  -- is
  have s0 := hb.out.alloc hb.out.size (.cells #[.int .i64 127] 3)
  have t0 : Below W8.heap.size W8 (W8.alloc (.cells #[.int .i64 127] 3)) := ((Below.refl _ W8).alloc (Nat.le_refl _) (.cells #[.int .i64 127] 3))
  have hS := is_true (c := c3) (c' := 1) (e := 0) (R3.out.step t0) (rd_at .i64 W8 [127] 3 (W8.heap.size) 1 (by simp) rfl) (by decide) (by decide)
  have HS := Lib.hid hS
  clear hS
  have V := Lib.hid (And.intro t0 s0)
  clear s0 t0
  go_wp2_with (fail)
  refine HS.out.mono ?_
  rintro e W9 ⟨rfl, bx⟩
  have b' := V.out.1.trans (bx.mono V.out.1.size)
  have hb' := Lib.hid (hb.out.trans (b'.mono hb.out.size))
  have R3' := Lib.hid (R3.out.step b')
  have R4' := Lib.hid (R4.out.step b')
  clear hb V HS bx R3 R4 b'
  have hb := hb'; clear hb'
  have R3 := R3'; clear R3'
  have R4 := R4'; clear R4'
  clear R3
  -- is
  have t0 : Below W9.heap.size W9 (W9) := (Below.refl _ W9)
  have hS := is_true (c := c4) (c' := 0) (e := 2) (R4.out.step t0) (Rd.nil .i64 _ 0 none) (by decide) (by decide)
  have HS := Lib.hid hS
  clear hS
  have V := Lib.hid (And.intro t0 hb.out)
  clear  t0
  go_wp2_with (fail)
  refine HS.out.mono ?_
  rintro e W10 ⟨rfl, bx⟩
  have b' := V.out.1.trans (bx.mono V.out.1.size)
  have hb' := Lib.hid (hb.out.trans (b'.mono hb.out.size))
  have R4' := Lib.hid (R4.out.step b')
  clear hb V HS bx R4 b'
  have hb := hb'; clear hb'
  have R4 := R4'; clear R4'
  clear R4
  -- Hard
  have s0 := hb.out.alloc hb.out.size (.cells #[.int .i64 5, .int .i64 (-1), .int .i64 0] 3)
  have t0 : Below W10.heap.size W10 (W10.alloc (.cells #[.int .i64 5, .int .i64 (-1), .int .i64 0] 3)) := ((Below.refl _ W10).alloc (Nat.le_refl _) (.cells #[.int .i64 5, .int .i64 (-1), .int .i64 0] 3))
  have hS := Hard_any (c := 3) (HK.out _ s0) (rd_at .i64 W10 [5, -1, 0] 3 (W10.heap.size) 3 (by simp) rfl) (by decide)
  rw [kn5] at hS
  have HS := Lib.hid hS
  clear hS
  have V := Lib.hid (And.intro t0 s0)
  clear s0 t0
  go_wp2_with (fail)
  refine HS.out.mono ?_
  rintro e W11 he
  obtain ⟨A5, c5, rfl, ow, bx⟩ := he.got (n := 3) rfl
  clear he
  try dsimp only
  have b' := V.out.1.trans (bx.mono V.out.1.size)
  have hb' := Lib.hid (hb.out.trans (b'.mono hb.out.size))
  have R5' := Lib.hid (Rd.of_own ow)
  clear hb V HS bx ow b'
  have hb := hb'; clear hb'
  have R5 := R5'; clear R5'
  -- Ideal
  have s0 := hb.out.alloc hb.out.size (.cells #[.int .u8 0, .int .u8 1] 5)
  have t0 : Below W11.heap.size W11 (W11.alloc (.cells #[.int .u8 0, .int .u8 1] 5)) := ((Below.refl _ W11).alloc (Nat.le_refl _) (.cells #[.int .u8 0, .int .u8 1] 5))
  have hS := Ideal_any (c := 2) (m := 9) (HK.out _ s0) (rd_at .u8 W11 [0, 1] 5 (W11.heap.size) 2 (by simp) rfl) (byte_small (by decide)) (by decide)
  rw [kn6] at hS
  have HS := Lib.hid hS
  clear hS
  have V := Lib.hid (And.intro t0 s0)
  clear s0 t0
  go_wp2_with (fail)
  refine HS.out.mono ?_
  rintro e W12 he
  obtain ⟨A6, c6, rfl, ow, bx⟩ := he.got (n := 2) rfl
  clear he
  try dsimp only
  have b' := V.out.1.trans (bx.mono V.out.1.size)
  have hb' := Lib.hid (hb.out.trans (b'.mono hb.out.size))
  have R5' := Lib.hid (R5.out.step b')
  have R6' := Lib.hid (Rd.of_own ow)
  clear hb V HS bx R5 ow b'
  have hb := hb'; clear hb'
  have R5 := R5'; clear R5'
  have R6 := R6'; clear R6'
  -- Ideal
  have s0 := hb.out.alloc hb.out.size (.cells #[.int .u8 2] 5)
  have t0 : Below W12.heap.size W12 (W12.alloc (.cells #[.int .u8 2] 5)) := ((Below.refl _ W12).alloc (Nat.le_refl _) (.cells #[.int .u8 2] 5))
  have hS := Ideal_any (c := 1) (m := 9) (HK.out _ s0) (rd_at .u8 W12 [2] 5 (W12.heap.size) 1 (by simp) rfl) (byte_small (by decide)) (by decide)
  rw [kn7] at hS
  have HS := Lib.hid hS
  clear hS
  have V := Lib.hid (And.intro t0 s0)
  clear s0 t0
  go_wp2_with (fail)
  refine HS.out.mono ?_
  rintro e W13 he
  obtain ⟨A7, c7, rfl, ow, bx⟩ := he.got (n := 0) rfl
  clear he
  try dsimp only
  have b' := V.out.1.trans (bx.mono V.out.1.size)
  have hb' := Lib.hid (hb.out.trans (b'.mono hb.out.size))
  have R5' := Lib.hid (R5.out.step b')
  have R6' := Lib.hid (R6.out.step b')
  have R7' := Lib.hid (Rd.of_own ow)
  clear hb V HS bx R5 R6 ow b'
  have hb := hb'; clear hb'
  have R5 := R5'; clear R5'
  have R6 := R6'; clear R6'
  have R7 := R7'; clear R7'
  -- Compare
  have s0 := hb.out.alloc hb.out.size (.cells #[.int .i64 5, .int .i64 (-1), .int .i64 0, .int .i64 3] 3)
  have s1 := s0.alloc s0.size (.cells #[.int .u8 0, .int .u8 0, .int .u8 1, .int .u8 1] 5)
  have t0 : Below W13.heap.size W13 ((W13.alloc (.cells #[.int .i64 5, .int .i64 (-1), .int .i64 0, .int .i64 3] 3)).alloc (.cells #[.int .u8 0, .int .u8 0, .int .u8 1, .int .u8 1] 5)) := (((Below.refl _ W13).alloc (Nat.le_refl _) (.cells #[.int .i64 5, .int .i64 (-1), .int .i64 0, .int .i64 3] 3)).alloc (by simp) (.cells #[.int .u8 0, .int .u8 0, .int .u8 1, .int .u8 1] 5))
  have hS := Compare_any (c := 4) (c2 := 4) (HK.out _ s1) ((rd_at .i64 W13 [5, -1, 0, 3] 3 (W13.heap.size) 4 (by simp) rfl).step ((Below.refl _ _).alloc (Nat.le_refl _) (.cells #[.int .u8 0, .int .u8 0, .int .u8 1, .int .u8 1] 5))) (rd_at .u8 (W13.alloc (.cells #[.int .i64 5, .int .i64 (-1), .int .i64 0, .int .i64 3] 3)) [0, 0, 1, 1] 5 (W13.heap.size + 1) 4 (by simp) rfl) (by decide) (by decide) (byte_small (by decide))
  rw [kn8] at hS
  have HS := Lib.hid hS
  clear hS
  have V := Lib.hid (And.intro t0 s1)
  clear s0 s1 t0
  go_wp2_with (fail)
  refine HS.out.mono ?_
  rintro e W14 ⟨rfl, bx⟩
  try dsimp only
  have b' := V.out.1.trans (bx.mono V.out.1.size)
  have hb' := Lib.hid (hb.out.trans (b'.mono hb.out.size))
  have R5' := Lib.hid (R5.out.step b')
  have R6' := Lib.hid (R6.out.step b')
  have R7' := Lib.hid (R7.out.step b')
  clear hb V HS bx R5 R6 R7 b'
  have hb := hb'; clear hb'
  have R5 := R5'; clear R5'
  have R6 := R6'; clear R6'
  have R7 := R7'; clear R7'
  -- Least
  have s0 := hb.out.alloc hb.out.size (.cells #[.int .i64 5, .int .i64 (-2), .int .i64 2] 3)
  have t0 : Below W14.heap.size W14 (W14.alloc (.cells #[.int .i64 5, .int .i64 (-2), .int .i64 2] 3)) := ((Below.refl _ W14).alloc (Nat.le_refl _) (.cells #[.int .i64 5, .int .i64 (-2), .int .i64 2] 3))
  have hS := Least_any (c := 3) (HK.out _ s0) (rd_at .i64 W14 [5, -2, 2] 3 (W14.heap.size) 3 (by simp) rfl) (by decide)
  rw [kn9] at hS
  have HS := Lib.hid hS
  clear hS
  have V := Lib.hid (And.intro t0 s0)
  clear s0 t0
  go_wp2_with (fail)
  refine HS.out.mono ?_
  rintro e W15 ⟨rfl, bx⟩
  try dsimp only
  have b' := V.out.1.trans (bx.mono V.out.1.size)
  have hb' := Lib.hid (hb.out.trans (b'.mono hb.out.size))
  have R5' := Lib.hid (R5.out.step b')
  have R6' := Lib.hid (R6.out.step b')
  have R7' := Lib.hid (R7.out.step b')
  clear hb V HS bx R5 R6 R7 b'
  have hb := hb'; clear hb'
  have R5 := R5'; clear R5'
  have R6 := R6'; clear R6'
  have R7 := R7'; clear R7'
  have kc := R5.out.convert (P := Tryd.prog) Tryd.underlying38 Tryd.underlying5 c5 9 Tryd.underlying9
  rw [str3] at kc
  -- is
  have s0 := hb.out.alloc hb.out.size (.cells #[.int .i64 9, .int .i64 (-9)] 3)
  have t0 : Below W15.heap.size W15 (W15.alloc (.cells #[.int .i64 9, .int .i64 (-9)] 3)) := ((Below.refl _ W15).alloc (Nat.le_refl _) (.cells #[.int .i64 9, .int .i64 (-9)] 3))
  have hS := is_true (c := c6) (c' := 2) (e := 0) (R6.out.step t0) (rd_at .i64 W15 [9, -9] 3 (W15.heap.size) 2 (by simp) rfl) (by decide) (by decide)
  have HS := Lib.hid hS
  clear hS
  have V := Lib.hid (And.intro t0 s0)
  clear s0 t0
  go_wp2_with (fail)
  refine HS.out.mono ?_
  rintro e W16 ⟨rfl, bx⟩
  have b' := V.out.1.trans (bx.mono V.out.1.size)
  have hb' := Lib.hid (hb.out.trans (b'.mono hb.out.size))
  have R5' := Lib.hid (R5.out.step b')
  have R6' := Lib.hid (R6.out.step b')
  have R7' := Lib.hid (R7.out.step b')
  clear hb V HS bx R5 R6 R7 b'
  have hb := hb'; clear hb'
  have R5 := R5'; clear R5'
  have R6 := R6'; clear R6'
  have R7 := R7'; clear R7'
  clear R6
  -- is
  have t0 : Below W16.heap.size W16 (W16) := (Below.refl _ W16)
  have hS := is_true (c := c7) (c' := 0) (e := 3) (R7.out.step t0) (Rd.nil .i64 _ 0 none) (by decide) (by decide)
  have HS := Lib.hid hS
  clear hS
  have V := Lib.hid (And.intro t0 hb.out)
  clear  t0
  go_wp2_with (fail)
  refine HS.out.mono ?_
  rintro e W17 ⟨rfl, bx⟩
  have b' := V.out.1.trans (bx.mono V.out.1.size)
  have hb' := Lib.hid (hb.out.trans (b'.mono hb.out.size))
  have R5' := Lib.hid (R5.out.step b')
  have R7' := Lib.hid (R7.out.step b')
  clear hb V HS bx R5 R7 b'
  have hb := hb'; clear hb'
  have R5 := R5'; clear R5'
  have R7 := R7'; clear R7'
  clear R7
  go_wp2_with (first | (go_at_call 18; refine (hN.out _ _).mono ?_; rintro e w3 ⟨rfl, rfl⟩) | fail)
  go_ret
  exact ⟨rfl, hb.out⟩
end Go.Proofs.YtkkombhpiagngaaDoor
