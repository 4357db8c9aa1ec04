/-
  Compare where it returns an error; Compare at any arguments.
-/
import Derived.Test.YtkkombhpiagngaaDoorCm
namespace Go.Proofs.YtkkombhpiagngaaDoor
open Go.RowKit Go.Shelf

set_option maxRecDepth 100000 in
set_option maxHeartbeats 4000000 in
theorem compare_bad {A A2 A' : Option Addr} {n c n2 c2 n' c' : Nat} {f bb : Bool} {k k2 : Int} {w : World} (hkk : (k = 2 ∧ k2 = 2) ∨ (k = 0 ∧ bb = false ∧ k2 = 3))
    (hE : ∀ u X, Below w.heap.size w u → RdB u (some ⟨X, 0, none⟩) 1 [decide (n = n2)] → Calls Tryd.prog 33 #[.slice A n c, .slice (some ⟨X, 0, none⟩) 1 1] u fun e w' => e = .returned (.tuple #[.agg #[.slice A' n' c', .bool f], .int .i64 k]) ∧ Below u.heap.size u w')
    (hA : ∀ u, Below w.heap.size w u → Calls Tryd.prog 42 #[.slice A2 n2 c2] u fun e w' => e = .returned (.bool bb) ∧ w' = u) :
    Calls Tryd.prog 27 #[.slice A n c, .slice A2 n2 c2] w fun e w' => e = .returned (.tuple #[.int .i64 0, .int .i64 0, .int .i64 k2]) ∧ Below w.heap.size w w' := by
  have b1 := (Below.refl w.heap.size w).alloc (Nat.le_refl _) (.cells #[.slice A2 n2 c2] 38)
  have b2 := b1.alloc b1.size (.cells #[.int .i64 0] 3)
  have b3 := b2.alloc b2.size (.cells #[.int .i64 0] 3)
  have q0 := ((Boxed.new w 38 (.slice A2 n2 c2)).alloc (.cells #[.int .i64 0] 3)).alloc (.cells #[.int .i64 0] 3)
  have q1 := (Boxed.new (w.alloc (.cells #[.slice A2 n2 c2] 38)) 3 (.int .i64 0)).alloc (.cells #[.int .i64 0] 3)
  have q2 := Boxed.new ((w.alloc (.cells #[.slice A2 n2 c2] 38)).alloc (.cells #[.int .i64 0] 3)) 3 (.int .i64 0)
  simp only [World.size_alloc] at q1 q2
  have hsz : (((w.alloc (.cells #[.slice A2 n2 c2] 38)).alloc (.cells #[.int .i64 0] 3)).alloc (.cells #[.int .i64 0] 3)).heap.size = w.heap.size + 3 := by simp
  have HE := Lib.hid hE; have HA := Lib.hid hA
  clear hE hA b1 b2
  have hdec : ((n : Int) == (n2 : Int)) = decide (n = n2) := by rw [Bool.eq_iff_iff]; simp; omega
  obtain ⟨bd, hbd⟩ : ∃ b, decide (n = n2) = b := ⟨_, rfl⟩
  rw [hbd] at hdec HE
  clear hbd
  go_enter Tryd.func27, Tryd.ntmps27
  go_wp2_with fail
  generalize ((w.alloc (.cells #[.slice A2 n2 c2] 38)).alloc (.cells #[.int .i64 0] 3)).alloc (.cells #[.int .i64 0] 3) = W3 at *
  refine wp_scope_forward 0 rfl ?_
  have d0 := q0.cell
  have b4 := b3.alloc b3.size (.cells #[.bool bd] 4)
  have HE2 := Lib.hid (HE.out _ _ b4 (RdB.one W3 bd 4))
  have Q0 := Lib.hid q0; have Q1 := Lib.hid q1; have Q2 := Lib.hid q2; have B4 := Lib.hid b4; have HSZ := Lib.hid hsz
  clear HE b3 b4 q0 q1 q2 hsz
  go_wp2_with fail
  refine HE2.out.mono ?_
  rintro e w2 ⟨rfl, hb⟩
  have hb2 := B4.out.trans (hb.mono B4.out.size)
  have q0 := (Boxed.below (Q0.out.alloc (.cells #[.bool bd] 4)) hb (Q0.out.alloc _).lt).alloc (.cells #[.slice A' n' c', .bool f] 66)
  have q1 := (Boxed.below (Q1.out.alloc (.cells #[.bool bd] 4)) hb (Q1.out.alloc _).lt).alloc (.cells #[.slice A' n' c', .bool f] 66)
  have q2 := (Boxed.below (Q2.out.alloc (.cells #[.bool bd] 4)) hb (Q2.out.alloc _).lt).alloc (.cells #[.slice A' n' c', .bool f] 66)
  have b5 := hb2.alloc hb2.size (.cells #[.slice A' n' c', .bool f] 66)
  clear hb hb2 Q0 Q1 Q2 HE2 B4 HSZ
  go_upto_region 2 with fail
  generalize w2.alloc (.cells #[.slice A' n' c', .bool f] 66) = W5 at *
  have d1 := q0.cell
  have c1 := q1.cell
  have c2' := q1.frozen
  have u1 := q2.cell
  have u2 := q2.frozen
  have HA5 := Lib.hid (HA.out W5 b5)
  have r1 := (q1.set (.int .i64 0)).other (B' := w.heap.size + 1 + 1) (by omega) (.int .i64 0)
  have r2 := (q2.other (B' := w.heap.size + 1) (by omega) (.int .i64 0)).set (.int .i64 0)
  have b6 := (b5.setCell (p := ⟨w.heap.size + 1, 0, none⟩) (by dsimp only; omega) (.int .i64 0)).setCell (p := ⟨w.heap.size + 1 + 1, 0, none⟩) (by dsimp only; omega) (.int .i64 0)
  have R1 := Lib.hid r1; have R2 := Lib.hid r2; have B6 := Lib.hid b6
  clear HA q0 q1 q2 b5 r1 r2 b6 hdec
  rcases hkk with ⟨rfl, rfl⟩ | ⟨rfl, rfl, rfl⟩
  · go_wp2_with fail
    go_step3
    refine ⟨rfl, ?_⟩
    go_wp2
    rw [Exit.noGoto_ret]
    refine bodyPost_ret (compare_results rfl rfl rfl R1.out R2.out) rfl ?_
    exact ⟨rfl, B6.out⟩
  · go_wp2_with (refine HA5.out.mono ?_; rintro e w ⟨rfl, rfl⟩)
    go_step3
    refine ⟨rfl, ?_⟩
    go_wp2
    rw [Exit.noGoto_ret]
    refine bodyPost_ret (compare_results rfl rfl rfl R1.out R2.out) rfl ?_
    exact ⟨rfl, B6.out⟩
theorem Compare_any {A A2 : Option Addr} {n c n2 c2 : Nat} {xs bs : List Int} {w : World} (hK : Kinds w) (h : Rd .i64 w w.heap.size A n xs) (h2 : Rd .u8 w w.heap.size A2 n2 bs) (hn : n ≤ 1000000) (hn2 : n2 ≤ 2000000) (hB : Byte bs) :
    Calls Tryd.prog 27 #[.slice A n c, .slice A2 n2 c2] w fun e w' => e = .returned (.tuple #[.int .i64 (((compareS xs bs).1.1 : Nat) : Int), .int .i64 (((compareS xs bs).1.2 : Nat) : Int), .int .i64 (compareS xs bs).2]) ∧ Below w.heap.size w w' := by
  have hl := h.len
  have hl2 := h2.len
  unfold compareS
  by_cases ho : (softB xs && decide (xs.length = bs.length)) = true
  · rw [if_pos ho]
    rw [Bool.and_eq_true, decide_eq_true_eq, hl, hl2] at ho
    obtain ⟨hs, rfl⟩ := ho
    by_cases hv : validB bs = true
    · rw [if_pos hv, hl]
      exact compare_ok hK h h2 hn hB hs hv
    · rw [if_neg hv]
      exact compare_bad (A' := A) (n' := n) (c' := c) (f := true) (k := 0) (bb := false) (.inr ⟨rfl, rfl, rfl⟩) (fun u X hb hB => examine_ok (hK.step hb) (h.step hb) hn hB (by decide) hs (by simp)) (fun u hb => by have := areBits_any (c := c2) (h2.below hb) hn2; rw [Bool.eq_false_iff.2 hv] at this; exact this)
  · rw [if_neg ho]
    have hno : softB xs = false ∨ ([decide (n = n2)].any fun x => !x) = true := by
      cases hx : softB xs
      · exact .inl rfl
      · right
        rw [hx, hl, hl2] at ho
        simpa using ho
    exact compare_bad (A' := none) (n' := 0) (c' := 0) (f := false) (k := 2) (bb := validB bs) (.inl ⟨rfl, rfl⟩) (fun u X hb hB => examine_no (hK.step hb) (h.step hb) hn hB (by decide) hno) (fun u hb => areBits_any (c := c2) (h2.below hb) hn2)
end Go.Proofs.YtkkombhpiagngaaDoor
