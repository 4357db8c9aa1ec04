/-
  Sum, Scale, Hard, Ideal at any arguments: what they return.
-/
import Derived.Test.YtkkombhpiagngaaDoorFn
namespace Go.Proofs.YtkkombhpiagngaaDoor
open Go.RowKit Go.Shelf

set_option maxHeartbeats 1000000 in
theorem Sum_any {A A2 : Option Addr} {n c n2 c2 : Nat} {xs ys : List Int} {w : World} (hK : Kinds w) (h : Rd .i64 w w.heap.size A n xs) (h2 : Rd .i64 w w.heap.size A2 n2 ys) (hn : n ≤ 1000000) (hn2 : n2 ≤ 1000000) :
    Calls Tryd.prog 15 #[.slice A n c, .slice A2 n2 c2] w (RetQ .i64 3 w (sumS xs ys)) := by
  have hl := h.len
  have hl2 := h2.len
  by_cases ho : (softB xs && softB ys && decide (xs.length = ys.length)) = true
  · have e : sumS xs ys = (sumI xs ys, 0) := if_pos ho
    rw [e]
    rw [Bool.and_eq_true, Bool.and_eq_true, decide_eq_true_eq] at ho
    obtain ⟨⟨s1, s2⟩, s3⟩ := ho
    refine Sum_main (b1 := true) (b2 := true) (A' := A) (n' := n) (c' := c) (f := true) (by simp; omega)
      (fun u hb => by have := Valid_any (c := c2) (hK.step hb) (h2.below hb) hn2; rw [s2] at this; exact this)
      (fun u X hb hB => examine_ok (hK.step hb) (h.step hb) hn hB (by decide) s1 rfl)
      (fun u hb hc => ?_)
    have e2 : sumI xs ys = (List.range n).map fun j => addI (xs[j]?.getD 0) (ys[j]?.getD 0) := by unfold sumI; rw [hl]
    rw [e2]
    exact compute_ii (g := fun j v => addI v (ys[j]?.getD 0)) (enters_of Tryd.func35 (by kernel_rfl) rfl) (h.step hb) (by omega) (fun j u' hj hb' =>
      sumC_any ((hK.step hb).step hb') ((hb'.cell (World.block_lt_of_cell? u _ hc)).trans hc) ((h2.step hb).step hb') (by omega))
  · have e : sumS xs ys = ([], 2) := if_neg ho
    rw [e]
    have hno : softB xs = false ∨ ([decide (n = n2), softB ys].any fun x => !x) = true := by
      cases hx : softB xs
      · exact .inl rfl
      · right
        cases hy : softB ys
        · simp
        · simp only [hx, hy, Bool.and_true, Bool.true_and, decide_eq_true_eq] at ho
          simp
          omega
    refine Sum_main (b1 := decide (n = n2)) (b2 := softB ys) (A' := none) (n' := 0) (c' := 0) (f := false) (by rw [Bool.eq_iff_iff]; simp; omega)
      (fun u hb => Valid_any (c := c2) (hK.step hb) (h2.below hb) hn2)
      (fun u X hb hB => examine_no (hK.step hb) (h.step hb) hn hB (by decide) hno)
      (fun u hb hc => ?_)
    exact compute_ii (n := 0) (xs := []) (g := fun j v => 0) (enters_of Tryd.func35 (by kernel_rfl) rfl) (Rd.nil _ _ _ _) (by omega) (fun j u' hj hb' => absurd hj (Nat.not_lt_zero j))
set_option maxHeartbeats 1000000 in
theorem Scale_any {A : Option Addr} {n c : Nat} {num den : Int} {xs : List Int} {w : World} (hK : Kinds w) (h : Rd .i64 w w.heap.size A n xs) (hn : n ≤ 1000000) :
    Calls Tryd.prog 21 #[.slice A n c, .int .i64 num, .int .i64 den] w (RetQ .i64 3 w (scaleS xs num den)) := by
  have hl := h.len
  have hV := fun u (hb : Below w.heap.size w u) => includes_any (v := num) (lo := 0) (hi := 1073741824) (.inr (.inr (.inl rfl))) (hK.step hb) rfl rfl
  have hV2 := fun u (hb : Below w.heap.size w u) => includes_any (v := den) (lo := 1) (hi := 1073741824) (.inr (.inr (.inr rfl))) (hK.step hb) rfl rfl
  by_cases ho : (softB xs && (decide (0 ≤ num) && decide (num ≤ 1073741824)) && (decide (1 ≤ den) && decide (den ≤ 1073741824))) = true
  · have e : scaleS xs num den = (scaleI num den xs, 0) := if_pos ho
    rw [e]
    rw [Bool.and_eq_true, Bool.and_eq_true] at ho
    obtain ⟨⟨s1, s2⟩, s3⟩ := ho
    rw [s2] at hV
    rw [s3] at hV2
    simp only [Bool.and_eq_true, decide_eq_true_eq] at s2 s3
    refine Scale_main (b1 := true) (b2 := true) (A' := A) (n' := n) (c' := c) (f := true) hV hV2
      (fun u X hb hB => examine_ok (hK.step hb) (h.step hb) hn hB (by decide) s1 rfl)
      (fun u hb hc hd => ?_)
    have e2 : scaleI num den xs = (List.range n).map fun j => scaleE num den (xs[j]?.getD 0) := by unfold scaleI; rw [← hl, map_range]
    rw [e2]
    exact compute_ii (g := fun _ v => scaleE num den v) (enters_of Tryd.func38 (by kernel_rfl) rfl) (h.step hb) (by omega) (fun j u' hj hb' =>
      scaleC_any ((hK.step hb).step hb') ((hb'.cell (World.block_lt_of_cell? u _ hc)).trans hc) ((hb'.cell (World.block_lt_of_cell? u _ hd)).trans hd) s2 s3 (softB_at s1 j))
  · have e : scaleS xs num den = ([], 2) := if_neg ho
    rw [e]
    obtain ⟨b1, hb1⟩ : ∃ b, (decide (0 ≤ num) && decide (num ≤ 1073741824)) = b := ⟨_, rfl⟩
    obtain ⟨b2, hb2⟩ : ∃ b, (decide (1 ≤ den) && decide (den ≤ 1073741824)) = b := ⟨_, rfl⟩
    rw [hb1] at hV ho
    rw [hb2] at hV2 ho
    have hno : softB xs = false ∨ ([b1, b2].any fun x => !x) = true := by
      cases hx : softB xs
      · exact .inl rfl
      · right
        rw [hx] at ho
        cases b1 <;> cases b2 <;> first | rfl | exact absurd rfl ho
    refine Scale_main (b1 := b1) (b2 := b2) (A' := none) (n' := 0) (c' := 0) (f := false) hV hV2
      (fun u X hb hB => examine_no (hK.step hb) (h.step hb) hn hB (by decide) hno)
      (fun u hb hc hd => ?_)
    exact compute_ii (n := 0) (xs := []) (g := fun j v => 0) (enters_of Tryd.func38 (by kernel_rfl) rfl) (Rd.nil _ _ _ _) (by omega) (fun j u' hj hb' => absurd hj (Nat.not_lt_zero j))
set_option maxHeartbeats 1000000 in
theorem Hard_main {A A' : Option Addr} {n c n' c' : Nat} {f : Bool} {k : Int} {res : List Int} {w : World}
    (hE : Calls Tryd.prog 33 #[.slice A n c, .slice none 0 0] w fun e w' => e = .returned (.tuple #[.agg #[.slice A' n' c', .bool f], .int .i64 k]) ∧ Below w.heap.size w w')
    (hC : ∀ u, Below w.heap.size w u → Calls Tryd.prog 39 #[.slice A' n' c', .func (.func 40) #[] #[]] u (RetV .u8 5 u res)) :
    Calls Tryd.prog 23 #[.slice A n c] w (RetQ .u8 5 w (res, k)) := by
  have HE := Lib.hid hE; have HC := Lib.hid hC
  clear hE hC
  go_enter Tryd.func23, Tryd.ntmps23
  go_wp2_with fail
  refine HE.out.mono ?_
  rintro e w2 ⟨rfl, hb⟩
  have hb2 := hb.alloc hb.size (.cells #[.slice A' n' c', .bool f] 66)
  have hC2 := Lib.hid (hb2.mono (Nat.le_refl _) |> HC.out _)
  have HB := Lib.hid hb2
  clear hb hb2 HE HC
  go_wp2_with (refine hC2.out.mono ?_; rintro e w5 ⟨A5, c5, rfl, hO5, hb5⟩)
  go_ret2
  exact ⟨A5, c5, rfl, hO5.mono HB.out.size, HB.out.trans (hb5.mono HB.out.size)⟩
theorem Hard_any {A : Option Addr} {n c : Nat} {xs : List Int} {w : World} (hK : Kinds w) (h : Rd .i64 w w.heap.size A n xs) (hn : n ≤ 1000000) :
    Calls Tryd.prog 23 #[.slice A n c] w (RetQ .u8 5 w (hardS xs)) := by
  have hl := h.len
  unfold hardS
  by_cases ho : softB xs = true
  · rw [if_pos ho]
    refine Hard_main (examine_ok (c' := 0) hK h hn (RdB.nil_ w) (by decide) ho rfl) (fun u hb => ?_)
    have e2 : hardI xs = (List.range n).map fun j => hardE (xs[j]?.getD 0) := by unfold hardI; rw [← hl, map_range]
    rw [e2]
    exact compute_ib (g := fun _ v => hardE v) (enters_of Tryd.func40 (by kernel_rfl) rfl) (h.step hb) (by omega) (fun j u' hj hb' => hardC_any)
  · rw [if_neg ho]
    refine Hard_main (examine_no (c' := 0) hK h hn (RdB.nil_ w) (by decide) (.inl (Bool.eq_false_iff.2 ho))) (fun u hb => ?_)
    exact compute_ib (n := 0) (xs := []) (g := fun j v => 0) (enters_of Tryd.func40 (by kernel_rfl) rfl) (Rd.nil _ _ _ _) (by omega) (fun j u' hj hb' => absurd hj (Nat.not_lt_zero j))
theorem valid_bit {bs : List Int} (hB : Byte bs) (hv : validB bs = true) (j : Nat) : bs[j]?.getD 0 = 0 ∨ bs[j]?.getD 0 = 1 := by
  have h1 := hB j
  rcases Nat.lt_or_ge j bs.length with hj | hj
  · unfold validB at hv
    have := List.all_eq_true.1 hv _ (List.getElem_mem hj)
    rw [List.getElem?_eq_getElem hj, Option.getD_some] at h1 ⊢
    simp at this
    omega
  · rw [List.getElem?_eq_none hj]; exact .inl rfl
set_option maxHeartbeats 4000000 in
theorem Ideal_any {A : Option Addr} {n c : Nat} {m : Int} {bs : List Int} {w : World} (hK : Kinds w) (h : Rd .u8 w w.heap.size A n bs) (hB : Byte bs) (hn : n ≤ 2000000) :
    Calls Tryd.prog 25 #[.slice A n c, .int .i64 m] w (RetQ .i64 3 w (idealS bs m)) := by
  have hl := h.len
  have hbl := (Below.refl w.heap.size w).alloc (Nat.le_refl _) (.cells #[.int .i64 m] 3)
  have hbx := Boxed.new w 3 (.int .i64 m)
  have hI := includes_any (v := m) (lo := 0) (hi := 127) (.inr (.inl rfl)) (hK.step hbl) rfl rfl
  have hA := areBits_any (c := c) (h.below hbl) hn
  unfold idealS
  by_cases ho : (decide (0 ≤ m) && decide (m ≤ 127)) = true
  · rw [if_pos ho]
    rw [ho] at hI
    by_cases hv : validB bs = true
    · rw [if_pos hv]
      rw [hv] at hA
      have e2 : idealI m bs = (List.range n).map fun j => idealE m (bs[j]?.getD 0) := by unfold idealI; rw [← hl, map_range]
      have hbit := fun j : Nat => valid_bit hB hv j
      simp only [Bool.and_eq_true, decide_eq_true_eq] at ho
      have hC := compute_bi (c := c) (g := fun _ v => idealE m v) (lb := #[.pointer (some ⟨w.heap.size, 0, none⟩)]) (enters_of Tryd.func44 (by kernel_rfl) rfl) (h.step hbl) hn (fun j u' hj hb' =>
        idealC_any ((hb'.cell (World.block_lt_of_cell? _ _ hbx.cell)).trans hbx.cell) ho (hbit j))
      rw [← e2] at hC
      have hlen : Hid ((idealI m bs).length = n) := Lib.hid (by rw [e2]; simp)
      generalize idealI m bs = res at *
      have HI := Lib.hid hI; have HA := Lib.hid hA; have HC := Lib.hid hC; have HBl := Lib.hid hbl
      have c0 := hbx.cell
      clear hK h hB hI hA hC hbl hbx e2 hbit hv ho
      go_enter Tryd.func25, Tryd.ntmps25
      go_wp2_with fail
      refine wp_scope_forward 0 rfl ?_
      go_wp2_with (first | (go_at_call 37; refine HI.out.mono ?_; rintro e w1 ⟨rfl, rfl⟩) | (go_at_call 42; refine HA.out.mono ?_; rintro e w1 ⟨rfl, rfl⟩) | (go_at_call 43; refine HC.out.mono ?_; rintro e w5 ⟨A5, c5, rfl, hO5, hb5⟩) | fail)
      refine jump_ret ?_
      go_ret2
      exact ⟨A5, c5, rfl, hO5.mono HBl.out.size, HBl.out.trans (hb5.mono HBl.out.size)⟩
    · rw [if_neg hv]
      rw [Bool.eq_false_iff.2 hv] at hA
      have HI := Lib.hid hI; have HA := Lib.hid hA; have HBl := Lib.hid hbl
      clear hK h hB hI hA hbl hbx hv ho
      go_enter Tryd.func25, Tryd.ntmps25
      go_wp2_with fail
      refine wp_scope_forward 0 rfl ?_
      go_wp2_with (first | (go_at_call 37; refine HI.out.mono ?_; rintro e w1 ⟨rfl, rfl⟩) | (go_at_call 42; refine HA.out.mono ?_; rintro e w1 ⟨rfl, rfl⟩) | fail)
      go_step3
      refine ⟨rfl, ?_⟩
      go_wp2
      rw [Exit.noGoto_ret]
      go_ret2
      exact RetQ.nil_ HBl.out
  · rw [if_neg ho]
    rw [Bool.eq_false_iff.2 ho] at hI
    have HI := Lib.hid hI; have HBl := Lib.hid hbl
    clear hK h hB hI hA hbl hbx ho
    go_enter Tryd.func25, Tryd.ntmps25
    go_wp2_with fail
    refine wp_scope_forward 0 rfl ?_
    go_wp2_with (first | (go_at_call 37; refine HI.out.mono ?_; rintro e w1 ⟨rfl, rfl⟩) | fail)
    go_step3
    refine ⟨rfl, ?_⟩
    go_wp2
    rw [Exit.noGoto_ret]
    go_ret2
    exact RetQ.nil_ HBl.out
end Go.Proofs.YtkkombhpiagngaaDoor
