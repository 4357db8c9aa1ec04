/-
  DematchNews, DematchNone, DematchBounds.
-/
import Derived.Test.YtoegamlpgenfcaaDoorLs
import Derived.Test.YtoegamlpgenfcaaDoorWk
namespace Go.Proofs.YtoegamlpgenfcaaDoor
open Go.RowKit Go.Shelf

theorem RetB.got {w w' : World} {s : St} {v : Value} (h : RetB w s v w') : ∃ B A N c, v = .pointer (some ⟨B, 0, none⟩) ∧ w.heap.size ≤ B ∧ BufAt w' B s A N c ∧ Below w.heap.size w w' := h
set_option maxRecDepth 100000 in
set_option maxHeartbeats 4000000 in
theorem news_walk {k f l : Int} {w : World} (hK : Kinds w) : Calls Tryd.prog 4 #[.int .i64 k, .int .i64 f, .int .i64 l] w fun e w' => e = .returned (.bool true) ∧ Below w.heap.size w w' := by
  have hN := Lib.hid (fun (e : Int) (u : World) => num12_any (e := e) (w := u))
  have hWk := Lib.hid (fun (u : World) (hb : Below w.heap.size w u) => works_any (hK.step hb))
  have hz := hK.col.lt
  by_cases hB : okB k f l = true
  · obtain ⟨K, F, L, rfl, rfl, rfl, h1, h2, h3, h4⟩ := okB_nat hB
    have hn := Lib.hid (New_ok (w := w) hz h1 h2 h3 h4)
    have hr := Lib.hid (fun (u : World) => refNew_new (w := u) h1 h2 h3 h4)
    generalize newSt K F L = s at *
    clear hB hK hz h1 h2 h3 h4
    go_enter Tryd.func4, Tryd.ntmps4
    go_wp2_with fail
    refine hn.out.mono ?_
    rintro e w1 ⟨v, rfl, B, A, N, c, rfl, hBl, hBuf, b1⟩
    clear hn
    go_wp2_with fail
    refine (hr.out _).mono ?_
    rintro e w2 ⟨A2, N2, c2, rfl, hRef, b2⟩
    have hb2 := b1.trans (b2.mono b1.size)
    have b3 : Below w2.heap.size w2 (w2.alloc (.cells (bufC s.k s.f s.l s.n A2 N2 c2) 30)) := (Below.refl _ _).alloc (Nat.le_refl _) _
    have hb3 := hb2.trans (b3.mono hb2.size)
    have hI := Lib.hid (is_any ((hBuf.below b2).below b3) (hRef.below b3))
    have HB3 := Lib.hid hb3
    have hW4 := Lib.hid (fun (u : World) (hb : Below (w2.alloc (.cells (bufC s.k s.f s.l s.n A2 N2 c2) 30)).heap.size (w2.alloc (.cells (bufC s.k s.f s.l s.n A2 N2 c2) 30)) u) => hWk.out u (HB3.out.trans (hb.mono HB3.out.size)))
    unfold refV bufC at *
    dsimp only
    clear hr hBuf hRef b1 b2 hb2 b3 hb3 hWk hBl
    go_wp2_with (first | (go_at_call 12; refine (hN.out _ _).mono ?_; rintro e w6 ⟨rfl, he⟩; obtain rfl := he.symm) | (go_at_call 14; refine hI.out.mono ?_; rintro e w3 ⟨rfl, b4⟩) | (go_at_call 9; refine (hW4.out _ b4).mono ?_; rintro e w5 ⟨rfl, b5⟩) | fail)
    go_ret
    exact ⟨rfl, (HB3.out.trans (b4.mono HB3.out.size)).trans (b5.mono (Nat.le_trans HB3.out.size b4.size))⟩
  · have hB := Bool.eq_false_iff.2 hB
    have hn := Lib.hid (New_no (w := w) hB)
    have hr := Lib.hid (fun (u : World) => refNew_no (w := u) hB)
    clear hB hK hz
    go_enter Tryd.func4, Tryd.ntmps4
    go_wp2_with fail
    refine hn.out.mono ?_
    rintro e w1 ⟨rfl, b1⟩
    clear hn
    go_wp2_with fail
    refine (hr.out _).mono ?_
    rintro e w2 ⟨rfl, b2⟩
    have hb2 := b1.trans (b2.mono b1.size)
    have hb3 := hb2.alloc hb2.size (.cells (bufC 0 0 0 0 none 0 0) 30)
    have HB3 := Lib.hid hb3
    have hW4 := Lib.hid (hWk.out _ hb3)
    unfold bufC at *
    clear hr b1 b2 hb2 hb3 hWk
    go_wp2_with (first | (go_at_call 12; refine (hN.out _ _).mono ?_; rintro e w6 ⟨rfl, he⟩; obtain rfl := he.symm) | (go_at_call 9; refine hW4.out.mono ?_; rintro e w5 ⟨rfl, b5⟩) | fail)
    go_ret
    exact ⟨rfl, HB3.out.trans (b5.mono HB3.out.size)⟩
set_option maxRecDepth 100000 in
set_option maxHeartbeats 4000000 in
theorem none_walk {rv : Int} {A : Option Addr} {n c : Nat} {zero : Bool} {w : World} (hK : Kinds w) : Calls Tryd.prog 6 #[.int .i64 rv, .slice A n c, .bool zero] w fun e w' => e = .returned (.bool true) ∧ Below w.heap.size w w' := by
  have hN := Lib.hid (fun (e : Int) (u : World) => num12_any (e := e) (w := u))
  have hWk := Lib.hid (fun (u : World) (hb : Below w.heap.size w u) => works_any (hK.step hb))
  have hn0 : (0 : Int) ≤ (n : Int) := by omega
  clear hK
  by_cases hn : (50 : Int) < (n : Int)
  · go_enter Tryd.func6, Tryd.ntmps6
    go_wp2_with (first | (go_at_call 9; refine (hWk.out _ (Below.refl _ _)).mono ?_; rintro e w9 ⟨rfl, b9⟩) | fail)
    go_ret
    exact ⟨rfl, b9⟩
  · have key : ∃ (v : Value) (W : World), (zero = false → v = .pointer none ∧ W = w) ∧ (zero = true → v = .pointer (some ⟨w.heap.size, 0, none⟩) ∧ W = w.alloc (.cells (bufC 0 0 0 0 none 0 0) 49)) ∧ NoB W v ∧ Below w.heap.size w W := by
      cases zero
      · exact ⟨_, _, fun _ => ⟨rfl, rfl⟩, (fun h => by cases h), NoB.nil_ w, Below.refl _ _⟩
      · exact ⟨_, _, (fun h => by cases h), fun _ => ⟨rfl, rfl⟩, NoB.zero (World.alloc_heap_new _ _), (Below.refl _ _).alloc (Nat.le_refl _) _⟩
    obtain ⟨v, W, k1, k2, hv, hb0⟩ := key
    have hAdd := Lib.hid (fun (u : World) (hb : Below W.heap.size W u) => Add_no (A2 := A) (m := n) (c2 := c) (rv := rv) (hv.below hb))
    have hReset := Lib.hid (fun (u : World) (hb : Below W.heap.size W u) => Reset_no (hv.below hb))
    have hValues := Lib.hid (fun (u : World) (hb : Below W.heap.size W u) => Values_no (hv.below hb))
    have hStreams := Lib.hid (fun (u : World) (hb : Below W.heap.size W u) => Streams_no (hv.below hb))
    have hKnown := Lib.hid (fun (u : World) (hb : Below W.heap.size W u) => Known_no (hv.below hb))
    have hReceived := Lib.hid (fun (u : World) (hb : Below W.heap.size W u) => Received_no (hv.below hb))
    have hClone := Lib.hid (fun (u : World) (hb : Below W.heap.size W u) => Clone_no (hv.below hb))
    have hSame := Lib.hid (fun (u : World) (hb : Below W.heap.size W u) => Same_no (hv.below hb))
    have hbu : Below W.heap.size W W := Below.refl _ _
    have HB0 := Lib.hid hb0
    clear hv hb0
    cases zero
    case' false => obtain ⟨rfl, rfl⟩ := k1 rfl
    case' true => obtain ⟨rfl, rfl⟩ := k2 rfl
    all_goals
      unfold bufC at *
      clear k1 k2
      go_enter Tryd.func6, Tryd.ntmps6
      go_wp2_with (first | (go_at_call 19; refine (hAdd.out _ hbu).mono ?_; rintro e w7 ⟨rfl, b7⟩; have hbu := hbu.trans (b7.mono hbu.size)) | (go_at_call 20; refine (hReset.out _ hbu).mono ?_; rintro e w7 ⟨rfl, b7⟩; have hbu := hbu.trans (b7.mono hbu.size)) | (go_at_call 21; refine (hValues.out _ hbu).mono ?_; rintro e w6 ⟨rfl, he⟩; obtain rfl := he.symm) | (go_at_call 18; refine (hStreams.out _ hbu).mono ?_; rintro e w6 ⟨rfl, he⟩; obtain rfl := he.symm) | (go_at_call 22; refine (hKnown.out _ hbu).mono ?_; rintro e w6 ⟨rfl, he⟩; obtain rfl := he.symm) | (go_at_call 23; refine (hReceived.out _ hbu).mono ?_; rintro e w6 ⟨rfl, he⟩; obtain rfl := he.symm) | (go_at_call 15; refine (hClone.out _ hbu).mono ?_; rintro e w6 ⟨rfl, he⟩; obtain rfl := he.symm) | (go_at_call 16; refine (hSame.out _ hbu).mono ?_; rintro e w6 ⟨rfl, he⟩; obtain rfl := he.symm) | (go_at_call 12; refine (hN.out _ _).mono ?_; rintro e w6 ⟨rfl, he⟩; obtain rfl := he.symm) | (go_at_call 9; refine (hWk.out _ (HB0.out.trans (hbu.mono HB0.out.size))).mono ?_; rintro e w9 ⟨rfl, b9⟩) | fail)
      go_ret
      exact ⟨rfl, (HB0.out.trans (hbu.mono HB0.out.size)).trans (b9.mono (Nat.le_trans HB0.out.size hbu.size))⟩
theorem zero_at {n j : Nat} : (List.replicate n (0 : Int))[j]?.getD 0 = 0 := by
  rw [List.getElem?_replicate]
  split <;> rfl
theorem acc_zeros {V ps : List Int} {m : Nat} (h : ∀ p : Nat, V[p]?.getD 0 = 0) : ∀ (j : Nat) (p : Nat), (accV V ps (List.replicate m 0) j)[p]?.getD 0 = 0 := by
  intro j
  induction j with
  | zero => exact h
  | succ j ih =>
    intro p
    rw [accV_succ]
    by_cases hp : (ps[j]?.getD 0).toNat < (accV V ps (List.replicate m 0) j).length
    · rw [stepV_get _ _ _ _ hp]
      split
      · rw [ih, zero_at]; decide
      · exact ih p
    · unfold stepV
      rw [List.set_eq_of_length_le (by omega)]
      exact ih p
theorem kno_zeros {V : List Int} (h : ∀ p : Nat, V[p]?.getD 0 = 0) (N : Nat) : knoN V N = 0 := by
  unfold knoN
  rw [List.countP_eq_zero]
  intro i _
  simp [h i]
theorem soft_zeros (n : Nat) : softB (List.replicate n 0) = true := softB_all (fun j => by rw [zero_at]; omega)
set_option maxRecDepth 100000 in
theorem ex_use : usable (cirI 40 0 1000) ≠ 0 := by decide +kernel
theorem new_zero (p : Nat) : (newV 40 0)[p]?.getD 0 = 0 := by
  rcases Nat.lt_or_ge p (3 * (40 + 4)) with h | h
  · rw [newV_at h, if_neg]; unfold fillB; simp
  · rw [List.getElem?_eq_none (by rw [newV_length]; exact h)]; rfl
theorem most_gen {m : Nat} {rv : Int} (hp : (posS (ex0.k : Int) (ex0.f : Int) (ex0.l : Int) rv (m : Int)).2 = 0) : (addSt ex0 rv (List.replicate m 0)).2 = 0 ∧ (addSt ex0 rv (List.replicate m 0)).1.n = m ∧ knoN (addSt ex0 rv (List.replicate m 0)).1.V 132 = 0 := by
  have hl : (List.replicate m (0 : Int)).length = m := List.length_replicate
  have e : addSt ex0 rv (List.replicate m 0) = ({ ex0 with V := accV ex0.V (posS ex0.k ex0.f ex0.l rv m).1 (List.replicate m 0) m, n := ex0.n + m }, 0) := by
    unfold addSt
    rw [hl, if_pos (soft_zeros _), if_pos hp]
  rw [e]
  refine ⟨rfl, ?_, ?_⟩
  · show ex0.n + m = m
    rw [ex_n.1, Nat.zero_add]
  · exact kno_zeros (V := accV ex0.V (posS ex0.k ex0.f ex0.l rv m).1 (List.replicate m 0) m) (fun p => acc_zeros (V := ex0.V) new_zero m p) 132
/-- The greatest number of values: all are taken. -/
theorem most_ok {rv : Int} (h : okV rv = true) : (addSt ex0 rv (List.replicate 131072 0)).2 = 0 ∧ (addSt ex0 rv (List.replicate 131072 0)).1.n = 131072 ∧ knoN (addSt ex0 rv (List.replicate 131072 0)).1.V 132 = 0 := by
  obtain ⟨v, rfl, hv⟩ := okV_nat h
  refine most_gen ?_
  have hp := posS_ok (oks (k := 40) (f := 0) (l := 1000) (v := v) (e := 131072) (by decide) (by decide) (by decide) (by decide) hv (by decide))
  rw [if_neg (fun hh => ex_use hh.2)] at hp
  have hp2 := congrArg (fun r : List Int × Int => r.2) hp
  exact hp2
/-- One more: none is. -/
theorem more_no {rv : Int} : addSt ex0 rv (List.replicate 131073 0) = (ex0, 2) := addSt_bad (by rw [List.length_replicate]; simp [okE])
set_option maxRecDepth 100000 in
set_option maxHeartbeats 4000000 in
theorem bounds_walk {rv : Int} {past : Bool} {w : World} (hK : Kinds w) : Calls Tryd.prog 7 #[.int .i64 rv, .bool past] w fun e w' => e = .returned (.bool true) ∧ Below w.heap.size w w' := by
  have hN := Lib.hid (fun (e : Int) (u : World) => num12_any (e := e) (w := u))
  have hWk := Lib.hid (fun (u : World) (hb : Below w.heap.size w u) => works_any (hK.step hb))
  have hz := hK.col.lt
  have HK := Lib.hid hK
  clear hK
  by_cases hv : okV rv = true
  · have hn := Lib.hid (New_ok (k := 40) (f := 0) (l := 1000) (w := w) hz (by decide) (by decide) (by decide) (by decide))
    have h1 : decide (rv < 0) = false := by unfold okV at hv; simp at hv; simp; omega
    have h2 : decide (3 < rv) = false := by unfold okV at hv; simp at hv; simp; omega
    have hms := Lib.hid (most_ok hv)
    clear hz hv
    cases past
    · have hmk := fun u => make_ints 131072 (by omega) u
      simp only [show (((131072 : Nat)) : Int) = 131072 from rfl] at hmk
      go_enter Tryd.func7, Tryd.ntmps7
      go_wp2_with fail
      refine hn.out.mono ?_
      rintro e w1 ⟨v, rfl, B, A, N, c, rfl, hBl, hBuf, b1⟩
      have ha : WkA w w1 B ex0 := ⟨⟨A, N, c, hBuf⟩, b1, hBl⟩
      have b2 : Below w1.heap.size w1 (w1.alloc (.cells (madeCells #[.int .i64 0] 131072) 3)) := (Below.refl _ _).alloc (Nat.le_refl _) _
      have hO := own_zeros_q (q := .i64) (T := 3) (w := w1) (B := w1.heap.size) (n := 131072) (Nat.le_refl _) (by omega)
      have ha := ha.step b2
      obtain ⟨A2, N2, c2, h2b⟩ := ha.buf
      have hk1 := Lib.hid (Add_buf (c2 := 131072) (rv := rv) (HK.out.step ha.low) h2b (Rd.of_own hO) (by decide) (by rw [ex_n.1]; decide))
      clear hn hBuf b1 hBl b2 hO h2b
      go_wp2_with fail
      refine hk1.out.mono ?_
      rintro e w3 ht
      obtain ⟨rfl, _, hs3⟩ := ht.got hms.out.1
      have ha := ha.turn ht
      clear hk1 ht hs3
      obtain ⟨A3, N3, c3, h3⟩ := ha.buf
      have hpar := addSt_par ex0 rv (List.replicate 131072 0)
      obtain rfl : N3 = 132 := by rw [h3.len, hpar.1]; rfl
      have hRc := Lib.hid (Received_buf h3)
      rw [hms.out.2.1] at hRc
      have hKn := Lib.hid (Known_buf h3)
      rw [hms.out.2.2] at hKn
      have HL := Lib.hid ha.low
      generalize (addSt ex0 rv (List.replicate 131072 0)).1 = s3 at *
      clear ha h3 hpar hms hmk
      go_wp2_with (first | (go_at_call 12; refine (hN.out _ _).mono ?_; rintro e w6 ⟨rfl, he⟩; obtain rfl := he.symm) | (go_at_call 23; refine hRc.out.mono ?_; rintro e w6 ⟨rfl, he⟩; obtain rfl := he.symm) | (go_at_call 22; refine hKn.out.mono ?_; rintro e w7 ⟨rfl, b7⟩; have b8 := HL.out.trans (b7.mono HL.out.size)) | (go_at_call 9; refine (hWk.out _ b8).mono ?_; rintro e w9 ⟨rfl, b9⟩) | fail)
      go_ret
      exact ⟨rfl, b8.trans (b9.mono b8.size)⟩
    · have hmk := fun u => make_ints 131073 (by omega) u
      simp only [show (((131073 : Nat)) : Int) = 131073 from rfl] at hmk
      go_enter Tryd.func7, Tryd.ntmps7
      go_wp2_with fail
      refine hn.out.mono ?_
      rintro e w1 ⟨v, rfl, B, A, N, c, rfl, hBl, hBuf, b1⟩
      have ha : WkA w w1 B ex0 := ⟨⟨A, N, c, hBuf⟩, b1, hBl⟩
      have b2 : Below w1.heap.size w1 (w1.alloc (.cells (madeCells #[.int .i64 0] 131073) 3)) := (Below.refl _ _).alloc (Nat.le_refl _) _
      have hO := own_zeros_q (q := .i64) (T := 3) (w := w1) (B := w1.heap.size) (n := 131073) (Nat.le_refl _) (by omega)
      have ha := ha.step b2
      obtain ⟨A2, N2, c2, h2b⟩ := ha.buf
      have hk1 := Lib.hid (Add_buf (c2 := 131073) (rv := rv) (HK.out.step ha.low) h2b (Rd.of_own hO) (by decide) (by rw [ex_n.1]; decide))
      rw [more_no] at hk1
      clear hn hBuf b1 hBl b2 hO h2b hms
      go_wp2_with fail
      refine hk1.out.mono ?_
      rintro e w3 ht
      obtain ⟨rfl, _, hs3⟩ := ht.got rfl
      have ha := ha.turn ht
      clear hk1 ht hs3
      obtain ⟨A3, N3, c3, h3⟩ := ha.buf
      have hRc := Lib.hid (Received_buf h3)
      rw [show (((ex0, (2 : Int)).1.n : Nat) : Int) = 0 from by rw [ex_n.1]; rfl] at hRc
      have HL := Lib.hid ha.low
      have b8 := ha.low
      clear ha h3 hmk
      go_wp2_with (first | (go_at_call 12; refine (hN.out _ _).mono ?_; rintro e w6 ⟨rfl, he⟩; obtain rfl := he.symm) | (go_at_call 23; refine hRc.out.mono ?_; rintro e w6 ⟨rfl, he⟩; obtain rfl := he.symm) | (go_at_call 9; refine (hWk.out _ b8).mono ?_; rintro e w9 ⟨rfl, b9⟩) | fail)
      go_ret
      exact ⟨rfl, b8.trans (b9.mono b8.size)⟩
  · have hv := Bool.eq_false_iff.2 hv
    by_cases h1 : rv < 0
    · clear hv hz
      go_enter Tryd.func7, Tryd.ntmps7
      go_wp2_with (first | (go_at_call 9; refine (hWk.out _ (Below.refl _ _)).mono ?_; rintro e w9 ⟨rfl, b9⟩) | fail)
      go_ret
      exact ⟨rfl, b9⟩
    · have h2 : 3 < rv := by unfold okV at hv; simp at hv; omega
      have h1' : decide (rv < 0) = false := decide_eq_false h1
      clear hv hz h1
      go_enter Tryd.func7, Tryd.ntmps7
      go_wp2_with (first | (go_at_call 9; refine (hWk.out _ (Below.refl _ _)).mono ?_; rintro e w9 ⟨rfl, b9⟩) | fail)
      go_ret
      exact ⟨rfl, b9⟩
end Go.Proofs.YtoegamlpgenfcaaDoor
