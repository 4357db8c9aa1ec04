/-
  The chapter's examples, as states. The law's works: the chapter's examples.
-/
import Derived.Test.YtoegamlpgenfcaaDoorDf
import Derived.Test.YtoegamlpgenfcaaDoorLv
namespace Go.Proofs.YtoegamlpgenfcaaDoor
/-! ### The chapter's examples, as states. -/
section
def ex0 : St := newSt 40 0 1000
def exb : St := newSt 40 4 1000
def exL : List Int := List.replicate 5 100
def ex1 : St := (addSt ex0 0 exL).1
def ex2 : St := (addSt ex1 0 exL).1
def topN (V : List Int) (j : Nat) : Int := (V.take j).foldl max 0
theorem topN_succ {V : List Int} {j : Nat} (h : j < V.length) : topN V (j + 1) = max (topN V j) (V[j]?.getD 0) := by
  unfold topN
  rw [List.take_succ_eq_append_getElem h, List.foldl_append, List.getElem?_eq_getElem h]
  rfl
set_option maxRecDepth 100000 in
theorem ex_bad1 : okB 39 0 1000 = false := by decide
theorem ex_bad2 : okB 40 40 1000 = false := by decide
set_option maxRecDepth 100000 in
theorem ex_kno0 : knoN ex0.V 132 = 0 := by decide +kernel
set_option maxRecDepth 100000 in
theorem ex_knob : knoN exb.V 132 = 8 := by decide +kernel
set_option maxRecDepth 100000 in
theorem ex_b3 : exb.V[3]?.getD 0 = 127 ∧ exb.V[4]?.getD 0 = 0 := by decide +kernel
set_option maxRecDepth 100000 in
theorem ex_add1 : (addSt ex0 0 exL).2 = 0 ∧ knoN ex1.V 132 = 5 := by decide +kernel
set_option maxRecDepth 100000 in
theorem ex_add2 : (addSt ex1 0 exL).2 = 0 ∧ ex2.n = 10 ∧ topN ex2.V 132 = 127 := by decide +kernel
set_option maxRecDepth 100000 in
theorem ex_add3 : (addSt ex2 4 [1]).2 = 2 ∧ (addSt ex2 4 [1]).1.V = ex2.V ∧ (addSt ex2 4 [1]).1.n = 10 := by decide +kernel
end

/-! ### The law's works: the chapter's examples. -/
section
open Go.RowKit Go.Shelf

theorem TurnB.got {w w' : World} {B : Nat} {r : St × Int} {e : Ending} {k : Int} (h : TurnB w B r e w') (hk : r.2 = k) : e = .returned (.int .i64 k) ∧ (∃ A N c, BufAt w' B r.1 A N c) ∧ Save (fun k => k = B) w w' := by
  obtain ⟨A, N, c, h1, h2, h3⟩ := h
  subst hk
  exact ⟨h1, ⟨A, N, c, h2⟩, h3⟩
/-- Where the examples are: the buffer a in the state s. -/
structure WkA (w W : World) (B : Nat) (s : St) : Prop where
  buf : ∃ A N c, BufAt W B s A N c
  low : Below w.heap.size w W
  at' : w.heap.size ≤ B
theorem WkA.step {w W W' : World} {B : Nat} {s : St} (h : WkA w W B s) (hb : Below W.heap.size W W') : WkA w W' B s := by
  obtain ⟨A, N, c, hbuf⟩ := h.buf
  exact ⟨⟨A, N, c, hbuf.below hb⟩, h.low.trans (hb.mono h.low.size), h.at'⟩
theorem WkA.turn {w W W' : World} {B : Nat} {s : St} {r : St × Int} {e : Ending} (h : WkA w W B s) (ht : TurnB W B r e W') : WkA w W' B r.1 := by
  obtain ⟨A, N, c, h1, h2, h3⟩ := ht
  exact ⟨⟨A, N, c, h2⟩, h.low.trans (h3.below (fun k hk => by subst hk; exact h.at') h.low.size), h.at'⟩
theorem Rd.turn {w w' : World} {B0 B g n : Nat} {xs : List Int} (h : Rd .i64 w B0 (some ⟨g, 0, none⟩) n xs) (hs : Save (fun k => k = B) w w') (hB : B0 ≤ w.heap.size) (hne : g ≠ B) : Rd .i64 w' B0 (some ⟨g, 0, none⟩) n xs :=
  h.save hs hB (fun a ha e => by
    injection ha with ha
    subst ha
    exact hne e)
theorem lit1 {w : World} (a : Int) (t : TypeId) : Rd .i64 (w.alloc (.cells #[.int .i64 a] t)) (w.alloc (.cells #[.int .i64 a] t)).heap.size (some ⟨w.heap.size, 0, none⟩) 1 [a] := by
  refine ⟨rfl, fun k hk => ⟨w.heap.size, 0, rfl, by simp, ?_⟩⟩
  have h1 : (w.alloc (.cells #[.int .i64 a] t)).heap[w.heap.size]? = some (.cells #[.int .i64 a] t) := World.alloc_heap_new w _
  simp only [World.cell?, h1, Nat.zero_add]
  obtain rfl : k = 0 := by omega
  rfl
set_option maxRecDepth 100000 in
theorem ex_n : ex0.n = 0 ∧ ex1.n ≤ 100 ∧ ex2.n ≤ 100 := by decide +kernel
set_option maxRecDepth 100000 in
set_option maxHeartbeats 8000000 in
theorem works_any {w : World} (hK : Kinds w) : Calls Tryd.prog 9 #[] w fun e w' => e = .returned (.bool true) ∧ Below w.heap.size w w' := by
  have hz := hK.col.lt
  have n1 := Lib.hid (New_no (w := w) ex_bad1)
  have n2 := Lib.hid (fun (u : World) => New_no (w := u) ex_bad2)
  have n3 := Lib.hid (fun (u : World) (hb : Below w.heap.size w u) => New_ok (k := 40) (f := 0) (l := 1000) (w := u) (Nat.lt_of_lt_of_le hz hb.size) (by decide) (by decide) (by decide) (by decide))
  have n4 := Lib.hid (fun (u : World) (hb : Below w.heap.size w u) => New_ok (k := 40) (f := 4) (l := 1000) (w := u) (Nat.lt_of_lt_of_le hz hb.size) (by decide) (by decide) (by decide) (by decide))
  have hN := Lib.hid (fun (e : Int) (u : World) => num12_any (e := e) (w := u))
  have HK := Lib.hid hK
  clear hK hz
  go_enter Tryd.func9, Tryd.ntmps9
  go_wp2_with fail
  refine n1.out.mono ?_
  rintro e w1 ⟨rfl, b1⟩
  clear n1
  go_wp2_with fail
  refine (n2.out _).mono ?_
  rintro e w2 ⟨rfl, b2⟩
  have b2 := b1.trans (b2.mono b1.size)
  clear n2 b1
  go_wp2_with fail
  refine (n3.out _ b2).mono ?_
  rintro e w3 ⟨v3, rfl, B, A, N, c, rfl, hBl, hBuf, b3⟩
  have ha : WkA w w3 B ex0 := ⟨⟨A, N, c, hBuf⟩, b2.trans (b3.mono b2.size), Nat.le_trans b2.size hBl⟩
  clear n3 b2 b3 hBuf hBl
  go_wp2_with fail
  refine (n4.out _ ha.low).mono ?_
  rintro e w4 ⟨v4, rfl, B4, A4, N4, c4, rfl, hBl4, hBuf4, b4⟩
  have hbp : WkA w w4 B4 exb := ⟨⟨A4, N4, c4, hBuf4⟩, ha.low.trans (b4.mono ha.low.size), Nat.le_trans ha.low.size hBl4⟩
  have ha := ha.step b4
  have HN0 := Lib.hid (fun (u : World) (N : Nat) (A : Option Addr) (c : Nat) (h : BufAt u B ex0 A N c) => show N = 132 from h.len)
  clear n4 hBl4 hBuf4 b4
  obtain ⟨Aa, Na, ca, hBa⟩ := ha.buf
  obtain rfl : Na = 132 := hBa.len
  have hk1 := Lib.hid (Known_buf hBa)
  rw [ex_kno0] at hk1
  go_wp2_with (first | (go_at_call 12; refine (hN.out _ _).mono ?_; rintro e w6 ⟨rfl, he⟩; obtain rfl := he.symm) | fail)
  refine hk1.out.mono ?_
  rintro e w5 ⟨rfl, b5⟩
  have ha := ha.step b5
  have hbp := hbp.step b5
  clear hk1 hBa b5
  obtain ⟨Ab, Nb, cb, hBb⟩ := hbp.buf
  obtain rfl : Nb = 132 := hBb.len
  have hk1 := Lib.hid (Known_buf hBb)
  rw [ex_knob] at hk1
  go_wp2_with fail
  refine hk1.out.mono ?_
  rintro e w6 ⟨rfl, b6⟩
  have ha := ha.step b6
  have hbp := hbp.step b6
  have haB := ha
  clear hk1 hBb b6
  obtain ⟨Ab, Nb, cb, hBb⟩ := hbp.buf
  obtain rfl : Nb = 132 := hBb.len
  have hk1 := Lib.hid (Values_buf hBb)
  go_wp2_with fail
  refine hk1.out.mono ?_
  rintro e w7 ⟨gv, cv, rfl, _, ov, b7⟩
  have ha := ha.step b7
  have hv := Rd.of_own ov
  have hgv : gv ≠ B := by
    have h1 := (ov.lt gv rfl).1
    obtain ⟨A0, N0, c0, h0⟩ := haB.buf
    have := h0.lt
    omega
  clear hk1 hBb b7 hbp ov haB
  -- the first transmission
  have hrp := Lib.hid (fun (u : World) => repeat_any (v := 100) (n := 5) (w := u) (by decide))
  go_wp2_with fail
  refine (hrp.out _).mono ?_
  rintro e w8 ⟨A8, c8, rfl, o8, b8⟩
  have ha := ha.step b8
  have hv := hv.below' b8 (Nat.le_refl _)
  have hv8 : w7.heap.size ≤ w8.heap.size := b8.size
  obtain ⟨Aa, Na, ca, hBa⟩ := ha.buf
  have hk1 := Lib.hid (Add_buf (c2 := c8) (rv := 0) (HK.out.step ha.low) hBa (Rd.of_own o8) (by simp) (by rw [ex_n.1]; decide))
  clear o8 b8 hBa
  go_wp2_with fail
  refine hk1.out.mono ?_
  rintro e w9 ht
  obtain ⟨rfl, _, hs9⟩ := ht.got ex_add1.1
  have ha : WkA w w9 B ex1 := ha.turn ht
  have hv := hv.turn hs9 hv8 hgv
  have hv9 := Nat.le_trans hv8 hs9.size
  clear hk1 ht hs9 hv8
  obtain ⟨Aa, Na, ca, hBa⟩ := ha.buf
  obtain rfl : Na = 132 := hBa.len
  have hk1 := Lib.hid (Known_buf hBa)
  rw [ex_add1.2] at hk1
  clear hBa
  go_wp2_with fail
  refine hk1.out.mono ?_
  rintro e w10 ⟨rfl, b10⟩
  have ha := ha.step b10
  have hv := hv.below' b10 hv9
  have hv10 := Nat.le_trans hv9 b10.size
  clear hk1 b10 hv9
  -- the second
  go_wp2_with fail
  refine (hrp.out _).mono ?_
  rintro e w11 ⟨A11, c11, rfl, o11, b11⟩
  have ha := ha.step b11
  have hv := hv.below' b11 hv10
  have hv11 := Nat.le_trans hv10 b11.size
  obtain ⟨Aa, Na, ca, hBa⟩ := ha.buf
  have hk1 := Lib.hid (Add_buf (c2 := c11) (rv := 0) (HK.out.step ha.low) hBa (Rd.of_own o11) (by simp) (by have := ex_n.2.1; omega))
  clear o11 b11 hBa hrp hv10
  go_wp2_with fail
  refine hk1.out.mono ?_
  rintro e w12 ht
  obtain ⟨rfl, _, hs12⟩ := ht.got ex_add2.1
  have ha : WkA w w12 B ex2 := ha.turn ht
  have hv := hv.turn hs12 hv11 hgv
  have hv12 := Nat.le_trans hv11 hs12.size
  clear hk1 ht hs12 hv11
  obtain ⟨Aa, Na, ca, hBa⟩ := ha.buf
  obtain rfl : Na = 132 := hBa.len
  have hlt := hBa.lt
  have hk1 := Lib.hid (Values_buf hBa)
  clear hBa
  go_wp2_with fail
  refine hk1.out.mono ?_
  rintro e w13 ⟨gw, cw, rfl, _, ow, b13⟩
  have ha := ha.step b13
  have hv := hv.below' b13 hv12
  have hv13 := Nat.le_trans hv12 b13.size
  have hw := Rd.of_own ow
  have hgw : gw ≠ B := by
    have h1 := (ow.lt gw rfl).1
    omega
  clear hk1 b13 ow hv12 hlt
  -- a redundancy version out of range
  have b14 : Below w13.heap.size w13 (w13.alloc (.cells #[.int .i64 1] 3)) := (Below.refl _ _).alloc (Nat.le_refl _) _
  have ha := ha.step b14
  have hv := hv.below' b14 hv13
  have hw := hw.below' b14 (Nat.le_refl _)
  have hv14 := Nat.le_trans hv13 b14.size
  have hw14 : w13.heap.size ≤ (w13.alloc (.cells #[.int .i64 1] 3)).heap.size := b14.size
  obtain ⟨Aa, Na, ca, hBa⟩ := ha.buf
  have hk1 := Lib.hid (Add_buf (c2 := 1) (rv := 4) (HK.out.step ha.low) hBa (lit1 1 3) (by decide) (by have := ex_n.2.2; omega))
  clear hBa b14
  go_wp2_with fail
  refine hk1.out.mono ?_
  rintro e w15 ht
  obtain ⟨rfl, _, hs15⟩ := ht.got ex_add3.1
  have ha := ha.turn ht
  have hv := hv.turn hs15 hv14 hgv
  have hw := hw.turn hs15 hw14 hgw
  clear hk1 ht hs15
  obtain ⟨bx, off, hx, _, v3⟩ := hv.cells 3 (by decide)
  injection hx with hx
  injection hx with hx1 hx2
  subst hx1 hx2
  obtain ⟨bx, off, hx, _, v4⟩ := hv.cells 4 (by decide)
  injection hx with hx
  injection hx with hx1 hx2
  subst hx1 hx2
  rw [ex_b3.1] at v3
  rw [ex_b3.2] at v4
  have hlw := Lib.hid hw.len
  have HW := Lib.hid hw
  have htop := Lib.hid ex_add2.2.2
  have h0t : topN ex2.V 0 = 0 := rfl
  obtain ⟨Aa, Na, ca, hBa⟩ := ha.buf
  have hRc := Lib.hid (Received_buf hBa)
  rw [ex_add3.2.2] at hRc
  have HL := Lib.hid ha.low
  generalize ex2.V = V at *
  clear hBa ha hv hw hv14 hw14 hgw hgv hv13
  go_wp2_with fail
  go_loopw [15, 16] (fun t i wr => ∃ (j : Nat), j ≤ 132 ∧ i = .int .i64 (j : Int) ∧ t = .int .i64 (topN V j) ∧ wr = w15) (fun _ i _ => 132 - (intOf i).toNat)
  case atStart => exact ⟨0, Nat.zero_le _, rfl, by rw [h0t], rfl⟩
  case round =>
    obtain ⟨j, hj, rfl, rfl, rfl⟩ := hrel
    by_cases hlt : j < 132
    · have hz : (j : Int) < 132 := by omega
      have hz0 : (0 : Int) ≤ (j : Int) := by omega
      obtain ⟨bx, off, hx, _, hc⟩ := HW.out.cells j hlt
      injection hx with hx
      injection hx with hx1 hx2
      subst hx1 hx2
      rw [Nat.zero_add] at hc
      have hs := topN_succ (V := V) (j := j) (by rw [hlw.out]; exact hlt)
      generalize V[j]?.getD 0 = x at *
      generalize topN V j = t at *
      obtain ⟨q, hq⟩ : ∃ q, topN V (j + 1) = q := ⟨_, rfl⟩
      rw [hq] at hs
      have hmax : (if t < x then x else t) = q := by rw [hs]; split <;> omega
      have HQ := Lib.hid hq
      clear hs hq v3 v4
      go_wp2_with fail
      go_roundw
      case rel => exact ⟨j + 1, by omega, by go_num, by rw [HQ.out], trivial⟩
      case measure => simp [intOf]; omega
    · obtain rfl : j = 132 := by omega
      rw [htop.out]
      clear hlt
      go_wp2_with (first | (go_at_call 12; refine (hN.out _ _).mono ?_; rintro e w6 ⟨rfl, he⟩; obtain rfl := he.symm) | (go_at_call 23; refine hRc.out.mono ?_; rintro e w6 ⟨rfl, he⟩; obtain rfl := he.symm) | fail)
      go_ret
      exact ⟨rfl, HL.out⟩
end
end Go.Proofs.YtoegamlpgenfcaaDoor
