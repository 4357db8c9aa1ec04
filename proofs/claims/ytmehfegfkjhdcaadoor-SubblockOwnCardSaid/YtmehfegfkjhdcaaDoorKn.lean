/-
  known.
-/
import Derived.Test.YtmehfegfkjhdcaaDoorOd
import Derived.Test.YtmehfegfkjhdcaaDoorSm
namespace Go.Proofs.YtmehfegfkjhdcaaDoor
open Go.RowKit Go.Shelf

theorem Rd.front {q : IntKind} {w : World} {B n m : Nat} {A : Option Addr} {xs : List Int} (h : Rd q w B A n xs) (hm : m ≤ n) : Rd q w B A m (xs.take m) := by
  refine ⟨by rw [List.length_take, h.len]; omega, fun k hk => ?_⟩
  obtain ⟨b, off, e, hb, hc⟩ := h.cells k (by omega)
  exact ⟨b, off, e, hb, by rw [hc, List.getElem?_take, if_pos hk]⟩
theorem RetQ.got {q : IntKind} {E : TypeId} {w w' : World} {r : List Int} {k : Int} {e : Ending} {n : Nat} (h : RetQ q E w (r, k) e w') (hn : r.length = n) :
    ∃ A c, e = .returned (.tuple #[.slice A n c, .int .i64 k]) ∧ w'.ownsRow w.heap.size E 1 (.slice A n c) n (r.map (Value.int q)) ∧ Below w.heap.size w w' := by
  obtain ⟨A, c, h1, h2, h3⟩ := h
  subst hn
  exact ⟨A, c, h1, h2, h3⟩
set_option maxRecDepth 100000 in
set_option maxHeartbeats 2000000 in
theorem begins_true {d m c : Nat} {st : Int} {A : Option Addr} {want : List Int} {w : World} (hK : Kinds w) (h1 : 1 ≤ d) (h2 : d ≤ 6148) (hs : okS st = true) (hI : Rd .i64 w w.heap.size A m want) (hm : (orderI d (shB st)).take m = want) (hml : m ≤ 32) (hm1 : 1 ≤ m) :
    Calls Tryd.prog 27 #[.int .i64 (d : Int), .int .i64 st, .slice A m c] w fun e w' => e = .returned (.bool true) ∧ Below w.heap.size w w' := by
  have hO := Order_any (d := (d : Int)) (st := st) hK
  rw [orderS_ok h1 h2 hs] at hO
  have hr := rows_le h1 h2
  have hl := orderI_length d (shB st)
  obtain ⟨S, hS⟩ : ∃ S, 32 * rowsN d = S := ⟨_, rfl⟩
  rw [hS] at hl
  have HO := Lib.hid hO
  have HL := Lib.hid hl
  have HM := Lib.hid hm
  have hmS : (m : Int) ≤ (S : Int) := by omega
  have hm0 : (1 : Int) ≤ (m : Int) := by omega
  have hSl : Hid (S ≤ 6176) := Lib.hid (by omega)
  have hI' := Lib.hid hI
  generalize orderI d (shB st) = res at *
  clear hO hl hm hr hs h1 h2 hS hI
  go_enter Tryd.func27, Tryd.ntmps27
  go_wp2_with fail
  refine HO.out.mono ?_
  rintro e w1 he
  obtain ⟨A1, c1, rfl, hown, hb⟩ := he.got HL.out
  have hSm : m ≤ S := by omega
  obtain ⟨g, cap, hv, hg, _⟩ := hown.form (by omega)
  have hc1 := own_cap' hown
  injection hv with hv1 hv2 hv3
  subst hv1
  have hR1 := Lib.hid ((Rd.of_own hown).front hSm)
  have HI1 := Lib.hid (hI'.out.step hb)
  rw [HM.out] at hR1
  have hSame := Lib.hid (fun (c' : Nat) => sameI_true (c := c') (c' := c) hR1.out HI1.out (by omega))
  have HB := Lib.hid hb
  have hcS : (S : Int) ≤ (c1 : Int) := by omega
  clear hown hb hc1 hg hv2 hv3 hSm
  go_wp2_with (go_at_call 13; refine (hSame.out _).mono ?_; rintro e w2 ⟨rfl, hb2⟩)
  go_ret
  exact ⟨rfl, HB.out.trans (hb2.mono HB.out.size)⟩
theorem lit4 {w : World} (a b c d : Int) (t : TypeId) : Rd .i64 (w.alloc (.cells #[.int .i64 a, .int .i64 b, .int .i64 c, .int .i64 d] t)) (w.alloc (.cells #[.int .i64 a, .int .i64 b, .int .i64 c, .int .i64 d] t)).heap.size (some ⟨w.heap.size, 0, none⟩) 4 [a, b, c, d] := by
  refine ⟨rfl, fun k hk => ⟨w.heap.size, 0, rfl, by simp, ?_⟩⟩
  have h1 : (w.alloc (.cells #[.int .i64 a, .int .i64 b, .int .i64 c, .int .i64 d] t)).heap[w.heap.size]? = some (.cells #[.int .i64 a, .int .i64 b, .int .i64 c, .int .i64 d] t) := World.alloc_heap_new w _
  simp only [World.cell?, h1, Nat.zero_add]
  obtain rfl | rfl | rfl | rfl : k = 0 ∨ k = 1 ∨ k = 2 ∨ k = 3 := by omega
  all_goals rfl
set_option maxRecDepth 100000 in
set_option maxHeartbeats 4000000 in
theorem known_any {w : World} (hK : Kinds w) : Calls Tryd.prog 14 #[] w fun e w' => e = .returned (.bool true) ∧ Below w.heap.size w w' := by
  have hO := Order_any (d := 32) (st := 2) hK
  rw [show (32 : Int) = ((32 : Nat) : Int) from rfl, orderS_ok (by decide) (by decide) (by decide), show shB 2 = true from rfl] at hO
  have hl : (orderI 32 true).length = 32 := by rw [orderI_length]; rfl
  have hlast : (orderI 32 true)[31]?.getD 0 = 0 := by decide +kernel
  have hC := Lib.hid (fun (k : Int) (u : World) (h : Below w.heap.size w u) => Column_any (k := k) (hK.step h))
  have hRo := Lib.hid (fun (d : Int) (u : World) => Rows_any (d := d) (w := u))
  have hBg := Lib.hid (fun (d m c : Nat) (st : Int) (A : Option Addr) (want : List Int) (u : World) (h : Below w.heap.size w u) h1 h2 hs hI hm hml hm1 => begins_true (d := d) (m := m) (c := c) (st := st) (A := A) (want := want) (hK.step h) h1 h2 hs hI hm hml hm1)
  have b1 : (orderI 32 (shB 0)).take 4 = [0, 16, 8, 24] := by decide +kernel
  have b2 : (orderI 32 (shB 2)).take 4 = [1, 17, 9, 25] := by decide +kernel
  have b3 : (orderI 33 (shB 1)).take 4 = [-1, 1, -1, 17] := by decide +kernel
  have HO := Lib.hid hO
  have HL := Lib.hid hl
  have HLA := Lib.hid hlast
  have B1 := Lib.hid b1
  have B2 := Lib.hid b2
  have B3 := Lib.hid b3
  generalize orderI 32 true = res at *
  clear hO hl hlast b1 b2 b3
  go_enter Tryd.func14, Tryd.ntmps14
  go_wp2_with fail
  refine HO.out.mono ?_
  rintro e w1 he
  obtain ⟨A1, c1, rfl, hown, hb⟩ := he.got HL.out
  obtain ⟨g, cap, hv, hg, _⟩ := hown.form (by decide)
  injection hv with hv1 hv2 hv3
  subst hv1
  have hR1 := Lib.hid (Rd.of_own hown)
  have HB := Lib.hid hb
  clear hown hb hg hv2 hv3 he HO
  go_wp2_with fail
  refine (hC.out 1 _ HB.out).mono ?_
  rintro e w1 ⟨rfl, rfl⟩
  rw [show colI 1 = 16 from rfl]
  go_wp2_with fail
  refine (hC.out 30 _ HB.out).mono ?_
  rintro e w1 ⟨rfl, rfl⟩
  rw [show colI 30 = 15 from rfl]
  go_wp2_with fail
  refine (hC.out 32 _ HB.out).mono ?_
  rintro e w1 ⟨rfl, rfl⟩
  rw [show colI 32 = -1 from rfl]
  go_wp2_with fail
  refine (hRo.out 44 _).mono ?_
  rintro e w1 ⟨rfl, rfl⟩
  rw [show rowsI 44 = 2 from rfl]
  go_wp2_with fail
  refine (hRo.out 32 _).mono ?_
  rintro e w1 ⟨rfl, rfl⟩
  rw [show rowsI 32 = 1 from rfl]
  go_wp2_with fail
  refine (hRo.out 0 _).mono ?_
  rintro e w1 ⟨rfl, rfl⟩
  rw [show rowsI 0 = 0 from rfl]
  have HB2 := Lib.hid (HB.out.alloc HB.out.size (.cells #[.int .i64 0, .int .i64 16, .int .i64 8, .int .i64 24] 3))
  have hR2 := Lib.hid (hR1.out.step ((Below.refl _ w1).alloc (Nat.le_refl _) (.cells #[.int .i64 0, .int .i64 16, .int .i64 8, .int .i64 24] 3)))
  clear hR1 HB
  go_wp2_with fail
  refine (hBg.out 32 4 4 0 _ _ _ HB2.out (by decide) (by decide) (by decide) (lit4 0 16 8 24 3) B1.out (by decide) (by decide)).mono ?_
  rintro e w2 ⟨rfl, hb2⟩
  have HB3 := Lib.hid (HB2.out.trans (hb2.mono HB2.out.size))
  have hR3 := Lib.hid (hR2.out.step hb2)
  clear hR2 HB2 hb2
  have HB4 := Lib.hid (HB3.out.alloc HB3.out.size (.cells #[.int .i64 1, .int .i64 17, .int .i64 9, .int .i64 25] 3))
  have hR4 := Lib.hid (hR3.out.step ((Below.refl _ w2).alloc (Nat.le_refl _) (.cells #[.int .i64 1, .int .i64 17, .int .i64 9, .int .i64 25] 3)))
  clear hR3 HB3
  go_wp2_with fail
  refine (hBg.out 32 4 4 2 _ _ _ HB4.out (by decide) (by decide) (by decide) (lit4 1 17 9 25 3) B2.out (by decide) (by decide)).mono ?_
  rintro e w3 ⟨rfl, hb3⟩
  have HB5 := Lib.hid (HB4.out.trans (hb3.mono HB4.out.size))
  have hR5 := hR4.out.step hb3
  obtain ⟨b, off, hA, _, hc31⟩ := hR5.cells 31 (by decide)
  rw [HLA.out] at hc31
  injection hA with hA
  injection hA with hA1 hA2
  subst hA1 hA2
  clear hR4 HB4 hb3 hR5
  have HB6 := Lib.hid (HB5.out.alloc HB5.out.size (.cells #[.int .i64 (-1), .int .i64 1, .int .i64 (-1), .int .i64 17] 3))
  clear HB5
  go_wp2_with fail
  refine (hBg.out 33 4 4 1 _ _ _ HB6.out (by decide) (by decide) (by decide) (lit4 (-1) 1 (-1) 17 3) B3.out (by decide) (by decide)).mono ?_
  rintro e w4 ⟨rfl, hb4⟩
  have HB7 := Lib.hid (HB6.out.trans (hb4.mono HB6.out.size))
  clear HB6 hb4
  go_wp2_with fail
  go_ret
  exact ⟨rfl, HB7.out⟩
end Go.Proofs.YtmehfegfkjhdcaaDoor
