/-
  Tail.
-/
import Derived.Test.YtjehfdnkdfmmbaaR1
import Derived.Test.YtjehfdnkdfmmbaaT2
namespace Go.Proofs.Ytjehfdnkdfmmbaa
open Go.RowKit

theorem Tail_results {W : World} {tmps : Array Value} {B B' : Nat} {a b c a' b' c' : Value} {k : Int} {t t' : TypeId} (h2 : tmps.getD 2 undef = .pointer (some ⟨B, 0, none⟩)) (h3 : tmps.getD 3 undef = .pointer (some ⟨B', 0, none⟩)) (h4 : tmps.getD 4 undef = .int .i64 k) (hL : Three W B t a b c) (hL' : Three W B' t' a' b' c') :
    (results Try.f11 tmps).run Try.prog W = .ok (.tuple #[.agg #[a, b, c], .agg #[a', b', c'], .int .i64 k]) W := by
  have c0 := hL.cell0
  have c1 := hL.cell1
  have c2 := hL.cell2
  have d0 := hL'.cell0
  have d1 := hL'.cell1
  have d2 := hL'.cell2
  simp only [Array.getD_eq_getD_getElem?] at h2 h3 h4
  simp [results, Try.results11, go_sem, h2, h3, h4, c0, c1, c2, d0, d1, d2]
theorem Enc.cells {w : World} {B s : Nat} (h : Enc w B s) : w.cell? ⟨B, 0, none⟩ = some (.int .i64 ((s / 4 : Nat) : Int)) ∧ w.cell? ⟨B, 1, none⟩ = some (.int .i64 ((s / 2 % 2 : Nat) : Int)) ∧ w.cell? ⟨B, 2, none⟩ = some (.int .i64 ((s % 2 : Nat) : Int)) := by
  obtain ⟨t, h⟩ := h
  exact ⟨h.cell0, h.cell1, h.cell2⟩
theorem Enc.other {w : World} {B s : Nat} (h : Enc w B s) {p : Addr} (hp : p.block ≠ B) (u : Value) : Enc (w.setCell p u) B s := by obtain ⟨t, h⟩ := h; exact ⟨t, h.other hp u⟩
set_option maxHeartbeats 4000000 in
theorem Tail_ok {s : Nat} {w : World} (hs : s < 8) :
    Calls Try.prog 11 #[.int .i64 (s : Int)] w fun e w' => e = .returned (.tuple #[.agg (b3 (tailU s)), .agg (b3 (tailZ s)), .int .i64 0]) ∧ Below w.heap.size w w' := by
  have hb1 := Lib.hid (fun (v : World) => below_any (v := (s : Int)) (e := 8) (w := v))
  rw [show (decide (0 ≤ (s : Int)) && decide ((s : Int) < 8)) = true by simp; omega] at hb1
  have hst := Lib.hid (fun (v : World) => start_any (w := v) hs)
  have hR := Lib.hid (fun (v : World) (B k : Nat) (h : Enc v B (tsN s k)) => step_any h (tsN_lt hs k) (tailIn_lt (tsN s k)))
  have hF := Lib.hid (fun (v : World) (k : Nat) => feedback_any (w := v) (tsN_lt hs k))
  have hS := Lib.hid (fun k => tsN_lt hs k)
  have hEn : Hid (∀ (v : World) (B : Nat) t, Three v B t (.int .i64 ((s / 4 : Nat) : Int)) (.int .i64 ((s / 2 % 2 : Nat) : Int)) (.int .i64 ((s % 2 : Nat) : Int)) → Enc v B (tsN s 0)) := Lib.hid (fun v B t h => ⟨t, h⟩)
  unfold encV encA at hst hF
  rw [tailU_eq, tailZ_eq, b3_eq, b3_eq]
  have d0 := (Arr3.new w (tuN s)).alloc (.cells #[.int .u8 0, .int .u8 0, .int .u8 0] 25)
  have d1 := Arr3.new (w.alloc (.cells #[.int .u8 0, .int .u8 0, .int .u8 0] 25)) (tzN s)
  have hz2 : ((w.alloc (.cells #[.int .u8 0, .int .u8 0, .int .u8 0] 25)).alloc (.cells #[.int .u8 0, .int .u8 0, .int .u8 0] 25)).heap.size = w.heap.size + 1 + 1 := by simp
  have hB2 : Below w.heap.size w ((w.alloc (.cells #[.int .u8 0, .int .u8 0, .int .u8 0] 25)).alloc (.cells #[.int .u8 0, .int .u8 0, .int .u8 0] 25)) := below_two _ _
  rw [World.size_alloc] at d1
  have e0 := d0.alloc (.cells #[.int .i64 0, .int .i64 0, .int .i64 0] 66)
  have e1 := d1.alloc (.cells #[.int .i64 0, .int .i64 0, .int .i64 0] 66)
  have e2 := Three.new ((w.alloc (.cells #[.int .u8 0, .int .u8 0, .int .u8 0] 25)).alloc (.cells #[.int .u8 0, .int .u8 0, .int .u8 0] 25)) 66 (.int .i64 0) (.int .i64 0) (.int .i64 0)
  have hB3 := hB2.alloc hB2.size (.cells #[.int .i64 0, .int .i64 0, .int .i64 0] 66)
  rw [hz2] at e2
  generalize hs4 : s / 4 = a at *
  generalize hs2 : s / 2 % 2 = b at *
  generalize hs1 : s % 2 = c at *
  clear d0 d1 hz2 hB2 hs hs4 hs2 hs1
  go_enter Try.func11, Try.ntmps11
  go_wp2
  refine wp_scope_forward 0 rfl ?_
  go_wp2_with fail
  generalize ((w.alloc (.cells #[.int .u8 0, .int .u8 0, .int .u8 0] 25)).alloc (.cells #[.int .u8 0, .int .u8 0, .int .u8 0] 25)).alloc (.cells #[.int .i64 0, .int .i64 0, .int .i64 0] 66) = W0 at *
  refine (hb1.out _).mono ?_
  rintro e W0 ⟨rfl, rfl⟩
  go_wp2_with fail
  refine (hst.out _).mono ?_
  rintro e w1 ⟨rfl, hg⟩
  have H : Hid ((Arr3 w1 w.heap.size (tuN s) 0 ∧ Arr3 w1 (w.heap.size + 1) (tzN s) 0) ∧ Below w.heap.size w w1) := Lib.hid ⟨⟨e0.block (hg.block _ e0.lt (fun e => by cases e)), e1.block (hg.block _ e1.lt (fun e => by cases e))⟩, hB3.grown hg hB3.size (fun g e => by cases e)⟩
  have hT1 := e2.grown hg (fun e => by cases e)
  have c0 := hT1.cell0
  have c1 := hT1.cell1
  have c2 := hT1.cell2
  have f0 := hT1.frozen 0
  have f1 := hT1.frozen 1
  have f2 := hT1.frozen 2
  have hE1 := Lib.hid (hEn.out _ _ _ (hT1.put (.int .i64 (a : Int)) (.int .i64 (b : Int)) (.int .i64 (c : Int))))
  have H1 := Lib.hid (fun (x y z : Value) => And.intro (And.intro (((H.out.1.1.other (p := ⟨w.heap.size + 1 + 1, 0, none⟩) (by dsimp only; omega) x).other (p := ⟨w.heap.size + 1 + 1, 1, none⟩) (by dsimp only; omega) y).other (p := ⟨w.heap.size + 1 + 1, 2, none⟩) (by dsimp only; omega) z)
    (((H.out.1.2.other (p := ⟨w.heap.size + 1 + 1, 0, none⟩) (by dsimp only; omega) x).other (p := ⟨w.heap.size + 1 + 1, 1, none⟩) (by dsimp only; omega) y).other (p := ⟨w.heap.size + 1 + 1, 2, none⟩) (by dsimp only; omega) z))
    (((H.out.2.setCell (p := ⟨w.heap.size + 1 + 1, 0, none⟩) (by dsimp only; omega) x).setCell (p := ⟨w.heap.size + 1 + 1, 1, none⟩) (by dsimp only; omega) y).setCell (p := ⟨w.heap.size + 1 + 1, 2, none⟩) (by dsimp only; omega) z))
  have H2 := Lib.hid (H1.out (.int .i64 (a : Int)) (.int .i64 (b : Int)) (.int .i64 (c : Int)))
  clear e0 e1 e2 hB3 hT1 hg H H1 hb1 hst hEn
  go_wp2_with fail
  generalize ((w1.setCell ⟨w.heap.size + 1 + 1, 0, none⟩ (.int .i64 (a : Int))).setCell ⟨w.heap.size + 1 + 1, 1, none⟩ (.int .i64 (b : Int))).setCell ⟨w.heap.size + 1 + 1, 2, none⟩ (.int .i64 (c : Int)) = w2 at *
  clear c0 c1 c2 f0 f1 f2
  go_loopw [13] (fun i wr => ∃ k : Nat, k ≤ 3 ∧ i = .int .i64 (k : Int) ∧ Hid ((Arr3 wr w.heap.size (tuN s) k ∧ Arr3 wr (w.heap.size + 1) (tzN s) k) ∧ Below w.heap.size w wr) ∧ Hid (Enc wr (w.heap.size + 1 + 1) (tsN s k))) (fun i _ => 3 - (intOf i).toNat)
  case atStart => exact ⟨0, by decide, rfl, H2, hE1⟩
  case round =>
    obtain ⟨k, hk, rfl, hH, hE⟩ := hrel
    clear H2 hE1
    have l8 := hS.out k
    by_cases hlt : k < 3
    · obtain ⟨k0, k1, k2⟩ := hE.out.cells
      have h1 := Lib.hid (hF.out wr k)
      have h2 := Lib.hid (fun v => hR.out v (w.heap.size + 1 + 1) k)
      have hu2 := tailIn_lt (tsN s k)
      have hp2 := (step_lt _ l8 _ hu2).2
      have hN : Hid (nextS (tsN s k) (tailIn (tsN s k)) = tsN s (k + 1)) := Lib.hid rfl
      rw [hN.out] at h2
      have hA := Lib.hid (fun (v : World) (h : (Arr3 v w.heap.size (tuN s) k ∧ Arr3 v (w.heap.size + 1) (tzN s) k) ∧ Below w.heap.size w v) => And.intro (And.intro (((h.1.1.set hlt).other (p := ⟨w.heap.size + 1, k, none⟩) (by dsimp only; omega) (.int .u8 (tzN s k : Nat)))) ((h.1.2.other (p := ⟨w.heap.size, k, none⟩) (by dsimp only; omega) (.int .u8 (tuN s k : Nat))).set hlt))
        ((h.2.setCell (p := ⟨w.heap.size, k, none⟩) (by dsimp only; omega) (.int .u8 (tuN s k : Nat))).setCell (p := ⟨w.heap.size + 1, k, none⟩) (by dsimp only; omega) (.int .u8 (tzN s k : Nat))))
      have hAc := Lib.hid (fun (v : World) (h : (Arr3 v w.heap.size (tuN s) k ∧ Arr3 v (w.heap.size + 1) (tzN s) k) ∧ Below w.heap.size w v) => And.intro (And.intro (h.1.1.cell hlt) (h.1.2.cell hlt)) (And.intro (h.1.1.frozen k) (h.1.2.frozen k)))
      unfold tuN tzN at hA
      have hUU : Hid ((fun j => tailIn (tsN s j)) = tuN s) := Lib.hid rfl
      have hZZ : Hid ((fun j => parS7 (tsN s j) (tailIn (tsN s j))) = tzN s) := Lib.hid rfl
      rw [hUU.out, hZZ.out] at hA
      generalize parS7 (tsN s k) (tailIn (tsN s k)) = p at *
      generalize tailIn (tsN s k) = u at *
      generalize hq : tsN s (k + 1) = q at *
      have HQ := Lib.hid hq
      have hE' := hE.out
      generalize tsN s k = o at *
      have HE := Lib.hid hE'
      have hk3 : (k : Int) < 3 := by omega
      have wu : IntKind.u8.wrap (u : Int) = (u : Int) := by rw [IntWalk.u8_in _ (by omega)]
      have wp : IntKind.u8.wrap (p : Int) = (p : Int) := by rw [IntWalk.u8_in _ (by omega)]
      generalize o / 4 = oa at *
      generalize o / 2 % 2 = ob at *
      generalize o % 2 = oc at *
      clear hq hS hR hF hE hE' hUU hZZ hN
      go_wp2_with fail
      refine h1.out.mono ?_
      rintro e w3 ⟨rfl, hg⟩
      have H3 : Hid ((Arr3 w3 w.heap.size (tuN s) k ∧ Arr3 w3 (w.heap.size + 1) (tzN s) k) ∧ Below w.heap.size w w3) := Lib.hid ⟨⟨hH.out.1.1.block (hg.block _ hH.out.1.1.lt (fun e => by cases e)), hH.out.1.2.block (hg.block _ hH.out.1.2.lt (fun e => by cases e))⟩, hH.out.2.grown hg hH.out.2.size (fun g e => by cases e)⟩
      have E3 := Lib.hid (HE.out.grown hg (fun e => by cases e))
      clear h1 hg k0 k1 k2 HE hH
      go_wp2_with fail
      have h3 := Lib.hid (h2.out w3.drew E3.out)
      clear h2
      go_region_held3 (fun _ => True) (first | trivial | go_keep) (first
        | (go_at_call 31; refine h3.out.mono ?_; rintro e w4 ⟨rfl, hE4, hg4⟩; have H4 : (Arr3 w4 w.heap.size (tuN s) k ∧ Arr3 w4 (w.heap.size + 1) (tzN s) k) ∧ Below w.heap.size w w4 := ⟨⟨H3.out.1.1.block (hg4.block _ H3.out.1.1.lt (fun e => by injection e with e; omega)), H3.out.1.2.block (hg4.block _ H3.out.1.2.lt (fun e => by injection e with e; omega))⟩, H3.out.2.drew.grown hg4 H3.out.2.size (fun g e => by injection e with e; omega)⟩; obtain ⟨⟨⟨x, hx⟩, ⟨y, hy⟩⟩, fx, fy⟩ := hAc.out _ H4; have H5 := Lib.hid (hA.out _ H4); have E5 := Lib.hid ((hE4.other (p := ⟨w.heap.size, k, none⟩) (by dsimp only; omega) (.int .u8 (u : Int))).other (p := ⟨w.heap.size + 1, k, none⟩) (by dsimp only; omega) (.int .u8 (p : Int))); clear H4 hE4 hg4))
      go_wp2_with fail
      go_roundw
      case rel => exact ⟨k + 1, by omega, by go_num, H5, by rw [HQ.out]; exact E5⟩
      case measure => simp [intOf]; omega
    · obtain rfl : k = 3 := by omega
      have A := hH.out.1.1.full
      have A' := hH.out.1.2.full
      have x0 := A.cell0
      have x1 := A.cell1
      have x2 := A.cell2
      have y0 := A'.cell0
      have y1 := A'.cell1
      have y2 := A'.cell2
      have fz := A.frozen
      have fv := A'.frozen
      have fz0 := fz 0
      have fz1 := fz 1
      have fz2 := fz 2
      have fv0 := fv 0
      have fv1 := fv 1
      have fv2 := fv 2
      have HT := Lib.hid (fun (a b c d e f : Value) => And.intro (((((A.put a b c).other (p := ⟨w.heap.size + 1, 0, none⟩) (by dsimp only; omega) d).other (p := ⟨w.heap.size + 1, 1, none⟩) (by dsimp only; omega) e).other (p := ⟨w.heap.size + 1, 2, none⟩) (by dsimp only; omega) f))
        (And.intro (((((A'.other (p := ⟨w.heap.size, 0, none⟩) (by dsimp only; omega) a).other (p := ⟨w.heap.size, 1, none⟩) (by dsimp only; omega) b).other (p := ⟨w.heap.size, 2, none⟩) (by dsimp only; omega) c)).put d e f)
        ((((((hH.out.2.setCell (p := ⟨w.heap.size, 0, none⟩) (by dsimp only; omega) a).setCell (p := ⟨w.heap.size, 1, none⟩) (by dsimp only; omega) b).setCell (p := ⟨w.heap.size, 2, none⟩) (by dsimp only; omega) c).setCell (p := ⟨w.heap.size + 1, 0, none⟩) (by dsimp only; omega) d).setCell (p := ⟨w.heap.size + 1, 1, none⟩) (by dsimp only; omega) e).setCell (p := ⟨w.heap.size + 1, 2, none⟩) (by dsimp only; omega) f)))
      clear fz fv hH A A' hE hR hF hS
      generalize ha0 : tuN s 0 = a0 at *
      have Ha0 := Lib.hid ha0
      clear ha0
      generalize hb0 : tuN s 1 = b0 at *
      have Hb0 := Lib.hid hb0
      clear hb0
      generalize hc0 : tuN s 2 = c0 at *
      have Hc0 := Lib.hid hc0
      clear hc0
      generalize hd0 : tzN s 0 = d0 at *
      have Hd0 := Lib.hid hd0
      clear hd0
      generalize he0 : tzN s 1 = e0 at *
      have He0 := Lib.hid he0
      clear he0
      generalize hf0 : tzN s 2 = f0 at *
      have Hf0 := Lib.hid hf0
      clear hf0
      go_wp2_with fail
      go_region
      have HT2 := HT.out (.int .u8 (a0 : Int)) (.int .u8 (b0 : Int)) (.int .u8 (c0 : Int)) (.int .u8 (d0 : Int)) (.int .u8 (e0 : Int)) (.int .u8 (f0 : Int))
      clear HT
      go_wp2_with fail
      refine jump_ret ?_
      refine bodyPost_ret (Tail_results rfl rfl rfl HT2.1.drew HT2.2.1.drew) rfl ⟨by rw [Ha0.out, Hb0.out, Hc0.out, Hd0.out, He0.out, Hf0.out], HT2.2.2.drew⟩
/-- What Tail hands back. -/
def tailA (st : Int) : Array Value := if decide (0 ≤ st) && decide (st < 8) then b3 (tailU st.toNat) else b3 [0, 0, 0]
def tailB (st : Int) : Array Value := if decide (0 ≤ st) && decide (st < 8) then b3 (tailZ st.toNat) else b3 [0, 0, 0]
def tailE (st : Int) : Int := if decide (0 ≤ st) && decide (st < 8) then 0 else 2
set_option maxHeartbeats 1000000 in
theorem Tail_no {st : Int} {w : World} (h : (decide (0 ≤ st) && decide (st < 8)) = false) :
    Calls Try.prog 11 #[.int .i64 st] w fun e w' => e = .returned (.tuple #[.agg (b3 [0, 0, 0]), .agg (b3 [0, 0, 0]), .int .i64 2]) ∧ Below w.heap.size w w' := by
  have hb1 := Lib.hid (fun (v : World) => below_any (v := st) (e := 8) (w := v))
  rw [h] at hb1
  rw [b3_eq]
  have e0 := ((Three.new w 25 (.int .u8 0) (.int .u8 0) (.int .u8 0)).alloc (.cells #[.int .u8 0, .int .u8 0, .int .u8 0] 25)).alloc (.cells #[.int .i64 0, .int .i64 0, .int .i64 0] 66)
  have e1 := (Three.new (w.alloc (.cells #[.int .u8 0, .int .u8 0, .int .u8 0] 25)) 25 (.int .u8 0) (.int .u8 0) (.int .u8 0)).alloc (.cells #[.int .i64 0, .int .i64 0, .int .i64 0] 66)
  rw [World.size_alloc] at e1
  have hB3 := ((below_two (w := w) (.cells #[.int .u8 0, .int .u8 0, .int .u8 0] 25) (.cells #[.int .u8 0, .int .u8 0, .int .u8 0] 25))).alloc (by simp; omega) (.cells #[.int .i64 0, .int .i64 0, .int .i64 0] 66)
  clear h
  go_enter Try.func11, Try.ntmps11
  go_wp2
  refine wp_scope_forward 0 rfl ?_
  go_wp2_with fail
  generalize ((w.alloc (.cells #[.int .u8 0, .int .u8 0, .int .u8 0] 25)).alloc (.cells #[.int .u8 0, .int .u8 0, .int .u8 0] 25)).alloc (.cells #[.int .i64 0, .int .i64 0, .int .i64 0] 66) = W0 at *
  refine (hb1.out _).mono ?_
  rintro e W0 ⟨rfl, rfl⟩
  have x0 := e0.cell0
  have x1 := e0.cell1
  have x2 := e0.cell2
  have y0 := e1.cell0
  have y1 := e1.cell1
  have y2 := e1.cell2
  have fz0 := e0.frozen 0
  have fz1 := e0.frozen 1
  have fz2 := e0.frozen 2
  have fv0 := e1.frozen 0
  have fv1 := e1.frozen 1
  have fv2 := e1.frozen 2
  have HT := Lib.hid (fun (a b c d e f : Value) => And.intro (((((e0.put a b c).other (p := ⟨w.heap.size + 1, 0, none⟩) (by dsimp only; omega) d).other (p := ⟨w.heap.size + 1, 1, none⟩) (by dsimp only; omega) e).other (p := ⟨w.heap.size + 1, 2, none⟩) (by dsimp only; omega) f))
    (And.intro (((((e1.other (p := ⟨w.heap.size, 0, none⟩) (by dsimp only; omega) a).other (p := ⟨w.heap.size, 1, none⟩) (by dsimp only; omega) b).other (p := ⟨w.heap.size, 2, none⟩) (by dsimp only; omega) c)).put d e f)
    ((((((hB3.setCell (p := ⟨w.heap.size, 0, none⟩) (by dsimp only; omega) a).setCell (p := ⟨w.heap.size, 1, none⟩) (by dsimp only; omega) b).setCell (p := ⟨w.heap.size, 2, none⟩) (by dsimp only; omega) c).setCell (p := ⟨w.heap.size + 1, 0, none⟩) (by dsimp only; omega) d).setCell (p := ⟨w.heap.size + 1, 1, none⟩) (by dsimp only; omega) e).setCell (p := ⟨w.heap.size + 1, 2, none⟩) (by dsimp only; omega) f)))
  clear e0 e1 hB3 hb1
  go_wp2_with fail
  go_step3
  refine ⟨rfl, ?_⟩
  go_wp2_with fail
  go_region
  have HT2 := HT.out (.int .u8 0) (.int .u8 0) (.int .u8 0) (.int .u8 0) (.int .u8 0) (.int .u8 0)
  clear HT
  go_wp2_with fail
  rw [Exit.noGoto_ret]
  refine bodyPost_ret (Tail_results rfl rfl rfl HT2.1.drew HT2.2.1.drew) rfl ⟨rfl, HT2.2.2.drew⟩
theorem Tail_any {st : Int} {w : World} : Calls Try.prog 11 #[.int .i64 st] w fun e w' => e = .returned (.tuple #[.agg (tailA st), .agg (tailB st), .int .i64 (tailE st)]) ∧ Below w.heap.size w w' := by
  unfold tailA tailB tailE
  by_cases h : (decide (0 ≤ st) && decide (st < 8)) = true
  · rw [if_pos h, if_pos h, if_pos h]
    simp at h
    obtain ⟨s, rfl⟩ := Int.eq_ofNat_of_zero_le h.1
    exact Tail_ok (by omega)
  · have h := Bool.eq_false_iff.2 h
    rw [h]
    exact Tail_no h
end Go.Proofs.Ytjehfdnkdfmmbaa
