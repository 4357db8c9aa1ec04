/-
  The law's num, same, low; the reference's Step, Valid, Tail.
-/
import Derived.Test.YtjehfdnkdfmmbaaT1
import Derived.RegionTactic
import Derived.BigRegion
namespace Go.Proofs.Ytjehfdnkdfmmbaa
open Go.RowKit

theorem num_any {k : Int} {w : World} : Calls Try.prog 15 #[.int .i64 k] w fun e w' => e = .returned (.int .i64 k) ∧ w' = w := by
  go_enter Try.func15, Try.ntmps15
  go_wp2_with fail
  go_ret
  exact ⟨rfl, rfl⟩
theorem same_any {A A' : Option Addr} {n c n' c' B B' : Nat} {xs ys : List Int} {w : World} (h : Rd .u8 w B A n xs) (h' : Rd .u8 w B' A' n' ys) (hx : Byte xs) (hy : Byte ys) :
    Calls Try.prog 21 #[.slice A n c, .slice A' n' c'] w fun e w' => e = .returned (.bool (decide (xs = ys))) ∧ w' = w := by
  have c1 := h.convert (P := Try.prog) Try.underlying36 Try.underlying5 c
  have c2 := h'.convert (P := Try.prog) Try.underlying36 Try.underlying5 c'
  have k1 := c1 9 Try.underlying9
  have k2 := c2 9 Try.underlying9
  clear c1 c2
  go_enter Try.func21, Try.ntmps21
  go_wp2
  go_ret
  refine ⟨ret_bool ?_, rfl⟩
  rw [ByteArray.toList_eq, ByteArray.toList_eq]
  by_cases e : xs = ys
  · subst e; simp
  · rw [decide_eq_false e, beq_eq_false_iff_ne]
    intro h3
    refine e (strOfNums_inj hx hy ?_)
    show ByteArray.mk _ = ByteArray.mk _
    exact congrArg ByteArray.mk (Array.toList_inj.1 h3)
theorem valid_any {v : Int} {w : World} : Calls Try.prog 12 #[.int .i64 v] w fun r w' => r = .returned (.bool (decide (0 ≤ v) && decide (v < 8))) ∧ w' = w := by
  by_cases h : 0 ≤ v
  · have h0 : decide (0 ≤ v) = true := decide_eq_true h
    rw [h0, Bool.true_and]
    go_enter Try.func12, Try.ntmps12
    go_wp2_with fail
    go_ret
    exact ⟨rfl, rfl⟩
  · have h0 : decide (0 ≤ v) = false := decide_eq_false h
    rw [h0, Bool.false_and]
    go_enter Try.func12, Try.ntmps12
    go_wp2_with fail
    go_ret
    exact ⟨rfl, rfl⟩
theorem step_sums : ∀ s : Nat, s < 8 → ∀ u : Nat, u < 2 → ((u : Int) + ((s / 2 % 2 : Nat) : Int) + ((s % 2 : Nat) : Int)) % 2 = (fbN s u : Nat) ∧ 4 * ((fbN s u : Nat) : Int) + 2 * ((s / 4 : Nat) : Int) + ((s / 2 % 2 : Nat) : Int) = (nextS s u : Nat) ∧
    (((fbN s u : Nat) : Int) + ((s / 4 : Nat) : Int) + ((s % 2 : Nat) : Int)) % 2 = (parS7 s u : Nat) ∧ fbN s u < 2 := by decide +kernel
set_option maxHeartbeats 1000000 in
theorem refStep_any {s u : Nat} {w : World} (hs : s < 8) (hu : u < 2) :
    Calls Try.prog 16 #[.int .i64 (s : Int), .int .i64 (u : Int)] w fun e w' => e = .returned (.tuple #[.int .i64 (nextS s u : Nat), .int .i64 (parS7 s u : Nat)]) ∧ w' = w := by
  obtain ⟨e1, e2, e3, lf⟩ := step_sums s hs u hu
  have l1 : s / 4 ≤ 1 := by omega
  have l2 : s / 2 % 2 ≤ 1 := by omega
  have l3 : s % 2 ≤ 1 := by omega
  have q1 : (s : Int) / 4 = ((s / 4 : Nat) : Int) := rfl
  have q2 : (s : Int) / 2 % 2 = ((s / 2 % 2 : Nat) : Int) := rfl
  have q3 : (s : Int) % 2 = ((s % 2 : Nat) : Int) := rfl
  generalize nextS s u = nx at *
  generalize parS7 s u = p at *
  generalize fbN s u = f at *
  generalize s / 4 = a at *
  generalize s / 2 % 2 = b at *
  generalize s % 2 = c at *
  have E2 := Lib.hid e2
  have E3 := Lib.hid e3
  clear e2 e3
  go_enter Try.func16, Try.ntmps16
  go_wp2_with fail
  go_ret2
  exact ⟨by rw [E2.out, E3.out]; rfl, rfl⟩
/-- A block of three bytes. -/
def b3 (l : List Nat) : Array Value := (l.map fun x : Nat => Value.int .u8 (x : Int)).toArray
theorem refTail_results {W : World} {tmps : Array Value} {B B' : Nat} {a b c a' b' c' : Value} {t t' : TypeId} (h2 : tmps.getD 2 undef = .pointer (some ⟨B, 0, none⟩)) (h3 : tmps.getD 3 undef = .pointer (some ⟨B', 0, none⟩)) (hL : Three W B t a b c) (hL' : Three W B' t' a' b' c') :
    (results Try.f14 tmps).run Try.prog W = .ok (.tuple #[.agg #[a, b, c], .agg #[a', b', c']]) W := by
  have c0 := hL.cell0
  have c1 := hL.cell1
  have c2 := hL.cell2
  have d0 := hL'.cell0
  have d1 := hL'.cell1
  have d2 := hL'.cell2
  simp only [Array.getD_eq_getD_getElem?] at h2 h3
  simp [results, Try.results14, go_sem, h2, h3, c0, c1, c2, d0, d1, d2]
theorem b3_eq (a b c : Nat) : b3 [a, b, c] = #[.int .u8 (a : Int), .int .u8 (b : Int), .int .u8 (c : Int)] := rfl
theorem tail_sum (s : Nat) : ((s : Int) / 2 + (s : Int)) % 2 = (tailIn s : Nat) := rfl
/-- The states of the tail's steps, its inputs, its parity bits. -/
def tsN (s : Nat) : Nat → Nat
  | 0 => s
  | k + 1 => nextS (tsN s k) (tailIn (tsN s k))
def tuN (s k : Nat) : Nat := tailIn (tsN s k)
def tzN (s k : Nat) : Nat := parS7 (tsN s k) (tailIn (tsN s k))
theorem tsN_lt {s : Nat} (hs : s < 8) : ∀ k, tsN s k < 8
  | 0 => hs
  | k + 1 => (step_lt _ (tsN_lt hs k) _ (tailIn_lt _)).1
theorem tailU_eq (s : Nat) : tailU s = [tuN s 0, tuN s 1, tuN s 2] := rfl
theorem tailZ_eq (s : Nat) : tailZ s = [tzN s 0, tzN s 1, tzN s 2] := rfl
/-- Block B: three bytes, the first k of which are f's. -/
def upto (f : Nat → Nat) (k j : Nat) : Value := .int .u8 ((if j < k then f j else 0 : Nat) : Int)
def Arr3 (w : World) (B : Nat) (f : Nat → Nat) (k : Nat) : Prop := Three w B 25 (upto f k 0) (upto f k 1) (upto f k 2)
section
variable {w w' : World} {B : Nat} {f : Nat → Nat}
theorem Arr3.new (w : World) (f : Nat → Nat) : Arr3 (w.alloc (.cells #[.int .u8 0, .int .u8 0, .int .u8 0] 25)) w.heap.size f 0 := Three.new w _ _ _ _
theorem Arr3.block {k : Nat} (h : Arr3 w B f k) (hb : w'.heap[B]? = w.heap[B]?) : Arr3 w' B f k := Three.block h hb
theorem Arr3.alloc {k : Nat} (h : Arr3 w B f k) (o : Obj) : Arr3 (w.alloc o) B f k := Three.alloc h o
theorem Arr3.set {k : Nat} (h : Arr3 w B f k) (hk : k < 3) : Arr3 (w.setCell ⟨B, k, none⟩ (.int .u8 (f k : Nat))) B f (k + 1) := by
  have h' : w.heap[B]? = some (.cells #[upto f k 0, upto f k 1, upto f k 2] 25) := h
  have := arr_set (j := k) (v := .int .u8 (f k : Nat)) h'
  refine this.trans ?_
  obtain rfl | rfl | rfl : k = 0 ∨ k = 1 ∨ k = 2 := by omega
  all_goals simp [upto]
theorem Arr3.other {k : Nat} (h : Arr3 w B f k) {p : Addr} (hp : p.block ≠ B) (u : Value) : Arr3 (w.setCell p u) B f k := Three.other h hp u
theorem Arr3.cell {k j : Nat} (h : Arr3 w B f k) (hj : j < 3) : ∃ x : Int, w.cell? ⟨B, j, none⟩ = some (.int .u8 x) := by
  have := Three.cell h j
  obtain rfl | rfl | rfl : j = 0 ∨ j = 1 ∨ j = 2 := by omega
  all_goals exact ⟨_, this⟩
theorem Arr3.frozen {k : Nat} (h : Arr3 w B f k) (j : Nat) : w.frozen? ⟨B, j, none⟩ = false := Three.frozen h j
theorem Arr3.full (h : Arr3 w B f 3) : Three w B 25 (.int .u8 (f 0 : Nat)) (.int .u8 (f 1 : Nat)) (.int .u8 (f 2 : Nat)) := h
theorem Arr3.lt {k : Nat} (h : Arr3 w B f k) : B < w.heap.size := Three.lt h
end
set_option maxHeartbeats 2000000 in
theorem refTail_any {s : Nat} {w : World} (hs : s < 8) :
    Calls Try.prog 14 #[.int .i64 (s : Int)] w fun e w' => e = .returned (.tuple #[.agg (b3 (tailU s)), .agg (b3 (tailZ s))]) ∧ Below w.heap.size w w' := by
  have hR := Lib.hid (fun (v : World) (k : Nat) => refStep_any (w := v) (tsN_lt hs k) (tailIn_lt (tsN s k)))
  have hS := Lib.hid (fun k => tsN_lt hs k)
  rw [tailU_eq, tailZ_eq, b3_eq, b3_eq]
  have hI : Hid (∃ z, z = #[Value.int .u8 0, Value.int .u8 0, Value.int .u8 0]) := Lib.hid ⟨_, rfl⟩
  have a0 := Three.new w 25 (.int .u8 0) (.int .u8 0) (.int .u8 0)
  have b0 := a0.alloc (.cells #[.int .u8 0, .int .u8 0, .int .u8 0] 25)
  have b1 := Three.new (w.alloc (.cells #[.int .u8 0, .int .u8 0, .int .u8 0] 25)) 25 (.int .u8 0) (.int .u8 0) (.int .u8 0)
  rw [World.size_alloc] at b1
  clear a0 hI
  obtain ⟨W2, hW2⟩ : ∃ W2, (w.alloc (.cells #[.int .u8 0, .int .u8 0, .int .u8 0] 25)).alloc (.cells #[.int .u8 0, .int .u8 0, .int .u8 0] 25) = W2 := ⟨_, rfl⟩
  have hz2 : W2.heap.size = w.heap.size + 1 + 1 := by rw [← hW2]; simp
  have hb2 : Below w.heap.size w W2 := by rw [← hW2]; exact below_two _ _
  rw [hW2] at b0 b1
  have c2 := Arr3.new W2 (tuN s)
  have d2 := c2.alloc (.cells #[.int .u8 0, .int .u8 0, .int .u8 0] 25)
  have d3 := Arr3.new (W2.alloc (.cells #[.int .u8 0, .int .u8 0, .int .u8 0] 25)) (tzN s)
  rw [World.size_alloc] at d3
  have e0 := (b0.alloc (.cells #[.int .u8 0, .int .u8 0, .int .u8 0] 25)).alloc (.cells #[.int .u8 0, .int .u8 0, .int .u8 0] 25)
  have e1 := (b1.alloc (.cells #[.int .u8 0, .int .u8 0, .int .u8 0] 25)).alloc (.cells #[.int .u8 0, .int .u8 0, .int .u8 0] 25)
  have hb3 := (hb2.alloc hb2.size (.cells #[.int .u8 0, .int .u8 0, .int .u8 0] 25)).alloc (by rw [World.size_alloc]; have := hb2.size; omega) (.cells #[.int .u8 0, .int .u8 0, .int .u8 0] 25)
  rw [hz2] at d2 d3
  clear b0 b1 c2 hb2 hz2
  subst hW2
  have H := Lib.hid (And.intro (And.intro d2 d3) (And.intro (And.intro e0 e1) hb3))
  clear d2 d3 e0 e1 hb3 hs
  go_enter Try.func14, Try.ntmps14
  go_wp2_with fail
  generalize (((w.alloc (.cells #[.int .u8 0, .int .u8 0, .int .u8 0] 25)).alloc (.cells #[.int .u8 0, .int .u8 0, .int .u8 0] 25)).alloc (.cells #[.int .u8 0, .int .u8 0, .int .u8 0] 25)).alloc (.cells #[.int .u8 0, .int .u8 0, .int .u8 0] 25) = W at *
  go_loopw [0, 6] (fun x i wr => ∃ k : Nat, k ≤ 3 ∧ x = .int .i64 (tsN s k : Nat) ∧ i = .int .i64 (k : Int) ∧ Hid ((Arr3 wr (w.heap.size + 1 + 1) (tuN s) k ∧ Arr3 wr (w.heap.size + 1 + 1 + 1) (tzN s) k) ∧ (Three wr w.heap.size 25 (.int .u8 0) (.int .u8 0) (.int .u8 0) ∧ Three wr (w.heap.size + 1) 25 (.int .u8 0) (.int .u8 0) (.int .u8 0)) ∧ Below w.heap.size w wr)) (fun _ i _ => 3 - (intOf i).toNat)
  case atStart => exact ⟨0, by decide, rfl, rfl, H⟩
  case round =>
    obtain ⟨k, hk, rfl, rfl, hH⟩ := hrel
    clear H
    have l8 := hS.out k
    have ts := tail_sum (tsN s k)
    by_cases hlt : k < 3
    · have h1 := Lib.hid (hR.out wr k)
      have hu2 := tailIn_lt (tsN s k)
      have hp2 := (step_lt _ l8 _ hu2).2
      have l8' := hS.out (k + 1)
      obtain ⟨x, hx⟩ := hH.out.1.1.cell hlt
      obtain ⟨y, hy⟩ := hH.out.1.2.cell hlt
      have fx := hH.out.1.1.frozen k
      have fy := hH.out.1.2.frozen k
      have H2 : Hid ((Arr3 ((wr.setCell ⟨w.heap.size + 1 + 1, k, none⟩ (.int .u8 (tailIn (tsN s k) : Nat))).setCell ⟨w.heap.size + 1 + 1 + 1, k, none⟩ (.int .u8 (parS7 (tsN s k) (tailIn (tsN s k)) : Nat))) (w.heap.size + 1 + 1) (tuN s) (k + 1) ∧ Arr3 ((wr.setCell ⟨w.heap.size + 1 + 1, k, none⟩ (.int .u8 (tailIn (tsN s k) : Nat))).setCell ⟨w.heap.size + 1 + 1 + 1, k, none⟩ (.int .u8 (parS7 (tsN s k) (tailIn (tsN s k)) : Nat))) (w.heap.size + 1 + 1 + 1) (tzN s) (k + 1)) ∧ (Three ((wr.setCell ⟨w.heap.size + 1 + 1, k, none⟩ (.int .u8 (tailIn (tsN s k) : Nat))).setCell ⟨w.heap.size + 1 + 1 + 1, k, none⟩ (.int .u8 (parS7 (tsN s k) (tailIn (tsN s k)) : Nat))) w.heap.size 25 (.int .u8 0) (.int .u8 0) (.int .u8 0) ∧ Three ((wr.setCell ⟨w.heap.size + 1 + 1, k, none⟩ (.int .u8 (tailIn (tsN s k) : Nat))).setCell ⟨w.heap.size + 1 + 1 + 1, k, none⟩ (.int .u8 (parS7 (tsN s k) (tailIn (tsN s k)) : Nat))) (w.heap.size + 1) 25 (.int .u8 0) (.int .u8 0) (.int .u8 0)) ∧ Below w.heap.size w ((wr.setCell ⟨w.heap.size + 1 + 1, k, none⟩ (.int .u8 (tailIn (tsN s k) : Nat))).setCell ⟨w.heap.size + 1 + 1 + 1, k, none⟩ (.int .u8 (parS7 (tsN s k) (tailIn (tsN s k)) : Nat)))) :=
        Lib.hid ⟨⟨(hH.out.1.1.set hlt).other (by dsimp only; omega) _, (hH.out.1.2.other (p := ⟨w.heap.size + 1 + 1, k, none⟩) (by dsimp only; omega) _).set hlt⟩, ⟨(hH.out.2.1.1.other (by dsimp only; omega) _).other (by dsimp only; omega) _, (hH.out.2.1.2.other (by dsimp only; omega) _).other (by dsimp only; omega) _⟩, (hH.out.2.2.setCell (by dsimp only; omega) _).setCell (by dsimp only; omega) _⟩
      have hN : Hid (nextS (tsN s k) (tailIn (tsN s k)) = tsN s (k + 1)) := Lib.hid rfl
      rw [hN.out] at h1
      generalize parS7 (tsN s k) (tailIn (tsN s k)) = p at *
      generalize tailIn (tsN s k) = u at *
      generalize hq : tsN s (k + 1) = q at *
      have HQ := Lib.hid hq
      generalize tsN s k = o at *
      have hk3 : (k : Int) < 3 := by omega
      have ub : (u : Int) % 256 = (u : Int) := by omega
      have pb : (p : Int) % 256 = (p : Int) := by omega
      clear hH hN hq hS hR
      go_wp2_with fail
      refine h1.out.mono ?_
      rintro e w1 ⟨rfl, he⟩
      obtain rfl := he.symm
      clear h1
      go_wp2_with fail
      go_roundw
      case rel => exact ⟨k + 1, by omega, by rw [HQ.out], by go_num, H2⟩
      case measure => simp [intOf]; omega
    · obtain rfl : k = 3 := by omega
      have A := hH.out.1.1.full
      have A' := hH.out.1.2.full
      have x0 := A.cell0
      have x1 := A.cell1
      have x2 := A.cell2
      have y0 := A'.cell0
      have y1 := A'.cell1
      have y2 := A'.cell2
      have z0 := hH.out.2.1.1.cell0
      have z1 := hH.out.2.1.1.cell1
      have z2 := hH.out.2.1.1.cell2
      have v0 := hH.out.2.1.2.cell0
      have v1 := hH.out.2.1.2.cell1
      have v2 := hH.out.2.1.2.cell2
      have fz := hH.out.2.1.1.frozen
      have fv := hH.out.2.1.2.frozen
      have fz0 := fz 0
      have fz1 := fz 1
      have fz2 := fz 2
      have fv0 := fv 0
      have fv1 := fv 1
      have fv2 := fv 2
      have HT := Lib.hid (fun (a b c d e f : Value) => And.intro (((((hH.out.2.1.1.put a b c).other (p := ⟨w.heap.size + 1, 0, none⟩) (by dsimp only; omega) d).other (p := ⟨w.heap.size + 1, 1, none⟩) (by dsimp only; omega) e).other (p := ⟨w.heap.size + 1, 2, none⟩) (by dsimp only; omega) f))
        (And.intro (((((hH.out.2.1.2.other (p := ⟨w.heap.size, 0, none⟩) (by dsimp only; omega) a).other (p := ⟨w.heap.size, 1, none⟩) (by dsimp only; omega) b).other (p := ⟨w.heap.size, 2, none⟩) (by dsimp only; omega) c)).put d e f)
        ((((((hH.out.2.2.setCell (p := ⟨w.heap.size, 0, none⟩) (by dsimp only; omega) a).setCell (p := ⟨w.heap.size, 1, none⟩) (by dsimp only; omega) b).setCell (p := ⟨w.heap.size, 2, none⟩) (by dsimp only; omega) c).setCell (p := ⟨w.heap.size + 1, 0, none⟩) (by dsimp only; omega) d).setCell (p := ⟨w.heap.size + 1, 1, none⟩) (by dsimp only; omega) e).setCell (p := ⟨w.heap.size + 1, 2, none⟩) (by dsimp only; omega) f)))
      clear fz fv hH A A'
      generalize ha : tuN s 0 = a at *
      have Ha := Lib.hid ha
      clear ha
      generalize hb : tuN s 1 = b at *
      have Hb := Lib.hid hb
      clear hb
      generalize hc : tuN s 2 = c at *
      have Hc := Lib.hid hc
      clear hc
      generalize hd : tzN s 0 = d at *
      have Hd := Lib.hid hd
      clear hd
      generalize he : tzN s 1 = e at *
      have He := Lib.hid he
      clear he
      generalize hf : tzN s 2 = f at *
      have Hf := Lib.hid hf
      clear hf
      go_wp2_with fail
      go_region
      have HT2 := HT.out (.int .u8 (a : Int)) (.int .u8 (b : Int)) (.int .u8 (c : Int)) (.int .u8 (d : Int)) (.int .u8 (e : Int)) (.int .u8 (f : Int))
      clear HT
      go_wp2_with fail
      refine bodyPost_ret (refTail_results rfl rfl HT2.1.drew HT2.2.1.drew) rfl ⟨by rw [Ha.out, Hb.out, Hc.out, Hd.out, He.out, Hf.out], HT2.2.2.drew⟩
end Go.Proofs.Ytjehfdnkdfmmbaa
