/-
  The law's num, same, low; the reference's Step, Valid, Tail. Tail. steps and its iterator; a range over it. Encode.
-/
import Derived.Test.YtbpkoilecdejiaaDoorT3
import Derived.RegionTactic
import Derived.BigRegion
import Derived.Shelf.Abstract
import Derived.Shelf.RegionOpen
import Derived.WalkKit
import Derived.OwnWalkIn
import Derived.TacticsInMore
import Derived.LoopNIn
import Derived.LoopIn
import Derived.Sort.QuietIn
import Derived.Test.YtbpkoilecdejiaaDoorRuns
namespace Go.Proofs.YtbpkoilecdejiaaDoor
/-! ### The law's num, same, low; the reference's Step, Valid, Tail. -/
section
open Go.RowKit

theorem num_any {k : Int} {w : World} : Calls Tryd.prog 14 #[.int .i64 k] w fun e w' => e = .returned (.int .i64 k) ∧ w' = w := by
  go_enter Tryd.func14, Tryd.ntmps14
  go_wp2_with fail
  go_ret
  exact ⟨rfl, rfl⟩
theorem same_any {A A' : Option Addr} {n c n' c' B B' : Nat} {xs ys : List Int} {w : World} (h : Rd .u8 w B A n xs) (h' : Rd .u8 w B' A' n' ys) (hx : Byte xs) (hy : Byte ys) :
    Calls Tryd.prog 13 #[.slice A n c, .slice A' n' c'] w fun e w' => e = .returned (.bool (decide (xs = ys))) ∧ w' = w := by
  have c1 := h.convert (P := Tryd.prog) Tryd.underlying22 Tryd.underlying5 c
  have c2 := h'.convert (P := Tryd.prog) Tryd.underlying22 Tryd.underlying5 c'
  have k1 := c1 9 Tryd.underlying9
  have k2 := c2 9 Tryd.underlying9
  clear c1 c2
  go_enter Tryd.func13, Tryd.ntmps13
  go_wp2
  go_ret
  refine ⟨ret_bool ?_, rfl⟩
  rw [ByteArray.toList_eq, ByteArray.toList_eq]
  by_cases e : xs = ys
  · subst e; simp
  · rw [decide_eq_false e, beq_eq_false_iff_ne]
    intro h3
    refine e (strOfNums_inj hx hy ?_)
    show ByteArray.mk _ = ByteArray.mk _
    exact congrArg ByteArray.mk (Array.toList_inj.1 h3)
theorem step_sums : ∀ s : Nat, s < 8 → ∀ u : Nat, u < 2 → ((u : Int) + ((s / 2 % 2 : Nat) : Int) + ((s % 2 : Nat) : Int)) % 2 = (fbN s u : Nat) ∧ 4 * ((fbN s u : Nat) : Int) + 2 * ((s / 4 : Nat) : Int) + ((s / 2 % 2 : Nat) : Int) = (nextS s u : Nat) ∧
    (((fbN s u : Nat) : Int) + ((s / 4 : Nat) : Int) + ((s % 2 : Nat) : Int)) % 2 = (parS7 s u : Nat) ∧ fbN s u < 2 := by decide +kernel
set_option maxHeartbeats 1000000 in
theorem refStep_any {s u : Nat} {w : World} (hs : s < 8) (hu : u < 2) :
    Calls Tryd.prog 45 #[.int .i64 (s : Int), .int .i64 (u : Int)] w fun e w' => e = .returned (.tuple #[.int .i64 (nextS s u : Nat), .int .i64 (parS7 s u : Nat)]) ∧ w' = w := by
  obtain ⟨e1, e2, e3, lf⟩ := step_sums s hs u hu
  have l1 : s / 4 ≤ 1 := by omega
  have l2 : s / 2 % 2 ≤ 1 := by omega
  have l3 : s % 2 ≤ 1 := by omega
  have q1 : (s : Int) / 4 = ((s / 4 : Nat) : Int) := rfl
  have q2 : (s : Int) / 2 % 2 = ((s / 2 % 2 : Nat) : Int) := rfl
  have q3 : (s : Int) % 2 = ((s % 2 : Nat) : Int) := rfl
  generalize nextS s u = nx at *
  generalize parS7 s u = p at *
  generalize fbN s u = f at *
  generalize s / 4 = a at *
  generalize s / 2 % 2 = b at *
  generalize s % 2 = c at *
  have E2 := Lib.hid e2
  have E3 := Lib.hid e3
  clear e2 e3
  go_enter Tryd.func45, Tryd.ntmps45
  go_wp2_with fail
  go_ret2
  exact ⟨by rw [E2.out, E3.out]; rfl, rfl⟩
/-- A block of three bytes. -/
def b3 (l : List Nat) : Array Value := (l.map fun x : Nat => Value.int .u8 (x : Int)).toArray
theorem refTail_results {W : World} {tmps : Array Value} {B B' : Nat} {a b c a' b' c' : Value} {t t' : TypeId} (h2 : tmps.getD 2 undef = .pointer (some ⟨B, 0, none⟩)) (h3 : tmps.getD 3 undef = .pointer (some ⟨B', 0, none⟩)) (hL : Three W B t a b c) (hL' : Three W B' t' a' b' c') :
    (results Tryd.f31 tmps).run Tryd.prog W = .ok (.tuple #[.agg #[a, b, c], .agg #[a', b', c']]) W := by
  have c0 := hL.cell0
  have c1 := hL.cell1
  have c2 := hL.cell2
  have d0 := hL'.cell0
  have d1 := hL'.cell1
  have d2 := hL'.cell2
  simp only [Array.getD_eq_getD_getElem?] at h2 h3
  simp [results, Tryd.results31, go_sem, h2, h3, c0, c1, c2, d0, d1, d2]
theorem b3_eq (a b c : Nat) : b3 [a, b, c] = #[.int .u8 (a : Int), .int .u8 (b : Int), .int .u8 (c : Int)] := rfl
theorem tail_sum (s : Nat) : ((s : Int) / 2 + (s : Int)) % 2 = (tailIn s : Nat) := rfl
/-- The states of the tail's steps, its inputs, its parity bits. -/
def tsN (s : Nat) : Nat → Nat
  | 0 => s
  | k + 1 => nextS (tsN s k) (tailIn (tsN s k))
def tuN (s k : Nat) : Nat := tailIn (tsN s k)
def tzN (s k : Nat) : Nat := parS7 (tsN s k) (tailIn (tsN s k))
theorem tsN_lt {s : Nat} (hs : s < 8) : ∀ k, tsN s k < 8
  | 0 => hs
  | k + 1 => (step_lt _ (tsN_lt hs k) _ (tailIn_lt _)).1
theorem tailU_eq (s : Nat) : tailU s = [tuN s 0, tuN s 1, tuN s 2] := rfl
theorem tailZ_eq (s : Nat) : tailZ s = [tzN s 0, tzN s 1, tzN s 2] := rfl
/-- Block B: three bytes, the first k of which are f's. -/
def upto (f : Nat → Nat) (k j : Nat) : Value := .int .u8 ((if j < k then f j else 0 : Nat) : Int)
def Arr3 (w : World) (B : Nat) (f : Nat → Nat) (k : Nat) : Prop := Three w B 61 (upto f k 0) (upto f k 1) (upto f k 2)
section
variable {w w' : World} {B : Nat} {f : Nat → Nat}
theorem Arr3.new (w : World) (f : Nat → Nat) : Arr3 (w.alloc (.cells #[.int .u8 0, .int .u8 0, .int .u8 0] 61)) w.heap.size f 0 := Three.new w _ _ _ _
theorem Arr3.block {k : Nat} (h : Arr3 w B f k) (hb : w'.heap[B]? = w.heap[B]?) : Arr3 w' B f k := Three.block h hb
theorem Arr3.alloc {k : Nat} (h : Arr3 w B f k) (o : Obj) : Arr3 (w.alloc o) B f k := Three.alloc h o
theorem Arr3.set {k : Nat} (h : Arr3 w B f k) (hk : k < 3) : Arr3 (w.setCell ⟨B, k, none⟩ (.int .u8 (f k : Nat))) B f (k + 1) := by
  have h' : w.heap[B]? = some (.cells #[upto f k 0, upto f k 1, upto f k 2] 61) := h
  have := arr_set (j := k) (v := .int .u8 (f k : Nat)) h'
  refine this.trans ?_
  obtain rfl | rfl | rfl : k = 0 ∨ k = 1 ∨ k = 2 := by omega
  all_goals simp [upto]
theorem Arr3.other {k : Nat} (h : Arr3 w B f k) {p : Addr} (hp : p.block ≠ B) (u : Value) : Arr3 (w.setCell p u) B f k := Three.other h hp u
theorem Arr3.cell {k j : Nat} (h : Arr3 w B f k) (hj : j < 3) : ∃ x : Int, w.cell? ⟨B, j, none⟩ = some (.int .u8 x) := by
  have := Three.cell h j
  obtain rfl | rfl | rfl : j = 0 ∨ j = 1 ∨ j = 2 := by omega
  all_goals exact ⟨_, this⟩
theorem Arr3.frozen {k : Nat} (h : Arr3 w B f k) (j : Nat) : w.frozen? ⟨B, j, none⟩ = false := Three.frozen h j
theorem Arr3.full (h : Arr3 w B f 3) : Three w B 61 (.int .u8 (f 0 : Nat)) (.int .u8 (f 1 : Nat)) (.int .u8 (f 2 : Nat)) := h
theorem Arr3.lt {k : Nat} (h : Arr3 w B f k) : B < w.heap.size := Three.lt h
end
set_option maxHeartbeats 2000000 in
theorem refTail_any {s : Nat} {w : World} (hs : s < 8) :
    Calls Tryd.prog 31 #[.int .i64 (s : Int)] w fun e w' => e = .returned (.tuple #[.agg (b3 (tailU s)), .agg (b3 (tailZ s))]) ∧ Below w.heap.size w w' := by
  have hR := Lib.hid (fun (v : World) (k : Nat) => refStep_any (w := v) (tsN_lt hs k) (tailIn_lt (tsN s k)))
  have hS := Lib.hid (fun k => tsN_lt hs k)
  rw [tailU_eq, tailZ_eq, b3_eq, b3_eq]
  have hI : Hid (∃ z, z = #[Value.int .u8 0, Value.int .u8 0, Value.int .u8 0]) := Lib.hid ⟨_, rfl⟩
  have a0 := Three.new w 61 (.int .u8 0) (.int .u8 0) (.int .u8 0)
  have b0 := a0.alloc (.cells #[.int .u8 0, .int .u8 0, .int .u8 0] 61)
  have b1 := Three.new (w.alloc (.cells #[.int .u8 0, .int .u8 0, .int .u8 0] 61)) 61 (.int .u8 0) (.int .u8 0) (.int .u8 0)
  rw [World.size_alloc] at b1
  clear a0 hI
  obtain ⟨W2, hW2⟩ : ∃ W2, (w.alloc (.cells #[.int .u8 0, .int .u8 0, .int .u8 0] 61)).alloc (.cells #[.int .u8 0, .int .u8 0, .int .u8 0] 61) = W2 := ⟨_, rfl⟩
  have hz2 : W2.heap.size = w.heap.size + 1 + 1 := by rw [← hW2]; simp
  have hb2 : Below w.heap.size w W2 := by rw [← hW2]; exact below_two _ _
  rw [hW2] at b0 b1
  have c2 := Arr3.new W2 (tuN s)
  have d2 := c2.alloc (.cells #[.int .u8 0, .int .u8 0, .int .u8 0] 61)
  have d3 := Arr3.new (W2.alloc (.cells #[.int .u8 0, .int .u8 0, .int .u8 0] 61)) (tzN s)
  rw [World.size_alloc] at d3
  have e0 := (b0.alloc (.cells #[.int .u8 0, .int .u8 0, .int .u8 0] 61)).alloc (.cells #[.int .u8 0, .int .u8 0, .int .u8 0] 61)
  have e1 := (b1.alloc (.cells #[.int .u8 0, .int .u8 0, .int .u8 0] 61)).alloc (.cells #[.int .u8 0, .int .u8 0, .int .u8 0] 61)
  have hb3 := (hb2.alloc hb2.size (.cells #[.int .u8 0, .int .u8 0, .int .u8 0] 61)).alloc (by rw [World.size_alloc]; have := hb2.size; omega) (.cells #[.int .u8 0, .int .u8 0, .int .u8 0] 61)
  rw [hz2] at d2 d3
  clear b0 b1 c2 hb2 hz2
  subst hW2
  have H := Lib.hid (And.intro (And.intro d2 d3) (And.intro (And.intro e0 e1) hb3))
  clear d2 d3 e0 e1 hb3 hs
  go_enter Tryd.func31, Tryd.ntmps31
  go_wp2_with fail
  generalize (((w.alloc (.cells #[.int .u8 0, .int .u8 0, .int .u8 0] 61)).alloc (.cells #[.int .u8 0, .int .u8 0, .int .u8 0] 61)).alloc (.cells #[.int .u8 0, .int .u8 0, .int .u8 0] 61)).alloc (.cells #[.int .u8 0, .int .u8 0, .int .u8 0] 61) = W at *
  go_loopw [0, 6] (fun x i wr => ∃ k : Nat, k ≤ 3 ∧ x = .int .i64 (tsN s k : Nat) ∧ i = .int .i64 (k : Int) ∧ Hid ((Arr3 wr (w.heap.size + 1 + 1) (tuN s) k ∧ Arr3 wr (w.heap.size + 1 + 1 + 1) (tzN s) k) ∧ (Three wr w.heap.size 61 (.int .u8 0) (.int .u8 0) (.int .u8 0) ∧ Three wr (w.heap.size + 1) 61 (.int .u8 0) (.int .u8 0) (.int .u8 0)) ∧ Below w.heap.size w wr)) (fun _ i _ => 3 - (intOf i).toNat)
  case atStart => exact ⟨0, by decide, rfl, rfl, H⟩
  case round =>
    obtain ⟨k, hk, rfl, rfl, hH⟩ := hrel
    clear H
    have l8 := hS.out k
    have ts := tail_sum (tsN s k)
    by_cases hlt : k < 3
    · have h1 := Lib.hid (hR.out wr k)
      have hu2 := tailIn_lt (tsN s k)
      have hp2 := (step_lt _ l8 _ hu2).2
      have l8' := hS.out (k + 1)
      obtain ⟨x, hx⟩ := hH.out.1.1.cell hlt
      obtain ⟨y, hy⟩ := hH.out.1.2.cell hlt
      have fx := hH.out.1.1.frozen k
      have fy := hH.out.1.2.frozen k
      have H2 : Hid ((Arr3 ((wr.setCell ⟨w.heap.size + 1 + 1, k, none⟩ (.int .u8 (tailIn (tsN s k) : Nat))).setCell ⟨w.heap.size + 1 + 1 + 1, k, none⟩ (.int .u8 (parS7 (tsN s k) (tailIn (tsN s k)) : Nat))) (w.heap.size + 1 + 1) (tuN s) (k + 1) ∧ Arr3 ((wr.setCell ⟨w.heap.size + 1 + 1, k, none⟩ (.int .u8 (tailIn (tsN s k) : Nat))).setCell ⟨w.heap.size + 1 + 1 + 1, k, none⟩ (.int .u8 (parS7 (tsN s k) (tailIn (tsN s k)) : Nat))) (w.heap.size + 1 + 1 + 1) (tzN s) (k + 1)) ∧ (Three ((wr.setCell ⟨w.heap.size + 1 + 1, k, none⟩ (.int .u8 (tailIn (tsN s k) : Nat))).setCell ⟨w.heap.size + 1 + 1 + 1, k, none⟩ (.int .u8 (parS7 (tsN s k) (tailIn (tsN s k)) : Nat))) w.heap.size 61 (.int .u8 0) (.int .u8 0) (.int .u8 0) ∧ Three ((wr.setCell ⟨w.heap.size + 1 + 1, k, none⟩ (.int .u8 (tailIn (tsN s k) : Nat))).setCell ⟨w.heap.size + 1 + 1 + 1, k, none⟩ (.int .u8 (parS7 (tsN s k) (tailIn (tsN s k)) : Nat))) (w.heap.size + 1) 61 (.int .u8 0) (.int .u8 0) (.int .u8 0)) ∧ Below w.heap.size w ((wr.setCell ⟨w.heap.size + 1 + 1, k, none⟩ (.int .u8 (tailIn (tsN s k) : Nat))).setCell ⟨w.heap.size + 1 + 1 + 1, k, none⟩ (.int .u8 (parS7 (tsN s k) (tailIn (tsN s k)) : Nat)))) :=
        Lib.hid ⟨⟨(hH.out.1.1.set hlt).other (by dsimp only; omega) _, (hH.out.1.2.other (p := ⟨w.heap.size + 1 + 1, k, none⟩) (by dsimp only; omega) _).set hlt⟩, ⟨(hH.out.2.1.1.other (by dsimp only; omega) _).other (by dsimp only; omega) _, (hH.out.2.1.2.other (by dsimp only; omega) _).other (by dsimp only; omega) _⟩, (hH.out.2.2.setCell (by dsimp only; omega) _).setCell (by dsimp only; omega) _⟩
      have hN : Hid (nextS (tsN s k) (tailIn (tsN s k)) = tsN s (k + 1)) := Lib.hid rfl
      rw [hN.out] at h1
      generalize parS7 (tsN s k) (tailIn (tsN s k)) = p at *
      generalize tailIn (tsN s k) = u at *
      generalize hq : tsN s (k + 1) = q at *
      have HQ := Lib.hid hq
      generalize tsN s k = o at *
      have hk3 : (k : Int) < 3 := by omega
      have ub : (u : Int) % 256 = (u : Int) := by omega
      have pb : (p : Int) % 256 = (p : Int) := by omega
      clear hH hN hq hS hR
      go_wp2_with fail
      refine h1.out.mono ?_
      rintro e w1 ⟨rfl, he⟩
      obtain rfl := he.symm
      clear h1
      go_wp2_with fail
      go_roundw
      case rel => exact ⟨k + 1, by omega, by rw [HQ.out], by go_num, H2⟩
      case measure => simp [intOf]; omega
    · obtain rfl : k = 3 := by omega
      have A := hH.out.1.1.full
      have A' := hH.out.1.2.full
      have x0 := A.cell0
      have x1 := A.cell1
      have x2 := A.cell2
      have y0 := A'.cell0
      have y1 := A'.cell1
      have y2 := A'.cell2
      have z0 := hH.out.2.1.1.cell0
      have z1 := hH.out.2.1.1.cell1
      have z2 := hH.out.2.1.1.cell2
      have v0 := hH.out.2.1.2.cell0
      have v1 := hH.out.2.1.2.cell1
      have v2 := hH.out.2.1.2.cell2
      have fz := hH.out.2.1.1.frozen
      have fv := hH.out.2.1.2.frozen
      have fz0 := fz 0
      have fz1 := fz 1
      have fz2 := fz 2
      have fv0 := fv 0
      have fv1 := fv 1
      have fv2 := fv 2
      have HT := Lib.hid (fun (a b c d e f : Value) => And.intro (((((hH.out.2.1.1.put a b c).other (p := ⟨w.heap.size + 1, 0, none⟩) (by dsimp only; omega) d).other (p := ⟨w.heap.size + 1, 1, none⟩) (by dsimp only; omega) e).other (p := ⟨w.heap.size + 1, 2, none⟩) (by dsimp only; omega) f))
        (And.intro (((((hH.out.2.1.2.other (p := ⟨w.heap.size, 0, none⟩) (by dsimp only; omega) a).other (p := ⟨w.heap.size, 1, none⟩) (by dsimp only; omega) b).other (p := ⟨w.heap.size, 2, none⟩) (by dsimp only; omega) c)).put d e f)
        ((((((hH.out.2.2.setCell (p := ⟨w.heap.size, 0, none⟩) (by dsimp only; omega) a).setCell (p := ⟨w.heap.size, 1, none⟩) (by dsimp only; omega) b).setCell (p := ⟨w.heap.size, 2, none⟩) (by dsimp only; omega) c).setCell (p := ⟨w.heap.size + 1, 0, none⟩) (by dsimp only; omega) d).setCell (p := ⟨w.heap.size + 1, 1, none⟩) (by dsimp only; omega) e).setCell (p := ⟨w.heap.size + 1, 2, none⟩) (by dsimp only; omega) f)))
      clear fz fv hH A A'
      generalize ha : tuN s 0 = a at *
      have Ha := Lib.hid ha
      clear ha
      generalize hb : tuN s 1 = b at *
      have Hb := Lib.hid hb
      clear hb
      generalize hc : tuN s 2 = c at *
      have Hc := Lib.hid hc
      clear hc
      generalize hd : tzN s 0 = d at *
      have Hd := Lib.hid hd
      clear hd
      generalize he : tzN s 1 = e at *
      have He := Lib.hid he
      clear he
      generalize hf : tzN s 2 = f at *
      have Hf := Lib.hid hf
      clear hf
      go_wp2_with fail
      go_region
      have HT2 := HT.out (.int .u8 (a : Int)) (.int .u8 (b : Int)) (.int .u8 (c : Int)) (.int .u8 (d : Int)) (.int .u8 (e : Int)) (.int .u8 (f : Int))
      clear HT
      go_wp2_with fail
      refine bodyPost_ret (refTail_results rfl rfl HT2.1.drew HT2.2.1.drew) rfl ⟨by rw [Ha.out, Hb.out, Hc.out, Hd.out, He.out, Hf.out], HT2.2.2.drew⟩
end

/-! ### Tail. -/
section
open Go.RowKit

theorem Tail_results {W : World} {tmps : Array Value} {B B' : Nat} {a b c a' b' c' : Value} {k : Int} {t t' : TypeId} (h2 : tmps.getD 2 undef = .pointer (some ⟨B, 0, none⟩)) (h3 : tmps.getD 3 undef = .pointer (some ⟨B', 0, none⟩)) (h4 : tmps.getD 4 undef = .int .i64 k) (hL : Three W B t a b c) (hL' : Three W B' t' a' b' c') :
    (results Tryd.f55 tmps).run Tryd.prog W = .ok (.tuple #[.agg #[a, b, c], .agg #[a', b', c'], .int .i64 k]) W := by
  have c0 := hL.cell0
  have c1 := hL.cell1
  have c2 := hL.cell2
  have d0 := hL'.cell0
  have d1 := hL'.cell1
  have d2 := hL'.cell2
  simp only [Array.getD_eq_getD_getElem?] at h2 h3 h4
  simp [results, Tryd.results55, go_sem, h2, h3, h4, c0, c1, c2, d0, d1, d2]
theorem Enc.cells {w : World} {B s : Nat} (h : Enc w B s) : w.cell? ⟨B, 0, none⟩ = some (.int .i64 ((s / 4 : Nat) : Int)) ∧ w.cell? ⟨B, 1, none⟩ = some (.int .i64 ((s / 2 % 2 : Nat) : Int)) ∧ w.cell? ⟨B, 2, none⟩ = some (.int .i64 ((s % 2 : Nat) : Int)) := by
  obtain ⟨t, h⟩ := h
  exact ⟨h.cell0, h.cell1, h.cell2⟩
theorem Enc.other {w : World} {B s : Nat} (h : Enc w B s) {p : Addr} (hp : p.block ≠ B) (u : Value) : Enc (w.setCell p u) B s := by obtain ⟨t, h⟩ := h; exact ⟨t, h.other hp u⟩
set_option maxHeartbeats 4000000 in
theorem Tail_ok {s : Nat} {w : World} (hs : s < 8) :
    Calls Tryd.prog 55 #[.int .i64 (s : Int)] w fun e w' => e = .returned (.tuple #[.agg (b3 (tailU s)), .agg (b3 (tailZ s)), .int .i64 0]) ∧ Below w.heap.size w w' := by
  have hb1 := Lib.hid (fun (v : World) => below_any (v := (s : Int)) (e := 8) (w := v))
  rw [show (decide (0 ≤ (s : Int)) && decide ((s : Int) < 8)) = true by simp; omega] at hb1
  have hst := Lib.hid (fun (v : World) => start_any (w := v) hs)
  have hR := Lib.hid (fun (v : World) (B k : Nat) (h : Enc v B (tsN s k)) => step_any h (tsN_lt hs k) (tailIn_lt (tsN s k)))
  have hF := Lib.hid (fun (v : World) (k : Nat) => feedback_any (w := v) (tsN_lt hs k))
  have hS := Lib.hid (fun k => tsN_lt hs k)
  have hEn : Hid (∀ (v : World) (B : Nat) t, Three v B t (.int .i64 ((s / 4 : Nat) : Int)) (.int .i64 ((s / 2 % 2 : Nat) : Int)) (.int .i64 ((s % 2 : Nat) : Int)) → Enc v B (tsN s 0)) := Lib.hid (fun v B t h => ⟨t, h⟩)
  unfold encV encA at hst hF
  rw [tailU_eq, tailZ_eq, b3_eq, b3_eq]
  have d0 := (Arr3.new w (tuN s)).alloc (.cells #[.int .u8 0, .int .u8 0, .int .u8 0] 61)
  have d1 := Arr3.new (w.alloc (.cells #[.int .u8 0, .int .u8 0, .int .u8 0] 61)) (tzN s)
  have hz2 : ((w.alloc (.cells #[.int .u8 0, .int .u8 0, .int .u8 0] 61)).alloc (.cells #[.int .u8 0, .int .u8 0, .int .u8 0] 61)).heap.size = w.heap.size + 1 + 1 := by simp
  have hB2 : Below w.heap.size w ((w.alloc (.cells #[.int .u8 0, .int .u8 0, .int .u8 0] 61)).alloc (.cells #[.int .u8 0, .int .u8 0, .int .u8 0] 61)) := below_two _ _
  rw [World.size_alloc] at d1
  have e0 := d0.alloc (.cells #[.int .i64 0, .int .i64 0, .int .i64 0] 107)
  have e1 := d1.alloc (.cells #[.int .i64 0, .int .i64 0, .int .i64 0] 107)
  have e2 := Three.new ((w.alloc (.cells #[.int .u8 0, .int .u8 0, .int .u8 0] 61)).alloc (.cells #[.int .u8 0, .int .u8 0, .int .u8 0] 61)) 107 (.int .i64 0) (.int .i64 0) (.int .i64 0)
  have hB3 := hB2.alloc hB2.size (.cells #[.int .i64 0, .int .i64 0, .int .i64 0] 107)
  rw [hz2] at e2
  generalize hs4 : s / 4 = a at *
  generalize hs2 : s / 2 % 2 = b at *
  generalize hs1 : s % 2 = c at *
  clear d0 d1 hz2 hB2 hs hs4 hs2 hs1
  go_enter Tryd.func55, Tryd.ntmps55
  go_wp2
  refine wp_scope_forward 0 rfl ?_
  go_wp2_with fail
  generalize ((w.alloc (.cells #[.int .u8 0, .int .u8 0, .int .u8 0] 61)).alloc (.cells #[.int .u8 0, .int .u8 0, .int .u8 0] 61)).alloc (.cells #[.int .i64 0, .int .i64 0, .int .i64 0] 107) = W0 at *
  refine (hb1.out _).mono ?_
  rintro e W0 ⟨rfl, rfl⟩
  go_wp2_with fail
  refine (hst.out _).mono ?_
  rintro e w1 ⟨rfl, hg⟩
  have H : Hid ((Arr3 w1 w.heap.size (tuN s) 0 ∧ Arr3 w1 (w.heap.size + 1) (tzN s) 0) ∧ Below w.heap.size w w1) := Lib.hid ⟨⟨e0.block (hg.block _ e0.lt (fun e => by cases e)), e1.block (hg.block _ e1.lt (fun e => by cases e))⟩, hB3.grown hg hB3.size (fun g e => by cases e)⟩
  have hT1 := e2.grown hg (fun e => by cases e)
  have c0 := hT1.cell0
  have c1 := hT1.cell1
  have c2 := hT1.cell2
  have f0 := hT1.frozen 0
  have f1 := hT1.frozen 1
  have f2 := hT1.frozen 2
  have hE1 := Lib.hid (hEn.out _ _ _ (hT1.put (.int .i64 (a : Int)) (.int .i64 (b : Int)) (.int .i64 (c : Int))))
  have H1 := Lib.hid (fun (x y z : Value) => And.intro (And.intro (((H.out.1.1.other (p := ⟨w.heap.size + 1 + 1, 0, none⟩) (by dsimp only; omega) x).other (p := ⟨w.heap.size + 1 + 1, 1, none⟩) (by dsimp only; omega) y).other (p := ⟨w.heap.size + 1 + 1, 2, none⟩) (by dsimp only; omega) z)
    (((H.out.1.2.other (p := ⟨w.heap.size + 1 + 1, 0, none⟩) (by dsimp only; omega) x).other (p := ⟨w.heap.size + 1 + 1, 1, none⟩) (by dsimp only; omega) y).other (p := ⟨w.heap.size + 1 + 1, 2, none⟩) (by dsimp only; omega) z))
    (((H.out.2.setCell (p := ⟨w.heap.size + 1 + 1, 0, none⟩) (by dsimp only; omega) x).setCell (p := ⟨w.heap.size + 1 + 1, 1, none⟩) (by dsimp only; omega) y).setCell (p := ⟨w.heap.size + 1 + 1, 2, none⟩) (by dsimp only; omega) z))
  have H2 := Lib.hid (H1.out (.int .i64 (a : Int)) (.int .i64 (b : Int)) (.int .i64 (c : Int)))
  clear e0 e1 e2 hB3 hT1 hg H H1 hb1 hst hEn
  go_wp2_with fail
  generalize ((w1.setCell ⟨w.heap.size + 1 + 1, 0, none⟩ (.int .i64 (a : Int))).setCell ⟨w.heap.size + 1 + 1, 1, none⟩ (.int .i64 (b : Int))).setCell ⟨w.heap.size + 1 + 1, 2, none⟩ (.int .i64 (c : Int)) = w2 at *
  clear c0 c1 c2 f0 f1 f2
  go_loopw [13] (fun i wr => ∃ k : Nat, k ≤ 3 ∧ i = .int .i64 (k : Int) ∧ Hid ((Arr3 wr w.heap.size (tuN s) k ∧ Arr3 wr (w.heap.size + 1) (tzN s) k) ∧ Below w.heap.size w wr) ∧ Hid (Enc wr (w.heap.size + 1 + 1) (tsN s k))) (fun i _ => 3 - (intOf i).toNat)
  case atStart => exact ⟨0, by decide, rfl, H2, hE1⟩
  case round =>
    obtain ⟨k, hk, rfl, hH, hE⟩ := hrel
    clear H2 hE1
    have l8 := hS.out k
    by_cases hlt : k < 3
    · obtain ⟨k0, k1, k2⟩ := hE.out.cells
      have h1 := Lib.hid (hF.out wr k)
      have h2 := Lib.hid (fun v => hR.out v (w.heap.size + 1 + 1) k)
      have hu2 := tailIn_lt (tsN s k)
      have hp2 := (step_lt _ l8 _ hu2).2
      have hN : Hid (nextS (tsN s k) (tailIn (tsN s k)) = tsN s (k + 1)) := Lib.hid rfl
      rw [hN.out] at h2
      have hA := Lib.hid (fun (v : World) (h : (Arr3 v w.heap.size (tuN s) k ∧ Arr3 v (w.heap.size + 1) (tzN s) k) ∧ Below w.heap.size w v) => And.intro (And.intro (((h.1.1.set hlt).other (p := ⟨w.heap.size + 1, k, none⟩) (by dsimp only; omega) (.int .u8 (tzN s k : Nat)))) ((h.1.2.other (p := ⟨w.heap.size, k, none⟩) (by dsimp only; omega) (.int .u8 (tuN s k : Nat))).set hlt))
        ((h.2.setCell (p := ⟨w.heap.size, k, none⟩) (by dsimp only; omega) (.int .u8 (tuN s k : Nat))).setCell (p := ⟨w.heap.size + 1, k, none⟩) (by dsimp only; omega) (.int .u8 (tzN s k : Nat))))
      have hAc := Lib.hid (fun (v : World) (h : (Arr3 v w.heap.size (tuN s) k ∧ Arr3 v (w.heap.size + 1) (tzN s) k) ∧ Below w.heap.size w v) => And.intro (And.intro (h.1.1.cell hlt) (h.1.2.cell hlt)) (And.intro (h.1.1.frozen k) (h.1.2.frozen k)))
      unfold tuN tzN at hA
      have hUU : Hid ((fun j => tailIn (tsN s j)) = tuN s) := Lib.hid rfl
      have hZZ : Hid ((fun j => parS7 (tsN s j) (tailIn (tsN s j))) = tzN s) := Lib.hid rfl
      rw [hUU.out, hZZ.out] at hA
      generalize parS7 (tsN s k) (tailIn (tsN s k)) = p at *
      generalize tailIn (tsN s k) = u at *
      generalize hq : tsN s (k + 1) = q at *
      have HQ := Lib.hid hq
      have hE' := hE.out
      generalize tsN s k = o at *
      have HE := Lib.hid hE'
      have hk3 : (k : Int) < 3 := by omega
      have wu : IntKind.u8.wrap (u : Int) = (u : Int) := by rw [IntWalk.u8_in _ (by omega)]
      have wp : IntKind.u8.wrap (p : Int) = (p : Int) := by rw [IntWalk.u8_in _ (by omega)]
      generalize o / 4 = oa at *
      generalize o / 2 % 2 = ob at *
      generalize o % 2 = oc at *
      clear hq hS hR hF hE hE' hUU hZZ hN
      go_wp2_with fail
      refine h1.out.mono ?_
      rintro e w3 ⟨rfl, hg⟩
      have H3 : Hid ((Arr3 w3 w.heap.size (tuN s) k ∧ Arr3 w3 (w.heap.size + 1) (tzN s) k) ∧ Below w.heap.size w w3) := Lib.hid ⟨⟨hH.out.1.1.block (hg.block _ hH.out.1.1.lt (fun e => by cases e)), hH.out.1.2.block (hg.block _ hH.out.1.2.lt (fun e => by cases e))⟩, hH.out.2.grown hg hH.out.2.size (fun g e => by cases e)⟩
      have E3 := Lib.hid (HE.out.grown hg (fun e => by cases e))
      clear h1 hg k0 k1 k2 HE hH
      go_wp2_with fail
      have h3 := Lib.hid (h2.out w3.drew E3.out)
      clear h2
      go_region_held3 (fun _ => True) (first | trivial | go_keep) (first
        | (go_at_call 69; refine h3.out.mono ?_; rintro e w4 ⟨rfl, hE4, hg4⟩; have H4 : (Arr3 w4 w.heap.size (tuN s) k ∧ Arr3 w4 (w.heap.size + 1) (tzN s) k) ∧ Below w.heap.size w w4 := ⟨⟨H3.out.1.1.block (hg4.block _ H3.out.1.1.lt (fun e => by injection e with e; omega)), H3.out.1.2.block (hg4.block _ H3.out.1.2.lt (fun e => by injection e with e; omega))⟩, H3.out.2.drew.grown hg4 H3.out.2.size (fun g e => by injection e with e; omega)⟩; obtain ⟨⟨⟨x, hx⟩, ⟨y, hy⟩⟩, fx, fy⟩ := hAc.out _ H4; have H5 := Lib.hid (hA.out _ H4); have E5 := Lib.hid ((hE4.other (p := ⟨w.heap.size, k, none⟩) (by dsimp only; omega) (.int .u8 (u : Int))).other (p := ⟨w.heap.size + 1, k, none⟩) (by dsimp only; omega) (.int .u8 (p : Int))); clear H4 hE4 hg4))
      go_wp2_with fail
      go_roundw
      case rel => exact ⟨k + 1, by omega, by go_num, H5, by rw [HQ.out]; exact E5⟩
      case measure => simp [intOf]; omega
    · obtain rfl : k = 3 := by omega
      have A := hH.out.1.1.full
      have A' := hH.out.1.2.full
      have x0 := A.cell0
      have x1 := A.cell1
      have x2 := A.cell2
      have y0 := A'.cell0
      have y1 := A'.cell1
      have y2 := A'.cell2
      have fz := A.frozen
      have fv := A'.frozen
      have fz0 := fz 0
      have fz1 := fz 1
      have fz2 := fz 2
      have fv0 := fv 0
      have fv1 := fv 1
      have fv2 := fv 2
      have HT := Lib.hid (fun (a b c d e f : Value) => And.intro (((((A.put a b c).other (p := ⟨w.heap.size + 1, 0, none⟩) (by dsimp only; omega) d).other (p := ⟨w.heap.size + 1, 1, none⟩) (by dsimp only; omega) e).other (p := ⟨w.heap.size + 1, 2, none⟩) (by dsimp only; omega) f))
        (And.intro (((((A'.other (p := ⟨w.heap.size, 0, none⟩) (by dsimp only; omega) a).other (p := ⟨w.heap.size, 1, none⟩) (by dsimp only; omega) b).other (p := ⟨w.heap.size, 2, none⟩) (by dsimp only; omega) c)).put d e f)
        ((((((hH.out.2.setCell (p := ⟨w.heap.size, 0, none⟩) (by dsimp only; omega) a).setCell (p := ⟨w.heap.size, 1, none⟩) (by dsimp only; omega) b).setCell (p := ⟨w.heap.size, 2, none⟩) (by dsimp only; omega) c).setCell (p := ⟨w.heap.size + 1, 0, none⟩) (by dsimp only; omega) d).setCell (p := ⟨w.heap.size + 1, 1, none⟩) (by dsimp only; omega) e).setCell (p := ⟨w.heap.size + 1, 2, none⟩) (by dsimp only; omega) f)))
      clear fz fv hH A A' hE hR hF hS
      generalize ha0 : tuN s 0 = a0 at *
      have Ha0 := Lib.hid ha0
      clear ha0
      generalize hb0 : tuN s 1 = b0 at *
      have Hb0 := Lib.hid hb0
      clear hb0
      generalize hc0 : tuN s 2 = c0 at *
      have Hc0 := Lib.hid hc0
      clear hc0
      generalize hd0 : tzN s 0 = d0 at *
      have Hd0 := Lib.hid hd0
      clear hd0
      generalize he0 : tzN s 1 = e0 at *
      have He0 := Lib.hid he0
      clear he0
      generalize hf0 : tzN s 2 = f0 at *
      have Hf0 := Lib.hid hf0
      clear hf0
      go_wp2_with fail
      go_region
      have HT2 := HT.out (.int .u8 (a0 : Int)) (.int .u8 (b0 : Int)) (.int .u8 (c0 : Int)) (.int .u8 (d0 : Int)) (.int .u8 (e0 : Int)) (.int .u8 (f0 : Int))
      clear HT
      go_wp2_with fail
      refine jump_ret ?_
      refine bodyPost_ret (Tail_results rfl rfl rfl HT2.1.drew HT2.2.1.drew) rfl ⟨by rw [Ha0.out, Hb0.out, Hc0.out, Hd0.out, He0.out, Hf0.out], HT2.2.2.drew⟩
/-- What Tail hands back. -/
def tailA (st : Int) : Array Value := if decide (0 ≤ st) && decide (st < 8) then b3 (tailU st.toNat) else b3 [0, 0, 0]
def tailB (st : Int) : Array Value := if decide (0 ≤ st) && decide (st < 8) then b3 (tailZ st.toNat) else b3 [0, 0, 0]
def tailE (st : Int) : Int := if decide (0 ≤ st) && decide (st < 8) then 0 else 2
set_option maxHeartbeats 1000000 in
theorem Tail_no {st : Int} {w : World} (h : (decide (0 ≤ st) && decide (st < 8)) = false) :
    Calls Tryd.prog 55 #[.int .i64 st] w fun e w' => e = .returned (.tuple #[.agg (b3 [0, 0, 0]), .agg (b3 [0, 0, 0]), .int .i64 2]) ∧ Below w.heap.size w w' := by
  have hb1 := Lib.hid (fun (v : World) => below_any (v := st) (e := 8) (w := v))
  rw [h] at hb1
  rw [b3_eq]
  have e0 := ((Three.new w 61 (.int .u8 0) (.int .u8 0) (.int .u8 0)).alloc (.cells #[.int .u8 0, .int .u8 0, .int .u8 0] 61)).alloc (.cells #[.int .i64 0, .int .i64 0, .int .i64 0] 107)
  have e1 := (Three.new (w.alloc (.cells #[.int .u8 0, .int .u8 0, .int .u8 0] 61)) 61 (.int .u8 0) (.int .u8 0) (.int .u8 0)).alloc (.cells #[.int .i64 0, .int .i64 0, .int .i64 0] 107)
  rw [World.size_alloc] at e1
  have hB3 := ((below_two (w := w) (.cells #[.int .u8 0, .int .u8 0, .int .u8 0] 61) (.cells #[.int .u8 0, .int .u8 0, .int .u8 0] 61))).alloc (by simp; omega) (.cells #[.int .i64 0, .int .i64 0, .int .i64 0] 107)
  clear h
  go_enter Tryd.func55, Tryd.ntmps55
  go_wp2
  refine wp_scope_forward 0 rfl ?_
  go_wp2_with fail
  generalize ((w.alloc (.cells #[.int .u8 0, .int .u8 0, .int .u8 0] 61)).alloc (.cells #[.int .u8 0, .int .u8 0, .int .u8 0] 61)).alloc (.cells #[.int .i64 0, .int .i64 0, .int .i64 0] 107) = W0 at *
  refine (hb1.out _).mono ?_
  rintro e W0 ⟨rfl, rfl⟩
  have x0 := e0.cell0
  have x1 := e0.cell1
  have x2 := e0.cell2
  have y0 := e1.cell0
  have y1 := e1.cell1
  have y2 := e1.cell2
  have fz0 := e0.frozen 0
  have fz1 := e0.frozen 1
  have fz2 := e0.frozen 2
  have fv0 := e1.frozen 0
  have fv1 := e1.frozen 1
  have fv2 := e1.frozen 2
  have HT := Lib.hid (fun (a b c d e f : Value) => And.intro (((((e0.put a b c).other (p := ⟨w.heap.size + 1, 0, none⟩) (by dsimp only; omega) d).other (p := ⟨w.heap.size + 1, 1, none⟩) (by dsimp only; omega) e).other (p := ⟨w.heap.size + 1, 2, none⟩) (by dsimp only; omega) f))
    (And.intro (((((e1.other (p := ⟨w.heap.size, 0, none⟩) (by dsimp only; omega) a).other (p := ⟨w.heap.size, 1, none⟩) (by dsimp only; omega) b).other (p := ⟨w.heap.size, 2, none⟩) (by dsimp only; omega) c)).put d e f)
    ((((((hB3.setCell (p := ⟨w.heap.size, 0, none⟩) (by dsimp only; omega) a).setCell (p := ⟨w.heap.size, 1, none⟩) (by dsimp only; omega) b).setCell (p := ⟨w.heap.size, 2, none⟩) (by dsimp only; omega) c).setCell (p := ⟨w.heap.size + 1, 0, none⟩) (by dsimp only; omega) d).setCell (p := ⟨w.heap.size + 1, 1, none⟩) (by dsimp only; omega) e).setCell (p := ⟨w.heap.size + 1, 2, none⟩) (by dsimp only; omega) f)))
  clear e0 e1 hB3 hb1
  go_wp2_with fail
  go_step3
  refine ⟨rfl, ?_⟩
  go_wp2_with fail
  go_region
  have HT2 := HT.out (.int .u8 0) (.int .u8 0) (.int .u8 0) (.int .u8 0) (.int .u8 0) (.int .u8 0)
  clear HT
  go_wp2_with fail
  rw [Exit.noGoto_ret]
  refine bodyPost_ret (Tail_results rfl rfl rfl HT2.1.drew HT2.2.1.drew) rfl ⟨rfl, HT2.2.2.drew⟩
theorem Tail_any {st : Int} {w : World} : Calls Tryd.prog 55 #[.int .i64 st] w fun e w' => e = .returned (.tuple #[.agg (tailA st), .agg (tailB st), .int .i64 (tailE st)]) ∧ Below w.heap.size w w' := by
  unfold tailA tailB tailE
  by_cases h : (decide (0 ≤ st) && decide (st < 8)) = true
  · rw [if_pos h, if_pos h, if_pos h]
    simp at h
    obtain ⟨s, rfl⟩ := Int.eq_ofNat_of_zero_le h.1
    exact Tail_ok (by omega)
  · have h := Bool.eq_false_iff.2 h
    rw [h]
    exact Tail_no h
end

/-! ### steps and its iterator; a range over it. -/
section
open Go.RowKit Go.Shelf BigFrame

attribute [local go_sem] Oper.semAt_some

/-- One element: the state behind it, and the number that is yielded. -/
def goS (s : Nat) (x : Int) : Nat := if x ≤ 1 then nextS s x.toNat else s
def goP (s : Nat) (x : Int) : Int := if x ≤ 1 then ((parS7 s x.toNat : Nat) : Int) else -1
/-- The state behind k elements; the k-th yielded number. -/
def stK (xs : List Int) : Nat → Nat
  | 0 => 0
  | k + 1 => goS (stK xs k) (xs[k]?.getD 0)
def paK (xs : List Int) (k : Nat) : Int := goP (stK xs k) (xs[k]?.getD 0)
theorem stK_lt {xs : List Int} (hb : Byte xs) : ∀ k, stK xs k < 8
  | 0 => (by decide : (0 : Nat) < 8)
  | k + 1 => by
    show goS _ _ < 8
    unfold goS
    have h := hb k
    split
    · exact (step_lt _ (stK_lt hb k) _ (by omega)).1
    · exact stK_lt hb k
theorem Enc.zero (w : World) (t : TypeId) : Enc (w.alloc (.cells #[.int .i64 0, .int .i64 0, .int .i64 0] t)) w.heap.size 0 := ⟨t, Three.new w t (.int .i64 0) (.int .i64 0) (.int .i64 0)⟩
/-- How the body of a round may be left. -/
def stepPost (B : Nat) (I : Nat → World → Prop) (Ix : Code → World → Prop) (k : Nat) (W : World) : Exit → Act → World → Prop
  | .normal, _, W' => KeepsFrom B W W' ∧ W'.heap[B + 2]? = W.heap[B + 2]? ∧ I k W'
  | .ret, _, W' => KeepsFrom B W W' ∧ Ix .ret W'
  | .exit id, _, W' => KeepsFrom B W W' ∧ Ix (.exit id) W'
  | .goto t, _, W' => KeepsFrom B W W' ∧ Ix (.goto t) W'
  | .panic _, _, _ => False
  | .outgrown, _, _ => False
end

/-! ### Encode. -/
section
set_option maxRecDepth 100000
open Go.RowKit Go.Shelf BigFrame

attribute [local go_sem] Oper.semAt_some

theorem wpIn_wide_scope_forward {P : Program} {n : Nat} {a : Act} {w : World} {Q : Exit → Act → World → Prop} {c rest : Code} (l : Nat) (hf : findLabel c l = some rest)
    (first : c.wpIn Fence.wide n P (Exit.jump l (fun a w => rest.wpIn Fence.wide n P (Exit.noGoto Q) a w) Q) a w) : (Code.scope c).wpIn Fence.wide n P Q a w :=
  wpIn_wide.2 (wp_scope_forward l hf (Code.wp_mono (fun e a w h => by
    cases e with
    | goto l' => exact ⟨h.1, wpIn_wide.1 h.2⟩
    | _ => exact h) (wpIn_wide.1 first)))
theorem wpListIn_append_run {F : Fence} {n : Nat} {P : Program} {w w2 : World} {ops : Array Oper} {rest : List Oper} {o : Oper} {a : Act} {Q : Exit → Act → World → Prop}
    (hg : o.guard = none) (s x : Operand) (t : TypeId) (hop : o.op = Op.call { callee := Callee.builtin Builtin.append, args := #[s, x], argTypes := #[t, t] })
    (v1 v2 v' : Value) (hs : a.eval s = v1) (hx : a.eval x = v2) (hrun : (Builtin.append_ #[t, t] o.type #[v1, v2]).run P w = .ok v' w2)
    (hK : wpListIn F n P ops Q rest (a.put o.dst v') w2) : wpListIn F n P ops Q (o :: rest) a w := by
  refine wpListIn_plain hg fun K hK' => ?_
  unfold Oper.wpIn
  refine ⟨?_, ?_⟩
  · simp [Oper.about, hop, resolve, Target.leads, Sem.run_pure]
  · rw [Oper.semAt_plain F _ _ (by rw [hop]; intro c hc'; cases hc')]
    simp [execOp, hop, resolve, invoke, builtin, hs, hx, hrun, Result.andThen]
    exact hK' _ _ hK
/-- A function with one mark returns. -/
theorem leaves_one {P : Program} {F : Fence} {n : Nat} {fn : Func} {tmps : Array Value} {R : Ending → World → Prop} {D : Nat} {w : World} (hD : w.heap[D]? = some (.deferred (some [])))
    (h : ∃ v, (results fn tmps).run P (w.putObj D (.deferred none)) = .ok v (w.putObj D (.deferred none)) ∧ R (.returned v) (w.putObj D (.deferred none))) : LeavesInM F n P fn tmps R [mkD D] .returning w :=
  ⟨by simp, .inl ⟨D, _, rfl, run_takeDeferred hD, h⟩⟩
theorem below_put {B : Nat} {v w : World} (h : Below B v w) {D : Nat} (o : Obj) (hD : B ≤ D) (hv : B ≤ v.heap.size) : Below B v (w.putObj D o) := h.grown (grownBy_putObj' w D o) (Nat.le_trans hv h.size) (fun k e => by cases e; exact hD)
theorem Boxed.putOther {w : World} {B D : Nat} {t : TypeId} {v : Value} (h : Boxed w B t v) (o : Obj) (hne : B ≠ D) : Boxed (w.putObj D o) B t v := h.kept (grownBy_putObj' w D o) (fun e => hne (by injection e))
/-- append of one byte: where the new row lies. -/
theorem append_byte {w : World} {base : Nat} {A : Option Addr} {n c : Nat} {xs : List Int} {x : Int} (hO : w.ownsRow base 5 1 (.slice A n c) n (xs.map (Value.int .u8))) (hn : n < 2199023255552) (hb : base ≤ w.heap.size) :
    ∃ A2 c2 w2, (Builtin.append_ #[22, 22] 22 #[.slice A n c, .slice (some ⟨w.heap.size, 0, none⟩) 1 1]).run Tryd.prog (w.alloc (.cells #[.int .u8 x] 5)) = .ok (.slice A2 (n + 1) c2) w2 ∧
      w2.ownsRow base 5 1 (.slice A2 (n + 1) c2) (n + 1) ((xs ++ [x]).map (Value.int .u8)) ∧ (w.alloc (.cells #[.int .u8 x] 5)).grownBy w2 (Value.slice A n c).ownBlock ∧ ((Value.slice A2 (n + 1) c2).ownBlock = (Value.slice A n c).ownBlock ∨ (Value.slice A2 (n + 1) c2).ownBlock = some (w.heap.size + 1)) := by
  obtain ⟨i0, hi, hz0, hz1, hz2⟩ := info_parts Tryd.info_u8
  have hO' : (w.alloc (.cells #[.int .u8 x] 5)).ownsRow base 5 1 (.slice A n c) n (xs.map (Value.int .u8)) := hO.alloc _
  have hR : Rd .u8 (w.alloc (.cells #[.int .u8 x] 5)) (w.heap.size + 1) (some ⟨w.heap.size, 0, none⟩) 1 [x] := by
    refine ⟨rfl, fun k hk => ⟨w.heap.size, 0, rfl, by omega, ?_⟩⟩
    obtain rfl : k = 0 := by omega
    simp
  obtain ⟨V2, w2, h1, h2, h3, h4⟩ := run_append_rd_at (P := Tryd.prog) (t := 22) (ty := 22) (c' := 1) Tryd.underlying22 hi hz0 hz1 hz2 hO' hR (by omega) (by simp; omega)
  obtain ⟨A2, c2, rfl⟩ := ownsRow_shape h2
  rw [World.size_alloc] at h4
  exact ⟨A2, c2, w2, h1, h2, h3, h4⟩
/-- The parity bits of the first k elements. -/
def paL (xs : List Int) (k : Nat) : List Int := (List.range k).map (paK xs)
theorem paL_length (xs : List Int) (k : Nat) : (paL xs k).length = k := by simp [paL]
theorem paL_snoc (xs : List Int) (k : Nat) : paL xs (k + 1) = paL xs k ++ [paK xs k] := by simp [paL, List.range_succ]
/-- Where Encode's loop is. -/
structure EncI (w : World) (E C : Nat) (A : Option Addr) (L c : Nat) (xs : List Int) (k : Nat) (W : World) : Prop where
  le : k ≤ L
  bits : ∀ j, j < k → xs[j]?.getD 0 ≤ 1
  pbox : ∃ V, Boxed W w.heap.size 22 V ∧ W.ownsRow (w.heap.size + 2) 5 1 V k ((paL xs k).map (Value.int .u8)) ∧ V.ownBlock ≠ some E
  sbox : Boxed W (w.heap.size + 1) 3 (.int .i64 (stK xs k : Nat))
  cbox : Boxed W C 22 (.slice A L c)
  inp : Rd .u8 W w.heap.size A L xs
  low : Below w.heap.size w W
theorem ownsRow_block {w w' : World} {base : Nat} {e : TypeId} {v : Value} {n : Nat} {xs : List Value} (h : w.ownsRow base e 1 v n xs) (hk : ∀ g, v.ownBlock = some g → w'.heap[g]? = w.heap[g]?) : w'.ownsRow base e 1 v n xs := by
  refine ⟨h.1, ?_⟩
  rcases h.2 with h2 | ⟨g, cap, cur, rfl, hb, hg, rest⟩
  · exact .inl h2
  · exact .inr ⟨g, cap, cur, rfl, hb, (hk g rfl).trans hg, rest⟩
theorem cells_kept {W W' : World} {b : Nat} {a : Array Value} {t : TypeId} {fr : Nat × Nat} {row : Option Nat} (hb : W.heap[b]? = some (.cells a t fr)) (hg : W.grownBy W' row) (hr : ∀ r, row = some r → ∃ o : Obj, W.heap[r]? = some o ∧ o.isCells = false) : W'.heap[b]? = W.heap[b]? :=
  hg.block b (Array.getElem?_eq_some_iff.1 hb).1 (fun e => by
    obtain ⟨o, ho, hc⟩ := hr b e.symm
    rw [hb] at ho
    injection ho with ho
    subst ho
    cases hc)
theorem ownsRow_block_of {W : World} {base n g : Nat} {e : TypeId} {v : Value} {xs : List Value} (h : W.ownsRow base e 1 v n xs) (hg : v.ownBlock = some g) : ∃ a fr, W.heap[g]? = some (.cells a e fr) := by
  rcases h.2 with ⟨h1, _⟩ | ⟨g', cap, cur, hv, _, hg', _⟩
  · subst h1; cases hg
  · subst hv
    simp only [Value.ownBlock, Option.some.injEq] at hg
    subst hg
    exact ⟨_, _, hg'⟩
section
variable {w : World} {E C : Nat} {A : Option Addr} {L c : Nat} {xs : List Int} {k : Nat} {W W' : World}
theorem EncI.keep (h : EncI w E C A L c xs k W) (hb : Below w.heap.size w W') (hlow : ∀ b, b < w.heap.size → W'.heap[b]? = W.heap[b]?) (hk : ∀ b a t fr, W.heap[b]? = some (.cells a t fr) → b ≠ E → W'.heap[b]? = W.heap[b]?) (h1 : w.heap.size + 1 < E) (h2 : C < E) : EncI w E C A L c xs k W' := by
  obtain ⟨V, hV, hO, hE⟩ := h.pbox
  refine ⟨h.le, h.bits, ⟨V, (hk _ _ _ _ hV (by omega)).trans hV, ownsRow_block hO (fun g hg => ?_), hE⟩, (hk _ _ _ _ h.sbox (by omega)).trans h.sbox, (hk _ _ _ _ h.cbox (by omega)).trans h.cbox, h.inp.keep (fun p hp => World.cell?_of_block (hlow _ hp)), hb⟩
  obtain ⟨a, fr, ha⟩ := ownsRow_block_of hO hg
  exact hk _ _ _ _ ha (fun e => hE (by rw [hg, e]))
theorem EncI.own {N : Nat} (hN : w.heap.size ≤ N) (h1 : w.heap.size + 1 < E) (h2 : C < E) : OwnFrom N (EncI w E C A L c xs) := by
  intro k W W' row h hg hr
  have hr' : ∀ r, row = some r → ∃ o : Obj, W.heap[r]? = some o ∧ o.isCells = false := fun r e => (hr r e).2
  refine h.keep (h.low.grown hg h.low.size (fun r e => Nat.le_trans hN (hr r e).1)) (fun b hb => hg.block b (Nat.lt_of_lt_of_le hb h.low.size) (fun e => by have := (hr b e.symm).1; omega)) (fun b a t fr hb _ => cells_kept hb hg hr') h1 h2
theorem EncI.span (h1 : w.heap.size + 1 < E) (h2 : C < E) : SpanFrom E 1 (EncI w E C A L c xs) := by
  intro k W W' r h hg hr1 hr2
  obtain rfl : r = E := by omega
  exact h.keep (h.low.grown hg h.low.size (fun q e => by cases e; omega)) (fun b hb => hg.block b (Nat.lt_of_lt_of_le hb h.low.size) (fun e => by injection e with e; omega)) (fun b a t fr hb hne => hg.block b (Array.getElem?_eq_some_iff.1 hb).1 (fun e => hne (by injection e))) h1 h2
end
/-- The blocks behind one append. -/
theorem EncI.step {w : World} {E C : Nat} {A : Option Addr} {L c : Nat} {xs : List Int} {k : Nat} {W w2 : World} {A1 A2 : Option Addr} {c1 c2 : Nat} {x : Int} (h : EncI w E C A L c xs k W) (hk : k < L) (h1 : w.heap.size + 1 < E) (hC : w.heap.size + 1 < C) (hE : E < W.heap.size) (hx : paK xs k = x) (hx1 : xs[k]?.getD 0 ≤ 1)
    (hV : Boxed W w.heap.size 22 (.slice A1 k c1)) (hO : W.ownsRow (w.heap.size + 2) 5 1 (.slice A1 k c1) k ((paL xs k).map (Value.int .u8))) (hne : (Value.slice A1 k c1).ownBlock ≠ some E)
    (hO2 : w2.ownsRow (w.heap.size + 2) 5 1 (.slice A2 (k + 1) c2) (k + 1) ((paL xs k ++ [x]).map (Value.int .u8))) (hg : (W.alloc (.cells #[.int .u8 x] 5)).grownBy w2 (Value.slice A1 k c1).ownBlock) (hp : (Value.slice A2 (k + 1) c2).ownBlock = (Value.slice A1 k c1).ownBlock ∨ (Value.slice A2 (k + 1) c2).ownBlock = some (W.heap.size + 1)) :
    Boxed w2 w.heap.size 22 (.slice A1 k c1) ∧ Boxed w2 (w.heap.size + 1) 3 (.int .i64 (stK xs k : Nat)) ∧
    (EncI w E C A L c xs (k + 1) ((w2.setCell ⟨w.heap.size, 0, none⟩ (.slice A2 (k + 1) c2)).setCell ⟨w.heap.size + 1, 0, none⟩ (.int .i64 (stK xs (k + 1) : Nat)))) ∧ KeepsOthers W ((w2.setCell ⟨w.heap.size, 0, none⟩ (.slice A2 (k + 1) c2)).setCell ⟨w.heap.size + 1, 0, none⟩ (.int .i64 (stK xs (k + 1) : Nat))) ∧
    ((w2.setCell ⟨w.heap.size, 0, none⟩ (.slice A2 (k + 1) c2)).setCell ⟨w.heap.size + 1, 0, none⟩ (.int .i64 (stK xs (k + 1) : Nat))).heap[E]? = W.heap[E]? := by
  have tne : (22 : TypeId) ≠ 5 := by decide
  have tne2 : (3 : TypeId) ≠ 5 := by decide
  have hlw := h.low.size
  have hv2 : Boxed w2 w.heap.size 22 (.slice A1 k c1) := (hV.alloc _).kept hg (hV.not_row tne hO)
  have hs2 : Boxed w2 (w.heap.size + 1) 3 (.int .i64 (stK xs k : Nat)) := (h.sbox.alloc _).kept hg (h.sbox.not_row tne2 hO)
  have hc2 : Boxed w2 C 22 (.slice A L c) := (h.cbox.alloc _).kept hg (h.cbox.not_row tne hO)
  have hEk : w2.heap[E]? = W.heap[E]? := (hg.block E (by simp; omega) (fun e => hne e.symm)).trans (Below.heap_alloc _ _ _ hE)
  have hbw : Below w.heap.size w w2 := ((h.low.alloc hlw _).grown hg (by simp; omega) (fun j ej => by have := (hO.lt j ej).1; omega))
  have hko : KeepsOthers W w2 := (KeepsOthers.alloc W _).trans (KeepsOthers.of_grownBy hg fun j o ej hj => by
    obtain ⟨a, fr, ha⟩ := ownsRow_block_of (hO.alloc _) ej
    rw [ha] at hj; cases hj; rfl)
  have b1 : (w2.setCell ⟨w.heap.size, 0, none⟩ (.slice A2 (k + 1) c2)).heap.size = w2.heap.size := by simp [World.setCell]
  refine ⟨hv2, hs2, ⟨hk, fun j hj => ?_, ⟨.slice A2 (k + 1) c2, (hv2.set _).other (by omega) _, ?_, ?_⟩, (hs2.other (by omega) _).set _, (hc2.other (by omega) _).other (by omega) _, ?_, ?_⟩, (hko.trans (KeepsOthers.setCell _ _ _)).trans (KeepsOthers.setCell _ _ _), ?_⟩
  · rcases Nat.lt_or_ge j k with h' | h'
    · exact h.bits j h'
    · obtain rfl : j = k := by omega
      exact hx1
  · rw [paL_snoc, hx]
    refine ownsRow_block hO2 (fun g hg' => ?_)
    have := (hO2.lt g hg').1
    rw [Below.heap_setCell _ _ _ _ (by dsimp only; omega), Below.heap_setCell _ _ _ _ (by dsimp only; omega)]
  · rcases hp with hp | hp
    · rw [hp]; exact hne
    · rw [hp]; intro e; injection e with e; omega
  · exact h.inp.keep (fun p hp => World.cell?_of_block (by
      rw [Below.heap_setCell _ _ _ _ (by dsimp only; omega), Below.heap_setCell _ _ _ _ (by dsimp only; omega)]
      exact (hbw.block p.block hp).trans (h.low.block p.block hp).symm))
  · exact (hbw.setCell (p := ⟨w.heap.size, 0, none⟩) (Nat.le_refl _) _).setCell (p := ⟨w.heap.size + 1, 0, none⟩) (by dsimp only; omega) _
  · rw [Below.heap_setCell _ _ _ _ (by dsimp only; omega), Below.heap_setCell _ _ _ _ (by dsimp only; omega)]
    exact hEk
theorem EncI.valid {w : World} {E C : Nat} {A : Option Addr} {L c : Nat} {xs : List Int} {W : World} (h : EncI w E C A L c xs L W) : validB xs = true := by
  simp only [validB, List.all_eq_true, decide_eq_true_eq]
  intro x hx
  obtain ⟨j, hj, rfl⟩ := List.getElem_of_mem hx
  have := h.bits j (by rw [← h.inp.len]; exact hj)
  simpa [hj] using this
/-- What Encode hands back. -/
def RetE (w : World) (r : List Int) (s : Nat) (no : Int) (e : Ending) (w' : World) : Prop :=
  ∃ A' c', e = .returned (.tuple #[.slice A' r.length c', .int .i64 (s : Int), .int .i64 no]) ∧ w'.ownsRow w.heap.size 5 1 (.slice A' r.length c') r.length (r.map (Value.int .u8)) ∧ Below w.heap.size w w'
def encR (xs : List Int) : List Int := if validB xs then paL xs xs.length else []
def encN (xs : List Int) : Nat := if validB xs then stK xs xs.length else 0
def encE (xs : List Int) : Int := if validB xs then 0 else 3
theorem RetE.mk_ {w w' : World} {A : Option Addr} {k c s B : Nat} {r : List Int} {no : Int} (hk : r.length = k) (ho : w'.ownsRow B 5 1 (.slice A k c) k (r.map (Value.int .u8))) (hB : w.heap.size ≤ B) (hb : Below w.heap.size w w') : RetE w r s no (.returned (.tuple #[.slice A k c, .int .i64 (s : Int), .int .i64 no])) w' := by
  subst hk
  exact ⟨A, c, rfl, ho.mono hB, hb⟩
end
end Go.Proofs.YtbpkoilecdejiaaDoor
