/-
  shift, step.
-/
import Derived.Test.YtjehfdnkdfmmbaaT1
import Derived.RegionTactic
import Derived.BigRegion
import Derived.Deep.RegionLaw
namespace Go.Proofs.Ytjehfdnkdfmmbaa
open Go.RowKit

theorem shift_any {B : Nat} {t : TypeId} {x a b c : Int} {w : World} (hT : Three w B t (.int .i64 a) (.int .i64 b) (.int .i64 c)) :
    Calls Try.prog 41 #[.pointer (some ⟨B, 0, none⟩), .int .i64 x] w fun e w' => e = .returned (.tuple #[]) ∧ w'.heap[B]? = some (.cells #[.int .i64 x, .int .i64 a, .int .i64 b] t) ∧ w.grownBy w' (some B) := by
  have c0 := hT.cell0
  have c1 := hT.cell1
  have c2 := hT.cell2
  have f0 := hT.frozen 0
  have f1 := hT.frozen 1
  have f2 := hT.frozen 2
  have H := Lib.hid (hT.put (.int .i64 x) (.int .i64 a) (.int .i64 b))
  have G := Lib.hid (put_grown w B (.int .i64 x) (.int .i64 a) (.int .i64 b))
  clear hT
  go_enter Try.func41, Try.ntmps41
  go_wp2_with fail
  go_still_tail 12, (by kernel_rfl)
  change wpList _ _ _ _ _ w.drew
  go_wp2
  go_end0
  exact ⟨rfl, H.out, grown_drewN G.out 1⟩
theorem Enc.three {w : World} {B s : Nat} (h : Enc w B s) : ∃ t, Three w B t (.int .i64 ((s / 4 : Nat) : Int)) (.int .i64 ((s / 2 % 2 : Nat) : Int)) (.int .i64 ((s % 2 : Nat) : Int)) := h
theorem Enc.lt {w : World} {B s : Nat} (h : Enc w B s) : B < w.heap.size := by obtain ⟨t, h⟩ := h; exact h.lt
theorem Enc.block {w w' : World} {B s : Nat} (h : Enc w B s) (hb : w'.heap[B]? = w.heap[B]?) : Enc w' B s := by obtain ⟨t, h⟩ := h; exact ⟨t, h.block hb⟩
theorem Enc.grown {w w' : World} {B s : Nat} {row : Option Nat} (h : Enc w B s) (hg : w.grownBy w' row) (hr : some B ≠ row) : Enc w' B s := by obtain ⟨t, h⟩ := h; exact ⟨t, h.grown hg hr⟩
set_option maxHeartbeats 1000000 in
theorem step_any {B s u : Nat} {w : World} (hE : Enc w B s) (hs : s < 8) (hu : u < 2) :
    Calls Try.prog 31 #[.pointer (some ⟨B, 0, none⟩), .int .i64 (u : Int)] w fun e w' => e = .returned (.int .i64 (parS7 s u : Nat)) ∧ Enc w' B (nextS s u) ∧ w.grownBy w' (some B) := by
  obtain ⟨t, hT⟩ := hE
  obtain ⟨x1, x2, x3, n1, n2, n3⟩ := step_bits s hs u hu
  have hF := Lib.hid (fun (v : World) => feedback_any (w := v) hs)
  unfold encV encA at hF
  have hN : Hid (∀ (w' : World) t', Three w' B t' (.int .i64 ((fbN s u : Nat) : Int)) (.int .i64 ((s / 4 : Nat) : Int)) (.int .i64 ((s / 2 % 2 : Nat) : Int)) → Enc w' B (nextS s u)) := Lib.hid (fun w' t' h => ⟨t', by rw [n1, n2, n3]; exact h⟩)
  have hlt := hT.lt
  clear n1 n2 n3
  generalize parS7 s u = p at *
  generalize fbN s u = f at *
  generalize tailIn s = tn at *
  generalize nextS s u = nx at *
  generalize (f + s / 4) % 2 = y at *
  generalize s / 4 = a at *
  generalize s / 2 % 2 = b at *
  generalize s % 2 = c at *
  have hSh := Lib.hid (fun (v : World) (h : Three v B t (.int .i64 (a : Int)) (.int .i64 (b : Int)) (.int .i64 (c : Int))) => shift_any (x := (f : Int)) h)
  have c0 := hT.cell0
  have c1 := hT.cell1
  have c2 := hT.cell2
  clear hs hu
  go_enter Try.func31, Try.ntmps31
  go_wp2_with fail
  refine (hF.out _).mono ?_
  rintro e w1 ⟨rfl, hg⟩
  have hT1 := hT.grown hg (fun e => by cases e)
  have c0 := hT1.cell0
  have c1 := hT1.cell1
  have c2 := hT1.cell2
  have H1 := Lib.hid hT1
  have HG := Lib.hid hg
  clear hT hT1 hg hF
  go_wp2_with fail
  go_quiet (fail)
  go_wp2_with fail
  refine (hSh.out (w1.drewN nq) H1.out).mono ?_
  rintro e w2 ⟨rfl, hb, hg⟩
  have HE := Lib.hid (hN.out w2 t hb)
  have HG2 := Lib.hid (grown_two HG.out (grown_two (grown_drewN (World.grownBy.refl w1 none) nq) hg))
  clear c0 c1 c2 H1 HG hN hSh hb hg
  go_wp2_with fail
  go_ret
  exact ⟨rfl, HE.out, HG2.out⟩
end Go.Proofs.Ytjehfdnkdfmmbaa
