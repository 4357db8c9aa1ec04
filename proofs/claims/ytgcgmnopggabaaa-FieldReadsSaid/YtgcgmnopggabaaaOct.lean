/-
  The reader: octet, GetBytes.
-/
import Derived.Test.YtgcgmnopggabaaaOctM
namespace Go.Proofs.Ytgcgmnopggabaaa
open Go.RowKit

theorem moved8 {w : World} {B n c p : Nat} {A : Option Addr} {xs : List Int} (h : RdrAt w B A n c xs p) (hp : p + 8 ≤ 8 * n) (i : Nat) : RdrAt ((w.drewN i).setCell ⟨B, 1, none⟩ (.int .i64 ((p : Int) + 8))) B A n c xs (p + 8) ∧ Save (· = B) w ((w.drewN i).setCell ⟨B, 1, none⟩ (.int .i64 ((p : Int) + 8))) := by
  have hs : Save (· = B) w ((w.drewN i).setCell ⟨B, 1, none⟩ (.int .i64 ((p : Int) + 8))) := ((Save.refl (· = B) w).drewN i).setCell (p := ⟨B, 1, none⟩) (fun _ => rfl) _
  have hT : Two (w.drewN i) B 57 (.slice A n c) (.int .i64 p) := h.blk
  refine ⟨h.moved hs ?_ hp, hs⟩
  have := hT.set1 (.int .i64 ((p : Int) + 8))
  push_cast
  exact this
theorem RdrAt.drewN {w : World} {B n c p : Nat} {A : Option Addr} {xs : List Int} (h : RdrAt w B A n c xs p) (i : Nat) : RdrAt (w.drewN i) B A n c xs p := ⟨h.blk, h.row.drewN i, h.far, h.low, h.byte, h.size, h.pos⟩
set_option maxRecDepth 100000 in
set_option maxHeartbeats 2000000 in
theorem octet_any {w : World} {B n c p : Nat} {A : Option Addr} {xs : List Int} (h : RdrAt w B A n c xs p) (hp : p + 8 ≤ 8 * n) :
    Calls Try.prog 49 #[.pointer (some ⟨B, 0, none⟩)] w fun e w' => e = .returned (.int .u8 (octV xs p)) ∧ RdrAt w' B A n c xs (p + 8) ∧ Save (· = B) w w' := by
  have c0 := h.blk.cell0
  have c1 := h.blk.cell1
  have f1 := h.blk.frozen 1
  have hsz := h.size
  have hlow := h.low
  have hfar := h.far
  obtain ⟨b, off, rfl, hb, hc⟩ := h.row.cells (p / 8) (by omega)
  have hbB : b ≠ B := hfar _ rfl
  have hd8 : IntKind.i64.wrap ((p : Int) / 8) = (p : Int) / 8 := IntWalk.i64_in _ (by omega)
  have hm8 : (p : Int).tmod 8 = (p : Int) % 8 := IntWalk.rem_in _ _ (by omega)
  have hmw : IntKind.i64.wrap ((p : Int) % 8) = (p : Int) % 8 := IntWalk.i64_in _ (by omega)
  have hpw : IntKind.i64.wrap ((p : Int) + 8) = (p : Int) + 8 := IntWalk.i64_in _ (by omega)
  have hi0 : (0 : Int) ≤ (p : Int) / 8 := by omega
  have hi1 : (p : Int) / 8 < (n : Int) := by omega
  have hi2 : ((p : Int) / 8).toNat = p / 8 := by omega
  have HH := Lib.hid h
  by_cases hu : p % 8 = 0
  · have hd : ((p : Int) % 8 == 0) = true := by simp; omega
    have hv := Lib.hid (octV_aligned h.byte hu)
    clear h hlow hfar
    go_enter Try.func49, Try.ntmps49
    go_wp2_with fail
    go_quiet (fail)
    go_wp2_with fail
    go_ret
    have hM := moved8 HH.out hp nq
    exact ⟨by rw [← hv.out]; rfl, hM.1, hM.2⟩
  · have hd : ((p : Int) % 8 == 0) = false := by simp; omega
    have hv := Lib.hid (octV_across h.byte hu)
    obtain ⟨b', off', e, hb', hc'⟩ := h.row.cells (p / 8 + 1) (by omega)
    injection e with e
    injection e with e1 e2
    subst e1 e2
    go_enter Try.func49, Try.ntmps49
    go_wp2_with fail
    go_quiet (fail)
    go_wp2_with fail
    have hM := moved8 HH.out hp nq
    have hfb : ∀ k : Nat, World.cell? ((w.drewN nq).setCell ⟨B, 1, none⟩ (.int .i64 ((p : Int) + 8))) ⟨b, k, none⟩ = w.cell? ⟨b, k, none⟩ := fun k => hM.2.cell (p := ⟨b, k, none⟩) hb hbB
    obtain ⟨W5, hW5⟩ : ∃ W5, W5 = (w.drewN nq).setCell ⟨B, 1, none⟩ (.int .i64 ((p : Int) + 8)) := ⟨_, rfl⟩
    rw [← hW5] at hM hfb ⊢
    have HM := Lib.hid hM
    have c0' := hM.1.blk.cell0
    have hc5 := (hfb (off + p / 8)).trans hc
    have hc6 := (hfb (off + (p / 8 + 1))).trans hc'
    have hx1 := h.byte (p / 8)
    have hx2 := h.byte (p / 8 + 1)
    generalize xs[p / 8]?.getD 0 = x at *
    generalize xs[p / 8 + 1]?.getD 0 = y at *
    have hj0 : (0 : Int) ≤ (p : Int) / 8 + 1 := by omega
    have hj1 : (p : Int) / 8 + 1 < (n : Int) := by omega
    have hj2 : ((p : Int) / 8 + 1).toNat = p / 8 + 1 := by omega
    have hj3 : IntKind.i64.wrap ((p : Int) / 8 + 1) = (p : Int) / 8 + 1 := IntWalk.i64_in _ (by omega)
    have hs0 : (0 : Int) ≤ (p : Int) % 8 := by omega
    have hs1 : (0 : Int) ≤ 8 - (p : Int) % 8 := by omega
    have hs2 : IntKind.i64.wrap (8 - (p : Int) % 8) = 8 - (p : Int) % 8 := IntWalk.i64_in _ (by omega)
    have hs3 : ((p : Int) % 8).toNat = p % 8 := by omega
    have hs4 : (8 - (p : Int) % 8).toNat = 8 - p % 8 := by omega
    clear hW5 hM hfb h hc hc' c0 c1 f1 hlow hfar
    go_quiet (fail)
    go_wp2_with fail
    go_ret
    exact ⟨by rw [← hv.out]; rfl, HM.out.1.drewN _, HM.out.2.drewN _⟩

def gbE (n p : Nat) (k : Int) : Int := if k < 0 then 2 else if (((8 * n - p) / 8 : Nat) : Int) < k then 5 else 0
def octL (xs : List Int) (p m : Nat) : List Int := (List.range m).map fun i => octV xs (p + 8 * i)
def gbL (xs : List Int) (n p : Nat) (k : Int) : List Int := if gbE n p k = 0 then octL xs p k.toNat else []
def gbP (n p : Nat) (k : Int) : Nat := if gbE n p k = 0 then p + 8 * k.toNat else p
/-- A reader's list of bytes and its error. -/
def GbR (w : World) (B : Nat) (A : Option Addr) (n c : Nat) (xs : List Int) (q : Nat) (l : List Int) (er : Int) (e : Ending) (w' : World) : Prop :=
  ∃ A' c', e = .returned (.tuple #[.slice A' l.length c', .int .i64 er]) ∧ w'.ownsRow w.heap.size 5 1 (.slice A' l.length c') l.length (l.map (Value.int .u8)) ∧ RdrAt w' B A n c xs q ∧ Save (· = B) w w'
theorem GbR.mk_ {w w' : World} {B n c q k c' : Nat} {A A' : Option Addr} {xs l : List Int} {er : Int} (hk : k = l.length) (ho : w'.ownsRow w.heap.size 5 1 (.slice A' k c') k (l.map (Value.int .u8))) (hr : RdrAt w' B A n c xs q) (hs : Save (· = B) w w') : GbR w B A n c xs q l er (.returned (.tuple #[.slice A' k c', .int .i64 er])) w' := by
  subst hk
  exact ⟨A', c', rfl, ho, hr, hs⟩
theorem fillL_shape (g : Nat → Int) (n j : Nat) (hj : j < n) : (fillL g n j)[j]?.getD 0 = 0 := by simp [fillL, hj]

set_option maxRecDepth 100000 in
set_option maxHeartbeats 2000000 in
theorem getBytes_ok {w : World} {B n c p m : Nat} {A : Option Addr} {xs : List Int} (h : RdrAt w B A n c xs p) (hm : p + 8 * m ≤ 8 * n) :
    Calls Try.prog 25 #[.pointer (some ⟨B, 0, none⟩), .int .i64 m] w (GbR w B A n c xs (p + 8 * m) (octL xs p m) 0) := by
  have hsz := h.size
  have hpos := h.pos
  have hBw := h.blk.lt
  have hL := Lib.hid (left_any h.blk h.size h.pos)
  have hd : decide ((((8 * n - p : Nat) : Int)) / 8 < (m : Int)) = false := by simp; omega
  have hd0 : decide ((m : Int) < 0) = false := by simp
  have hmle : m ≤ 140737488351232 := by omega
  have hmk : ∀ u : World, (Instr.makeSlice 25 (.int .i64 m) (.int .i64 m)).run Try.prog u = .ok (.slice (some ⟨u.heap.size, 0, none⟩) m m) (u.alloc (.cells (madeCells #[.int .u8 0] m) 5)) := fun u => make_bytes m m (Nat.le_refl _) hmle u
  have hwr : IntKind.i64.wrap ((((8 * n - p : Nat) : Int)) / 8) = (((8 * n - p : Nat) : Int)) / 8 := IntWalk.i64_in _ (by omega)
  have HH := Lib.hid h
  clear h
  go_enter Try.func25, Try.ntmps25
  go_wp2_with fail
  refine hL.out.mono ?_
  rintro e w' ⟨rfl, i, rfl⟩
  go_wp2_with fail
  have hRA : RdrAt ((w.drewN i).alloc (.cells (madeCells #[.int .u8 0] m) 5)) B A n c xs (p + 8 * 0) ∧ Save (· = B) w ((w.drewN i).alloc (.cells (madeCells #[.int .u8 0] m) 5)) := by
    have hs : Save (fun _ => False) w ((w.drewN i).alloc (.cells (madeCells #[.int .u8 0] m) 5)) := ((Save.refl _ w).drewN i).alloc _
    exact ⟨HH.out.save hs (fun h => h) (fun _ _ h => h), ((Save.refl _ w).drewN i).alloc _⟩
  have hOA : World.ownsRow ((w.drewN i).alloc (.cells (madeCells #[.int .u8 0] m) 5)) w.heap.size 5 1 (.slice (some ⟨w.heap.size, 0, none⟩) m m) m ((fillL (fun i => octV xs (p + 8 * i)) m 0).map (Value.int .u8)) := by
    rw [fillL_zero]; exact own_zeros (w := w.drewN i) (Nat.le_refl _) hmle (Nat.le_refl _)
  have HRA := Lib.hid hRA
  have HOA := Lib.hid hOA
  clear hRA hOA hmk
  generalize (w.drewN i).alloc (.cells (madeCells #[.int .u8 0] m) 5) = w0 at *
  go_loopw [21] (fun i wr => ∃ j : Nat, j ≤ m ∧ i = .int .i64 j ∧ Hid (RdrAt wr B A n c xs (p + 8 * j) ∧ Save (· = B) w wr) ∧ Hid (wr.ownsRow w.heap.size 5 1 (.slice (some ⟨w.heap.size, 0, none⟩) m m) m ((fillL (fun i => octV xs (p + 8 * i)) m j).map (Value.int .u8))))
    (fun i _ => m - (intOf i).toNat)
  case atStart => exact ⟨0, Nat.zero_le _, rfl, HRA, HOA⟩
  case round =>
    obtain ⟨j, hj, rfl, hR, hO⟩ := hrel
    by_cases hlt : j < m
    · have hP := Lib.hid (octet_any hR.out.1 (by omega))
      have hk0 : (0 : Int) ≤ (j : Int) := by omega
      have hk1 : (j : Int) < (m : Int) := by omega
      go_wp2_with fail
      refine hP.out.mono ?_
      rintro e w2 ⟨rfl, hR2, hS2⟩
      have hO2 : w2.ownsRow w.heap.size 5 1 (.slice (some ⟨w.heap.size, 0, none⟩) m m) m ((fillL (fun i => octV xs (p + 8 * i)) m j).map (Value.int .u8)) := ownsRow_save hO.out hS2 (fun g hg => by simp [Value.ownBlock] at hg; omega)
      have hf := hO2.frozenAt j
      have hc : w2.cell? ⟨w.heap.size, j, none⟩ = some (.int .u8 0) := by
        rw [hO2.cellAt j (by omega), List.getElem?_map]
        simp [fillL, hlt]
      have HO2 := Lib.hid hO2
      have HR2 := Lib.hid hR2
      have HS2 := Lib.hid hS2
      clear hO2 hR2 hS2
      go_wp2_with fail
      go_roundw
      case rel =>
        refine ⟨j + 1, by omega, by go_num, Lib.hid ⟨?_, ?_⟩, Lib.hid ?_⟩
        · rw [show p + 8 * (j + 1) = p + 8 * j + 8 by omega]
          exact HR2.out.save (X := fun k => k = w.heap.size) ((Save.refl (· = w.heap.size) w2).setCell (p := ⟨w.heap.size, j, none⟩) (fun _ => rfl) _) (by omega) (fun a ha hx => by
            have h1 := HH.out.low a ha
            omega)
        · exact (hR.out.2.trans HS2.out).setCell (p := ⟨w.heap.size, j, none⟩) (fun h => by simp at h) _
        · rw [← fillL_succ, List.map_set]
          exact (HO2.out.stored j _).1
      case measure => simp [intOf]; omega
    · obtain rfl : j = m := by omega
      clear hlt
      go_wp2_with fail
      go_ret2
      have ho := hO.out
      rw [fillL_full] at ho
      exact GbR.mk_ (by simp [octL]) ho hR.out.1 hR.out.2
theorem getBytes_any {w : World} {B n c p : Nat} {k : Int} {A : Option Addr} {xs : List Int} (h : RdrAt w B A n c xs p) (hk : k ≤ 9223372036854775807) :
    Calls Try.prog 25 #[.pointer (some ⟨B, 0, none⟩), .int .i64 k] w (GbR w B A n c xs (gbP n p k) (gbL xs n p k) (gbE n p k)) := by
  unfold gbP gbL gbE
  by_cases h0 : k < 0
  · rw [if_pos h0, if_neg (by decide), if_neg (by decide)]
    have HH := Lib.hid h
    clear h
    go_enter Try.func25, Try.ntmps25
    go_wp2_with fail
    go_ret2
    exact GbR.mk_ rfl (by simpa using World.ownsRow_nil w w.heap.size 5 1) HH.out (Save.refl _ _)
  · rw [if_neg h0]
    obtain ⟨m, rfl⟩ := Int.eq_ofNat_of_zero_le (show 0 ≤ k by omega)
    by_cases h1 : (((8 * n - p) / 8 : Nat) : Int) < (m : Int)
    · rw [if_pos h1, if_neg (by decide), if_neg (by decide)]
      have hd0 : decide ((m : Int) < 0) = false := by simp
      have hsz := h.size
      have hL := Lib.hid (left_any h.blk h.size h.pos)
      have hd : decide ((((8 * n - p : Nat) : Int)) / 8 < (m : Int)) = true := by simp; omega
      have hwr : IntKind.i64.wrap ((((8 * n - p : Nat) : Int)) / 8) = (((8 * n - p : Nat) : Int)) / 8 := IntWalk.i64_in _ (by omega)
      have HH := Lib.hid h
      clear h
      go_enter Try.func25, Try.ntmps25
      go_wp2_with fail
      refine hL.out.mono ?_
      rintro e w' ⟨rfl, i, rfl⟩
      go_wp2_with fail
      go_ret2
      exact GbR.mk_ rfl (by simpa using World.ownsRow_nil (w.drewN i) w.heap.size 5 1) (HH.out.drewN i) ((Save.refl _ w).drewN i)
    · rw [if_neg h1, if_pos rfl, if_pos rfl, Int.toNat_natCast]
      have := h.pos
      exact getBytes_ok h (by omega)
end Go.Proofs.Ytgcgmnopggabaaa
