/-
  The law's valid: fields that fit their widths.
-/
import Derived.Test.YtgcgmnopggabaaaValM
import Derived.Deep.Cut
namespace Go.Proofs.Ytgcgmnopggabaaa
open Go.RowKit

set_option maxRecDepth 100000 in
set_option maxHeartbeats 400000 in
theorem valid_any {w : World} {A : Option Addr} {n c : Nat} {fs : List (Int × Int)} (hR : RdF w w.heap.size A n fs) (hn : n ≤ 1000) (hI : ∀ f ∈ fs, -9223372036854775808 ≤ f.2 ∧ f.2 ≤ 9223372036854775807) :
    Calls Try.prog 33 #[.slice A n c] w fun e w' => ∃ A' c', e = .returned (.slice A' n c') ∧ w'.ownsRow w.heap.size 73 2 (.slice A' n c') n (cellsF (fs.map vf)) ∧ Below w.heap.size w w' := by
  obtain ⟨i0, hi, hz0, hz1, hz2⟩ := info_parts Try.info_field
  have HR := Lib.hid hR
  clear hR
  go_enter Try.func33, Try.ntmps33
  go_wp2_with fail
  go_loopw [3, 4] (fun p i wr => ∃ (k : Nat) (A1 : Option Addr) (c1 : Nat), k ≤ n ∧ i = .int .i64 k ∧ p = .slice A1 k c1 ∧ Hid (wr.ownsRow w.heap.size 73 2 (.slice A1 k c1) k (cellsF ((fs.take k).map vf))) ∧ Hid (Below w.heap.size w wr))
    (fun _ i _ => n - (intOf i).toNat)
  case atStart => exact ⟨0, none, 0, Nat.zero_le _, rfl, rfl, Lib.hid (by simpa [cellsF] using World.ownsRow_nil w w.heap.size 73 2), Lib.hid (Below.refl _ w)⟩
  case round =>
    obtain ⟨k, A1, c1, hk, rfl, rfl, hO, hB⟩ := hrel
    by_cases hlt : k < n
    · obtain ⟨b, off, rfl, hb, hc, hd⟩ := (HR.out.step hB.out).cells k hlt
      have hrg := Lib.hid (HR.out.at_range k hlt)
      have hk0 : (0 : Int) ≤ (k : Int) := by omega
      have hk1 : (k : Int) < (n : Int) := by omega
      have hsn : Hid (cellsF ((fs.take k).map vf) ++ [.int .u64 (vOf (fs[k]?.getD (0, 0)).1 (wdOf (fs[k]?.getD (0, 0)).2)), .int .i64 (wdOf (fs[k]?.getD (0, 0)).2 : Int)] = cellsF ((fs.take (k + 1)).map vf)) := Lib.hid (by
        rw [take_snocF fs k (by rw [HR.out.len]; exact hlt), List.map_append, List.map_cons, List.map_nil, cellsF_snoc]; rfl)
      generalize (fs[k]?.getD (0, 0)).1 = v at *
      generalize (fs[k]?.getD (0, 0)).2 = wd at *
      have hw2 : (IntKind.u64.wrap wd).tmod 65 = ((wdOf wd : Nat) : Int) := wdOf_eq wd
      have hwl := wdOf_le wd
      generalize wdOf wd = W at *
      have hw3 : wrap64 (W : Int) = W := IntWalk.wrap64_in _ (by omega)
      by_cases h64 : W < 64
      · have hd64 : decide ((W : Int) < 64) = true := by simp; omega
        obtain ⟨P, hP1, hP2, hP3, hP4⟩ := shl_one h64
        have hvo : Hid (vOf v W = v.tmod P) := Lib.hid (by unfold vOf; rw [if_pos h64, hP4, Int.tmod_eq_emod_of_nonneg hrg.out.1])
        rw [hvo.out] at hsn
        have HP4 := Lib.hid hP4
        clear hP4
        go_wp2_with fail
        obtain ⟨W5, hW5⟩ : ∃ W5, W5 = wr.alloc (.cells #[.int .u64 v, .int .i64 W] 73) := ⟨_, rfl⟩
        have hT5 : Two W5 wr.heap.size 73 (.int .u64 v) (.int .i64 W) := by rw [hW5]; exact Two.new _ _ _ _
        have hs5 : W5.heap.size = wr.heap.size + 1 := by rw [hW5]; simp
        have hO5 : W5.ownsRow w.heap.size 73 2 (.slice A1 k c1) k (cellsF ((fs.take k).map vf)) := by rw [hW5]; exact hO.out.alloc _
        have hB5 : Below w.heap.size w W5 := by rw [hW5]; exact hB.out.alloc hB.out.size _
        rw [← hW5]
        have e0 := hT5.cell0
        have e1 := hT5.cell1
        have f0 := hT5.frozen 0
        have HO5 := Lib.hid hO5
        have HB5 := Lib.hid hB5
        have hPz : ¬ P = 0 := by omega
        have hPb : (P == 0) = false := by simp; omega
        have hX0 : (0 : Int) ≤ (W : Int) := by omega
        have hXn : (W : Int).toNat = W := by omega
        have HHs := Lib.hid (And.intro hs5 hT5)
        clear hW5 hO5 hB5 hs5 hT5
        go_still_tail 6, (by kernel_rfl)
        go_upto_region 9 with fail
        have hT6 : Two (W5.setCell ⟨wr.heap.size, 0, none⟩ (.int .u64 (v.tmod P))).drew wr.heap.size 73 (.int .u64 (v.tmod P)) (.int .i64 W) := HHs.out.2.set0 _
        have hO6 : World.ownsRow (W5.setCell ⟨wr.heap.size, 0, none⟩ (.int .u64 (v.tmod P))).drew w.heap.size 73 2 (.slice A1 k c1) k (cellsF ((fs.take k).map vf)) := World.ownsRow.drew (HO5.out.kept (grownBy_setCell_at W5 ⟨wr.heap.size, 0, none⟩ _) (by
          rcases hb : (Value.slice A1 k c1).ownBlock with _ | g
          · exact .inl rfl
          · have := (hO.out.lt g hb).2; exact .inr (fun e => by injection e with e; simp at e; omega)))
        have hB6 : Below w.heap.size w (W5.setCell ⟨wr.heap.size, 0, none⟩ (.int .u64 (v.tmod P))).drew := (HB5.out.setCell (p := ⟨wr.heap.size, 0, none⟩) hB.out.size _).drew
        generalize (W5.setCell ⟨wr.heap.size, 0, none⟩ (.int .u64 (v.tmod P))).drew = W6 at *
        obtain ⟨A3, c3, w3, hrun, hown3, hb3⟩ := field_append (v := v.tmod P) (W := W) hO6 rfl (by omega) hB6.size
        have HRn := Lib.hid hrun
        rw [hsn.out] at hown3
        have HO3 := Lib.hid hown3
        have HB3 := Lib.hid (hb3 _ _ hB6 (Nat.le_refl _) (Nat.le_refl _))
        have g0 := hT6.cell0
        have g1 := hT6.cell1
        clear hrun hown3 hb3 hT6 hO6 hB6 e0 e1 f0
        go_wp2_with (at_builtin; refine Lib.wpList_append_run _ rfl _ _ _ _ rfl _ _ rfl rfl _ _ HRn.out ?_)
        go_roundw
        case rel => exact ⟨k + 1, A3, c3, by omega, by go_num, rfl, HO3, HB3⟩
        case measure => simp [intOf]; omega
      · have hd64 : decide ((W : Int) < 64) = false := by simp; omega
        have hvo : vOf v W = v := by unfold vOf; rw [if_neg h64]
        rw [hvo] at hsn
        clear hvo
        obtain ⟨A3, c3, w3, hrun, hown3, hb3⟩ := field_append (v := v) (W := W) (s := wr.heap.size + 1) (hO.out.alloc (.cells #[.int .u64 v, .int .i64 W] 73)) (by simp) (by omega) (by have := hB.out.size; simp; omega)
        have HRn := Lib.hid hrun
        rw [hsn.out] at hown3
        have HO3 := Lib.hid hown3
        have HB3 := Lib.hid (hb3 _ _ (hB.out.alloc hB.out.size _) (Nat.le_refl _) (Nat.le_refl _))
        clear hrun hown3 hb3
        go_wp2_with (at_builtin; refine Lib.wpList_append_run _ rfl _ _ _ _ rfl _ _ rfl rfl _ _ HRn.out ?_)
        go_roundw
        case rel => exact ⟨k + 1, A3, c3, by omega, by go_num, rfl, HO3, HB3⟩
        case measure => simp [intOf]; omega
    · obtain rfl : k = n := by omega
      clear hlt
      have ht : fs.take k = fs := by rw [← HR.out.len, List.take_length]
      rw [ht] at hO
      go_wp2_with fail
      go_ret
      exact ⟨A1, c1, rfl, hO.out, hB.out⟩
end Go.Proofs.Ytgcgmnopggabaaa
