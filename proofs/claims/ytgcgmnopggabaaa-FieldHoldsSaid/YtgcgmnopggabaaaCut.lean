/-
  The law FieldCuts: its walk.
-/
import Derived.Test.YtgcgmnopggabaaaCutM
namespace Go.Proofs.Ytgcgmnopggabaaa
open Go.RowKit

theorem RdF.old {w w' : World} {N n : Nat} {A : Option Addr} {fs : List (Int × Int)} {X : Nat → Prop} (h : RdF w N A n fs) (hN : N ≤ w.heap.size) (hs : Save X w w') (hX : ∀ k, k < N → ¬ X k) : RdF w' N A n fs :=
  ⟨h.len, fun k hk => by
    obtain ⟨b, off, e, h1, h2, h3⟩ := h.cells k hk
    exact ⟨b, off, e, h1, (hs.cell (p := ⟨b, off + k * 2, none⟩) (Nat.lt_of_lt_of_le h1 hN) (hX b h1)).trans h2, (hs.cell (p := ⟨b, off + k * 2 + 1, none⟩) (Nat.lt_of_lt_of_le h1 hN) (hX b h1)).trans h3⟩, h.range⟩
theorem below_undrewN {B : Nat} {w w' : World} {i : Nat} (h : Below B (w.drewN i) w') : Below B w w' := ⟨h.os, h.tape, h.output, h.size, h.block⟩
theorem own_cap {w : World} {base n c s : Nat} {A : Option Addr} {t : TypeId} {xs : List Value} (h : w.ownsRow base t s (.slice A n c) n xs) : n ≤ c := by
  rcases h.2 with ⟨h1, h2⟩ | ⟨g, cap, cur, h1, _, _, hnc, _⟩
  · injection h1 with _ e1 e2; omega
  · injection h1 with _ e1 e2; omega
/-- The widths. -/
def wdl (gs : List (Int × Int)) : List Int := gs.map (·.2)
theorem widths_snoc (gs : List (Int × Int)) (k : Nat) (h : k < gs.length) : wdl (gs.take k) ++ [(gs[k]?.getD (0, 0)).2] = wdl (gs.take (k + 1)) := by
  unfold wdl
  rw [take_snocF gs k h, List.map_append]; rfl
set_option maxRecDepth 100000 in
set_option maxHeartbeats 2000000 in
theorem cuts_any {w : World} {n c : Nat} {A : Option Addr} {fs : List (Int × Int)} {cut : Int} (hR : RdF w w.heap.size A n fs) (hI : ∀ f ∈ fs, -9223372036854775808 ≤ f.2 ∧ f.2 ≤ 9223372036854775807) (hcut : -9223372036854775808 ≤ cut ∧ cut ≤ 9223372036854775807) :
    Calls Try.prog 7 #[.slice A n c, .int .i64 cut] w fun e w' => e = .returned (.bool true) ∧ Below w.heap.size w w' := by
  by_cases h20 : 20 < n
  · have d1 : decide ((20 : Int) < (n : Int)) = true := by simp; omega
    clear hR hI
    go_enter Try.func7, Try.ntmps7
    go_wp2_with fail
    refine (works_any _).mono ?_
    rintro e w1 ⟨rfl, hb1⟩
    go_wp2
    go_ret
    exact ⟨rfl, hb1⟩
  · have d1 : decide ((20 : Int) < (n : Int)) = false := by simp; omega
    have hV := Lib.hid (valid_any (c := c) hR (by omega) hI)
    obtain ⟨hf1, hf2, hf3⟩ := vf_all hR.range
    have hfl : (fs.map vf).length = n := by rw [List.length_map, hR.len]
    have hbl := bitsAll_len hf1
    have hbs := bitsAll_sum _ hf1
    have hws : ∀ wd ∈ (fs.map vf).map (·.2), 0 ≤ wd ∧ wd ≤ 64 := fun wd hwd => by
      obtain ⟨f, hf, rfl⟩ := List.mem_map.1 hwd
      exact width_ok (hf1 f hf)
    have hbits := bitsAll_bits (fs.map vf)
    generalize fs.map vf = gs at *
    rw [hfl] at hbl
    have HG := Lib.hid (And.intro hf1 (And.intro hf2 (And.intro hf3 (And.intro hfl (And.intro hbs (And.intro hws hbits))))))
    clear hR hI hf1 hf2 hf3 hfl hbs hws hbits
    go_enter Try.func7, Try.ntmps7
    go_wp2_with fail
    refine hV.out.mono ?_
    rintro e w1 ⟨A1, c1, rfl, hown, hb1⟩
    have hF := RdF.of_own hown HG.out.2.1
    have hW := wrt_new w1
    have hbw : Below w1.heap.size w1 (w1.alloc (.cells #[.slice none 0 0, .int .i64 0] 29)) := (Below.refl _ w1).alloc (Nat.le_refl _) _
    have hP := Lib.hid (putAll_any (c := c1) hW (hF.low (Nat.le_refl _) hbw) (by simp) (arg_apartF hF hW (Nat.le_refl _)) (by omega) (by simp; omega))
    have HF := Lib.hid hF
    have HB1 := Lib.hid hb1
    have HBW := Lib.hid hbw
    clear hown hb1 hF hW hbw
    go_wp2_with fail
    refine hP.out.mono ?_
    rintro e w2 ⟨rfl, V2, hW2, hT2⟩
    rw [HG.out.2.2.1] at *
    rw [if_pos rfl, List.nil_append] at hW2
    have hF2 : RdF w2 w1.heap.size A1 n gs := (HF.out.low (Nat.le_refl _) HBW.out).old (by simp) hT2.1 (fun k hk hx => by
      rcases hx with hx | hx
      · omega
      · cases hx)
    have HF2 := Lib.hid hF2
    have hB2 : Below w1.heap.size w1 w2 := Below.save HBW.out hT2.1 (fun i hi => by
      rcases hi with hi | hi
      · omega
      · cases hi) (Nat.le_refl _)
    have HB2 := Lib.hid (HB1.out.trans (hB2.mono HB1.out.size))
    have HS2 := Lib.hid hB2.size
    have HW2 := Lib.hid hW2
    clear hF2 hB2 hW2 hT2
    go_wp2_with fail
    refine (num_any _ _).mono ?_
    rintro e w' ⟨rfl, rfl⟩
    go_wp2_with fail
    refine (wbytes_any HW2.out).mono ?_
    rintro e w3 ⟨X, cx, rfl, hox, hb3⟩
    have hpl : Hid ((packL (bitsAll gs)).length = ((bitsAll gs).length + 7) / 8) := Lib.hid (packL_length _)
    have HX := Lib.hid hox
    have HB3 := Lib.hid (HB2.out.trans (hb3.mono HB2.out.size))
    have HF3 := Lib.hid (HF2.out.low HS2.out hb3)
    have HS3 := Lib.hid (Nat.le_trans HS2.out hb3.size)
    have hby := Lib.hid (byte_packL HG.out.2.2.2.2.2.2)
    clear hox hb3
    generalize hxl : (packL (bitsAll gs)).length = xl at *
    clear hxl
    by_cases hc0 : cut < 0
    · have d2 : decide (cut < 0) = true := by simp; omega
      go_wp2_with fail
      refine (works_any _).mono ?_
      rintro e w4 ⟨rfl, hb4⟩
      go_wp2
      go_ret
      exact ⟨rfl, HB3.out.trans (hb4.mono HB3.out.size)⟩
    have d2 : decide (cut < 0) = false := by simp; omega
    by_cases hc1 : (xl : Int) ≤ cut
    · have d3 : decide ((xl : Int) ≤ cut) = true := by simp; omega
      go_wp2_with fail
      refine (works_any _).mono ?_
      rintro e w4 ⟨rfl, hb4⟩
      go_wp2
      go_ret
      exact ⟨rfl, HB3.out.trans (hb4.mono HB3.out.size)⟩
    have d3 : decide ((xl : Int) ≤ cut) = false := by simp; omega
    obtain ⟨m, rfl⟩ := Int.eq_ofNat_of_zero_le (show 0 ≤ cut by omega)
    clear hc0 hcut
    have hmx : m < xl := by omega
    have d4 : decide (xl ≤ m) = false := by simp; omega
    clear hc1
    go_wp2_with fail
    go_loopw [8, 9] (fun p i wr => ∃ (k : Nat) (A5 : Option Addr) (c5 : Nat), k ≤ n ∧ i = .int .i64 k ∧ p = .slice A5 k c5 ∧ Hid (wr.ownsRow w3.heap.size 3 1 (.slice A5 k c5) k ((wdl (gs.take k)).map (Value.int .i64))) ∧ Hid (Below w3.heap.size w3 wr))
      (fun _ i _ => n - (intOf i).toNat)
    case atStart => exact ⟨0, none, 0, Nat.zero_le _, rfl, rfl, Lib.hid (by simpa [wdl] using World.ownsRow_nil w3 w3.heap.size 3 1), Lib.hid (Below.refl _ _)⟩
    case round =>
      obtain ⟨k, A5, c5, hk, rfl, rfl, hO, hB⟩ := hrel
      by_cases hlt : k < n
      · obtain ⟨b, off, rfl, hb, hc, hd⟩ := (HF3.out.low HS3.out hB.out).cells k hlt
        have hk0 : (0 : Int) ≤ (k : Int) := by omega
        have hk1 : (k : Int) < (n : Int) := by omega
        have hsn := Lib.hid (widths_snoc gs k (by rw [HG.out.2.2.2.1]; exact hlt))
        generalize (gs[k]?.getD (0, 0)).1 = v at *
        generalize (gs[k]?.getD (0, 0)).2 = wd at *
        obtain ⟨A6, c6, w6, hrun, hown6, hb6⟩ := int_append (x := wd) hO.out rfl (by omega) hB.out.size
        have HRn := Lib.hid hrun
        rw [hsn.out] at hown6
        have HO6 := Lib.hid hown6
        have HB6 := Lib.hid (hb6 _ _ hB.out (Nat.le_refl _) (Nat.le_refl _))
        clear hrun hown6 hb6
        go_wp2_with (at_builtin; refine Lib.wpList_append_run _ rfl _ _ _ _ rfl _ _ rfl rfl _ _ HRn.out ?_)
        go_roundw
        case rel => exact ⟨k + 1, A6, c6, by omega, by go_num, rfl, HO6, HB6⟩
        case measure => simp [intOf]; omega
      · obtain rfl : k = n := by omega
        clear hlt
        have ht : gs.take k = gs := by rw [← HG.out.2.2.2.1, List.take_length]
        rw [ht] at hO
        have hxc : xl ≤ cx := own_cap HX.out
        have hk1 : (m : Int) ≤ (cx : Int) := by omega
        have hxr : Rd .u8 wr wr.heap.size X xl (packL (bitsAll gs)) := (Rd.of_own HX.out).step hB.out
        obtain ⟨hcr, hcl⟩ : Rd .u8 wr wr.heap.size X m ((packL (bitsAll gs)).take m) ∧ ((packL (bitsAll gs)).take m).length = m := by
          have h1 := hxr.len
          have h2 : ((packL (bitsAll gs)).take m).length = m := by rw [List.length_take]; omega
          refine ⟨⟨h2, fun j hj => ?_⟩, h2⟩
          obtain ⟨b, off, e, hb, hcell⟩ := hxr.cells j (by omega)
          exact ⟨b, off, e, hb, by rw [hcell, List.getElem?_take, if_pos hj]⟩
        have hN := Lib.hid (newReader_any (c := cx) hcr (Nat.le_refl _) (Byte.of_mem (fun x hx => hby.out.mem x (List.mem_of_mem_take hx))) (by have := hpl.out; omega))
        have hsum := Lib.hid (gaE_sum m (wdl gs) HG.out.2.2.2.2.2.1 0 (Nat.zero_le _))
        have hE5 : Hid (gaE m 0 (wdl gs) = 5) := Lib.hid (by
          rw [hsum.out.2, if_neg]
          have h1 := HG.out.2.2.2.2.1
          have h2 := hpl.out
          show ¬ ((0 : Nat) : Int) + (wdl gs).sum ≤ 8 * (m : Int)
          rw [show (wdl gs).sum = ((bitsAll gs).length : Int) from h1.symm]
          omega)
        generalize (packL (bitsAll gs)).take m = zs at *
        clear hxr hcr
        go_wp2_with fail
        refine hN.out.mono ?_
        rintro e w8 ⟨Br, A8, c8, rfl, hR8, hb8, hBr, hA8⟩
        have hWd := Lib.hid ((Rd.of_own hO.out).step hb8)
        have hGA := Lib.hid (getAll_any (c1 := c5) hR8 hWd.out (Nat.le_refl _) (by omega) (fun hp a ha => by
          have h1 := (hO.out.lt a.block (by rw [ha]; rfl)).2
          omega))
        have HR8 := Lib.hid hR8
        have HB8 := Lib.hid ((HB3.out.trans (hB.out.mono HB3.out.size)).trans (hb8.mono (Nat.le_trans HB3.out.size hB.out.size)))
        clear hR8 hb8
        rw [hE5.out, show gaL zs m 0 (wdl gs) = [] by unfold gaL; rw [hE5.out]; rfl, show gaPos m 0 (wdl gs) = 0 by unfold gaPos; rw [hE5.out]; rfl] at hGA
        go_wp2_with fail
        refine hGA.out.mono ?_
        rintro e w9 ⟨A9, c9, q, rfl, _, hR9, rfl, hS9⟩
        have HR9 := Lib.hid hR9
        have HB9 := Lib.hid (Below.save HB8.out hS9 (fun i hi => by
          have := HB3.out.size
          have := hB.out.size
          omega) (Nat.le_refl _))
        clear hR9 hS9
        have hmsz : Hid (m ≤ 100000) := Lib.hid (by have := hpl.out; omega)
        go_wp2_with fail
        refine (at_any HR9.out.blk).mono ?_
        rintro e w10 ⟨rfl, rfl⟩
        go_wp2_with fail
        refine (left_any HR9.out.blk HR9.out.size HR9.out.pos).mono ?_
        rintro e w10 ⟨rfl, i, rfl⟩
        have hl8 : (((8 * m - 0 : Nat) : Int) == 8 * (m : Int)) = true := by simp
        have hwm : IntKind.i64.wrap (8 * (m : Int)) = 8 * (m : Int) := IntWalk.i64_in _ (by have := hmsz.out; omega)
        go_wp2_with fail
        refine (works_any _).mono ?_
        rintro e w11 ⟨rfl, hb11⟩
        have HB11 := Lib.hid (HB9.out.trans (Below.mono (below_undrewN hb11) HB9.out.size))
        clear hb11
        go_wp2
        go_ret
        exact ⟨rfl, HB11.out⟩
end Go.Proofs.Ytgcgmnopggabaaa
