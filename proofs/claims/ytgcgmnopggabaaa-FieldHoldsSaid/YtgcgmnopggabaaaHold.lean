/-
  The law FieldHolds: its walk.
-/
import Derived.Test.YtgcgmnopggabaaaHoldM
namespace Go.Proofs.Ytgcgmnopggabaaa
open Go.RowKit

set_option maxRecDepth 100000 in
set_option maxHeartbeats 4000000 in
theorem holds_any {w : World} {n c n2 c2 nb cb : Nat} {A Ay Ab : Option Addr} {fs ms : List (Int × Int)} {bxs : List Int} (hR : RdF w w.heap.size A n fs) (hI : ∀ f ∈ fs, -9223372036854775808 ≤ f.2 ∧ f.2 ≤ 9223372036854775807)
    (hR2 : RdF w w.heap.size Ay n2 ms) (hI2 : ∀ f ∈ ms, -9223372036854775808 ≤ f.2 ∧ f.2 ≤ 9223372036854775807) (hb : Rd .u8 w w.heap.size Ab nb bxs) (hbx : Byte bxs) :
    Calls Try.prog 8 #[.slice A n c, .slice Ay n2 c2, .slice Ab nb cb] w fun e w' => e = .returned (.bool true) ∧ Below w.heap.size w w' := by
  by_cases hlong : 20 < n ∨ 20 < n2 ∨ 40 < nb
  · clear hR hI hR2 hI2 hb hbx
    by_cases h1 : 20 < n
    · have d1 : decide ((20 : Int) < (n : Int)) = true := by simp; omega
      go_enter Try.func8, Try.ntmps8
      go_wp2_with fail
      refine (works_any _).mono ?_
      rintro e w1 ⟨rfl, hb1⟩
      go_wp2
      go_ret
      exact ⟨rfl, hb1⟩
    · have d1 : decide ((20 : Int) < (n : Int)) = false := by simp; omega
      by_cases h2 : 20 < n2
      · have d2 : decide ((20 : Int) < (n2 : Int)) = true := by simp; omega
        go_enter Try.func8, Try.ntmps8
        go_wp2_with fail
        refine (works_any _).mono ?_
        rintro e w1 ⟨rfl, hb1⟩
        go_wp2
        go_ret
        exact ⟨rfl, hb1⟩
      · have d2 : decide ((20 : Int) < (n2 : Int)) = false := by simp; omega
        have d3 : decide ((40 : Int) < (nb : Int)) = true := by simp; omega
        go_enter Try.func8, Try.ntmps8
        go_wp2_with fail
        refine (works_any _).mono ?_
        rintro e w1 ⟨rfl, hb1⟩
        go_wp2
        go_ret
        exact ⟨rfl, hb1⟩
  · have d1 : decide ((20 : Int) < (n : Int)) = false := by simp; omega
    have d2 : decide ((20 : Int) < (n2 : Int)) = false := by simp; omega
    have d3 : decide ((40 : Int) < (nb : Int)) = false := by simp; omega
    have hn : n ≤ 20 := by omega
    have hn2 : n2 ≤ 20 := by omega
    have hnb : nb ≤ 40 := by omega
    clear hlong
    have hV := Lib.hid (valid_any (c := c) hR (by omega) hI)
    have HR2 := Lib.hid hR2
    have HI2 := Lib.hid hI2
    have HY := Lib.hid hb
    have HZ := Lib.hid hbx
    obtain ⟨hf1, hf2, hf3⟩ := vf_all hR.range
    obtain ⟨hg1, hg2, hg3⟩ := vf_all hR2.range
    have hfl : (fs.map vf).length = n := by rw [List.length_map, hR.len]
    have hgl : (ms.map vf).length = n2 := by rw [List.length_map, hR2.len]
    have hbl := bitsAll_len hf1
    have hbl2 := bitsAll_len hg1
    have hbits := bitsAll_bits (fs.map vf)
    have hbits2 := bitsAll_bits (ms.map vf)
    generalize fs.map vf = gx at *
    obtain ⟨gy, hgy⟩ : ∃ gy, gy = ms.map vf := ⟨_, rfl⟩
    rw [← hgy] at hg1 hg2 hg3 hgl hbl2 hbits2
    have HGY := Lib.hid hgy
    rw [hfl] at hbl
    rw [hgl] at hbl2
    have HGx := Lib.hid (And.intro hf1 (And.intro hf2 (And.intro hf3 hfl)))
    have HGy := Lib.hid (And.intro hg1 (And.intro hg2 (And.intro hg3 hgl)))
    have HBts := Lib.hid (And.intro hbits hbits2)
    have HLn := Lib.hid (And.intro hbl hbl2)
    clear hR hI hR2 hI2 hb hbx hf1 hf2 hf3 hg1 hg2 hg3 hfl hgl hbl hbl2 hbits hbits2 hgy
    go_enter Try.func8, Try.ntmps8
    go_wp2_with fail
    refine hV.out.mono ?_
    rintro e w1 ⟨A1, c1, rfl, hown, hb1⟩
    have HF1 := Lib.hid (RdF.of_own hown HGx.out.2.1)
    have hV2 := Lib.hid (valid_any (c := c2) (HR2.out.step hb1) (by omega) HI2.out)
    rw [← HGY.out] at hV2
    have HB1 := Lib.hid hb1
    clear hown hb1
    go_wp2_with fail
    refine hV2.out.mono ?_
    rintro e w2 ⟨A2, cc2, rfl, hown, hb2⟩
    have HF2 := Lib.hid (RdF.of_own hown HGy.out.2.1)
    have hbw : Below w2.heap.size w2 (w2.alloc (.cells #[.slice none 0 0, .int .i64 0] 29)) := (Below.refl _ w2).alloc (Nat.le_refl _) _
    have HO := Lib.hid ((show Old3 w w2 w2.heap.size A1 A2 Ab n n2 nb gx gy bxs from ⟨HF1.out.step hb2, HF2.out, (HY.out.step HB1.out).step hb2, Nat.le_refl _, HB1.out.trans (hb2.mono HB1.out.size), Nat.le_trans HB1.out.size hb2.size⟩).step hbw)
    have HW := Lib.hid (wrt_new w2)
    have hP := Lib.hid (putAll_any (c := c1) HW.out HO.out.x HO.out.low (arg_apartF HO.out.x HW.out (Nat.le_refl _)) (by omega) (by simp; omega))
    clear hown hb2 hbw
    go_wp2_with fail
    refine hP.out.mono ?_
    rintro e w3 ⟨rfl, V3, hW3, hT3⟩
    rw [HGx.out.2.2.1] at *
    rw [if_pos rfl, List.nil_append] at hW3
    have HO3 := Lib.hid (HO.out.save hT3.1 (fun k hk => wx_low HW.out hk))
    have HW3 := Lib.hid hW3
    clear hW3 hT3
    have hP3 := Lib.hid (putBytes_any (c := cb) HW3.out HO3.out.b HZ.out HO3.out.low (arg_apart HO3.out.b HW3.out (Nat.le_refl _)) (by have := HLn.out; omega))
    go_wp2_with fail
    refine (num_any _ _).mono ?_
    rintro e w' ⟨rfl, rfl⟩
    go_wp2_with fail
    refine hP3.out.mono ?_
    rintro e w4 ⟨rfl, V4, hW4, hT4⟩
    have HO4 := Lib.hid (HO3.out.save hT4.1 (fun k hk => wx_low HW3.out hk))
    have HW4 := Lib.hid hW4
    clear hW4 hT4
    have hP4 := Lib.hid (putAll_any (c := cc2) HW4.out HO4.out.y HO4.out.low (arg_apartF HO4.out.y HW4.out (Nat.le_refl _)) (by omega) (by have := HLn.out; have := HO4.out.b.len; rw [List.length_append, bitsOf_length]; omega))
    unfold PutR at hP4
    rw [HGy.out.2.2.1, if_pos rfl] at hP4
    go_wp2_with fail
    refine (num_any _ _).mono ?_
    rintro e w' ⟨rfl, rfl⟩
    go_wp2_with fail
    refine hP4.out.mono ?_
    rintro e w5 ⟨rfl, V5, hW5, hT5⟩
    have HO5 := Lib.hid (HO4.out.save hT5.1 (fun k hk => wx_low HW4.out hk))
    have HW5 := Lib.hid hW5
    clear hW5 hT5
    go_wp2_with fail
    refine (num_any _ _).mono ?_
    rintro e w' ⟨rfl, rfl⟩
    have HTl : Hid ((bitsAll gx ++ bitsOf bxs ++ bitsAll gy).length ≤ 10000) := Lib.hid (by have := HLn.out; have := HO4.out.b.len; rw [List.length_append, List.length_append, bitsOf_length]; omega)
    obtain ⟨T, hT⟩ : ∃ T, T = bitsAll gx ++ bitsOf bxs ++ bitsAll gy := ⟨_, rfl⟩
    rw [← hT] at HW5 HTl
    have HT := Lib.hid hT
    clear hT
    have HTb := Lib.hid HW5.out.bits
    go_wp2_with fail
    refine (wbytes_any HW5.out).mono ?_
    rintro e w6 ⟨X, cx, rfl, hox, hb6⟩
    have HO6 := Lib.hid (HO5.out.step hb6)
    have HW6 := Lib.hid (HW5.out.below hb6)
    have hN := Lib.hid (newReader_any (c := cx) (Rd.of_own hox) (Nat.le_refl _) (byte_packL HTb.out) (by rw [packL_length]; have := HTl.out; omega))
    clear hox hb6
    have HXs : Hid ((packL T).length = (T.length + 7) / 8) := Lib.hid (packL_length T)
    have hRF := Lib.hid (fun (P S : List Int) (v wd : Int) => read_field (T := T) (P := P) (S := S) (v := v) (wd := wd))
    have hRB := Lib.hid (fun (P S l : List Int) => read_bytes (T := T) (P := P) (S := S) (l := l))
    have hRE := Lib.hid (read_end HTb.out)
    rw [← HXs.out] at hRF hRB hRE
    have hxn : Hid ((packL T).length ≤ 10000) := Lib.hid (by have := HTl.out; rw [HXs.out]; omega)
    generalize hxe : packL T = xs at *
    generalize hxl : xs.length = nx at *
    have hRs : Hid (8 * nx ≤ T.length + 7) := Lib.hid (by have := HXs.out; omega)
    clear hxe hxl
    go_wp2_with fail
    refine hN.out.mono ?_
    rintro e w7 ⟨Br, A8, c8, rfl, hR7, hb7, hBr, _⟩
    have HO7 := Lib.hid (HO6.out.step hb7)
    have HW7 := Lib.hid (HW6.out.below hb7)
    have hBB : Hid (∀ k, WX w2.heap.size V5 k → ¬ k = Br) := Lib.hid (fun k hk e => wx_old HW6.out hBr (e ▸ hk))
    have hBO : Hid (∀ k, k < w2.heap.size → ¬ k = Br) := Lib.hid (fun k hk e => by have := HO6.out.low; omega)
    have HR7 : Hid (RdrAt w7 Br A8 nx c8 xs (bitsAll (gx.take 0)).length) := Lib.hid (by simpa [bitsAll] using hR7)
    clear hR7 hb7
    go_wp2_with fail
    go_loopw [11] (fun i wr => ∃ (k : Nat), k ≤ n ∧ i = .int .i64 k ∧ Hid (RdrAt wr Br A8 nx c8 xs (bitsAll (gx.take k)).length) ∧ Hid (Old3 w wr w2.heap.size A1 A2 Ab n n2 nb gx gy bxs) ∧ Hid (WrtAt wr w2.heap.size V5 T))
      (fun i _ => n - (intOf i).toNat)
    case atStart => exact ⟨0, Nat.zero_le _, rfl, HR7, HO7, HW7⟩
    case round =>
      obtain ⟨k, hk, rfl, hRd, hO, hWw⟩ := hrel
      by_cases hlt : k < n
      · obtain ⟨b, off, rfl, hb, hc, hd⟩ := hO.out.x.cells k hlt
        have hk0 : (0 : Int) ≤ (k : Int) := by omega
        have hk1 : (k : Int) < (n : Int) := by omega
        have hkl : k < gx.length := by rw [HGx.out.2.2.2]; exact hlt
        have hrg := hO.out.x.at_range k hlt
        have hok : (fromUintS (gx[k]?.getD (0, 0)).1 (gx[k]?.getD (0, 0)).2).2 = 0 := HGx.out.1 _ (by rw [List.getElem?_eq_getElem hkl]; exact List.getElem_mem hkl)
        have hrd := hRF.out (bitsAll (gx.take k)) (bitsAll (gx.drop (k + 1)) ++ (bitsOf bxs ++ bitsAll gy)) _ _ (by rw [HT.out, bitsAll_split gx k hkl]; simp only [List.append_assoc]) HTb.out hrg.1 hok
        have hG := Lib.hid (get_any (wd := (gx[k]?.getD (0, 0)).2) hRd.out)
        unfold GetR at hG
        rw [hrd.1, hrd.2.1, hrd.2.2, ← bitsAll_snoc, ← take_snocF gx k hkl] at hG
        clear hrd hok hrg
        generalize (gx[k]?.getD (0, 0)).1 = v at *
        generalize (gx[k]?.getD (0, 0)).2 = wd at *
        go_wp2_with fail
        refine hG.out.mono ?_
        rintro e w8 ⟨rfl, hR8, hS8⟩
        have HR8 := Lib.hid hR8
        have HO8 := Lib.hid (hO.out.save hS8 hBO.out)
        have HW8 := Lib.hid (hWw.out.save hS8 hBB.out)
        have hcc : w8.cell? ⟨b, off + k * 2, none⟩ = some (.int .u64 v) := (hS8.cell (p := ⟨b, off + k * 2, none⟩) (Nat.lt_of_lt_of_le hb hO.out.low) (hBO.out b hb)).trans hc
        clear hR8 hS8 hc hd
        go_wp2_with fail
        refine (num_any _ _).mono ?_
        rintro e w9 ⟨rfl, rfl⟩
        go_wp2_with fail
        go_roundw
        case rel => exact ⟨k + 1, by omega, by go_num, HR8, HO8, HW8⟩
        case measure => simp [intOf]; omega
      · obtain rfl : k = n := by omega
        clear hlt
        have ht : gx.take k = gx := by rw [← HGx.out.2.2.2, List.take_length]
        rw [ht] at hRd
        have hrb := hRB.out (bitsAll gx) (bitsAll gy) bxs HT.out HTb.out HZ.out
        have hbl := hO.out.b.len
        have hGB := Lib.hid (getBytes_any (k := (nb : Int)) hRd.out (by omega))
        rw [hbl] at hrb
        rw [show gbL xs nx (bitsAll gx).length (nb : Int) = bxs by unfold gbL; rw [if_pos hrb.1, Int.toNat_natCast, hrb.2], show gbP nx (bitsAll gx).length (nb : Int) = (bitsAll gx ++ bitsOf bxs).length by unfold gbP; rw [if_pos hrb.1, List.length_append, bitsOf_length, hbl, Int.toNat_natCast], hrb.1] at hGB
        clear hrb hbl
        go_wp2_with fail
        refine hGB.out.mono ?_
        rintro e w8 ⟨C, cc, rfl, hoc, hR8, hS8⟩
        have HR8 := Lib.hid hR8
        have HO8 := Lib.hid (hO.out.save hS8 hBO.out)
        have HW8 := Lib.hid (hWw.out.save hS8 hBB.out)
        have hsm := Lib.hid (same_true (c := cc) (c' := cb) (Rd.of_own hoc) HO8.out.b HZ.out)
        clear hR8 hS8 hoc
        go_wp2_with fail
        refine (num_any _ _).mono ?_
        rintro e w9 ⟨rfl, rfl⟩
        go_wp2_with fail
        refine hsm.out.mono ?_
        rintro e w9 ⟨rfl, rfl⟩
        have HR9 : Hid (RdrAt w8 Br A8 nx c8 xs (bitsAll gx ++ bitsOf bxs ++ bitsAll (gy.take 0)).length) := Lib.hid (by simpa [bitsAll] using HR8.out)
        go_wp2_with fail
        go_loopw [16] (fun i wr => ∃ (j : Nat), j ≤ n2 ∧ i = .int .i64 j ∧ Hid (RdrAt wr Br A8 nx c8 xs (bitsAll gx ++ bitsOf bxs ++ bitsAll (gy.take j)).length) ∧ Hid (Old3 w wr w2.heap.size A1 A2 Ab k n2 nb gx gy bxs) ∧ Hid (WrtAt wr w2.heap.size V5 T))
          (fun i _ => n2 - (intOf i).toNat)
        case atStart => exact ⟨0, Nat.zero_le _, rfl, HR9, HO8, HW8⟩
        case round =>
          obtain ⟨j, hj, rfl, hRd', hO', hW'⟩ := hrel
          by_cases hlt : j < n2
          · obtain ⟨b, off, rfl, hb, hc, hd⟩ := hO'.out.y.cells j hlt
            have hk0 : (0 : Int) ≤ (j : Int) := by omega
            have hk1 : (j : Int) < (n2 : Int) := by omega
            have hkl : j < gy.length := by rw [HGy.out.2.2.2]; exact hlt
            have hrg := hO'.out.y.at_range j hlt
            have hok : (fromUintS (gy[j]?.getD (0, 0)).1 (gy[j]?.getD (0, 0)).2).2 = 0 := HGy.out.1 _ (by rw [List.getElem?_eq_getElem hkl]; exact List.getElem_mem hkl)
            have hrd := hRF.out (bitsAll gx ++ bitsOf bxs ++ bitsAll (gy.take j)) (bitsAll (gy.drop (j + 1))) _ _ (by rw [HT.out, bitsAll_split gy j hkl]; simp only [List.append_assoc]) HTb.out hrg.1 hok
            have hG := Lib.hid (get_any (wd := (gy[j]?.getD (0, 0)).2) hRd'.out)
            unfold GetR at hG
            rw [hrd.1, hrd.2.1, hrd.2.2, List.append_assoc (bitsAll gx ++ bitsOf bxs), ← bitsAll_snoc, ← take_snocF gy j hkl] at hG
            clear hrd hok hrg
            generalize (gy[j]?.getD (0, 0)).1 = v at *
            generalize (gy[j]?.getD (0, 0)).2 = wd at *
            go_wp2_with fail
            refine hG.out.mono ?_
            rintro e w10 ⟨rfl, hR10, hS10⟩
            have HR10 := Lib.hid hR10
            have HO10 := Lib.hid (hO'.out.save hS10 hBO.out)
            have HW10 := Lib.hid (hW'.out.save hS10 hBB.out)
            have hcc : w10.cell? ⟨b, off + j * 2, none⟩ = some (.int .u64 v) := (hS10.cell (p := ⟨b, off + j * 2, none⟩) (Nat.lt_of_lt_of_le hb hO'.out.low) (hBO.out b hb)).trans hc
            clear hR10 hS10 hc hd
            go_wp2_with fail
            refine (num_any _ _).mono ?_
            rintro e w11 ⟨rfl, rfl⟩
            go_wp2_with fail
            go_roundw
            case rel => exact ⟨j + 1, by omega, by go_num, HR10, HO10, HW10⟩
            case measure => simp [intOf]; omega
          · obtain rfl : j = n2 := by omega
            clear hlt
            have ht2 : gy.take j = gy := by rw [← HGy.out.2.2.2, List.take_length]
            rw [ht2, ← HT.out] at hRd'
            have hEnd := Lib.hid (end_any hRd'.out)
            rw [hRE.out.1] at hEnd
            go_wp2_with fail
            refine (at_any hRd'.out.blk).mono ?_
            rintro e w12 ⟨rfl, rfl⟩
            go_wp2_with fail
            refine (wlen_any hW'.out).mono ?_
            rintro e w12 ⟨rfl, rfl⟩
            go_wp2_with fail
            refine hEnd.out.mono ?_
            rintro e w12 ⟨rfl, hb12⟩
            have HO12 := Lib.hid (hO'.out.step hb12)
            have HR12 := Lib.hid (hRd'.out.save (X := fun k => wr.heap.size ≤ k) (Save.of_below hb12) (by have := hRd'.out.blk.lt; omega) (fun a ha => by have := hRd'.out.low a ha; omega))
            clear hb12
            have hAl := Lib.hid (align_any HR12.out)
            rw [hRE.out.2.1, hRE.out.2.2] at hAl
            go_wp2_with fail
            refine (num_any _ _).mono ?_
            rintro e w13 ⟨rfl, rfl⟩
            go_wp2_with fail
            refine hAl.out.mono ?_
            rintro e w13 ⟨rfl, hR13, hS13⟩
            have HR13 := Lib.hid hR13
            have HO13 := Lib.hid (HO12.out.save hS13 hBO.out)
            clear hR13 hS13
            go_wp2_with fail
            refine (num_any _ _).mono ?_
            rintro e w14 ⟨rfl, rfl⟩
            have hL := Lib.hid (left_any HR13.out.blk HR13.out.size HR13.out.pos)
            rw [Nat.sub_self] at hL
            go_wp2_with fail
            refine hL.out.mono ?_
            rintro e w14 ⟨rfl, i, rfl⟩
            have HB14 := Lib.hid (HO13.out.drewN i).below
            clear hL
            go_wp2_with fail
            refine (works_any _).mono ?_
            rintro e w15 ⟨rfl, hb15⟩
            have HB15 := Lib.hid (HB14.out.trans (hb15.mono HB14.out.size))
            clear hb15
            go_wp2
            go_ret
            exact ⟨rfl, HB15.out⟩
end Go.Proofs.Ytgcgmnopggabaaa
