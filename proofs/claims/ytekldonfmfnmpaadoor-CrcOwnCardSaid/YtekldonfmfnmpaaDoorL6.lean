/-
  The law CrcBursts's walk.
-/
import Derived.Test.YtekldonfmfnmpaaDoorBm
namespace Go.Proofs.YtekldonfmfnmpaaDoor
open Go.RowKit

theorem own_step {w w' : World} {base n : Nat} {t : TypeId} {V : Value} {xs : List Value} (h : w.ownsRow base t 1 V n xs) (hb : Below w.heap.size w w') : w'.ownsRow base t 1 V n xs :=
  ownsRow_save h (Save.of_below (X := fun i => w.heap.size ≤ i) hb) (fun g hg => by have := (h.lt g hg).2; omega)
theorem and_one_u32 {x : Int} (h0 : 0 ≤ x) (h1 : x < 4294967296) : bits .and .u32 x 1 = x % 2 := by
  obtain ⟨a, rfl⟩ := Int.eq_ofNat_of_zero_le h0
  have := bits_and_u .u32 rfl a 1 (by simp [IntKind.bits]; omega) (by decide)
  rw [Nat.and_one_is_mod] at this
  have e : bits .and .u32 (a : Int) 1 = ((a % 2 : Nat) : Int) := this
  rw [e]; omega
theorem index_of (x : Int) (n L : Nat) (h : 0 < n + L) (hs : n + L ≤ 1000000) : ∃ i : Nat, i < n + L ∧ wrap64 ((IntKind.u64.wrap x).tmod ((n : Int) + (L : Int))) = (i : Int) := by
  have h0 : 0 ≤ IntKind.u64.wrap x := by
    simp only [IntKind.wrap, IntKind.signed, IntKind.bits]
    exact Int.emod_nonneg _ (by decide)
  obtain ⟨a, ha⟩ := Int.eq_ofNat_of_zero_le h0
  refine ⟨a % (n + L), Nat.mod_lt _ h, ?_⟩
  rw [ha]
  have e : ((a : Int)).tmod ((n : Int) + (L : Int)) = ((a % (n + L) : Nat) : Int) := by
    rw [show (n : Int) + (L : Int) = ((n + L : Nat) : Int) by simp]
    rfl
  rw [e]
  have := Nat.mod_lt a h
  exact IntWalk.wrap64_in _ (by omega)
theorem u8_sub_bI (b : Bool) : IntKind.u8.wrap (1 - bI b) = bI (!b) := by cases b <;> decide
set_option maxRecDepth 100000 in
set_option maxHeartbeats 4000000 in
theorem bursts_ok {k at_ pat : Int} {A : Option Addr} {n c : Nat} {xs : List Int} {w : World} (hK : Kinds w) (hI : Rd .u8 w w.heap.size A n xs) (hx : Byte xs) (hp : 0 ≤ pat ∧ pat < 4294967296)
    (h2 : n ≤ 2000) (h0 : (genN k).2 ≠ 0) (hv : validB xs = true) :
    Calls Tryd.prog 8 #[.int .i64 k, .slice A n c, .int .i64 at_, .int .u32 pat] w fun e w' => e = .returned (.bool true) ∧ Below w.heap.size w w' := by
  have HKn := Lib.hid (fun (u : World) (h : Below w.heap.size w u) => known_any (hK.step h))
  have HL := Lib.hid (fun (u : World) (h : Below w.heap.size w u) => len_any (k := k) (hK.step h))
  have d1 : decide ((2000 : Int) < (n : Int)) = false := by simp; omega
  have hle := genN_le k
  have hbits := validB_bits hx hv
  have HA := Lib.hid (attach_ok (c := c) hK hI (by omega) h0 hv hbits)
  have hlr : (xs ++ crcI k xs).length = n + (genN k).2 := by rw [List.length_append, crcI_length, hI.len]
  have HLR := Lib.hid hlr
  have hL0 : 0 < (genN k).2 := by omega
  have hti : toI (toB (xs ++ crcI k xs)) = xs ++ crcI k xs := toI_toB (hbits.app (crcI_bits k xs))
  have hres : crcB (genB k) (toB (xs ++ crcI k xs)) = zerosB (genB k).length := by
    have h1 := congrArg toB (crcI_residue k xs)
    unfold crcI at h1
    rw [toB_toI, toB_zeros, ← genB_length] at h1
    exact h1
  have hbl : (toB (xs ++ crcI k xs)).length = n + (genN k).2 := by rw [toB_length, hlr]
  have hBad := Lib.hid (fun (i t : Nat) (hi : i < n + (genN k).2) (ht0 : 0 < t) (ht : t ≤ (genN k).2) (hit : i + t ≤ n + (genN k).2) =>
    checkS_bad (bs := flipL (toB (xs ++ crcI k xs)) i t pat) h0 (by rw [flipL_length, hbl]; omega) (flip_bad (genB_last h0) hres (by rw [hbl]; exact hi) ht0 (by rw [genB_length]; exact ht) (by rw [hbl]; exact hit)))
  have HC := Lib.hid (fun (u : World) (A1 : Option Addr) (c1 i t : Nat) (h : Below w.heap.size w u) (hr : Rd .u8 u u.heap.size A1 (n + (genN k).2) (toI (flipL (toB (xs ++ crcI k xs)) i t pat))) (hc : n + (genN k).2 ≤ c1) => check_any (k := k) (hK.step h) hr (by omega) hc (toI_bits _).byte)
  rw [← hti] at HA HLR
  have HBL := Lib.hid hbl
  obtain ⟨i, hil, hix⟩ := index_of at_ n (genN k).2 (by omega) (by omega)
  have hN0 : (((n : Int) + (((genN k).2 : Nat) : Int)) == 0) = false := by simp; omega
  clear hres hti hlr hbits hI hK h0 hv hbl
  generalize toB (xs ++ crcI k xs) = bs at *
  generalize (genN k).2 = L at *
  go_enter Tryd.func8, Tryd.ntmps8
  go_wp2_with fail
  refine HA.out.mono ?_
  intro e w1 h1
  obtain ⟨A1, c1, rfl, ho1, hb1⟩ := h1.got HLR.out
  obtain ⟨g, cap, hv1, hg1, hg2⟩ := ho1.form (by omega)
  injection hv1 with e1 _ e3
  subst e1 e3
  have hcap := own_cap' ho1
  have hi0 : (0 : Int) ≤ (i : Int) := by omega
  have hi1 : (i : Int) < (n : Int) + (L : Int) := by omega
  have hc0 : w1.cell? ⟨g, i, none⟩ = some (.int .u8 (bI (bs.getD i false))) := by
    rw [ho1.cellAt i (by omega), List.getElem?_map]
    have h3 := toI_getD bs i
    have h4 : i < (toI bs).length := by rw [toI_length, HBL.out]; exact hil
    rw [List.getElem?_eq_getElem h4] at h3 ⊢
    simp only [Option.getD_some] at h3
    rw [Option.map_some, h3]
  have hf0 := ho1.frozenAt i
  have hfi := Lib.hid (flipL_first (bs := bs) (i := i) (pat := pat) (by rw [HBL.out]; exact hil))
  have hST := ho1.stored i (.int .u8 (bI (!(bs.getD i false))))
  rw [← List.map_set, toI_set, hfi.out] at hST
  have HST := Lib.hid hST
  have hsub := u8_sub_bI (bs.getD i false)
  have hrg := bI_range (!(bs.getD i false))
  clear hST ho1 h1 HA
  generalize bI (!(bs.getD i false)) = y0 at *
  generalize bI (bs.getD i false) = x0 at *
  go_wp2_with fail
  have hb0 : Below w.heap.size w (w1.setCell ⟨g, i, none⟩ (.int .u8 y0)) := hb1.setCell (p := ⟨g, i, none⟩) hg1 _
  rw [hix]
  clear hsub hrg hc0 hf0 hfi hix hN0 d1 hg2
  generalize w1.setCell ⟨g, i, none⟩ (.int .u8 y0) = w2 at *
  go_loopw [12] (fun s wr => ∃ t : Nat, 0 < t ∧ t ≤ L ∧ i + t ≤ n + L ∧ s = .int .i64 t ∧ Hid (wr.ownsRow w.heap.size 5 1 (.slice (some ⟨g, 0, none⟩) (n + L) c1) (n + L) ((toI (flipL bs i t pat)).map (Value.int .u8))) ∧ Below w.heap.size w wr)
    (fun s _ => L - (intOf s).toNat)
  case atStart => exact ⟨1, by omega, by omega, by omega, rfl, Lib.hid HST.out.1, hb0⟩
  case round =>
    clear HST hb0 hb1
    obtain ⟨t, ht0, ht, hit, rfl, hO, hB⟩ := hrel
    by_cases htL : t < L
    · have hk1 : (t : Int) < (L : Int) := by omega
      by_cases hin : i + t < n + L
      · have hk2 : (i : Int) + (t : Int) < (n : Int) + (L : Int) := by omega
        have hk3 : (0 : Int) ≤ (i : Int) + (t : Int) := by omega
        have hk4 : IntKind.i64.wrap ((i : Int) + (t : Int)) = (i : Int) + (t : Int) := IntWalk.i64_in _ (by omega)
        have hk5 : ((i : Int) + (t : Int)).toNat = i + t := by omega
        have hq := div_pow_range hp t
        have hand := and_one_u32 hq.1 hq.2
        by_cases hpt : pat / 2 ^ t % 2 = 1
        · have hd : (bits .and .u32 (pat / 2 ^ t) 1 == 1) = true := by rw [hand, hpt]; rfl
          have hyes := flipL_yes (bs := bs) (i := i) (t := t) (pat := pat) (by rw [HBL.out]; exact hin) ht0 hpt
          have hat := flipL_at (bs := bs) (i := i) (t := t) (pat := pat) (by rw [HBL.out]; exact hin) ht0
          clear hand hpt
          go_wp2_with fail
          refine (HL.out _ hB).mono ?_
          rintro e w3 ⟨rfl, hb3⟩
          have hO3 := own_step hO.out hb3
          have hB3 := hB.trans (hb3.mono hB.size)
          have hc0 : w3.cell? ⟨g, i + t, none⟩ = some (.int .u8 (bI (bs.getD (i + t) false))) := by
            rw [hO3.cellAt (i + t) (by omega), List.getElem?_map]
            have h3 := toI_getD (flipL bs i t pat) (i + t)
            have h4 : i + t < (toI (flipL bs i t pat)).length := by rw [toI_length, flipL_length, HBL.out]; exact hin
            rw [List.getElem?_eq_getElem h4] at h3 ⊢
            simp only [Option.getD_some] at h3
            rw [Option.map_some, h3, hat]
          have hf0 := hO3.frozenAt (i + t)
          have hST := hO3.stored (i + t) (.int .u8 (bI (!(bs.getD (i + t) false))))
          rw [← List.map_set, toI_set, hyes] at hST
          have HST := Lib.hid hST
          have hsub := u8_sub_bI (bs.getD (i + t) false)
          have hrg := bI_range (!(bs.getD (i + t) false))
          clear hST hyes hat hO3 hO hb3 hB
          generalize bI (!(bs.getD (i + t) false)) = y at *
          generalize bI (bs.getD (i + t) false) = x at *
          go_wp2_with fail
          go_roundw
          case rel => exact ⟨t + 1, by omega, by omega, by omega, by go_num, Lib.hid HST.out.1, hB3.setCell (p := ⟨g, i + t, none⟩) hg1 _⟩
          case measure => simp [intOf]; omega
        · have hd : (bits .and .u32 (pat / 2 ^ t) 1 == 1) = false := by rw [hand]; simpa using hpt
          have hno := flipL_no (bs := bs) (i := i) (t := t) (pat := pat) hpt
          clear hand hpt
          go_wp2_with fail
          refine (HL.out _ hB).mono ?_
          rintro e w3 ⟨rfl, hb3⟩
          have hO3 := own_step hO.out hb3
          have hB3 := hB.trans (hb3.mono hB.size)
          rw [hno] at hO3
          have HO3 := Lib.hid hO3
          clear hO3 hno hO hb3 hB
          go_wp2_with fail
          go_roundw
          case rel => exact ⟨t + 1, by omega, by omega, by omega, by go_num, HO3, hB3⟩
          case measure => simp [intOf]; omega
      · have hk2 : decide ((i : Int) + (t : Int) < (n : Int) + (L : Int)) = false := by simp; omega
        have hk4 : IntKind.i64.wrap ((i : Int) + (t : Int)) = (i : Int) + (t : Int) := IntWalk.i64_in _ (by omega)
        have hbad := hBad.out i t hil ht0 ht hit
        go_wp2_with fail
        refine (HL.out _ hB).mono ?_
        rintro e w3 ⟨rfl, hb3⟩
        have hr3 := Rd.of_own (own_step hO.out hb3)
        have hB3 := hB.trans (hb3.mono hB.size)
        have HCk := Lib.hid (HC.out _ _ _ i t hB3 hr3 hcap)
        rw [hbad] at HCk
        clear hr3 hbad hO hb3 hB
        go_wp2_with fail
        refine HCk.out.mono ?_
        intro e w4 h4
        obtain ⟨A4, c4, rfl, ho4, hb4⟩ := h4.got (n := 0) rfl
        replace hb4 := hB3.trans (hb4.mono hB3.size)
        clear h4 ho4
        go_wp2_with fail
        refine (HKn.out _ hb4).mono ?_
        rintro e w5 ⟨rfl, hb5⟩
        replace hb5 := hb4.trans (hb5.mono hb4.size)
        go_wp2_with fail
        go_ret
        exact ⟨rfl, hb5⟩
    · have hk1 : decide ((t : Int) < (L : Int)) = false := by simp; omega
      have hbad := hBad.out i t hil ht0 ht hit
      go_wp2_with fail
      refine (HL.out _ hB).mono ?_
      rintro e w3 ⟨rfl, hb3⟩
      have hr3 := Rd.of_own (own_step hO.out hb3)
      have hB3 := hB.trans (hb3.mono hB.size)
      have HCk := Lib.hid (HC.out _ _ _ i t hB3 hr3 hcap)
      rw [hbad] at HCk
      clear hr3 hbad hO hb3 hB
      go_wp2_with fail
      refine HCk.out.mono ?_
      intro e w4 h4
      obtain ⟨A4, c4, rfl, ho4, hb4⟩ := h4.got (n := 0) rfl
      replace hb4 := hB3.trans (hb4.mono hB3.size)
      clear h4 ho4
      go_wp2_with fail
      refine (HKn.out _ hb4).mono ?_
      rintro e w5 ⟨rfl, hb5⟩
      replace hb5 := hb4.trans (hb5.mono hb4.size)
      go_wp2_with fail
      go_ret
      exact ⟨rfl, hb5⟩
set_option maxRecDepth 100000 in
set_option maxHeartbeats 1000000 in
theorem bursts_walk {k at_ pat : Int} {A : Option Addr} {n c : Nat} {xs : List Int} {w : World} (hK : Kinds w) (hI : Rd .u8 w w.heap.size A n xs) (hx : Byte xs) (hp : 0 ≤ pat ∧ pat < 4294967296) :
    Calls Tryd.prog 8 #[.int .i64 k, .slice A n c, .int .i64 at_, .int .u32 pat] w fun e w' => e = .returned (.bool true) ∧ Below w.heap.size w w' := by
  by_cases h2 : 2000 < n
  · have HKn := Lib.hid (fun (u : World) (h : Below w.heap.size w u) => known_any (hK.step h))
    have d1 : decide ((2000 : Int) < (n : Int)) = true := by simp; omega
    go_enter Tryd.func8, Tryd.ntmps8
    go_wp2_with fail
    refine (HKn.out _ (Below.refl _ _)).mono ?_
    rintro e w1 ⟨rfl, hb⟩
    go_wp2_with fail
    go_ret
    exact ⟨rfl, hb⟩
  · by_cases h0 : (genN k).2 = 0
    · have HKn := Lib.hid (fun (u : World) (h : Below w.heap.size w u) => known_any (hK.step h))
      have d1 : decide ((2000 : Int) < (n : Int)) = false := by simp; omega
      have HA := Lib.hid (attach_arg (A := A) (n := n) (c := c) hK h0)
      clear h0 hI hK
      go_enter Tryd.func8, Tryd.ntmps8
      go_wp2_with fail
      refine HA.out.mono ?_
      intro e w1 h1
      obtain ⟨A1, c1, rfl, ho1, hb1⟩ := h1.got (n := 0) rfl
      clear h1 ho1
      go_wp2_with fail
      refine (HKn.out _ hb1).mono ?_
      rintro e w3 ⟨rfl, hb3⟩
      replace hb3 := hb1.trans (hb3.mono hb1.size)
      go_wp2_with fail
      go_ret
      exact ⟨rfl, hb3⟩
    · by_cases hv : validB xs = true
      · exact bursts_ok hK hI hx hp (by omega) h0 hv
      · have hv' : validB xs = false := by simpa using hv
        have HKn := Lib.hid (fun (u : World) (h : Below w.heap.size w u) => known_any (hK.step h))
        have d1 : decide ((2000 : Int) < (n : Int)) = false := by simp; omega
        have HA := Lib.hid (attach_bit (c := c) hK hI (by omega) h0 hv')
        clear h0 hI hK hv hv'
        go_enter Tryd.func8, Tryd.ntmps8
        go_wp2_with fail
        refine HA.out.mono ?_
        intro e w1 h1
        obtain ⟨A1, c1, rfl, ho1, hb1⟩ := h1.got (n := 0) rfl
        clear h1 ho1
        go_wp2_with fail
        refine (HKn.out _ hb1).mono ?_
        rintro e w3 ⟨rfl, hb3⟩
        replace hb3 := hb1.trans (hb3.mono hb1.size)
        go_wp2_with fail
        go_ret
        exact ⟨rfl, hb3⟩
end Go.Proofs.YtekldonfmfnmpaaDoor
