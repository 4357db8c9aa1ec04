/-
  The walk of TurboHolds.
-/
import Derived.Test.YtbpkoilecdejiaaDoorL5
import Derived.Test.YtbpkoilecdejiaaDoorL6
import Derived.Test.YtbpkoilecdejiaaDoorRi
namespace Go.Proofs.YtbpkoilecdejiaaDoor
set_option maxRecDepth 100000
open Go.RowKit

theorem bits_tb {xs : List Int} (hs : IsSize xs.length) (hx : Bits xs) : bitsS (tbI xs) = (xs, 0) := by
  have h := bitsS_size hs (tbI_length xs)
  rwa [(tbI_bits hx).valid, if_pos rfl, tbI_take xs hx] at h
/-- An act by its slots. -/
theorem act154 (a : Act) (h : a.tmps.size = 154) (hd : a.defers = []) : a = { tmps := List.toArray (a.tmps.getD 0 undef :: a.tmps.getD 1 undef :: a.tmps.getD 2 undef :: a.tmps.getD 3 undef :: a.tmps.getD 4 undef :: a.tmps.getD 5 undef :: a.tmps.getD 6 undef :: a.tmps.getD 7 undef :: a.tmps.getD 8 undef :: a.tmps.getD 9 undef :: a.tmps.getD 10 undef :: a.tmps.getD 11 undef :: a.tmps.getD 12 undef :: a.tmps.getD 13 undef :: a.tmps.getD 14 undef :: a.tmps.getD 15 undef :: a.tmps.getD 16 undef :: a.tmps.getD 17 undef :: a.tmps.getD 18 undef :: a.tmps.getD 19 undef :: a.tmps.getD 20 undef :: a.tmps.getD 21 undef :: a.tmps.getD 22 undef :: a.tmps.getD 23 undef :: a.tmps.getD 24 undef :: a.tmps.getD 25 undef :: a.tmps.getD 26 undef :: a.tmps.getD 27 undef :: a.tmps.getD 28 undef :: a.tmps.getD 29 undef :: a.tmps.getD 30 undef :: a.tmps.getD 31 undef :: a.tmps.getD 32 undef :: a.tmps.getD 33 undef :: a.tmps.getD 34 undef :: a.tmps.getD 35 undef :: a.tmps.getD 36 undef :: a.tmps.getD 37 undef :: a.tmps.getD 38 undef :: a.tmps.getD 39 undef :: a.tmps.getD 40 undef :: a.tmps.getD 41 undef :: a.tmps.getD 42 undef :: a.tmps.getD 43 undef :: a.tmps.getD 44 undef :: a.tmps.getD 45 undef :: a.tmps.getD 46 undef :: a.tmps.getD 47 undef :: a.tmps.getD 48 undef :: a.tmps.getD 49 undef :: a.tmps.getD 50 undef :: a.tmps.getD 51 undef :: a.tmps.getD 52 undef :: a.tmps.getD 53 undef :: a.tmps.getD 54 undef :: a.tmps.getD 55 undef :: a.tmps.getD 56 undef :: a.tmps.getD 57 undef :: a.tmps.getD 58 undef :: a.tmps.getD 59 undef :: a.tmps.getD 60 undef :: a.tmps.getD 61 undef :: a.tmps.getD 62 undef :: a.tmps.getD 63 undef :: a.tmps.getD 64 undef :: a.tmps.getD 65 undef :: a.tmps.getD 66 undef :: a.tmps.getD 67 undef :: a.tmps.getD 68 undef :: a.tmps.getD 69 undef :: a.tmps.getD 70 undef :: a.tmps.getD 71 undef :: a.tmps.getD 72 undef :: a.tmps.getD 73 undef :: a.tmps.getD 74 undef :: a.tmps.getD 75 undef :: a.tmps.getD 76 undef :: a.tmps.getD 77 undef :: a.tmps.getD 78 undef :: a.tmps.getD 79 undef :: a.tmps.getD 80 undef :: a.tmps.getD 81 undef :: a.tmps.getD 82 undef :: a.tmps.getD 83 undef :: a.tmps.getD 84 undef :: a.tmps.getD 85 undef :: a.tmps.getD 86 undef :: a.tmps.getD 87 undef :: a.tmps.getD 88 undef :: a.tmps.getD 89 undef :: a.tmps.getD 90 undef :: a.tmps.getD 91 undef :: a.tmps.getD 92 undef :: a.tmps.getD 93 undef :: a.tmps.getD 94 undef :: a.tmps.getD 95 undef :: a.tmps.getD 96 undef :: a.tmps.getD 97 undef :: a.tmps.getD 98 undef :: a.tmps.getD 99 undef :: a.tmps.getD 100 undef :: a.tmps.getD 101 undef :: a.tmps.getD 102 undef :: a.tmps.getD 103 undef :: a.tmps.getD 104 undef :: a.tmps.getD 105 undef :: a.tmps.getD 106 undef :: a.tmps.getD 107 undef :: a.tmps.getD 108 undef :: a.tmps.getD 109 undef :: a.tmps.getD 110 undef :: a.tmps.getD 111 undef :: a.tmps.getD 112 undef :: a.tmps.getD 113 undef :: a.tmps.getD 114 undef :: a.tmps.getD 115 undef :: a.tmps.getD 116 undef :: a.tmps.getD 117 undef :: a.tmps.getD 118 undef :: a.tmps.getD 119 undef :: a.tmps.getD 120 undef :: a.tmps.getD 121 undef :: a.tmps.getD 122 undef :: a.tmps.getD 123 undef :: a.tmps.getD 124 undef :: a.tmps.getD 125 undef :: a.tmps.getD 126 undef :: a.tmps.getD 127 undef :: a.tmps.getD 128 undef :: a.tmps.getD 129 undef :: a.tmps.getD 130 undef :: a.tmps.getD 131 undef :: a.tmps.getD 132 undef :: a.tmps.getD 133 undef :: a.tmps.getD 134 undef :: a.tmps.getD 135 undef :: a.tmps.getD 136 undef :: a.tmps.getD 137 undef :: a.tmps.getD 138 undef :: a.tmps.getD 139 undef :: a.tmps.getD 140 undef :: a.tmps.getD 141 undef :: a.tmps.getD 142 undef :: a.tmps.getD 143 undef :: a.tmps.getD 144 undef :: a.tmps.getD 145 undef :: a.tmps.getD 146 undef :: a.tmps.getD 147 undef :: a.tmps.getD 148 undef :: a.tmps.getD 149 undef :: a.tmps.getD 150 undef :: a.tmps.getD 151 undef :: a.tmps.getD 152 undef :: a.tmps.getD 153 undef :: []), defers := [] } := by
  obtain ⟨⟨l⟩, d⟩ := a
  simp only at hd h
  subst hd
  have hl : l.length = 154 := by simpa using h
  have e : l = (List.range 154).map (fun i => (Array.mk l).getD i undef) := by
    apply List.ext_getElem
    · simp [hl]
    · intro i h1 h2
      simp [Array.getD_eq_getD_getElem?, h1]
  exact congrArg (fun l => Act.mk (List.toArray l) []) (e.trans rfl)
def pickS (p : List Int) (f : Nat → Nat) (i : Nat) : List Int := (List.range i).map fun j => p[f j]?.getD 0
theorem pick_succ (p : List Int) (f : Nat → Nat) (i : Nat) : pickS p f (i + 1) = pickS p f i ++ [p[f i]?.getD 0] := by simp [pickS, List.range_succ]
set_option maxHeartbeats 16000000 in
theorem holds_walk {A : Option Addr} {n c z : Nat} {xs : List Int} {w : World} (hKi : Kinds w) (hX : Rd .u8 w w.heap.size A n xs) (hbx : Byte xs) (hz : z ≤ 255) :
    Calls Tryd.prog 9 #[.slice A n c, .int .u8 (z : Int)] w fun e w' => e = .returned (.bool true) ∧ Below w.heap.size w w' := by
  have hK := Lib.hid (fun (v : World) (h : Below w.heap.size w v) => works_to hKi h)
  by_cases hn : n ≤ 600
  · have hn1 : ¬ (600 : Int) < (n : Int) := by omega
    have hLX := Lib.hid (fun (v : World) (h : Rd .u8 v v.heap.size A n xs) => sized_any (c := c) h hbx (by omega) hz)
    have bx := sizedL_bits xs z
    have lx := sizedL_length xs z
    have hsz := size_K z
    have hk5 := sizeK_le z
    have hk4 : 40 ≤ sizeK z := by unfold sizeK; omega
    generalize sizedL xs z = x at *
    generalize sizeK z = k at *
    have hWX := Lib.hid (fun (v : World) (A : Option Addr) (c : Nat) (hB : Below w.heap.size w v) (h : Rd .u8 v v.heap.size A k x) => enc_low (c := c) (hKi.step hB) h bx hsz)
    obtain ⟨N, hN⟩ : ∃ N, 3 * (k + 4) = N := ⟨_, rfl⟩
    have hsx : IsSize x.length := by rw [lx]; exact hsz
    have bp := Lib.hid (tbI_bits bx)
    have hBt := Lib.hid (fun (v : World) (A : Option Addr) (c : Nat) (hB : Below w.heap.size w v) (hc : N ≤ c) (h : Rd .u8 v v.heap.size A N (tbI x)) => turboBits_any (c := c) (hKi.step hB) h bp.out.byte (by omega) hc)
    rw [bits_tb hsx bx] at hBt
    have hCk := Lib.hid (fun (v : World) (A : Option Addr) (c : Nat) (hB : Below w.heap.size w v) (hc : N ≤ c) (h : Rd .u8 v v.heap.size A N (tbI x)) => Check_any (c := c) (hKi.step hB) h bp.out.byte (by omega) hc)
    rw [chk_tb hsx bx] at hCk
    have hSz := Lib.hid (fun (v : World) (hB : Below w.heap.size w v) => Size_any (k := (k : Int)) (hKi.step hB))
    rw [sizeS_size hsz, show (3 : Int) * ((k : Int) + 4) = (N : Int) by omega] at hSz
    have hLay := Lib.hid (fun (v : World) (c : Nat) (hB : Below w.heap.size w v) (hc : c = 1 ∨ c = 2) => lay_own (c := c) (hKi.step hB) hsz hc)
    have HX := Lib.hid hX
    have BX := Lib.hid bx
    have HLX := Lib.hid lx
    have HSZ := Lib.hid hsz
    have HN := Lib.hid hN
    have hN5 : N ≤ 1548 := by omega
    have k0 : (40 : Int) ≤ (k : Int) := by omega
    have k1 : (k : Int) ≤ 512 := by omega
    rw [hN] at hWX
    unfold RetBytes at hBt
    simp only [lx] at hBt
    have HT1 := Lib.hid (tb_code (code := 1) hsx bx (.inl rfl))
    have HT2 := Lib.hid (tb_code (code := 2) hsx bx (.inr rfl))
    generalize tbI x = p at *
    clear hX bx lx hbx hKi hN hsx hsz hk5
    go_enter Tryd.func9, Tryd.ntmps9
    go_wp2_with fail
    refine (hLX.out w HX.out).mono ?_
    rintro e w1 ⟨g1, rfl, hO1, hb1⟩
    have X1 := Lib.hid (Rd.of_own hO1)
    have B1 := Lib.hid hb1
    clear hO1 hLX HX hb1
    go_wp2_with fail
    refine (hWX.out w1 _ _ B1.out X1.out).mono ?_
    rintro e w2 ⟨A4, c4, rfl, P2, hc4, hb2⟩
    have HC4 := Lib.hid hc4
    have X2 := Lib.hid (X1.out.step hb2)
    have B2 := Lib.hid (B1.out.trans (hb2.mono B1.out.size))
    have P2 := Lib.hid P2
    clear hb2 X1 B1 hWX hc4
    go_wp2_with fail
    refine (hBt.out w2 _ _ B2.out HC4.out P2.out).mono ?_
    rintro e w3 ⟨A5, c5, rfl, hO5, hb3⟩
    have Y3 := Lib.hid (Rd.of_own hO5)
    have X3 := Lib.hid (X2.out.step hb3)
    have P3 := Lib.hid (P2.out.step hb3)
    have B3 := Lib.hid (B2.out.trans (hb3.mono B2.out.size))
    clear hb3 X2 B2 P2 hBt hO5
    go_wp2_with (go_at_call 14; refine num_any.mono ?_; rintro e wn ⟨rfl, he⟩; obtain rfl := he.symm)
    refine (hSz.out w3 B3.out).mono ?_
    rintro e w4 ⟨rfl, hb4⟩
    have Y4 := Lib.hid (Y3.out.step hb4)
    have X4 := Lib.hid (X3.out.step hb4)
    have P4 := Lib.hid (P3.out.step hb4)
    have B4 := Lib.hid (B3.out.trans (hb4.mono B3.out.size))
    have HS := Lib.hid (same_true (c := c5) (c' := k) Y4.out X4.out BX.out.byte)
    clear hb4 X3 B3 P3 Y3 hSz X4 Y4
    go_wp2_with fail
    refine HS.out.mono ?_
    rintro e w5 ⟨rfl, he⟩
    obtain rfl := he.symm
    clear HS he
    go_wp2_with fail
    refine (hCk.out w4 _ _ B4.out HC4.out P4.out).mono ?_
    rintro e w5 ⟨rfl, hb5⟩
    have P5 := Lib.hid (P4.out.step hb5)
    have B5 := Lib.hid (B4.out.trans (hb5.mono B4.out.size))
    clear hb5 B4 P4 hCk
    go_wp2_with (go_at_call 14; refine num_any.mono ?_; rintro e wn ⟨rfl, he⟩; obtain rfl := he.symm)
    have HB0 := Lib.hid (Below.refl w5.heap.size w5)
    go_loopw [11] (fun x W => ∃ cd : Nat, cd ≤ 2 ∧ x = .int .i64 ((cd : Int) + 1) ∧ Hid (Below w5.heap.size w5 W)) (fun x _ => 4 - (intOf x).toNat)
    case atStart => exact ⟨0, by decide, rfl, HB0⟩
    case round =>
      clear HB0
      obtain ⟨cd, hcd, rfl, hH⟩ := hrel
      have h012 : cd = 0 ∨ cd = 1 ∨ cd = 2 := by omega
      rcases h012 with rfl | rfl | rfl
      · have C := Lib.hid (hLay.out wr 1 (B5.out.trans (hH.out.mono B5.out.size)) (by decide))
        go_wp2_with fail
        refine C.out.mono ?_
        rintro e w6 ⟨A, c1, A', c1', rfl, ⟨R, R'⟩, ⟨f1, f2⟩, hb6⟩
        have hN0 : 0 < N := by have := HN.out; omega
        have P6 := (P5.out.step hH.out).step hb6
        obtain ⟨bS, oS, rfl, lS, _⟩ := R.cells 0 (by omega)
        obtain ⟨bR, oR, rfl, lR, _⟩ := R'.cells 0 (by omega)
        obtain ⟨bP, oP, rfl, lP, _⟩ := P6.cells 0 hN0
        have BL := Lib.hid (And.intro lP (And.intro lS lR))
        have H6 := Lib.hid (And.intro P6 (And.intro R R'))
        have B6 := Lib.hid ((B5.out.trans (hH.out.mono B5.out.size)).trans (hb6.mono (B5.out.trans (hH.out.mono B5.out.size)).size))
        have HW := Lib.hid (hH.out.trans (hb6.mono hH.out.size))
        clear C P6 R R' f1 f2 hb6 lS lR lP hH
        go_wp2_with (go_at_call 14; refine num_any.mono ?_; rintro e wn ⟨rfl, he⟩; obtain rfl := he.symm)
        have HI0 : Hid (w6.ownsRow w6.heap.size 5 1 (.slice none 0 0) 0 ((pickS p (sysN (piK k) k 1) 0).map (Value.int .u8)) ∧ w6.ownsRow w6.heap.size 5 1 (.slice none 0 0) 0 ((pickS p (parN k 1) 0).map (Value.int .u8)) ∧ (∀ g, (Value.slice none 0 0).ownBlock = some g → (Value.slice none 0 0).ownBlock ≠ some g) ∧ Below w6.heap.size w6 w6) := Lib.hid ⟨by simpa [pickS] using World.ownsRow_nil w6 w6.heap.size 5 1, by simpa [pickS] using World.ownsRow_nil w6 w6.heap.size 5 1, fun g hg => by simp [Value.ownBlock] at hg, Below.refl _ _⟩
        go_loopw [15, 16, 17] (fun s q x U => ∃ (i ci cp : Nat) (Ai Ap : Option Addr), i ≤ k + 3 ∧ s = .slice Ai i ci ∧ q = .slice Ap i cp ∧ x = .int .i64 (i : Int) ∧ Hid (U.ownsRow w6.heap.size 5 1 (.slice Ai i ci) i ((pickS p (sysN (piK k) k 1) i).map (Value.int .u8)) ∧ U.ownsRow w6.heap.size 5 1 (.slice Ap i cp) i ((pickS p (parN k 1) i).map (Value.int .u8)) ∧ (∀ g, (Value.slice Ai i ci).ownBlock = some g → (Value.slice Ap i cp).ownBlock ≠ some g) ∧ Below w6.heap.size w6 U)) (fun _ _ x _ => k + 3 - (intOf x).toNat)
        case atStart => exact ⟨0, 0, 0, none, none, Nat.zero_le _, rfl, rfl, rfl, HI0⟩
        case round =>
          clear HI0
          obtain ⟨i, ci, cp, Ai, Ap, hi, rfl, rfl, rfl, hU⟩ := hrel
          by_cases hlt : i < k + 3
          · have hi0 : (0 : Int) ≤ (i : Int) := by omega
            have hi1 : (i : Int) < (k : Int) + 3 := by omega
            clear HT1 HT2 hLay hK
            go_wp2_with fail
            have hx1 := (sysN_lt (p := piK k) (k := k) (code := 1) (i := i) (fun j _ => piK_lt HSZ.out j) (by decide)).1
            have hx2 := parN_lt (k := k) (code := 1) (i := i) (by decide)
            rw [HN.out] at hx1 hx2
            obtain ⟨_, _, e1, _, cs⟩ := (H6.out.2.1.below hU.out.2.2.2).cells i hlt
            injection e1 with e1
            injection e1 with e1 e2
            subst e1 e2
            obtain ⟨_, _, e1, _, cr⟩ := (H6.out.2.2.below hU.out.2.2.2).cells i hlt
            injection e1 with e1
            injection e1 with e1 e2
            subst e1 e2
            obtain ⟨_, _, e1, _, cx⟩ := (H6.out.1.below hU.out.2.2.2).cells _ hx1
            injection e1 with e1
            injection e1 with e1 e2
            subst e1 e2
            obtain ⟨_, _, e1, _, cy⟩ := (H6.out.1.below hU.out.2.2.2).cells _ hx2
            injection e1 with e1
            injection e1 with e1 e2
            subst e1 e2
            rw [sysL_get hlt] at cs
            rw [parLay_get hlt] at cr
            refine h19_wp (H := w6.heap.size) (W8 := wr) rfl rfl rfl rfl rfl rfl hlt hx1 hx2 BL.out cs cr cx cy (by omega) hU.out.2.2.2.size rfl hU.out.1 hU.out.2.1 hU.out.2.2.1 ?_
            intro a9 w9 A2 c2 A3 c3 hk9 hz9 hd9 q15 q16 ho1 ho2 hap9 hb9
            rw [← pick_succ] at ho1 ho2
            have HU := Lib.hid (And.intro ho1 (And.intro ho2 (And.intro hap9 (hU.out.2.2.2.trans (hb9.mono (Nat.le_refl _))))))
            clear ho1 ho2 hap9 hb9 hU cs cr cx cy
            rw [act154 a9 hz9 hd9, q15, q16]
            have f0 := hk9 0 (by decide) (by decide) (by decide)
            conv at f0 => rhs; whnf
            have f1 := hk9 1 (by decide) (by decide) (by decide)
            conv at f1 => rhs; whnf
            have f2 := hk9 2 (by decide) (by decide) (by decide)
            conv at f2 => rhs; whnf
            have f3 := hk9 3 (by decide) (by decide) (by decide)
            conv at f3 => rhs; whnf
            have f4 := hk9 4 (by decide) (by decide) (by decide)
            conv at f4 => rhs; whnf
            have f5 := hk9 5 (by decide) (by decide) (by decide)
            conv at f5 => rhs; whnf
            have f6 := hk9 6 (by decide) (by decide) (by decide)
            conv at f6 => rhs; whnf
            have f7 := hk9 7 (by decide) (by decide) (by decide)
            conv at f7 => rhs; whnf
            have f8 := hk9 8 (by decide) (by decide) (by decide)
            conv at f8 => rhs; whnf
            have f9 := hk9 9 (by decide) (by decide) (by decide)
            conv at f9 => rhs; whnf
            have f10 := hk9 10 (by decide) (by decide) (by decide)
            conv at f10 => rhs; whnf
            have f11 := hk9 11 (by decide) (by decide) (by decide)
            conv at f11 => rhs; whnf
            have f12 := hk9 12 (by decide) (by decide) (by decide)
            conv at f12 => rhs; whnf
            have f13 := hk9 13 (by decide) (by decide) (by decide)
            conv at f13 => rhs; whnf
            have f14 := hk9 14 (by decide) (by decide) (by decide)
            conv at f14 => rhs; whnf
            have f17 := hk9 17 (by decide) (by decide) (by decide)
            conv at f17 => rhs; whnf
            have f18 := hk9 18 (by decide) (by decide) (by decide)
            conv at f18 => rhs; whnf
            have f19 := hk9 19 (by decide) (by decide) (by decide)
            conv at f19 => rhs; whnf
            have f20 := hk9 20 (by decide) (by decide) (by decide)
            conv at f20 => rhs; whnf
            have f21 := hk9 21 (by decide) (by decide) (by decide)
            conv at f21 => rhs; whnf
            have f22 := hk9 22 (by decide) (by decide) (by decide)
            conv at f22 => rhs; whnf
            have f23 := hk9 23 (by decide) (by decide) (by decide)
            conv at f23 => rhs; whnf
            have f24 := hk9 24 (by decide) (by decide) (by decide)
            conv at f24 => rhs; whnf
            have f25 := hk9 25 (by decide) (by decide) (by decide)
            conv at f25 => rhs; whnf
            have f26 := hk9 26 (by decide) (by decide) (by decide)
            conv at f26 => rhs; whnf
            have f27 := hk9 27 (by decide) (by decide) (by decide)
            conv at f27 => rhs; whnf
            have f28 := hk9 28 (by decide) (by decide) (by decide)
            conv at f28 => rhs; whnf
            have f29 := hk9 29 (by decide) (by decide) (by decide)
            conv at f29 => rhs; whnf
            have f30 := hk9 30 (by decide) (by decide) (by decide)
            conv at f30 => rhs; whnf
            have f31 := hk9 31 (by decide) (by decide) (by decide)
            conv at f31 => rhs; whnf
            have f32 := hk9 32 (by decide) (by decide) (by decide)
            conv at f32 => rhs; whnf
            have f33 := hk9 33 (by decide) (by decide) (by decide)
            conv at f33 => rhs; whnf
            have f34 := hk9 34 (by decide) (by decide) (by decide)
            conv at f34 => rhs; whnf
            have f35 := hk9 35 (by decide) (by decide) (by decide)
            conv at f35 => rhs; whnf
            have f36 := hk9 36 (by decide) (by decide) (by decide)
            conv at f36 => rhs; whnf
            have f37 := hk9 37 (by decide) (by decide) (by decide)
            conv at f37 => rhs; whnf
            have f38 := hk9 38 (by decide) (by decide) (by decide)
            conv at f38 => rhs; whnf
            have f39 := hk9 39 (by decide) (by decide) (by decide)
            conv at f39 => rhs; whnf
            have f40 := hk9 40 (by decide) (by decide) (by decide)
            conv at f40 => rhs; whnf
            have f41 := hk9 41 (by decide) (by decide) (by decide)
            conv at f41 => rhs; whnf
            have f42 := hk9 42 (by decide) (by decide) (by decide)
            conv at f42 => rhs; whnf
            have f43 := hk9 43 (by decide) (by decide) (by decide)
            conv at f43 => rhs; whnf
            have f44 := hk9 44 (by decide) (by decide) (by decide)
            conv at f44 => rhs; whnf
            have f45 := hk9 45 (by decide) (by decide) (by decide)
            conv at f45 => rhs; whnf
            have f46 := hk9 46 (by decide) (by decide) (by decide)
            conv at f46 => rhs; whnf
            have f47 := hk9 47 (by decide) (by decide) (by decide)
            conv at f47 => rhs; whnf
            have f48 := hk9 48 (by decide) (by decide) (by decide)
            conv at f48 => rhs; whnf
            have f49 := hk9 49 (by decide) (by decide) (by decide)
            conv at f49 => rhs; whnf
            have f50 := hk9 50 (by decide) (by decide) (by decide)
            conv at f50 => rhs; whnf
            have f51 := hk9 51 (by decide) (by decide) (by decide)
            conv at f51 => rhs; whnf
            have f52 := hk9 52 (by decide) (by decide) (by decide)
            conv at f52 => rhs; whnf
            have f53 := hk9 53 (by decide) (by decide) (by decide)
            conv at f53 => rhs; whnf
            have f54 := hk9 54 (by decide) (by decide) (by decide)
            conv at f54 => rhs; whnf
            have f55 := hk9 55 (by decide) (by decide) (by decide)
            conv at f55 => rhs; whnf
            have f56 := hk9 56 (by decide) (by decide) (by decide)
            conv at f56 => rhs; whnf
            have f57 := hk9 57 (by decide) (by decide) (by decide)
            conv at f57 => rhs; whnf
            have f58 := hk9 58 (by decide) (by decide) (by decide)
            conv at f58 => rhs; whnf
            have f59 := hk9 59 (by decide) (by decide) (by decide)
            conv at f59 => rhs; whnf
            have f60 := hk9 60 (by decide) (by decide) (by decide)
            conv at f60 => rhs; whnf
            have f61 := hk9 61 (by decide) (by decide) (by decide)
            conv at f61 => rhs; whnf
            have f62 := hk9 62 (by decide) (by decide) (by decide)
            conv at f62 => rhs; whnf
            have f63 := hk9 63 (by decide) (by decide) (by decide)
            conv at f63 => rhs; whnf
            have f64 := hk9 64 (by decide) (by decide) (by decide)
            conv at f64 => rhs; whnf
            have f65 := hk9 65 (by decide) (by decide) (by decide)
            conv at f65 => rhs; whnf
            have f66 := hk9 66 (by decide) (by decide) (by decide)
            conv at f66 => rhs; whnf
            have f67 := hk9 67 (by decide) (by decide) (by decide)
            conv at f67 => rhs; whnf
            have f68 := hk9 68 (by decide) (by decide) (by decide)
            conv at f68 => rhs; whnf
            have f69 := hk9 69 (by decide) (by decide) (by decide)
            conv at f69 => rhs; whnf
            have f70 := hk9 70 (by decide) (by decide) (by decide)
            conv at f70 => rhs; whnf
            have f71 := hk9 71 (by decide) (by decide) (by decide)
            conv at f71 => rhs; whnf
            have f72 := hk9 72 (by decide) (by decide) (by decide)
            conv at f72 => rhs; whnf
            have f73 := hk9 73 (by decide) (by decide) (by decide)
            conv at f73 => rhs; whnf
            have f74 := hk9 74 (by decide) (by decide) (by decide)
            conv at f74 => rhs; whnf
            have f75 := hk9 75 (by decide) (by decide) (by decide)
            conv at f75 => rhs; whnf
            have f76 := hk9 76 (by decide) (by decide) (by decide)
            conv at f76 => rhs; whnf
            have f77 := hk9 77 (by decide) (by decide) (by decide)
            conv at f77 => rhs; whnf
            have f78 := hk9 78 (by decide) (by decide) (by decide)
            conv at f78 => rhs; whnf
            have f79 := hk9 79 (by decide) (by decide) (by decide)
            conv at f79 => rhs; whnf
            have f80 := hk9 80 (by decide) (by decide) (by decide)
            conv at f80 => rhs; whnf
            have f81 := hk9 81 (by decide) (by decide) (by decide)
            conv at f81 => rhs; whnf
            have f82 := hk9 82 (by decide) (by decide) (by decide)
            conv at f82 => rhs; whnf
            have f83 := hk9 83 (by decide) (by decide) (by decide)
            conv at f83 => rhs; whnf
            have f84 := hk9 84 (by decide) (by decide) (by decide)
            conv at f84 => rhs; whnf
            have f85 := hk9 85 (by decide) (by decide) (by decide)
            conv at f85 => rhs; whnf
            have f86 := hk9 86 (by decide) (by decide) (by decide)
            conv at f86 => rhs; whnf
            have f87 := hk9 87 (by decide) (by decide) (by decide)
            conv at f87 => rhs; whnf
            have f88 := hk9 88 (by decide) (by decide) (by decide)
            conv at f88 => rhs; whnf
            have f89 := hk9 89 (by decide) (by decide) (by decide)
            conv at f89 => rhs; whnf
            have f90 := hk9 90 (by decide) (by decide) (by decide)
            conv at f90 => rhs; whnf
            have f91 := hk9 91 (by decide) (by decide) (by decide)
            conv at f91 => rhs; whnf
            have f92 := hk9 92 (by decide) (by decide) (by decide)
            conv at f92 => rhs; whnf
            have f93 := hk9 93 (by decide) (by decide) (by decide)
            conv at f93 => rhs; whnf
            have f94 := hk9 94 (by decide) (by decide) (by decide)
            conv at f94 => rhs; whnf
            have f95 := hk9 95 (by decide) (by decide) (by decide)
            conv at f95 => rhs; whnf
            have f96 := hk9 96 (by decide) (by decide) (by decide)
            conv at f96 => rhs; whnf
            have f97 := hk9 97 (by decide) (by decide) (by decide)
            conv at f97 => rhs; whnf
            have f98 := hk9 98 (by decide) (by decide) (by decide)
            conv at f98 => rhs; whnf
            have f119 := hk9 119 (by decide) (by decide) (by decide)
            conv at f119 => rhs; whnf
            have f120 := hk9 120 (by decide) (by decide) (by decide)
            conv at f120 => rhs; whnf
            have f121 := hk9 121 (by decide) (by decide) (by decide)
            conv at f121 => rhs; whnf
            have f122 := hk9 122 (by decide) (by decide) (by decide)
            conv at f122 => rhs; whnf
            have f123 := hk9 123 (by decide) (by decide) (by decide)
            conv at f123 => rhs; whnf
            have f124 := hk9 124 (by decide) (by decide) (by decide)
            conv at f124 => rhs; whnf
            have f125 := hk9 125 (by decide) (by decide) (by decide)
            conv at f125 => rhs; whnf
            have f126 := hk9 126 (by decide) (by decide) (by decide)
            conv at f126 => rhs; whnf
            have f127 := hk9 127 (by decide) (by decide) (by decide)
            conv at f127 => rhs; whnf
            have f128 := hk9 128 (by decide) (by decide) (by decide)
            conv at f128 => rhs; whnf
            have f129 := hk9 129 (by decide) (by decide) (by decide)
            conv at f129 => rhs; whnf
            have f130 := hk9 130 (by decide) (by decide) (by decide)
            conv at f130 => rhs; whnf
            have f131 := hk9 131 (by decide) (by decide) (by decide)
            conv at f131 => rhs; whnf
            have f132 := hk9 132 (by decide) (by decide) (by decide)
            conv at f132 => rhs; whnf
            have f133 := hk9 133 (by decide) (by decide) (by decide)
            conv at f133 => rhs; whnf
            have f134 := hk9 134 (by decide) (by decide) (by decide)
            conv at f134 => rhs; whnf
            have f135 := hk9 135 (by decide) (by decide) (by decide)
            conv at f135 => rhs; whnf
            have f136 := hk9 136 (by decide) (by decide) (by decide)
            conv at f136 => rhs; whnf
            have f137 := hk9 137 (by decide) (by decide) (by decide)
            conv at f137 => rhs; whnf
            have f138 := hk9 138 (by decide) (by decide) (by decide)
            conv at f138 => rhs; whnf
            have f139 := hk9 139 (by decide) (by decide) (by decide)
            conv at f139 => rhs; whnf
            have f140 := hk9 140 (by decide) (by decide) (by decide)
            conv at f140 => rhs; whnf
            have f141 := hk9 141 (by decide) (by decide) (by decide)
            conv at f141 => rhs; whnf
            have f142 := hk9 142 (by decide) (by decide) (by decide)
            conv at f142 => rhs; whnf
            have f143 := hk9 143 (by decide) (by decide) (by decide)
            conv at f143 => rhs; whnf
            have f144 := hk9 144 (by decide) (by decide) (by decide)
            conv at f144 => rhs; whnf
            have f145 := hk9 145 (by decide) (by decide) (by decide)
            conv at f145 => rhs; whnf
            have f146 := hk9 146 (by decide) (by decide) (by decide)
            conv at f146 => rhs; whnf
            have f147 := hk9 147 (by decide) (by decide) (by decide)
            conv at f147 => rhs; whnf
            have f148 := hk9 148 (by decide) (by decide) (by decide)
            conv at f148 => rhs; whnf
            have f149 := hk9 149 (by decide) (by decide) (by decide)
            conv at f149 => rhs; whnf
            have f150 := hk9 150 (by decide) (by decide) (by decide)
            conv at f150 => rhs; whnf
            have f151 := hk9 151 (by decide) (by decide) (by decide)
            conv at f151 => rhs; whnf
            have f152 := hk9 152 (by decide) (by decide) (by decide)
            conv at f152 => rhs; whnf
            have f153 := hk9 153 (by decide) (by decide) (by decide)
            conv at f153 => rhs; whnf
            simp only [f0, f1, f2, f3, f4, f5, f6, f7, f8, f9, f10, f11, f12, f13, f14, f17, f18, f19, f20, f21, f22, f23, f24, f25, f26, f27, f28, f29, f30, f31, f32, f33, f34, f35, f36, f37, f38, f39, f40, f41, f42, f43, f44, f45, f46, f47, f48, f49, f50, f51, f52, f53, f54, f55, f56, f57, f58, f59, f60, f61, f62, f63, f64, f65, f66, f67, f68, f69, f70, f71, f72, f73, f74, f75, f76, f77, f78, f79, f80, f81, f82, f83, f84, f85, f86, f87, f88, f89, f90, f91, f92, f93, f94, f95, f96, f97, f98, f119, f120, f121, f122, f123, f124, f125, f126, f127, f128, f129, f130, f131, f132, f133, f134, f135, f136, f137, f138, f139, f140, f141, f142, f143, f144, f145, f146, f147, f148, f149, f150, f151, f152, f153]
            clear f0 f1 f2 f3 f4 f5 f6 f7 f8 f9 f10 f11 f12 f13 f14 f17 f18 f19 f20 f21 f22 f23 f24 f25 f26 f27 f28 f29 f30 f31 f32 f33 f34 f35 f36 f37 f38 f39 f40 f41 f42 f43 f44 f45 f46 f47 f48 f49 f50 f51 f52 f53 f54 f55 f56 f57 f58 f59 f60 f61 f62 f63 f64 f65 f66 f67 f68 f69 f70 f71 f72 f73 f74 f75 f76 f77 f78 f79 f80 f81 f82 f83 f84 f85 f86 f87 f88 f89 f90 f91 f92 f93 f94 f95 f96 f97 f98 f119 f120 f121 f122 f123 f124 f125 f126 f127 f128 f129 f130 f131 f132 f133 f134 f135 f136 f137 f138 f139 f140 f141 f142 f143 f144 f145 f146 f147 f148 f149 f150 f151 f152 f153 hk9 q15 q16
            simp only [show (Value.tuple #[] : Value) = undef from rfl]
            go_wp2_with fail
            go_roundw
            case rel => exact ⟨i + 1, c2, c3, A2, A3, by omega, rfl, rfl, by go_num, HU⟩
            case measure => simp [intOf]; omega
          · obtain rfl : i = k + 3 := by omega
            have own1 := hU.out.1
            have own2 := hU.out.2.1
            have hci := own_cap own1
            have hcp := own_cap own2
            have hsl := slice_frontB (A := Ai) (n := k + 3) (c := ci) (m := k) (by omega)
            have S1 := Rd.of_own own1
            have S2 := Rd.of_own own2
            have HG := HT1.out
            rw [HLX.out] at HG
            obtain ⟨G1, G2⟩ := HG
            have hli : (inI x 1).length = k := by rw [inI_length, HLX.out]
            have hlp : (paL (inI x 1) k).length = k := paL_length _ _
            have hbi := inI_bits BX.out 1
            have E1 : (pickS p (sysN (piK k) k 1) (k + 3)).take k = inI x 1 := by
              unfold pickS; rw [G1]; exact List.take_left' hli
            have E2 : (pickS p (parN k 1) (k + 3)).take k = paL (inI x 1) k := by
              unfold pickS; rw [G2]; exact List.take_left' hlp
            have E3 : ((pickS p (sysN (piK k) k 1) (k + 3)).drop k).take (k + 3 - k) = intsOf (tailU (stK (inI x 1) k)) := by
              unfold pickS; rw [G1, List.drop_left' hli, Nat.add_sub_cancel_left]; rfl
            have E4 : ((pickS p (parN k 1) (k + 3)).drop k).take (k + 3 - k) = intsOf (tailZ (stK (inI x 1) k)) := by
              unfold pickS; rw [G2, List.drop_left' hlp, Nat.add_sub_cancel_left]; rfl
            have ra := S1.take (m := k) (by omega)
            have rb := S2.take (m := k) (by omega)
            have rc := S1.cut (lo := k) (hi := k + 3) (cap := ci) (by omega) (Nat.le_refl _) hci
            have rd := S2.cut (lo := k) (hi := k + 3) (cap := cp) (by omega) (Nat.le_refl _) hcp
            rw [E1] at ra
            rw [E2] at rb
            rw [E3] at rc
            rw [E4] at rd
            have HEQ : Hid ([] ++ inI x 1 ++ paL (inI x 1) k ++ ([] ++ intsOf (tailU (stK (inI x 1) k)) ++ intsOf (tailZ (stK (inI x 1) k))) = wordI (inI x 1)) := Lib.hid (by
              unfold wordI
              rw [hli]
              simp [List.append_assoc])
            have hWd := Lib.hid (fun (v : World) (h : Rd .u8 v v.heap.size Ai k (inI x 1)) => refWord_any (c := ci) h hbi.byte (by omega))
            have hws : wordS (inI x 1) = (wordI (inI x 1), 0) := by unfold wordS; rw [if_pos hbi.valid]
            rw [hws] at hWd
            have hlw : (wordI (inI x 1)).length = 0 + k + k + (0 + (k + 3 - k) + (k + 3 - k)) := by rw [wordI_length, hli]; omega
            have HBW := Lib.hid ((wordI_bits hbi).byte)
            obtain ⟨G, hG⟩ : ∃ G, 0 + k + k + (0 + (k + 3 - k) + (k + 3 - k)) = G := ⟨_, rfl⟩
            rw [hG] at hlw
            have HGG := Lib.hid hG
            unfold RetBytes at hWd
            simp only [hlw] at hWd
            have HS1 := Lib.hid ra
            have HBU := Lib.hid hU.out.2.2.2
            have HCI := Lib.hid hci
            clear HT1 HT2 hLay hK G1 G2 E1 E2 E3 E4 hws hlt hi hU hG
            go_wp2_with fail
            refine h20_wp (H := wr.heap.size) (W8 := wr) (K := k) (n := k + 3) (M := k + 3 - k) rfl rfl rfl rfl (by omega) hci hcp (by omega) ra rb rc rd (Nat.le_refl _) rfl ?_
            intro a9 w9 A2 c2 hk9 hz9 hd9 q18 ho hb9
            rw [HEQ.out, HGG.out] at ho
            rw [HGG.out] at q18
            have HO := Lib.hid (And.intro ho hb9)
            clear own1 own2 hci hcp S1 S2 ra rb rc rd ho hb9 hlp hli hbi HEQ hlw
            rw [act154 a9 hz9 hd9, q18]
            have f0 := hk9 0 (by decide) (by decide)
            conv at f0 => rhs; whnf
            have f1 := hk9 1 (by decide) (by decide)
            conv at f1 => rhs; whnf
            have f2 := hk9 2 (by decide) (by decide)
            conv at f2 => rhs; whnf
            have f3 := hk9 3 (by decide) (by decide)
            conv at f3 => rhs; whnf
            have f4 := hk9 4 (by decide) (by decide)
            conv at f4 => rhs; whnf
            have f5 := hk9 5 (by decide) (by decide)
            conv at f5 => rhs; whnf
            have f6 := hk9 6 (by decide) (by decide)
            conv at f6 => rhs; whnf
            have f7 := hk9 7 (by decide) (by decide)
            conv at f7 => rhs; whnf
            have f8 := hk9 8 (by decide) (by decide)
            conv at f8 => rhs; whnf
            have f9 := hk9 9 (by decide) (by decide)
            conv at f9 => rhs; whnf
            have f10 := hk9 10 (by decide) (by decide)
            conv at f10 => rhs; whnf
            have f11 := hk9 11 (by decide) (by decide)
            conv at f11 => rhs; whnf
            have f12 := hk9 12 (by decide) (by decide)
            conv at f12 => rhs; whnf
            have f13 := hk9 13 (by decide) (by decide)
            conv at f13 => rhs; whnf
            have f14 := hk9 14 (by decide) (by decide)
            conv at f14 => rhs; whnf
            have f15 := hk9 15 (by decide) (by decide)
            conv at f15 => rhs; whnf
            have f16 := hk9 16 (by decide) (by decide)
            conv at f16 => rhs; whnf
            have f17 := hk9 17 (by decide) (by decide)
            conv at f17 => rhs; whnf
            have f19 := hk9 19 (by decide) (by decide)
            conv at f19 => rhs; whnf
            have f20 := hk9 20 (by decide) (by decide)
            conv at f20 => rhs; whnf
            have f21 := hk9 21 (by decide) (by decide)
            conv at f21 => rhs; whnf
            have f22 := hk9 22 (by decide) (by decide)
            conv at f22 => rhs; whnf
            have f23 := hk9 23 (by decide) (by decide)
            conv at f23 => rhs; whnf
            have f24 := hk9 24 (by decide) (by decide)
            conv at f24 => rhs; whnf
            have f25 := hk9 25 (by decide) (by decide)
            conv at f25 => rhs; whnf
            have f26 := hk9 26 (by decide) (by decide)
            conv at f26 => rhs; whnf
            have f27 := hk9 27 (by decide) (by decide)
            conv at f27 => rhs; whnf
            have f28 := hk9 28 (by decide) (by decide)
            conv at f28 => rhs; whnf
            have f29 := hk9 29 (by decide) (by decide)
            conv at f29 => rhs; whnf
            have f30 := hk9 30 (by decide) (by decide)
            conv at f30 => rhs; whnf
            have f31 := hk9 31 (by decide) (by decide)
            conv at f31 => rhs; whnf
            have f32 := hk9 32 (by decide) (by decide)
            conv at f32 => rhs; whnf
            have f33 := hk9 33 (by decide) (by decide)
            conv at f33 => rhs; whnf
            have f34 := hk9 34 (by decide) (by decide)
            conv at f34 => rhs; whnf
            have f35 := hk9 35 (by decide) (by decide)
            conv at f35 => rhs; whnf
            have f36 := hk9 36 (by decide) (by decide)
            conv at f36 => rhs; whnf
            have f37 := hk9 37 (by decide) (by decide)
            conv at f37 => rhs; whnf
            have f38 := hk9 38 (by decide) (by decide)
            conv at f38 => rhs; whnf
            have f39 := hk9 39 (by decide) (by decide)
            conv at f39 => rhs; whnf
            have f40 := hk9 40 (by decide) (by decide)
            conv at f40 => rhs; whnf
            have f41 := hk9 41 (by decide) (by decide)
            conv at f41 => rhs; whnf
            have f42 := hk9 42 (by decide) (by decide)
            conv at f42 => rhs; whnf
            have f43 := hk9 43 (by decide) (by decide)
            conv at f43 => rhs; whnf
            have f44 := hk9 44 (by decide) (by decide)
            conv at f44 => rhs; whnf
            have f45 := hk9 45 (by decide) (by decide)
            conv at f45 => rhs; whnf
            have f46 := hk9 46 (by decide) (by decide)
            conv at f46 => rhs; whnf
            have f47 := hk9 47 (by decide) (by decide)
            conv at f47 => rhs; whnf
            have f48 := hk9 48 (by decide) (by decide)
            conv at f48 => rhs; whnf
            have f49 := hk9 49 (by decide) (by decide)
            conv at f49 => rhs; whnf
            have f50 := hk9 50 (by decide) (by decide)
            conv at f50 => rhs; whnf
            have f51 := hk9 51 (by decide) (by decide)
            conv at f51 => rhs; whnf
            have f52 := hk9 52 (by decide) (by decide)
            conv at f52 => rhs; whnf
            have f53 := hk9 53 (by decide) (by decide)
            conv at f53 => rhs; whnf
            have f54 := hk9 54 (by decide) (by decide)
            conv at f54 => rhs; whnf
            have f55 := hk9 55 (by decide) (by decide)
            conv at f55 => rhs; whnf
            have f56 := hk9 56 (by decide) (by decide)
            conv at f56 => rhs; whnf
            have f57 := hk9 57 (by decide) (by decide)
            conv at f57 => rhs; whnf
            have f58 := hk9 58 (by decide) (by decide)
            conv at f58 => rhs; whnf
            have f59 := hk9 59 (by decide) (by decide)
            conv at f59 => rhs; whnf
            have f60 := hk9 60 (by decide) (by decide)
            conv at f60 => rhs; whnf
            have f61 := hk9 61 (by decide) (by decide)
            conv at f61 => rhs; whnf
            have f62 := hk9 62 (by decide) (by decide)
            conv at f62 => rhs; whnf
            have f63 := hk9 63 (by decide) (by decide)
            conv at f63 => rhs; whnf
            have f64 := hk9 64 (by decide) (by decide)
            conv at f64 => rhs; whnf
            have f65 := hk9 65 (by decide) (by decide)
            conv at f65 => rhs; whnf
            have f66 := hk9 66 (by decide) (by decide)
            conv at f66 => rhs; whnf
            have f67 := hk9 67 (by decide) (by decide)
            conv at f67 => rhs; whnf
            have f68 := hk9 68 (by decide) (by decide)
            conv at f68 => rhs; whnf
            have f69 := hk9 69 (by decide) (by decide)
            conv at f69 => rhs; whnf
            have f70 := hk9 70 (by decide) (by decide)
            conv at f70 => rhs; whnf
            have f71 := hk9 71 (by decide) (by decide)
            conv at f71 => rhs; whnf
            have f72 := hk9 72 (by decide) (by decide)
            conv at f72 => rhs; whnf
            have f73 := hk9 73 (by decide) (by decide)
            conv at f73 => rhs; whnf
            have f74 := hk9 74 (by decide) (by decide)
            conv at f74 => rhs; whnf
            have f75 := hk9 75 (by decide) (by decide)
            conv at f75 => rhs; whnf
            have f76 := hk9 76 (by decide) (by decide)
            conv at f76 => rhs; whnf
            have f77 := hk9 77 (by decide) (by decide)
            conv at f77 => rhs; whnf
            have f78 := hk9 78 (by decide) (by decide)
            conv at f78 => rhs; whnf
            have f79 := hk9 79 (by decide) (by decide)
            conv at f79 => rhs; whnf
            have f80 := hk9 80 (by decide) (by decide)
            conv at f80 => rhs; whnf
            have f81 := hk9 81 (by decide) (by decide)
            conv at f81 => rhs; whnf
            have f82 := hk9 82 (by decide) (by decide)
            conv at f82 => rhs; whnf
            have f83 := hk9 83 (by decide) (by decide)
            conv at f83 => rhs; whnf
            have f84 := hk9 84 (by decide) (by decide)
            conv at f84 => rhs; whnf
            have f85 := hk9 85 (by decide) (by decide)
            conv at f85 => rhs; whnf
            have f86 := hk9 86 (by decide) (by decide)
            conv at f86 => rhs; whnf
            have f87 := hk9 87 (by decide) (by decide)
            conv at f87 => rhs; whnf
            have f88 := hk9 88 (by decide) (by decide)
            conv at f88 => rhs; whnf
            have f89 := hk9 89 (by decide) (by decide)
            conv at f89 => rhs; whnf
            have f90 := hk9 90 (by decide) (by decide)
            conv at f90 => rhs; whnf
            have f91 := hk9 91 (by decide) (by decide)
            conv at f91 => rhs; whnf
            have f92 := hk9 92 (by decide) (by decide)
            conv at f92 => rhs; whnf
            have f93 := hk9 93 (by decide) (by decide)
            conv at f93 => rhs; whnf
            have f94 := hk9 94 (by decide) (by decide)
            conv at f94 => rhs; whnf
            have f95 := hk9 95 (by decide) (by decide)
            conv at f95 => rhs; whnf
            have f96 := hk9 96 (by decide) (by decide)
            conv at f96 => rhs; whnf
            have f97 := hk9 97 (by decide) (by decide)
            conv at f97 => rhs; whnf
            have f98 := hk9 98 (by decide) (by decide)
            conv at f98 => rhs; whnf
            have f99 := hk9 99 (by decide) (by decide)
            conv at f99 => rhs; whnf
            have f100 := hk9 100 (by decide) (by decide)
            conv at f100 => rhs; whnf
            have f101 := hk9 101 (by decide) (by decide)
            conv at f101 => rhs; whnf
            have f102 := hk9 102 (by decide) (by decide)
            conv at f102 => rhs; whnf
            have f103 := hk9 103 (by decide) (by decide)
            conv at f103 => rhs; whnf
            have f104 := hk9 104 (by decide) (by decide)
            conv at f104 => rhs; whnf
            have f105 := hk9 105 (by decide) (by decide)
            conv at f105 => rhs; whnf
            have f106 := hk9 106 (by decide) (by decide)
            conv at f106 => rhs; whnf
            have f107 := hk9 107 (by decide) (by decide)
            conv at f107 => rhs; whnf
            have f108 := hk9 108 (by decide) (by decide)
            conv at f108 => rhs; whnf
            have f109 := hk9 109 (by decide) (by decide)
            conv at f109 => rhs; whnf
            have f110 := hk9 110 (by decide) (by decide)
            conv at f110 => rhs; whnf
            have f111 := hk9 111 (by decide) (by decide)
            conv at f111 => rhs; whnf
            have f112 := hk9 112 (by decide) (by decide)
            conv at f112 => rhs; whnf
            have f113 := hk9 113 (by decide) (by decide)
            conv at f113 => rhs; whnf
            have f114 := hk9 114 (by decide) (by decide)
            conv at f114 => rhs; whnf
            have f115 := hk9 115 (by decide) (by decide)
            conv at f115 => rhs; whnf
            have f116 := hk9 116 (by decide) (by decide)
            conv at f116 => rhs; whnf
            have f117 := hk9 117 (by decide) (by decide)
            conv at f117 => rhs; whnf
            have f118 := hk9 118 (by decide) (by decide)
            conv at f118 => rhs; whnf
            have f138 := hk9 138 (by decide) (by decide)
            conv at f138 => rhs; whnf
            have f139 := hk9 139 (by decide) (by decide)
            conv at f139 => rhs; whnf
            have f140 := hk9 140 (by decide) (by decide)
            conv at f140 => rhs; whnf
            have f141 := hk9 141 (by decide) (by decide)
            conv at f141 => rhs; whnf
            have f142 := hk9 142 (by decide) (by decide)
            conv at f142 => rhs; whnf
            have f143 := hk9 143 (by decide) (by decide)
            conv at f143 => rhs; whnf
            have f144 := hk9 144 (by decide) (by decide)
            conv at f144 => rhs; whnf
            have f145 := hk9 145 (by decide) (by decide)
            conv at f145 => rhs; whnf
            have f146 := hk9 146 (by decide) (by decide)
            conv at f146 => rhs; whnf
            have f147 := hk9 147 (by decide) (by decide)
            conv at f147 => rhs; whnf
            have f148 := hk9 148 (by decide) (by decide)
            conv at f148 => rhs; whnf
            have f149 := hk9 149 (by decide) (by decide)
            conv at f149 => rhs; whnf
            have f150 := hk9 150 (by decide) (by decide)
            conv at f150 => rhs; whnf
            have f151 := hk9 151 (by decide) (by decide)
            conv at f151 => rhs; whnf
            have f152 := hk9 152 (by decide) (by decide)
            conv at f152 => rhs; whnf
            have f153 := hk9 153 (by decide) (by decide)
            conv at f153 => rhs; whnf
            simp only [f0, f1, f2, f3, f4, f5, f6, f7, f8, f9, f10, f11, f12, f13, f14, f15, f16, f17, f19, f20, f21, f22, f23, f24, f25, f26, f27, f28, f29, f30, f31, f32, f33, f34, f35, f36, f37, f38, f39, f40, f41, f42, f43, f44, f45, f46, f47, f48, f49, f50, f51, f52, f53, f54, f55, f56, f57, f58, f59, f60, f61, f62, f63, f64, f65, f66, f67, f68, f69, f70, f71, f72, f73, f74, f75, f76, f77, f78, f79, f80, f81, f82, f83, f84, f85, f86, f87, f88, f89, f90, f91, f92, f93, f94, f95, f96, f97, f98, f99, f100, f101, f102, f103, f104, f105, f106, f107, f108, f109, f110, f111, f112, f113, f114, f115, f116, f117, f118, f138, f139, f140, f141, f142, f143, f144, f145, f146, f147, f148, f149, f150, f151, f152, f153]
            clear f0 f1 f2 f3 f4 f5 f6 f7 f8 f9 f10 f11 f12 f13 f14 f15 f16 f17 f19 f20 f21 f22 f23 f24 f25 f26 f27 f28 f29 f30 f31 f32 f33 f34 f35 f36 f37 f38 f39 f40 f41 f42 f43 f44 f45 f46 f47 f48 f49 f50 f51 f52 f53 f54 f55 f56 f57 f58 f59 f60 f61 f62 f63 f64 f65 f66 f67 f68 f69 f70 f71 f72 f73 f74 f75 f76 f77 f78 f79 f80 f81 f82 f83 f84 f85 f86 f87 f88 f89 f90 f91 f92 f93 f94 f95 f96 f97 f98 f99 f100 f101 f102 f103 f104 f105 f106 f107 f108 f109 f110 f111 f112 f113 f114 f115 f116 f117 f118 f138 f139 f140 f141 f142 f143 f144 f145 f146 f147 f148 f149 f150 f151 f152 f153 hk9 q18
            simp only [show (Value.tuple #[] : Value) = undef from rfl]
            go_wp2_with fail
            refine (hWd.out w9 ((HS1.out.below HO.out.2).more HO.out.2.size)).mono ?_
            rintro e w10 ⟨A7, c7, rfl, hO7, hb10⟩
            have HS := Lib.hid (same_true (c := c2) (c' := c7) ((Rd.of_own HO.out.1).step hb10) (Rd.of_own hO7) HBW.out)
            have HF : Hid (Below w5.heap.size w5 w10) := Lib.hid (HW.out.trans (((HBU.out.trans (HO.out.2.mono HBU.out.size)).trans (hb10.mono (HBU.out.trans (HO.out.2.mono HBU.out.size)).size)).mono HW.out.size))
            clear hWd hO7 hb10 HO HS1 HBU HW
            go_wp2_with fail
            refine HS.out.mono ?_
            rintro e w11 ⟨rfl, he⟩
            obtain rfl := he.symm
            clear HS
            go_wp2_with fail
            go_roundw
            case rel => exact ⟨1, by decide, by go_num, HF⟩
            case measure => simp [intOf]
      · have C := Lib.hid (hLay.out wr 2 (B5.out.trans (hH.out.mono B5.out.size)) (by decide))
        go_wp2_with fail
        refine C.out.mono ?_
        rintro e w6 ⟨A, c1, A', c1', rfl, ⟨R, R'⟩, ⟨f1, f2⟩, hb6⟩
        have hN0 : 0 < N := by have := HN.out; omega
        have P6 := (P5.out.step hH.out).step hb6
        obtain ⟨bS, oS, rfl, lS, _⟩ := R.cells 0 (by omega)
        obtain ⟨bR, oR, rfl, lR, _⟩ := R'.cells 0 (by omega)
        obtain ⟨bP, oP, rfl, lP, _⟩ := P6.cells 0 hN0
        have BL := Lib.hid (And.intro lP (And.intro lS lR))
        have H6 := Lib.hid (And.intro P6 (And.intro R R'))
        have B6 := Lib.hid ((B5.out.trans (hH.out.mono B5.out.size)).trans (hb6.mono (B5.out.trans (hH.out.mono B5.out.size)).size))
        have HW := Lib.hid (hH.out.trans (hb6.mono hH.out.size))
        clear C P6 R R' f1 f2 hb6 lS lR lP hH
        go_wp2_with (go_at_call 14; refine num_any.mono ?_; rintro e wn ⟨rfl, he⟩; obtain rfl := he.symm)
        have HI0 : Hid (w6.ownsRow w6.heap.size 5 1 (.slice none 0 0) 0 ((pickS p (sysN (piK k) k 2) 0).map (Value.int .u8)) ∧ w6.ownsRow w6.heap.size 5 1 (.slice none 0 0) 0 ((pickS p (parN k 2) 0).map (Value.int .u8)) ∧ (∀ g, (Value.slice none 0 0).ownBlock = some g → (Value.slice none 0 0).ownBlock ≠ some g) ∧ Below w6.heap.size w6 w6) := Lib.hid ⟨by simpa [pickS] using World.ownsRow_nil w6 w6.heap.size 5 1, by simpa [pickS] using World.ownsRow_nil w6 w6.heap.size 5 1, fun g hg => by simp [Value.ownBlock] at hg, Below.refl _ _⟩
        go_loopw [15, 16, 17] (fun s q x U => ∃ (i ci cp : Nat) (Ai Ap : Option Addr), i ≤ k + 3 ∧ s = .slice Ai i ci ∧ q = .slice Ap i cp ∧ x = .int .i64 (i : Int) ∧ Hid (U.ownsRow w6.heap.size 5 1 (.slice Ai i ci) i ((pickS p (sysN (piK k) k 2) i).map (Value.int .u8)) ∧ U.ownsRow w6.heap.size 5 1 (.slice Ap i cp) i ((pickS p (parN k 2) i).map (Value.int .u8)) ∧ (∀ g, (Value.slice Ai i ci).ownBlock = some g → (Value.slice Ap i cp).ownBlock ≠ some g) ∧ Below w6.heap.size w6 U)) (fun _ _ x _ => k + 3 - (intOf x).toNat)
        case atStart => exact ⟨0, 0, 0, none, none, Nat.zero_le _, rfl, rfl, rfl, HI0⟩
        case round =>
          clear HI0
          obtain ⟨i, ci, cp, Ai, Ap, hi, rfl, rfl, rfl, hU⟩ := hrel
          by_cases hlt : i < k + 3
          · have hi0 : (0 : Int) ≤ (i : Int) := by omega
            have hi1 : (i : Int) < (k : Int) + 3 := by omega
            clear HT1 HT2 hLay hK
            go_wp2_with fail
            have hx1 := (sysN_lt (p := piK k) (k := k) (code := 2) (i := i) (fun j _ => piK_lt HSZ.out j) (by decide)).1
            have hx2 := parN_lt (k := k) (code := 2) (i := i) (by decide)
            rw [HN.out] at hx1 hx2
            obtain ⟨_, _, e1, _, cs⟩ := (H6.out.2.1.below hU.out.2.2.2).cells i hlt
            injection e1 with e1
            injection e1 with e1 e2
            subst e1 e2
            obtain ⟨_, _, e1, _, cr⟩ := (H6.out.2.2.below hU.out.2.2.2).cells i hlt
            injection e1 with e1
            injection e1 with e1 e2
            subst e1 e2
            obtain ⟨_, _, e1, _, cx⟩ := (H6.out.1.below hU.out.2.2.2).cells _ hx1
            injection e1 with e1
            injection e1 with e1 e2
            subst e1 e2
            obtain ⟨_, _, e1, _, cy⟩ := (H6.out.1.below hU.out.2.2.2).cells _ hx2
            injection e1 with e1
            injection e1 with e1 e2
            subst e1 e2
            rw [sysL_get hlt] at cs
            rw [parLay_get hlt] at cr
            refine h19_wp (H := w6.heap.size) (W8 := wr) rfl rfl rfl rfl rfl rfl hlt hx1 hx2 BL.out cs cr cx cy (by omega) hU.out.2.2.2.size rfl hU.out.1 hU.out.2.1 hU.out.2.2.1 ?_
            intro a9 w9 A2 c2 A3 c3 hk9 hz9 hd9 q15 q16 ho1 ho2 hap9 hb9
            rw [← pick_succ] at ho1 ho2
            have HU := Lib.hid (And.intro ho1 (And.intro ho2 (And.intro hap9 (hU.out.2.2.2.trans (hb9.mono (Nat.le_refl _))))))
            clear ho1 ho2 hap9 hb9 hU cs cr cx cy
            rw [act154 a9 hz9 hd9, q15, q16]
            have f0 := hk9 0 (by decide) (by decide) (by decide)
            conv at f0 => rhs; whnf
            have f1 := hk9 1 (by decide) (by decide) (by decide)
            conv at f1 => rhs; whnf
            have f2 := hk9 2 (by decide) (by decide) (by decide)
            conv at f2 => rhs; whnf
            have f3 := hk9 3 (by decide) (by decide) (by decide)
            conv at f3 => rhs; whnf
            have f4 := hk9 4 (by decide) (by decide) (by decide)
            conv at f4 => rhs; whnf
            have f5 := hk9 5 (by decide) (by decide) (by decide)
            conv at f5 => rhs; whnf
            have f6 := hk9 6 (by decide) (by decide) (by decide)
            conv at f6 => rhs; whnf
            have f7 := hk9 7 (by decide) (by decide) (by decide)
            conv at f7 => rhs; whnf
            have f8 := hk9 8 (by decide) (by decide) (by decide)
            conv at f8 => rhs; whnf
            have f9 := hk9 9 (by decide) (by decide) (by decide)
            conv at f9 => rhs; whnf
            have f10 := hk9 10 (by decide) (by decide) (by decide)
            conv at f10 => rhs; whnf
            have f11 := hk9 11 (by decide) (by decide) (by decide)
            conv at f11 => rhs; whnf
            have f12 := hk9 12 (by decide) (by decide) (by decide)
            conv at f12 => rhs; whnf
            have f13 := hk9 13 (by decide) (by decide) (by decide)
            conv at f13 => rhs; whnf
            have f14 := hk9 14 (by decide) (by decide) (by decide)
            conv at f14 => rhs; whnf
            have f17 := hk9 17 (by decide) (by decide) (by decide)
            conv at f17 => rhs; whnf
            have f18 := hk9 18 (by decide) (by decide) (by decide)
            conv at f18 => rhs; whnf
            have f19 := hk9 19 (by decide) (by decide) (by decide)
            conv at f19 => rhs; whnf
            have f20 := hk9 20 (by decide) (by decide) (by decide)
            conv at f20 => rhs; whnf
            have f21 := hk9 21 (by decide) (by decide) (by decide)
            conv at f21 => rhs; whnf
            have f22 := hk9 22 (by decide) (by decide) (by decide)
            conv at f22 => rhs; whnf
            have f23 := hk9 23 (by decide) (by decide) (by decide)
            conv at f23 => rhs; whnf
            have f24 := hk9 24 (by decide) (by decide) (by decide)
            conv at f24 => rhs; whnf
            have f25 := hk9 25 (by decide) (by decide) (by decide)
            conv at f25 => rhs; whnf
            have f26 := hk9 26 (by decide) (by decide) (by decide)
            conv at f26 => rhs; whnf
            have f27 := hk9 27 (by decide) (by decide) (by decide)
            conv at f27 => rhs; whnf
            have f28 := hk9 28 (by decide) (by decide) (by decide)
            conv at f28 => rhs; whnf
            have f29 := hk9 29 (by decide) (by decide) (by decide)
            conv at f29 => rhs; whnf
            have f30 := hk9 30 (by decide) (by decide) (by decide)
            conv at f30 => rhs; whnf
            have f31 := hk9 31 (by decide) (by decide) (by decide)
            conv at f31 => rhs; whnf
            have f32 := hk9 32 (by decide) (by decide) (by decide)
            conv at f32 => rhs; whnf
            have f33 := hk9 33 (by decide) (by decide) (by decide)
            conv at f33 => rhs; whnf
            have f34 := hk9 34 (by decide) (by decide) (by decide)
            conv at f34 => rhs; whnf
            have f35 := hk9 35 (by decide) (by decide) (by decide)
            conv at f35 => rhs; whnf
            have f36 := hk9 36 (by decide) (by decide) (by decide)
            conv at f36 => rhs; whnf
            have f37 := hk9 37 (by decide) (by decide) (by decide)
            conv at f37 => rhs; whnf
            have f38 := hk9 38 (by decide) (by decide) (by decide)
            conv at f38 => rhs; whnf
            have f39 := hk9 39 (by decide) (by decide) (by decide)
            conv at f39 => rhs; whnf
            have f40 := hk9 40 (by decide) (by decide) (by decide)
            conv at f40 => rhs; whnf
            have f41 := hk9 41 (by decide) (by decide) (by decide)
            conv at f41 => rhs; whnf
            have f42 := hk9 42 (by decide) (by decide) (by decide)
            conv at f42 => rhs; whnf
            have f43 := hk9 43 (by decide) (by decide) (by decide)
            conv at f43 => rhs; whnf
            have f44 := hk9 44 (by decide) (by decide) (by decide)
            conv at f44 => rhs; whnf
            have f45 := hk9 45 (by decide) (by decide) (by decide)
            conv at f45 => rhs; whnf
            have f46 := hk9 46 (by decide) (by decide) (by decide)
            conv at f46 => rhs; whnf
            have f47 := hk9 47 (by decide) (by decide) (by decide)
            conv at f47 => rhs; whnf
            have f48 := hk9 48 (by decide) (by decide) (by decide)
            conv at f48 => rhs; whnf
            have f49 := hk9 49 (by decide) (by decide) (by decide)
            conv at f49 => rhs; whnf
            have f50 := hk9 50 (by decide) (by decide) (by decide)
            conv at f50 => rhs; whnf
            have f51 := hk9 51 (by decide) (by decide) (by decide)
            conv at f51 => rhs; whnf
            have f52 := hk9 52 (by decide) (by decide) (by decide)
            conv at f52 => rhs; whnf
            have f53 := hk9 53 (by decide) (by decide) (by decide)
            conv at f53 => rhs; whnf
            have f54 := hk9 54 (by decide) (by decide) (by decide)
            conv at f54 => rhs; whnf
            have f55 := hk9 55 (by decide) (by decide) (by decide)
            conv at f55 => rhs; whnf
            have f56 := hk9 56 (by decide) (by decide) (by decide)
            conv at f56 => rhs; whnf
            have f57 := hk9 57 (by decide) (by decide) (by decide)
            conv at f57 => rhs; whnf
            have f58 := hk9 58 (by decide) (by decide) (by decide)
            conv at f58 => rhs; whnf
            have f59 := hk9 59 (by decide) (by decide) (by decide)
            conv at f59 => rhs; whnf
            have f60 := hk9 60 (by decide) (by decide) (by decide)
            conv at f60 => rhs; whnf
            have f61 := hk9 61 (by decide) (by decide) (by decide)
            conv at f61 => rhs; whnf
            have f62 := hk9 62 (by decide) (by decide) (by decide)
            conv at f62 => rhs; whnf
            have f63 := hk9 63 (by decide) (by decide) (by decide)
            conv at f63 => rhs; whnf
            have f64 := hk9 64 (by decide) (by decide) (by decide)
            conv at f64 => rhs; whnf
            have f65 := hk9 65 (by decide) (by decide) (by decide)
            conv at f65 => rhs; whnf
            have f66 := hk9 66 (by decide) (by decide) (by decide)
            conv at f66 => rhs; whnf
            have f67 := hk9 67 (by decide) (by decide) (by decide)
            conv at f67 => rhs; whnf
            have f68 := hk9 68 (by decide) (by decide) (by decide)
            conv at f68 => rhs; whnf
            have f69 := hk9 69 (by decide) (by decide) (by decide)
            conv at f69 => rhs; whnf
            have f70 := hk9 70 (by decide) (by decide) (by decide)
            conv at f70 => rhs; whnf
            have f71 := hk9 71 (by decide) (by decide) (by decide)
            conv at f71 => rhs; whnf
            have f72 := hk9 72 (by decide) (by decide) (by decide)
            conv at f72 => rhs; whnf
            have f73 := hk9 73 (by decide) (by decide) (by decide)
            conv at f73 => rhs; whnf
            have f74 := hk9 74 (by decide) (by decide) (by decide)
            conv at f74 => rhs; whnf
            have f75 := hk9 75 (by decide) (by decide) (by decide)
            conv at f75 => rhs; whnf
            have f76 := hk9 76 (by decide) (by decide) (by decide)
            conv at f76 => rhs; whnf
            have f77 := hk9 77 (by decide) (by decide) (by decide)
            conv at f77 => rhs; whnf
            have f78 := hk9 78 (by decide) (by decide) (by decide)
            conv at f78 => rhs; whnf
            have f79 := hk9 79 (by decide) (by decide) (by decide)
            conv at f79 => rhs; whnf
            have f80 := hk9 80 (by decide) (by decide) (by decide)
            conv at f80 => rhs; whnf
            have f81 := hk9 81 (by decide) (by decide) (by decide)
            conv at f81 => rhs; whnf
            have f82 := hk9 82 (by decide) (by decide) (by decide)
            conv at f82 => rhs; whnf
            have f83 := hk9 83 (by decide) (by decide) (by decide)
            conv at f83 => rhs; whnf
            have f84 := hk9 84 (by decide) (by decide) (by decide)
            conv at f84 => rhs; whnf
            have f85 := hk9 85 (by decide) (by decide) (by decide)
            conv at f85 => rhs; whnf
            have f86 := hk9 86 (by decide) (by decide) (by decide)
            conv at f86 => rhs; whnf
            have f87 := hk9 87 (by decide) (by decide) (by decide)
            conv at f87 => rhs; whnf
            have f88 := hk9 88 (by decide) (by decide) (by decide)
            conv at f88 => rhs; whnf
            have f89 := hk9 89 (by decide) (by decide) (by decide)
            conv at f89 => rhs; whnf
            have f90 := hk9 90 (by decide) (by decide) (by decide)
            conv at f90 => rhs; whnf
            have f91 := hk9 91 (by decide) (by decide) (by decide)
            conv at f91 => rhs; whnf
            have f92 := hk9 92 (by decide) (by decide) (by decide)
            conv at f92 => rhs; whnf
            have f93 := hk9 93 (by decide) (by decide) (by decide)
            conv at f93 => rhs; whnf
            have f94 := hk9 94 (by decide) (by decide) (by decide)
            conv at f94 => rhs; whnf
            have f95 := hk9 95 (by decide) (by decide) (by decide)
            conv at f95 => rhs; whnf
            have f96 := hk9 96 (by decide) (by decide) (by decide)
            conv at f96 => rhs; whnf
            have f97 := hk9 97 (by decide) (by decide) (by decide)
            conv at f97 => rhs; whnf
            have f98 := hk9 98 (by decide) (by decide) (by decide)
            conv at f98 => rhs; whnf
            have f119 := hk9 119 (by decide) (by decide) (by decide)
            conv at f119 => rhs; whnf
            have f120 := hk9 120 (by decide) (by decide) (by decide)
            conv at f120 => rhs; whnf
            have f121 := hk9 121 (by decide) (by decide) (by decide)
            conv at f121 => rhs; whnf
            have f122 := hk9 122 (by decide) (by decide) (by decide)
            conv at f122 => rhs; whnf
            have f123 := hk9 123 (by decide) (by decide) (by decide)
            conv at f123 => rhs; whnf
            have f124 := hk9 124 (by decide) (by decide) (by decide)
            conv at f124 => rhs; whnf
            have f125 := hk9 125 (by decide) (by decide) (by decide)
            conv at f125 => rhs; whnf
            have f126 := hk9 126 (by decide) (by decide) (by decide)
            conv at f126 => rhs; whnf
            have f127 := hk9 127 (by decide) (by decide) (by decide)
            conv at f127 => rhs; whnf
            have f128 := hk9 128 (by decide) (by decide) (by decide)
            conv at f128 => rhs; whnf
            have f129 := hk9 129 (by decide) (by decide) (by decide)
            conv at f129 => rhs; whnf
            have f130 := hk9 130 (by decide) (by decide) (by decide)
            conv at f130 => rhs; whnf
            have f131 := hk9 131 (by decide) (by decide) (by decide)
            conv at f131 => rhs; whnf
            have f132 := hk9 132 (by decide) (by decide) (by decide)
            conv at f132 => rhs; whnf
            have f133 := hk9 133 (by decide) (by decide) (by decide)
            conv at f133 => rhs; whnf
            have f134 := hk9 134 (by decide) (by decide) (by decide)
            conv at f134 => rhs; whnf
            have f135 := hk9 135 (by decide) (by decide) (by decide)
            conv at f135 => rhs; whnf
            have f136 := hk9 136 (by decide) (by decide) (by decide)
            conv at f136 => rhs; whnf
            have f137 := hk9 137 (by decide) (by decide) (by decide)
            conv at f137 => rhs; whnf
            have f138 := hk9 138 (by decide) (by decide) (by decide)
            conv at f138 => rhs; whnf
            have f139 := hk9 139 (by decide) (by decide) (by decide)
            conv at f139 => rhs; whnf
            have f140 := hk9 140 (by decide) (by decide) (by decide)
            conv at f140 => rhs; whnf
            have f141 := hk9 141 (by decide) (by decide) (by decide)
            conv at f141 => rhs; whnf
            have f142 := hk9 142 (by decide) (by decide) (by decide)
            conv at f142 => rhs; whnf
            have f143 := hk9 143 (by decide) (by decide) (by decide)
            conv at f143 => rhs; whnf
            have f144 := hk9 144 (by decide) (by decide) (by decide)
            conv at f144 => rhs; whnf
            have f145 := hk9 145 (by decide) (by decide) (by decide)
            conv at f145 => rhs; whnf
            have f146 := hk9 146 (by decide) (by decide) (by decide)
            conv at f146 => rhs; whnf
            have f147 := hk9 147 (by decide) (by decide) (by decide)
            conv at f147 => rhs; whnf
            have f148 := hk9 148 (by decide) (by decide) (by decide)
            conv at f148 => rhs; whnf
            have f149 := hk9 149 (by decide) (by decide) (by decide)
            conv at f149 => rhs; whnf
            have f150 := hk9 150 (by decide) (by decide) (by decide)
            conv at f150 => rhs; whnf
            have f151 := hk9 151 (by decide) (by decide) (by decide)
            conv at f151 => rhs; whnf
            have f152 := hk9 152 (by decide) (by decide) (by decide)
            conv at f152 => rhs; whnf
            have f153 := hk9 153 (by decide) (by decide) (by decide)
            conv at f153 => rhs; whnf
            simp only [f0, f1, f2, f3, f4, f5, f6, f7, f8, f9, f10, f11, f12, f13, f14, f17, f18, f19, f20, f21, f22, f23, f24, f25, f26, f27, f28, f29, f30, f31, f32, f33, f34, f35, f36, f37, f38, f39, f40, f41, f42, f43, f44, f45, f46, f47, f48, f49, f50, f51, f52, f53, f54, f55, f56, f57, f58, f59, f60, f61, f62, f63, f64, f65, f66, f67, f68, f69, f70, f71, f72, f73, f74, f75, f76, f77, f78, f79, f80, f81, f82, f83, f84, f85, f86, f87, f88, f89, f90, f91, f92, f93, f94, f95, f96, f97, f98, f119, f120, f121, f122, f123, f124, f125, f126, f127, f128, f129, f130, f131, f132, f133, f134, f135, f136, f137, f138, f139, f140, f141, f142, f143, f144, f145, f146, f147, f148, f149, f150, f151, f152, f153]
            clear f0 f1 f2 f3 f4 f5 f6 f7 f8 f9 f10 f11 f12 f13 f14 f17 f18 f19 f20 f21 f22 f23 f24 f25 f26 f27 f28 f29 f30 f31 f32 f33 f34 f35 f36 f37 f38 f39 f40 f41 f42 f43 f44 f45 f46 f47 f48 f49 f50 f51 f52 f53 f54 f55 f56 f57 f58 f59 f60 f61 f62 f63 f64 f65 f66 f67 f68 f69 f70 f71 f72 f73 f74 f75 f76 f77 f78 f79 f80 f81 f82 f83 f84 f85 f86 f87 f88 f89 f90 f91 f92 f93 f94 f95 f96 f97 f98 f119 f120 f121 f122 f123 f124 f125 f126 f127 f128 f129 f130 f131 f132 f133 f134 f135 f136 f137 f138 f139 f140 f141 f142 f143 f144 f145 f146 f147 f148 f149 f150 f151 f152 f153 hk9 q15 q16
            simp only [show (Value.tuple #[] : Value) = undef from rfl]
            go_wp2_with fail
            go_roundw
            case rel => exact ⟨i + 1, c2, c3, A2, A3, by omega, rfl, rfl, by go_num, HU⟩
            case measure => simp [intOf]; omega
          · obtain rfl : i = k + 3 := by omega
            have own1 := hU.out.1
            have own2 := hU.out.2.1
            have hci := own_cap own1
            have hcp := own_cap own2
            have hsl := slice_frontB (A := Ai) (n := k + 3) (c := ci) (m := k) (by omega)
            have S1 := Rd.of_own own1
            have S2 := Rd.of_own own2
            have HG := HT2.out
            rw [HLX.out] at HG
            obtain ⟨G1, G2⟩ := HG
            have hli : (inI x 2).length = k := by rw [inI_length, HLX.out]
            have hlp : (paL (inI x 2) k).length = k := paL_length _ _
            have hbi := inI_bits BX.out 2
            have E1 : (pickS p (sysN (piK k) k 2) (k + 3)).take k = inI x 2 := by
              unfold pickS; rw [G1]; exact List.take_left' hli
            have E2 : (pickS p (parN k 2) (k + 3)).take k = paL (inI x 2) k := by
              unfold pickS; rw [G2]; exact List.take_left' hlp
            have E3 : ((pickS p (sysN (piK k) k 2) (k + 3)).drop k).take (k + 3 - k) = intsOf (tailU (stK (inI x 2) k)) := by
              unfold pickS; rw [G1, List.drop_left' hli, Nat.add_sub_cancel_left]; rfl
            have E4 : ((pickS p (parN k 2) (k + 3)).drop k).take (k + 3 - k) = intsOf (tailZ (stK (inI x 2) k)) := by
              unfold pickS; rw [G2, List.drop_left' hlp, Nat.add_sub_cancel_left]; rfl
            have ra := S1.take (m := k) (by omega)
            have rb := S2.take (m := k) (by omega)
            have rc := S1.cut (lo := k) (hi := k + 3) (cap := ci) (by omega) (Nat.le_refl _) hci
            have rd := S2.cut (lo := k) (hi := k + 3) (cap := cp) (by omega) (Nat.le_refl _) hcp
            rw [E1] at ra
            rw [E2] at rb
            rw [E3] at rc
            rw [E4] at rd
            have HEQ : Hid ([] ++ inI x 2 ++ paL (inI x 2) k ++ ([] ++ intsOf (tailU (stK (inI x 2) k)) ++ intsOf (tailZ (stK (inI x 2) k))) = wordI (inI x 2)) := Lib.hid (by
              unfold wordI
              rw [hli]
              simp [List.append_assoc])
            have hWd := Lib.hid (fun (v : World) (h : Rd .u8 v v.heap.size Ai k (inI x 2)) => refWord_any (c := ci) h hbi.byte (by omega))
            have hws : wordS (inI x 2) = (wordI (inI x 2), 0) := by unfold wordS; rw [if_pos hbi.valid]
            rw [hws] at hWd
            have hlw : (wordI (inI x 2)).length = 0 + k + k + (0 + (k + 3 - k) + (k + 3 - k)) := by rw [wordI_length, hli]; omega
            have HBW := Lib.hid ((wordI_bits hbi).byte)
            obtain ⟨G, hG⟩ : ∃ G, 0 + k + k + (0 + (k + 3 - k) + (k + 3 - k)) = G := ⟨_, rfl⟩
            rw [hG] at hlw
            have HGG := Lib.hid hG
            unfold RetBytes at hWd
            simp only [hlw] at hWd
            have HS1 := Lib.hid ra
            have HBU := Lib.hid hU.out.2.2.2
            have HCI := Lib.hid hci
            clear HT1 HT2 hLay hK G1 G2 E1 E2 E3 E4 hws hlt hi hU hG
            go_wp2_with fail
            refine h20_wp (H := wr.heap.size) (W8 := wr) (K := k) (n := k + 3) (M := k + 3 - k) rfl rfl rfl rfl (by omega) hci hcp (by omega) ra rb rc rd (Nat.le_refl _) rfl ?_
            intro a9 w9 A2 c2 hk9 hz9 hd9 q18 ho hb9
            rw [HEQ.out, HGG.out] at ho
            rw [HGG.out] at q18
            have HO := Lib.hid (And.intro ho hb9)
            clear own1 own2 hci hcp S1 S2 ra rb rc rd ho hb9 hlp hli hbi HEQ hlw
            rw [act154 a9 hz9 hd9, q18]
            have f0 := hk9 0 (by decide) (by decide)
            conv at f0 => rhs; whnf
            have f1 := hk9 1 (by decide) (by decide)
            conv at f1 => rhs; whnf
            have f2 := hk9 2 (by decide) (by decide)
            conv at f2 => rhs; whnf
            have f3 := hk9 3 (by decide) (by decide)
            conv at f3 => rhs; whnf
            have f4 := hk9 4 (by decide) (by decide)
            conv at f4 => rhs; whnf
            have f5 := hk9 5 (by decide) (by decide)
            conv at f5 => rhs; whnf
            have f6 := hk9 6 (by decide) (by decide)
            conv at f6 => rhs; whnf
            have f7 := hk9 7 (by decide) (by decide)
            conv at f7 => rhs; whnf
            have f8 := hk9 8 (by decide) (by decide)
            conv at f8 => rhs; whnf
            have f9 := hk9 9 (by decide) (by decide)
            conv at f9 => rhs; whnf
            have f10 := hk9 10 (by decide) (by decide)
            conv at f10 => rhs; whnf
            have f11 := hk9 11 (by decide) (by decide)
            conv at f11 => rhs; whnf
            have f12 := hk9 12 (by decide) (by decide)
            conv at f12 => rhs; whnf
            have f13 := hk9 13 (by decide) (by decide)
            conv at f13 => rhs; whnf
            have f14 := hk9 14 (by decide) (by decide)
            conv at f14 => rhs; whnf
            have f15 := hk9 15 (by decide) (by decide)
            conv at f15 => rhs; whnf
            have f16 := hk9 16 (by decide) (by decide)
            conv at f16 => rhs; whnf
            have f17 := hk9 17 (by decide) (by decide)
            conv at f17 => rhs; whnf
            have f19 := hk9 19 (by decide) (by decide)
            conv at f19 => rhs; whnf
            have f20 := hk9 20 (by decide) (by decide)
            conv at f20 => rhs; whnf
            have f21 := hk9 21 (by decide) (by decide)
            conv at f21 => rhs; whnf
            have f22 := hk9 22 (by decide) (by decide)
            conv at f22 => rhs; whnf
            have f23 := hk9 23 (by decide) (by decide)
            conv at f23 => rhs; whnf
            have f24 := hk9 24 (by decide) (by decide)
            conv at f24 => rhs; whnf
            have f25 := hk9 25 (by decide) (by decide)
            conv at f25 => rhs; whnf
            have f26 := hk9 26 (by decide) (by decide)
            conv at f26 => rhs; whnf
            have f27 := hk9 27 (by decide) (by decide)
            conv at f27 => rhs; whnf
            have f28 := hk9 28 (by decide) (by decide)
            conv at f28 => rhs; whnf
            have f29 := hk9 29 (by decide) (by decide)
            conv at f29 => rhs; whnf
            have f30 := hk9 30 (by decide) (by decide)
            conv at f30 => rhs; whnf
            have f31 := hk9 31 (by decide) (by decide)
            conv at f31 => rhs; whnf
            have f32 := hk9 32 (by decide) (by decide)
            conv at f32 => rhs; whnf
            have f33 := hk9 33 (by decide) (by decide)
            conv at f33 => rhs; whnf
            have f34 := hk9 34 (by decide) (by decide)
            conv at f34 => rhs; whnf
            have f35 := hk9 35 (by decide) (by decide)
            conv at f35 => rhs; whnf
            have f36 := hk9 36 (by decide) (by decide)
            conv at f36 => rhs; whnf
            have f37 := hk9 37 (by decide) (by decide)
            conv at f37 => rhs; whnf
            have f38 := hk9 38 (by decide) (by decide)
            conv at f38 => rhs; whnf
            have f39 := hk9 39 (by decide) (by decide)
            conv at f39 => rhs; whnf
            have f40 := hk9 40 (by decide) (by decide)
            conv at f40 => rhs; whnf
            have f41 := hk9 41 (by decide) (by decide)
            conv at f41 => rhs; whnf
            have f42 := hk9 42 (by decide) (by decide)
            conv at f42 => rhs; whnf
            have f43 := hk9 43 (by decide) (by decide)
            conv at f43 => rhs; whnf
            have f44 := hk9 44 (by decide) (by decide)
            conv at f44 => rhs; whnf
            have f45 := hk9 45 (by decide) (by decide)
            conv at f45 => rhs; whnf
            have f46 := hk9 46 (by decide) (by decide)
            conv at f46 => rhs; whnf
            have f47 := hk9 47 (by decide) (by decide)
            conv at f47 => rhs; whnf
            have f48 := hk9 48 (by decide) (by decide)
            conv at f48 => rhs; whnf
            have f49 := hk9 49 (by decide) (by decide)
            conv at f49 => rhs; whnf
            have f50 := hk9 50 (by decide) (by decide)
            conv at f50 => rhs; whnf
            have f51 := hk9 51 (by decide) (by decide)
            conv at f51 => rhs; whnf
            have f52 := hk9 52 (by decide) (by decide)
            conv at f52 => rhs; whnf
            have f53 := hk9 53 (by decide) (by decide)
            conv at f53 => rhs; whnf
            have f54 := hk9 54 (by decide) (by decide)
            conv at f54 => rhs; whnf
            have f55 := hk9 55 (by decide) (by decide)
            conv at f55 => rhs; whnf
            have f56 := hk9 56 (by decide) (by decide)
            conv at f56 => rhs; whnf
            have f57 := hk9 57 (by decide) (by decide)
            conv at f57 => rhs; whnf
            have f58 := hk9 58 (by decide) (by decide)
            conv at f58 => rhs; whnf
            have f59 := hk9 59 (by decide) (by decide)
            conv at f59 => rhs; whnf
            have f60 := hk9 60 (by decide) (by decide)
            conv at f60 => rhs; whnf
            have f61 := hk9 61 (by decide) (by decide)
            conv at f61 => rhs; whnf
            have f62 := hk9 62 (by decide) (by decide)
            conv at f62 => rhs; whnf
            have f63 := hk9 63 (by decide) (by decide)
            conv at f63 => rhs; whnf
            have f64 := hk9 64 (by decide) (by decide)
            conv at f64 => rhs; whnf
            have f65 := hk9 65 (by decide) (by decide)
            conv at f65 => rhs; whnf
            have f66 := hk9 66 (by decide) (by decide)
            conv at f66 => rhs; whnf
            have f67 := hk9 67 (by decide) (by decide)
            conv at f67 => rhs; whnf
            have f68 := hk9 68 (by decide) (by decide)
            conv at f68 => rhs; whnf
            have f69 := hk9 69 (by decide) (by decide)
            conv at f69 => rhs; whnf
            have f70 := hk9 70 (by decide) (by decide)
            conv at f70 => rhs; whnf
            have f71 := hk9 71 (by decide) (by decide)
            conv at f71 => rhs; whnf
            have f72 := hk9 72 (by decide) (by decide)
            conv at f72 => rhs; whnf
            have f73 := hk9 73 (by decide) (by decide)
            conv at f73 => rhs; whnf
            have f74 := hk9 74 (by decide) (by decide)
            conv at f74 => rhs; whnf
            have f75 := hk9 75 (by decide) (by decide)
            conv at f75 => rhs; whnf
            have f76 := hk9 76 (by decide) (by decide)
            conv at f76 => rhs; whnf
            have f77 := hk9 77 (by decide) (by decide)
            conv at f77 => rhs; whnf
            have f78 := hk9 78 (by decide) (by decide)
            conv at f78 => rhs; whnf
            have f79 := hk9 79 (by decide) (by decide)
            conv at f79 => rhs; whnf
            have f80 := hk9 80 (by decide) (by decide)
            conv at f80 => rhs; whnf
            have f81 := hk9 81 (by decide) (by decide)
            conv at f81 => rhs; whnf
            have f82 := hk9 82 (by decide) (by decide)
            conv at f82 => rhs; whnf
            have f83 := hk9 83 (by decide) (by decide)
            conv at f83 => rhs; whnf
            have f84 := hk9 84 (by decide) (by decide)
            conv at f84 => rhs; whnf
            have f85 := hk9 85 (by decide) (by decide)
            conv at f85 => rhs; whnf
            have f86 := hk9 86 (by decide) (by decide)
            conv at f86 => rhs; whnf
            have f87 := hk9 87 (by decide) (by decide)
            conv at f87 => rhs; whnf
            have f88 := hk9 88 (by decide) (by decide)
            conv at f88 => rhs; whnf
            have f89 := hk9 89 (by decide) (by decide)
            conv at f89 => rhs; whnf
            have f90 := hk9 90 (by decide) (by decide)
            conv at f90 => rhs; whnf
            have f91 := hk9 91 (by decide) (by decide)
            conv at f91 => rhs; whnf
            have f92 := hk9 92 (by decide) (by decide)
            conv at f92 => rhs; whnf
            have f93 := hk9 93 (by decide) (by decide)
            conv at f93 => rhs; whnf
            have f94 := hk9 94 (by decide) (by decide)
            conv at f94 => rhs; whnf
            have f95 := hk9 95 (by decide) (by decide)
            conv at f95 => rhs; whnf
            have f96 := hk9 96 (by decide) (by decide)
            conv at f96 => rhs; whnf
            have f97 := hk9 97 (by decide) (by decide)
            conv at f97 => rhs; whnf
            have f98 := hk9 98 (by decide) (by decide)
            conv at f98 => rhs; whnf
            have f99 := hk9 99 (by decide) (by decide)
            conv at f99 => rhs; whnf
            have f100 := hk9 100 (by decide) (by decide)
            conv at f100 => rhs; whnf
            have f101 := hk9 101 (by decide) (by decide)
            conv at f101 => rhs; whnf
            have f102 := hk9 102 (by decide) (by decide)
            conv at f102 => rhs; whnf
            have f103 := hk9 103 (by decide) (by decide)
            conv at f103 => rhs; whnf
            have f104 := hk9 104 (by decide) (by decide)
            conv at f104 => rhs; whnf
            have f105 := hk9 105 (by decide) (by decide)
            conv at f105 => rhs; whnf
            have f106 := hk9 106 (by decide) (by decide)
            conv at f106 => rhs; whnf
            have f107 := hk9 107 (by decide) (by decide)
            conv at f107 => rhs; whnf
            have f108 := hk9 108 (by decide) (by decide)
            conv at f108 => rhs; whnf
            have f109 := hk9 109 (by decide) (by decide)
            conv at f109 => rhs; whnf
            have f110 := hk9 110 (by decide) (by decide)
            conv at f110 => rhs; whnf
            have f111 := hk9 111 (by decide) (by decide)
            conv at f111 => rhs; whnf
            have f112 := hk9 112 (by decide) (by decide)
            conv at f112 => rhs; whnf
            have f113 := hk9 113 (by decide) (by decide)
            conv at f113 => rhs; whnf
            have f114 := hk9 114 (by decide) (by decide)
            conv at f114 => rhs; whnf
            have f115 := hk9 115 (by decide) (by decide)
            conv at f115 => rhs; whnf
            have f116 := hk9 116 (by decide) (by decide)
            conv at f116 => rhs; whnf
            have f117 := hk9 117 (by decide) (by decide)
            conv at f117 => rhs; whnf
            have f118 := hk9 118 (by decide) (by decide)
            conv at f118 => rhs; whnf
            have f138 := hk9 138 (by decide) (by decide)
            conv at f138 => rhs; whnf
            have f139 := hk9 139 (by decide) (by decide)
            conv at f139 => rhs; whnf
            have f140 := hk9 140 (by decide) (by decide)
            conv at f140 => rhs; whnf
            have f141 := hk9 141 (by decide) (by decide)
            conv at f141 => rhs; whnf
            have f142 := hk9 142 (by decide) (by decide)
            conv at f142 => rhs; whnf
            have f143 := hk9 143 (by decide) (by decide)
            conv at f143 => rhs; whnf
            have f144 := hk9 144 (by decide) (by decide)
            conv at f144 => rhs; whnf
            have f145 := hk9 145 (by decide) (by decide)
            conv at f145 => rhs; whnf
            have f146 := hk9 146 (by decide) (by decide)
            conv at f146 => rhs; whnf
            have f147 := hk9 147 (by decide) (by decide)
            conv at f147 => rhs; whnf
            have f148 := hk9 148 (by decide) (by decide)
            conv at f148 => rhs; whnf
            have f149 := hk9 149 (by decide) (by decide)
            conv at f149 => rhs; whnf
            have f150 := hk9 150 (by decide) (by decide)
            conv at f150 => rhs; whnf
            have f151 := hk9 151 (by decide) (by decide)
            conv at f151 => rhs; whnf
            have f152 := hk9 152 (by decide) (by decide)
            conv at f152 => rhs; whnf
            have f153 := hk9 153 (by decide) (by decide)
            conv at f153 => rhs; whnf
            simp only [f0, f1, f2, f3, f4, f5, f6, f7, f8, f9, f10, f11, f12, f13, f14, f15, f16, f17, f19, f20, f21, f22, f23, f24, f25, f26, f27, f28, f29, f30, f31, f32, f33, f34, f35, f36, f37, f38, f39, f40, f41, f42, f43, f44, f45, f46, f47, f48, f49, f50, f51, f52, f53, f54, f55, f56, f57, f58, f59, f60, f61, f62, f63, f64, f65, f66, f67, f68, f69, f70, f71, f72, f73, f74, f75, f76, f77, f78, f79, f80, f81, f82, f83, f84, f85, f86, f87, f88, f89, f90, f91, f92, f93, f94, f95, f96, f97, f98, f99, f100, f101, f102, f103, f104, f105, f106, f107, f108, f109, f110, f111, f112, f113, f114, f115, f116, f117, f118, f138, f139, f140, f141, f142, f143, f144, f145, f146, f147, f148, f149, f150, f151, f152, f153]
            clear f0 f1 f2 f3 f4 f5 f6 f7 f8 f9 f10 f11 f12 f13 f14 f15 f16 f17 f19 f20 f21 f22 f23 f24 f25 f26 f27 f28 f29 f30 f31 f32 f33 f34 f35 f36 f37 f38 f39 f40 f41 f42 f43 f44 f45 f46 f47 f48 f49 f50 f51 f52 f53 f54 f55 f56 f57 f58 f59 f60 f61 f62 f63 f64 f65 f66 f67 f68 f69 f70 f71 f72 f73 f74 f75 f76 f77 f78 f79 f80 f81 f82 f83 f84 f85 f86 f87 f88 f89 f90 f91 f92 f93 f94 f95 f96 f97 f98 f99 f100 f101 f102 f103 f104 f105 f106 f107 f108 f109 f110 f111 f112 f113 f114 f115 f116 f117 f118 f138 f139 f140 f141 f142 f143 f144 f145 f146 f147 f148 f149 f150 f151 f152 f153 hk9 q18
            simp only [show (Value.tuple #[] : Value) = undef from rfl]
            go_wp2_with fail
            refine (hWd.out w9 ((HS1.out.below HO.out.2).more HO.out.2.size)).mono ?_
            rintro e w10 ⟨A7, c7, rfl, hO7, hb10⟩
            have HS := Lib.hid (same_true (c := c2) (c' := c7) ((Rd.of_own HO.out.1).step hb10) (Rd.of_own hO7) HBW.out)
            have HF : Hid (Below w5.heap.size w5 w10) := Lib.hid (HW.out.trans (((HBU.out.trans (HO.out.2.mono HBU.out.size)).trans (hb10.mono (HBU.out.trans (HO.out.2.mono HBU.out.size)).size)).mono HW.out.size))
            clear hWd hO7 hb10 HO HS1 HBU HW
            go_wp2_with fail
            refine HS.out.mono ?_
            rintro e w11 ⟨rfl, he⟩
            obtain rfl := he.symm
            clear HS
            go_wp2_with fail
            go_roundw
            case rel => exact ⟨2, by decide, by go_num, HF⟩
            case measure => simp [intOf]
      · have HK := Lib.hid (hK.out wr (B5.out.trans (hH.out.mono B5.out.size)))
        clear P5 B5 hLay hK hH HT1 HT2
        go_wp2_with fail
        refine HK.out.mono ?_
        rintro e w8 ⟨rfl, hb8⟩
        clear HK
        go_wp2_with fail
        go_ret
        exact ⟨rfl, hb8⟩
  · have HK := Lib.hid (hK.out w (Below.refl _ _))
    have hn1 : (600 : Int) < (n : Int) := by omega
    clear hX hbx hK hKi
    go_enter Tryd.func9, Tryd.ntmps9
    go_wp2_with fail
    refine HK.out.mono ?_
    rintro e w1 ⟨rfl, hb1⟩
    clear HK
    go_wp2_with fail
    go_ret
    exact ⟨rfl, hb1⟩
end Go.Proofs.YtbpkoilecdejiaaDoor
