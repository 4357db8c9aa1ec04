/-
  The walk of SubblockBack.
-/
import Derived.Test.YtmehfegfkjhdcaaDoorDm
import Derived.Test.YtmehfegfkjhdcaaDoorL1
namespace Go.Proofs.YtmehfegfkjhdcaaDoor
open Go.RowKit Go.Shelf

set_option maxRecDepth 100000 in
set_option maxHeartbeats 2000000 in
theorem back_walk {A : Option Addr} {n c : Nat} {xs : List Int} {st : Int} {w : World} (hK : Kinds w) (hI : Rd .u8 w w.heap.size A n xs) :
    Calls Tryd.prog 8 #[.slice A n c, .int .i64 st] w fun e w' => e = .returned (.bool true) ∧ Below w.heap.size w w' := by
  have hW := Lib.hid (fun (u : World) (h : Below w.heap.size w u) => known_any (hK.step h))
  by_cases hbig : 1000 < n
  · have hb : (1000 : Int) < (n : Int) := by omega
    have hk := Lib.hid (hW.out _ (Below.refl _ w))
    clear hI
    go_enter Tryd.func8, Tryd.ntmps8
    go_wp2_with (go_at_call 14; refine hk.out.mono ?_; rintro e w4 ⟨rfl, h4⟩)
    go_ret
    exact ⟨rfl, h4⟩
  · have hn1 : n ≤ 1000 := by omega
    have hb : ¬ ((1000 : Int) < (n : Int)) := by omega
    have hA := Lib.hid (Interleave_any (c := c) (st := st) hK hI (by omega))
    have hIh := Lib.hid hI
    rcases interS_cases xs st with ⟨he, ho, hs, hv⟩ | ⟨k, he, hk⟩
    · rw [he] at hA
      have hlx := hI.len
      have hd1 : 1 ≤ xs.length ∧ xs.length ≤ 6148 := by simp [okD] at ho; omega
      have hde := de_inter hd1.1 hd1.2 hs hv
      have hl0 := Lib.hid (interI_length (shB st) xs)
      have hr := rows_le hd1.1 hd1.2
      obtain ⟨S, hS⟩ : ∃ S, 32 * rowsN xs.length = S := ⟨_, rfl⟩
      rw [hS] at hl0
      have hSl : S ≤ 6176 := by omega
      have hD := Lib.hid (fun (u : World) (A' : Option Addr) (c' : Nat) (h : Below w.heap.size w u) (hR : Rd .u8 u u.heap.size A' S (interI (shB st) xs)) => Deinterleave_any (c := c') (d := (xs.length : Int)) (st := st) (hK.step h) hR (by omega))
      rw [hde] at hD
      rw [hlx] at hD
      have hsame := Lib.hid (fun (u : World) (A' : Option Addr) (n' c' : Nat) (h : Below w.heap.size w u) (hR : Rd .u8 u u.heap.size A' n' xs) => same_true (c := c') (c' := c) hR (hI.step h) (by have := hR.len; omega))
      have HLX := Lib.hid hlx
      generalize interI (shB st) xs = res at *
      clear he ho hs hv hde hr hS hd1 hlx hI
      go_enter Tryd.func8, Tryd.ntmps8
      go_wp2_with fail
      refine hA.out.mono ?_
      rintro e w1 he
      obtain ⟨A1, c1, rfl, o1, hb1⟩ := he.got hl0.out
      have R1 := Rd.of_own o1
      have hd := Lib.hid (hD.out _ _ c1 hb1 R1)
      clear he o1 hD hA
      go_wp2_with fail
      refine hd.out.mono ?_
      rintro e w2 ⟨A2, c2, rfl, R2, _, h2⟩
      have hb2 := hb1.trans (h2.mono hb1.size)
      have hs2 := Lib.hid (hsame.out _ _ _ c2 hb2 R2)
      rw [show (xs, (0 : Int)).1 = xs from rfl, show (xs, (0 : Int)).2 = 0 from rfl]
      rw [show (xs, (0 : Int)).1 = xs from rfl] at hs2
      rw [HLX.out] at hs2 ⊢
      clear hd R1 R2 h2 hb1 hsame
      go_wp2_with fail
      refine hs2.out.mono ?_
      rintro e w3 ⟨rfl, h3⟩
      have hb3 := hb2.trans (h3.mono hb2.size)
      have hk := Lib.hid (hW.out _ hb3)
      clear hs2 h3 hb2
      go_wp2_with fail
      refine hk.out.mono ?_
      rintro e w4 ⟨rfl, h4⟩
      go_wp2_with fail
      go_ret
      exact ⟨rfl, hb3.trans (h4.mono hb3.size)⟩
    · rw [he] at hA
      have hne : (k != 0) = true := by rcases hk with rfl | rfl <;> rfl
      clear he hk hI
      go_enter Tryd.func8, Tryd.ntmps8
      go_wp2_with fail
      refine hA.out.mono ?_
      rintro e w1 he
      obtain ⟨A1, c1, rfl, o1, hb1⟩ := he.got (n := 0) rfl
      have hk := Lib.hid (hW.out _ hb1)
      clear o1 he
      go_wp2_with fail
      refine hk.out.mono ?_
      rintro e w4 ⟨rfl, h4⟩
      go_wp2_with fail
      go_ret
      exact ⟨rfl, hb1.trans (h4.mono hb1.size)⟩
end Go.Proofs.YtmehfegfkjhdcaaDoor
