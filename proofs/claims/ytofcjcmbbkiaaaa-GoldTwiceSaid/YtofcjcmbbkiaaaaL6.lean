/-
  The reference's Same of integers; the walks of GoldScrambles and GoldSofts.
-/
import Derived.Test.YtofcjcmbbkiaaaaHb
import Derived.Test.YtofcjcmbbkiaaaaHi
import Derived.Test.YtofcjcmbbkiaaaaL2
namespace Go.Proofs.Ytofcjcmbbkiaaaa
open Go.RowKit

set_option maxHeartbeats 1000000 in
/-- The reference's Same, of integers. -/
theorem sameI_any {A A' : Option Addr} {n c n' c' B B' : Nat} {xs ys : List Int} {w : World} (h : Rd .i64 w B A n xs) (h' : Rd .i64 w B' A' n' ys) (hn : n ≤ 140737488351232) (hn' : n' ≤ 140737488351232) :
    Calls Try.prog 23 #[.slice A n c, .slice A' n' c'] w fun e w' => e = .returned (.bool (decide (xs = ys))) ∧ ∃ i, w' = w.drewN i := by
  have hl := Lib.hid h.len
  have hl' := Lib.hid h'.len
  by_cases hnn : n = n'
  · subst hnn
    go_enter Try.func23, Try.ntmps23
    go_wp2_with fail
    go_loopw [5] (fun i wr => ∃ k j : Nat, k ≤ n ∧ i = .int .i64 k ∧ (xs.take k = ys.take k) ∧ wr = w.drewN j) (fun i _ => n - (intOf i).toNat)
    case atStart => exact ⟨0, 0, Nat.zero_le _, rfl, rfl, rfl⟩
    case round =>
      obtain ⟨k, j, hk, rfl, hv, rfl⟩ := hrel
      have hV := Lib.hid hv; clear hv
      by_cases hlt : k < n
      · obtain ⟨b, off, rfl, hb1, hc⟩ := h.cells k hlt
        obtain ⟨b', off', rfl, hb1', hc'⟩ := h'.cells k hlt
        have hT1 := Lib.hid (take_snoc xs k (by rw [hl.out]; exact hlt) 0)
        have hT2 := Lib.hid (take_snoc ys k (by rw [hl'.out]; exact hlt) 0)
        have hE := Lib.hid (fun e : xs = ys => show xs[k]?.getD 0 = ys[k]?.getD 0 by rw [e])
        generalize xs[k]?.getD 0 = x at *
        generalize ys[k]?.getD 0 = y at *
        have hc2 : World.cell? (w.drewN j) ⟨b, off + k, none⟩ = some (.int .i64 x) := hc
        have hc2' : World.cell? (w.drewN j) ⟨b', off' + k, none⟩ = some (.int .i64 y) := hc'
        have hk0 : (0 : Int) ≤ (k : Int) := by omega
        have hk1 : (k : Int) < (n : Int) := by omega
        clear h h' hb1 hb1'
        by_cases hxy : x = y
        · subst hxy
          go_wp2_with fail
          go_quiet (fail)
          go_wp2_with fail
          go_roundw
          case rel => exact ⟨k + 1, _, by omega, by go_num, by rw [hT1.out, hT2.out, hV.out], by first | rfl | exact drewN_two _ _ _⟩
          case measure => simp [intOf]; omega
        · have hd : (x != y) = true := by simp [hxy]
          have hE2 : Hid (¬ xs = ys) := Lib.hid (fun e => hxy (hE.out e))
          clear hxy
          go_wp2_with fail
          go_quiet (fail)
          go_wp2_with fail
          go_ret
          exact ⟨ret_bool (by simp [hE2.out]), _, by first | rfl | exact drewN_two _ _ _⟩
      · obtain rfl : k = n := by omega
        clear hlt h h'
        go_wp2_with fail
        go_ret
        have e1 := hV.out
        rw [List.take_of_length_le (Nat.le_of_eq hl.out), List.take_of_length_le (Nat.le_of_eq hl'.out)] at e1
        exact ⟨ret_bool (by simp [e1]), j, rfl⟩
  · have hd : ((n : Int) != (n' : Int)) = true := by simp; omega
    have hne : Hid (¬ xs = ys) := Lib.hid (fun e : xs = ys => hnn (by rw [← hl.out, ← hl'.out, e]))
    clear hnn h h'
    go_enter Try.func23, Try.ntmps23
    go_wp2_with fail
    go_ret
    exact ⟨ret_bool (by simp [hne.out]), 0, rfl⟩
theorem sameI_true {w : World} {A A' : Option Addr} {n n' c c' B B' : Nat} {xs : List Int} (h : Rd .i64 w B A n xs) (h' : Rd .i64 w B' A' n' xs) (hn : n ≤ 1000000) :
    Calls Try.prog 23 #[.slice A n c, .slice A' n' c'] w fun e w' => e = .returned (.bool true) ∧ Below w.heap.size w w' := by
  have e : n = n' := by rw [← h.len, ← h'.len]
  refine (sameI_any h h' (by omega) (by omega)).mono ?_
  rintro e w' ⟨rfl, i, rfl⟩
  exact ⟨ret_bool (by simp), below_drewN (Below.refl _ _) i⟩
theorem scrbS_len {v n : Nat} {xs : List Int} (h : n ≤ 3000) : (scrbS v xs n).1.length ≤ 3000 := by
  unfold scrbS
  split
  · simp
  · split
    · simp
    · rw [mapN_length]; exact h
theorem refAllb_any {A : Option Addr} {n c v : Nat} {x : Int} {xs : List Int} {w : World} (hvx : (v : Int) = x) (hv : v < 4294967296) (hI : Rd .u8 w w.heap.size A n xs) (hn : n ≤ 3000) (hr : ∀ x ∈ xs, 0 ≤ x ∧ x ≤ 255) :
    Calls Try.prog 20 #[.int .u32 x, .slice A n c] w (RetQ .u8 5 w (scrbS v xs n)) := by
  by_cases h : v < 2147483648
  · exact refb_any hvx h hI hn hr
  · have e : exI v n = 2 := by unfold exI; rw [if_neg h]
    rw [scrbS_err (by rw [e]; decide), e]
    exact refBigb_any (by omega)
set_option maxRecDepth 100000 in
set_option maxHeartbeats 2000000 in
theorem scrambles_walk {A : Option Addr} {n c : Nat} {x : Int} {xs : List Int} {w : World} (hx : 0 ≤ x ∧ x < 4294967296) (hI : Rd .u8 w w.heap.size A n xs) (hr : ∀ x ∈ xs, 0 ≤ x ∧ x ≤ 255) :
    Calls Try.prog 6 #[.int .u32 x, .slice A n c] w fun e w' => e = .returned (.bool true) ∧ Below w.heap.size w w' := by
  have hk := Lib.hid (fun (u : World) (h : Below w.heap.size w u) => (known_any (w := u)).mono (R' := fun e w' => e = .returned (.bool true) ∧ Below w.heap.size w w') (fun e w' he => ⟨he.1, h.trans (he.2.mono h.size)⟩))
  by_cases hn : n ≤ 3000
  · obtain ⟨v, hvx, hv⟩ := nat_of hx
    have h1 := Lib.hid (topb_any (c := c) hvx.symm hv hI (by omega) hr)
    have h2 := Lib.hid (fun (u : World) (hb : Below w.heap.size w u) => refAllb_any (c := c) hvx.symm hv (hI.step hb) hn hr)
    have hle := scrbS_len (v := v) (xs := xs) hn
    obtain ⟨l, hl⟩ : ∃ l, (scrbS v xs n).1.length = l := ⟨_, rfl⟩
    rw [hl] at hle
    have hS := Lib.hid (fun (u : World) (A A' : Option Addr) (c c' : Nat) (r : List Int) (h : Rd .u8 u u.heap.size A l r) (h' : Rd .u8 u u.heap.size A' l r) => same_true (c := c) (c' := c') h h' (by omega))
    generalize scrbS v xs n = p at *
    obtain ⟨r, er⟩ := p
    have hl2 := Lib.hid (show r.length = l from hl)
    have hn2 : (n : Int) ≤ 3000 := by omega
    clear hvx hv hx hI hr hle hl hn
    go_enter Try.func6, Try.ntmps6
    go_wp2_with fail
    refine h1.out.mono ?_
    intro e w1 h
    obtain ⟨A1, c1, rfl, ho1, hb1⟩ := h.got hl2.out
    have hr1 := Rd.of_own ho1
    clear h1 h ho1
    go_wp2_with fail
    refine (h2.out _ hb1).mono ?_
    intro e w2 h
    obtain ⟨A2, c2, rfl, ho2, hb2⟩ := h.got hl2.out
    have hr2 := Rd.of_own ho2
    replace hr1 := hr1.step hb2
    replace hb2 := hb1.trans (hb2.mono hb1.size)
    clear h2 h ho2 hb1
    go_wp2_with fail
    refine (hS.out _ _ _ c1 c2 _ hr1 hr2).mono ?_
    rintro e w3 ⟨rfl, hb3⟩
    replace hb3 := hb2.trans (hb3.mono hb2.size)
    clear hS hb2 hr1 hr2
    go_wp2_with fail
    refine (hk.out _ hb3).mono ?_
    rintro e w4 ⟨rfl, hb4⟩
    go_wp2_with fail
    go_ret
    exact ⟨rfl, hb4⟩
  · have hn2 : 3000 < (n : Int) := by omega
    clear hn hI hx hr
    go_enter Try.func6, Try.ntmps6
    go_wp2_with fail
    refine (hk.out _ (Below.refl _ _)).mono ?_
    rintro e w2 ⟨rfl, hb⟩
    go_wp2_with fail
    go_ret
    exact ⟨rfl, hb⟩
theorem scriS_len {v n : Nat} {xs : List Int} (h : n ≤ 3000) : (scriS v xs n).1.length ≤ 3000 := by
  unfold scriS
  split
  · simp
  · split
    · simp
    · rw [mapN_length]; exact h
theorem refAlli_any {A : Option Addr} {n c v : Nat} {x : Int} {xs : List Int} {w : World} (hvx : (v : Int) = x) (hv : v < 4294967296) (hI : Rd .i64 w w.heap.size A n xs) (hn : n ≤ 3000) (hr : ∀ x ∈ xs, -9223372036854775808 ≤ x ∧ x ≤ 9223372036854775807) :
    Calls Try.prog 22 #[.int .u32 x, .slice A n c] w (RetQ .i64 3 w (scriS v xs n)) := by
  by_cases h : v < 2147483648
  · exact refi_any hvx h hI hn hr
  · have e : exI v n = 2 := by unfold exI; rw [if_neg h]
    rw [scriS_err (by rw [e]; decide), e]
    exact refBigi_any (by omega)
set_option maxRecDepth 100000 in
set_option maxHeartbeats 2000000 in
theorem softs_walk {A : Option Addr} {n c : Nat} {x : Int} {xs : List Int} {w : World} (hx : 0 ≤ x ∧ x < 4294967296) (hI : Rd .i64 w w.heap.size A n xs) (hr : ∀ x ∈ xs, -9223372036854775808 ≤ x ∧ x ≤ 9223372036854775807) :
    Calls Try.prog 7 #[.int .u32 x, .slice A n c] w fun e w' => e = .returned (.bool true) ∧ Below w.heap.size w w' := by
  have hk := Lib.hid (fun (u : World) (h : Below w.heap.size w u) => (known_any (w := u)).mono (R' := fun e w' => e = .returned (.bool true) ∧ Below w.heap.size w w') (fun e w' he => ⟨he.1, h.trans (he.2.mono h.size)⟩))
  by_cases hn : n ≤ 3000
  · obtain ⟨v, hvx, hv⟩ := nat_of hx
    have h1 := Lib.hid (topi_any (c := c) hvx.symm hv hI (by omega) hr)
    have h2 := Lib.hid (fun (u : World) (hb : Below w.heap.size w u) => refAlli_any (c := c) hvx.symm hv (hI.step hb) hn hr)
    have hle := scriS_len (v := v) (xs := xs) hn
    obtain ⟨l, hl⟩ : ∃ l, (scriS v xs n).1.length = l := ⟨_, rfl⟩
    rw [hl] at hle
    have hS := Lib.hid (fun (u : World) (A A' : Option Addr) (c c' : Nat) (r : List Int) (h : Rd .i64 u u.heap.size A l r) (h' : Rd .i64 u u.heap.size A' l r) => sameI_true (c := c) (c' := c') h h' (by omega))
    generalize scriS v xs n = p at *
    obtain ⟨r, er⟩ := p
    have hl2 := Lib.hid (show r.length = l from hl)
    have hn2 : (n : Int) ≤ 3000 := by omega
    clear hvx hv hx hI hr hle hl hn
    go_enter Try.func7, Try.ntmps7
    go_wp2_with fail
    refine h1.out.mono ?_
    intro e w1 h
    obtain ⟨A1, c1, rfl, ho1, hb1⟩ := h.got hl2.out
    have hr1 := Rd.of_own ho1
    clear h1 h ho1
    go_wp2_with fail
    refine (h2.out _ hb1).mono ?_
    intro e w2 h
    obtain ⟨A2, c2, rfl, ho2, hb2⟩ := h.got hl2.out
    have hr2 := Rd.of_own ho2
    replace hr1 := hr1.step hb2
    replace hb2 := hb1.trans (hb2.mono hb1.size)
    clear h2 h ho2 hb1
    go_wp2_with fail
    refine (hS.out _ _ _ c1 c2 _ hr1 hr2).mono ?_
    rintro e w3 ⟨rfl, hb3⟩
    replace hb3 := hb2.trans (hb3.mono hb2.size)
    clear hS hb2 hr1 hr2
    go_wp2_with fail
    refine (hk.out _ hb3).mono ?_
    rintro e w4 ⟨rfl, hb4⟩
    go_wp2_with fail
    go_ret
    exact ⟨rfl, hb4⟩
  · have hn2 : 3000 < (n : Int) := by omega
    clear hn hI hx hr
    go_enter Try.func7, Try.ntmps7
    go_wp2_with fail
    refine (hk.out _ (Below.refl _ _)).mono ?_
    rintro e w2 ⟨rfl, hb⟩
    go_wp2_with fail
    go_ret
    exact ⟨rfl, hb⟩
end Go.Proofs.Ytofcjcmbbkiaaaa
