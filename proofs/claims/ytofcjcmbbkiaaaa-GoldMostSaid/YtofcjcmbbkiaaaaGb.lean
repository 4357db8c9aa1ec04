/-
  Scramble of bits: the package's.
-/
import Derived.Test.YtofcjcmbbkiaaaaQ
namespace Go.Proofs.Ytofcjcmbbkiaaaa
open Go.RowKit

/-- No bit. -/
def badb (x : Int) : Bool := decide (1 < x)

theorem predb_any {x : Int} {w : World} (_ : 0 ≤ x ∧ x ≤ 255) : Calls Try.prog 32 #[.int .u8 x] w fun e w' => e = .returned (.bool (badb x)) ∧ w' = w := by
  go_enter Try.func32, Try.ntmps32
  go_wp2_with fail
  go_ret
  exact ⟨rfl, rfl⟩
theorem negb_any {x : Int} {w : World} (hx : badb x = false) (hr : 0 ≤ x ∧ x ≤ 255) : Calls Try.prog 34 #[.int .u8 x] w fun e w' => e = .returned (.int .u8 (1 - x)) ∧ w' = w := by
  have h1 : x ≤ 1 := by simpa [badb] using hx
  have h2 := hr.1
  clear hx hr
  go_enter Try.func34, Try.ntmps34
  go_wp2_with fail
  go_ret
  exact ⟨rfl, rfl⟩
set_option maxHeartbeats 1000000 in
theorem indexb_any {A : Option Addr} {n c : Nat} {xs : List Int} {w : World} (hI : Rd .u8 w w.heap.size A n xs) (hn : n ≤ 1000000) (hx : ∀ x ∈ xs, 0 ≤ x ∧ x ≤ 255) :
    Calls Try.prog 41 #[.slice A n c, .func (.func 32) #[] #[]] w fun e w' => (∃ i : Int, e = .returned (.int .i64 i) ∧ decide (0 ≤ i) = xs.any badb) ∧ w' = w := by
  have hl := Lib.hid hI.len
  have HX := Lib.hid hx
  clear hx
  go_enter Try.func41, Try.ntmps41
  go_wp2_with fail
  go_loopw [8] (fun i wr => ∃ k : Nat, k ≤ n ∧ i = .int .i64 k ∧ Hid ((xs.take k).any badb = false) ∧ wr = w) (fun i _ => n - (intOf i).toNat)
  case atStart => exact ⟨0, Nat.zero_le _, rfl, Lib.hid rfl, rfl⟩
  case round =>
    obtain ⟨k, hk, rfl, hv, rfl⟩ := hrel
    by_cases hlt : k < n
    · obtain ⟨b, off, rfl, hb1, hc⟩ := hI.cells k hlt
      have hT := Lib.hid (take_snoc xs k (by rw [hl.out]; exact hlt) 0)
      have hmem : xs[k]?.getD 0 ∈ xs := by
        rw [List.getElem?_eq_getElem (by rw [hl.out]; exact hlt)]
        exact List.getElem_mem _
      have hE := Lib.hid (show ∀ x, xs[k]?.getD 0 = x → badb x = true → xs.any badb = true from fun x hx hb => List.any_eq_true.2 ⟨_, hmem, by rw [hx]; exact hb⟩)
      have hr := HX.out _ hmem
      generalize hgx : xs[k]?.getD 0 = x at *
      have hE2 := Lib.hid (hE.out x rfl)
      have hk0 : (0 : Int) ≤ (k : Int) := by omega
      have hk1 : (k : Int) < (n : Int) := by omega
      have hp := Lib.hid (fun u : World => predb_any (w := u) hr)
      clear hE hr hmem hb1
      cases hbd : badb x with
      | true =>
        rw [hbd] at hp
        have hA := Lib.hid (hE2.out hbd)
        clear hE2 hbd hT hv hgx
        go_wp2_with fail
        refine (hp.out _).mono ?_
        rintro e w1 ⟨rfl, rfl⟩
        go_wp2_with fail
        go_ret
        exact ⟨⟨_, rfl, by rw [hA.out]; simp⟩, by trivial⟩
      | false =>
        rw [hbd] at hp
        have hA : Hid ((xs.take (k + 1)).any badb = false) := Lib.hid (by rw [hT.out, List.any_append, hv.out]; simp [hbd])
        clear hE2 hbd hT hv hgx
        go_wp2_with fail
        refine (hp.out _).mono ?_
        rintro e w1 ⟨rfl, rfl⟩
        go_wp2_with fail
        go_roundw
        case rel => exact ⟨k + 1, by omega, by go_num, hA, by trivial⟩
        case measure => simp [intOf]; omega
    · obtain rfl : k = n := by omega
      clear hlt
      rw [List.take_of_length_le (Nat.le_of_eq hl.out)] at hv
      clear hI
      go_wp2_with fail
      go_ret
      exact ⟨⟨_, rfl, by rw [hv.out]; rfl⟩, rfl⟩
theorem containsb_any {A : Option Addr} {n c : Nat} {xs : List Int} {w : World} (hI : Rd .u8 w w.heap.size A n xs) (hn : n ≤ 1000000) (hx : ∀ x ∈ xs, 0 ≤ x ∧ x ≤ 255) :
    Calls Try.prog 31 #[.slice A n c, .func (.func 32) #[] #[]] w fun e w' => e = .returned (.bool (xs.any badb)) ∧ w' = w := by
  have hi := Lib.hid (indexb_any (c := c) hI hn hx)
  clear hI hx
  go_enter Try.func31, Try.ntmps31
  go_wp2_with fail
  refine hi.out.mono ?_
  rintro e w1 ⟨⟨i, rfl, hd⟩, rfl⟩
  have HD := Lib.hid hd
  clear hd hi
  go_wp2_with fail
  go_ret
  exact ⟨ret_bool (by rw [← HD.out]), rfl⟩
set_option maxHeartbeats 1000000 in
theorem cloneb_any {A : Option Addr} {n c : Nat} {xs : List Int} {w : World} (hI : Rd .u8 w w.heap.size A n xs) (hn : n ≤ 1000000) :
    Calls Try.prog 42 #[.slice A n c] w fun e w' => (∃ A2 c2, e = .returned (.slice A2 n c2) ∧
      w'.ownsRow w.heap.size 5 1 (.slice A2 n c2) n (xs.map (Value.int .u8))) ∧ Below w.heap.size w w' := by
  obtain ⟨i0, hi, hz0, hz1, hz2⟩ := info_q Try.info_u8
  rcases A with _ | a
  · have hm : n = 0 := by
      rcases Nat.eq_zero_or_pos n with h0 | h0
      · exact h0
      · obtain ⟨_, _, h, _⟩ := hI.cells 0 h0
        cases h
    subst hm
    obtain rfl : xs = [] := List.eq_nil_of_length_eq_zero hI.len
    have hnil := fun (u : World) => Lib.run_eql_slice_nil (P := Try.prog) u 30 5 none 0 c 0 0 Try.underlying30
    go_enter Try.func42, Try.ntmps42
    go_wp2
    go_ret
    exact ⟨⟨none, 0, rfl, by simpa using World.ownsRow_nil w w.heap.size 5 1⟩, Below.refl _ _⟩
  · obtain ⟨A3, c3, w3, hrun, hown3, hB3⟩ := copy_run_q (P := Try.prog) (c := c) Try.underlying30 hi hz0 hz1 hz2 (by decide) hI hn
    have hO3 := Lib.hid hown3
    have hRun := Lib.hid hrun
    clear hown3 hrun
    have hnil := fun (u : World) => Lib.run_eql_slice_nil (P := Try.prog) u 30 5 (some a) n c 0 0 Try.underlying30
    go_enter Try.func42, Try.ntmps42
    go_wp2_with (at_builtin; refine Lib.wpList_append_run _ rfl _ _ _ _ rfl _ _ rfl rfl _ _ hRun.out ?_)
    go_ret
    exact ⟨⟨A3, c3, rfl, hO3.out⟩, hB3⟩
/-- What scrambling makes of element i. -/
def scrb (v : Nat) (xs : List Int) (i : Nat) : Int := if goldI v i = 1 then 1 - at_ xs i else at_ xs i
set_option maxHeartbeats 2000000 in
theorem scrambleb_any {A : Option Addr} {n c v : Nat} {x : Int} {xs : List Int} {w : World} (hvx : (v : Int) = x) (hv : v < 2147483648) (hI : Rd .u8 w w.heap.size A n xs) (hn : n ≤ 131072) (hr : ∀ x ∈ xs, 0 ≤ x ∧ x ≤ 255) (hx : xs.any badb = false) :
    Calls Try.prog 33 #[.int .u32 x, .slice A n c, .func (.func 34) #[] #[]] w fun e w' => (∃ A2 c2, e = .returned (.slice A2 n c2) ∧
      w'.ownsRow w.heap.size 5 1 (.slice A2 n c2) n ((mapN (scrb v xs) n).map (Value.int .u8))) ∧ Below w.heap.size w w' := by
  have hl := Lib.hid hI.len
  have hxs : xs = mapN (at_ xs) n := by rw [← hl.out]; exact (mapN_self xs).symm
  have hcl := Lib.hid (cloneb_any (c := c) hI (by omega))
  have hst := Lib.hid (fun u : World => start_any (m := n) (w := u) hv (by omega))
  rw [hvx] at hst
  have hne := Lib.hid (show ∀ k, k < n → badb (at_ xs k) = false ∧ (fun x : Int => 0 ≤ x ∧ x ≤ 255) (at_ xs k) from fun k hk => by
    have hm : at_ xs k ∈ xs := by
      unfold at_
      rw [List.getElem?_eq_getElem (by rw [hl.out]; exact hk)]
      exact List.getElem_mem _
    refine ⟨?_, hr _ hm⟩
    have := List.any_eq_false.1 hx _ hm
    simpa using this)
  rw [hxs] at hcl
  have hg1 := Lib.hid (fun i => (goldN_le v i))
  clear hr hx hI hvx hv
  go_enter Try.func33, Try.ntmps33
  go_wp2_with fail
  refine hcl.out.mono ?_
  rintro e w1 ⟨⟨A1, c1, rfl, ho1⟩, hb1⟩
  clear hcl
  go_wp2_with fail
  refine (hst.out _).mono ?_
  rintro e w2 ⟨⟨A2, c2, rfl, ho2⟩, hb2⟩
  have hO1 := Lib.hid (own_step ho1 hb2)
  have hR2 := Rd.of_own ho2
  have hdis : ∀ b off, A2 = some ⟨b, off, none⟩ → 0 < n → w1.heap.size ≤ b := fun b off e h0 => (own_low ho2 h0 _ e).1
  have ho1lt : ∀ g, (Value.slice A1 n c1).ownBlock = some g → g < w1.heap.size := fun g hg => (ho1.lt g hg).2
  have hb := hb1.trans (hb2.mono hb1.size)
  clear ho1 ho2 hst
  go_wp2_with fail
  go_loopw [17] (fun i wr => ∃ k : Nat, k ≤ n ∧ i = .int .i64 k ∧ Hid (wr.ownsRow w.heap.size 5 1 (.slice A1 n c1) n ((mix (scrb v xs) (at_ xs) n k).map (Value.int .u8))) ∧ Hid (Rd .u8 wr wr.heap.size A2 n (goldL v n)) ∧ Hid (Below w.heap.size w wr))
    (fun i _ => n - (intOf i).toNat)
  case atStart => exact ⟨0, Nat.zero_le _, rfl, by rw [mix_zero]; exact hO1, Lib.hid hR2, Lib.hid hb⟩
  case round =>
    clear hO1 hR2 hb hb1 hb2
    obtain ⟨k, hk, rfl, hO, hR, hB⟩ := hrel
    by_cases hlt : k < n
    · obtain ⟨b, off, hAe, hb1, hc⟩ := hR.out.cells k hlt
      have hbw1 := hdis b off hAe (by omega)
      have hgk : (goldL v n)[k]?.getD 0 = goldI v k := goldL_at hlt
      rw [hgk] at hc
      obtain ⟨g0, cap0, hform, hg0, hg1'⟩ := hO.out.form (by omega)
      injection hform with e1 e2 e3
      subst e1 e3
      have hg0lt := ho1lt g0 rfl
      have hcx : wr.cell? ⟨g0, k, none⟩ = some (.int .u8 (at_ xs k)) := by
        rw [World.ownsRow.cellAt hO.out k (by omega)]
        rw [List.getElem?_map, mix_get hlt]
        rfl
      have hfx := World.ownsRow.frozenAt hO.out k
      obtain ⟨hbad, hrk⟩ := hne.out k hlt
      have hng := Lib.hid (fun u : World => negb_any (w := u) hbad hrk)
      have hk0 : (0 : Int) ≤ (k : Int) := by omega
      have hk1 : (k : Int) < (n : Int) := by omega
      by_cases h1 : goldI v k = 1
      · have hS : scrb v xs k = (let x := at_ xs k; 1 - x) := if_pos h1
        simp only [] at hS
        have hST := (World.ownsRow.stored hO.out k (.int .u8 (scrb v xs k))).1
        rw [← List.map_set, ← mix_set, hS] at hST
        have HST := Lib.hid hST
        rw [h1] at hc
        have hR3 : Rd .u8 (wr.setCell ⟨g0, k, none⟩ (.int .u8 (1 - at_ xs k))) (wr.setCell ⟨g0, k, none⟩ (.int .u8 (1 - at_ xs k))).heap.size A2 n (goldL v n) := by
          rw [World.size_setCell]
          refine hR.out.block fun a ha => Below.heap_setCell _ _ _ _ ?_
          subst ha
          obtain ⟨b', off', e, _, _⟩ := hR.out.cells k hlt
          injection e with e
          subst e
          have := hdis b' off' rfl (by omega)
          show b' ≠ g0
          omega
        have hB3 := hB.out.setCell (p := ⟨g0, k, none⟩) hg0 (.int .u8 (1 - at_ xs k))
        have HR3 := Lib.hid hR3; have HB3 := Lib.hid hB3
        generalize at_ xs k = y at *
        subst hAe
        clear hST hS hR3 hB3 hO hR hB hgk h1 hbad hrk hb1
        go_wp2_with fail
        refine (hng.out _).mono ?_
        rintro e w3 ⟨rfl, rfl⟩
        go_wp2_with fail
        go_roundw
        case rel => exact ⟨k + 1, by omega, by go_num, HST, HR3, HB3⟩
        case measure => simp [intOf]; omega
      · have hS : scrb v xs k = at_ xs k := if_neg h1
        have hO' := hO.out
        rw [← mix_same hS] at hO'
        have HO := Lib.hid hO'
        have hz : (goldI v k == 1) = false := by simpa using h1
        generalize goldI v k = y at *
        generalize at_ xs k = z at *
        subst hAe
        clear hO' hS hO hgk h1 hbad hrk hcx hng hb1
        go_wp2_with fail
        go_roundw
        case rel => exact ⟨k + 1, by omega, by go_num, HO, hR, hB⟩
        case measure => simp [intOf]; omega
    · obtain rfl : k = n := by omega
      clear hlt
      rw [mix_full] at hO
      go_wp2_with fail
      go_ret
      exact ⟨⟨A1, c1, rfl, hO.out⟩, hB.out⟩
end Go.Proofs.Ytofcjcmbbkiaaaa
