/-
  GoldTwice: scrambling twice restores; the walk of the law.
-/
import Derived.Test.YtofcjcmbbkiaaaaL6
namespace Go.Proofs.Ytofcjcmbbkiaaaa
open Go.RowKit

theorem twiceb {v n : Nat} {xs : List Int} (hl : xs.length = n) (hr : ∀ x ∈ xs, 0 ≤ x ∧ x ≤ 255) (hok : (scrbS v xs n).2 = 0) :
    (scrbS v xs n).1.length = n ∧ (∀ x ∈ (scrbS v xs n).1, 0 ≤ x ∧ x ≤ 255) ∧ scrbS v (scrbS v xs n).1 n = (xs, 0) := by
  by_cases he : exI v n = 0
  · cases hb : xs.any badb with
    | true => rw [scrbS_bad he hb] at hok; exact absurd hok (by decide)
    | false =>
      rw [scrbS_ok he hb]
      have hg : ∀ i, i < n → badb (at_ xs i) = false := fun i hi => by
        have hm : at_ xs i ∈ xs := by
          unfold at_
          rw [List.getElem?_eq_getElem (by omega)]
          exact List.getElem_mem _
        simpa using List.any_eq_false.1 hb _ hm
      have hR : ∀ i, i < n → (fun x : Int => 0 ≤ x ∧ x ≤ 255) (at_ xs i) := fun i hi => hr _ (by
        unfold at_
        rw [List.getElem?_eq_getElem (by omega)]
        exact List.getElem_mem _)
      have hbit : ∀ i, goldI v i = 0 ∨ goldI v i = 1 := fun i => by have := goldN_le v i; unfold goldI; omega
      have hel : ∀ i, i < n → (badb (scrb v xs i) = false ∧ (fun x : Int => 0 ≤ x ∧ x ≤ 255) (scrb v xs i)) := fun i hi => by
        have h1 := hg i hi
        have h2 := hR i hi
        simp only [] at h2
        unfold scrb
        generalize at_ xs i = y at *
        unfold badb at *
        simp only [decide_eq_false_iff_not] at h1 ⊢
        split
        · omega
        · omega
      refine ⟨mapN_length _ _, fun x hx => ?_, ?_⟩
      · obtain ⟨i, hi, rfl⟩ := List.mem_map.1 hx
        exact (hel i (by simpa using hi)).2
      · have hb2 : (mapN (scrb v xs) n).any badb = false := by
          rw [List.any_eq_false]
          intro x hx
          obtain ⟨i, hi, rfl⟩ := List.mem_map.1 hx
          simp [(hel i (by simpa using hi)).1]
        rw [scrbS_ok he hb2]
        have e : mapN (scrb v (mapN (scrb v xs) n)) n = xs := by
          conv => rhs; rw [← mapN_self xs, hl]
          refine mapN_congr fun i hi => ?_
          have h3 := mapN_at (Y := scrb v xs) hi
          unfold scrb at h3 ⊢
          rw [h3]
          rcases hbit i with h4 | h4 <;> simp [h4]
          omega
        rw [e]
  · rw [scrbS_err he] at hok
    exact absurd hok he
theorem twicei {v n : Nat} {xs : List Int} (hl : xs.length = n) (hr : ∀ x ∈ xs, -9223372036854775808 ≤ x ∧ x ≤ 9223372036854775807) (hok : (scriS v xs n).2 = 0) :
    (scriS v xs n).1.length = n ∧ (∀ x ∈ (scriS v xs n).1, -9223372036854775808 ≤ x ∧ x ≤ 9223372036854775807) ∧ scriS v (scriS v xs n).1 n = (xs, 0) := by
  by_cases he : exI v n = 0
  · cases hb : xs.any badi with
    | true => rw [scriS_bad he hb] at hok; exact absurd hok (by decide)
    | false =>
      rw [scriS_ok he hb]
      have hg : ∀ i, i < n → badi (at_ xs i) = false := fun i hi => by
        have hm : at_ xs i ∈ xs := by
          unfold at_
          rw [List.getElem?_eq_getElem (by omega)]
          exact List.getElem_mem _
        simpa using List.any_eq_false.1 hb _ hm
      have hR : ∀ i, i < n → (fun x : Int => -9223372036854775808 ≤ x ∧ x ≤ 9223372036854775807) (at_ xs i) := fun i hi => hr _ (by
        unfold at_
        rw [List.getElem?_eq_getElem (by omega)]
        exact List.getElem_mem _)
      have hbit : ∀ i, goldI v i = 0 ∨ goldI v i = 1 := fun i => by have := goldN_le v i; unfold goldI; omega
      have hel : ∀ i, i < n → (badi (scri v xs i) = false ∧ (fun x : Int => -9223372036854775808 ≤ x ∧ x ≤ 9223372036854775807) (scri v xs i)) := fun i hi => by
        have h1 := hg i hi
        have h2 := hR i hi
        simp only [] at h2
        unfold scri
        generalize at_ xs i = y at *
        unfold badi at *
        simp only [Bool.or_eq_false_iff, decide_eq_false_iff_not] at h1 ⊢
        split
        · omega
        · omega
      refine ⟨mapN_length _ _, fun x hx => ?_, ?_⟩
      · obtain ⟨i, hi, rfl⟩ := List.mem_map.1 hx
        exact (hel i (by simpa using hi)).2
      · have hb2 : (mapN (scri v xs) n).any badi = false := by
          rw [List.any_eq_false]
          intro x hx
          obtain ⟨i, hi, rfl⟩ := List.mem_map.1 hx
          simp [(hel i (by simpa using hi)).1]
        rw [scriS_ok he hb2]
        have e : mapN (scri v (mapN (scri v xs) n)) n = xs := by
          conv => rhs; rw [← mapN_self xs, hl]
          refine mapN_congr fun i hi => ?_
          have h3 := mapN_at (Y := scri v xs) hi
          unfold scri at h3 ⊢
          rw [h3]
          rcases hbit i with h4 | h4 <;> simp [h4]
          
        rw [e]
  · rw [scriS_err he] at hok
    exact absurd hok he
/-- The two results of a pair of calls. -/
def Back (p q : List Int × Int) (xs : List Int) : Prop := (p.2 = 0 ∧ q = (xs, 0)) ∨ (p.2 == 0) = false
set_option maxRecDepth 100000 in
set_option maxHeartbeats 4000000 in
theorem twice_walk {A A' : Option Addr} {n c m c' : Nat} {x : Int} {xs ys : List Int} {w : World} (hx : 0 ≤ x ∧ x < 4294967296) (hI : Rd .u8 w w.heap.size A n xs) (hr : ∀ x ∈ xs, 0 ≤ x ∧ x ≤ 255)
    (hJ : Rd .i64 w w.heap.size A' m ys) (hs : ∀ x ∈ ys, -9223372036854775808 ≤ x ∧ x ≤ 9223372036854775807) :
    Calls Try.prog 8 #[.int .u32 x, .slice A n c, .slice A' m c'] w fun e w' => e = .returned (.bool true) ∧ Below w.heap.size w w' := by
  have hk := Lib.hid (fun (u : World) (h : Below w.heap.size w u) => (known_any (w := u)).mono (R' := fun e w' => e = .returned (.bool true) ∧ Below w.heap.size w w') (fun e w' he => ⟨he.1, h.trans (he.2.mono h.size)⟩))
  by_cases hnm : n ≤ 3000 ∧ m ≤ 3000
  · obtain ⟨hn, hm⟩ := hnm
    obtain ⟨v, hvx, hv⟩ := nat_of hx
    obtain ⟨p, hp⟩ : ∃ p, scrbS v xs n = p := ⟨_, rfl⟩
    obtain ⟨q, hq⟩ : ∃ q, scriS v ys m = q := ⟨_, rfl⟩
    have lp : p.1.length ≤ 3000 := by rw [← hp]; exact scrbS_len hn
    have lq : q.1.length ≤ 3000 := by rw [← hq]; exact scriS_len hm
    have rp : ∀ x ∈ p.1, 0 ≤ x ∧ x ≤ 255 := by
      by_cases h0 : p.2 = 0
      · rw [← hp] at h0 ⊢; exact (twiceb hI.len hr h0).2.1
      · have : p.1 = [] := by
          rw [← hp] at h0 ⊢
          unfold scrbS at h0 ⊢
          split
          · rfl
          · rename_i h1
            rw [if_neg h1] at h0
            split
            · rfl
            · rename_i h2
              rw [if_neg h2] at h0
              exact absurd rfl h0
        rw [this]; simp
    have rq : ∀ x ∈ q.1, -9223372036854775808 ≤ x ∧ x ≤ 9223372036854775807 := by
      by_cases h0 : q.2 = 0
      · rw [← hq] at h0 ⊢; exact (twicei hJ.len hs h0).2.1
      · have : q.1 = [] := by
          rw [← hq] at h0 ⊢
          unfold scriS at h0 ⊢
          split
          · rfl
          · rename_i h1
            rw [if_neg h1] at h0
            split
            · rfl
            · rename_i h2
              rw [if_neg h2] at h0
              exact absurd rfl h0
        rw [this]; simp
    obtain ⟨p2, hp2⟩ : ∃ p2, scrbS v p.1 p.1.length = p2 := ⟨_, rfl⟩
    obtain ⟨q2, hq2⟩ : ∃ q2, scriS v q.1 q.1.length = q2 := ⟨_, rfl⟩
    have bp : Back p p2 xs := by
      by_cases h0 : p.2 = 0
      · refine .inl ⟨h0, ?_⟩
        rw [← hp] at h0 hp2
        obtain ⟨e1, _, e3⟩ := twiceb hI.len hr h0
        rw [e1, e3] at hp2
        exact hp2.symm
      · exact .inr (by simpa using h0)
    have bq : Back q q2 ys := by
      by_cases h0 : q.2 = 0
      · refine .inl ⟨h0, ?_⟩
        rw [← hq] at h0 hq2
        obtain ⟨e1, _, e3⟩ := twicei hJ.len hs h0
        rw [e1, e3] at hq2
        exact hq2.symm
      · exact .inr (by simpa using h0)
    have h1 := Lib.hid (topb_any (c := c) hvx.symm hv hI (by omega) hr)
    rw [hp] at h1
    have h2 := Lib.hid (fun (u : World) (A1 : Option Addr) (c1 : Nat) (h : Rd .u8 u u.heap.size A1 p.1.length p.1) => topb_any (c := c1) hvx.symm hv h (by omega) rp)
    rw [hp2] at h2
    have h3 := Lib.hid (fun (u : World) (hb : Below w.heap.size w u) => topi_any (c := c') hvx.symm hv (hJ.step hb) (by omega) hs)
    rw [hq] at h3
    have h4 := Lib.hid (fun (u : World) (A1 : Option Addr) (c1 : Nat) (h : Rd .i64 u u.heap.size A1 q.1.length q.1) => topi_any (c := c1) hvx.symm hv h (by omega) rq)
    rw [hq2] at h4
    have hS := Lib.hid (fun (u : World) (A1 : Option Addr) (c1 : Nat) (hb : Below w.heap.size w u) (h : Rd .u8 u u.heap.size A1 n xs) => same_true (c := c1) (c' := c) h (hI.step hb) (by omega))
    have hT := Lib.hid (fun (u : World) (A1 : Option Addr) (c1 : Nat) (hb : Below w.heap.size w u) (h : Rd .i64 u u.heap.size A1 m ys) => sameI_true (c := c1) (c' := c') h (hJ.step hb) (by omega))
    have hxl := hI.len
    have hyl := hJ.len
    have n3 : (n : Int) ≤ 3000 := by omega
    have m3 : (m : Int) ≤ 3000 := by omega
    clear hp hq hp2 hq2 lp lq rp rq hvx hv hx hI hJ hr hs hn hm
    obtain ⟨pl, pe⟩ := p
    obtain ⟨ql, qe⟩ := q
    obtain ⟨pl2, pe2⟩ := p2
    obtain ⟨ql2, qe2⟩ := q2
    simp only [] at h1 h2 h3 h4
    obtain ⟨l1, hl1⟩ : ∃ l, pl.length = l := ⟨_, rfl⟩
    obtain ⟨l2, hl2⟩ : ∃ l, pl2.length = l := ⟨_, rfl⟩
    obtain ⟨l3, hl3⟩ : ∃ l, ql.length = l := ⟨_, rfl⟩
    obtain ⟨l4, hl4⟩ : ∃ l, ql2.length = l := ⟨_, rfl⟩
    rw [hl1] at h2
    rw [hl3] at h4
    have HL1 := Lib.hid hl1; have HL2 := Lib.hid hl2; have HL3 := Lib.hid hl3; have HL4 := Lib.hid hl4
    unfold Back at bp bq
    simp only [Prod.mk.injEq] at bp bq
    rcases bp with ⟨rfl, rfl, rfl⟩ | bp <;> rcases bq with ⟨rfl, rfl, rfl⟩ | bq
    all_goals
      first
        | (have bq2 : (qe != 0) = true := by simpa [bne] using bq)
        | skip
    all_goals
      first
        | (have e2 : l2 = n := by omega
           subst e2)
        | skip
    all_goals
      first
        | (have e4 : l4 = m := by omega
           subst e4)
        | skip
    all_goals
      clear hl1 hl2 hl3 hl4 hxl hyl
      go_enter Try.func8, Try.ntmps8
      go_wp2_with fail
      refine h1.out.mono ?_
      intro e w1 h
      obtain ⟨A1, c1, rfl, ho1, hb1⟩ := h.got HL1.out
      have hr1 := Rd.of_own ho1
      clear h1 h ho1
      go_wp2_with fail
      refine (h2.out _ _ c1 hr1).mono ?_
      intro e w2 h
      obtain ⟨A2, c2, rfl, ho2, hb2⟩ := h.got HL2.out
      have hr2 := Rd.of_own ho2
      replace hb2 := hb1.trans (hb2.mono hb1.size)
      clear h2 h ho2 hb1 hr1
      go_wp2_with fail
      refine (h3.out _ hb2).mono ?_
      intro e w3 h
      obtain ⟨A3, c3, rfl, ho3, hb3⟩ := h.got HL3.out
      have hr3 := Rd.of_own ho3
      replace hr2 := hr2.step hb3
      replace hb3 := hb2.trans (hb3.mono hb2.size)
      clear h3 h ho3 hb2
      go_wp2_with fail
      refine (h4.out _ _ c3 hr3).mono ?_
      intro e w4 h
      obtain ⟨A4, c4, rfl, ho4, hb4⟩ := h.got HL4.out
      have hr4 := Rd.of_own ho4
      replace hr2 := hr2.step hb4
      replace hb4 := hb3.trans (hb4.mono hb3.size)
      clear h4 h ho4 hb3 hr3
    · go_wp2_with fail
      refine (hS.out _ _ c2 hb4 hr2).mono ?_
      rintro e w5 ⟨rfl, hb5⟩
      replace hr4 := hr4.step hb5
      replace hb5 := hb4.trans (hb5.mono hb4.size)
      clear hb4
      go_wp2_with fail
      refine (hT.out _ _ c4 hb5 hr4).mono ?_
      rintro e w6 ⟨rfl, hb6⟩
      replace hb6 := hb5.trans (hb6.mono hb5.size)
      clear hb5
      go_wp2_with fail
      refine (hk.out _ hb6).mono ?_
      rintro e w9 ⟨rfl, hb9⟩
      go_wp2_with fail
      go_ret
      exact ⟨rfl, hb9⟩
    · go_wp2_with fail
      refine (hS.out _ _ c2 hb4 hr2).mono ?_
      rintro e w5 ⟨rfl, hb5⟩
      replace hr4 := hr4.step hb5
      replace hb5 := hb4.trans (hb5.mono hb4.size)
      clear hb4
      go_wp2_with fail
      refine (hk.out _ hb5).mono ?_
      rintro e w9 ⟨rfl, hb9⟩
      go_wp2_with fail
      go_ret
      exact ⟨rfl, hb9⟩
    · go_wp2_with fail
      refine (hT.out _ _ c4 hb4 hr4).mono ?_
      rintro e w6 ⟨rfl, hb6⟩
      replace hb6 := hb4.trans (hb6.mono hb4.size)
      clear hb4
      go_wp2_with fail
      refine (hk.out _ hb6).mono ?_
      rintro e w9 ⟨rfl, hb9⟩
      go_wp2_with fail
      go_ret
      exact ⟨rfl, hb9⟩
    · go_wp2_with fail
      refine (hk.out _ hb4).mono ?_
      rintro e w9 ⟨rfl, hb9⟩
      go_wp2_with fail
      go_ret
      exact ⟨rfl, hb9⟩
  · have hc : 3000 < (n : Int) ∨ ((n : Int) ≤ 3000 ∧ 3000 < (m : Int)) := by omega
    clear hnm hI hJ hx hr hs
    rcases hc with hc | ⟨hc0, hc⟩
    all_goals
      go_enter Try.func8, Try.ntmps8
      go_wp2_with fail
      refine (hk.out _ (Below.refl _ _)).mono ?_
      rintro e w2 ⟨rfl, hb⟩
      go_wp2_with fail
      go_ret
      exact ⟨rfl, hb⟩
end Go.Proofs.Ytofcjcmbbkiaaaa
