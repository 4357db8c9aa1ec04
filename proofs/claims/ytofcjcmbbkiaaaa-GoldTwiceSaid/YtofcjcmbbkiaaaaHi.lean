/-
  The reference's ScrambleSoft.
-/
import Derived.Test.YtofcjcmbbkiaaaaGe
import Derived.Test.YtofcjcmbbkiaaaaH1
namespace Go.Proofs.Ytofcjcmbbkiaaaa
open Go.RowKit

theorem refi_eq {v n : Nat} {xs : List Int} (hl : xs.length = n) (hr : ∀ x ∈ xs, -9223372036854775808 ≤ x ∧ x ≤ 9223372036854775807) (hx : xs.any badi = false) : mapN (scri v xs) n = mapN (fun i => at_ xs i * (1 - 2 * goldI v i)) n := by
  refine mapN_congr fun i hi => ?_
  have hm : at_ xs i ∈ xs := by
    unfold at_
    rw [List.getElem?_eq_getElem (by omega)]
    exact List.getElem_mem _
  have h1 := List.any_eq_false.1 hx _ hm
  have h2 := hr _ hm
  have h3 := goldN_le v i
  have h4 : goldI v i = 0 ∨ goldI v i = 1 := by unfold goldI; omega
  unfold scri
  unfold badi at h1
  simp only [Bool.or_eq_true, decide_eq_true_eq] at h1
  rcases h4 with h4 | h4
  · rw [if_neg (by omega), h4]
    omega
  · rw [if_pos h4, h4]
    omega
set_option maxRecDepth 100000 in
set_option maxHeartbeats 4000000 in
theorem refBigi_any {A : Option Addr} {n c : Nat} {x : Int} {w : World} (hx : 2147483648 ≤ x ∧ x < 4294967296) :
    Calls Try.prog 22 #[.int .u32 x, .slice A n c] w (RetQ .i64 3 w ([], 2)) := by
  have h1 := hx.1
  clear hx
  go_enter Try.func22, Try.ntmps22
  go_wp2_with fail
  go_ret2
  exact RetQ.nil_ (Below.refl _ _)
set_option maxRecDepth 100000 in
set_option maxHeartbeats 4000000 in
theorem refi_any {A : Option Addr} {n c v : Nat} {x : Int} {xs : List Int} {w : World} (hvx : (v : Int) = x) (hv : v < 2147483648) (hI : Rd .i64 w w.heap.size A n xs) (hn : n ≤ 3000) (hr : ∀ x ∈ xs, -9223372036854775808 ≤ x ∧ x ≤ 9223372036854775807) :
    Calls Try.prog 22 #[.int .u32 x, .slice A n c] w (RetQ .i64 3 w (scriS v xs n)) := by
  have hex : exI v n = 0 := by unfold exI; rw [if_pos hv, if_neg (by omega)]
  have q1 : x < 2147483648 := by omega
  have q2 : (n : Int) ≤ 131072 := by omega
  have hl := Lib.hid hI.len
  have HX := Lib.hid hr
  have hres := Lib.hid (fun hx => (scriS_ok hex hx).trans (by rw [refi_eq (v := v) hl.out hr hx]))
  have hbadr := Lib.hid (fun hx => scriS_bad (v := v) (n := n) (xs := xs) hex hx)
  have hst := Lib.hid (fun u : World => refSeq_any (m := n) (w := u) hv (by omega))
  rw [hvx] at hst
  have hn6 := Lib.hid (show n < 100000 by omega)
  obtain ⟨i0, hi0, hz0, hz1, hz2⟩ := info_q Try.info_int
  clear hr hvx hv hex
  go_enter Try.func22, Try.ntmps22
  go_wp2_with fail
  go_loopw [6] (fun i wr => ∃ k : Nat, k ≤ n ∧ i = .int .i64 k ∧ Hid ((xs.take k).any badi = false) ∧ wr = w) (fun i _ => n - (intOf i).toNat)
  case atStart => exact ⟨0, Nat.zero_le _, rfl, Lib.hid rfl, rfl⟩
  case round =>
    obtain ⟨k, hk, rfl, hv, rfl⟩ := hrel
    by_cases hlt : k < n
    · obtain ⟨b, off, rfl, hb1, hc⟩ := hI.cells k hlt
      have hT := Lib.hid (take_snoc xs k (by rw [hl.out]; exact hlt) 0)
      have hmem : xs[k]?.getD 0 ∈ xs := by
        rw [List.getElem?_eq_getElem (by rw [hl.out]; exact hlt)]
        exact List.getElem_mem _
      have hE := Lib.hid (show ∀ x, xs[k]?.getD 0 = x → badi x = true → xs.any badi = true from fun x hx hb => List.any_eq_true.2 ⟨_, hmem, by rw [hx]; exact hb⟩)
      have hr := HX.out _ hmem
      generalize hgx : xs[k]?.getD 0 = x at *
      have hE2 := Lib.hid (hE.out x rfl)
      have hk0 : (0 : Int) ≤ (k : Int) := by omega
      have hk1 : (k : Int) < (n : Int) := by omega
      clear hE hmem hb1
      cases hbd : badi x with
      | true =>
        have hA := hE2.out hbd
        have hRES := Lib.hid (hbadr.out hA)
        unfold badi at hbd
        have hb2 : x < -127 ∨ 127 < x := by simpa using hbd
        clear hE2 hT hv hgx hA hbd hr
        by_cases hb3 : x < -127
        · go_wp2_with fail
          go_ret2
          rw [hRES.out]
          exact RetQ.nil_ (Below.refl _ _)
        · have hb4 : 127 < x := by omega
          go_wp2_with fail
          go_ret2
          rw [hRES.out]
          exact RetQ.nil_ (Below.refl _ _)
      | false =>
        have hA : Hid ((xs.take (k + 1)).any badi = false) := Lib.hid (by rw [hT.out, List.any_append, hv.out]; simp [hbd])
        unfold badi at hbd
        have hb2 : ¬ (x < -127) ∧ ¬ (127 < x) := by simpa using hbd
        obtain ⟨hb3, hb4⟩ := hb2
        clear hbd
        clear hE2 hT hv hgx
        go_wp2_with fail
        go_roundw
        case rel => exact ⟨k + 1, by omega, by go_num, hA, by trivial⟩
        case measure => simp [intOf]; omega
    · obtain rfl : k = n := by omega
      clear hlt
      rw [List.take_of_length_le (Nat.le_of_eq hl.out)] at hv
      have hRES := Lib.hid (hres.out hv.out)
      have hgood := Lib.hid (List.any_eq_false.1 hv.out)
      go_wp2_with fail
      refine (hst.out _).mono ?_
      rintro e ws ⟨⟨A2, c2, rfl, ho2⟩, hbs⟩
      have hR2 := Rd.of_own ho2
      have hR1 := hI.below hbs
      clear ho2 hst hv
      go_wp2_with fail
      go_loopw [8, 9] (fun p s u => ∃ (j : Nat) (A3 : Option Addr) (c3 : Nat), j ≤ k ∧ s = .int .i64 j ∧ p = .slice A3 j c3 ∧ Hid (u.ownsRow ws.heap.size 3 1 (.slice A3 j c3) j ((mapN (fun i => at_ xs i * (1 - 2 * goldI v i)) j).map (Value.int .i64))) ∧ Hid (Below ws.heap.size ws u)) (fun _ s _ => k - (intOf s).toNat)
      case atStart => exact ⟨0, none, 0, Nat.zero_le _, rfl, rfl, Lib.hid (World.ownsRow_nil _ _ _ _), Lib.hid (Below.refl _ _)⟩
      case round =>
        rename World => u
        obtain ⟨j, A3, c3, hj, rfl, rfl, hO, hB⟩ := hrel
        by_cases hjt : j < k
        · obtain ⟨b, off, hAe, hb1, hc1⟩ := (hR1.below' hB.out hbs.size).cells j hjt
          obtain ⟨b2, off2, hAe2, hb2, hc2⟩ := (hR2.below hB.out).cells j hjt
          rw [show (goldL v k)[j]?.getD 0 = goldI v j from goldL_at hjt] at hc2
          have hc1' : u.cell? ⟨b, off + j, none⟩ = some (.int .i64 (at_ xs j)) := hc1
          have hmem : at_ xs j ∈ xs := by
            unfold at_
            rw [List.getElem?_eq_getElem (by rw [hl.out]; exact hjt)]
            exact List.getElem_mem _
          have hgx := hgood.out _ hmem
          have hrx := HX.out _ hmem
          have hy : goldI v j = 0 ∨ goldI v j = 1 := by have := goldN_le v j; unfold goldI; omega
          have hT := Lib.hid (mapN_succ (fun i => at_ xs i * (1 - 2 * goldI v i)) j)
          unfold badi at hgx
          simp only [Bool.or_eq_true, decide_eq_true_eq] at hgx
          generalize at_ xs j = x at *
          generalize goldI v j = y at *
          clear hc1
          obtain ⟨z, hz⟩ : ∃ z, x * (1 - 2 * y) = z := ⟨_, rfl⟩
          rw [hz] at hT
          have u0 : IntKind.i64.wrap y = y := IntWalk.i64_in _ (by omega)
          have u1 : IntKind.i64.wrap (2 * y) = 2 * y := IntWalk.i64_in _ (by omega)
          have u2 : IntKind.i64.wrap (1 - 2 * y) = 1 - 2 * y := IntWalk.i64_in _ (by omega)
          have u3 : IntKind.i64.wrap (x * (1 - 2 * y)) = z := by rcases hy with rfl | rfl <;> (rw [IntWalk.i64_in _ (by omega)]; exact hz)
          have hk0 : (0 : Int) ≤ (j : Int) := by omega
          have hk1 : (j : Int) < (k : Int) := by omega
          have hbn : some b ≠ (Value.slice A3 j c3).ownBlock := fun e => by have := (hO.out.lt b e.symm).1; have := hbs.size; omega
          have hbn2 : some b2 ≠ (Value.slice A3 j c3).ownBlock := fun e => by have := (hO.out.lt b2 e.symm).1; omega
          have hsz : ws.heap.size ≤ u.heap.size := hB.out.size
          have q3 : b < u.heap.size + 1 := by have := hbs.size; omega
          have q4 : b2 < u.heap.size + 1 := by omega
          subst hAe hAe2
          clear hz hy hgx hrx hmem hb1 hb2
          go_wp2_with fail
          go_region_held3 (fun w' => w'.cell? ⟨b, off + j, none⟩ = some (.int .i64 x) ∧ w'.cell? ⟨b2, off2 + j, none⟩ = some (.int .u8 y))
            (first
              | go_keep
              | (go_split_ands
                 refine ⟨?_, ?_⟩
                 · (rw [hgrow.cell_far _ (by simp; omega) hbn]; assumption)
                 · (rw [hgrow.cell_far _ (by simp; omega) hbn2]; assumption)))
            ((refine step_append_lies _ (by rfl) _ _ _ (by rfl) ws.heap.size 3 i0 _ 1 8 Try.underlying39 hi0 hz0 hz1 hz2 rfl (by omega) (.slice A3 j c3) j _ (by rfl) ((hO.out.alloc _).drew)
                  ⟨u.heap.size, 0, none⟩ 1 1 [.int .i64 z] (by rfl) (by rfl) (World.news_of_block (cs := #[.int .i64 z]) (t := 3) (fr := (0, 0)) (heap_alloc_new u _)) (by simp [Value.oneCell'])
                  (by omega) (by unfold maxLen; omega) (by omega) (by simp; omega) (u.heap.size + 1) (by simp) ?_; intro gg cap w3 hown3 hgrow hat hlt3))
          have hB3 : Below ws.heap.size ws w3 := (hB.out.alloc hB.out.size _).drew.grown hgrow (by simp; omega) (fun g hg => (hO.out.lt g hg).1)
          have hO3 : Hid (w3.ownsRow ws.heap.size 3 1 (.slice (some ⟨gg, 0, none⟩) (j + 1) cap) (j + 1) ((mapN (fun i => at_ xs i * (1 - 2 * goldI v i)) (j + 1)).map (Value.int .i64))) := Lib.hid (by rw [hT.out, List.map_append]; exact hown3)
          have HB3 := Lib.hid hB3
          clear hown3 hgrow hB3 hO hB
          go_wp2_with fail
          go_roundw
          case rel => exact ⟨j + 1, some ⟨gg, 0, none⟩, cap, by omega, by go_num, rfl, hO3, HB3⟩
          case measure => simp [intOf]; omega
        · obtain rfl : j = k := by omega
          clear hjt
          go_wp2_with fail
          go_ret2
          rw [hRES.out]
          exact RetQ.mk_ (mapN_length _ _) (hO.out.mono hbs.size) (hbs.trans (hB.out.mono hbs.size))
end Go.Proofs.Ytofcjcmbbkiaaaa
