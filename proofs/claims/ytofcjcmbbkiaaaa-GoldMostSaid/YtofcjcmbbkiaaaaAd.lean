/-
  The reference's Add; append of one element. (Out of stage 3's texts.)
-/
import Derived.Deep.AppendLies
import Derived.Test.YtofcjcmbbkiaaaaSm
namespace Go.Proofs.Ytofcjcmbbkiaaaa
open Go.RowKit

theorem append_one {w : World} {base : Nat} {A : Option Addr} {n c s : Nat} {xs : List Int} {x : Int} (hO : w.ownsRow base 5 1 (.slice A n c) n (xs.map (Value.int .u8))) (hn : n ≤ 2199023255552) (hb : base ≤ w.heap.size) (hs : s = w.heap.size) :
    ∃ A2 c2 w2, (Builtin.append_ #[30, 30] 30 #[.slice A n c, .slice (some ⟨s, 0, none⟩) 1 1]).run Try.prog (w.alloc (.cells #[.int .u8 x] 5)) = .ok (.slice A2 (n + 1) c2) w2 ∧
      w2.ownsRow base 5 1 (.slice A2 (n + 1) c2) (n + 1) ((xs ++ [x]).map (Value.int .u8)) ∧ (∀ B v, Below B v w → B ≤ base → B ≤ v.heap.size → Below B v w2) := by
  subst hs
  have hO' : (w.alloc (.cells #[.int .u8 x] 5)).ownsRow base 5 1 (.slice A n c) n (xs.map (Value.int .u8)) := hO.alloc _
  obtain ⟨A2, c2, w2, h1, h2, h3⟩ := more_run (c' := 1) hO' ((rd_lit w [x] 5).more (by simp)) hn (by simp) (by simp; omega)
  exact ⟨A2, c2, w2, h1, h2, fun B v h hB hv => h3 B v (h.alloc (Nat.le_trans hv h.size) _) hB hv⟩
theorem take_digits {f : Nat → Int} {N j : Nat} (h : j < N) : ((List.range N).map f).take (j + 1) = ((List.range N).map f).take j ++ [f j] := by
  rw [List.take_succ_eq_append_getElem (by simpa using h)]
  simp
/-- The reference's Add: elementwise, without a test of the elements. -/
def addL (xs ys : List Int) : List Int := (List.range xs.length).map fun i => bits .xor .u8 (xs[i]?.getD 0) (ys[i]?.getD 0)
theorem addL_length (xs ys : List Int) : (addL xs ys).length = xs.length := by simp [addL]
set_option maxHeartbeats 1000000 in
theorem add_any {A A' : Option Addr} {n c c' : Nat} {xs ys : List Int} {w : World} (h : Rd .u8 w w.heap.size A n xs) (h' : Rd .u8 w w.heap.size A' n ys) (hn : n ≤ 1000000) :
    Calls Try.prog 24 #[.slice A n c, .slice A' n c'] w fun e w' => (∃ A2 c2, e = .returned (.slice A2 n c2) ∧
      w'.ownsRow w.heap.size 5 1 (.slice A2 n c2) n ((addL xs ys).map (Value.int .u8))) ∧ Below w.heap.size w w' := by
  have hl := Lib.hid h.len
  obtain ⟨i0, hi, hz0, hz1, hz2⟩ := info_parts Try.info_u8
  go_enter Try.func24, Try.ntmps24
  go_wp2_with fail
  go_loopw [5, 6] (fun p i wr => ∃ (k : Nat) (A2 : Option Addr) (c2 : Nat), k ≤ n ∧ i = .int .i64 k ∧ p = .slice A2 k c2 ∧ Hid (wr.ownsRow w.heap.size 5 1 (.slice A2 k c2) k (((addL xs ys).take k).map (Value.int .u8))) ∧ Below w.heap.size w wr)
    (fun _ i _ => n - (intOf i).toNat)
  case atStart => exact ⟨0, none, 0, Nat.zero_le _, rfl, rfl, Lib.hid (by simpa using World.ownsRow_nil w w.heap.size 5 1), Below.refl _ _⟩
  case round =>
    obtain ⟨k, A2, c2, hk, rfl, rfl, hO, hB⟩ := hrel
    by_cases hlt : k < n
    · obtain ⟨b, off, rfl, hb1, hc⟩ := (h.below hB).cells k hlt
      obtain ⟨b', off', rfl, hb1', hc'⟩ := (h'.below hB).cells k hlt
      have hT : Hid ((addL xs ys).take (k + 1) = (addL xs ys).take k ++ [bits .xor .u8 (xs[k]?.getD 0) (ys[k]?.getD 0)]) := Lib.hid (take_digits (f := fun i => bits .xor .u8 (xs[i]?.getD 0) (ys[i]?.getD 0)) (by rw [hl.out]; exact hlt))
      generalize xs[k]?.getD 0 = x at *
      generalize ys[k]?.getD 0 = y at *
      have hk0 : (0 : Int) ≤ (k : Int) := by omega
      have hk1 : (k : Int) < (n : Int) := by omega
      obtain ⟨z, hz⟩ : ∃ z, bits .xor .u8 x y = z := ⟨_, rfl⟩
      rw [hz] at hT
      have hbn : some b ≠ (Value.slice A2 k c2).ownBlock := fun e => by have := (hO.out.lt b e.symm).1; omega
      have hbn' : some b' ≠ (Value.slice A2 k c2).ownBlock := fun e => by have := (hO.out.lt b' e.symm).1; omega
      have hbw : b < wr.heap.size := by have := hB.size; omega
      have hbw' : b' < wr.heap.size := by have := hB.size; omega
      have hsz := hB.size
      clear h h'
      go_wp2_with fail
      go_region_held3 (fun w' => w'.cell? ⟨b, off + k, none⟩ = some (.int .u8 x) ∧ w'.cell? ⟨b', off' + k, none⟩ = some (.int .u8 y))
        (first
          | go_keep
          | (go_split_ands
             refine ⟨?_, ?_⟩
             · (rw [hgrow.cell_far _ (by simp; omega) hbn]; assumption)
             · (rw [hgrow.cell_far _ (by simp; omega) hbn']; assumption)))
        ((refine step_append_lies _ (by rfl) _ _ _ (by rfl) w.heap.size 5 i0 _ 1 1 Try.underlying30 hi hz0 hz1 hz2 rfl (by omega) (.slice A2 k c2) k _ (by rfl) ((hO.out.alloc _).drew)
              ⟨wr.heap.size, 0, none⟩ 1 1 [.int .u8 z] (by rfl) (by rfl) (World.news_of_block (cs := #[.int .u8 z]) (t := 5) (fr := (0, 0)) (heap_alloc_new wr _)) (by simp [Value.oneCell'])
              (by omega) (by unfold maxLen; omega) (by omega) (by simp; omega) (wr.heap.size + 1) (by simp) ?_; intro gg cap w3 hown3 hgrow hat hlt3))
      have hB3 : Below w.heap.size w w3 := (hB.alloc hB.size _).drew.grown hgrow (by simp; omega) (fun g hg => (hO.out.lt g hg).1)
      have hO3 : Hid (w3.ownsRow w.heap.size 5 1 (.slice (some ⟨gg, 0, none⟩) (k + 1) cap) (k + 1) (((addL xs ys).take (k + 1)).map (Value.int .u8))) := Lib.hid (by rw [hT.out, List.map_append]; exact hown3)
      clear hown3 hgrow
      go_wp2_with fail
      go_roundw
      case rel => exact ⟨k + 1, some ⟨gg, 0, none⟩, cap, by omega, by go_num, rfl, hO3, hB3⟩
      case measure => simp [intOf]; omega
    · obtain rfl : k = n := by omega
      clear hlt h h'
      go_wp2_with fail
      go_ret
      have e : (addL xs ys).take k = addL xs ys := List.take_of_length_le (by rw [addL_length, hl.out]; exact Nat.le_refl _)
      rw [e] at hO
      exact ⟨⟨A2, c2, rfl, hO.out⟩, hB⟩
end Go.Proofs.Ytofcjcmbbkiaaaa
