/-
  The reference of Each.
-/
import Derived.Test.YtkdodmjhpkfhnaaDoorRf
namespace Go.Proofs.YtkdodmjhpkfhnaaDoor
open Go.RowKit

/-- The sizes of the blocks. -/
def eachL (l : Lay) (k : Nat) : List Int := (List.range k).map fun i => (l.size i : Int)
theorem eachL_succ (l : Lay) (k : Nat) : eachL l (k + 1) = eachL l k ++ [(l.size k : Int)] := by simp [eachL, List.range_succ]
theorem eachL_length (l : Lay) (k : Nat) : (eachL l k).length = k := by simp [eachL]
theorem LayAt.grown {w w' : World} {B : Nat} {t : TypeId} {l : Lay} {row : Option Nat} (h : LayAt w B t l) (hg : w.grownBy w' row) (hne : some B ≠ row) : LayAt w' B t l := ⟨(hg.block B h.lt hne).trans h.heap⟩
/-- Where the loop is. -/
structure ReAt (w : World) (B : Nat) (l : Lay) (s k : Value) (w3 : World) : Prop where
  ex : ∃ (t : Nat) (A : Option Addr) (c : Nat), t ≤ l.blocks ∧ k = .int .i64 (t : Int) ∧ s = .slice A t c ∧ w3.ownsRow w.heap.size 3 1 (.slice A t c) t ((eachL l t).map (Value.int .i64)) ∧ Below w.heap.size w w3 ∧ LayAt w3 B 34 l
theorem LayAt.not_row {W : World} {B : Nat} {t e : TypeId} {l : Lay} (h : LayAt W B t l) (hte : t ≠ e) {base size k : Nat} {v : Value} {xs : List Value} (hr : W.ownsRow base e size v k xs) : some B ≠ v.ownBlock := by
  rcases hr.2 with ⟨rfl, _⟩ | ⟨g, cap, cur, rfl, _, hgb, _⟩
  · simp [Value.ownBlock]
  · intro e'
    simp only [Value.ownBlock, Option.some.injEq] at e'
    subst e'
    rw [h.heap] at hgb
    injection hgb with hgb
    injection hgb with _ h2
    exact hte h2
/-- append of one integer, beside a layout. -/
theorem ints_app_lay {w wr : World} {B n : Nat} {l : Lay} {A : Option Addr} {c : Nat} {xs : List Int} (hO : wr.ownsRow w.heap.size 3 1 (.slice A n c) n (xs.map (Value.int .i64))) (hb : Below w.heap.size w wr) (hL : LayAt wr B 34 l) (hn : n < 1000) (x : Int) :
    ∃ A2 c2 w2, (Builtin.append_ #[28, 28] 28 #[.slice A n c, .slice (some ⟨wr.heap.size, 0, none⟩) 1 1]).run Tryd.prog (wr.alloc (.cells #[.int .i64 x] 3)) = .ok (.slice A2 (n + 1) c2) w2 ∧
      w2.ownsRow w.heap.size 3 1 (.slice A2 (n + 1) c2) (n + 1) ((xs ++ [x]).map (Value.int .i64)) ∧ Below w.heap.size w w2 ∧ LayAt w2 B 34 l := by
  obtain ⟨i0, hi, hz0, hz1, hz2⟩ := info_q Tryd.info_int
  obtain ⟨A2, c2, w2, h1, h2, h3⟩ := append_one_q (P := Tryd.prog) (q := .i64) (x := x) Tryd.underlying28 hi hz0 hz1 hz2 (by decide) hO (by omega) hb.size
  exact ⟨A2, c2, w2, h1, h2, (hb.alloc hb.size _).grown h3 (by simp; have := hb.size; omega) (fun k hk => (hO.lt k hk).1), (hL.alloc _).grown h3 (hL.not_row (by decide) hO)⟩
set_option maxRecDepth 100000 in
set_option maxHeartbeats 2000000 in
theorem refEach_any {b : Int} {w : World} {l : Lay} {z : Int} (hl : planS b = (l, z)) (hbl : l.blocks ≤ 13) :
    Calls Tryd.prog 21 #[.int .i64 b] w fun e w' => ∃ A c, e = .returned (.slice A l.blocks c) ∧
      w'.ownsRow w.heap.size 3 1 (.slice A l.blocks c) l.blocks ((eachL l l.blocks).map (Value.int .i64)) ∧ Below w.heap.size w w' := by
  have hP := Lib.hid (refPlan_any (b := b) (w := w))
  rw [hl] at hP
  clear hl
  unfold layV layA at hP
  go_enter Tryd.func21, Tryd.ntmps21
  go_wp2_with fail
  refine hP.out.mono ?_
  rintro e w1 ⟨rfl, hb1⟩
  have hL := LayAt.new w1 34 l
  have hb2 := hb1.alloc hb1.size (.cells (layA l) 34)
  unfold layA at hb2 hL
  go_wp2_with fail
  generalize (w1.alloc (.cells #[.int .i64 l.bits, .int .i64 l.blocks, .int .i64 l.long, .int .i64 l.short, .int .i64 l.longs, .int .i64 l.shorts, .int .i64 l.filler] 34)) = W1 at *
  go_loopw [5, 6] (fun s k wr => ReAt w w1.heap.size l s k wr) (fun _ k _ => l.blocks - (intOf k).toNat)
  case atStart => exact ⟨⟨0, none, 0, Nat.zero_le _, rfl, rfl, by simpa [eachL] using World.ownsRow_nil W1 w.heap.size 3 1, hb2, hL⟩⟩
  case round =>
    obtain ⟨⟨t, A, c, ht, rfl, rfl, hO, hb, hL3⟩⟩ := hrel
    obtain ⟨c0, c1, c2, c3, c4, c5, c6⟩ := hL3.all
    by_cases htb : t < l.blocks
    · have hd1 : (t : Int) < (l.blocks : Int) := by omega
      have ht13 : t < 13 := by omega
      obtain ⟨A2, cc, w2, hrun, hO2, hb2', hL2⟩ := ints_app_lay hO hb hL3 (by omega) (l.size t : Int)
      have HO2 := Lib.hid hO2
      have HR := Lib.hid hrun
      clear hrun hO2 hO hb hL3
      by_cases hsh : t < l.shorts
      · have hd2 : (t : Int) < (l.shorts : Int) := by omega
        have hsz : l.size t = l.short := by unfold Lay.size; rw [if_pos hsh]
        rw [hsz] at HR
        have HSZ := Lib.hid hsz
        clear hsz htb hsh ht
        go_wp2_with (at_builtin; refine Lib.wpList_append_run _ rfl _ _ _ _ rfl _ _ rfl rfl _ _ HR.out ?_)
        go_roundw
        case rel => exact ⟨⟨t + 1, A2, cc, by omega, by go_num, by first | rfl | simp, by rw [eachL_succ]; exact HO2.out, hb2', hL2⟩⟩
        case measure => simp [intOf]; omega
      · have hd2 : ¬ (t : Int) < (l.shorts : Int) := by omega
        have hsz : l.size t = l.long := by unfold Lay.size; rw [if_neg hsh]
        rw [hsz] at HR
        have HSZ := Lib.hid hsz
        clear hsz htb hsh ht
        go_wp2_with (at_builtin; refine Lib.wpList_append_run _ rfl _ _ _ _ rfl _ _ rfl rfl _ _ HR.out ?_)
        go_roundw
        case rel => exact ⟨⟨t + 1, A2, cc, by omega, by go_num, by first | rfl | simp, by rw [eachL_succ]; exact HO2.out, hb2', hL2⟩⟩
        case measure => simp [intOf]; omega
    · obtain rfl : t = l.blocks := by omega
      have HO := Lib.hid hO
      clear hO htb ht
      go_wp2_with fail
      go_ret
      exact ⟨A, c, rfl, HO.out, hb⟩
end Go.Proofs.YtkdodmjhpkfhnaaDoor
