/-
  The law's valid: the mathematics; append of a field.
-/
import Derived.Test.YtgcgmnopggabaaaRf3
namespace Go.Proofs.Ytgcgmnopggabaaa
open Go.RowKit

/-- A field that fits its width. -/
def wdOf (n : Int) : Nat := (n % 18446744073709551616 % 65).toNat
def vOf (v : Int) (k : Nat) : Int := if k < 64 then v % ((2 ^ k : Nat) : Int) else v
def vf (f : Int × Int) : Int × Int := (vOf f.1 (wdOf f.2), (wdOf f.2 : Int))
theorem wdOf_eq (wd : Int) : (IntKind.u64.wrap wd).tmod 65 = ((wdOf wd : Nat) : Int) := by
  have hw1 : IntKind.u64.wrap wd = wd % 18446744073709551616 := by simp [IntKind.wrap, IntKind.bits, IntKind.signed]
  rw [hw1, IntWalk.rem_in _ _ (by omega)]; unfold wdOf; omega
theorem wdOf_le (n : Int) : wdOf n ≤ 64 := by unfold wdOf; omega
theorem emod_le {a b : Int} (ha : 0 ≤ a) (hb : 0 < b) : a % b ≤ a := by
  by_cases h : a < b
  · rw [Int.emod_eq_of_lt ha h]; exact Int.le_refl _
  · have := Int.emod_lt_of_pos a hb; omega
theorem vf_range {f : Int × Int} (h : 0 ≤ f.1 ∧ f.1 < 18446744073709551616) : 0 ≤ (vf f).1 ∧ (vf f).1 < 18446744073709551616 := by
  unfold vf vOf
  dsimp only
  split
  · have hp : (0 : Int) < ((2 ^ wdOf f.2 : Nat) : Int) := by have : 0 < 2 ^ wdOf f.2 := Nat.pow_pos (by decide); omega
    exact ⟨Int.emod_nonneg _ (by omega), Int.lt_of_le_of_lt (emod_le h.1 hp) h.2⟩
  · exact h
theorem vf_ok {f : Int × Int} (h : 0 ≤ f.1 ∧ f.1 < 18446744073709551616) : (fromUintS (vf f).1 (vf f).2).2 = 0 := by
  have hw := wdOf_le f.2
  have h1 : (vf f).1 < ((2 ^ wdOf f.2 : Nat) : Int) := by
    unfold vf vOf
    dsimp only
    split
    · exact Int.emod_lt_of_pos _ (by have : 0 < 2 ^ wdOf f.2 := Nat.pow_pos (by decide); omega)
    · rw [show wdOf f.2 = 64 by omega]; simpa using h.2
  rw [show (vf f).2 = ((wdOf f.2 : Nat) : Int) from rfl, fromUintS_ok (vf_range h).1 h1 hw]
/-- Fields as cells. -/
def cellsF (fs : List (Int × Int)) : List Value := fs.flatMap fun f => [.int .u64 f.1, .int .i64 f.2]
theorem cellsF_snoc (fs : List (Int × Int)) (f : Int × Int) : cellsF (fs ++ [f]) = cellsF fs ++ [.int .u64 f.1, .int .i64 f.2] := by simp [cellsF]
theorem cellsF_len (fs : List (Int × Int)) : (cellsF fs).length = fs.length * 2 := by
  induction fs with
  | nil => rfl
  | cons f fs ih => simp [cellsF] at ih ⊢; omega
theorem cellsF_get (fs : List (Int × Int)) (k : Nat) (hk : k < fs.length) : (cellsF fs)[k * 2]? = some (.int .u64 (fs[k]?.getD (0, 0)).1) ∧ (cellsF fs)[k * 2 + 1]? = some (.int .i64 (fs[k]?.getD (0, 0)).2) := by
  induction fs generalizing k with
  | nil => simp at hk
  | cons f fs ih =>
    cases k with
    | zero => simp [cellsF]
    | succ k =>
      have := ih k (by simpa using hk)
      have e : cellsF (f :: fs) = .int .u64 f.1 :: .int .i64 f.2 :: cellsF fs := rfl
      rw [e, show (k + 1) * 2 = k * 2 + 1 + 1 by omega]
      simpa using this
theorem RdF.of_own {w : World} {base n c : Nat} {A : Option Addr} {fs : List (Int × Int)} {t : TypeId} (h : w.ownsRow base t 2 (.slice A n c) n (cellsF fs)) (hr : ∀ f ∈ fs, 0 ≤ f.1 ∧ f.1 < 18446744073709551616) : RdF w w.heap.size A n fs := by
  have hl : fs.length = n := by have := h.1; rw [cellsF_len] at this; omega
  refine ⟨hl, fun k hk => ?_, hr⟩
  obtain ⟨g, cap, e, h1, h2⟩ := h.form (by omega)
  injection e with e1 e2 e3
  subst e1 e3
  have := cellsF_get fs k (by omega)
  refine ⟨g, 0, rfl, h2, ?_, ?_⟩
  · rw [h.cellAt _ (by omega)]; simpa using this.1
  · rw [Nat.zero_add, h.cellAt _ (by omega)]; exact this.2
theorem Try.info_field : (Try.prog.info? 73).map (fun i => (i.zero, i.size, i.bytes)) = some (some (.agg #[.int .u64 0, .int .i64 0]), 2, 16) := by kernel_rfl

/-- append of one field. -/
theorem field_append {u : World} {base k c1 s : Nat} {A1 : Option Addr} {l : List Value} {v W : Int} (hO : u.ownsRow base 73 2 (.slice A1 k c1) k l) (hs : u.heap.size = s) (hk : k ≤ 1000) (hb : base ≤ u.heap.size) :
    ∃ A3 c3 w3, (Builtin.append_ #[34, 34] 34 #[.slice A1 k c1, .slice (some ⟨s, 0, none⟩) 1 1]).run Try.prog (u.alloc (.cells #[.int .u64 v, .int .i64 W] 73)) = .ok (.slice A3 (k + 1) c3) w3 ∧
      w3.ownsRow base 73 2 (.slice A3 (k + 1) c3) (k + 1) (l ++ [.int .u64 v, .int .i64 W]) ∧ (∀ B v, Below B v u → B ≤ base → B ≤ v.heap.size → Below B v w3) := by
  subst hs
  obtain ⟨i0, hi, hz0, hz1, hz2⟩ := info_parts Try.info_field
  have hnew := World.alloc_heap_new u (.cells #[.int .u64 v, .int .i64 W] 73)
  obtain ⟨v', w3, h1, h2, h3, _⟩ := run_append_own (P := Try.prog) (u.alloc (.cells #[.int .u64 v, .int .i64 W] 73)) base 34 34 73 i0 (.agg #[.int .u64 0, .int .i64 0]) 2 16 Try.underlying34 hi hz0 hz1 hz2 rfl (by decide) _ k _ (hO.alloc _) ⟨u.heap.size, 0, none⟩ 1 1 [.int .u64 v, .int .i64 W] rfl (World.news_of_block (cs := #[.int .u64 v, .int .i64 W]) hnew) (by simp [Value.oneCell']) (by unfold maxLen; omega) (by omega) (by simp; omega)
  obtain ⟨A3, c3, rfl⟩ := ownsRow_shape h2
  exact ⟨A3, c3, w3, h1, h2, fun B v h hB hv => (h.alloc (Nat.le_trans hv h.size) _).grown h3 (by have := h.size; simp; omega) (fun g hg => Nat.le_trans hB (hO.lt g hg).1)⟩
end Go.Proofs.Ytgcgmnopggabaaa
