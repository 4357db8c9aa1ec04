/-
  The law FieldCuts: the mathematics; append of an integer.
-/
import Derived.Test.YtgcgmnopggabaaaVal
import Derived.Test.YtgcgmnopggabaaaGa
import Derived.Test.YtgcgmnopggabaaaAct
namespace Go.Proofs.Ytgcgmnopggabaaa
open Go.RowKit

theorem gaE_sum (n : Nat) (ws : List Int) (h : ∀ wd ∈ ws, 0 ≤ wd ∧ wd ≤ 64) : ∀ p : Nat, p ≤ 8 * n → 0 ≤ ws.sum ∧ gaE n p ws = if (p : Int) + ws.sum ≤ 8 * (n : Int) then 0 else 5 := by
  induction ws with
  | nil => intro p hp; simp [gaE]; omega
  | cons wd ws ih =>
    intro p hp
    have hw := h wd (by simp)
    have ih := ih (fun x hx => h x (by simp [hx]))
    have h0 := (ih p hp).1
    have hs : (wd :: ws).sum = wd + ws.sum := List.sum_cons
    have hg : gaE n p (wd :: ws) = if getE n p wd ≠ 0 then getE n p wd else gaE n (getP n p wd) ws := rfl
    refine ⟨by omega, ?_⟩
    by_cases hf : wd ≤ ((8 * n - p : Nat) : Int)
    · have e : getE n p wd = 0 := by unfold getE; rw [if_neg (by omega), if_pos hf]
      have e2 : getP n p wd = p + wd.toNat := by unfold getP; rw [if_pos e]
      have h3 := (ih (p + wd.toNat) (by omega)).2
      rw [hg, if_neg (by rw [e]; decide), e2, h3]
      by_cases hq : (p : Int) + (wd :: ws).sum ≤ 8 * (n : Int)
      · rw [if_pos hq, if_pos (by omega)]
      · rw [if_neg hq, if_neg (by omega)]
    · have e : getE n p wd = 5 := by unfold getE; rw [if_neg (by omega), if_neg hf]
      rw [hg, if_pos (by rw [e]; decide), e, if_neg (by omega)]
theorem bitsAll_sum (fs : List (Int × Int)) (h : ∀ f ∈ fs, (fromUintS f.1 f.2).2 = 0) : ((bitsAll fs).length : Int) = (fs.map (·.2)).sum := by
  induction fs with
  | nil => rfl
  | cons f fs ih =>
    have hw := width_ok (h f (by simp))
    have ih := ih (fun g hg => h g (by simp [hg]))
    have e : bitsAll (f :: fs) = fromUintL f.1 f.2.toNat ++ bitsAll fs := rfl
    rw [e, List.length_append, fromUintL_length, List.map_cons, List.sum_cons, ← ih]
    push_cast
    omega
theorem Try.info_int : (Try.prog.info? 3).map (fun i => (i.zero, i.size, i.bytes)) = some (some (.int .i64 0), 1, 8) := by kernel_rfl
/-- append of one integer. -/
theorem int_append {u : World} {base k c1 s : Nat} {A1 : Option Addr} {l : List Int} {x : Int} (hO : u.ownsRow base 3 1 (.slice A1 k c1) k (l.map (Value.int .i64))) (hs : u.heap.size = s) (hk : k ≤ 1000) (hb : base ≤ u.heap.size) :
    ∃ A3 c3 w3, (Builtin.append_ #[47, 47] 47 #[.slice A1 k c1, .slice (some ⟨s, 0, none⟩) 1 1]).run Try.prog (u.alloc (.cells #[.int .i64 x] 3)) = .ok (.slice A3 (k + 1) c3) w3 ∧
      w3.ownsRow base 3 1 (.slice A3 (k + 1) c3) (k + 1) ((l ++ [x]).map (Value.int .i64)) ∧ (∀ B v, Below B v u → B ≤ base → B ≤ v.heap.size → Below B v w3) := by
  subst hs
  obtain ⟨i0, hi, hz0, hz1, hz2⟩ := info_parts Try.info_int
  have hnew := World.alloc_heap_new u (.cells #[.int .i64 x] 3)
  obtain ⟨v', w3, h1, h2, h3, _⟩ := run_append_own (P := Try.prog) (u.alloc (.cells #[.int .i64 x] 3)) base 47 47 3 i0 (.int .i64 0) 1 8 Try.underlying47 hi hz0 hz1 hz2 rfl (by decide) _ k _ (hO.alloc _) ⟨u.heap.size, 0, none⟩ 1 1 [.int .i64 x] rfl (World.news_of_block (cs := #[.int .i64 x]) hnew) (by simp [Value.oneCell']) (by unfold maxLen; omega) (by omega) (by simp; omega)
  obtain ⟨A3, c3, rfl⟩ := ownsRow_shape h2
  exact ⟨A3, c3, w3, h1, by simpa using h2, fun B v h hB hv => (h.alloc (Nat.le_trans hv h.size) _).grown h3 (by have := h.size; simp; omega) (fun g hg => Nat.le_trans hB (hO.lt g hg).1)⟩
/-- The fields of valid fit. -/
theorem vf_all {fs : List (Int × Int)} (h : ∀ f ∈ fs, 0 ≤ f.1 ∧ f.1 < 18446744073709551616) : (∀ f ∈ fs.map vf, (fromUintS f.1 f.2).2 = 0) ∧ (∀ f ∈ fs.map vf, 0 ≤ f.1 ∧ f.1 < 18446744073709551616) ∧ errAll (fs.map vf) = 0 := by
  have h1 : ∀ f ∈ fs.map vf, (fromUintS f.1 f.2).2 = 0 := fun f hf => by
    obtain ⟨g, hg, rfl⟩ := List.mem_map.1 hf
    exact vf_ok (h g hg)
  exact ⟨h1, fun f hf => by
    obtain ⟨g, hg, rfl⟩ := List.mem_map.1 hf
    exact vf_range (h g hg), (errAll_zero _).2 h1⟩
end Go.Proofs.Ytgcgmnopggabaaa
