/-
  Slices of bytes: make, append, copies; what a function returns.
-/
import Derived.Test.YtoegamlpgenfcaaDoorMv
import Derived.Test.YtoegamlpgenfcaaDoorBits3
import Derived.Test.YtoegamlpgenfcaaDoorMv
import Derived.Test.YtoegamlpgenfcaaDoorProg
import Derived.WalkKit
import Derived.StillTailTactics
import Derived.Deep.RegionHeld3
import Derived.Deep.Cut
import Derived.Laws.MakeOwn
import Derived.Lib.AppendZerosOnto
import Derived.Lib.SliceRun
import Derived.Maps.AppendAt
import Derived.Deep.QuietTactic
import Derived.BigQuiet
namespace Go.Proofs.YtoegamlpgenfcaaDoor
open Go.RowKit

theorem Tryd.info_u8 : (Tryd.prog.info? 5).map (fun i => (i.zero, i.size, i.bytes)) = some (some (.int .u8 0), 1, 1) := by kernel_rfl

theorem make_bytes (n m : Nat) (hm : m ≤ n) (hn : n ≤ 140737488351232) (u : World) : (Instr.makeSlice 58 (.int .i64 m) (.int .i64 n)).run Tryd.prog u =
    .ok (.slice (some ⟨u.heap.size, 0, none⟩) m n) (u.alloc (.cells (madeCells #[.int .u8 0] n) 5)) := by
  obtain ⟨i0, hi, hz0, hz1, hz2⟩ := info_parts Tryd.info_u8
  have h := run_make (P := Tryd.prog) u 58 5 i0 (.int .u8 0) Tryd.underlying58 hi hz0 .i64 .i64 (m : Int) (n : Int) (by omega) (by omega) (by rw [hz2]; omega) (by omega)
  simpa [hz1, Value.cells] using h

/-- A new slice of n zeros is a row of the call's own. -/
theorem own_zeros {w : World} {B n m : Nat} (hB : B ≤ w.heap.size) (hn : n ≤ 140737488351232) (hm : m ≤ n) : (w.alloc (.cells (madeCells #[.int .u8 0] n) 5)).ownsRow B 5 1 (.slice (some ⟨w.heap.size, 0, none⟩) m n) m ((List.replicate m (0 : Int)).map (Value.int .u8)) := by
  refine ⟨by simp, .inr ⟨w.heap.size, n, madeCells #[.int .u8 0] n, rfl, hB, heap_alloc_new w _, hm, by unfold maxLen; omega, by simp [madeCells], ?_⟩⟩
  rw [toList_madeCells_one, Nat.mul_one, List.take_replicate, List.map_replicate, Nat.min_eq_left hm]

theorem ownsRow_shape {w : World} {base : Nat} {e : TypeId} {size : Nat} {v : Value} {n : Nat} {xs : List Value} (h : w.ownsRow base e size v n xs) : ∃ A c, v = .slice A n c := by
  rcases h.2 with ⟨rfl, rfl⟩ | ⟨g, cap, cur, rfl, _⟩
  · exact ⟨none, 0, rfl⟩
  · exact ⟨_, _, rfl⟩

/-- append of a byte slice that is read onto one of the call's own: where the new row lies. -/
theorem run_append_rd_at {P : Program} {w : World} {B base : Nat} {t ty e : TypeId} {i : TypeInfo} (ht : P.underlying t = some (.slice e)) (hi : P.info? e = some i) (hz : i.zero = some (.int .u8 0)) (hsize : i.size = 1) (hby : i.bytes = 1)
    {A : Option Addr} {V : Value} {n m c' : Nat} {xs ys : List Int} (hown : w.ownsRow base e 1 V n (xs.map (Value.int .u8))) (hR : Rd .u8 w B A m ys) (hlim : n + m ≤ 140737488355328) (hbase : base ≤ w.heap.size) :
    ∃ V' w', (Builtin.append_ #[t, t] ty #[V, .slice A m c']).run P w = .ok V' w' ∧
      w'.ownsRow base e 1 V' (n + m) ((xs ++ ys).map (Value.int .u8)) ∧ w.grownBy w' V.ownBlock ∧ (V'.ownBlock = V.ownBlock ∨ V'.ownBlock = some w.heap.size) := by
  rcases A with _ | a
  · obtain ⟨A1, c, hV⟩ := ownsRow_shape hown
    have hm : m = 0 := by
      rcases Nat.eq_zero_or_pos m with h0 | h0
      · exact h0
      · obtain ⟨_, _, h, _⟩ := hR.cells 0 h0
        cases h
    subst hm
    obtain rfl : ys = [] := List.eq_nil_of_length_eq_zero hR.len
    refine ⟨V, w, ?_, by simpa using hown, ⟨rfl, rfl, rfl, Nat.le_refl _, fun _ _ _ => rfl⟩, .inl rfl⟩
    rcases hown.2 with ⟨h1, h2⟩ | ⟨g, cap, cur, h1, _, _, hnc, _⟩
    · subst h1
      simp [Builtin.append_, run_underlying ht, sizeOf, typeInfo, hi, Builtin.lenOf, Builtin.firstCells]
    · subst h1
      simp [Builtin.append_, run_underlying ht, sizeOf, typeInfo, hi, Builtin.lenOf, Builtin.firstCells, hnc, storeCells]
  · have hnews : ∀ j u, (ys.map (Value.int .u8))[j]? = some u → w.cell? (a.add j) = some u := by
      intro j u hu
      rw [List.getElem?_map] at hu
      obtain ⟨y, hy, rfl⟩ := Option.map_eq_some_iff.1 hu
      obtain ⟨hj, _⟩ := List.getElem?_eq_some_iff.1 hy
      obtain ⟨b, off, he, _, hc⟩ := hR.cells j (by rw [← hR.len]; exact hj)
      injection he with he
      subst he
      rw [hy] at hc
      by_cases h0 : j = 0
      · subst h0; simpa [Addr.add] using hc
      · simpa [Addr.add, h0] using hc
    obtain ⟨v', w', hr, h2, h3, _, h5⟩ := run_append_own_at (P := P) w base t ty e i (.int .u8 0) 1 1 ht hi hz hsize hby rfl (by decide) _ n _ hown a m c' (ys.map (Value.int .u8)) (by simp [hR.len]) hnews (by simp [Value.oneCell']) (by unfold maxLen; omega) (by omega) hbase
    exact ⟨v', w', hr, by simpa using h2, h3, h5⟩

theorem Rd.block0 {q : IntKind} {w w' : World} {B n : Nat} {A : Option Addr} {xs : List Int} (h : Rd q w B A n xs) (hk : 0 < n → ∀ a, A = some a → w'.heap[a.block]? = w.heap[a.block]?) : Rd q w' B A n xs := by
  rcases Nat.eq_zero_or_pos n with h0 | hp
  · subst h0
    obtain rfl := List.eq_nil_of_length_eq_zero h.len
    exact Rd.nil _ _ _ _
  · exact h.block (hk hp)
theorem Rd.step {q : IntKind} {w w' : World} {n : Nat} {A : Option Addr} {xs : List Int} (h : Rd q w w.heap.size A n xs) (hb : Below w.heap.size w w') : Rd q w' w'.heap.size A n xs := (h.below hb).more hb.size
theorem rd_lit (w : World) (xs : List Int) (t : TypeId) : Rd .u8 (w.alloc (.cells (xs.map (Value.int .u8)).toArray t)) (w.heap.size + 1) (some ⟨w.heap.size, 0, none⟩) xs.length xs :=
  ⟨rfl, fun k hk => ⟨w.heap.size, 0, rfl, by omega, by
    have h := World.alloc_heap_new w (.cells (xs.map (Value.int .u8)).toArray t)
    rw [Nat.zero_add, cell_of_row _ _ k _ _ _ h]
    simp [hk]⟩⟩
theorem own_cap' {w : World} {base n c s : Nat} {A : Option Addr} {t : TypeId} {xs : List Value} (h : w.ownsRow base t s (.slice A n c) n xs) : n ≤ c := by
  rcases h.2 with ⟨h1, h2⟩ | ⟨g, cap, cur, h1, _, _, hnc, _⟩
  · injection h1 with _ e1 e2; omega
  · injection h1 with _ e1 e2; omega
/-- A slice of bytes that a reference function returns: it reads as r, and it is the one that came in or a new one. -/
structure NewB (w : World) (A : Option Addr) (r : List Int) (A' : Option Addr) (w' : World) : Prop where
  rd : Rd .u8 w' w'.heap.size A' r.length r
  place : ∀ a, A' = some a → A = some a ∨ (w.heap.size ≤ a.block ∧ a.block < w'.heap.size)
  below : Below w.heap.size w w'
theorem NewB.of_own {w w' : World} {A A' : Option Addr} {c : Nat} {r : List Int} {t : TypeId} (h : w'.ownsRow w.heap.size t 1 (.slice A' r.length c) r.length (r.map (Value.int .u8))) (hb : Below w.heap.size w w') : NewB w A r A' w' :=
  ⟨Rd.of_own h, fun a ha => .inr (by subst ha; exact h.lt a.block rfl), hb⟩
theorem NewB.same {w w' : World} {A : Option Addr} {n : Nat} {r : List Int} (h : Rd .u8 w w.heap.size A n r) (hb : Below w.heap.size w w') : NewB w A r A w' := by
  have h1 := h.step hb
  rw [← h.len] at h1
  exact ⟨h1, fun a ha => .inl ha, hb⟩
theorem NewB.after {w w1 w' : World} {A A' : Option Addr} {r : List Int} (hb : Below w.heap.size w w1) (h : NewB w1 A r A' w') : NewB w A r A' w' :=
  ⟨h.rd, fun a ha => (h.place a ha).imp id (fun h1 => ⟨Nat.le_trans hb.size h1.1, h1.2⟩), hb.trans (h.below.mono hb.size)⟩
/-- A reference function's slice and number. -/
def RetN (w : World) (A : Option Addr) (r : List Int × Int) (e : Ending) (w' : World) : Prop := ∃ A' c', e = .returned (.tuple #[.slice A' r.1.length c', .int .i64 r.2]) ∧ NewB w A r.1 A' w'
theorem RetN.mk_ {w w' : World} {A A' : Option Addr} {r : List Int} {no : Int} {k c : Nat} (hk : k = r.length) (h : NewB w A r A' w') : RetN w A (r, no) (.returned (.tuple #[.slice A' k c, .int .i64 no])) w' := ⟨A', c, by rw [hk], h⟩
/-- A reference function's slice. -/
def RetS (w : World) (A : Option Addr) (r : List Int) (e : Ending) (w' : World) : Prop := ∃ A' c', e = .returned (.slice A' r.length c') ∧ NewB w A r A' w'
theorem RetS.mk_ {w w' : World} {A A' : Option Addr} {r : List Int} {k c : Nat} (hk : k = r.length) (h : NewB w A r A' w') : RetS w A r (.returned (.slice A' k c)) w' := ⟨A', c, by rw [hk], h⟩
theorem own_empty (w : World) (t : TypeId) : (w.alloc (.cells #[] t)).ownsRow w.heap.size t 1 (.slice (some ⟨w.heap.size, 0, none⟩) 0 0) 0 (([] : List Int).map (Value.int .u8)) := by
  simpa using World.ownsRow_lit (base := w.heap.size) (size := 1) (e := t) w #[] 0 (Nat.le_refl _) (Nat.zero_le _) rfl

/-- append onto a new empty slice: a copy. -/
theorem copy_run {w : World} {A : Option Addr} {n c : Nat} {xs : List Int} (hI : Rd .u8 w w.heap.size A n xs) (hn : n ≤ 2199023255552) :
    ∃ A2 c2 w2, (Builtin.append_ #[58, 58] 58 #[.slice (some ⟨w.heap.size, 0, none⟩) 0 0, .slice A n c]).run Tryd.prog (w.alloc (.cells #[] 5)) = .ok (.slice A2 n c2) w2 ∧
      w2.ownsRow w.heap.size 5 1 (.slice A2 n c2) n (xs.map (Value.int .u8)) ∧ Below w.heap.size w w2 := by
  obtain ⟨i0, hi, hz0, hz1, hz2⟩ := info_parts Tryd.info_u8
  obtain ⟨V2, w2, h1, h2, h3, _⟩ := run_append_rd_at (P := Tryd.prog) (t := 58) (ty := 58) (c' := c) Tryd.underlying58 hi hz0 hz1 hz2 (own_empty w 5) (hI.alloc (Nat.le_refl _) _) (by omega) (by simp)
  obtain ⟨A2, c2, rfl⟩ := ownsRow_shape h2
  rw [Nat.zero_add] at h1 h2
  exact ⟨A2, c2, w2, h1, by simpa using h2, ((Below.refl _ w).alloc (Nat.le_refl _) _).grown h3 (by simp) (fun g hg => by cases hg; exact Nat.le_refl _)⟩
/-- append onto one's own. -/
theorem more_run {w : World} {base : Nat} {A A1 : Option Addr} {n c m c' : Nat} {xs ys : List Int} (hO : w.ownsRow base 5 1 (.slice A n c) n (xs.map (Value.int .u8))) (hJ : Rd .u8 w w.heap.size A1 m ys) (hn : n ≤ 2199023255552) (hm : m ≤ 2199023255552) (hb : base ≤ w.heap.size) :
    ∃ A2 c2 w2, (Builtin.append_ #[58, 58] 58 #[.slice A n c, .slice A1 m c']).run Tryd.prog w = .ok (.slice A2 (n + m) c2) w2 ∧
      w2.ownsRow base 5 1 (.slice A2 (n + m) c2) (n + m) ((xs ++ ys).map (Value.int .u8)) ∧ (∀ B v, Below B v w → B ≤ base → B ≤ v.heap.size → Below B v w2) := by
  obtain ⟨i0, hi, hz0, hz1, hz2⟩ := info_parts Tryd.info_u8
  obtain ⟨V2, w2, h1, h2, h3, _⟩ := run_append_rd_at (P := Tryd.prog) (t := 58) (ty := 58) (c' := c') Tryd.underlying58 hi hz0 hz1 hz2 hO hJ (by omega) hb
  obtain ⟨A2, c2, rfl⟩ := ownsRow_shape h2
  exact ⟨A2, c2, w2, h1, h2, fun B v h hB hv => h.grown h3 (Nat.le_trans hv h.size) (fun g hg => Nat.le_trans hB (hO.lt g hg).1)⟩
theorem NewB.own_le {w w1 w' : World} {A A' : Option Addr} {c k : Nat} {r : List Int} {t : TypeId} (h : w'.ownsRow w1.heap.size t 1 (.slice A' k c) k (r.map (Value.int .u8))) (hb : Below w.heap.size w w') (hs : w.heap.size ≤ w1.heap.size) : NewB w A r A' w' := by
  have hk : k = r.length := by simpa using (Rd.of_own h).len.symm
  subst hk
  exact NewB.of_own (h.mono hs) hb

end Go.Proofs.YtoegamlpgenfcaaDoor
