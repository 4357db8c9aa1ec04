/-
  unwrap: the data of a block.
-/
import Derived.Test.YtkdodmjhpkfhnaaDoorPd
namespace Go.Proofs.YtkdodmjhpkfhnaaDoor
open Go.RowKit

theorem slice_cut3 {a : Addr} {n c m : Nat} (hm : m < n) (hn : n ≤ c) (u : World) : (Instr.slice 46 (.slice (some a) n c) (some (.int .i64 (m : Int))) (some (.int .i64 (n : Int))) (some (.int .i64 (n : Int)))).run Tryd.prog u = .ok (.slice (some (a.add m)) (n - m) (n - m)) u := by
  have h1 : ¬ n = m := by omega
  have h2 : m ≤ n := by omega
  simp [Instr.slice, Instr.sliceBounds, Instr.sliceBound, run_underlying Tryd.underlying46, asIntOf, go_sem, h1, h2, hn]
/-- A row that reads. -/
def ZRd (W : World) (r : BRow) : Prop := Rd .u8 W W.heap.size r.a r.n r.xs
theorem ZRd.abides : Abides ZRd := fun _ _ _ h hb hs => (h.block hb).more hs
theorem cells_of_cell {w : World} {a : Addr} {v : Value} (h : w.cell? a = some v) : ∃ o, w.heap[a.block]? = some o ∧ o.isCells = true := by
  unfold World.cell? at h
  split at h
  · rename_i e; exact ⟨_, e, rfl⟩
  · cases h
theorem Rd.front {q : IntKind} {w : World} {B n m : Nat} {a : Addr} {xs : List Int} (h : Rd q w B (some a) n xs) (hm : m < n) : Rd q w B (some (a.add m)) (n - m) (xs.drop m) := by
  have := Rd.cut h (lo := m) (hi := n) (cap := n) (by omega) (Nat.le_refl _) (Nat.le_refl _)
  rw [if_neg (by omega), List.take_of_length_le (by rw [List.length_drop, h.len]; exact Nat.le_refl _)] at this
  exact this
/-- What unwrap finds in a block. -/
def unwrapL (l : Lay) (i : Nat) (xs : List Int) : Option (List Int) :=
  if l.blocks = 1 then some (xs.drop (l.fill i)) else if crcI 2 (xs.take (xs.length - 24)) = xs.drop (xs.length - 24) then some ((xs.take (xs.length - 24)).drop (l.fill i)) else none
set_option maxRecDepth 100000 in
set_option maxHeartbeats 4000000 in
theorem unwrap_one {l : Lay} {i n c : Nat} {a : Addr} {xs : List Int} {w : World} (hK : Kinds w) (hl : l.blocks = 1) (_hI : Rd .u8 w w.heap.size (some a) n xs) (hc : n ≤ c) (hF : l.fill i < n) :
    Calls Tryd.prog 50 #[layV l, .int .i64 (i : Int), .slice (some a) n c] w fun e w' => e = .returned (.slice (some (a.add (l.fill i))) (n - l.fill i) (n - l.fill i)) ∧ Below w.heap.size w w' := by
  have hfl := Lib.hid (fun (u : World) => layFiller_any (l := l) (i := i) (w := u))
  have hcs := fun (u : World) (h : Below w.heap.size w u) => layChecksum_any (l := l) (hK.step h)
  rw [show l.cs = 0 by unfold Lay.cs; rw [if_pos hl]] at hcs
  have hcs := Lib.hid hcs
  have hL : LayAt (w.alloc (.cells (layA l) 70)) w.heap.size 70 l := LayAt.new w 70 l
  have hb0 := (Below.refl w.heap.size w).alloc (Nat.le_refl _) (.cells (layA l) 70)
  obtain ⟨F, hFe⟩ : ∃ F, l.fill i = F := ⟨_, rfl⟩
  rw [hFe] at hfl hF ⊢
  have hsl := slice_cut3 (a := a) hF hc
  clear hFe hl
  unfold layV layA at *
  obtain ⟨c0, c1, c2, c3, c4, c5, c6⟩ := hL.all
  go_enter Tryd.func50, Tryd.ntmps50
  go_wp2_with fail
  clear c0 c1 c2 c3 c4 c5 c6
  generalize (w.alloc (.cells #[.int .i64 l.bits, .int .i64 l.blocks, .int .i64 l.long, .int .i64 l.short, .int .i64 l.longs, .int .i64 l.shorts, .int .i64 l.filler] 70)) = W at *
  refine (hcs.out _ hb0).mono ?_
  rintro e w1 ⟨rfl, hb1⟩
  replace hL := LayAt.step hL hb1
  replace hb1 := hb0.trans (hb1.mono hb0.size)
  obtain ⟨c0, c1, c2, c3, c4, c5, c6⟩ := hL.all
  go_wp2_with fail
  refine (hfl.out _).mono ?_
  rintro e w2 ⟨rfl, hb2⟩
  replace hb2 := hb1.trans (hb2.mono hb1.size)
  go_wp2_with fail
  go_ret
  exact ⟨rfl, hb2⟩
theorem genN2_ne : (genN 2).2 ≠ 0 := by decide
set_option maxRecDepth 100000 in
set_option maxHeartbeats 4000000 in
theorem unwrap_more {l : Lay} {i n c : Nat} {A : Option Addr} {xs : List Int} {w : World} (hK : Kinds w) (hl : ¬ l.blocks = 1) (hI : Rd .u8 w w.heap.size A n xs) (hc : n ≤ c) (hx : Bits xs) (hn : n ≤ 6200) (hF : l.fill i + 24 < n) (hg : crcI 2 (xs.take (n - 24)) = xs.drop (n - 24)) :
    Calls Tryd.prog 50 #[layV l, .int .i64 (i : Int), .slice A n c] w fun e w' => ∃ r : BRow, e = .returned (hdr r) ∧ r.xs = (xs.take (n - 24)).drop (l.fill i) ∧ r.n = n - 24 - l.fill i ∧ Rd .u8 w' w'.heap.size r.a r.n r.xs ∧
      (∀ a, r.a = some a → w.heap.size ≤ a.block) ∧ Below w.heap.size w w' := by
  have hfl := Lib.hid (fun (u : World) => layFiller_any (l := l) (i := i) (w := u))
  have hcs := fun (u : World) (h : Below w.heap.size w u) => layChecksum_any (l := l) (hK.step h)
  rw [show l.cs = 24 by unfold Lay.cs; rw [if_neg hl]] at hcs
  have hcs := Lib.hid hcs
  have hlx := hI.len
  have hck := fun (u : World) (h : Below w.heap.size w u) => check_ok (c := c) (k := 2) (hK.step h) (hI.step h) (by omega) hc genN2_ne hx.valid hx (n - 24) (by show n = n - 24 + 24; omega)
  rw [decide_eq_true hg] at hck
  unfold chkR at hck
  have hck := Lib.hid hck
  have hL : LayAt (w.alloc (.cells (layA l) 70)) w.heap.size 70 l := LayAt.new w 70 l
  have hb0 := (Below.refl w.heap.size w).alloc (Nat.le_refl _) (.cells (layA l) 70)
  obtain ⟨F, hFe⟩ : ∃ F, l.fill i = F := ⟨_, rfl⟩
  rw [hFe] at hfl hF ⊢
  obtain ⟨q, hq⟩ : ∃ q, xs.take (n - 24) = q := ⟨_, rfl⟩
  have hql : q.length = n - 24 := by rw [← hq, List.length_take, hlx]; omega
  rw [hq] at hck ⊢
  obtain ⟨m, hm⟩ : ∃ m, n - 24 = m := ⟨_, rfl⟩
  rw [hm] at hql ⊢
  have hFm : F < m := by omega
  clear hFe hl hq hm hg
  unfold layV layA at *
  obtain ⟨c0, c1, c2, c3, c4, c5, c6⟩ := hL.all
  go_enter Tryd.func50, Tryd.ntmps50
  go_wp2_with fail
  clear c0 c1 c2 c3 c4 c5 c6
  generalize (w.alloc (.cells #[.int .i64 l.bits, .int .i64 l.blocks, .int .i64 l.long, .int .i64 l.short, .int .i64 l.longs, .int .i64 l.shorts, .int .i64 l.filler] 70)) = W at *
  refine (hcs.out _ hb0).mono ?_
  rintro e w1 ⟨rfl, hb1⟩
  replace hL := LayAt.step hL hb1
  replace hb1 := hb0.trans (hb1.mono hb0.size)
  go_wp2_with fail
  refine (hck.out _ hb1).mono ?_
  intro e w2 h2
  obtain ⟨A2, c2, rfl, ho2, hb2⟩ := h2.got hql
  replace hL := LayAt.step hL hb2
  have hR2 := Rd.of_own ho2
  have hcap := own_cap' ho2
  have hA2 : ∃ g, A2 = some ⟨g, 0, none⟩ ∧ w1.heap.size ≤ g := by
    obtain ⟨g, cap, hv, hg1, _⟩ := ho2.form (by omega)
    injection hv with hv _ _
    exact ⟨g, hv, hg1⟩
  have hw1 := hb1.size
  obtain ⟨g, rfl, hgb⟩ := hA2
  replace hb2 := hb1.trans (hb2.mono hb1.size)
  have hsl := slice_cut3 (a := ⟨g, 0, none⟩) hFm hcap
  have hR3 := hR2.front hFm
  have hadd : (⟨g, 0, none⟩ : Addr).add F = ⟨g, F, none⟩ := by by_cases h : F = 0 <;> simp [Addr.add, h]
  rw [hadd] at hR3 hsl
  clear hadd
  have HR := Lib.hid hR3
  clear h2 ho2 hR2 hR3
  obtain ⟨c0, c1, c2', c3, c4, c5, c6⟩ := hL.all
  go_wp2_with (go_at_call 31; refine require_ok.mono ?_; rintro e w4 ⟨rfl, rfl⟩)
  refine (hfl.out _).mono ?_
  rintro e w5 ⟨rfl, hb5⟩
  have HR5 := Lib.hid (HR.out.step hb5)
  replace hb5 := hb2.trans (hb5.mono hb2.size)
  go_wp2_with fail
  go_ret
  refine ⟨⟨some ⟨g, F, none⟩, m - F, m - F, q.drop F⟩, rfl, rfl, rfl, HR5.out, fun a ha => ?_, hb5⟩
  injection ha with ha
  subst ha
  show w.heap.size ≤ g
  omega
set_option maxRecDepth 100000 in
set_option maxHeartbeats 4000000 in
theorem unwrap_bad {l : Lay} {i n c : Nat} {A : Option Addr} {xs : List Int} {w : World} (hK : Kinds w) (hl : ¬ l.blocks = 1) (hI : Rd .u8 w w.heap.size A n xs) (hc : n ≤ c) (hx : Bits xs) (hn : n ≤ 6200) (hF : 24 < n) (hg : ¬ crcI 2 (xs.take (n - 24)) = xs.drop (n - 24)) :
    Calls Tryd.prog 50 #[layV l, .int .i64 (i : Int), .slice A n c] w fun e w' => e = .panicked [{ v := failV 61, recovered := false }] ∧ Below w.heap.size w w' := by
  have hcs := fun (u : World) (h : Below w.heap.size w u) => layChecksum_any (l := l) (hK.step h)
  rw [show l.cs = 24 by unfold Lay.cs; rw [if_neg hl]] at hcs
  have hcs := Lib.hid hcs
  have hck := fun (u : World) (h : Below w.heap.size w u) => check_ok (c := c) (k := 2) (hK.step h) (hI.step h) (by omega) hc genN2_ne hx.valid hx (n - 24) (by show n = n - 24 + 24; omega)
  rw [decide_eq_false hg] at hck
  unfold chkR at hck
  have hck := Lib.hid hck
  have hL : LayAt (w.alloc (.cells (layA l) 70)) w.heap.size 70 l := LayAt.new w 70 l
  have hb0 := (Below.refl w.heap.size w).alloc (Nat.le_refl _) (.cells (layA l) 70)
  clear hl hg
  unfold layV layA at *
  obtain ⟨c0, c1, c2, c3, c4, c5, c6⟩ := hL.all
  go_enter Tryd.func50, Tryd.ntmps50
  go_wp2_with fail
  clear c0 c1 c2 c3 c4 c5 c6
  generalize (w.alloc (.cells #[.int .i64 l.bits, .int .i64 l.blocks, .int .i64 l.long, .int .i64 l.short, .int .i64 l.longs, .int .i64 l.shorts, .int .i64 l.filler] 70)) = W at *
  refine (hcs.out _ hb0).mono ?_
  rintro e w1 ⟨rfl, hb1⟩
  replace hb1 := hb0.trans (hb1.mono hb0.size)
  go_wp2_with fail
  refine (hck.out _ hb1).mono ?_
  intro e w2 h2
  obtain ⟨A2, c2, rfl, ho2, hb2⟩ := h2.got (n := 0) rfl
  replace hb2 := hb1.trans (hb2.mono hb1.size)
  clear h2 ho2
  go_wp2_with (go_at_call 31; refine require_no.mono ?_; rintro e w4 ⟨rfl, rfl⟩)
  exact ⟨rfl, rfl, hb2⟩
end Go.Proofs.YtkdodmjhpkfhnaaDoor
