/-
  The reference of Split.
-/
import Derived.Test.YtkdodmjhpkfhnaaDoorRh
namespace Go.Proofs.YtkdodmjhpkfhnaaDoor
open Go.RowKit

theorem slice_mid {a : Addr} {n c lo hi : Nat} (h1 : lo ≤ hi) (h2 : hi ≤ n) (h3 : n ≤ c) (h4 : lo < n) (u : World) : (Instr.slice 46 (.slice (some a) n c) (some (.int .i64 (lo : Int))) (some (.int .i64 (hi : Int))) none).run Tryd.prog u = .ok (.slice (some (a.add lo)) (hi - lo) (c - lo)) u := by
  have e1 : ¬ c = lo := by omega
  have e2 : hi ≤ c := by omega
  simp [Instr.slice, Instr.sliceBounds, Instr.sliceBound, run_underlying Tryd.underlying46, asIntOf, go_sem, h1, e1, e2]
/-- Where the reference's Split is. -/
structure RsIn (w : World) (L b5 off5 : Nat) (l : Lay) (xs : List Int) (k : Nat) (A : Option Addr) (c : Nat) (rows : List BRow) (W : World) : Prop where
  fam : Fam w.heap.size (fun _ => False) b5 (ZOwn w.heap.size) W (.slice A k c) k rows
  map : rows.map (·.xs) = (List.range k).map (l.block xs)
  below : Below w.heap.size w W
  lay : LayAt W L 34 l
  szs : Rd .i64 W W.heap.size (some ⟨b5, off5, none⟩) l.blocks (eachL l l.blocks)
  lt5 : b5 < W.heap.size
theorem rs_done {w W W5 : World} {L b5 off5 k c : Nat} {l : Lay} {xs : List Int} {A : Option Addr} {rows : List BRow} {r : BRow} (h : RsIn w L b5 off5 l xs k A c rows W) (hb5 : Below W.heap.size W W5) (hO : ZOwn W.heap.size W5 r) (hx : r.xs = l.block xs k) (hk : k < 13) :
    ∃ A2 c2 w6, (Builtin.append_ #[48, 48] 48 #[.slice A k c, .slice (some ⟨W5.heap.size, 0, none⟩) 1 1]).run Tryd.prog (W5.alloc (.cells #[hdr r] 46)) = .ok (.slice A2 (k + 1) c2) w6 ∧
      RsIn w L b5 off5 l xs (k + 1) A2 c2 (rows ++ [r]) w6 := by
  have hs := hb5.size
  have hw := h.below.size
  have hF5 : Fam w.heap.size (fun _ => False) b5 (ZOwn w.heap.size) W5 (.slice A k c) k rows := h.fam.keep (ZOwn.abides _) (fun j o ho _ _ _ => (hb5.block j (Array.getElem?_eq_some_iff.1 ho).1).trans ho) hs
  have hra : ∀ a, r.a = some a → W.heap.size ≤ a.block ∧ ∃ o, W5.heap[a.block]? = some o ∧ o.isCells = true := fun a ha => by
    rcases hO.2 with ⟨hv, _⟩ | ⟨g, cap, cur, hv, hg, hh, _⟩
    · unfold hdr at hv
      injection hv with hv _ _
      rw [hv] at ha
      cases ha
    · unfold hdr at hv
      injection hv with hv _ _
      rw [hv] at ha
      injection ha with ha
      subst ha
      exact ⟨hg, _, hh, rfl⟩
  have hold : ∀ s ∈ rows, ∀ b, s.a = some b → b.block < W.heap.size := fun s hsr b hb => by
    obtain ⟨o, ho, _⟩ := (h.fam.row s hsr).cells b hb
    exact (Array.getElem?_eq_some_iff.1 ho).1
  have hout : ∀ g, (Value.slice A k c).ownBlock = some g → w.heap.size ≤ g ∧ g < W.heap.size := fun g hg => by
    rcases h.fam.own.2 with ⟨hv, _⟩ | ⟨g', cap, cur, hv, hg', hh, _⟩
    · rw [hv] at hg; cases hg
    · rw [hv] at hg
      injection hg with hg
      simp only at hg
      subst hg
      exact ⟨hg', (Array.getElem?_eq_some_iff.1 hh).1⟩
  have hlt5 := h.lt5
  obtain ⟨A2, c2, w6, h1, h2, h3⟩ := hF5.append (r := r) (ZOwn.abides _) ⟨World.ownsRow.mono hO hw, fun a ha => (hra a ha).2, fun a ha => .inr (fun x => x), fun a ha e => by have := (hra a ha).1; omega⟩
    (fun a ha => .inr (fun s hsr b hb => by have := hold s hsr b hb; have := (hra a ha).1; omega)) (fun a ha e => by have := (hout a.block e).2; have := (hra a ha).1; omega) (by omega) (by omega) (by omega)
  refine ⟨A2, c2, w6, h1, h2, ?_, ?_, ?_, ?_, ?_⟩
  · rw [List.map_append, h.map, List.range_succ, List.map_append, List.map_singleton, List.map_singleton, hx]
  · exact ((h.below.trans (hb5.mono hw)).alloc (by omega) _).grown h3 (by rw [World.size_alloc]; omega) (fun g hg => (hout g hg).1)
  · refine LayAt.grown ((h.lay.below hb5 h.lay.lt).alloc _) h3 ?_
    exact (h.lay.below hb5 h.lay.lt).not_row (e := 46) (by decide) hF5.own
  · have hR := h.szs.step hb5
    have h36 := h3.size
    rw [World.size_alloc] at h36
    refine (hR.block0 (w' := w6) (fun _ a ha => ?_)).more (by omega)
    obtain rfl : (⟨b5, off5, none⟩ : Addr) = a := Option.some.inj ha
    exact (h3.block b5 (by rw [World.size_alloc]; omega) (fun e => h.fam.outerC e.symm)).trans (Below.heap_alloc _ _ _ (by omega))
  · have := h3.size
    rw [World.size_alloc] at this
    omega
end Go.Proofs.YtkdodmjhpkfhnaaDoor
