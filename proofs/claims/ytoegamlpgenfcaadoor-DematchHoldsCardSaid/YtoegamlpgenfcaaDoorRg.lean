/-
  The reference's Sum, Scale, Hard, Ideal (made by tools/genRg11.py).
-/
import Derived.Test.YtoegamlpgenfcaaDoorRf
namespace Go.Proofs.YtoegamlpgenfcaaDoor
open Go.RowKit Go.Shelf

def seqL (f : Nat → Int) (j : Nat) : List Int := (List.range j).map f
theorem seqL_succ (f : Nat → Int) (j : Nat) : seqL f (j + 1) = seqL f j ++ [f j] := by unfold seqL; rw [List.range_succ, List.map_append]; rfl
theorem seqL_length (f : Nat → Int) (j : Nat) : (seqL f j).length = j := by simp [seqL]
theorem hardI_seq {l : List Int} {n : Nat} (h : l.length = n) : hardI l = seqL (fun j => hardE (l[j]?.getD 0)) n := by subst h; unfold hardI seqL; rw [map_range]
theorem scaleI_seq {l : List Int} {n : Nat} {p q : Int} (h : l.length = n) : scaleI p q l = seqL (fun j => scaleE p q (l[j]?.getD 0)) n := by subst h; unfold scaleI seqL; rw [map_range]
theorem idealI_seq {l : List Int} {n : Nat} {m : Int} (h : l.length = n) : idealI m l = seqL (fun j => idealE m (l[j]?.getD 0)) n := by subst h; unfold idealI seqL; rw [map_range]
theorem sumI_seq {l b : List Int} {n : Nat} (h : l.length = n) : sumI l b = seqL (fun j => addI (l[j]?.getD 0) (b[j]?.getD 0)) n := by subst h; rfl
/-- append of one byte. -/
theorem bytes_app {w wr : World} {n : Nat} {A : Option Addr} {c : Nat} {xs : List Int} (hO : wr.ownsRow w.heap.size 5 1 (.slice A n c) n (xs.map (Value.int .u8))) (hb : Below w.heap.size w wr) (hn : n < 1000000) (x : Int) :
    ∃ A2 c2 w2, (Builtin.append_ #[58, 58] 58 #[.slice A n c, .slice (some ⟨wr.heap.size, 0, none⟩) 1 1]).run Tryd.prog (wr.alloc (.cells #[.int .u8 x] 5)) = .ok (.slice A2 (n + 1) c2) w2 ∧
      w2.ownsRow w.heap.size 5 1 (.slice A2 (n + 1) c2) (n + 1) ((xs ++ [x]).map (Value.int .u8)) ∧ Below w.heap.size w w2 := by
  obtain ⟨i0, hi, hz0, hz1, hz2⟩ := info_q Tryd.info_u8
  obtain ⟨A2, c2, w2, h1, h2, h3⟩ := append_one_q (P := Tryd.prog) (q := .u8) (x := x) Tryd.underlying58 hi hz0 hz1 hz2 (by decide) hO hn hb.size
  exact ⟨A2, c2, w2, h1, h2, (hb.alloc hb.size _).grown h3 (by simp; have := hb.size; omega) (fun k hk => (hO.lt k hk).1)⟩
end Go.Proofs.YtoegamlpgenfcaaDoor
