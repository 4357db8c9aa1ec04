/-
  The package's functions at any arguments; known.
-/
import Derived.Test.YtoegamlpgenfcaaDoorGn
import Derived.Test.YtoegamlpgenfcaaDoorGm
import Derived.Test.YtoegamlpgenfcaaDoorSm
import Derived.Test.YtoegamlpgenfcaaDoorPo
import Derived.Test.YtoegamlpgenfcaaDoorSmR
namespace Go.Proofs.YtoegamlpgenfcaaDoor
open Go.RowKit Go.Shelf

theorem Buffer_any {k f l : Int} {w : World} (hK : KCol w) :
    Calls Tryd.prog 46 #[.int .i64 k, .int .i64 f, .int .i64 l] w fun e w' => ∃ A c, e = .returned (.tuple #[.slice A (bufS k f l).1.length c, .int .i64 (bufS k f l).2]) ∧ Rd .i64 w' w'.heap.size A (bufS k f l).1.length (bufS k f l).1 ∧ Below w.heap.size w w' := by
  by_cases h : okB k f l = true
  · obtain ⟨K, F, L, rfl, rfl, rfl, h1, h2, h3, h4⟩ := okB_nat h
    rw [bufS_ok h]
    have := Buffer_ok (f := F) hK h1 h2 h3 h4
    rw [← cirI_length K F L] at this
    exact this
  · have h := Bool.eq_false_iff.2 h
    rw [bufS_no h]
    refine (Buffer_no h).mono ?_
    rintro e w' ⟨rfl, rfl⟩
    exact ⟨none, 0, rfl, Rd.nil _ _ _ _, Below.refl _ _⟩
theorem Usable_any {k f l : Int} {w : World} (hK : KCol w) :
    Calls Tryd.prog 25 #[.int .i64 k, .int .i64 f, .int .i64 l] w fun e w' => e = .returned (.tuple #[.int .i64 (useS k f l).1, .int .i64 (useS k f l).2]) ∧ Below w.heap.size w w' := by
  by_cases h : okB k f l = true
  · obtain ⟨K, F, L, rfl, rfl, rfl, h1, h2, h3, h4⟩ := okB_nat h
    rw [useS_ok h]
    exact Usable_ok (f := F) hK h1 h2 h3 h4
  · have h := Bool.eq_false_iff.2 h
    rw [useS_no h]
    refine (Usable_no h).mono ?_
    rintro e w' ⟨rfl, rfl⟩
    exact ⟨rfl, Below.refl _ _⟩
theorem Start_any {k l v : Int} {w : World} :
    Calls Tryd.prog 57 #[.int .i64 k, .int .i64 l, .int .i64 v] w fun e w' => e = .returned (.tuple #[.int .i64 (startS k l v).1, .int .i64 (startS k l v).2]) ∧ w' = w := by
  by_cases h : (okB k 0 l && okV v) = true
  · rw [Bool.and_eq_true] at h
    obtain ⟨K, F, L, rfl, hF, rfl, h1, h2, h3, h4⟩ := okB_nat h.1
    obtain ⟨V, rfl, h5⟩ := okV_nat h.2
    rw [startS_ok h.1 h.2]
    exact Start_ok h1 h2 h4 h5
  · have h := Bool.eq_false_iff.2 h
    rw [startS_no h]
    exact Start_no h
theorem knR1 : startS 40 192 0 = (4, 0) := by decide +kernel
theorem knR2 : startS 40 192 1 = (52, 0) := by decide +kernel
theorem knR3 : startS 40 64 1 = (20, 0) := by decide +kernel
theorem knR4 : useS 40 0 192 = (132, 0) := by decide +kernel
theorem knR5 : useS 40 8 1000 = (116, 0) := by decide +kernel
theorem knR6 : posS 40 0 192 0 4 = ([20, 4, 36, 16], 0) := by decide +kernel
theorem knR7 : posS 40 39 3 0 1 = ([], 10) := by decide +kernel
end Go.Proofs.YtoegamlpgenfcaaDoor
