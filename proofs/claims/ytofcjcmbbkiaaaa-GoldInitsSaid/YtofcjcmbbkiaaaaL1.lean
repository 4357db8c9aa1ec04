/-
  GoldInits: the walk of the law.
-/
import Derived.Test.YtofcjcmbbkiaaaaKn
namespace Go.Proofs.Ytofcjcmbbkiaaaa
open Go.RowKit

theorem initS_ok {r t c : Int} (h : okI r t c = true) : initS r t c = (initI r t c, 0) := by unfold initS; rw [if_pos h]
theorem initS_no {r t c : Int} (h : okI r t c = false) : initS r t c = (0, 2) := by unfold initS; rw [if_neg (by simp [h])]
theorem initI_inj {r o t c : Int} : initI r t c = initI o t c ↔ r = o := by unfold initI; omega
set_option maxHeartbeats 1000000 in
theorem inits_walk {r o t c : Int} {w : World} :
    Calls Try.prog 3 #[.int .i64 r, .int .i64 o, .int .i64 t, .int .i64 c] w fun e w' => e = .returned (.bool true) ∧ Below w.heap.size w w' := by
  have h1 := init_any (r := r) (t := t) (c := c) (w := w)
  have h2 := refInit_any (r := r) (t := t) (c := c) (w := w)
  have h3 := init_any (r := o) (t := t) (c := c) (w := w)
  have hk := Lib.hid (known_any (w := w))
  cases hr : okI r t c with
  | false =>
    rw [initS_no hr] at h1 h2
    generalize initS o t c = q at *
    obtain ⟨b, g⟩ := q
    go_enter Try.func3, Try.ntmps3
    go_wp2_with fail
    refine h1.mono ?_
    rintro e w1 ⟨rfl, rfl⟩
    clear h1
    go_wp2_with fail
    refine h2.mono ?_
    rintro e w1 ⟨rfl, rfl⟩
    clear h2
    go_wp2_with fail
    refine h3.mono ?_
    rintro e w1 ⟨rfl, rfl⟩
    clear h3
    go_wp2_with fail
    refine hk.out.mono ?_
    rintro e w2 ⟨rfl, hb⟩
    go_wp2_with fail
    go_ret
    exact ⟨rfl, hb⟩
  | true =>
    rw [initS_ok hr] at h1 h2
    cases ho : okI o t c with
    | false =>
      rw [initS_no ho] at h3
      generalize initI r t c = a at *
      go_enter Try.func3, Try.ntmps3
      go_wp2_with fail
      refine h1.mono ?_
      rintro e w1 ⟨rfl, rfl⟩
      clear h1
      go_wp2_with fail
      refine h2.mono ?_
      rintro e w1 ⟨rfl, rfl⟩
      clear h2
      go_wp2_with fail
      refine h3.mono ?_
      rintro e w1 ⟨rfl, rfl⟩
      clear h3
      go_wp2_with fail
      refine hk.out.mono ?_
      rintro e w2 ⟨rfl, hb⟩
      go_wp2_with fail
      go_ret
      exact ⟨rfl, hb⟩
    | true =>
      rw [initS_ok ho] at h3
      have hin := initI_inj (r := r) (o := o) (t := t) (c := c)
      generalize initI r t c = a at *
      generalize initI o t c = b at *
      have hd : (a == b) = (r == o) := by rw [Bool.eq_iff_iff]; simpa using hin
      clear hin
      go_enter Try.func3, Try.ntmps3
      go_wp2_with fail
      refine h1.mono ?_
      rintro e w1 ⟨rfl, rfl⟩
      clear h1
      go_wp2_with fail
      refine h2.mono ?_
      rintro e w1 ⟨rfl, rfl⟩
      clear h2
      go_wp2_with fail
      refine h3.mono ?_
      rintro e w1 ⟨rfl, rfl⟩
      clear h3
      go_wp2_with fail
      refine hk.out.mono ?_
      rintro e w2 ⟨rfl, hb⟩
      go_wp2_with fail
      go_ret
      exact ⟨rfl, hb⟩
end Go.Proofs.Ytofcjcmbbkiaaaa
