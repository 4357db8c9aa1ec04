/-
  The walks of SoftAdds, SoftSums, SoftScales, SoftHards, SoftCompares.
-/
import Derived.Test.YtkkombhpiagngaaDoorWk
namespace Go.Proofs.YtkkombhpiagngaaDoor
open Go.RowKit Go.Shelf

set_option maxHeartbeats 1000000 in
theorem adds_walk {a b : Int} {w : World} (hK : Kinds w) :
    Calls Tryd.prog 3 #[.int .i64 a, .int .i64 b] w fun e w' => e = .returned (.bool true) ∧ Below w.heap.size w w' := by
  have h1 := Lib.hid (Clamp_any (v := a) hK)
  have h2 := Lib.hid (refClamp_any (v := a) (w := w))
  have h3 := Lib.hid (Add_any (a := a) (b := b) hK)
  have h4 := Lib.hid (refAdd_any (a := a) (b := b) (w := w))
  have h5 := Lib.hid (works_any hK)
  clear hK
  go_enter Tryd.func3, Tryd.ntmps3
  go_wp2_with (first
    | (go_at_call 10; refine h1.out.mono ?_; rintro e w ⟨rfl, rfl⟩)
    | (go_at_call 11; refine h2.out.mono ?_; rintro e w ⟨rfl, rfl⟩)
    | (go_at_call 12; refine h3.out.mono ?_; rintro e w ⟨rfl, rfl⟩)
    | (go_at_call 13; refine h4.out.mono ?_; rintro e w ⟨rfl, rfl⟩)
    | (go_at_call 14; refine h5.out.mono ?_; rintro e w5 ⟨rfl, b5⟩)
    | fail)
  go_ret
  exact ⟨rfl, b5⟩
theorem sumS_len (a b : List Int) : (sumS a b).1.length ≤ a.length := by
  unfold sumS
  split
  · simp [sumI]
  · simp
theorem scaleS_len (l : List Int) (n d : Int) : (scaleS l n d).1.length ≤ l.length := by
  unfold scaleS
  split
  · simp [scaleI]
  · simp
theorem hardS_len (l : List Int) : (hardS l).1.length ≤ l.length := by
  unfold hardS
  split
  · simp [hardI]
  · simp
theorem idealS_len (l : List Int) (m : Int) : (idealS l m).1.length ≤ l.length := by
  unfold idealS
  split
  · split
    · simp [idealI]
    · simp
  · simp
set_option maxRecDepth 100000 in
set_option maxHeartbeats 4000000 in
theorem scales_walk {A : Option Addr} {n c : Nat} {p q : Int} {xs : List Int} {w : World} (hK : Kinds w) (h : Rd .i64 w w.heap.size A n xs) :
    Calls Tryd.prog 5 #[.slice A n c, .int .i64 p, .int .i64 q] w fun e w' => e = .returned (.bool true) ∧ Below w.heap.size w w' := by
  have hW := Lib.hid (fun (u : World) (hb : Below w.heap.size w u) => works_any (hK.step hb))
  have hls := h.len
  by_cases hn : n ≤ 500
  · have hn1 : ¬ (500 : Int) < (n : Int) := by omega
    have hS := Lib.hid (Scale_any (c := c) (num := p) (den := q) hK h (by omega))
    have hR := Lib.hid (fun (u : World) (hb : Below w.heap.size w u) => refScale_any (c := c) (p := p) (q := q) (h.step hb) (by omega))
    have hN := Lib.hid (fun (e : Int) (u : World) => num_any (e := e) (w := u))
    have hle := scaleS_len xs p q
    rw [hls] at hle
    generalize scaleS xs p q = r at *
    obtain ⟨ys, k⟩ := r
    dsimp only at hle
    clear hK h hls
    go_enter Tryd.func5, Tryd.ntmps5
    go_wp2_with fail
    refine hS.out.mono ?_
    rintro e w1 ⟨A1, c1, rfl, o1, b1⟩
    have R1 := Rd.of_own o1
    try dsimp only at R1 ⊢
    clear hS o1
    go_wp2_with fail
    refine (hR.out _ b1).mono ?_
    rintro e w2 ⟨A2, c2, rfl, o2, b2'⟩
    have R2 := Rd.of_own o2
    have R12 := R1.step b2'
    have b2 := b1.trans (b2'.mono b1.size)
    try dsimp only at R2 ⊢
    clear hR o2 R1 b1 b2'
    have hs := Lib.hid (sameI_true (c := c1) (c' := c2) R12 R2 (by omega))
    have B2 := Lib.hid b2
    clear R12 R2 b2
    go_wp2_with fail
    refine hs.out.mono ?_
    rintro e w3 ⟨rfl, b3'⟩
    have B3 := Lib.hid (B2.out.trans (b3'.mono B2.out.size))
    have HW := Lib.hid (hW.out _ B3.out)
    clear hs b3' B2 hW
    go_wp2_with (first | (go_at_call 18; refine (hN.out _ _).mono ?_; rintro e w ⟨rfl, rfl⟩) | (go_at_call 14; refine HW.out.mono ?_; rintro e w5 ⟨rfl, b5⟩) | fail)
    go_ret
    exact ⟨rfl, B3.out.trans (b5.mono B3.out.size)⟩
  · have hn1 : (500 : Int) < (n : Int) := by omega
    have HW := Lib.hid (hW.out w (Below.refl _ _))
    clear hK h hW hn
    go_enter Tryd.func5, Tryd.ntmps5
    go_wp2_with (first | (go_at_call 14; refine HW.out.mono ?_; rintro e w5 ⟨rfl, b5⟩) | fail)
    go_ret
    exact ⟨rfl, b5⟩
end Go.Proofs.YtkkombhpiagngaaDoor
