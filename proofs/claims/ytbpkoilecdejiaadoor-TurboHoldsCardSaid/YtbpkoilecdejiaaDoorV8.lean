/-
  Encode, Bits. Encode whole, Bits. Check.
-/
import Derived.Test.YtbpkoilecdejiaaDoorV5
import Derived.Test.YtbpkoilecdejiaaDoorS3
namespace Go.Proofs.YtbpkoilecdejiaaDoor
/-! ### Encode, Bits. -/
section
set_option maxRecDepth 100000
open Go.RowKit Go.Shelf BigFrame

attribute [local go_sem] Oper.semAt_some

/-- Where Encode's loop is: its word, as far as it is known. -/
structure EcI (w : World) (B T D C : Nat) (A : Option Addr) (c : Nat) (xs : List Int) (cd i h : Nat) (W : World) : Prop where
  tbox : Boxed W T 22 (.slice (some ⟨D, 0, none⟩) (3 * (xs.length + 4)) (3 * (xs.length + 4)))
  cbox : Boxed W C 22 (.slice A xs.length c)
  word : ∃ ys, W.ownsRow w.heap.size 5 1 (.slice (some ⟨D, 0, none⟩) (3 * (xs.length + 4)) (3 * (xs.length + 4))) (3 * (xs.length + 4)) (ys.map (Value.int .u8)) ∧ ys.length = 3 * (xs.length + 4) ∧ Met ys (tbI xs) xs.length cd i ∧
    (h = 1 → ys[sysN (piK xs.length) xs.length (cd + 1) i]?.getD 0 = (tbI xs)[sysN (piK xs.length) xs.length (cd + 1) i]?.getD 0)
  inp : Rd .u8 W w.heap.size A xs.length xs
  kin : Kinds W
  low : Below w.heap.size w W
section
variable {w W W' : World} {B T D C : Nat} {A : Option Addr} {c : Nat} {xs : List Int} {cd i h : Nat}
theorem EcI.below (hI : EcI w B T D C A c xs cd i h W) (hb : Below B W W') (hT : T < B) (hD : D < B) (hC : C < B) (hw : w.heap.size ≤ B) (h0 : 0 < B) : EcI w B T D C A c xs cd i h W' := by
  obtain ⟨ys, h1, h2, h3, h4⟩ := hI.word
  exact ⟨Boxed.below hI.tbox hb hT, Boxed.below hI.cbox hb hC, ⟨ys, ownsRow_block h1 (fun g hg => by simp only [Value.ownBlock, Option.some.injEq] at hg; subst hg; exact hb.block _ hD), h2, h3, h4⟩, hI.inp.below' hb hw, hI.kin.below hb h0, hI.low.trans (hb.mono hw)⟩
theorem EcI.put (hI : EcI w B T D C A c xs cd i h W) (hTD : T ≠ D) (hCD : C ≠ D) (hD : w.heap.size ≤ D) (h0 : 0 < w.heap.size) {x : Nat} {h' i' : Nat}
    (hm : ∀ ys : List Int, ys.length = 3 * (xs.length + 4) → Met ys (tbI xs) xs.length cd i → (h = 1 → ys[sysN (piK xs.length) xs.length (cd + 1) i]?.getD 0 = (tbI xs)[sysN (piK xs.length) xs.length (cd + 1) i]?.getD 0) → Met (ys.set x ((tbI xs)[x]?.getD 0)) (tbI xs) xs.length cd i' ∧
      (h' = 1 → (ys.set x ((tbI xs)[x]?.getD 0))[sysN (piK xs.length) xs.length (cd + 1) i']?.getD 0 = (tbI xs)[sysN (piK xs.length) xs.length (cd + 1) i']?.getD 0)) :
    EcI w B T D C A c xs cd i' h' (W.setCell ⟨D, x, none⟩ (.int .u8 ((tbI xs)[x]?.getD 0))) := by
  obtain ⟨ys, h1, h2, h3, h4⟩ := hI.word
  have hst := (h1.stored x (.int .u8 ((tbI xs)[x]?.getD 0))).1
  rw [← List.map_set] at hst
  obtain ⟨m1, m2⟩ := hm ys h2 h3 h4
  exact ⟨(Below.heap_setCell _ _ _ _ (show T ≠ D from hTD)).trans hI.tbox, (Below.heap_setCell _ _ _ _ (show C ≠ D from hCD)).trans hI.cbox, ⟨_, hst, by rw [List.length_set, h2], m1, m2⟩, hI.inp.setCell hD _, hI.kin.below ((Below.refl w.heap.size W).setCell (p := ⟨D, x, none⟩) hD _) h0, hI.low.setCell (p := ⟨D, x, none⟩) hD _⟩
/-- The first of a step's two writes, the second. -/
theorem EcI.first (hI : EcI w B T D C A c xs cd i 0 W) (hTD : T ≠ D) (hCD : C ≠ D) (hD : w.heap.size ≤ D) (h0 : 0 < w.heap.size) (hs : IsSize xs.length) (hcd : cd < 2) :
    EcI w B T D C A c xs cd i 1 (W.setCell ⟨D, sysN (piK xs.length) xs.length (cd + 1) i, none⟩ (.int .u8 (plU xs cd i))) := by
  have hl := (sysN_lt (p := piK xs.length) (k := xs.length) (code := cd + 1) (i := i) (fun j _ => piK_lt hs j) (by omega)).1
  exact hI.put hTD hCD hD h0 (fun ys h2 h3 _ => ⟨h3.set (by rw [h2]; exact hl), fun _ => set_here (by rw [h2]; exact hl)⟩)
theorem EcI.second (hI : EcI w B T D C A c xs cd i 1 W) (hTD : T ≠ D) (hCD : C ≠ D) (hD : w.heap.size ≤ D) (h0 : 0 < w.heap.size) (hcd : cd < 2) :
    EcI w B T D C A c xs cd (i + 1) 0 (W.setCell ⟨D, parN xs.length (cd + 1) i, none⟩ (.int .u8 (plP xs cd i))) := by
  have hl := parN_lt (k := xs.length) (code := cd + 1) (i := i) (by omega)
  exact hI.put hTD hCD hD h0 (fun ys h2 h3 h4 => ⟨(h3.set (by rw [h2]; exact hl)).step (set_same (h4 rfl) (by rw [h2]; exact hl)) (set_here (by rw [h2]; exact hl)), fun e => by cases e⟩)
end
theorem exS_bits {n : Nat} {xs : List Int} (hs : IsSize n) (hx : Bits xs) : exS (n : Int) xs = 0 := by
  unfold exS
  rw [isB_nat, decide_eq_true hs, valid_of_bits hx]
  rfl
set_option maxHeartbeats 8000000 in
theorem turboEncode_ok {n : Nat} (hn : 16 ≤ n) {A : Option Addr} {c : Nat} {xs : List Int} {w : World} (hK : Kinds w) (hI : Rd .u8 w w.heap.size A xs.length xs) (hx : Bits xs) (hs : IsSize xs.length) :
    CallsIn Fence.wide n Tryd.prog 11 #[.slice A xs.length c] w (RetBytes 5 w (tbI xs, 0)) := by
  have hk := size_le hs
  have hEx := Lib.hid (fun (u : World) (h : Below w.heap.size w u) => examine_any (k := (xs.length : Int)) (c := c) (hK.step h) ((hI.below h).more h.size) hx.byte (by omega))
  rw [exS_bits hs hx] at hEx
  have hSz := Lib.hid (fun (u : World) (h : Below w.heap.size w u) => Size_any (k := (xs.length : Int)) (hK.step h))
  rw [sizeS_size hs] at hSz
  have hPl := Lib.hid (fun (u : World) => places_any (A := A) (n := xs.length) (c := c) (w := u))
  have hmk := make_bytes (3 * (xs.length + 4)) (3 * (xs.length + 4)) (Nat.le_refl _) (by omega)
  have e3 : ((3 * (xs.length + 4) : Nat) : Int) = 3 * ((xs.length : Int) + 4) := by omega
  rw [e3] at hmk
  refine callsIn_of_wp_marks Tryd.func11 rfl trivial ?_ rfl
  simp only [Tryd.ntmps11, List.size_toArray, List.length_cons, List.length_nil, Nat.reduceAdd, Nat.reduceSub, Array.replicate_succ, Array.replicate_zero, List.push_toArray, List.append_toArray, List.nil_append, List.cons_append]
  have HI := Lib.hid hI
  have hK0 := hK.lt
  have HK := Lib.hid hK
  clear hK hI
  gi_wp2
  refine wpIn_wide_scope_forward 0 rfl ?_
  have t0 := Boxed.new w 22 (.slice none 0 0)
  have hb0 := (Below.refl w.heap.size w).alloc (Nat.le_refl _) (.cells #[.slice none 0 0] 22)
  have hs0 : (w.alloc (.cells #[.slice none 0 0] 22)).heap.size = w.heap.size + 1 := by simp
  gi_wp2
  generalize w.alloc (.cells #[.slice none 0 0] 22) = W0 at *
  refine ⟨trivial, fun _ => by omega, ?_⟩
  refine (callsIn_wide.2 (hEx.out _ hb0)).mono ?_
  rintro e w1 ⟨rfl, hb1⟩
  rw [hs0] at hb1
  have t1 := Boxed.below t0 hb1 (by omega)
  have hb2 := hb0.trans (hb1.mono (by omega))
  have hz1 := hb1.size
  rw [hs0] at hz1
  clear t0 hb0 hb1 hs0 hEx
  gi_wp2
  refine ⟨trivial, fun _ => by omega, ?_⟩
  refine (callsIn_wide.2 (hSz.out _ hb2)).mono ?_
  rintro e w2 ⟨rfl, hb3⟩
  have t2 := Boxed.below t1 hb3 t1.lt
  have hb4 := hb2.trans (hb3.mono hb2.size)
  have hz2 := hb3.size
  obtain ⟨D, hD⟩ : ∃ D, w2.heap.size = D := ⟨_, rfl⟩
  have f0 := t2.frozen
  have cc0 := t2.cell
  have t3 := (t2.alloc (.cells (madeCells #[.int .u8 0] (3 * (xs.length + 4))) 5)).set (.slice (some ⟨D, 0, none⟩) (3 * (xs.length + 4)) (3 * (xs.length + 4)))
  have o3 : ((w2.alloc (.cells (madeCells #[.int .u8 0] (3 * (xs.length + 4))) 5)).setCell ⟨w.heap.size, 0, none⟩ (.slice (some ⟨D, 0, none⟩) (3 * (xs.length + 4)) (3 * (xs.length + 4)))).ownsRow w.heap.size 5 1 (.slice (some ⟨D, 0, none⟩) (3 * (xs.length + 4)) (3 * (xs.length + 4))) (3 * (xs.length + 4)) ((List.replicate (3 * (xs.length + 4)) (0 : Int)).map (Value.int .u8)) := by
    have h := own_zeros (w := w2) (B := w.heap.size) (n := 3 * (xs.length + 4)) (m := 3 * (xs.length + 4)) (by have := hb4.size; omega) (by omega) (Nat.le_refl _)
    rw [hD] at h
    exact ownsRow_block h (fun g hg => by
      simp only [Value.ownBlock, Option.some.injEq] at hg
      subst hg
      exact Below.heap_setCell _ _ _ _ (show D ≠ w.heap.size by omega))
  have hb5 := (hb4.alloc hb4.size (.cells (madeCells #[.int .u8 0] (3 * (xs.length + 4))) 5)).setCell (p := ⟨w.heap.size, 0, none⟩) (Nat.le_refl _) (.slice (some ⟨D, 0, none⟩) (3 * (xs.length + 4)) (3 * (xs.length + 4)))
  have hz5 : ((w2.alloc (.cells (madeCells #[.int .u8 0] (3 * (xs.length + 4))) 5)).setCell ⟨w.heap.size, 0, none⟩ (.slice (some ⟨D, 0, none⟩) (3 * (xs.length + 4)) (3 * (xs.length + 4)))).heap.size = D + 1 := by simp [World.setCell, hD]
  have g1 : (w2.alloc (.cells (madeCells #[.int .u8 0] (3 * (xs.length + 4))) 5)).cell? ⟨w.heap.size, 0, none⟩ = some (.slice none 0 0) := (t2.alloc _).cell
  have g2 : (w2.alloc (.cells (madeCells #[.int .u8 0] (3 * (xs.length + 4))) 5)).frozen? ⟨w.heap.size, 0, none⟩ = false := (t2.alloc _).frozen
  clear t1 t2 hb2 hb3 hb4 f0 cc0 hSz
  gi_wp2
  generalize (w2.alloc (.cells (madeCells #[.int .u8 0] (3 * (xs.length + 4))) 5)).setCell ⟨w.heap.size, 0, none⟩ (.slice (some ⟨D, 0, none⟩) (3 * (xs.length + 4)) (3 * (xs.length + 4))) = W5 at *
  refine ⟨trivial, fun _ => by omega, ?_⟩
  refine (callsIn_wide.2 (hPl.out _)).mono ?_
  rintro e w6 ⟨rfl, rfl⟩
  rw [hz5]
  have hD1 : w.heap.size + 1 ≤ D := by omega
  have hI0 : EcI w (D + 2) w.heap.size D (D + 1) A c xs 0 0 0 (W5.alloc (.cells #[.slice A xs.length c] 22)) := by
    have cb := Boxed.new W5 22 (.slice A xs.length c)
    rw [hz5] at cb
    have hb6 := hb5.alloc hb5.size (.cells #[.slice A xs.length c] 22)
    exact ⟨t3.alloc _, cb, ⟨_, o3.alloc _, by simp, Met.zero, fun e => by cases e⟩, HI.out.below hb6, HK.out.step hb6, hb6⟩
  have hs6 : (W5.alloc (.cells #[.slice A xs.length c] 22)).heap.size = D + 2 := by simp [hz5]
  generalize W5.alloc (.cells #[.slice A xs.length c] 22) = W6 at *
  clear t3 o3 hb5 hz5 hPl hmk e3 hD hz1 hz2
  gi_wp2
  refine wpIn_places (n := n) (A := A) (c := c) (C := D + 1) (Bx := w.heap.size) (by omega) hx hs rfl rfl (EcI w (D + 2) w.heap.size D (D + 1) A c xs) (fun _ _ => False)
    (fun cd i h W W' hh hb => hh.below (by rw [← hs6]; exact hb) (by omega) (by omega) (by omega) (by omega) (by omega)) (fun _ _ _ hh _ => hh)
    (fun cd i h W hh => hh.cbox.cell) (fun cd i h W hh => hh.inp) (fun cd i h W hh => hh.kin)
    (fun cd W _ hh => by
      obtain ⟨ys, g1, g2, g3, _⟩ := hh.word
      exact ⟨hh.tbox, hh.cbox, ⟨ys, g1, g2, g3.next, fun e => by cases e⟩, hh.inp, hh.kin, hh.low⟩) hI0
    (fun x u => { tmps := #[.slice A xs.length c, undef, .slice none 0 0, .int .i64 0, .pointer (some ⟨w.heap.size, 0, none⟩), .int .i64 0, .int .i64 x, .int .u8 u, .slice A xs.length c, .int .i64 (xs.length : Int), .slice A xs.length c, .int .i64 0, .int .i64 0, .bool false, .slice A xs.length c, .int .i64 (xs.length : Int), .int .i64 (3 * ((xs.length : Int) + 4)), .slice (some ⟨D, 0, none⟩) (3 * (xs.length + 4)) (3 * (xs.length + 4)), .slice A xs.length c, .func (.func 39) #[] #[.pointer (some ⟨D + 1, 0, none⟩)], .int .i64 x, .int .u8 u, undef, undef, undef, undef, undef, undef], defers := [] })
    ?assign ?b1 ?b2 ?done (fun _ _ _ _ hh _ => hh.elim)
  case assign =>
    intro lp x u W K hK
    gi_wp2
    exact hK
  case b1 =>
    intro lp cd i W hcd hi hh hbig
    have hl := (sysN_lt (p := piK xs.length) (k := xs.length) (code := cd + 1) (i := i) (fun j _ => piK_lt hs j) (by omega)).1
    have F := Lib.hid (hh.first (by omega) (by omega) (by omega) hK0 hs hcd)
    have ct := hh.tbox.cell
    obtain ⟨ys, g1, g2, _, _⟩ := hh.word
    have fr := g1.frozenAt (sysN (piK xs.length) xs.length (cd + 1) i)
    obtain ⟨b9, o9, e9, _, cw⟩ := (Rd.of_own g1).cells _ hl
    injection e9 with e9
    injection e9 with e9 e10
    subst e9 e10
    rw [Nat.zero_add] at cw
    have KU : Hid (KeepsUp (D + 2) W (W.setCell ⟨D, sysN (piK xs.length) xs.length (cd + 1) i, none⟩ (.int .u8 (plU xs cd i)))) := Lib.hid ⟨by simp [World.setCell], fun j hj _ => Below.heap_setCell _ _ _ _ (show j ≠ D by omega)⟩
    unfold plX
    clear hh g1 g2 hI0
    generalize sysN (piK xs.length) xs.length (cd + 1) i = sx at *
    generalize plU xs cd i = uu at *
    have l0 : (0 : Int) ≤ (sx : Int) := by omega
    have l1 : (sx : Int) < ((3 * (xs.length + 4) : Nat) : Int) := by omega
    gi_wp2
    exact ⟨KU.out, F.out⟩
  case b2 =>
    intro lp cd i W hcd hi hh hbig
    have hl := parN_lt (k := xs.length) (code := cd + 1) (i := i) (by omega)
    have F := Lib.hid (hh.second (by omega) (by omega) (by omega) hK0 hcd)
    have ct := hh.tbox.cell
    obtain ⟨ys, g1, g2, _, _⟩ := hh.word
    have fr := g1.frozenAt (parN xs.length (cd + 1) i)
    obtain ⟨b9, o9, e9, _, cw⟩ := (Rd.of_own g1).cells _ hl
    injection e9 with e9
    injection e9 with e9 e10
    subst e9 e10
    rw [Nat.zero_add] at cw
    have KU : Hid (KeepsUp (D + 2) W (W.setCell ⟨D, parN xs.length (cd + 1) i, none⟩ (.int .u8 (plP xs cd i)))) := Lib.hid ⟨by simp [World.setCell], fun j hj _ => Below.heap_setCell _ _ _ _ (show j ≠ D by omega)⟩
    unfold plY
    clear hh g1 g2 hI0
    generalize parN xs.length (cd + 1) i = sx at *
    generalize plP xs cd i = uu at *
    have l0 : (0 : Int) ≤ (sx : Int) := by omega
    have l1 : (sx : Int) < ((3 * (xs.length + 4) : Nat) : Int) := by omega
    gi_wp2
    exact ⟨KU.out, F.out⟩
  case done =>
    intro D' W hD' hh hKD
    rw [hs6] at hD'
    obtain ⟨ys, g1, g2, g3, _⟩ := hh.word
    have hfull := g3.full hs g2 (tbI_length xs)
    subst hfull
    have ct := hh.tbox.cell
    have HB := Lib.hid hh.low
    have G1 := Lib.hid g1
    have hl := tbI_length xs
    subst hD'
    clear hh g1 g2 g3 hI0
    gi_wp2
    exact leaves_one hKD ⟨_, results_tmp2 rfl _ _ _, RetBytes.mk_ hl (ownsRow_putObj G1.out _ hKD rfl) (Nat.le_refl _) (below_put HB.out _ (by omega) (Nat.le_refl _)) rfl⟩
end

/-! ### Encode whole, Bits. -/
section
set_option maxRecDepth 100000
open Go.RowKit

set_option maxHeartbeats 2000000 in
theorem turboEncode_no {A : Option Addr} {n c : Nat} {xs : List Int} {w : World} {e : Int} (hK : Kinds w) (hI : Rd .u8 w w.heap.size A n xs) (hb : Byte xs) (hn : n ≤ 2199023255552) (he : exS (n : Int) xs = e) (h0 : e = 2 ∨ e = 3) :
    Calls Tryd.prog 11 #[.slice A n c] w (RetBytes 5 w ([], e)) := by
  have hb0 := (Below.refl w.heap.size w).alloc (Nat.le_refl _) (.cells #[.slice none 0 0] 22)
  have hEx := Lib.hid (examine_any (k := (n : Int)) (c := c) (hK.step hb0) ((hI.below hb0).more hb0.size) hb hn)
  rw [he] at hEx
  have hsz := hb0.size
  clear he hI hb hK
  rcases h0 with rfl | rfl
  all_goals
    go_enter Tryd.func11, Tryd.ntmps11
    go_wp2
    refine wp_scope_forward 0 rfl ?_
    go_wp2_with fail
    refine hEx.out.mono ?_
    rintro e w1 ⟨rfl, hb1⟩
    have hb2 := hb0.trans (hb1.mono hsz)
    go_wp2_with fail
    go_step3
    refine ⟨rfl, ?_⟩
    go_wp2_with fail
    rw [Exit.noGoto_ret]
    go_ret2
    exact RetBytes.nil_ hb2
theorem turboEncode_any {A : Option Addr} {n c : Nat} {xs : List Int} {w : World} (hK : Kinds w) (hI : Rd .u8 w w.heap.size A n xs) (hb : Byte xs) (hn : n ≤ 2199023255552) :
    Calls Tryd.prog 11 #[.slice A n c] w (RetBytes 5 w (tbS xs)) := by
  have hl := hI.len
  by_cases hk : isB (n : Int) = true
  · by_cases hv : validB xs = true
    · have hs : IsSize n := by rw [isB_nat] at hk; simpa using hk
      have e : tbS xs = (tbI xs, 0) := by unfold tbS; rw [hl, hk, hv]; rfl
      rw [e]
      subst hl
      exact callsIn_wide.1 (turboEncode_ok (n := 16) (Nat.le_refl _) hK hI (validB_bits hb hv) hs)
    · have hv := Bool.eq_false_iff.2 hv
      have e : tbS xs = ([], 3) := by unfold tbS; rw [hl, hk, hv]; rfl
      rw [e]
      exact turboEncode_no hK hI hb hn (by unfold exS; rw [hk, hv]; rfl) (.inr rfl)
  · have hk := Bool.eq_false_iff.2 hk
    have e : tbS xs = ([], 2) := by unfold tbS; rw [hl, hk]; rfl
    rw [e]
    exact turboEncode_no hK hI hb hn (by unfold exS; rw [hk]; rfl) (.inl rfl)
theorem slice_frontB {A : Option Addr} {n c m : Nat} (hm : m ≤ c) (u : World) : (Instr.slice 22 (.slice A n c) none (some (.int .i64 (m : Int))) none).run Tryd.prog u = .ok (.slice A m c) u := by
  rcases A with _ | a
  · simp [Instr.slice, Instr.sliceBounds, Instr.sliceBound, run_underlying Tryd.underlying22, asIntOf, go_sem, hm]
  · simp [Instr.slice, Instr.sliceBounds, Instr.sliceBound, run_underlying Tryd.underlying22, asIntOf, go_sem, hm]
set_option maxHeartbeats 2000000 in
theorem turboBits_no {A : Option Addr} {n c : Nat} {xs : List Int} {w : World} {e : Int} (hK : Kinds w) (hI : Rd .u8 w w.heap.size A n xs) (hb : Byte xs) (hn : n ≤ 2199023255552) (he : exS (inpN n) xs = e) (h0 : e = 2 ∨ e = 3) :
    Calls Tryd.prog 17 #[.slice A n c] w (RetBytes 5 w ([], e)) := by
  have hIn := Lib.hid (inputs_any (n := n) (w := w) hn)
  have hEx := Lib.hid (examine_any (k := inpN n) (c := c) hK hI hb hn)
  rw [he] at hEx
  clear he hI hb hK
  generalize inpN n = k at *
  rcases h0 with rfl | rfl
  all_goals
    go_enter Tryd.func17, Tryd.ntmps17
    go_wp2
    refine wp_scope_forward 0 rfl ?_
    go_wp2_with (go_at_call 33; refine hIn.out.mono ?_; rintro e w1 ⟨rfl, he⟩; obtain rfl := he.symm)
    refine hEx.out.mono ?_
    rintro e w1 ⟨rfl, hb1⟩
    go_wp2_with fail
    go_step3
    refine ⟨rfl, ?_⟩
    go_wp2_with fail
    rw [Exit.noGoto_ret]
    go_ret2
    exact RetBytes.nil_ hb1
set_option maxHeartbeats 2000000 in
theorem turboBits_ok {A : Option Addr} {n c m : Nat} {xs : List Int} {w : World} (hK : Kinds w) (hI : Rd .u8 w w.heap.size A n xs) (hb : Byte xs) (hn : n ≤ 2199023255552) (hc : n ≤ c) (hs : IsSize m) (hm : n = 3 * (m + 4)) (hv : validB xs = true) :
    Calls Tryd.prog 17 #[.slice A n c] w (RetBytes 5 w (xs.take m, 0)) := by
  have hIn := Lib.hid (inputs_any (n := n) (w := w) hn)
  have hEx := Lib.hid (examine_any (k := (m : Int)) (c := c) hK hI hb hn)
  have e1 : inpN n = (m : Int) := by unfold inpN; rw [if_pos (by omega)]; omega
  rw [e1] at hIn
  rw [show exS (m : Int) xs = 0 by unfold exS; rw [isB_nat, decide_eq_true hs, hv]; rfl] at hEx
  have hsl := slice_frontB (A := A) (n := n) (c := c) (m := m) (by omega)
  have hCl := Lib.hid (fun (u : World) (h : Below w.heap.size w u) => clone_any (c := c) (((hI.below h).more h.size).take (m := m) (by omega)) (by omega))
  have hmk := size_le hs
  have hl : (xs.take m).length = m := by rw [List.length_take, hI.len]; omega
  clear e1 hI hb hK hs hm hv
  go_enter Tryd.func17, Tryd.ntmps17
  go_wp2
  refine wp_scope_forward 0 rfl ?_
  go_wp2_with (go_at_call 33; refine hIn.out.mono ?_; rintro e w1 ⟨rfl, he⟩; obtain rfl := he.symm)
  refine hEx.out.mono ?_
  rintro e w1 ⟨rfl, hb1⟩
  go_wp2_with fail
  refine (hCl.out _ hb1).mono ?_
  rintro e w2 ⟨A2, c2, rfl, hO, hb2⟩
  have hF := Lib.hid (RetBytes.mk_ (k := 0) hl hO hb1.size (hb1.trans (hb2.mono hb1.size)) rfl)
  clear hO hb1 hb2
  go_wp2_with fail
  refine jump_ret ?_
  go_ret2
  exact hF.out
theorem turboBits_any {A : Option Addr} {n c : Nat} {xs : List Int} {w : World} (hK : Kinds w) (hI : Rd .u8 w w.heap.size A n xs) (hb : Byte xs) (hn : n ≤ 2199023255552) (hc : n ≤ c) :
    Calls Tryd.prog 17 #[.slice A n c] w (RetBytes 5 w (bitsS xs)) := by
  by_cases h : n % 3 = 0 ∧ isB (((n / 3 : Nat) : Int) - 4) = true
  · obtain ⟨m, hs, hm⟩ := word_len h
    rw [bitsS_size hs (by rw [hI.len, hm])]
    by_cases hv : validB xs = true
    · rw [if_pos hv]
      exact turboBits_ok hK hI hb hn hc hs hm hv
    · rw [if_neg hv]
      exact turboBits_no hK hI hb hn (by unfold exS; rw [(inpN_isB n).2 h, Bool.eq_false_iff.2 hv]; rfl) (.inr rfl)
  · rw [bitsS_no (by rw [hI.len]; exact h)]
    exact turboBits_no hK hI hb hn (by unfold exS; rw [Bool.eq_false_iff.2 (fun e => h ((inpN_isB n).1 e))]; rfl) (.inl rfl)
end

/-! ### Check. -/
section
set_option maxRecDepth 100000
open Go.RowKit Go.Shelf BigFrame

attribute [local go_sem] Oper.semAt_some

/-- What Check answers. -/
def chkS (ws : List Int) : Int := if (bitsS ws).2 ≠ 0 then (bitsS ws).2 else if tbI (bitsS ws).1 = ws then 0 else 11
theorem chkS_no {ws : List Int} (h : (bitsS ws).2 ≠ 0) : chkS ws = (bitsS ws).2 := by unfold chkS; rw [if_pos h]
theorem chkS_ok {ws xs : List Int} (h : bitsS ws = (xs, 0)) : chkS ws = if tbI xs = ws then 0 else 11 := by unfold chkS; rw [h]; rfl
set_option maxHeartbeats 2000000 in
theorem Check_no {A : Option Addr} {n c : Nat} {ws : List Int} {w : World} (hK : Kinds w) (hI : Rd .u8 w w.heap.size A n ws) (hb : Byte ws) (hn : n ≤ 2199023255552) (hc : n ≤ c) (h : (bitsS ws).2 = 2 ∨ (bitsS ws).2 = 3) :
    Calls Tryd.prog 19 #[.slice A n c] w fun e w' => e = .returned (.int .i64 (chkS ws)) ∧ Below w.heap.size w w' := by
  have hb0 := (Below.refl w.heap.size w).alloc (Nat.le_refl _) (.cells #[.slice A n c] 22)
  have c0 := (Boxed.new w 22 (.slice A n c)).cell
  have hB := Lib.hid (turboBits_any (hK.step hb0) ((hI.below hb0).more hb0.size) hb hn hc)
  rw [chkS_no (by rcases h with h | h <;> rw [h] <;> decide)]
  have hsz := hb0.size
  unfold RetBytes at hB
  obtain ⟨⟨ys, k⟩, hr⟩ : ∃ r, bitsS ws = r := ⟨_, rfl⟩
  rw [hr] at hB h ⊢
  simp only at hB h ⊢
  clear hr hI hb hK
  rcases h with rfl | rfl
  all_goals
    go_enter Tryd.func19, Tryd.ntmps19
    go_wp2
    refine wp_scope_forward 0 rfl ?_
    go_wp2_with fail
    refine hB.out.mono ?_
    rintro e w1 ⟨A2, c2, rfl, _, hb1⟩
    have hb2 := hb0.trans (hb1.mono hsz)
    have hb3 := hb2.alloc hb2.size (.cells #[.int .i64 2] 24)
    have hb4 := hb2.alloc hb2.size (.cells #[.int .i64 3] 24)
    have d3 := (Boxed.new w1 24 (.int .i64 2)).cell
    have d4 := (Boxed.new w1 24 (.int .i64 3)).cell
    clear hb1 hb2
    go_wp2_with fail
    go_step3
    refine ⟨rfl, ?_⟩
    go_wp2_with fail
    rw [Exit.noGoto_ret]
    go_ret
    first | exact ⟨rfl, hb3⟩ | exact ⟨rfl, hb4⟩
/-- Where Check's loop is. -/
structure CkI (w : World) (T E C : Nat) (A A2 : Option Addr) (c c2 : Nat) (ws xs : List Int) (cd i h : Nat) (W : World) : Prop where
  tbox : Boxed W T 22 (.slice A ws.length c)
  ebox : Boxed W E 24 (.int .i64 0)
  cbox : Boxed W C 22 (.slice A2 xs.length c2)
  met : Met ws (tbI xs) xs.length cd i
  half : h = 1 → ws[sysN (piK xs.length) xs.length (cd + 1) i]?.getD 0 = (tbI xs)[sysN (piK xs.length) xs.length (cd + 1) i]?.getD 0
  wrd : Rd .u8 W w.heap.size A ws.length ws
  inp : Rd .u8 W E A2 xs.length xs
  kin : Kinds W
  low : Below w.heap.size w W
theorem CkI.below {w W W' : World} {B T E C : Nat} {A A2 : Option Addr} {c c2 : Nat} {ws xs : List Int} {cd i h : Nat} (hI : CkI w T E C A A2 c c2 ws xs cd i h W) (hb : Below B W W') (hT : T < B) (hE : E < B) (hC : C < B) (hw : w.heap.size ≤ B) (h0 : 0 < B) : CkI w T E C A A2 c c2 ws xs cd i h W' :=
  ⟨Boxed.below hI.tbox hb hT, Boxed.below hI.ebox hb hE, Boxed.below hI.cbox hb hC, hI.met, hI.half, hI.wrd.below' hb hw, hI.inp.below' hb (Nat.le_of_lt hE), hI.kin.below hb h0, hI.low.trans (hb.mono hw)⟩
set_option maxHeartbeats 8000000 in
theorem Check_ok {n : Nat} (hn : 16 ≤ n) {A : Option Addr} {c : Nat} {ws xs : List Int} {w : World} (hK : Kinds w) (hI : Rd .u8 w w.heap.size A ws.length ws) (hb : Byte ws) (hc : ws.length ≤ c) (hs : IsSize xs.length) (hx : Bits xs) (hlen : ws.length = 3 * (xs.length + 4)) (hbs : bitsS ws = (xs, 0)) :
    CallsIn Fence.wide n Tryd.prog 19 #[.slice A ws.length c] w fun e w' => e = .returned (.int .i64 (chkS ws)) ∧ Below w.heap.size w w' := by
  rw [chkS_ok hbs]
  have hk := size_le hs
  have hb0 := (Below.refl w.heap.size w).alloc (Nat.le_refl _) (.cells #[.slice A ws.length c] 22)
  have t0 := Boxed.new w 22 (.slice A ws.length c)
  have hs0 : (w.alloc (.cells #[.slice A ws.length c] 22)).heap.size = w.heap.size + 1 := by simp
  have hB := Lib.hid (turboBits_any (hK.step hb0) ((hI.below hb0).more hb0.size) hb (by omega) hc)
  rw [hbs] at hB
  unfold RetBytes at hB
  have hPl := Lib.hid (fun (u : World) (A2 : Option Addr) (c2 : Nat) => places_any (A := A2) (n := xs.length) (c := c2) (w := u))
  refine callsIn_of_wp_marks Tryd.func19 rfl trivial ?_ rfl
  simp only [Tryd.ntmps19, List.size_toArray, List.length_cons, List.length_nil, Nat.reduceAdd, Nat.reduceSub, Array.replicate_succ, Array.replicate_zero, List.push_toArray, List.append_toArray, List.nil_append, List.cons_append]
  have HI := Lib.hid hI
  have hK0 := hK.lt
  have HK := Lib.hid hK
  have c0 := t0.cell
  have HLEN := Lib.hid hlen
  have hwl : ws.length ≤ 100000 := by omega
  clear hK hI hlen hbs hb
  gi_wp2
  refine wpIn_wide_scope_forward 0 rfl ?_
  gi_wp2
  generalize w.alloc (.cells #[.slice A ws.length c] 22) = W0 at *
  refine ⟨trivial, fun _ => by omega, ?_⟩
  refine (callsIn_wide.2 hB.out).mono ?_
  rintro e w1 ⟨A2, c2, rfl, ho1, hb1⟩
  simp only
  have t1 := Boxed.below t0 hb1 (by omega)
  have r1 := Rd.of_own ho1
  rw [hs0] at hb1
  have hb2 := hb0.trans (hb1.mono (by omega))
  have hz1 := hb1.size
  rw [hs0] at hz1
  obtain ⟨E, hE⟩ : ∃ E, w1.heap.size = E := ⟨_, rfl⟩
  rw [hE] at hz1
  have e2 := Boxed.new w1 24 (.int .i64 0)
  rw [hE] at e2 r1
  have t2 := t1.alloc (.cells #[.int .i64 0] 24)
  have r2 := r1.alloc (by omega) (.cells #[.int .i64 0] 24)
  have hb3 := hb2.alloc hb2.size (.cells #[.int .i64 0] 24)
  have hs2 : (w1.alloc (.cells #[.int .i64 0] 24)).heap.size = E + 1 := by simp [hE]
  have ce2 := e2.cell
  clear t0 t1 hb0 hb1 hb2 hs0 c0 hB r1 ho1
  gi_wp2
  generalize w1.alloc (.cells #[.int .i64 0] 24) = W2 at *
  refine ⟨trivial, fun _ => by omega, ?_⟩
  refine (callsIn_wide.2 (hPl.out _ _ _)).mono ?_
  rintro e w3 ⟨rfl, rfl⟩
  rw [hs2]
  have hI0 : CkI w w.heap.size E (E + 1) A A2 c c2 ws xs 0 0 0 (W2.alloc (.cells #[.slice A2 xs.length c2] 22)) := by
    have cb := Boxed.new W2 22 (.slice A2 xs.length c2)
    rw [hs2] at cb
    have hb6 := hb3.alloc hb3.size (.cells #[.slice A2 xs.length c2] 22)
    exact ⟨t2.alloc _, e2.alloc _, cb, Met.zero, (fun e => by cases e), HI.out.below hb6, r2.alloc (by omega) _, HK.out.step hb6, hb6⟩
  have hs6 : (W2.alloc (.cells #[.slice A2 xs.length c2] 22)).heap.size = E + 2 := by simp [hs2]
  generalize W2.alloc (.cells #[.slice A2 xs.length c2] 22) = W6 at *
  clear t2 e2 r2 hb3 hs2 hPl ce2
  gi_wp2
  refine wpIn_places (n := n) (A := A2) (c := c2) (C := E + 1) (Bx := E) (by omega) hx hs rfl rfl (CkI w w.heap.size E (E + 1) A A2 c c2 ws xs) (fun cc W => cc = .goto 0 ∧ tbI xs ≠ ws ∧ Boxed W E 24 (.int .i64 11) ∧ Below w.heap.size w W)
    (fun cd i h W W' hh hb => hh.below (B := E + 2) (by rw [← hs6]; exact hb) (by omega) (by omega) (by omega) (by omega) (by omega)) (fun _ W W' hh hb => ⟨hh.1, hh.2.1, Boxed.below hh.2.2.1 hb (by rw [hs6]; omega), hh.2.2.2.trans (hb.mono (by rw [hs6]; omega))⟩)
    (fun cd i h W hh => hh.cbox.cell) (fun cd i h W hh => hh.inp) (fun cd i h W hh => hh.kin)
    (fun cd W _ hh => ⟨hh.tbox, hh.ebox, hh.cbox, hh.met.next, (fun e => by cases e), hh.wrd, hh.inp, hh.kin, hh.low⟩) hI0
    (fun x u => { tmps := #[.slice A ws.length c, .pointer (some ⟨w.heap.size, 0, none⟩), .int .i64 0, .slice A2 xs.length c2, .pointer (some ⟨E, 0, none⟩), .int .i64 x, .int .u8 u, .tuple #[.slice A2 xs.length c2, .int .i64 0], .slice A ws.length c, .tuple #[.slice A2 xs.length c2, .int .i64 0], .slice A2 xs.length c2, .int .i64 0, .int .i64 0, .bool false, .slice A2 xs.length c2, .func (.func 39) #[] #[.pointer (some ⟨E + 1, 0, none⟩)], .int .i64 x, .int .u8 u, undef, undef, undef, undef, undef, undef, undef], defers := [] })
    ?assign ?b1 ?b2 ?done ?stop
  case assign =>
    intro lp x u W K hK
    gi_wp2
    exact hK
  case b1 =>
    intro lp cd i W hcd hi hh hbig
    have hl := (sysN_lt (p := piK xs.length) (k := xs.length) (code := cd + 1) (i := i) (fun j _ => piK_lt hs j) (by omega)).1
    have hsl : sysN (piK xs.length) xs.length (cd + 1) i < ws.length := by rw [HLEN.out]; exact hl
    have ct := hh.tbox.cell
    have ce := hh.ebox.cell
    have fe := hh.ebox.frozen
    obtain ⟨b9, o9, e9, _, cw⟩ := hh.wrd.cells (sysN (piK xs.length) xs.length (cd + 1) i) (by rw [HLEN.out]; exact hl)
    subst e9
    by_cases hq : ws[sysN (piK xs.length) xs.length (cd + 1) i]?.getD 0 = (tbI xs)[sysN (piK xs.length) xs.length (cd + 1) i]?.getD 0
    · have F : Hid (CkI w w.heap.size E (E + 1) (some ⟨b9, o9, none⟩) A2 c c2 ws xs cd (i) 1 W) := Lib.hid ⟨hh.tbox, hh.ebox, hh.cbox, hh.met, fun _ => hq, hh.wrd, hh.inp, hh.kin, hh.low⟩
      have hne : ((ws[sysN (piK xs.length) xs.length (cd + 1) i]?.getD 0) != plU xs cd i) = false := by unfold plU; simp [hq]
      unfold plX
      clear hh hI0
      generalize ws[sysN (piK xs.length) xs.length (cd + 1) i]?.getD 0 = wx at *
      generalize plU xs cd i = ux at *
      generalize sysN (piK xs.length) xs.length (cd + 1) i = sx at *
      have l0 : (0 : Int) ≤ (sx : Int) := by omega
      have l1 : (sx : Int) < (ws.length : Int) := by omega
      gi_wp2
      exact ⟨KeepsUp.refl _ _, F.out⟩
    · have F : Hid (KeepsUp (E + 2) W (W.setCell ⟨E, 0, none⟩ (.int .i64 11)) ∧ (tbI xs ≠ ws ∧ Boxed (W.setCell ⟨E, 0, none⟩ (.int .i64 11)) E 24 (.int .i64 11) ∧ Below w.heap.size w (W.setCell ⟨E, 0, none⟩ (.int .i64 11)))) := Lib.hid ⟨⟨by simp [World.setCell], fun j hj _ => Below.heap_setCell _ _ _ _ (show j ≠ E by omega)⟩, fun e => hq (by rw [e]), hh.ebox.set _, hh.low.setCell (p := ⟨E, 0, none⟩) (by show w.heap.size ≤ E; omega) _⟩
      have hne : ((ws[sysN (piK xs.length) xs.length (cd + 1) i]?.getD 0) != plU xs cd i) = true := by unfold plU; simpa using hq
      unfold plX
      clear hh hI0
      generalize ws[sysN (piK xs.length) xs.length (cd + 1) i]?.getD 0 = wx at *
      generalize plU xs cd i = ux at *
      generalize sysN (piK xs.length) xs.length (cd + 1) i = sx at *
      have l0 : (0 : Int) ≤ (sx : Int) := by omega
      have l1 : (sx : Int) < (ws.length : Int) := by omega
      gi_wp2
      refine wpIn_goto ?_
      gi_wp2
      exact ⟨by rw [hs6]; exact F.out.1, rfl, F.out.2⟩
  case b2 =>
    intro lp cd i W hcd hi hh hbig
    have hl := parN_lt (k := xs.length) (code := cd + 1) (i := i) (by omega)
    have hsl : parN xs.length (cd + 1) i < ws.length := by rw [HLEN.out]; exact hl
    have ct := hh.tbox.cell
    have ce := hh.ebox.cell
    have fe := hh.ebox.frozen
    obtain ⟨b9, o9, e9, _, cw⟩ := hh.wrd.cells (parN xs.length (cd + 1) i) (by rw [HLEN.out]; exact hl)
    subst e9
    by_cases hq : ws[parN xs.length (cd + 1) i]?.getD 0 = (tbI xs)[parN xs.length (cd + 1) i]?.getD 0
    · have F : Hid (CkI w w.heap.size E (E + 1) (some ⟨b9, o9, none⟩) A2 c c2 ws xs cd (i + 1) 0 W) := Lib.hid ⟨hh.tbox, hh.ebox, hh.cbox, hh.met.step (hh.half rfl) hq, (fun e => by cases e), hh.wrd, hh.inp, hh.kin, hh.low⟩
      have hne : ((ws[parN xs.length (cd + 1) i]?.getD 0) != plP xs cd i) = false := by unfold plP; simp [hq]
      unfold plY
      clear hh hI0
      generalize ws[parN xs.length (cd + 1) i]?.getD 0 = wx at *
      generalize plP xs cd i = ux at *
      generalize parN xs.length (cd + 1) i = sx at *
      have l0 : (0 : Int) ≤ (sx : Int) := by omega
      have l1 : (sx : Int) < (ws.length : Int) := by omega
      gi_wp2
      exact ⟨KeepsUp.refl _ _, F.out⟩
    · have F : Hid (KeepsUp (E + 2) W (W.setCell ⟨E, 0, none⟩ (.int .i64 11)) ∧ (tbI xs ≠ ws ∧ Boxed (W.setCell ⟨E, 0, none⟩ (.int .i64 11)) E 24 (.int .i64 11) ∧ Below w.heap.size w (W.setCell ⟨E, 0, none⟩ (.int .i64 11)))) := Lib.hid ⟨⟨by simp [World.setCell], fun j hj _ => Below.heap_setCell _ _ _ _ (show j ≠ E by omega)⟩, fun e => hq (by rw [e]), hh.ebox.set _, hh.low.setCell (p := ⟨E, 0, none⟩) (by show w.heap.size ≤ E; omega) _⟩
      have hne : ((ws[parN xs.length (cd + 1) i]?.getD 0) != plP xs cd i) = true := by unfold plP; simpa using hq
      unfold plY
      clear hh hI0
      generalize ws[parN xs.length (cd + 1) i]?.getD 0 = wx at *
      generalize plP xs cd i = ux at *
      generalize parN xs.length (cd + 1) i = sx at *
      have l0 : (0 : Int) ≤ (sx : Int) := by omega
      have l1 : (sx : Int) < (ws.length : Int) := by omega
      gi_wp2
      refine wpIn_goto ?_
      gi_wp2
      exact ⟨by rw [hs6]; exact F.out.1, rfl, F.out.2⟩
  case done =>
    intro D' W hD' hh hKD
    rw [hs6] at hD'
    have hfull := hh.met.full hs HLEN.out (tbI_length xs)
    have e1 : (if tbI xs = ws then (0 : Int) else 11) = 0 := if_pos hfull.symm
    have HE := Lib.hid e1
    have HB := Lib.hid hh.low
    subst hD'
    clear hh hI0 hfull e1
    gi_wp2
    refine leaves_one hKD ⟨_, results_tmp rfl _ _ _, ?_, below_put HB.out _ (by omega) (Nat.le_refl _)⟩
    exact ret_int HE.out.symm
  case stop =>
    rintro D' cc W hD' ⟨rfl, hne, hE1, hlow⟩ hKD
    rw [hs6] at hD'
    have e1 : (if tbI xs = ws then (0 : Int) else 11) = 11 := if_neg hne
    have HE := Lib.hid e1
    have HB := Lib.hid hlow
    have ce := hE1.cell
    subst hD'
    clear hE1 hlow hI0 e1
    refine wpIn_goto ?_
    gi_wp2
    refine ⟨rfl, ?_⟩
    gi_wp2
    rw [Exit.noGoto_ret]
    refine leaves_one hKD ⟨_, results_tmp rfl _ _ _, ?_, below_put HB.out _ (by omega) (Nat.le_refl _)⟩
    exact ret_int HE.out.symm
theorem Check_any {A : Option Addr} {n c : Nat} {ws : List Int} {w : World} (hK : Kinds w) (hI : Rd .u8 w w.heap.size A n ws) (hb : Byte ws) (hn : n ≤ 2199023255552) (hc : n ≤ c) :
    Calls Tryd.prog 19 #[.slice A n c] w fun e w' => e = .returned (.int .i64 (chkS ws)) ∧ Below w.heap.size w w' := by
  by_cases h : n % 3 = 0 ∧ isB (((n / 3 : Nat) : Int) - 4) = true
  · obtain ⟨m, hs, hm⟩ := word_len h
    have hl := hI.len
    have e0 := bitsS_size hs (by rw [hl, hm])
    by_cases hv : validB ws = true
    · rw [if_pos hv] at e0
      have hlx : (ws.take m).length = m := by rw [List.length_take, hl]; omega
      subst hl
      refine callsIn_wide.1 (Check_ok (n := 16) (xs := ws.take m) (Nat.le_refl _) hK hI hb hc (by rw [hlx]; exact hs) (fun x hm => validB_bits hb hv x (List.mem_of_mem_take hm)) (by rw [hlx, hm]) e0)
    · rw [if_neg hv] at e0
      exact Check_no hK hI hb hn hc (.inr (by rw [e0]))
  · exact Check_no hK hI hb hn hc (.inl (by rw [bitsS_no (by rw [hI.len]; exact h)]))
end
end Go.Proofs.YtbpkoilecdejiaaDoor
