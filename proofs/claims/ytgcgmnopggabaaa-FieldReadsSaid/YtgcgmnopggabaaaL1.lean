/-
  The law's works: it returns true; what was there stays.
-/
import Derived.Test.YtgcgmnopggabaaaWr5
namespace Go.Proofs.Ytgcgmnopggabaaa
open Go.RowKit

/-- A slice lies apart from the writer. -/
def Safe (w : World) (B : Nat) (V : Value) (A : Option Addr) : Prop := ∀ a, A = some a → a.block < w.heap.size ∧ a.block ≠ B ∧ some a.block ≠ V.ownBlock
theorem Safe.turn {w w' : World} {B : Nat} {V V' : Value} {A : Option Addr} (h : Safe w B V A) (ht : Turn B V V' w w') : Safe w' B V' A := fun a ha =>
  ⟨Nat.lt_of_lt_of_le (h a ha).1 ht.1.size, (h a ha).2.1, ht.2 _ (h a ha).1 (h a ha).2.2⟩
theorem Safe.size {w w' : World} {B : Nat} {V : Value} {A : Option Addr} (h : Safe w B V A) (hs : w.heap.size ≤ w'.heap.size) : Safe w' B V A := fun a ha => ⟨Nat.lt_of_lt_of_le (h a ha).1 hs, (h a ha).2⟩
theorem Rd.turn {q : IntKind} {w w' : World} {B n : Nat} {V V' : Value} {A : Option Addr} {xs : List Int} (h : Rd q w w.heap.size A n xs) (hs : Safe w B V A) (ht : Turn B V V' w w') : Rd q w' w'.heap.size A n xs :=
  (h.save ht.1 (Nat.le_refl _) (fun a ha hx => by
    rcases hx with hx | hx
    · exact (hs a ha).2.1 hx
    · exact (hs a ha).2.2 hx)).more ht.1.size
theorem Rd.step {q : IntKind} {w w' : World} {n : Nat} {A : Option Addr} {xs : List Int} (h : Rd q w w.heap.size A n xs) (hb : Below w.heap.size w w') : Rd q w' w'.heap.size A n xs := (h.below hb).more hb.size
theorem Rd.saved {q : IntKind} {w w' : World} {X : Nat → Prop} {n : Nat} {A : Option Addr} {xs : List Int} (h : Rd q w w.heap.size A n xs) (hs : Save X w w') (hX : ∀ a, A = some a → ¬ X a.block) : Rd q w' w'.heap.size A n xs := (h.save hs (Nat.le_refl _) hX).more hs.size
theorem below_turn {w w1 w2 : World} {N B : Nat} {V V' : Value} {bs : List Int} (hb : Below N w w1) (hW : WrtAt w1 B V bs) (ht : Turn B V V' w1 w2) (hN : N ≤ w.heap.size) (hNB : N ≤ B) : Below N w w2 :=
  Below.save hb ht.1 (fun i hi => by
    rcases hi with rfl | hi
    · exact hNB
    · have := (hW.own_lt i hi.symm).1; omega) hN
theorem wrt_new (w : World) : WrtAt (w.alloc (.cells #[.slice none 0 0, .int .i64 0] 29)) w.heap.size (.slice none 0 0) [] :=
  ⟨Two.new _ _ _ _, by simpa [packL] using World.ownsRow_nil _ _ _ _, fun x hx => by simp at hx, by simp⟩
theorem own_low {w1 w2 : World} {t : TypeId} {A : Option Addr} {n c : Nat} {xs : List Value} (h : w2.ownsRow w1.heap.size t 1 (.slice A n c) n xs) (hn : 0 < n) : ∀ a, A = some a → w1.heap.size ≤ a.block ∧ a.block < w2.heap.size := by
  rintro a rfl
  obtain ⟨g, cap, h1, h2, h3⟩ := h.form hn
  injection h1 with h1
  injection h1 with h1
  subst h1
  exact ⟨h2, h3⟩
theorem wx_old {w : World} {B : Nat} {V : Value} {bs : List Int} (h : WrtAt w B V bs) {k : Nat} (hk : w.heap.size ≤ k) : ¬ WX B V k := by
  rintro (h1 | h1)
  · have := h.lt; omega
  · have := (h.own_lt k h1.symm).2; omega
theorem rd_lit (w : World) (xs : List Int) (t : TypeId) : Rd .u8 (w.alloc (.cells (xs.map (Value.int .u8)).toArray t)) (w.heap.size + 1) (some ⟨w.heap.size, 0, none⟩) xs.length xs :=
  ⟨rfl, fun k hk => ⟨w.heap.size, 0, rfl, by omega, by
    have h := World.alloc_heap_new w (.cells (xs.map (Value.int .u8)).toArray t)
    rw [Nat.zero_add, cell_of_row _ _ k _ _ _ h]
    simp [hk]⟩⟩
theorem same_true {A A' : Option Addr} {n c n' c' B B' : Nat} {xs : List Int} {w : World} (h : Rd .u8 w B A n xs) (h' : Rd .u8 w B' A' n' xs) (hx : Byte xs) :
    Calls Try.prog 13 #[.slice A n c, .slice A' n' c'] w fun e w' => e = .returned (.bool true) ∧ w = w' :=
  (same_any h h' hx hx).mono (fun e w' h => ⟨by rw [h.1]; simp, h.2⟩)
set_option maxRecDepth 100000 in
set_option maxHeartbeats 4000000 in
theorem works_any (w : World) : Calls Try.prog 10 #[] w fun e w' => e = .returned (.bool true) ∧ Below w.heap.size w w' := by
  go_enter Try.func10, Try.ntmps10
  have hW := wrt_new w
  have hb : Below w.heap.size w (w.alloc (.cells #[.slice none 0 0, .int .i64 0] 29)) := (Below.refl _ w).alloc (Nat.le_refl _) _
  obtain ⟨B, hB⟩ : ∃ B, B = w.heap.size := ⟨_, rfl⟩
  rw [← hB] at hW
  have hBN := Nat.le_of_eq hB.symm
  go_wp2_with fail
  simp only [← hB]
  have HB := Lib.hid hB; clear hB
  refine (put_any (v := 5) (n := 3) hW (by omega) (by decide)).mono ?_
  rintro e w1 ⟨rfl, V1, hW1, hT1⟩
  rw [show ([] : List Int) ++ putS 5 3 = [1, 0, 1] from by decide] at hW1
  rw [show (fromUintS 5 3).2 = 0 from by decide]
  replace hb := below_turn hb hW hT1 (Nat.le_refl _) hBN
  clear hW; have hW := hW1; clear hW1 hT1
  go_wp2_with fail
  refine (put_any (v := 1) (n := 6) hW (by omega) (by decide)).mono ?_
  rintro e w2 ⟨rfl, V2, hW2, hT2⟩
  rw [show ([1, 0, 1] : List Int) ++ putS 1 6 = [1, 0, 1, 0, 0, 0, 0, 0, 1] from by decide] at hW2
  rw [show (fromUintS 1 6).2 = 0 from by decide]
  replace hb := below_turn hb hW hT2 (Nat.le_refl _) hBN
  clear hW; have hW := hW2; clear hW2 hT2
  go_wp2_with fail
  refine (wlen_any hW).mono ?_
  rintro e w' ⟨rfl, rfl⟩
  go_wp2_with fail
  refine (wbytes_any hW).mono ?_
  rw [show packL [1, 0, 1, 0, 0, 0, 0, 0, 1] = [160, 128] from by decide]
  rintro e w3 ⟨X, cx, rfl, hox, hb3⟩
  have hx : Rd .u8 w3 w3.heap.size X 2 [160, 128] := Rd.of_own hox
  have sx : Safe w3 B V2 X := fun a ha => by
    have h1 := own_low hox (by decide) a ha
    have h2 := wx_old hW h1.1
    exact ⟨h1.2, fun e => h2 (.inl e), fun e => h2 (.inr e)⟩
  replace hb := hb.trans (hb3.mono hb.size)
  replace hW := hW.below hb3
  clear hox hb3
  go_wp2_with fail
  refine (put_any (v := 4) (n := 2) hW (by omega) (by decide)).mono ?_
  rintro e w4 ⟨rfl, V4, hW4, hT4⟩
  rw [show ([1, 0, 1, 0, 0, 0, 0, 0, 1] : List Int) ++ putS 4 2 = [1, 0, 1, 0, 0, 0, 0, 0, 1] from by decide] at hW4
  rw [show (fromUintS 4 2).2 = 4 from by decide]
  replace hb := below_turn hb hW hT4 (Nat.le_refl _) hBN
  replace hx := hx.turn sx hT4
  replace sx := sx.turn hT4
  clear hW; have hW := hW4; clear hW4 hT4
  go_wp2_with fail
  refine (put_any (v := 0) (n := 65) hW (by omega) (by decide)).mono ?_
  rintro e w5 ⟨rfl, V5, hW5, hT5⟩
  rw [show ([1, 0, 1, 0, 0, 0, 0, 0, 1] : List Int) ++ putS 0 65 = [1, 0, 1, 0, 0, 0, 0, 0, 1] from by decide] at hW5
  rw [show (fromUintS 0 65).2 = 2 from by decide]
  replace hb := below_turn hb hW hT5 (Nat.le_refl _) hBN
  replace hx := hx.turn sx hT5
  replace sx := sx.turn hT5
  clear hW; have hW := hW5; clear hW5 hT5
  go_wp2_with fail
  refine (walign_any hW).mono ?_
  rintro e w6 ⟨rfl, hW6, hT6⟩
  rw [show padTo [1, 0, 1, 0, 0, 0, 0, 0, 1] = [1, 0, 1, 0, 0, 0, 0, 0, 1, 0, 0, 0, 0, 0, 0, 0] from by decide] at hW6
  replace hb := below_turn hb hW hT6 (Nat.le_refl _) hBN
  replace hx := hx.turn sx hT6
  replace sx := sx.turn hT6
  clear hW; have hW := hW6; clear hW6 hT6
  go_wp2_with fail
  have hl := rd_lit w6 [255] 5
  have hbl : Below w6.heap.size w6 (w6.alloc (.cells (([255] : List Int).map (Value.int .u8)).toArray 5)) := (Below.refl _ _).alloc (Nat.le_refl _) _
  have hP := Lib.hid (putBytes_any (c := 1) (hW.below hbl) hl (Byte.of_mem (by decide)) (by simp) (fun _ a ha => by
    injection ha with ha
    subst ha
    have h2 := wx_old hW (k := w6.heap.size) (Nat.le_refl _)
    exact ⟨fun e => h2 (.inl e), fun e => h2 (.inr e)⟩) (by decide))
  refine hP.out.mono ?_
  rintro e w7 ⟨rfl, V7, hW7, hT7⟩
  rw [show ([1, 0, 1, 0, 0, 0, 0, 0, 1, 0, 0, 0, 0, 0, 0, 0] : List Int) ++ bitsOf [255] = [1, 0, 1, 0, 0, 0, 0, 0, 1, 0, 0, 0, 0, 0, 0, 0, 1, 1, 1, 1, 1, 1, 1, 1] from by decide] at hW7
  replace hT7 := hT7.after hbl
  replace hb := below_turn hb hW hT7 (Nat.le_refl _) hBN
  replace hx := hx.turn sx hT7
  replace sx := sx.turn hT7
  clear hW; have hW := hW7; clear hW7 hT7 hP hl hbl
  go_wp2_with fail
  have hl := rd_lit w7 [160, 128] 5
  have hbl : Below w7.heap.size w7 (w7.alloc (.cells (([160, 128] : List Int).map (Value.int .u8)).toArray 5)) := (Below.refl _ _).alloc (Nat.le_refl _) _
  have hP := Lib.hid (newReader_any (c := 2) hl (by simp) (Byte.of_mem (by decide)) (by decide))
  refine hP.out.mono ?_
  rintro e w8 ⟨R, AR, cR, rfl, hR, hbr, hlo, hlA⟩
  change RdrAt _ _ _ 2 _ _ _ at hR
  rw [World.size_alloc] at hlo hlA hbr
  have lR : w.heap.size ≤ R := by have := hb.size; omega
  have hbq : Below w7.heap.size w7 w8 := hbl.trans (hbr.mono (by omega))
  have nR : ¬ WX B V7 R := wx_old hW (by omega)
  have xR : ∀ a, X = some a → a.block ≠ R := fun a ha => by have := (sx a ha).1; omega
  replace hb := hb.trans (hbq.mono hb.size)
  replace hx := hx.step hbq
  replace sx := sx.size hbq.size
  replace hW := hW.below hbq
  clear hP hl hbl hbr hbq hlA
  go_wp2_with fail
  refine (get_any (wd := 3) hR).mono ?_
  rintro e w9 ⟨rfl, hRn, hV⟩
  rw [show getV [160, 128] 2 0 3 = 5 from by decide]
  rw [show getE 2 0 3 = 0 from by decide]
  rw [show getP 2 0 3 = 3 from by decide] at hRn
  replace hb := Below.save hb hV (fun i hi => by omega) (Nat.le_refl _)
  replace hx := hx.saved hV xR
  replace sx := sx.size hV.size
  replace hW := hW.save hV (fun k hk e => by subst e; exact nR hk)
  clear hR; have hR := hRn; clear hRn hV
  go_wp2_with fail
  refine (get_any (wd := 6) hR).mono ?_
  rintro e w10 ⟨rfl, hRn, hV⟩
  rw [show getV [160, 128] 2 3 6 = 1 from by decide]
  rw [show getE 2 3 6 = 0 from by decide]
  rw [show getP 2 3 6 = 9 from by decide] at hRn
  replace hb := Below.save hb hV (fun i hi => by omega) (Nat.le_refl _)
  replace hx := hx.saved hV xR
  replace sx := sx.size hV.size
  replace hW := hW.save hV (fun k hk e => by subst e; exact nR hk)
  clear hR; have hR := hRn; clear hRn hV
  go_wp2_with fail
  refine (left_any hR.blk hR.size hR.pos).mono ?_
  rintro e w11 ⟨rfl, kd, hkd⟩
  have hq : Below w10.heap.size w10 w11 := by rw [hkd]; exact below_drewN (Below.refl _ _) _
  clear hkd
  rw [show 8 * 2 - 9 = 7 from by decide]
  replace hR := hR.save (X := fun k => w10.heap.size ≤ k) (Save.of_below hq) (by have := hR.blk.lt; omega) (fun a ha => by have := hR.low a ha; omega)
  replace hb := hb.trans (hq.mono hb.size)
  replace hx := hx.step hq
  replace sx := sx.size hq.size
  replace hW := hW.below hq
  clear hq
  go_wp2_with fail
  refine (end_any hR).mono ?_
  rintro e w12 ⟨rfl, hq⟩
  rw [show endE [160, 128] 2 9 = 0 from by decide]
  replace hR := hR.save (X := fun k => w11.heap.size ≤ k) (Save.of_below hq) (by have := hR.blk.lt; omega) (fun a ha => by have := hR.low a ha; omega)
  replace hb := hb.trans (hq.mono hb.size)
  replace hx := hx.step hq
  replace sx := sx.size hq.size
  replace hW := hW.below hq
  clear hq
  go_wp2_with fail
  refine (get_any (wd := 8) hR).mono ?_
  rintro e w13 ⟨rfl, hRn, hV⟩
  rw [show getV [160, 128] 2 9 8 = 0 from by decide]
  rw [show getE 2 9 8 = 5 from by decide]
  rw [show getP 2 9 8 = 9 from by decide] at hRn
  replace hb := Below.save hb hV (fun i hi => by omega) (Nat.le_refl _)
  replace hx := hx.saved hV xR
  replace sx := sx.size hV.size
  replace hW := hW.save hV (fun k hk e => by subst e; exact nR hk)
  clear hR; have hR := hRn; clear hRn hV
  go_wp2_with fail
  have hl := rd_lit w13 [160, 192] 5
  have hbl : Below w13.heap.size w13 (w13.alloc (.cells (([160, 192] : List Int).map (Value.int .u8)).toArray 5)) := (Below.refl _ _).alloc (Nat.le_refl _) _
  have hP := Lib.hid (newReader_any (c := 2) hl (by simp) (Byte.of_mem (by decide)) (by decide))
  refine hP.out.mono ?_
  rintro e w14 ⟨S, AS, cS, rfl, hS, hbr, hlo, hlA⟩
  change RdrAt _ _ _ 2 _ _ _ at hS
  rw [World.size_alloc] at hlo hlA hbr
  have lS : w.heap.size ≤ S := by have := hb.size; omega
  have hbq : Below w13.heap.size w13 w14 := hbl.trans (hbr.mono (by omega))
  have nS : ¬ WX B V7 S := wx_old hW (by omega)
  have xS : ∀ a, X = some a → a.block ≠ S := fun a ha => by have := (sx a ha).1; omega
  replace hb := hb.trans (hbq.mono hb.size)
  replace hx := hx.step hbq
  replace sx := sx.size hbq.size
  replace hW := hW.below hbq
  clear hP hl hbl hbr hbq hlA
  go_wp2_with fail
  refine (get_any (wd := 9) hS).mono ?_
  rintro e w15 ⟨rfl, hSn, hV⟩
  rw [show getV [160, 192] 2 0 9 = 321 from by decide]
  rw [show getE 2 0 9 = 0 from by decide]
  rw [show getP 2 0 9 = 9 from by decide] at hSn
  replace hb := Below.save hb hV (fun i hi => by omega) (Nat.le_refl _)
  replace hx := hx.saved hV xS
  replace sx := sx.size hV.size
  replace hW := hW.save hV (fun k hk e => by subst e; exact nS hk)
  clear hS; have hS := hSn; clear hSn hV
  go_wp2_with fail
  refine (num_any _ _).mono ?_
  rintro e w' ⟨rfl, rfl⟩
  go_wp2_with fail
  refine (num_any _ _).mono ?_
  rintro e w' ⟨rfl, rfl⟩
  go_wp2_with fail
  refine (num_any _ _).mono ?_
  rintro e w' ⟨rfl, rfl⟩
  go_wp2_with fail
  refine (num_any _ _).mono ?_
  rintro e w' ⟨rfl, rfl⟩
  go_wp2_with fail
  refine (num_any _ _).mono ?_
  rintro e w' ⟨rfl, rfl⟩
  go_wp2_with fail
  refine (num_any _ _).mono ?_
  rintro e w' ⟨rfl, rfl⟩
  go_wp2_with fail
  refine (num_any _ _).mono ?_
  rintro e w' ⟨rfl, rfl⟩
  go_wp2_with fail
  refine (num_any _ _).mono ?_
  rintro e w' ⟨rfl, rfl⟩
  go_wp2_with fail
  have hq0 : Below w15.heap.size w15 (w15.alloc (.cells (([160, 128] : List Int).map (Value.int .u8)).toArray 5)) := (Below.refl _ _).alloc (Nat.le_refl _) _
  have hs := same_true (c := cx) (c' := 2) (hx.step hq0) (rd_lit w15 [160, 128] 5) (Byte.of_mem (by decide))
  refine hs.mono ?_
  rintro e w16 ⟨rfl, hw⟩
  have hq : Below w15.heap.size w15 w16 := by rw [← hw]; exact hq0
  clear hs hq0 hw
  replace hS := hS.save (X := fun k => w15.heap.size ≤ k) (Save.of_below hq) (by have := hS.blk.lt; omega) (fun a ha => by have := hS.low a ha; omega)
  replace hb := hb.trans (hq.mono hb.size)
  replace hx := hx.step hq
  replace sx := sx.size hq.size
  replace hW := hW.below hq
  clear hq
  go_wp2_with fail
  refine (wbytes_any hW).mono ?_
  rw [show packL [1, 0, 1, 0, 0, 0, 0, 0, 1, 0, 0, 0, 0, 0, 0, 0, 1, 1, 1, 1, 1, 1, 1, 1] = [160, 128, 255] from by decide]
  rintro e w17 ⟨Y, cy, rfl, hoy, hq⟩
  have hy : Rd .u8 w17 w17.heap.size Y 3 [160, 128, 255] := Rd.of_own hoy
  clear hoy
  replace hS := hS.save (X := fun k => w16.heap.size ≤ k) (Save.of_below hq) (by have := hS.blk.lt; omega) (fun a ha => by have := hS.low a ha; omega)
  replace hb := hb.trans (hq.mono hb.size)
  replace hx := hx.step hq
  replace sx := sx.size hq.size
  replace hW := hW.below hq
  clear hq
  go_wp2_with fail
  have hq0 : Below w17.heap.size w17 (w17.alloc (.cells (([160, 128, 255] : List Int).map (Value.int .u8)).toArray 5)) := (Below.refl _ _).alloc (Nat.le_refl _) _
  have hs := same_true (c := cy) (c' := 3) (hy.step hq0) (rd_lit w17 [160, 128, 255] 5) (Byte.of_mem (by decide))
  refine hs.mono ?_
  rintro e w18 ⟨rfl, hw⟩
  have hq : Below w17.heap.size w17 w18 := by rw [← hw]; exact hq0
  clear hs hq0 hw
  replace hS := hS.save (X := fun k => w17.heap.size ≤ k) (Save.of_below hq) (by have := hS.blk.lt; omega) (fun a ha => by have := hS.low a ha; omega)
  replace hb := hb.trans (hq.mono hb.size)
  replace hx := hx.step hq
  replace sx := sx.size hq.size
  replace hW := hW.below hq
  clear hq
  go_wp2_with fail
  refine (align_any hS).mono ?_
  rintro e w19 ⟨rfl, hSn, hV⟩
  rw [show alignE [160, 192] 2 9 = 9 from by decide]
  rw [show alignP [160, 192] 2 9 = 9 from by decide] at hSn
  replace hb := Below.save hb hV (fun i hi => by omega) (Nat.le_refl _)
  clear hS hW hx sx hy
  go_wp2_with fail
  refine (end_any hSn).mono ?_
  rintro e w20 ⟨rfl, hq⟩
  rw [show endE [160, 192] 2 9 = 9 from by decide]
  replace hb := hb.trans (hq.mono hb.size)
  go_wp2_with fail
  go_ret
  exact ⟨rfl, hb⟩
end Go.Proofs.Ytgcgmnopggabaaa
