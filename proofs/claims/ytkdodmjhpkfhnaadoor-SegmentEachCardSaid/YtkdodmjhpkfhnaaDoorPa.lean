/-
  wrap: a block with its filler bits and its checksum.
-/
import Derived.Test.YtkdodmjhpkfhnaaDoorEa
namespace Go.Proofs.YtkdodmjhpkfhnaaDoor
open Go.RowKit

/-- A function hands back a byte slice of its own; what was there is as it was. -/
def RetOwn (w : World) (r : List Int) (e : Ending) (w' : World) : Prop :=
  ∃ A c, e = .returned (.slice A r.length c) ∧ w'.ownsRow w.heap.size 5 1 (.slice A r.length c) r.length (r.map (Value.int .u8)) ∧ Below w.heap.size w w'
theorem RetOwn.mk_ {w w' : World} {r : List Int} {A : Option Addr} {n c B : Nat} {e : Ending} (hlen : r.length = n) (hown : w'.ownsRow B 5 1 (.slice A n c) n (r.map (Value.int .u8))) (hB : w.heap.size ≤ B) (hb : Below w.heap.size w w') (he : e = .returned (.slice A n c)) : RetOwn w r e w' := by
  subst hlen
  exact ⟨A, c, he, hown.mono hB, hb⟩
theorem own_step {w w' : World} {base n : Nat} {t : TypeId} {V : Value} {xs : List Value} (h : w.ownsRow base t 1 V n xs) (hb : Below w.heap.size w w') : w'.ownsRow base t 1 V n xs :=
  ownsRow_save h (Save.of_below (X := fun i => w.heap.size ≤ i) hb) (fun g hg => by have := (h.lt g hg).2; omega)
theorem RetBytes.got {w w' : World} {r : List Int} {k : Int} {e : Ending} {n : Nat} (h : RetBytes 5 w (r, k) e w') (hn : r.length = n) :
    ∃ A c, e = .returned (.tuple #[.slice A n c, .int .i64 k]) ∧ w'.ownsRow w.heap.size 5 1 (.slice A n c) n (r.map (Value.int .u8)) ∧ Below w.heap.size w w' := by
  obtain ⟨A, c, h1, h2, h3⟩ := h
  subst hn
  exact ⟨A, c, h1, h2, h3⟩
def wrapL (l : Lay) (i : Nat) (xs : List Int) : List Int := if l.blocks = 1 then zerosI (l.fill i) ++ xs else (zerosI (l.fill i) ++ xs) ++ crcI 2 (zerosI (l.fill i) ++ xs)
theorem zerosI_length (n : Nat) : (zerosI n).length = n := by simp [zerosI]
theorem zerosI_bits (n : Nat) : Bits (zerosI n) := fun _ hx => .inl (List.eq_of_mem_replicate hx)
theorem Bits.append {xs ys : List Int} (h : Bits xs) (k : Bits ys) : Bits (xs ++ ys) := fun x hx => by
  rcases List.mem_append.1 hx with h1 | h1
  · exact h x h1
  · exact k x h1
theorem genN2 : (genN 2).2 = 24 := rfl
set_option maxRecDepth 100000 in
set_option maxHeartbeats 4000000 in
theorem wrap_any {l : Lay} {i n c : Nat} {A : Option Addr} {xs : List Int} {w : World} (hK : Kinds w) (hf : l.filler < 64) (hI : Rd .u8 w w.heap.size A n xs) (hx : Bits xs) (hn : n ≤ 6200) :
    Calls Tryd.prog 44 #[layV l, .int .i64 (i : Int), .slice A n c] w (RetOwn w (wrapL l i xs)) := by
  have hF : l.fill i < 64 := by unfold Lay.fill; split <;> omega
  have hfl := Lib.hid (fun (u : World) => layFiller_any (l := l) (i := i) (w := u))
  have hcs := fun (u : World) (h : Below w.heap.size w u) => layChecksum_any (l := l) (hK.step h)
  have hat := Lib.hid (fun (u : World) (h : Below w.heap.size w u) (A2 : Option Addr) (n2 c2 : Nat) (ys : List Int) => attach_ok (A := A2) (n := n2) (c := c2) (k := 2) (xs := ys) (hK.step h))
  have hL : LayAt (w.alloc (.cells (layA l) 70)) w.heap.size 70 l := LayAt.new w 70 l
  have hb0 := (Below.refl w.heap.size w).alloc (Nat.le_refl _) (.cells (layA l) 70)
  have hlx := hI.len
  obtain ⟨F, hFe⟩ : ∃ F, l.fill i = F := ⟨_, rfl⟩
  have hmk := make_bytes F F (Nat.le_refl _) (by omega)
  have hws := fun h : l.blocks = 1 => show wrapL l i xs = zerosI F ++ xs by unfold wrapL; rw [if_pos h, hFe]
  have hwm := fun h : ¬ l.blocks = 1 => show wrapL l i xs = (zerosI F ++ xs) ++ crcI 2 (zerosI F ++ xs) by unfold wrapL; rw [if_neg h, hFe]
  rw [hFe] at hF
  have hzb : Bits (zerosI F ++ xs) := (zerosI_bits F).append hx
  have hzl : (zerosI F ++ xs).length = F + n := by rw [List.length_append, zerosI_length, hlx]
  generalize wrapL l i xs = ws at *
  have hfl2 := Lib.hid (fun (u : World) => by have := hfl.out u; rw [hFe] at this; exact this)
  clear hfl hFe hK hf
  obtain ⟨c0, c1, c2, c3, c4, c5, c6⟩ := hL.all
  unfold layV at *
  have HL := hL
  unfold layA at hfl2 hcs hb0 hL c0 c1 c2 c3 c4 c5 c6 ⊢
  go_enter Tryd.func44, Tryd.ntmps44
  go_wp2_with fail
  clear c0 c1 c2 c3 c4 c5 c6
  clear hL
  unfold layA at HL
  generalize (w.alloc (.cells #[.int .i64 l.bits, .int .i64 l.blocks, .int .i64 l.long, .int .i64 l.short, .int .i64 l.longs, .int .i64 l.shorts, .int .i64 l.filler] 70)) = W at *
  refine (hfl2.out _).mono ?_
  rintro e w1 ⟨rfl, hb1⟩
  have hL1 := LayAt.step HL hb1
  replace hb1 := hb0.trans (hb1.mono hb0.size)
  have hZ := own_zeros (w := w1) (B := w1.heap.size) (n := F) (m := F) (Nat.le_refl _) (by omega) (Nat.le_refl _)
  have hbZ := hb1.alloc hb1.size (.cells (madeCells #[.int .u8 0] F) 5)
  have hLZ := hL1.alloc (.cells (madeCells #[.int .u8 0] F) 5)
  have hRZ : Rd .u8 (w1.alloc (.cells (madeCells #[.int .u8 0] F) 5)) (w1.alloc (.cells (madeCells #[.int .u8 0] F) 5)).heap.size (some ⟨w1.heap.size, 0, none⟩) F (zerosI F) := Rd.of_own hZ
  have hrds := rds_two (c := F) (c2 := c) (t := 46) hRZ (hI.step hbZ)
  have hcat := slicesConcat_any (c := 2) hrds (by simp) (by decide) (by simp [joined]; rw [hlx, zerosI_length]; omega)
  rw [show joined [⟨some ⟨w1.heap.size, 0, none⟩, F, F, zerosI F⟩, ⟨A, n, c, xs⟩] = zerosI F ++ xs by simp [joined], hzl] at hcat
  have hbY := hbZ.alloc hbZ.size (.cells #[.slice (some ⟨w1.heap.size, 0, none⟩) F F, .slice A n c] 46)
  have hLY := hLZ.alloc (.cells #[.slice (some ⟨w1.heap.size, 0, none⟩) F F, .slice A n c] 46)
  rw [show (w1.alloc (.cells (madeCells #[.int .u8 0] F) 5)).heap.size = w1.heap.size + 1 from World.size_alloc _ _] at hcat
  clear hrds hRZ hZ hLZ hbZ hL1 HL hb0
  go_wp2_with fail
  generalize ((w1.alloc (.cells (madeCells #[.int .u8 0] F) 5)).alloc (.cells #[.slice (some ⟨w1.heap.size, 0, none⟩) F F, .slice A n c] 46)) = W2 at *
  refine hcat.mono ?_
  rintro e w3 ⟨A3, c3, rfl, hown3, hb3⟩
  replace hLY := LayAt.step hLY hb3
  have hO3 := Lib.hid (hown3.mono hbY.size)
  have hR3 := Rd.of_own hown3
  replace hb3 := hbY.trans (hb3.mono hbY.size)
  clear hcat hown3 hbY
  obtain ⟨c0, c1, c2, c3', c4, c5, c6⟩ := hLY.all
  have hcs3 := hcs w3 hb3
  by_cases hl1 : l.blocks = 1
  · have HW := Lib.hid (hws hl1)
    clear hws hwm
    have hcz : l.cs = 0 := by unfold Lay.cs; rw [if_pos hl1]
    rw [hcz] at hcs3
    clear hcs hmk hat hcz hl1 hfl2
    go_wp2_with fail
    refine hcs3.mono ?_
    rintro e w4 ⟨rfl, hb4⟩
    have hO4 := own_step hO3.out hb4
    replace hb4 := hb3.trans (hb4.mono hb3.size)
    go_wp2_with fail
    go_ret
    exact RetOwn.mk_ (by rw [HW.out]; exact hzl) (by rw [HW.out]; exact hO4) (Nat.le_refl _) hb4 rfl
  · have HW := Lib.hid (hwm hl1)
    clear hws hwm
    have hcz : l.cs = 24 := by unfold Lay.cs; rw [if_neg hl1]
    rw [hcz] at hcs3
    clear hcs hmk hcz hl1 hfl2
    go_wp2_with fail
    refine hcs3.mono ?_
    rintro e w4 ⟨rfl, hb4⟩
    replace hR3 := hR3.step hb4
    replace hb4 := hb3.trans (hb4.mono hb3.size)
    clear c0 c1 c2 c3' c4 c5 c6
    have hA := Lib.hid (hat.out w4 hb4 A3 (F + n) c3 _ hR3 (by omega) (by decide) hzb.valid hzb)
    obtain ⟨rs, hrs⟩ : ∃ rs, zerosI F ++ xs ++ crcI 2 (zerosI F ++ xs) = rs := ⟨_, rfl⟩
    have hrl : rs.length = F + n + 24 := by rw [← hrs, List.length_append, hzl, crcI_length]; rfl
    rw [hrs] at hA
    have HRS := Lib.hid hrs
    clear hrs hat
    go_wp2_with fail
    refine hA.out.mono ?_
    intro e w5 h5
    obtain ⟨A5, c5, rfl, ho5, hb5⟩ := h5.got hrl
    replace hO5 := ho5.mono hb4.size
    replace hb5 := hb4.trans (hb5.mono hb4.size)
    clear h5 ho5 hA
    go_wp2_with (go_at_call 31; refine require_ok.mono ?_; rintro e w6 ⟨rfl, rfl⟩)
    go_ret
    exact RetOwn.mk_ (by rw [HW.out, HRS.out]; exact hrl) (by rw [HW.out, HRS.out]; exact hO5) (Nat.le_refl _) hb5 rfl
end Go.Proofs.YtkdodmjhpkfhnaaDoor
