/-
  The law CrcOwn's walk.
-/
import Derived.Test.YtekldonfmfnmpaaDoorL7
import Derived.Test.YtekldonfmfnmpaaDoorL1
import Derived.Test.YtekldonfmfnmpaaDoorL2
namespace Go.Proofs.YtekldonfmfnmpaaDoor
open Go.RowKit

theorem attachS_len (k : Int) (xs : List Int) : (attachS k xs).1.length ≤ xs.length + 24 := by
  unfold attachS
  split
  · simp
  · split
    · simp
    · simp only [List.length_append, crcI_length]
      have := genN_le k
      omega
theorem attachS_byte {k : Int} {xs : List Int} (hx : Byte xs) : Byte (attachS k xs).1 := by
  unfold attachS
  split
  · exact Byte.of_mem (fun x h => by cases h)
  · split
    · exact Byte.of_mem (fun x h => by cases h)
    · rename_i hv
      exact ((validB_bits hx (by simpa using hv)).app (crcI_bits k xs)).byte
/-- A slice of the call's own, whatever it holds. -/
def Has (w : World) (lo : Nat) (V : Value) (n : Nat) : Prop := ∃ ys, w.ownsRow lo 5 1 V n ys
theorem Has.of {w : World} {lo n : Nat} {V : Value} {ys : List Value} (h : w.ownsRow lo 5 1 V n ys) : Has w lo V n := ⟨ys, h⟩
theorem Has.setCell {w : World} {lo n : Nat} {V : Value} (h : Has w lo V n) (b o : Nat) (u : Value) : Has (w.setCell ⟨b, o, none⟩ u) lo V n := by
  obtain ⟨ys, hl, h2⟩ := h
  obtain ⟨p, hpe⟩ : ∃ p : Addr, p = ⟨b, o, none⟩ := ⟨_, rfl⟩
  have hsp : p.spot = none := by rw [hpe]
  rw [← hpe]
  rcases h2 with ⟨rfl, rfl⟩ | ⟨g, cap, cur, rfl, hb, hg, hnc, hcm, hcs, ht⟩
  · exact ⟨ys, hl, .inl ⟨rfl, rfl⟩⟩
  · by_cases hp : g = p.block
    · subst hp
      have hg2 : ∃ cur2 : Array Value, (w.setCell p u).heap[p.block]? = some (.cells cur2 5 (0, 0)) ∧ cur2.size = cur.size := by
        refine ⟨cur.setIfInBounds p.off u, ?_, by simp⟩
        simp only [World.setCell, Array.getElem?_modify, hg]
        simp [hsp]
      obtain ⟨cur2, h3, h4⟩ := hg2
      refine ⟨cur2.toList.take (n * 1), ?_, .inr ⟨p.block, cap, cur2, rfl, hb, h3, hnc, hcm, by rw [h4]; exact hcs, rfl⟩⟩
      rw [List.length_take, Array.length_toList, h4, hcs]
      omega
    · exact ⟨ys, hl, .inr ⟨g, cap, cur, rfl, hb, (Below.heap_setCell _ _ _ _ hp).trans hg, hnc, hcm, hcs, ht⟩⟩
theorem Has.save {X : Nat → Prop} {w w' : World} {lo n : Nat} {V : Value} (h : Has w lo V n) (hs : Save X w w') (hX : ∀ g, V.ownBlock = some g → ¬ X g) : Has w' lo V n := by
  obtain ⟨ys, hy⟩ := h
  exact ⟨ys, ownsRow_save hy hs hX⟩
theorem Has.step {w w' : World} {lo n : Nat} {V : Value} (h : Has w lo V n) (hb : Below w.heap.size w w') : Has w' lo V n := by
  obtain ⟨ys, hy⟩ := h
  exact ⟨ys, own_step hy hb⟩
theorem Has.mono {w : World} {lo lo' n : Nat} {V : Value} (h : Has w lo V n) (hl : lo' ≤ lo) : Has w lo' V n := by
  obtain ⟨ys, hy⟩ := h
  exact ⟨ys, hy.mono hl⟩
/-- The three slices of the list. -/
def three {α : Type} (x y z : α) (j : Nat) : α := if j = 0 then x else if j = 1 then y else z
theorem list3 {w : World} {t : TypeId} {x y z : Value} (j : Nat) (hj : j < 3) : (w.alloc (.cells #[x, y, z] t)).cell? ⟨w.heap.size, j, none⟩ = some (three x y z j) := by
  have h := World.alloc_heap_new w (.cells #[x, y, z] t)
  rw [cell_of_row _ _ j _ _ _ h]
  rcases j with _ | _ | _ | j
  · rfl
  · rfl
  · rfl
  · omega
set_option maxRecDepth 100000 in
set_option maxHeartbeats 8000000 in
theorem own_walk {k v : Int} {A : Option Addr} {n c : Nat} {xs : List Int} {w : World} (hK : Kinds w) (hI : Rd .u8 w w.heap.size A n xs) (hx : Byte xs) (hw : 0 ≤ v ∧ v < 65536) :
    Calls Tryd.prog 10 #[.int .i64 k, .slice A n c, .int .u16 v] w fun e w' => e = .returned (.bool true) ∧ Below w.heap.size w w' := by
  have HKn := Lib.hid (fun (u : World) (h : Below w.heap.size w u) => known_any (hK.step h))
  by_cases h2 : 2000 < n
  · have d1 : decide ((2000 : Int) < (n : Int)) = true := by simp; omega
    go_enter Tryd.func10, Tryd.ntmps10
    go_wp2_with fail
    refine (HKn.out _ (Below.refl _ _)).mono ?_
    rintro e w1 ⟨rfl, hb⟩
    go_wp2_with fail
    go_ret
    exact ⟨rfl, hb⟩
  · have d1 : decide ((2000 : Int) < (n : Int)) = false := by simp; omega
    have hn2 : n ≤ 2000 := by omega
    have HO := Lib.hid (own_any (c := c) hI (by omega))
    have HI := Lib.hid (fun (u : World) (h : Below w.heap.size w u) => hI.step h)
    have HAt := Lib.hid (fun (u : World) (A1 : Option Addr) (c1 : Nat) (h : Below w.heap.size w u) (hr : Rd .u8 u u.heap.size A1 n xs) => attach_any (k := k) (c := c1) (hK.step h) hr (by omega) hx)
    have HCo := Lib.hid (fun (u : World) (A1 : Option Addr) (c1 : Nat) (h : Below w.heap.size w u) (hr : Rd .u8 u u.heap.size A1 n xs) => compute_any (k := k) (c := c1) (hK.step h) hr (by omega) hx)
    have HMa := Lib.hid (fun (u : World) (A1 : Option Addr) (c1 : Nat) (hr : Rd .u8 u u.heap.size A1 n xs) => mask_any (v := v) (c := c1) hr (by omega) hw)
    have hal := attachS_len k xs
    have hab := attachS_byte (k := k) hx
    rw [hI.len] at hal
    obtain ⟨⟨ra, ea⟩, hra⟩ : ∃ p, attachS k xs = p := ⟨_, rfl⟩
    rw [hra] at HAt hal hab
    simp only at hal hab
    obtain ⟨la, hla⟩ : ∃ l, ra.length = l := ⟨_, rfl⟩
    rw [hla] at hal
    have HLA := Lib.hid hla
    have HCh := Lib.hid (fun (u : World) (A1 : Option Addr) (c1 : Nat) (h : Below w.heap.size w u) (hr : Rd .u8 u u.heap.size A1 la ra) (hc : la ≤ c1) => check_any (k := k) (hK.step h) hr (by omega) hc hab)
    obtain ⟨⟨rb, eb⟩, hrb⟩ : ∃ p, checkS k ra = p := ⟨_, rfl⟩
    have hbl := checkS_len k ra
    rw [hrb] at HCh hbl
    rw [hla] at hbl
    obtain ⟨lb, hlb⟩ : ∃ l, rb.length = l := ⟨_, rfl⟩
    simp only [hlb] at hbl
    have HLB := Lib.hid hlb
    obtain ⟨⟨rc, ec⟩, hrc⟩ : ∃ p, maskS xs v = p := ⟨_, rfl⟩
    rw [hrc] at HMa
    obtain ⟨lc, hlc⟩ : ∃ l, rc.length = l := ⟨_, rfl⟩
    have HLC := Lib.hid hlc
    have hcl : lc ≤ 2000 := by
      rw [← hlc]
      unfold maskS at hrc
      split at hrc
      · cases hrc; simp
      · split at hrc
        · cases hrc; simp
        · cases hrc; rw [maskL_length, hI.len]; exact hn2
    obtain ⟨⟨rd, ed⟩, hrd⟩ : ∃ p, computeS k xs = p := ⟨_, rfl⟩
    have hdl := computeS_len k xs
    rw [hrd] at HCo hdl
    obtain ⟨ld, hld⟩ : ∃ l, rd.length = l := ⟨_, rfl⟩
    simp only [hld] at hdl
    have HLD := Lib.hid hld
    clear hla hlb hlc hld hra hrb hrc hrd hab hI hK h2
    go_enter Tryd.func10, Tryd.ntmps10
    go_wp2_with fail
    refine HO.out.mono ?_
    rintro e w1 ⟨A1, c1, rfl, ho1, hb1⟩
    have hr1 := Rd.of_own ho1
    have hs01 := hb1.size
    clear ho1 HO
    go_wp2_with fail
    refine (HAt.out _ _ _ hb1 hr1).mono ?_
    intro e w2 h2
    obtain ⟨A2, c2, rfl, ho2, hb2⟩ := h2.got HLA.out
    have hr2 := Rd.of_own ho2
    have hc2 := own_cap' ho2
    have hs12 := hb2.size
    have bW1 := hb1.trans (hb2.mono hb1.size)
    replace hr1 := hr1.below hb2
    have H2 := Lib.hid (Has.of ho2)
    have G2 := Lib.hid (fun g hg => ho2.lt g hg)
    clear h2 ho2 HAt
    go_wp2_with fail
    refine (HCh.out _ _ _ bW1 hr2 hc2).mono ?_
    intro e w3 h3
    obtain ⟨A3, c3, rfl, ho3, hb3⟩ := h3.got HLB.out
    have hs23 := hb3.size
    have bW2 := bW1.trans (hb3.mono bW1.size)
    have hr1b := hr1.below (hb3.mono hs12)
    replace hr2 := hr2.below hb3
    replace H2 := Lib.hid (H2.out.step hb3)
    have H3 := Lib.hid (Has.of ho3)
    have G3 := Lib.hid (fun g hg => ho3.lt g hg)
    clear h3 ho3 HCh hr1 hc2
    go_wp2_with fail
    refine (HMa.out _ _ _ (hr1b.more (Nat.le_trans hs12 hs23))).mono ?_
    intro e w4 h4
    obtain ⟨A4, c4, rfl, ho4, hb4⟩ := h4.got HLC.out
    have hs34 := hb4.size
    have bW3 := bW2.trans (hb4.mono bW2.size)
    have hr1c := hr1b.below (hb4.mono (Nat.le_trans hs12 hs23))
    replace hr2 := hr2.below (hb4.mono hs23)
    replace H2 := Lib.hid (H2.out.step hb4)
    replace H3 := Lib.hid (H3.out.step hb4)
    have H4 := Lib.hid (Has.of ho4)
    have G4 := Lib.hid (fun g hg => ho4.lt g hg)
    clear h4 ho4 HMa hr1b
    go_wp2_with fail
    refine (HCo.out _ _ _ bW3 (hr1c.more (Nat.le_trans hs12 (Nat.le_trans hs23 hs34)))).mono ?_
    intro e w5 h5
    obtain ⟨A5, c5, rfl, ho5, hb5⟩ := h5.got HLD.out
    have hs45 := hb5.size
    have bW4 := bW3.trans (hb5.mono bW3.size)
    have hr1d := hr1c.below (hb5.mono (Nat.le_trans hs12 (Nat.le_trans hs23 hs34)))
    replace hr2 := hr2.below (hb5.mono (Nat.le_trans hs23 hs34))
    replace H2 := Lib.hid (H2.out.step hb5)
    replace H3 := Lib.hid (H3.out.step hb5)
    replace H4 := Lib.hid (H4.out.step hb5)
    have H5 := Lib.hid (Has.of ho5)
    have G5 := Lib.hid (fun g hg => ho5.lt g hg)
    clear h5 ho5 HCo hr1c
    have HK6 := Lib.hid (own_any (c := c2) (hr2.more (Nat.le_trans hs23 (Nat.le_trans hs34 hs45))) (by omega))
    go_wp2_with fail
    refine HK6.out.mono ?_
    rintro e w6 ⟨A6, c6, rfl, ho6, hb6⟩
    have hr6 := Rd.of_own ho6
    have hlo6 := fun g (hg : (Value.slice A6 la c6).ownBlock = some g) => (ho6.lt g hg).1
    have hs56 := hb6.size
    have bW5 := bW4.trans (hb6.mono bW4.size)
    clear ho6 HK6
    go_wp2_with fail
    -- the three slices
    have hb7 : Below w6.heap.size w6 (w6.alloc (.cells #[.slice A3 lb c3, .slice A4 lc c4, .slice A5 ld c5] 23)) := (Below.refl _ w6).alloc (Nat.le_refl _) _
    obtain ⟨AA, LL, CC, hlist, hhas, hblk, hbnd⟩ : ∃ (AA : Nat → Option Addr) (LL CC : Nat → Nat),
        (∀ j, j < 3 → (w6.alloc (.cells #[.slice A3 lb c3, .slice A4 lc c4, .slice A5 ld c5] 23)).cell? ⟨w6.heap.size, j, none⟩ = some (.slice (AA j) (LL j) (CC j))) ∧
        (∀ j, j < 3 → Has (w6.alloc (.cells #[.slice A3 lb c3, .slice A4 lc c4, .slice A5 ld c5] 23)) w2.heap.size (.slice (AA j) (LL j) (CC j)) (LL j)) ∧
        (∀ j, j < 3 → ∀ g, (Value.slice (AA j) (LL j) (CC j)).ownBlock = some g → w2.heap.size ≤ g ∧ g < w5.heap.size) ∧ (∀ j, j < 3 → LL j ≤ 3000) := by
      refine ⟨three A3 A4 A5, three lb lc ld, three c3 c4 c5, fun j hj => ?_, fun j hj => ?_, fun j hj => ?_, fun j hj => ?_⟩
      · rw [list3 j hj]
        rcases j with _ | _ | _ | j
        · rfl
        · rfl
        · rfl
        · omega
      · rcases j with _ | _ | _ | j
        · exact (H3.out.step hb6).step hb7
        · exact ((H4.out.mono hs23).step hb6).step hb7
        · exact ((H5.out.mono (Nat.le_trans hs23 hs34)).step hb6).step hb7
        · omega
      · rcases j with _ | _ | _ | j
        · intro g hg
          have := G3.out g hg
          omega
        · intro g hg
          have := G4.out g hg
          omega
        · intro g hg
          have := G5.out g hg
          omega
        · omega
      · rcases j with _ | _ | _ | j
        · show lb ≤ 3000; omega
        · show lc ≤ 3000; omega
        · show ld ≤ 3000; omega
        · omega
    have HLS := Lib.hid hlist
    have HH := Lib.hid hhas
    have HB := Lib.hid hblk
    have bW6 := bW5.trans (hb7.mono bW5.size)
    replace hr1d := hr1d.below (hb6.mono (Nat.le_trans hs12 (Nat.le_trans hs23 (Nat.le_trans hs34 hs45))))
    replace hr1d := hr1d.below (hb7.mono (Nat.le_trans hs12 (Nat.le_trans hs23 (Nat.le_trans hs34 (Nat.le_trans hs45 hs56)))))
    replace hr2 := hr2.below (hb6.mono (Nat.le_trans hs23 (Nat.le_trans hs34 hs45)))
    replace hr2 := hr2.below (hb7.mono (Nat.le_trans hs23 (Nat.le_trans hs34 (Nat.le_trans hs45 hs56))))
    replace hr6 := hr6.below hb7
    replace H2 := Lib.hid ((H2.out.step hb6).step hb7)
    have hsz7 : w6.heap.size < (w6.alloc (.cells #[.slice A3 lb c3, .slice A4 lc c4, .slice A5 ld c5] 23)).heap.size := by simp
    have HLO6 := Lib.hid hlo6
    clear hlist hhas hblk H3 H4 H5 G3 G4 G5 hb7 hb6 hb5 hb4 hb3 hb2 hb1 bW1 bW2 bW3 bW4 bW5 hlo6
    generalize w6.alloc (.cells #[.slice A3 lb c3, .slice A4 lc c4, .slice A5 ld c5] 23) = w7 at *
    go_loopw [58] (fun s wr => ∃ j : Nat, j ≤ 3 ∧ s = .int .i64 j ∧ Hid (∀ i, i < 3 → Has wr w2.heap.size (.slice (AA i) (LL i) (CC i)) (LL i)) ∧ Save (fun i => w2.heap.size ≤ i ∧ i < w5.heap.size) w7 wr)
      (fun s _ => 3 - (intOf s).toNat)
    case atStart => exact ⟨0, Nat.zero_le _, rfl, HH, Save.refl _ _⟩
    case round =>
      clear HH
      obtain ⟨j, hj, rfl, hH, hS⟩ := hrel
      by_cases hj3 : j < 3
      · have hcell := (hS.cell (p := ⟨w6.heap.size, j, none⟩) hsz7 (show ¬ (w2.heap.size ≤ w6.heap.size ∧ w6.heap.size < w5.heap.size) by omega)).trans (HLS.out j hj3)
        have hbj := HB.out j hj3
        have hlj := hbnd j hj3
        have hHj := Lib.hid (fun u (h : ∀ i, i < 3 → Has u w2.heap.size (.slice (AA i) (LL i) (CC i)) (LL i)) => h j hj3)
        generalize AA j = Aj at hcell hbj hHj
        generalize CC j = cj at hcell hbj hHj
        generalize LL j = lj at hcell hbj hHj hlj
        have HBj := Lib.hid hbj
        clear hbj
        go_wp2_with fail
        go_loopw [19] (fun s wr2 => ∃ t : Nat, t ≤ lj ∧ s = .int .i64 t ∧ Hid (∀ i, i < 3 → Has wr2 w2.heap.size (.slice (AA i) (LL i) (CC i)) (LL i)) ∧ Save (fun i => w2.heap.size ≤ i ∧ i < w5.heap.size) w7 wr2)
          (fun s _ => lj - (intOf s).toNat)
        case atStart => exact ⟨0, Nat.zero_le _, rfl, hH, hS⟩
        case round =>
          clear hcell hS hH
          rename World => wr2
          obtain ⟨t, ht, rfl, hH, hS⟩ := hrel
          by_cases htl : t < lj
          · obtain ⟨ys, hy⟩ := hHj.out _ hH.out
            obtain ⟨g, cap, hv, hg1, hg2⟩ := hy.form (by omega)
            injection hv with e1 _ e3
            subst e1 e3
            have hX := HBj.out g rfl
            have hyl : t < ys.length := by rw [hy.1]; omega
            have hc0 : wr2.cell? ⟨g, t, none⟩ = some ys[t] := by rw [hy.cellAt t (by omega)]; exact List.getElem?_eq_getElem hyl
            have hf0 := hy.frozenAt t
            clear hy
            generalize ys[t] = y0 at hc0
            go_wp2_with fail
            go_roundw
            case rel => exact ⟨t + 1, by omega, by go_num, Lib.hid (fun i hi => (hH.out i hi).setCell g t _), hS.setCell (p := ⟨g, t, none⟩) (fun _ => hX) _⟩
            case measure => simp [intOf]; omega
          · obtain rfl : t = lj := by omega
            clear htl
            go_wp2_with fail
            go_roundw
            case rel => exact ⟨j + 1, by omega, by go_num, hH, hS⟩
            case measure => simp [intOf]; omega
      · obtain rfl : j = 3 := by omega
        clear hj3
        have hs67 : w2.heap.size ≤ w7.heap.size := by omega
        have hbA : Below w2.heap.size w7 wr := hS.below (fun i hi => hi.1) hs67
        have hrK := hr6.save hS (by omega) (fun a ha hx => by
          have h1 := HLO6.out a.block (by subst ha; rfl)
          have h2 := hx.2
          omega)
        have hrA := hr2.below hbA
        have hrO := hr1d.below (hbA.mono hs12)
        have bW7 := bW6.trans (hbA.mono (Nat.le_trans hs01 hs12))
        have HA2 := H2.out.save hS (fun g hg hx => by
          have h1 := G2.out g hg
          have h2 := hx.1
          omega)
        have HS := Lib.hid (same_true (c := c6) (c' := c2) hrK hrA (by omega))
        have hs7r := hS.size
        clear hr6 hr2 hr1d H2 hS hH hrK hrA hbA HLS HB HLO6 bW6 hbnd
        go_wp2_with fail
        refine HS.out.mono ?_
        rintro e w8 ⟨rfl, hb8⟩
        replace HA2 := HA2.step hb8
        replace hrO := hrO.below (hb8.mono (by omega))
        have bW8 := bW7.trans (hb8.mono bW7.size)
        have hs8 : w2.heap.size ≤ w8.heap.size := by have := hb8.size; omega
        have HHA := Lib.hid HA2
        clear HS HA2 hb8 bW7
        go_wp2_with fail
        go_loopw [20] (fun s wr2 => ∃ t : Nat, t ≤ la ∧ s = .int .i64 t ∧ Hid (Has wr2 w1.heap.size (.slice A2 la c2) la) ∧ Save (fun i => w1.heap.size ≤ i ∧ i < w2.heap.size) w8 wr2)
          (fun s _ => la - (intOf s).toNat)
        case atStart => exact ⟨0, Nat.zero_le _, rfl, HHA, Save.refl _ _⟩
        case round =>
          clear HHA
          rename World => wr2
          obtain ⟨t, ht, rfl, hH, hS⟩ := hrel
          by_cases htl : t < la
          · obtain ⟨ys, hy⟩ := hH.out
            obtain ⟨g, cap, hv, hg1, hg2⟩ := hy.form (by omega)
            injection hv with e1 _ e3
            subst e1 e3
            have hX := G2.out g rfl
            have hyl : t < ys.length := by rw [hy.1]; omega
            have hc0 : wr2.cell? ⟨g, t, none⟩ = some ys[t] := by rw [hy.cellAt t (by omega)]; exact List.getElem?_eq_getElem hyl
            have hf0 := hy.frozenAt t
            clear hy
            generalize ys[t] = y0 at hc0
            go_wp2_with fail
            go_roundw
            case rel => exact ⟨t + 1, by omega, by go_num, Lib.hid (hH.out.setCell g t _), hS.setCell (p := ⟨g, t, none⟩) (fun _ => hX) _⟩
            case measure => simp [intOf]; omega
          · obtain rfl : t = la := by omega
            have hbB : Below w1.heap.size w8 wr2 := hS.below (fun i hi => hi.1) (by omega)
            replace hrO := hrO.below hbB
            have bW9 := bW8.trans (hbB.mono hs01)
            have HS2 := Lib.hid (same_true (c := c1) (c' := c) hrO (HI.out _ bW9) (by omega))
            clear htl hH hS hrO hbB bW8
            go_wp2_with fail
            refine HS2.out.mono ?_
            rintro e w9 ⟨rfl, hb9⟩
            replace hb9 := bW9.trans (hb9.mono bW9.size)
            go_wp2_with fail
            refine (HKn.out _ hb9).mono ?_
            rintro e w10 ⟨rfl, hb10⟩
            replace hb10 := hb9.trans (hb10.mono hb9.size)
            go_wp2_with fail
            go_ret
            exact ⟨rfl, hb10⟩
end Go.Proofs.YtekldonfmfnmpaaDoor
