/-
  The walk of SubblockOwn.
-/
import Derived.Test.YtmehfegfkjhdcaaDoorDm
import Derived.Test.YtmehfegfkjhdcaaDoorL1
namespace Go.Proofs.YtmehfegfkjhdcaaDoor
open Go.RowKit Go.Shelf

theorem deS_le (l : List Int) (d st : Int) : (deS l d st).1.length ≤ l.length := by
  unfold deS
  split
  · split
    · rename_i h
      split
      · exact Nat.zero_le _
      · show ((backI _ _ _).drop _).length ≤ _
        rw [List.length_drop, backI_length, h]
        omega
    · exact Nat.zero_le _
  · exact Nat.zero_le _
/-- The n cells of a slice, whatever they hold; its block lies from lo on, below hi. -/
def CelS (w : World) (lo hi : Nat) (A : Option Addr) (n : Nat) : Prop := 0 < n → ∃ g off cur t, A = some ⟨g, off, none⟩ ∧ lo ≤ g ∧ g < hi ∧ w.heap[g]? = some (.cells cur t) ∧ off + n ≤ cur.size
section
variable {w w' : World} {lo hi n : Nat} {A : Option Addr}
theorem CelS.setCell (h : CelS w lo hi A n) (b o : Nat) (u : Value) : CelS (w.setCell ⟨b, o, none⟩ u) lo hi A n := fun hn => by
  obtain ⟨g, off, cur, t, e, h1, h2, hg, hs⟩ := h hn
  by_cases hb : g = b
  · subst hb
    refine ⟨g, off, cur.setIfInBounds o u, t, e, h1, h2, ?_, by simpa using hs⟩
    simp only [World.setCell, Array.getElem?_modify, hg]
    simp
  · exact ⟨g, off, cur, t, e, h1, h2, (Below.heap_setCell _ _ _ _ hb).trans hg, hs⟩
theorem CelS.block (h : CelS w lo hi A n) (hb : ∀ g, lo ≤ g → g < hi → w'.heap[g]? = w.heap[g]?) : CelS w' lo hi A n := fun hn => by
  obtain ⟨g, off, cur, t, e, h1, h2, hg, hs⟩ := h hn
  exact ⟨g, off, cur, t, e, h1, h2, (hb g h1 h2).trans hg, hs⟩
theorem CelS.wide (h : CelS w lo hi A n) {lo' hi' : Nat} (h1 : lo' ≤ lo) (h2 : hi ≤ hi') : CelS w lo' hi' A n := fun hn => by
  obtain ⟨g, off, cur, t, e, a, b, hg, hs⟩ := h hn
  exact ⟨g, off, cur, t, e, Nat.le_trans h1 a, Nat.lt_of_lt_of_le b h2, hg, hs⟩
theorem CelS.at_ (h : CelS w lo hi A n) {i : Nat} (hi' : i < n) : ∃ g off y, A = some ⟨g, off, none⟩ ∧ lo ≤ g ∧ g < hi ∧ w.cell? ⟨g, off + i, none⟩ = some y ∧ w.frozen? ⟨g, off + i, none⟩ = false := by
  obtain ⟨g, off, cur, t, e, h1, h2, hg, hs⟩ := h (by omega)
  refine ⟨g, off, cur[off + i]'(by omega), e, h1, h2, ?_, ?_⟩
  · simp only [World.cell?, hg]
    exact Array.getElem?_eq_getElem _
  · simp [World.frozen?, hg]
theorem CelS.of_own {base c : Nat} {e : TypeId} {xs : List Value} (h : w.ownsRow base e 1 (.slice A n c) n xs) : CelS w base w.heap.size A n := fun hn => by
  rcases h.2 with ⟨_, h2⟩ | ⟨g, cap, cur, h1, hb, hg, hnc, _, hcs, _⟩
  · omega
  · injection h1 with e1 e2 e3
    exact ⟨g, 0, cur, e, e1, hb, (Array.getElem?_eq_some_iff.1 hg).1, hg, by omega⟩
end
set_option maxRecDepth 100000 in
set_option maxHeartbeats 8000000 in
theorem own_walk {A : Option Addr} {n c : Nat} {xs : List Int} {st : Int} {w : World} (hK : Kinds w) (hI : Rd .u8 w w.heap.size A n xs) :
    Calls Tryd.prog 10 #[.slice A n c, .int .i64 st] w fun e w' => e = .returned (.bool true) ∧ Below w.heap.size w w' := by
  have hW := Lib.hid (fun (u : World) (h : Below w.heap.size w u) => known_any (hK.step h))
  by_cases hbig : 1000 < n
  · have hb : (1000 : Int) < (n : Int) := by omega
    have hk := Lib.hid (hW.out _ (Below.refl _ w))
    clear hI
    go_enter Tryd.func10, Tryd.ntmps10
    go_wp2_with (go_at_call 14; refine hk.out.mono ?_; rintro e w4 ⟨rfl, h4⟩)
    go_ret
    exact ⟨rfl, h4⟩
  · have hn1 : n ≤ 1000 := by omega
    have hb : ¬ ((1000 : Int) < (n : Int)) := by omega
    have HO := Lib.hid (own_any (c := c) hI (by omega))
    have HI := Lib.hid (fun (u : World) (h : Below w.heap.size w u) => hI.step h)
    have HA := Lib.hid (fun (u : World) (A1 : Option Addr) (c1 : Nat) (h : Below w.heap.size w u) (hr : Rd .u8 u u.heap.size A1 n xs) => Interleave_any (c := c1) (st := st) (hK.step h) hr (by omega))
    have hal := interS_le xs st
    obtain ⟨⟨ra, ea⟩, hra⟩ : ∃ p, interS xs st = p := ⟨_, rfl⟩
    rw [hra] at HA hal
    simp only at hal
    obtain ⟨la, hla⟩ : ∃ l, ra.length = l := ⟨_, rfl⟩
    rw [hla] at hal
    have HLA := Lib.hid hla
    have HD := Lib.hid (fun (u : World) (A1 : Option Addr) (c1 : Nat) (h : Below w.heap.size w u) (hr : Rd .u8 u u.heap.size A1 la ra) => Deinterleave_any (c := c1) (d := (n : Int)) (st := st) (hK.step h) hr (by omega))
    have hbl := deS_le ra (n : Int) st
    obtain ⟨⟨rb, eb⟩, hrb⟩ : ∃ p, deS ra (n : Int) st = p := ⟨_, rfl⟩
    rw [hrb] at HD hbl
    simp only at hbl
    obtain ⟨lb, hlb⟩ : ∃ l, rb.length = l := ⟨_, rfl⟩
    rw [hlb, hla] at hbl
    have HLB := Lib.hid hlb
    have HOr := Lib.hid (fun (u : World) (h : Below w.heap.size w u) => Order_any (d := (n : Int)) (st := st) (hK.step h))
    have hol := orderS_le (n : Int) st
    obtain ⟨⟨ro, eo⟩, hro⟩ : ∃ p, orderS (n : Int) st = p := ⟨_, rfl⟩
    rw [hro] at HOr hol
    simp only at hol
    obtain ⟨lo, hlo⟩ : ∃ l, ro.length = l := ⟨_, rfl⟩
    rw [hlo] at hol
    have HLO := Lib.hid hlo
    clear hla hlb hlo hra hrb hro hI
    go_enter Tryd.func10, Tryd.ntmps10
    go_wp2_with fail
    refine HO.out.mono ?_
    rintro e w1 ⟨A1, c1, rfl, ho1, hb1⟩
    have hr1 := Rd.of_own ho1
    have hs01 := hb1.size
    clear ho1 HO
    go_wp2_with fail
    refine (HA.out _ _ _ hb1 hr1).mono ?_
    intro e w2 h2
    obtain ⟨A2, c2, rfl, ho2, hb2⟩ := h2.got HLA.out
    have hr2 := Rd.of_own ho2
    have hs12 := hb2.size
    have bW2 := hb1.trans (hb2.mono hb1.size)
    have hr12 := hr1.below hb2
    have HC2 := Lib.hid (CelS.of_own ho2)
    have HKp := Lib.hid (own_any (c := c2) hr2 (by omega))
    clear h2 ho2 hr1
    go_wp2_with fail
    refine HKp.out.mono ?_
    rintro e w3 ⟨A3, c3, rfl, ho3, hb3⟩
    have hr3 := Rd.of_own ho3
    have hlo3 := fun g (hg : (Value.slice A3 la c3).ownBlock = some g) => (ho3.lt g hg).1
    have hs23 := hb3.size
    have bW3 := bW2.trans (hb3.mono bW2.size)
    have hr13 := hr12.below (hb3.mono hs12)
    have hr23 := hr2.below hb3
    have HC3 := Lib.hid (HC2.out.block (fun g _ h => hb3.block g h))
    clear ho3 HKp hr12 hr2 HC2
    go_wp2_with fail
    refine (HD.out _ _ _ bW3 (hr23.more hs23)).mono ?_
    rintro e w4 ⟨A4, c4, rfl, _, hcb, hb4⟩
    try dsimp only at hcb ⊢
    rw [HLB.out] at hcb ⊢
    have hs34 := hb4.size
    have bW4 := bW3.trans (hb4.mono bW3.size)
    have hr14 := hr13.below (hb4.mono (Nat.le_trans hs12 hs23))
    have hr24 := hr23.below (hb4.mono hs23)
    have hr34 := hr3.below hb4
    have HC4 := Lib.hid (HC3.out.block (fun g _ h => hb4.block g (by omega)))
    have HB4 : Hid (CelS w4 w3.heap.size w4.heap.size A4 lb) := Lib.hid (fun hn => by
      obtain ⟨g, off, cur, e, h1, h2, h3⟩ := hcb hn
      exact ⟨g, off, cur, _, e, h1, (Array.getElem?_eq_some_iff.1 h2).1, h2, h3⟩)
    clear hcb HD hr13 hr23 hr3 HC3
    have HOr4 := Lib.hid (HOr.out _ bW4)
    go_wp2_with fail
    refine HOr4.out.mono ?_
    intro e w5 h5
    obtain ⟨A5, c5, rfl, ho5, hb5⟩ := h5.got HLO.out
    have hs45 := hb5.size
    have bW5 := bW4.trans (hb5.mono bW4.size)
    have hr15 := hr14.below (hb5.mono (by omega))
    have hr25 := hr24.below (hb5.mono (by omega))
    have hr35 := hr34.below (hb5.mono (by omega))
    have HC5 := Lib.hid (HC4.out.block (fun g _ h => hb5.block g (by omega)))
    have HB5 := Lib.hid ((HB4.out.block (fun g _ h => hb5.block g h)).wide (Nat.le_refl _) hs45)
    have HO5 := Lib.hid ((CelS.of_own ho5).wide hs34 (Nat.le_refl _))
    have HLO3 := Lib.hid hlo3
    clear h5 ho5 HOr HOr4 hr14 hr24 hr34 HC4 HB4 hlo3 bW2 bW3 bW4 hb1 hb2 hb3 hb4 hb5
    go_wp2_with fail
    go_loopw [13] (fun s wr => ∃ t : Nat, t ≤ lb ∧ s = .int .i64 t ∧ Hid (CelS wr w3.heap.size w5.heap.size A4 lb) ∧ Hid (CelS wr w3.heap.size w5.heap.size A5 lo) ∧ Save (fun i => w3.heap.size ≤ i ∧ i < w5.heap.size) w5 wr) (fun s _ => lb - (intOf s).toNat)
    case atStart => exact ⟨0, Nat.zero_le _, rfl, HB5, HO5, Save.refl _ _⟩
    case round =>
      clear HB5 HO5
      obtain ⟨t, ht, rfl, hB, hO, hS⟩ := hrel
      by_cases htl : t < lb
      · obtain ⟨g, off, y, hA4, hg1, hg2, hc0, hf0⟩ := hB.out.at_ htl
        have hX : w3.heap.size ≤ g ∧ g < w5.heap.size := ⟨hg1, hg2⟩
        have ht0 : (0 : Int) ≤ (t : Int) := by omega
        have ht1 : (t : Int) < (lb : Int) := by omega
        subst hA4
        go_wp2_with fail
        go_roundw
        case rel => exact ⟨t + 1, by omega, by go_num, Lib.hid (hB.out.setCell g _ _), Lib.hid (hO.out.setCell g _ _), hS.setCell (p := ⟨g, off + t, none⟩) (fun _ => hX) _⟩
        case measure => simp [intOf]; omega
      · obtain rfl : lb = t := by omega
        clear htl hB
        go_wp2_with fail
        go_loopw [14] (fun s wr2 => ∃ t : Nat, t ≤ lo ∧ s = .int .i64 t ∧ Hid (CelS wr2 w3.heap.size w5.heap.size A5 lo) ∧ Save (fun i => w3.heap.size ≤ i ∧ i < w5.heap.size) w5 wr2) (fun s _ => lo - (intOf s).toNat)
        case atStart => exact ⟨0, Nat.zero_le _, rfl, hO, hS⟩
        case round =>
          clear hO hS
          rename World => wr2
          obtain ⟨t, ht, rfl, hO, hS⟩ := hrel
          by_cases htl : t < lo
          · obtain ⟨g, off, y, hA5, hg1, hg2, hc0, hf0⟩ := hO.out.at_ htl
            have hX : w3.heap.size ≤ g ∧ g < w5.heap.size := ⟨hg1, hg2⟩
            have ht0 : (0 : Int) ≤ (t : Int) := by omega
            have ht1 : (t : Int) < (lo : Int) := by omega
            subst hA5
            go_wp2_with fail
            go_roundw
            case rel => exact ⟨t + 1, by omega, by go_num, Lib.hid (hO.out.setCell g _ _), hS.setCell (p := ⟨g, off + t, none⟩) (fun _ => hX) _⟩
            case measure => simp [intOf]; omega
          · obtain rfl : lo = t := by omega
            have hbA : Below w3.heap.size w5 wr2 := hS.below (fun i hi => hi.1) (by omega)
            have hrK := hr35.below hbA
            have hrA := hr25.below (hbA.mono hs23)
            have hrO := hr15.below (hbA.mono (by omega))
            have bW7 := bW5.trans (hbA.mono (by omega))
            have HA2 := HC5.out.block (fun g _ h => hbA.block g (by omega))
            have HS := Lib.hid (same_true (c := c2) (c' := c3) hrA hrK (by omega))
            have hs7r : w3.heap.size ≤ wr2.heap.size := by have := hS.size; omega
            clear hr15 hr25 hr35 HC5 hS htl hO hrA hbA bW5
            go_wp2_with fail
            refine HS.out.mono ?_
            rintro e w8 ⟨rfl, hb8⟩
            replace HA2 := HA2.block (fun g _ h => hb8.block g (by omega))
            replace hrO := hrO.below (hb8.mono (by omega))
            replace hrK := hrK.below (hb8.mono (by omega))
            have bW8 := bW7.trans (hb8.mono bW7.size)
            have hs8 : w3.heap.size ≤ w8.heap.size := by have := hb8.size; omega
            have HHA := Lib.hid HA2
            clear HS HA2 hb8 bW7
            go_wp2_with fail
            go_loopw [15] (fun s wr3 => ∃ t : Nat, t ≤ la ∧ s = .int .i64 t ∧ Hid (CelS wr3 w1.heap.size w2.heap.size A2 la) ∧ Save (fun i => w1.heap.size ≤ i ∧ i < w2.heap.size) w8 wr3) (fun s _ => la - (intOf s).toNat)
            case atStart => exact ⟨0, Nat.zero_le _, rfl, HHA, Save.refl _ _⟩
            case round =>
              clear HHA
              rename World => wr3
              obtain ⟨t, ht, rfl, hO, hS⟩ := hrel
              by_cases htl : t < la
              · obtain ⟨g, off, y, hA2, hg1, hg2, hc0, hf0⟩ := hO.out.at_ htl
                have hX : w1.heap.size ≤ g ∧ g < w2.heap.size := ⟨hg1, hg2⟩
                have ht0 : (0 : Int) ≤ (t : Int) := by omega
                have ht1 : (t : Int) < (la : Int) := by omega
                subst hA2
                go_wp2_with fail
                go_roundw
                case rel => exact ⟨t + 1, by omega, by go_num, Lib.hid (hO.out.setCell g _ _), hS.setCell (p := ⟨g, off + t, none⟩) (fun _ => hX) _⟩
                case measure => simp [intOf]; omega
              · obtain rfl : la = t := by omega
                have hbB : Below w1.heap.size w8 wr3 := hS.below (fun i hi => hi.1) (by omega)
                have hrO9 := hrO.below hbB
                have hrK9 := hrK.save hS (by omega) (fun a ha hx => by
                  have h1 := HLO3.out a.block (by subst ha; rfl)
                  have h2 := hx.2
                  omega)
                have bW9 := bW8.trans (hbB.mono hs01)
                have hs9 : w3.heap.size ≤ wr3.heap.size := by have := hS.size; omega
                have HA9 := Lib.hid (HA.out _ _ c1 bW9 (hrO9.more (by omega)))
                clear htl hO hS hrO hrK hbB bW8 HA
                go_wp2_with fail
                refine HA9.out.mono ?_
                intro e w10 h10
                obtain ⟨A10, c10, rfl, ho10, hb10⟩ := h10.got HLA.out
                have hr10 := Rd.of_own ho10
                have bW10 := bW9.trans (hb10.mono bW9.size)
                have hrO10 := hrO9.below (hb10.mono (by omega))
                have hrK10 := hrK9.below (hb10.mono hs9)
                have HS2 := Lib.hid (same_true (c := c1) (c' := c) hrO10 (HI.out _ bW10) (by omega))
                have hs10 : w3.heap.size ≤ w10.heap.size := by have := hb10.size; omega
                clear h10 ho10 HA9 hrO9 hrK9 hrO10 bW9 hb10
                go_wp2_with fail
                refine HS2.out.mono ?_
                rintro e w11 ⟨rfl, hb11⟩
                have hr11 := hr10.step hb11
                have hrK11 := hrK10.below (hb11.mono hs10)
                have bW11 := bW10.trans (hb11.mono bW10.size)
                have HS3 := Lib.hid (same_true (c := c10) (c' := c3) hr11 hrK11 (by omega))
                clear HS2 hr10 hrK10 hr11 hrK11 hb11 bW10
                go_wp2_with fail
                refine HS3.out.mono ?_
                rintro e w12 ⟨rfl, hb12⟩
                have bW12 := bW11.trans (hb12.mono bW11.size)
                have hk := Lib.hid (hW.out _ bW12)
                clear HS3 hb12 bW11
                go_wp2_with fail
                refine hk.out.mono ?_
                rintro e w13 ⟨rfl, hb13⟩
                go_wp2_with fail
                go_ret
                exact ⟨rfl, bW12.trans (hb13.mono bW12.size)⟩
end Go.Proofs.YtmehfegfkjhdcaaDoor
