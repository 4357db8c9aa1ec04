/-
  The law CrcLinear's walk.
-/
import Derived.Test.YtekldonfmfnmpaaDoorL3
namespace Go.Proofs.YtekldonfmfnmpaaDoor
open Go.RowKit

theorem slice_front {A : Option Addr} {n c m : Nat} (hm : m ≤ c) (u : World) : (Instr.slice 23 (.slice A n c) none (some (.int .i64 (m : Int))) none).run Tryd.prog u = .ok (.slice A m c) u := by
  rcases A with _ | a
  · simp [Instr.slice, Instr.sliceBounds, Instr.sliceBound, run_underlying Tryd.underlying23, asIntOf, go_sem, hm]
  · simp [Instr.slice, Instr.sliceBounds, Instr.sliceBound, run_underlying Tryd.underlying23, asIntOf, go_sem, hm]
theorem Rd.take {q : IntKind} {w : World} {B n : Nat} {A : Option Addr} {xs : List Int} (h : Rd q w B A n xs) {m : Nat} (hm : m ≤ n) : Rd q w B A m (xs.take m) := by
  refine ⟨by rw [List.length_take, h.len]; omega, fun k hk => ?_⟩
  obtain ⟨b, off, e, hb, hc⟩ := h.cells k (by omega)
  exact ⟨b, off, e, hb, by rw [hc, List.getElem?_take, if_pos hk]⟩
theorem Byte.take {xs : List Int} (h : Byte xs) (m : Nat) : Byte (xs.take m) := Byte.of_mem fun x hx => h.mem x (List.mem_of_mem_take hx)
theorem toI_xorB {a b : List Bool} : toI (xorB a b) = addL (toI a) (toI b) := by
  apply List.ext_getElem (by rw [toI_length, xorB_length, addL_length, toI_length])
  intro i h1 h2
  have hi : i < a.length := by rw [toI_length, xorB_length] at h1; exact h1
  have e1 : (toI (xorB a b))[i] = bI ((xorB a b).getD i false) := by
    have := toI_getD (xorB a b) i
    rw [List.getElem?_eq_getElem h1] at this
    simpa using this
  rw [e1, xorB_getD hi, ← xor_bI]
  simp only [addL, List.getElem_map, List.getElem_range]
  rw [toI_getD, toI_getD]
theorem addL_toB {p q : List Int} (hp : Bits p) (hq : Bits q) : addL p q = toI (xorB (toB p) (toB q)) := by rw [toI_xorB, toI_toB hp, toI_toB hq]
theorem addL_bits {p q : List Int} (hp : Bits p) (hq : Bits q) : Bits (addL p q) := by rw [addL_toB hp hq]; exact toI_bits _
theorem crcI_add {k : Int} {p q : List Int} (hp : Bits p) (hq : Bits q) (hl : p.length = q.length) : crcI k (addL p q) = addL (crcI k p) (crcI k q) := by
  rw [addL_toB hp hq]
  unfold crcI
  rw [toB_toI, crcB_xor _ (by rw [toB_length, toB_length, hl]), toI_xorB]
theorem computeS_zero {k z : Int} {p r : List Int} (h : computeS k p = (r, z)) (hz : z = 0) : (genN k).2 ≠ 0 ∧ validB p = true ∧ r = crcI k p := by
  unfold computeS at h
  split at h
  · cases h; omega
  · rename_i h0
    split at h
    · cases h; omega
    · rename_i hv
      cases h
      exact ⟨h0, by simpa using hv, rfl⟩
set_option maxRecDepth 100000 in
set_option maxHeartbeats 4000000 in
theorem linear_at {k : Int} {A B : Option Addr} {na nb ca cb m : Nat} {xs ys : List Int} {w : World} (hK : Kinds w) (hI : Rd .u8 w w.heap.size A na xs) (hJ : Rd .u8 w w.heap.size B nb ys) (hx : Byte xs) (hy : Byte ys) (hca : na ≤ ca) (hcb : nb ≤ cb) (hm : (na = m ∧ m ≤ nb) ∨ (nb = m ∧ m < na)) :
    Calls Tryd.prog 6 #[.int .i64 k, .slice A na ca, .slice B nb cb] w fun e w' => e = .returned (.bool true) ∧ Below w.heap.size w w' := by
  have HKn := Lib.hid (fun (u : World) (h : Below w.heap.size w u) => known_any (hK.step h))
  have hm1 : m ≤ na := by omega
  have hm2 : m ≤ nb := by omega
  have hp := hI.take hm1
  have hq := hJ.take hm2
  have hpb := hx.take m
  have hqb := hy.take m
  have hslA := slice_front (A := A) (n := na) (c := ca) (m := m) (by omega)
  have hslB := slice_front (A := B) (n := nb) (c := cb) (m := m) (by omega)
  generalize xs.take m = p at *
  generalize ys.take m = q at *
  clear hI hJ hx hy
  have hpl := hp.len
  have hql := hq.len
  by_cases h2 : 2000 < m
  · have hd : decide ((2000 : Int) < (m : Int)) = true := by simp; omega
    rcases hm with ⟨rfl, hle⟩ | ⟨rfl, hle⟩
    all_goals
      go_enter Tryd.func6, Tryd.ntmps6
      go_wp2_with fail
      refine (HKn.out _ (Below.refl _ _)).mono ?_
      rintro e w1 ⟨rfl, hb⟩
      go_wp2_with fail
      go_ret
      exact ⟨rfl, hb⟩
  · have hd : decide ((2000 : Int) < (m : Int)) = false := by simp; omega
    have hm3 : m ≤ 2000 := by omega
    have HC1 := Lib.hid (compute_any (k := k) (c := ca) hK hp (by omega) hpb)
    have HC2 := Lib.hid (fun (u : World) (h : Below w.heap.size w u) => compute_any (k := k) (c := cb) (hK.step h) (hq.step h) (by omega) hqb)
    obtain ⟨⟨r1, e1⟩, hr1⟩ : ∃ p', computeS k p = p' := ⟨_, rfl⟩
    obtain ⟨⟨r2, e2⟩, hr2⟩ : ∃ p', computeS k q = p' := ⟨_, rfl⟩
    rw [hr1] at HC1
    rw [hr2] at HC2
    obtain ⟨l1, hl1⟩ : ∃ l, r1.length = l := ⟨_, rfl⟩
    obtain ⟨l2, hl2⟩ : ∃ l, r2.length = l := ⟨_, rfl⟩
    have HL1 := Lib.hid hl1
    have HL2 := Lib.hid hl2
    by_cases hz1 : e1 = 0
    · by_cases hz2 : e2 = 0
      · obtain ⟨h0, hv1, f1⟩ := computeS_zero hr1 hz1
        obtain ⟨_, hv2, f2⟩ := computeS_zero hr2 hz2
        have hb1 := validB_bits hpb hv1
        have hb2 := validB_bits hqb hv2
        have hsum := crcI_add (k := k) hb1 hb2 (by omega)
        rw [← f1, ← f2] at hsum
        have hcs : computeS k (addL p q) = (addL r1 r2, 0) := by
          unfold computeS
          rw [if_neg h0, bits_valid (addL_bits hb1 hb2), if_neg (by decide), hsum]
        have hl12 : l2 = l1 := by rw [← hl1, ← hl2, f1, f2, crcI_length, crcI_length]
        have hl24 : l1 ≤ 24 := by rw [← hl1, f1, crcI_length]; exact genN_le k
        have hal : (addL r1 r2).length = l1 := by rw [addL_length, hl1]
        have HAL := Lib.hid hal
        have HP := Lib.hid (fun (u : World) (h : Below w.heap.size w u) => add_any (c := ca) (c' := cb) (hp.step h) (hq.step h) (by omega))
        have HC3 := Lib.hid (fun (u : World) (A3 : Option Addr) (c3 : Nat) (h : Below w.heap.size w u) (hr : Rd .u8 u u.heap.size A3 m (addL p q)) => compute_any (k := k) (c := c3) (hK.step h) hr (by omega) (addL_bits hb1 hb2).byte)
        rw [hcs] at HC3
        subst hz1 hz2 hl12
        clear hal hcs hsum f1 f2 h0 hv1 hv2 hb1 hb2 hr1 hr2 hl1 hl2 hpl hql h2
        rcases hm with ⟨rfl, hle⟩ | ⟨rfl, hle⟩
        all_goals
          go_enter Tryd.func6, Tryd.ntmps6
          go_wp2_with fail
          refine HC1.out.mono ?_
          intro e w1 h1
          obtain ⟨A1, c1, rfl, ho1, hb1⟩ := h1.got HL1.out
          have hrd1 := Rd.of_own ho1
          clear h1 ho1
          go_wp2_with fail
          refine (HC2.out _ hb1).mono ?_
          intro e w2 h2
          obtain ⟨A2, c2, rfl, ho2, hb2⟩ := h2.got HL2.out
          have hrd2 := Rd.of_own ho2
          replace hrd1 := hrd1.step hb2
          replace hb2 := hb1.trans (hb2.mono hb1.size)
          clear h2 ho2 hb1 HC1 HC2
          have hb2d : Below w.heap.size w w2.drew := hb2.drew
          go_wp2_with fail
          go_region_held3 (fun _ => True) (first | trivial | go_keep)
            (first
              | (go_at_call 21; refine (HP.out _ hb2d).mono ?_; rintro e w3 ⟨⟨A3, c3, rfl, ho3⟩, hb3⟩)
              | (go_at_call 12; refine (HC3.out _ _ _ (hb2d.trans (hb3.mono hb2d.size)) (Rd.of_own ho3)).mono ?_; intro e w4 h4; obtain ⟨A4, c4, rfl, ho4, hb4⟩ := h4.got HAL.out))
          have hrd4 := Rd.of_own ho4
          have hb34 := hb2d.trans (hb3.mono hb2d.size)
          have hb4w := hb34.trans (hb4.mono hb34.size)
          have hx1 := ((show Rd .u8 w2.drew w2.drew.heap.size A1 l2 r1 from hrd1.drew).step hb3).step hb4
          have hx2 := ((show Rd .u8 w2.drew w2.drew.heap.size A2 l2 r2 from hrd2.drew).step hb3).step hb4
          have hAdd := Lib.hid (add_any (c := c1) (c' := c2) hx1 hx2 (by omega))
          clear hx1 hx2 hb3 hb4 ho3 ho4 h4 hrd1 hrd2 hb34 HP HC3 hb2 hb2d
          go_wp2_with fail
          refine hAdd.out.mono ?_
          rintro e w5 ⟨⟨A5, c5, rfl, ho5⟩, hb5⟩
          replace hrd4 := hrd4.step hb5
          have hrd5 := Rd.of_own ho5
          replace hb5 := hb4w.trans (hb5.mono hb4w.size)
          have HS := Lib.hid (same_true (c := c4) (c' := c5) hrd4 hrd5 (by omega))
          clear hAdd ho5 hb4w hrd4 hrd5
          go_wp2_with fail
          refine HS.out.mono ?_
          rintro e w6 ⟨rfl, hb6⟩
          replace hb6 := hb5.trans (hb6.mono hb5.size)
          clear HS hb5
          go_wp2_with fail
          refine (HKn.out _ hb6).mono ?_
          rintro e w7 ⟨rfl, hb7⟩
          replace hb7 := hb6.trans (hb7.mono hb6.size)
          go_wp2_with fail
          go_ret
          exact ⟨rfl, hb7⟩
      · have hne : (e2 != 0) = true := by simp [hz2]
        subst hz1
        clear hl1 hl2 hr1 hr2 h2 hz2
        rcases hm with ⟨rfl, hle⟩ | ⟨rfl, hle⟩
        all_goals
          go_enter Tryd.func6, Tryd.ntmps6
          go_wp2_with fail
          refine HC1.out.mono ?_
          intro e w1 h1
          obtain ⟨A1, c1, rfl, ho1, hb1⟩ := h1.got HL1.out
          clear h1 ho1
          go_wp2_with fail
          refine (HC2.out _ hb1).mono ?_
          intro e w2 h2
          obtain ⟨A2, c2, rfl, ho2, hb2⟩ := h2.got HL2.out
          replace hb2 := hb1.trans (hb2.mono hb1.size)
          clear h2 ho2
          go_wp2_with fail
          refine (HKn.out _ hb2).mono ?_
          rintro e w3 ⟨rfl, hb3⟩
          replace hb3 := hb2.trans (hb3.mono hb2.size)
          go_wp2_with fail
          go_ret
          exact ⟨rfl, hb3⟩
    · have hne : (e1 != 0) = true := by simp [hz1]
      clear hl1 hl2 hr1 hr2 h2 hz1
      rcases hm with ⟨rfl, hle⟩ | ⟨rfl, hle⟩
      all_goals
        go_enter Tryd.func6, Tryd.ntmps6
        go_wp2_with fail
        refine HC1.out.mono ?_
        intro e w1 h1
        obtain ⟨A1, c1, rfl, ho1, hb1⟩ := h1.got HL1.out
        clear h1 ho1
        go_wp2_with fail
        refine (HC2.out _ hb1).mono ?_
        intro e w2 h2
        obtain ⟨A2, c2, rfl, ho2, hb2⟩ := h2.got HL2.out
        replace hb2 := hb1.trans (hb2.mono hb1.size)
        clear h2 ho2
        go_wp2_with fail
        refine (HKn.out _ hb2).mono ?_
        rintro e w3 ⟨rfl, hb3⟩
        replace hb3 := hb2.trans (hb3.mono hb2.size)
        go_wp2_with fail
        go_ret
        exact ⟨rfl, hb3⟩
theorem linear_walk {k : Int} {A B : Option Addr} {na nb ca cb : Nat} {xs ys : List Int} {w : World} (hK : Kinds w) (hI : Rd .u8 w w.heap.size A na xs) (hJ : Rd .u8 w w.heap.size B nb ys) (hx : Byte xs) (hy : Byte ys) (hca : na ≤ ca) (hcb : nb ≤ cb) :
    Calls Tryd.prog 6 #[.int .i64 k, .slice A na ca, .slice B nb cb] w fun e w' => e = .returned (.bool true) ∧ Below w.heap.size w w' := by
  rcases Nat.lt_or_ge nb na with h | h
  · exact linear_at (m := nb) hK hI hJ hx hy hca hcb (.inr ⟨rfl, h⟩)
  · exact linear_at (m := na) hK hI hJ hx hy hca hcb (.inl ⟨rfl, h⟩)
end Go.Proofs.YtekldonfmfnmpaaDoor
