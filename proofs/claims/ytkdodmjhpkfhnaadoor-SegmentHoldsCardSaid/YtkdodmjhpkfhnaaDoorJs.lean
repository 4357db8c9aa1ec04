/-
  The reference of Join. Rows of one's own that are changed: one byte stored, a row put in another's place, a row left out.
-/
import Derived.Test.YtkdodmjhpkfhnaaDoorRe
import Derived.Test.YtkdodmjhpkfhnaaDoorRj
namespace Go.Proofs.YtkdodmjhpkfhnaaDoor
/-! ### The reference of Join. -/
section
open Go.RowKit

set_option maxRecDepth 100000 in
set_option maxHeartbeats 1000000 in
theorem refJoin_arg {A : Option Addr} {n c : Nat} {b : Int} {w : World} (h : b < 1 ∨ 79560 < b) :
    Calls Tryd.prog 28 #[.int .i64 b, .slice A n c] w (RetBytes 5 w ([], 2)) := by
  have hn := Lib.hid (fun (u : World) => refPlan_no (b := b) (w := u) h)
  unfold layV layA zeroLay at hn
  clear h
  go_enter Tryd.func28, Tryd.ntmps28
  go_wp2_with fail
  refine (hn.out _).mono ?_
  rintro e w1 ⟨rfl, hb1⟩
  have hb2 := hb1.alloc hb1.size (.cells (layA zeroLay) 34)
  go_wp2_with fail
  go_ret2
  exact RetBytes.nil_ hb2
theorem slice_front2 {A : Option Addr} {n c m : Nat} (hm : m ≤ c) (u : World) : (Instr.slice 46 (.slice A n c) none (some (.int .i64 (m : Int))) none).run Tryd.prog u = .ok (.slice A m c) u := by
  rcases A with _ | a
  · simp [Instr.slice, Instr.sliceBounds, Instr.sliceBound, run_underlying Tryd.underlying46, asIntOf, go_sem, hm]
  · simp [Instr.slice, Instr.sliceBounds, Instr.sliceBound, run_underlying Tryd.underlying46, asIntOf, go_sem, hm]
theorem slice_tail {a : Addr} {n c m : Nat} (hm : m < n) (hc : n ≤ c) (u : World) : (Instr.slice 46 (.slice (some a) n c) (some (.int .i64 (m : Int))) none none).run Tryd.prog u = .ok (.slice (some (a.add m)) (n - m) (c - m)) u := by
  rw [slice_back (by omega), if_neg (by omega)]
theorem fitB_all {l : Lay} {rows : List BRow} (h : fitB l rows = true) (r : BRow) (hr : rows[0]? = some r) : (1 : Int) ∉ r.xs.take l.filler := by
  classical
  unfold fitB at h
  rw [hr] at h
  simp only [Bool.and_eq_true, Bool.not_eq_true', decide_eq_false_iff_not, Option.map_some, Option.getD_some] at h
  exact h.2
theorem fitB_of {l : Lay} {rows : List BRow} (h1 : rows.length = l.blocks) (h2 : FitTo l rows l.blocks) (r : BRow) (hr : rows[0]? = some r) (h3 : (1 : Int) ∉ r.xs.take l.filler) : fitB l rows = true := by
  classical
  unfold fitB
  rw [hr]
  simp only [Bool.and_eq_true, Bool.not_eq_true', decide_eq_false_iff_not, decide_eq_true_eq, Option.map_some, Option.getD_some]
  exact ⟨⟨h1, h2⟩, h3⟩
theorem fitB_false {l : Lay} {rows : List BRow} (h : ¬ (rows.length = l.blocks ∧ FitTo l rows l.blocks)) : fitB l rows = false := by
  cases hf : fitB l rows with
  | false => rfl
  | true => exact absurd (fitB_true hf) h
/-- The first k parts, one behind the other. -/
def preL (l : Lay) (rows : List BRow) (k : Nat) : List Int := ((List.range k).map (fun i => (partO l rows i).getD [])).flatten
theorem preL_succ (l : Lay) (rows : List BRow) (k : Nat) : preL l rows (k + 1) = preL l rows k ++ (partO l rows k).getD [] := by
  unfold preL
  rw [List.range_succ, List.map_append, List.flatten_append]
  simp
/-- Where the last loop is. -/
structure RkIn (w : World) (L : Nat) (l : Lay) (rows : List BRow) (k : Nat) (A : Option Addr) (m c : Nat) (W : World) : Prop where
  len : (preL l rows k).length = m
  own : W.ownsRow w.heap.size 5 1 (.slice A m c) m ((preL l rows k).map (Value.int .u8))
  below : Below w.heap.size w W
  lay : LayAt W L 34 l
  som : ∀ i, i < k → (partO l rows i).isSome = true
  le : m ≤ k * 6144
structure RkAt (w : World) (L n : Nat) (l : Lay) (rows : List BRow) (o i : Value) (W : World) : Prop where
  ex : ∃ (k : Nat) (A : Option Addr) (m c : Nat), k ≤ n ∧ i = .int .i64 (k : Int) ∧ o = .slice A m c ∧ RkIn w L l rows k A m c W
theorem str_ne {a b : ByteArray} (h : ¬ a = b) : (a.toList == b.toList) = false := by
  rw [beq_eq_false_iff_ne]
  intro e
  refine h (ByteArray.ext (Array.ext' ?_))
  rw [← ByteArray.toList_eq, ← ByteArray.toList_eq]
  exact e
/-- append of bytes, beside a layout. -/
theorem more_run_lay {w : World} {base B : Nat} {l : Lay} {A A1 : Option Addr} {n c m c' : Nat} {xs ys : List Int} (hL : LayAt w B 34 l) (hO : w.ownsRow base 5 1 (.slice A n c) n (xs.map (Value.int .u8))) (hJ : Rd .u8 w w.heap.size A1 m ys) (hn : n ≤ 2199023255552) (hm : m ≤ 2199023255552) (hb : base ≤ w.heap.size) :
    ∃ A2 c2 w2, (Builtin.append_ #[46, 46] 46 #[.slice A n c, .slice A1 m c']).run Tryd.prog w = .ok (.slice A2 (n + m) c2) w2 ∧
      w2.ownsRow base 5 1 (.slice A2 (n + m) c2) (n + m) ((xs ++ ys).map (Value.int .u8)) ∧ (∀ B v, Below B v w → B ≤ base → B ≤ v.heap.size → Below B v w2) ∧ LayAt w2 B 34 l := by
  obtain ⟨i0, hi, hz0, hz1, hz2⟩ := info_parts Tryd.info_u8
  obtain ⟨V2, w2, h1, h2, h3, _⟩ := run_append_rd_at (P := Tryd.prog) (t := 46) (ty := 46) (c' := c') Tryd.underlying46 hi hz0 hz1 hz2 hO hJ (by omega) hb
  obtain ⟨A2, c2, rfl⟩ := ownsRow_shape h2
  exact ⟨A2, c2, w2, h1, h2, fun B v h hB hv => h.grown h3 (Nat.le_trans hv h.size) (fun g hg => Nat.le_trans hB (hO.lt g hg).1), hL.grown h3 (hL.not_row (by decide) hO)⟩
theorem rk_done {w w6 wr : World} {L k m co d c2 : Nat} {l : Lay} {rows : List BRow} {Ao A2 : Option Addr} {xs : List Int} (h : RkIn w L l rows k Ao m co wr) (hp : partO l rows k = some xs) (hl : xs.length = d) (hd : d ≤ 6144)
    (own : w6.ownsRow w.heap.size 5 1 (.slice A2 (m + d) c2) (m + d) ((preL l rows k ++ xs).map (Value.int .u8))) (hb : Below w.heap.size w w6) (hL : LayAt w6 L 34 l) : RkIn w L l rows (k + 1) A2 (m + d) c2 w6 := by
  have e : preL l rows (k + 1) = preL l rows k ++ xs := by rw [preL_succ, hp]; rfl
  refine ⟨by rw [e, List.length_append, h.len, hl], by rw [e]; exact own, hb, hL, fun i hi => ?_, by have := h.le; omega⟩
  rcases Nat.lt_or_ge i k with h3 | h3
  · exact h.som i h3
  · obtain rfl : i = k := by omega
    rw [hp]; rfl
set_option maxRecDepth 100000 in
set_option maxHeartbeats 4000000 in
theorem refJoin_main {A : Option Addr} {n c b : Nat} {rows : List BRow} {w : World} (hI : Rds w w.heap.size A n rows) (hn : n ≤ 100000) (hx : ∀ r ∈ rows, Byte r.xs ∧ r.n ≤ 1000000) (hcap : ∀ r ∈ rows, r.n ≤ r.c) (h1 : 1 ≤ b) (h2 : b ≤ 79560) :
    Calls Tryd.prog 28 #[.int .i64 (b : Int), .slice A n c] w (RetBytes 5 w (joinS (b : Int) rows)) := by
  have hlen := hI.len
  have hps : planS (b : Int) = (planN b, 0) := by unfold planS; rw [if_neg (by omega), Int.toNat_natCast]
  obtain ⟨hok, hbits⟩ := planN_ok h1 h2
  have hpl := Lib.hid (fun (u : World) => refPlan_any (b := (b : Int)) (w := u))
  rw [hps] at hpl
  have hea := Lib.hid (fun (u : World) => refEach_any (b := (b : Int)) (w := u) hps hok.blocks1)
  have hJ3 : Hid (rows.all (fun r => validB r.xs) = false → joinS (b : Int) rows = ([], 3)) := Lib.hid (fun hv => by unfold joinS; rw [if_neg (by omega), if_pos hv])
  have hJ60 : Hid (rows.all (fun r => validB r.xs) = true → fitB (planN b) rows = false → joinS (b : Int) rows = ([], 60)) := Lib.hid (fun hv hf => by
    unfold joinS; rw [if_neg (by omega), if_neg (by rw [hv]; simp), Int.toNat_natCast, if_pos hf])
  have hJ61 : Hid (rows.all (fun r => validB r.xs) = true → fitB (planN b) rows = true → (∃ i, i < (planN b).blocks ∧ partO (planN b) rows i = none) → joinS (b : Int) rows = ([], 61)) := Lib.hid (fun hv hf ⟨i, hi, hp⟩ => by
    unfold joinS
    rw [if_neg (by omega), if_neg (by rw [hv]; simp), Int.toNat_natCast, if_neg (by rw [hf]; simp), if_pos]
    rw [List.all_eq_false]
    exact ⟨i, List.mem_range.2 hi, by rw [hp]; simp⟩)
  have hJ0 : Hid (rows.all (fun r => validB r.xs) = true → fitB (planN b) rows = true → (∀ i, i < (planN b).blocks → (partO (planN b) rows i).isSome = true) → joinS (b : Int) rows = (preL (planN b) rows (planN b).blocks, 0)) := Lib.hid (fun hv hf hp => by
    unfold joinS preL
    rw [if_neg (by omega), if_neg (by rw [hv]; simp), Int.toNat_natCast, if_neg (by rw [hf]; simp), if_neg]
    rw [Bool.not_eq_false, List.all_eq_true]
    exact fun i hi => hp i (List.mem_range.1 hi))
  obtain ⟨l, hl⟩ : ∃ l, planN b = l := ⟨_, rfl⟩
  rw [hl] at hpl hok hbits hea hJ60 hJ61 hJ0
  obtain ⟨R, hR⟩ : ∃ R, joinS (b : Int) rows = R := ⟨_, rfl⟩
  rw [hR] at hJ3 hJ60 hJ61 hJ0 ⊢
  have HLX := Lib.hid hlen
  have HX := Lib.hid hx
  have HC := Lib.hid hcap
  have HOK := Lib.hid hok
  have hbl := hok.blocks1
  have hbl0 := hok.blocks0
  clear hl hps hbits hlen hR hx hcap hok
  unfold layV layA at hpl
  go_enter Tryd.func28, Tryd.ntmps28
  go_wp2_with fail
  refine (hpl.out _).mono ?_
  rintro e w1 ⟨rfl, hb1⟩
  have hL := LayAt.new w1 34 l
  have hb2 := hb1.alloc hb1.size (.cells (layA l) 34)
  unfold layA at hb2 hL
  go_wp2_with fail
  generalize (w1.alloc (.cells #[.int .i64 l.bits, .int .i64 l.blocks, .int .i64 l.long, .int .i64 l.short, .int .i64 l.longs, .int .i64 l.shorts, .int .i64 l.filler] 34)) = W1 at *
  have hI1 := hI.below hb2
  go_loop [8] (fun i => ∃ k : Nat, k ≤ n ∧ i = .int .i64 (k : Int) ∧ (rows.take k).all (fun r => validB r.xs) = true) (fun i => n - (intOf i).toNat)
  case atStart => exact ⟨0, Nat.zero_le _, rfl, by simp⟩
  case round =>
    obtain ⟨k, hk, rfl, hv⟩ := hrel
    have HV := Lib.hid hv
    clear hv
    by_cases hlt : k < n
    · obtain ⟨bb, off, r, rfl, hbb, hr, hc, hRd⟩ := hI1.cells k hlt
      have hri := right_any (c := r.c) hRd ((HX.out r (List.mem_of_getElem? hr)).2)
      have HR := Lib.hid hr
      have hk0 : (0 : Int) ≤ (k : Int) := by omega
      have hk1 : (k : Int) < (n : Int) := by omega
      clear hr
      cases hvr : validB r.xs with
      | true =>
        rw [hvr] at hri
        have HVR := Lib.hid hvr
        clear hvr
        go_wp2_with (go_at_call 45; refine hri.mono ?_; rintro e w3 ⟨rfl, rfl⟩)
        go_round
        case rel => exact ⟨k + 1, by omega, by go_num, all_take_succ HR.out HV.out HVR.out⟩
        case measure => simp [intOf]; omega
      | false =>
        rw [hvr] at hri
        have hres := hJ3.out (by rw [List.all_eq_false]; exact ⟨r, List.mem_of_getElem? HR.out, by rw [hvr]; simp⟩)
        subst hres
        clear hvr hJ60 hJ61 hJ0 hJ3
        go_wp2_with (go_at_call 45; refine hri.mono ?_; rintro e w3 ⟨rfl, rfl⟩)
        go_ret2
        exact RetBytes.nil_ hb2
    · obtain rfl : k = n := by omega
      have HVA : Hid (rows.all (fun r => validB r.xs) = true) := Lib.hid (by
        have := HV.out
        rwa [List.take_of_length_le (Nat.le_of_eq HLX.out)] at this)
      clear HV hlt hk hJ3
      go_wp2_with fail
      refine (hea.out _).mono ?_
      rintro e w5 ⟨A5, c5, rfl, ho5, hb5⟩
      have hr5 := Rd.of_own ho5
      have hL5 := hL.below hb5 hL.lt
      have hbw5 := hb2.trans (hb5.mono hb2.size)
      obtain ⟨b5, off5, rfl, hlt5, _⟩ := hr5.cells 0 (by omega)
      have hI5 := hI.below hbw5
      clear hpl hea ho5 hb5 hb2 hb1 hL hI1
      by_cases hnb : k = l.blocks
      · have hd0 : ((l.blocks : Int) != (k : Int)) = false := by simp; omega
        have HNB := Lib.hid hnb
        clear hnb
        go_wp2_with fail
        go_loopw [10] (fun i wr => ∃ q j : Nat, q ≤ k ∧ i = .int .i64 (q : Int) ∧ FitTo l rows q ∧ wr = w5.drewN j) (fun i _ => k - (intOf i).toNat)
        case atStart => exact ⟨0, 0, Nat.zero_le _, rfl, ⟨Nat.zero_le _, fun i r hi => absurd hi (Nat.not_lt_zero i)⟩, rfl⟩
        case round =>
          obtain ⟨q, j, hq, rfl, hft, rfl⟩ := hrel
          have HFT := Lib.hid hft
          clear hft
          by_cases hqk : q < k
          · obtain ⟨bb, off, r, rfl, hbb, hr, hc, hRd⟩ := hI5.cells q hqk
            obtain ⟨b6, off6, hb6, _, hcz⟩ := hr5.cells q (by have := HNB.out; omega)
            have hbe : (⟨b5, off5, none⟩ : Addr) = ⟨b6, off6, none⟩ := Option.some.inj hb6
            injection hbe with hbe1 hbe2
            subst hbe1 hbe2
            have hel : (eachL l l.blocks)[q]?.getD 0 = (l.size q : Int) := by unfold eachL; rw [List.getElem?_map, List.getElem?_range (by have := HNB.out; omega)]; rfl
            rw [hel] at hcz
            have hcz2 : World.cell? (w5.drewN j) ⟨b5, off5 + q, none⟩ = some (.int .i64 (l.size q : Int)) := hcz
            have hc2 : World.cell? (w5.drewN j) ⟨bb, off + q, none⟩ = some (.slice r.a r.n r.c) := hc
            have hk0 : (0 : Int) ≤ (q : Int) := by omega
            have hk1 : (q : Int) < (k : Int) := by omega
            have hk2 : (q : Int) < (l.blocks : Int) := by have := HNB.out; omega
            have HR := Lib.hid hr
            clear hr hel hb6 hRd
            by_cases hsz : r.n = l.size q
            · have hne : ((r.n : Int) != (l.size q : Int)) = false := by simp; omega
              have HSZ := Lib.hid hsz
              clear hsz
              go_wp2_with fail
              go_quiet (fail)
              go_wp2_with fail
              go_roundw
              case rel => exact ⟨q + 1, _, by omega, by go_num, ⟨by have := HLX.out; omega, fun i r' hi hr' => by
                rcases Nat.lt_or_ge i q with h3 | h3
                · exact HFT.out.2 i r' h3 hr'
                · obtain rfl : i = q := by omega
                  obtain rfl : r = r' := Option.some.inj (HR.out.symm.trans hr')
                  exact HSZ.out⟩, by first | rfl | exact drewN_two' _ _ _⟩
              case measure => simp [intOf]; omega
            · have hne : ((r.n : Int) != (l.size q : Int)) = true := by simp; omega
              have hres := hJ60.out HVA.out (fitB_false (fun h => hsz (h.2.2 q r (by omega) HR.out)))
              subst hres
              clear hsz hJ60 hJ61 hJ0
              go_wp2_with fail
              go_quiet (fail)
              go_wp2_with fail
              go_ret2
              exact RetBytes.nil_ (below_drewN (below_drewN hbw5 _) _)
          · obtain rfl : q = k := by omega
            have hb7 := below_drewN hbw5 j
            have hI7 := hI.below hb7
            have hL7 : LayAt (w5.drewN j) w1.heap.size 34 l := hL5.below (below_drewN (Below.refl _ _) j) hL5.lt
            generalize w5.drewN j = W at *
            have hFTA : Hid (FitTo l rows l.blocks) := Lib.hid (by rw [← HNB.out]; exact HFT.out)
            clear hqk hq hI5 hr5 hL5 hbw5 HFT hlt5 hd0
            have hq1 : 0 < q := by have := HNB.out; omega
            obtain ⟨bb, off, r0, rfl, hbb, hr0, hc0, hRd0⟩ := hI7.cells 0 hq1
            have hn0 : r0.n = l.size 0 := hFTA.out.2 0 r0 (by omega) hr0
            have hF0 : l.filler < r0.n := by
              have h := HOK.out.room (i := 0) (by omega)
              have e : l.fill 0 = l.filler := rfl
              omega
            have HR0 := Lib.hid hr0
            clear hr0 hn0
            obtain ⟨p0, p1, p2, p3, p4, p5, p6⟩ := hL7.all
            go_wp2_with fail
            go_loop [11] (fun i => ∃ t : Nat, t ≤ l.filler ∧ i = .int .i64 (t : Int) ∧ (1 : Int) ∉ r0.xs.take t) (fun i => l.filler - (intOf i).toNat)
            case atStart => exact ⟨0, Nat.zero_le _, rfl, by simp⟩
            case round =>
              obtain ⟨t, ht, rfl, hno⟩ := hrel
              have HNO := Lib.hid hno
              clear hno
              have hF64 := HOK.out.filler
              by_cases htf : t < l.filler
              · obtain ⟨b7, off7, ha0, hb7', hcz⟩ := hRd0.cells t (by omega)
                have hxb := (HX.out r0 (List.mem_of_getElem? HR0.out)).1 t
                have hm : Hid (r0.xs.take (t + 1) = r0.xs.take t ++ [r0.xs[t]?.getD 0]) := Lib.hid (take_snoc r0.xs t (by rw [hRd0.len]; omega) 0)
                rw [ha0] at hc0
                have hc1 : World.cell? W ⟨bb, off, none⟩ = some (.slice (some ⟨b7, off7, none⟩) r0.n r0.c) := by simpa using hc0
                generalize r0.xs[t]?.getD 0 = x at *
                have hk0 : (0 : Int) ≤ (t : Int) := by omega
                have hk1 : (t : Int) < (r0.n : Int) := by omega
                have hk2 : (0 : Int) < (q : Int) := by omega
                clear hRd0 hc0 p0 p1 p2 p3 p4 p5
                by_cases hx0 : x = 0
                · subst hx0
                  go_wp2_with fail
                  go_round
                  case rel => exact ⟨t + 1, by omega, by go_num, by rw [hm.out]; simpa using HNO.out⟩
                  case measure => simp [intOf]; omega
                · have hd : (x != 0) = true := by simp [hx0]
                  have hvr : validB r0.xs = true := by
                    have := List.all_eq_true.1 HVA.out r0 (List.mem_of_getElem? HR0.out)
                    simpa using this
                  have hres := hJ60.out HVA.out (by
                    cases hf : fitB l rows with
                    | false => rfl
                    | true =>
                      exfalso
                      refine fitB_all hf r0 HR0.out ?_
                      have hmem : x ∈ r0.xs.take l.filler := (List.take_subset_take_left r0.xs (show t + 1 ≤ l.filler by omega)) (by rw [hm.out]; simp)
                      have hx1 : x ≤ 1 := by
                        have := List.all_eq_true.1 hvr x (List.mem_of_mem_take hmem)
                        simpa using this
                      obtain rfl : x = 1 := by omega
                      exact hmem)
                  subst hres
                  clear hx0 hJ60 hJ61 hJ0 hvr
                  go_wp2_with fail
                  go_ret2
                  exact RetBytes.nil_ hb7
              · obtain rfl : t = l.filler := by omega
                have HFIT : Hid (fitB l rows = true) := Lib.hid (fitB_of (by rw [HLX.out]; exact HNB.out) hFTA.out r0 HR0.out HNO.out)
                clear htf ht hc0 HNO hF64
                go_wp2_with fail
                go_loopw [12, 13] (fun o i W => RkAt w w1.heap.size q l rows o i W) (fun _ i _ => q - (intOf i).toNat)
                case atStart => exact ⟨⟨0, none, 0, 0, Nat.zero_le _, rfl, rfl, rfl, by simpa [preL] using World.ownsRow_nil W w.heap.size 5 1, hb7, hL7, fun i hi => absurd hi (Nat.not_lt_zero i), by omega⟩⟩
                case round =>
                  obtain ⟨⟨k, Ao, m, co, hk, rfl, rfl, hRk⟩⟩ := hrel
                  by_cases hkq : k < q
                  · obtain ⟨p0, p1, p2, p3, p4, p5, p6⟩ := hRk.lay.all
                    obtain ⟨bb', off', ⟨ra, rn, rc, rxs⟩, hA', hbb', hr, hc, hRd⟩ := (hI.below hRk.below).cells k hkq
                    obtain rfl : bb = bb' := by injection hA' with h; injection h
                    obtain rfl : off = off' := by injection hA' with h; injection h
                    have hrn : rn = l.size k := hFTA.out.2 k _ (by have := HNB.out; omega) hr
                    have hrm := List.mem_of_getElem? hr
                    have hrc : rn ≤ rc := HC.out _ hrm
                    have hrb : Byte rxs := (HX.out _ hrm).1
                    have hrv : Bits rxs := validB_bits hrb (by
                      have := List.all_eq_true.1 HVA.out _ hrm
                      simpa using this)
                    simp only at hc hRd
                    have hroom := HOK.out.room (i := k) (by have := HNB.out; omega)
                    have hsz := HOK.out.size_le k
                    rw [← hrn] at hroom hsz
                    obtain ⟨b8, off8, rfl, hb8, _⟩ := hRd.cells 0 (by omega)
                    have hlx := hRd.len
                    have hpo : partO l rows k = unwrapL l k rxs := by unfold partO; rw [hr]; rfl
                    have hk0 : (0 : Int) ≤ (k : Int) := by omega
                    have hk1 : (k : Int) < (q : Int) := by omega
                    have hk13 : k < 13 := by have := HNB.out; omega
                    have hmle := hRk.le
                    have hblw := hRk.below.size
                    have hRS : ∀ u, Below wr.heap.size wr u → Rd .u8 u u.heap.size (some ⟨b8, off8, none⟩) rn rxs := fun u hu => (hRd.more hblw).step hu
                    have HB := Lib.hid hRk
                    have own0 := hRk.own
                    clear hRk hA' hrm hr hrn hbb
                    by_cases hone : l.blocks = 1
                    · obtain rfl : k = 0 := by have := HNB.out; omega
                      have hcs : l.cs = 0 := by unfold Lay.cs; rw [if_pos hone]
                      have hfl : l.fill 0 = l.filler := rfl
                      have hp1 : partO l rows 0 = some (rxs.drop l.filler) := by rw [hpo]; unfold unwrapL; rw [if_pos hone, hfl]
                      have hFn : l.filler < rn := by omega
                      have hsl := slice_tail (a := ⟨b8, off8, none⟩) (n := rn) (c := rc) (m := l.filler) hFn hrc
                      have hRd2 := (hRS wr (Below.refl _ _)).front hFn
                      simp only [Addr.add_lit] at hsl hRd2
                      obtain ⟨A2, c2, w2, hrun, own2, hbb2, hL2⟩ := more_run_lay (c' := rc - l.filler) HB.out.lay own0 hRd2 (by omega) (by omega) hblw
                      have hRK := Lib.hid (rk_done (d := rn - l.filler) HB.out hp1 (by rw [List.length_drop, hlx]) (by omega) own2 (hbb2 _ _ HB.out.below (Nat.le_refl _) (Nat.le_refl _)) hL2)
                      have HR1 := Lib.hid hrun
                      have hone1 : (l.blocks : Int) = 1 := by omega
                      rw [hone1] at p1
                      rw [Nat.add_zero] at hc
                      clear hrun own2 hbb2 hL2 hRd2 hone hcs hfl hp1 own0 hpo hRS HB hRd hlx hroom hone1 hbl hbl0
                      go_wp2_with (at_builtin; refine Lib.wpList_append_run _ rfl _ _ _ _ rfl _ _ rfl rfl _ _ HR1.out ?_)
                      go_roundw
                      case rel => exact ⟨⟨0 + 1, A2, _, c2, by omega, rfl, rfl, hRK.out⟩⟩
                      case measure => simp [intOf]; omega
                    · have hcs : l.cs = 24 := by unfold Lay.cs; rw [if_neg hone]
                      rw [hcs] at hroom
                      obtain ⟨d, hd⟩ : ∃ d, rn - 24 = d := ⟨_, rfl⟩
                      have hT : (rn : Int) - 24 = (d : Int) := by omega
                      have hdc : d ≤ rc := by omega
                      have hdn : d < rn := by omega
                      have hs1 := slice_front2 (A := some ⟨b8, off8, none⟩) (n := rn) (c := rc) (m := d) hdc
                      have hs2 := slice_tail (a := ⟨b8, off8, none⟩) (n := rn) (c := rc) (m := d) hdn hrc
                      rw [show rn - d = 24 by omega] at hs2
                      have hRa : ∀ u, Below wr.heap.size wr u → Rd .u8 u u.heap.size (some ⟨b8, off8, none⟩) d (rxs.take d) := fun u hu => by
                        have := Rd.cut (hRS u hu) (lo := 0) (hi := d) (cap := rc) (by omega) (by omega) hrc
                        rw [if_neg (by omega)] at this
                        simpa [Addr.add] using this
                      have hRb : ∀ u, Below wr.heap.size wr u → Rd .u8 u u.heap.size (some ((⟨b8, off8, none⟩ : Addr).add d)) 24 (rxs.drop d) := fun u hu => by
                        have := (hRS u hu).front hdn
                        rwa [show rn - d = 24 by omega] at this
                      simp only [Addr.add_lit] at hs2 hRb
                      have hdl : (rxs.take d).length = d := by rw [List.length_take, hlx]; omega
                      have hck := Lib.hid (fun (u : World) (hu : Below wr.heap.size wr u) => refCheck_any (c := rc) (hRa u hu) (by omega) (fun x hx => hrv x (List.mem_of_mem_take hx)))
                      have hcv1 := Lib.hid (fun (u : World) (A : Option Addr) (c : Nat) (h : Rd .u8 u u.heap.size A 24 (crcI 2 (rxs.take d))) => h.convert (P := Tryd.prog) Tryd.underlying46 Tryd.underlying5 c 9 Tryd.underlying9)
                      have hcv2 := Lib.hid (fun (u : World) (hu : Below wr.heap.size wr u) => (hRb u hu).convert (P := Tryd.prog) Tryd.underlying46 Tryd.underlying5 (rc - d) 9 Tryd.underlying9)
                      have hcell : ∀ u, Below wr.heap.size wr u → u.cell? ⟨bb, off + k, none⟩ = some (.slice (some ⟨b8, off8, none⟩) rn rc) := fun u hu => (hu.cell (show bb < wr.heap.size by omega)).trans hc
                      have hb6 : Byte (crcI 2 (rxs.take d)) := Byte.of_mem (fun x hx => by have := crcI_bits 2 (rxs.take d) x hx; omega)
                      have hb7' : Byte (rxs.drop d) := Byte.of_mem (fun x hx => hrb.mem x (List.mem_of_mem_drop hx))
                      have hgt : (1 : Int) < (l.blocks : Int) := by omega
                      have hinj := Lib.hid (fun e => strOfNums_inj hb6 hb7' e)
                      have hbd0 : Below wr.heap.size wr wr.drew := (Below.refl _ _).drew
                      have hcd := hcell _ hbd0
                      have kk0 := hcv2.out _ hbd0
                      have HC1 := Lib.hid hcell
                      clear hcell hb6 hb7' hRb
                      by_cases hg : crcI 2 (rxs.take d) = rxs.drop d
                      · have hp1 : partO l rows k = some ((rxs.take d).drop (l.fill k)) := by rw [hpo]; unfold unwrapL; rw [if_neg hone, hlx, hd, if_pos hg]
                        have hst : strOfNums (crcI 2 (rxs.take d)) = strOfNums (rxs.drop d) := by rw [hg]
                        rw [hst] at hcv1
                        clear hst
                        generalize strOfNums (rxs.drop d) = st at *
                        have HRA := Lib.hid hRa
                        have HP1 := Lib.hid hp1
                        have hbw := HB.out.below
                        have hlay := HB.out.lay
                        have hdl2 := hdl
                        by_cases hk0' : k = 0
                        · subst hk0'
                          have hfl : l.fill 0 = l.filler := rfl
                          have hFd : l.filler < d := by omega
                          have hs3 := slice_tail (a := ⟨b8, off8, none⟩) (n := d) (c := rc) (m := l.filler) hFd hdc
                          simp only [Addr.add_lit] at hs3
                          have HHD := Lib.hid hd
                          have HHR := Lib.hid hroom
                          have HDL := Lib.hid hdl
                          rw [Nat.add_zero] at hc hcd HC1
                          rw [hfl] at HP1
                          clear hJ61 hJ60 hg hpo hRS hRa hRd hlx hdl hdl2 hinj hone hbl hbl0 hd hroom hcs hp1 hfl
                          go_wp2_with fail
                          go_region_with (first
                            | (go_at_call 46; refine (hck.out _ hbd0).mono ?_; rintro e w4 ⟨A3, c3, rfl, own3, hb3⟩; have hb4 := hbd0.trans (hb3.mono hbd0.size); have k1 := hcv1.out _ _ c3 (Rd.of_own own3); have k2 := hcv2.out _ hb4; have k3 := HC1.out _ hb4))
                          all_goals
                            have hbz := hbw.trans (hb4.mono hbw.size)
                            have hL4 := hlay.below hb4 hlay.lt
                            have own4 : w4.ownsRow w.heap.size 5 1 (.slice Ao m co) m ((preL l rows 0).map (Value.int .u8)) := ownsRow_save (X := fun _ => False) own0 (Save.of_below hb4) (fun g _ h => h)
                            have hRf := (HRA.out _ hb4).front hFd
                            simp only [Addr.add_lit] at hRf
                            obtain ⟨A2, c2, w2, hrun, own2, hbb2, hL2⟩ := more_run_lay (c' := rc - l.filler) hL4 own4 hRf (by omega) (by omega) hbz.size
                            have hRK := Lib.hid (rk_done (d := d - l.filler) HB.out HP1.out (by rw [List.length_drop, HDL.out]) (by omega) own2 (hbb2 _ _ hbz (Nat.le_refl _) (Nat.le_refl _)) hL2)
                            have HR1 := Lib.hid hrun
                            obtain ⟨_, n1, _, _, _, _, n6⟩ := hL4.all
                            clear k1 k2 k3 own3 hb3 hck hcv1 hcv2 HC1 kk0 hrun own2 hbb2 hL2 hRf own4 own0 hL4 hbz hb4
                            go_wp2_with (at_builtin; refine Lib.wpList_append_run _ rfl _ _ _ _ rfl _ _ rfl rfl _ _ HR1.out ?_)
                            go_roundw
                            case rel => exact ⟨⟨0 + 1, A2, _, c2, by omega, rfl, rfl, hRK.out⟩⟩
                            case measure => simp [intOf]; omega
                        · have hfl : l.fill k = 0 := by unfold Lay.fill; rw [if_neg hk0']
                          have hk2 : ((k : Int) == 0) = false := by simp; omega
                          have HHD := Lib.hid hd
                          have HHR := Lib.hid hroom
                          have HDL := Lib.hid hdl
                          rw [hfl, List.drop_zero] at HP1
                          clear hJ61 hJ60 hg hpo hRS hRa hRd hlx hdl hdl2 hinj hone hbl hbl0 hd hroom hcs hp1 hfl hk0'
                          go_wp2_with fail
                          go_region_with (first
                            | (go_at_call 46; refine (hck.out _ hbd0).mono ?_; rintro e w4 ⟨A3, c3, rfl, own3, hb3⟩; have hb4 := hbd0.trans (hb3.mono hbd0.size); have k1 := hcv1.out _ _ c3 (Rd.of_own own3); have k2 := hcv2.out _ hb4; have k3 := HC1.out _ hb4))
                          all_goals
                            have hbz := hbw.trans (hb4.mono hbw.size)
                            have hL4 := hlay.below hb4 hlay.lt
                            have own4 : w4.ownsRow w.heap.size 5 1 (.slice Ao m co) m ((preL l rows k).map (Value.int .u8)) := ownsRow_save (X := fun _ => False) own0 (Save.of_below hb4) (fun g _ h => h)
                            have hRf := HRA.out _ hb4
                            obtain ⟨A2, c2, w2, hrun, own2, hbb2, hL2⟩ := more_run_lay (c' := rc) hL4 own4 hRf (by omega) (by omega) hbz.size
                            have hRK := Lib.hid (rk_done (d := d) HB.out HP1.out HDL.out (by omega) own2 (hbb2 _ _ hbz (Nat.le_refl _) (Nat.le_refl _)) hL2)
                            have HR1 := Lib.hid hrun
                            obtain ⟨_, n1, _, _, _, _, n6⟩ := hL4.all
                            clear k1 k2 k3 own3 hb3 hck hcv1 hcv2 HC1 kk0 hrun own2 hbb2 hL2 hRf own4 own0 hL4 hbz hb4
                            go_wp2_with (at_builtin; refine Lib.wpList_append_run _ rfl _ _ _ _ rfl _ _ rfl rfl _ _ HR1.out ?_)
                            go_roundw
                            case rel => exact ⟨⟨k + 1, A2, _, c2, by omega, by go_num, rfl, hRK.out⟩⟩
                            case measure => simp [intOf]; omega
                      · have hne : ¬ strOfNums (crcI 2 (rxs.take d)) = strOfNums (rxs.drop d) := fun e => hg (hinj.out e)
                        have hres := hJ61.out HVA.out HFIT.out ⟨k, by have := HNB.out; omega, by rw [hpo]; unfold unwrapL; rw [if_neg hone, hlx, hd, if_neg hg]⟩
                        subst hres
                        have hbw := HB.out.below
                        generalize strOfNums (crcI 2 (rxs.take d)) = st1 at *
                        generalize strOfNums (rxs.drop d) = st2 at *
                        have hne2 : (st1.toList == st2.toList) = false := str_ne hne
                        clear hJ61 hJ60 hJ0 hg hpo hRS hRa HB own0 hRd hlx hdl hinj hone hbl hbl0 hd hroom hcs
                        go_wp2_with fail
                        go_region_with (first
                          | (go_at_call 46; refine (hck.out _ hbd0).mono ?_; rintro e w4 ⟨A3, c3, rfl, own3, hb3⟩; have hb4 := hbd0.trans (hb3.mono hbd0.size); have k1 := hcv1.out _ _ c3 (Rd.of_own own3); have k2 := hcv2.out _ hb4; have k3 := HC1.out _ hb4))
                        all_goals
                          have hbz := hbw.trans (hb4.mono hbw.size)
                          clear k1 k2 k3 own3 hb3 hck hcv1 hcv2 HC1 kk0
                          go_wp2_with fail
                          go_ret2
                          exact RetBytes.nil_ hbz
                  · obtain rfl : k = q := by omega
                    have hres := hJ0.out HVA.out HFIT.out (fun i hi => hRk.som i (by have := HNB.out; omega))
                    rw [← HNB.out] at hres
                    subst hres
                    have HB := Lib.hid hRk
                    clear hJ61 hJ60 hJ0 hkq hk hRk
                    go_wp2_with fail
                    go_ret2
                    exact RetBytes.mk_ HB.out.len HB.out.own (Nat.le_refl _) HB.out.below rfl
      · have hd0 : ((l.blocks : Int) != (k : Int)) = true := by simp; omega
        have hres := hJ60.out HVA.out (fitB_false (fun h => hnb (by rw [← HLX.out]; exact h.1)))
        subst hres
        clear hnb hJ60 hJ61 hJ0
        go_wp2_with fail
        go_ret2
        exact RetBytes.nil_ hbw5
end

/-! ### Rows of one's own that are changed: one byte stored, a row put in another's place, a row left out. -/
section
open Go.RowKit

theorem zown_at {N : Nat} {W : World} {r : BRow} {a : Addr} (h : ZOwn N W r) (ha : r.a = some a) : N ≤ a.block ∧ a.block < W.heap.size ∧ a = ⟨a.block, 0, none⟩ := by
  rcases h.2 with ⟨hv, _⟩ | ⟨g, cap, cur, hv, hg, hh, _⟩
  · unfold hdr at hv
    injection hv with hv _ _
    rw [hv] at ha
    cases ha
  · unfold hdr at hv
    injection hv with hv _ _
    rw [hv] at ha
    injection ha with ha
    subst ha
    exact ⟨hg, (Array.getElem?_eq_some_iff.1 hh).1, rfl⟩
theorem zown_block {r : BRow} {a : Addr} (ha : r.a = some a) : (hdr r).ownBlock = some a.block := by unfold hdr; rw [ha]; rfl
theorem zown_save {N : Nat} {X : Nat → Prop} {W W' : World} {r : BRow} (h : ZOwn N W r) (hs : Save X W W') (hX : ∀ a, r.a = some a → ¬ X a.block) : ZOwn N W' r :=
  ownsRow_save h hs (fun g hg => by
    cases ha : r.a with
    | none => unfold hdr at hg; rw [ha] at hg; cases hg
    | some a => rw [zown_block ha] at hg; injection hg with hg; rw [← hg]; exact hX a ha)
theorem mem_set {rows : List BRow} {k : Nat} {r' s : BRow} (h : s ∈ rows.set k r') : (s = r' ∧ k < rows.length) ∨ ∃ j, j ≠ k ∧ rows[j]? = some s := by
  obtain ⟨j, hj⟩ := List.mem_iff_getElem?.1 h
  by_cases hjk : k = j
  · subst hjk
    rw [List.getElem?_set] at hj
    simp only [if_true] at hj
    split at hj
    · rename_i hl
      injection hj with hj
      exact .inl ⟨hj.symm, hl⟩
    · cases hj
  · rw [List.getElem?_set_ne hjk] at hj
    exact .inr ⟨j, fun e => hjk e.symm, hj⟩
/-- One byte of one row is stored. -/
theorem OwnRows.stored {w w' : World} {V : Value} {n k i g : Nat} {rows : List BRow} {r : BRow} {v : Int} (h : OwnRows w w' V n rows) (hr : rows[k]? = some r) (ha : r.a = some ⟨g, 0, none⟩) :
    OwnRows w (w'.setCell ⟨g, i, none⟩ (.int .u8 v)) V n (rows.set k ⟨r.a, r.n, r.c, r.xs.set i v⟩) := by
  have hrm := List.mem_of_getElem? hr
  have hk := (List.getElem?_eq_some_iff.1 hr).1
  obtain ⟨hg, hgl, _⟩ := zown_at (h.row r hrm) ha
  have hS : Save (fun b => b = g) w' (w'.setCell ⟨g, i, none⟩ (.int .u8 v)) := (Save.refl (fun b => b = g) w').setCell (p := ⟨g, i, none⟩) (fun _ => rfl) _
  have hap : ∀ j s, j ≠ k → rows[j]? = some s → ∀ a, s.a = some a → a.block ≠ g := fun j s hj hs a haa e => by
    rcases Nat.lt_or_ge j k with h1 | h1
    · exact h.apart j k s r a _ hs hr h1 haa ha e
    · exact h.apart k j r s _ a hr hs (by omega) ha haa e.symm
  have hget : ∀ (j : Nat) (s : BRow), (rows.set k ⟨r.a, r.n, r.c, r.xs.set i v⟩)[j]? = some s → ∃ s', rows[j]? = some s' ∧ s'.a = s.a := fun j s hs => by
    by_cases hjk : k = j
    · subst hjk
      rw [List.getElem?_set_self hk] at hs
      injection hs with hs
      exact ⟨r, hr, by rw [← hs]⟩
    · rw [List.getElem?_set_ne hjk] at hs
      exact ⟨s, hs, rfl⟩
  refine ⟨h.below.setCell (p := ⟨g, i, none⟩) hg _, by rw [List.length_set]; exact h.len, ?_, fun s hs => ?_, fun i1 j1 ri rj a b hi hj hij haa hbb => ?_, fun s hs a haa => ?_⟩
  · have e : (rows.set k ⟨r.a, r.n, r.c, r.xs.set i v⟩).map hdr = rows.map hdr := by
      rw [List.map_set]
      apply List.ext_getElem?
      intro j
      by_cases hjk : k = j
      · subst hjk
        rw [List.getElem?_set_self (by simpa using hk), List.getElem?_map, hr]
        rfl
      · rw [List.getElem?_set_ne hjk]
    rw [e]
    exact ownsRow_save h.own hS (fun b hb e => h.outer r hrm _ ha (by rw [hb, e]))
  · rcases mem_set hs with ⟨rfl, _⟩ | ⟨j, hjk, hj⟩
    · have hz := h.row r hrm
      unfold ZOwn hdr at hz ⊢
      simp only
      rw [ha] at hz ⊢
      rw [List.map_set]
      exact (World.ownsRow.stored hz i (.int .u8 v)).1
    · exact zown_save (h.row s (List.mem_of_getElem? hj)) hS (fun a haa => hap j s hjk hj a haa)
  · obtain ⟨si, hsi, ei⟩ := hget i1 ri hi
    obtain ⟨sj, hsj, ej⟩ := hget j1 rj hj
    exact h.apart i1 j1 si sj a b hsi hsj hij (by rw [ei]; exact haa) (by rw [ej]; exact hbb)
  · obtain ⟨j, hj⟩ := List.mem_iff_getElem?.1 hs
    obtain ⟨s', hs', e⟩ := hget j s hj
    exact h.outer s' (List.mem_of_getElem? hs') a (by rw [e]; exact haa)
/-- A new row in one row's place. -/
theorem OwnRows.put {w w' w5 : World} {n c k g0 : Nat} {rows : List BRow} {r' : BRow} (h : OwnRows w w' (.slice (some ⟨g0, 0, none⟩) n c) n rows) (hk : k < n) (hb : Below w'.heap.size w' w5) (hz : ZOwn w'.heap.size w5 r') :
    OwnRows w (w5.setCell ⟨g0, k, none⟩ (hdr r')) (.slice (some ⟨g0, 0, none⟩) n c) n (rows.set k r') := by
  have hkl : k < rows.length := by rw [h.len]; exact hk
  have hw := h.below.size
  have hg0 : w.heap.size ≤ g0 ∧ g0 < w'.heap.size := h.own.lt g0 rfl
  have hS : Save (fun b => b = g0) w' (w5.setCell ⟨g0, k, none⟩ (hdr r')) := (Save.of_below (X := fun b => b = g0) hb).setCell (p := ⟨g0, k, none⟩) (fun _ => rfl) _
  have hS5 : Save (fun b => b = g0) w5 (w5.setCell ⟨g0, k, none⟩ (hdr r')) := (Save.refl (fun b => b = g0) w5).setCell (p := ⟨g0, k, none⟩) (fun _ => rfl) _
  have hnew : ∀ a, r'.a = some a → w'.heap.size ≤ a.block := fun a ha => (zown_at hz ha).1
  have hold : ∀ s ∈ rows, ∀ a, s.a = some a → a.block < w'.heap.size ∧ a.block ≠ g0 := fun s hs a ha => ⟨(zown_at (h.row s hs) ha).2.1, fun e => h.outer s hs a ha (by rw [e]; rfl)⟩
  refine ⟨(h.below.trans (hb.mono hw)).setCell (p := ⟨g0, k, none⟩) hg0.1 _, by rw [List.length_set]; exact h.len, ?_, fun s hs => ?_, fun i1 j1 ri rj a b hi hj hij haa hbb => ?_, fun s hs a haa => ?_⟩
  · rw [List.map_set]
    exact (World.ownsRow.stored (ownsRow_save (X := fun _ => False) h.own (Save.of_below hb) (fun _ _ h => h)) k (hdr r')).1
  · rcases mem_set hs with ⟨rfl, _⟩ | ⟨j, hjk, hj⟩
    · exact World.ownsRow.mono (zown_save hz hS5 (fun a ha e => by have := hnew a ha; omega)) hw
    · exact zown_save (h.row s (List.mem_of_getElem? hj)) hS (fun a ha => (hold s (List.mem_of_getElem? hj) a ha).2)
  · by_cases h1 : k = i1
    · subst h1
      rw [List.getElem?_set_self hkl] at hi
      rw [List.getElem?_set_ne (by omega)] at hj
      injection hi with hi
      subst hi
      have := hnew a haa
      have := (hold rj (List.mem_of_getElem? hj) b hbb).1
      omega
    · rw [List.getElem?_set_ne h1] at hi
      by_cases h2 : k = j1
      · subst h2
        rw [List.getElem?_set_self hkl] at hj
        injection hj with hj
        subst hj
        have := hnew b hbb
        have := (hold ri (List.mem_of_getElem? hi) a haa).1
        omega
      · rw [List.getElem?_set_ne h2] at hj
        exact h.apart i1 j1 ri rj a b hi hj hij haa hbb
  · intro e
    have e : g0 = a.block := Option.some.inj e
    rcases mem_set hs with ⟨rfl, _⟩ | ⟨j, hjk, hj⟩
    · have := hnew a haa
      omega
    · exact (hold s (List.mem_of_getElem? hj) a haa).2 e.symm
theorem rows_src {w : World} {B n k lo : Nat} {A : Option Addr} {rows : List BRow} (h : Rds w B A n rows) (hp : 0 < n) : ∃ b off, A = some ⟨b, off, none⟩ ∧ b < B ∧
    ∀ (j : Nat) (u : Value), (((rows.drop lo).take k).map hdr)[j]? = some u → w.cell? ⟨b, off + (lo + j), none⟩ = some u := by
  obtain ⟨b, off, r, e, hb, _, _, _⟩ := h.cells 0 hp
  refine ⟨b, off, e, hb, fun j u hu => ?_⟩
  rw [List.getElem?_map, List.getElem?_take] at hu
  split at hu
  · rw [List.getElem?_drop] at hu
    cases hr : rows[lo + j]? with
    | none => rw [hr] at hu; cases hu
    | some s =>
      rw [hr] at hu
      injection hu with hu
      have hl := (List.getElem?_eq_some_iff.1 hr).1
      rw [h.len] at hl
      obtain ⟨b', off', r', e', _, hr', hc, _⟩ := h.cells (lo + j) hl
      rw [e] at e'
      injection e' with e'
      injection e' with e1 e2
      subst e1 e2
      rw [hr] at hr'
      injection hr' with hr'
      subst hr'
      rw [← hu]
      exact hc
  · cases hu
/-- append of rows onto an outer slice of one's own. -/
theorem rows_run {w : World} {base : Nat} {A : Option Addr} {n c m c' : Nat} {a : Addr} {xs ys : List BRow} (hO : w.ownsRow base 46 1 (.slice A n c) n (xs.map hdr)) (hl : ys.length = m) (hj : ∀ (j : Nat) (u : Value), (ys.map hdr)[j]? = some u → w.cell? (a.add j) = some u) (hn : n + m ≤ 1000) (hb : base ≤ w.heap.size) :
    ∃ A2 c2 w2, (Builtin.append_ #[48, 48] 48 #[.slice A n c, .slice (some a) m c']).run Tryd.prog w = .ok (.slice A2 (n + m) c2) w2 ∧
      w2.ownsRow base 46 1 (.slice A2 (n + m) c2) (n + m) ((xs ++ ys).map hdr) ∧ (∀ B v, Below B v w → B ≤ base → B ≤ v.heap.size → Below B v w2) := by
  obtain ⟨i0, hi, hz0, hz1, hz2⟩ := info_q Tryd.info_u8s
  obtain ⟨V2, w2, h1, h2, h3, _, _⟩ := run_append_own_at (P := Tryd.prog) (w := w) base 48 48 46 i0 (.slice none 0 0) 1 24 Tryd.underlying48 hi hz0 hz1 hz2 rfl (by decide) _ n _ hO a m c' (ys.map hdr)
    (by rw [List.length_map, hl]; omega) hj (by intro u hu; obtain ⟨r, _, rfl⟩ := List.mem_map.1 hu; simp [hdr, Value.oneCell']) (by unfold maxLen; omega) (by omega) hb
  obtain ⟨A2, c2, rfl⟩ := ownsRow_shape h2
  exact ⟨A2, c2, w2, h1, by rw [List.map_append]; exact h2, fun B v h hB hv => h.grown h3 (Nat.le_trans hv h.size) (fun g hg => Nat.le_trans hB (hO.lt g hg).1)⟩
theorem rds_of_own {w : World} {base n c B : Nat} {A : Option Addr} {rows : List BRow} (hO : w.ownsRow base 46 1 (.slice A n c) n (rows.map hdr)) (hr : ∀ r ∈ rows, Rd .u8 w B r.a r.n r.xs) (hB : B ≤ w.heap.size) : Rds w w.heap.size A n rows := by
  have hlen : rows.length = n := by have := hO.1; simpa using this
  refine ⟨hlen, fun k hk => ?_⟩
  have hkl : k < rows.length := by rw [hlen]; exact hk
  obtain ⟨g, cap, hv, _, hlt⟩ := hO.form (by omega)
  have hA : A = some ⟨g, 0, none⟩ := by injection hv
  subst hA
  refine ⟨g, 0, rows[k], rfl, hlt, List.getElem?_eq_getElem hkl, ?_, (hr _ (List.getElem_mem hkl)).more hB⟩
  have := hO.cells (g := g) rfl k (hdr rows[k]) (by simp [hkl])
  by_cases h0 : k = 0
  · subst h0; simpa [Addr.add, hdr] using this
  · simpa [Addr.add, h0, hdr] using this
theorem Rds.rows {w : World} {B n : Nat} {A : Option Addr} {rows : List BRow} (h : Rds w B A n rows) : ∀ r ∈ rows, Rd .u8 w B r.a r.n r.xs := fun r hr => by
  obtain ⟨k, hk⟩ := List.mem_iff_getElem?.1 hr
  have hl := (List.getElem?_eq_some_iff.1 hk).1
  rw [h.len] at hl
  obtain ⟨_, _, r', _, _, hr', _, hR⟩ := h.cells k hl
  rw [hk] at hr'
  injection hr' with hr'
  subst hr'
  exact hR
/-- A row left out: append(append([][]byte{}, l[:k]...), l[k+1:]...). -/
theorem rows_cut {u : World} {b off n c k : Nat} {rows : List BRow} (hR : Rds u u.heap.size (some ⟨b, off, none⟩) n rows) (hn : n ≤ 100) (hk : k < n) (hc : n ≤ c) :
    ∃ A6 c6 w6, (Builtin.append_ #[48, 48] 48 #[.slice (some ⟨u.heap.size, 0, none⟩) 0 0, .slice (some ⟨b, off, none⟩) k c]).run Tryd.prog (u.alloc (.cells #[] 46)).drew = .ok (.slice A6 k c6) w6 ∧
      ∃ A7 c7 w7, (Builtin.append_ #[48, 48] 48 #[.slice A6 k c6, .slice (if c = k + 1 then some ⟨b, off, none⟩ else some ((⟨b, off, none⟩ : Addr).add (k + 1))) (n - (k + 1)) (c - (k + 1))]).run Tryd.prog w6 = .ok (.slice A7 (n - 1) c7) w7 ∧
        Rds w7 w7.heap.size A7 (n - 1) (rows.take k ++ rows.drop (k + 1)) ∧ Below u.heap.size u w7 := by
  have hO0 : (u.alloc (.cells #[] 46)).drew.ownsRow u.heap.size 46 1 (.slice (some ⟨u.heap.size, 0, none⟩) 0 0) 0 (([] : List BRow).map hdr) := by
    have h0 : (u.alloc (.cells #[] 46)).ownsRow u.heap.size 46 1 (.slice (some ⟨u.heap.size, 0, none⟩) 0 0) 0 (([] : List BRow).map hdr) := by
      simpa using World.ownsRow_lit (base := u.heap.size) (size := 1) (e := 46) u #[] 0 (Nat.le_refl _) (Nat.zero_le _) rfl
    exact h0
  have hb0 : Below u.heap.size u (u.alloc (.cells #[] 46)).drew := ((Below.refl _ u).alloc (Nat.le_refl _) _).drew
  obtain ⟨b1, off1, e1, hb1, hc1⟩ := rows_src (k := k) (lo := 0) (hR.below hb0) (by omega)
  injection e1 with e1
  injection e1 with e1 e2
  subst e1 e2
  obtain ⟨A6, c6, w6, r6, o6, g6⟩ := rows_run (a := ⟨b, off, none⟩) (c' := c) hO0 (ys := rows.take k) (m := k) (by rw [List.length_take, hR.len]; omega) (fun j v hv => by
    have := hc1 j v (by simpa using hv)
    rw [Addr.add_lit]
    simpa using this) (by omega) hb0.size
  rw [Nat.zero_add] at r6 o6
  have hb6 := g6 _ _ hb0 (Nat.le_refl _) (Nat.le_refl _)
  refine ⟨A6, c6, w6, r6, ?_⟩
  obtain ⟨b2, off2, e1, hb2, hc2⟩ := rows_src (k := n - (k + 1)) (lo := k + 1) (hR.below hb6) (by omega)
  injection e1 with e1
  injection e1 with e1 e2
  subst e1 e2
  have hlast : k + (n - (k + 1)) = n - 1 := by omega
  have hlen2 : (rows.drop (k + 1)).length = n - (k + 1) := by rw [List.length_drop, hR.len]
  have ha : ∃ a, (if c = k + 1 then some (⟨b, off, none⟩ : Addr) else some ((⟨b, off, none⟩ : Addr).add (k + 1))) = some a ∧ (c ≠ k + 1 → a = ⟨b, off + (k + 1), none⟩) := by
    by_cases h : c = k + 1
    · exact ⟨_, if_pos h, fun h2 => absurd h h2⟩
    · exact ⟨_, if_neg h, fun _ => Addr.add_lit _ _ _⟩
  obtain ⟨a, ea, ha⟩ := ha
  rw [ea]
  obtain ⟨A7, c7, w7, r7, o7, g7⟩ := rows_run (a := a) (c' := c - (k + 1)) o6 (ys := rows.drop (k + 1)) hlen2 (fun j v hv => by
    have hjl : j < ((rows.drop (k + 1)).map hdr).length := (List.getElem?_eq_some_iff.1 hv).1
    rw [List.length_map, hlen2] at hjl
    rw [ha (by omega), Addr.add_lit]
    have := hc2 j v (by rw [List.take_of_length_le (Nat.le_of_eq hlen2)]; exact hv)
    rw [Nat.add_assoc]
    exact this) (by omega) hb6.size
  rw [hlast] at r7 o7
  have hb7 := g7 _ _ hb6 (Nat.le_refl _) (Nat.le_refl _)
  refine ⟨A7, c7, w7, r7, rds_of_own o7 (fun r hr => (hR.rows r ?_).below hb7) hb7.size, hb7⟩
  rcases List.mem_append.1 hr with h | h
  · exact List.mem_of_mem_take h
  · exact List.mem_of_mem_drop h
/-- Blocks that Join may be given. -/
structure JnOk (w W : World) (A : Option Addr) (n : Nat) (rows : List BRow) : Prop where
  rds : Rds W W.heap.size A n rows
  below : Below w.heap.size w W
  few : n ≤ 100
  byt : ∀ r ∈ rows, Byte r.xs ∧ r.n ≤ 1000000
  cap : ∀ r ∈ rows, r.n ≤ r.c
theorem splitS_byte {xs : List Int} (hx : Byte xs) : ∀ ys ∈ (splitS xs).1, Byte ys ∧ ys.length ≤ 6144 := by
  unfold splitS
  split
  · simp
  · rename_i h
    split
    · simp
    · obtain ⟨hok, _⟩ := planN_ok (b := xs.length) (by omega) (by omega)
      intro ys hys
      simp only [splitL, List.mem_map, List.mem_range] at hys
      obtain ⟨i, hi, rfl⟩ := hys
      generalize planN xs.length = l at *
      have hpb : Byte (l.part xs i) := Byte.of_mem (fun x hx2 => by
        unfold Lay.part at hx2
        rcases List.mem_append.1 hx2 with h1 | h1
        · have := List.eq_of_mem_replicate h1; omega
        · exact hx.mem x (List.mem_of_mem_drop (List.mem_of_mem_take h1)))
      have hpl : (l.part xs i).length ≤ l.fill i + l.data i := by unfold Lay.part; rw [List.length_append, zerosI_length, List.length_take, List.length_drop]; omega
      have hroom := (hok.room hi).1
      have hsz := hok.size_le i
      unfold Lay.block
      split
      · exact ⟨hpb, by omega⟩
      · rename_i h1
        have hcs : l.cs = 24 := by unfold Lay.cs; rw [if_neg h1]
        refine ⟨Byte.of_mem (fun x hx2 => ?_), by rw [List.length_append, crcI_length]; have : (genN 2).2 = 24 := by decide
                                                  omega⟩
        rcases List.mem_append.1 hx2 with h2 | h2
        · exact hpb.mem x h2
        · have := crcI_bits 2 (l.part xs i) x h2; omega
theorem OwnRows.jnOk {w w1 W : World} {A : Option Addr} {n c : Nat} {rows : List BRow} (h : OwnRows w1 W (.slice A n c) n rows) (hb : Below w.heap.size w w1) (hn : n ≤ 100) (hx : ∀ r ∈ rows, Byte r.xs ∧ r.n ≤ 1000000) : JnOk w W A n rows :=
  ⟨h.rds, hb.trans (h.below.mono hb.size), hn, hx, h.cap⟩
theorem refJoin_any {A : Option Addr} {n c : Nat} {b : Int} {rows : List BRow} {w : World} (hI : Rds w w.heap.size A n rows) (hn : n ≤ 100000) (hx : ∀ r ∈ rows, Byte r.xs ∧ r.n ≤ 1000000) (hcap : ∀ r ∈ rows, r.n ≤ r.c) :
    Calls Tryd.prog 28 #[.int .i64 b, .slice A n c] w (RetBytes 5 w (joinS b rows)) := by
  by_cases h : b < 1 ∨ 79560 < b
  · unfold joinS; rw [if_pos h]; exact refJoin_arg h
  · obtain ⟨m, rfl⟩ : ∃ m : Nat, b = m := ⟨b.toNat, by omega⟩
    exact refJoin_main hI hn hx hcap (by omega) (by omega)
theorem JnOk.step {w W W' : World} {A : Option Addr} {n : Nat} {rows : List BRow} (h : JnOk w W A n rows) (hb : Below W.heap.size W W') : JnOk w W' A n rows :=
  ⟨h.rds.step hb, h.below.trans (hb.mono h.below.size), h.few, h.byt, h.cap⟩
theorem byte_set {xs : List Int} {k : Nat} {v : Int} (h : Byte xs) (hv : 0 ≤ v ∧ v ≤ 255) : Byte (xs.set k v) := Byte.of_mem (fun x hx => by
  rcases List.mem_or_eq_of_mem_set hx with h1 | h1
  · exact h.mem x h1
  · subst h1; exact hv)
theorem byte_snoc {xs : List Int} {v : Int} (h : Byte xs) (hv : 0 ≤ v ∧ v ≤ 255) : Byte (xs ++ [v]) := Byte.of_mem (fun x hx => by
  rcases List.mem_append.1 hx with h1 | h1
  · exact h.mem x h1
  · rw [List.mem_singleton.1 h1]; exact hv)
theorem all_set {rows : List BRow} {k : Nat} {r' : BRow} {p : BRow → Prop} (h : ∀ r ∈ rows, p r) (hr : p r') : ∀ r ∈ rows.set k r', p r := fun r hm => by
  rcases List.mem_or_eq_of_mem_set hm with h1 | h1
  · exact h r h1
  · subst h1; exact hr
end
end Go.Proofs.YtkdodmjhpkfhnaaDoor
