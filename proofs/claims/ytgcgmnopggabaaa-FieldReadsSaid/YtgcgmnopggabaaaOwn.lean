/-
  The law FieldOwn: its walk.
-/
import Derived.Test.YtgcgmnopggabaaaFew
namespace Go.Proofs.Ytgcgmnopggabaaa
open Go.RowKit

/-- One's own row, and a store into it. -/
theorem own_cell {w : World} {base g cap m j : Nat} {ys : List Int} {t : TypeId} (h : w.ownsRow base t 1 (.slice (some ⟨g, 0, none⟩) m cap) m (ys.map (Value.int .u8))) (hj : j < m) :
    w.cell? ⟨g, j, none⟩ = some (.int .u8 (ys[j]?.getD 0)) ∧ w.frozen? ⟨g, j, none⟩ = false ∧ ∀ z, (w.setCell ⟨g, j, none⟩ (.int .u8 z)).ownsRow base t 1 (.slice (some ⟨g, 0, none⟩) m cap) m ((ys.set j z).map (Value.int .u8)) := by
  have hl : ys.length = m := by simpa using (Rd.of_own h).len
  refine ⟨?_, h.frozenAt j, fun z => ?_⟩
  · rw [h.cellAt j (by omega), List.getElem?_map, List.getElem?_eq_getElem (by omega)]
    simp
  · rw [List.map_set]; exact (h.stored j _).1
def OwnAt (w : World) (base : Nat) (V : Value) (m : Nat) : Prop := ∃ ys : List Int, w.ownsRow base 5 1 V m (ys.map (Value.int .u8))
/-- Only one's own row turns. -/
def OX (V : Value) (k : Nat) : Prop := V.ownBlock = some k

theorem Pair.kept {w w2 : World} {B : Nat} {V : Value} {A : Option Addr} {bs : List Int} {X : Nat → Prop} (h : Pair w B V A bs) (hs : Save X w w2) (hW : ∀ k, WX B V k → ¬ X k) (hA : ∀ a, A = some a → ¬ X a.block) : Pair w2 B V A bs :=
  ⟨h.wrt.save hs hW, h.rd.saved hs hA, h.safe.size hs.size⟩
theorem OwnAt.step {w w' : World} {base m : Nat} {V : Value} (h : OwnAt w base V m) (hb : Below w.heap.size w w') : OwnAt w' base V m := by
  obtain ⟨ys, hy⟩ := h
  exact ⟨ys, ownsRow_save hy (Save.of_below (X := fun k => w.heap.size ≤ k) hb) (fun g hg => by have := (hy.lt g hg).2; omega)⟩
theorem OwnAt.lt {w : World} {base m : Nat} {V : Value} (h : OwnAt w base V m) : ∀ k, OX V k → base ≤ k ∧ k < w.heap.size := fun k hk => by
  obtain ⟨ys, hy⟩ := h
  exact hy.lt k hk
theorem OwnAt.cell {w : World} {base j m c : Nat} {A : Option Addr} (h : OwnAt w base (.slice A m c) m) (hj : j < m) :
    ∃ g z, A = some ⟨g, 0, none⟩ ∧ w.cell? ⟨g, j, none⟩ = some (.int .u8 z) ∧ w.frozen? ⟨g, j, none⟩ = false ∧ ∀ u, OwnAt (w.setCell ⟨g, j, none⟩ (.int .u8 u)) base (.slice A m c) m ∧ ∀ v, Save (OX (.slice A m c)) v w → Save (OX (.slice A m c)) v (w.setCell ⟨g, j, none⟩ (.int .u8 u)) := by
  obtain ⟨ys, hy⟩ := h
  obtain ⟨g, cap, e, _, _⟩ := hy.form (by omega)
  injection e with e1 e2 e3
  subst e1 e3
  obtain ⟨h1, h2, h3⟩ := own_cell hy hj
  exact ⟨g, _, rfl, h1, h2, fun u => ⟨⟨_, h3 u⟩, fun v hv => hv.setCell (p := ⟨g, j, none⟩) (fun _ => rfl) _⟩⟩

set_option maxRecDepth 100000 in
set_option maxHeartbeats 8000000 in
theorem own_any {w : World} {n c nb cb : Nat} {A Ab : Option Addr} {rs : List ActRow} {bxs : List Int} (h : RdA w w.heap.size A n rs) (hb1 : Rd .u8 w w.heap.size Ab nb bxs) (hbx : Byte bxs) :
    Calls Try.prog 6 #[.slice A n c, .slice Ab nb cb] w fun e w' => e = .returned (.bool true) ∧ Below w.heap.size w w' := by
  have hF := Lib.hid (few_any (c := c) h)
  by_cases hf : fewB n rs = true
  · by_cases h40 : 40 < nb
    · have d1 : decide ((40 : Int) < (nb : Int)) = true := by simp; omega
      rw [hf] at hF
      clear hf h hb1 hbx
      go_enter Try.func6, Try.ntmps6
      go_wp2_with fail
      refine hF.out.mono ?_
      rintro e w' ⟨rfl, rfl⟩
      go_wp2_with fail
      refine (works_any _).mono ?_
      rintro e w1 ⟨rfl, hb1⟩
      go_wp2
      go_ret
      exact ⟨rfl, hb1⟩
    have d1 : decide ((40 : Int) < (nb : Int)) = false := by simp; omega
    have hm := fewB_mem hf
    rw [hf] at hF
    obtain ⟨w0, hw0⟩ : ∃ W, W = w.alloc (.cells #[.slice none 0 0, .int .i64 0] 29) := ⟨_, rfl⟩
    have hW : WrtAt w0 w.heap.size (.slice none 0 0) [] := by rw [hw0]; exact wrt_new w
    have hb : Below w.heap.size w w0 := by rw [hw0]; exact (Below.refl _ w).alloc (Nat.le_refl _) _
    have hP0 : Hid (Pair w0 w.heap.size (.slice none 0 0) none []) := Lib.hid ⟨hW, Rd.nil _ _ _ _, fun a ha => by cases ha⟩
    have HB := Lib.hid hb
    have HR := Lib.hid h
    have HM := Lib.hid hm
    have HY := Lib.hid hb1
    have HZ := Lib.hid hbx
    have hn40 := hm.1
    subst hw0
    clear hW hb h hm hf hb1 hbx
    go_enter Try.func6, Try.ntmps6
    go_wp2_with fail
    refine hF.out.mono ?_
    rintro e w' ⟨rfl, rfl⟩
    go_wp2_with fail
    generalize w'.alloc (.cells #[.slice none 0 0, .int .i64 0] 29) = w0 at *
    go_loopw [6, 7] (fun p i wr => ∃ (k : Nat) (A' : Option Addr) (c' m : Nat) (V : Value) (bs : List Int), k ≤ n ∧ i = .int .i64 k ∧ p = .slice A' m c' ∧ Hid (m = bs.length) ∧ m ≤ 1280 * k ∧ Hid (Pair wr w'.heap.size V A' bs) ∧ Hid (Below w'.heap.size w' wr))
      (fun _ i _ => n - (intOf i).toNat)
    case atStart => exact ⟨0, none, 0, 0, _, [], Nat.zero_le _, rfl, rfl, Lib.hid rfl, Nat.le_refl _, hP0, HB⟩
    case round =>
      obtain ⟨k, A', c', m, V, bs, hk, rfl, rfl, hm1, hm2, hP, hBw⟩ := hrel
      by_cases hlt : k < n
      · obtain ⟨b, off, r, rfl, hb, hr, hcs, hg⟩ := (HR.out.step (Nat.le_refl _) hBw.out).cells k hlt
        have c0 : wr.cell? ⟨b, off + k * 5, none⟩ = some (.int .i64 r.what) := hcs 0 (by decide)
        have c1 : wr.cell? ⟨b, off + k * 5 + 1, none⟩ = some (.int .u64 r.v) := hcs 1 (by decide)
        have c2 : wr.cell? ⟨b, off + k * 5 + 2, none⟩ = some (.int .i64 r.num) := hcs 2 (by decide)
        have c3 : wr.cell? ⟨b, off + k * 5 + 3, none⟩ = some (.slice r.ba r.bn r.bc) := hcs 3 (by decide)
        have c4 : wr.cell? ⟨b, off + k * 5 + 4, none⟩ = some (.slice r.la r.ln r.lc) := hcs 4 (by decide)
        have hk0 : (0 : Int) ≤ (k : Int) := by omega
        have hk1 : (k : Int) < (n : Int) := by omega
        have HC := Lib.hid hcs
        have HK := Lib.hid hr
        have HG := Lib.hid hg
        clear hcs hr hg
        have hrm := HM.out.2 r (List.mem_of_getElem? HK.out)
        have hA := Lib.hid (act_any (c := c') (n := m) hP.out HG.out (Nat.le_refl _) hrm.1 hrm.2 (by have := hm1.out; omega) hm1.out)
        have hq2 : Hid ((actL bs r).length ≤ m + 1280) := Lib.hid (by have := hm1.out; rw [this]; exact actL_len (by rw [HG.out.bytes.len]; exact hrm.1) (by rw [HG.out.fields.len]; exact hrm.2))
        have hqb : Hid (Bits (actL bs r)) := Lib.hid (actL_bits hP.out.wrt.bits r)
        generalize actL bs r = q at *
        clear hrm
        go_wp2_with fail
        refine hA.out.mono ?_
        rintro e w2 ⟨A2, cc2, V2, rfl, hP2, hT2⟩
        have HP2 := Lib.hid hP2
        have HB2 := Lib.hid (Below.save hBw.out hT2.1 (fun i hi => by
          rcases hi with hi | hi
          · omega
          · have := (hP.out.wrt.own_lt i hi.symm).1; omega) (Nat.le_refl _))
        clear hP2 hT2 c0 c1 c2 c3 c4
        go_wp2_with fail
        go_roundw
        case rel => exact ⟨k + 1, A2, cc2, q.length, V2, q, by omega, by go_num, rfl, Lib.hid rfl, by have := hq2.out; omega, HP2, HB2⟩
        case measure => simp [intOf]; omega
      · obtain rfl : k = n := by omega
        clear hlt
        have hbw := HY.out.step hBw.out
        obtain ⟨O, co, w2, hrun1, hown2, hb2⟩ := copy_run (c := cb) hbw (by omega)
        have HR1 := Lib.hid hrun1
        have HP2 := Lib.hid (hP.out.below hb2)
        have HO := Lib.hid hown2
        have hPB := Lib.hid (putBytes_any (c := co) (Bl := w2.heap.size) HP2.out.wrt (Rd.of_own hown2) HZ.out (Nat.le_refl _) (fun _ a ha => by
          have h2 := wx_old hP.out.wrt (hown2.lt a.block (by rw [ha]; rfl)).1
          exact ⟨fun e => h2 (.inl e), fun e => h2 (.inr e)⟩) (by have := hm1.out; omega))
        have HB2 := Lib.hid (hBw.out.trans (hb2.mono hBw.out.size))
        have HS := Lib.hid hb2.size
        clear hbw hrun1 hown2 hb2
        go_wp2_with (at_builtin; refine Lib.wpList_append_run _ rfl _ _ _ _ rfl _ _ rfl rfl _ _ HR1.out ?_)
        refine hPB.out.mono ?_
        rintro e w3 ⟨rfl, V3, hW3, hT3⟩
        have hnO : ∀ i, wr.heap.size ≤ i → ¬ WX w'.heap.size V i := fun i hi => wx_old hP.out.wrt hi
        have hO3 : Hid (OwnAt w3 wr.heap.size (.slice O nb co) nb) := Lib.hid ⟨bxs, ownsRow_save HO.out hT3.1 (fun g hg => hnO g (HO.out.lt g hg).1)⟩
        have hV3 : Hid (∀ i, wr.heap.size ≤ i → i < w2.heap.size → ¬ WX w'.heap.size V3 i) := Lib.hid (fun i h1 h2 hi => by
          rcases hi with hi | hi
          · exact hnO i h1 (.inl hi)
          · exact hT3.2 i h2 (fun e => hnO i h1 (.inr e)) hi)
        have hP3 : Hid (Rd .u8 w3 w3.heap.size A' m bs ∧ Safe w3 w'.heap.size V3 A' ∧ ∀ a, A' = some a → a.block < wr.heap.size) := Lib.hid ⟨by have := HP2.out.rd.turn HP2.out.safe hT3; rwa [← hm1.out] at this, HP2.out.safe.turn hT3, fun a ha => (hP.out.safe a ha).1⟩
        have HB3 := Lib.hid (Below.save HB2.out hT3.1 (fun i hi => by
          rcases hi with hi | hi
          · omega
          · have := (HP2.out.wrt.own_lt i hi.symm).1; omega) (Nat.le_refl _))
        have HS3 := Lib.hid hT3.1.size
        have HW3 := Lib.hid hW3
        clear hW3 hT3 hnO
        have hPR := Lib.hid (rputBytes_any (c := c') (c1 := cb) (l := bxs) hP3.out.1 (by omega) (HY.out.step HB3.out) (Nat.le_refl _) HZ.out (by omega))
        have hqb : Hid (Bits (bs ++ bitsOf bxs)) := Lib.hid HW3.out.bits
        have hql : Hid ((bs ++ bitsOf bxs).length ≤ 100000) := Lib.hid (by rw [List.length_append, bitsOf_length, HY.out.len, ← hm1.out]; omega)
        generalize bs ++ bitsOf bxs = q at *
        go_wp2_with fail
        refine hPR.out.mono ?_
        rintro e w4 ⟨A4, c4, rfl, hn4⟩
        have hO4 := Lib.hid (hO3.out.step hn4.below)
        have hP4 : Hid (Pair w4 w'.heap.size V3 A4 q) := Lib.hid ⟨HW3.out.below hn4.below, hn4.rd, hn4.safe hP3.out.2.1 HW3.out⟩
        have hA4 : Hid (∀ a, A4 = some a → ¬ OX (.slice O nb co) a.block) := Lib.hid (fun a ha ho => by
          have h1 := hO3.out.lt _ ho
          rcases hn4.place a ha with h2 | h2
          · have := hP3.out.2.2 a h2; omega
          · omega)
        have hV4 : Hid (∀ k, WX w'.heap.size V3 k → ¬ OX (.slice O nb co) k) := Lib.hid (fun k hk ho => by
          have h1 := HO.out.lt k ho
          exact hV3.out k h1.1 h1.2 hk)
        have HB4 := Lib.hid (HB3.out.trans (hn4.below.mono HB3.out.size))
        have HWr := Lib.hid hBw.out.size
        clear hn4
        go_wp2_with fail
        go_loopw [12] (fun i wr2 => ∃ (j : Nat), j ≤ nb ∧ i = .int .i64 j ∧ Hid (OwnAt wr2 wr.heap.size (.slice O nb co) nb) ∧ Hid (Save (OX (.slice O nb co)) w4 wr2))
          (fun i _ => nb - (intOf i).toNat)
        case atStart => exact ⟨0, Nat.zero_le _, rfl, hO4, Lib.hid (Save.refl _ _)⟩
        case round =>
          obtain ⟨j, hj, rfl, hO, hSv⟩ := hrel
          by_cases hlt : j < nb
          · obtain ⟨g, z, rfl, hc, hfz, hst⟩ := hO.out.cell hlt
            have hk0 : (0 : Int) ≤ (j : Int) := by omega
            have hk1 : (j : Int) < (nb : Int) := by omega
            have HST := Lib.hid (fun u => And.intro (hst u).1 ((hst u).2 _ hSv.out))
            clear hst
            go_wp2_with fail
            go_roundw
            case rel => exact ⟨j + 1, by omega, by go_num, Lib.hid (HST.out _).1, Lib.hid (HST.out _).2⟩
            case measure => simp [intOf]; omega
          · obtain rfl : j = nb := by omega
            clear hlt
            have hP5 : Hid (Pair wr w'.heap.size V3 A4 q) := Lib.hid (hP4.out.kept hSv.out hV4.out hA4.out)
            have HB5 := Lib.hid (Below.save HB4.out hSv.out (fun i hi => by have := (hO.out.lt i hi).1; have := HWr.out; omega) (Nat.le_refl _))
            go_wp2_with fail
            refine (wbytes_any hP5.out.wrt).mono ?_
            rintro e w6 ⟨X, cx, rfl, hox, hb6⟩
            generalize hxl : (packL q).length = xl at *
            have hX6 : Hid (OwnAt w6 wr.heap.size (.slice X xl cx) xl) := Lib.hid ⟨_, hox⟩
            have hxl2 : xl ≤ 20000 := by rw [← hxl, packL_length]; have := hql.out; omega
            have hP6 := Lib.hid (hP5.out.below hb6)
            have hX6w : Hid (∀ k, WX w'.heap.size V3 k → ¬ OX (.slice X xl cx) k) := Lib.hid (fun k hk ho => wx_old hP5.out.wrt (hX6.out.lt k ho).1 hk)
            have hX6a : Hid (∀ a, A4 = some a → ¬ OX (.slice X xl cx) a.block) := Lib.hid (fun a ha ho => by
              have h1 := (hX6.out.lt _ ho).1
              have h2 := (hP5.out.safe a ha).1
              omega)
            have HB6 := Lib.hid (HB5.out.trans (hb6.mono HB5.out.size))
            have HWs := Lib.hid HB5.out.size
            have HXL := Lib.hid hxl
            clear hox hb6 hxl
            go_wp2_with fail
            go_loopw [14] (fun i wr2 => ∃ (j : Nat), j ≤ xl ∧ i = .int .i64 j ∧ Hid (OwnAt wr2 wr.heap.size (.slice X xl cx) xl) ∧ Hid (Save (OX (.slice X xl cx)) w6 wr2))
              (fun i _ => xl - (intOf i).toNat)
            case atStart => exact ⟨0, Nat.zero_le _, rfl, hX6, Lib.hid (Save.refl _ _)⟩
            case round =>
              obtain ⟨t, hj, rfl, hO', hSv'⟩ := hrel
              by_cases hlt : t < xl
              · obtain ⟨g, z, rfl, hc, hfz, hst⟩ := hO'.out.cell hlt
                have hk0 : (0 : Int) ≤ (t : Int) := by omega
                have hk1 : (t : Int) < (xl : Int) := by omega
                have HST := Lib.hid (fun u => And.intro (hst u).1 ((hst u).2 _ hSv'.out))
                clear hst
                go_wp2_with fail
                go_roundw
                case rel => exact ⟨t + 1, by omega, by go_num, Lib.hid (HST.out _).1, Lib.hid (HST.out _).2⟩
                case measure => simp [intOf]; omega
              · obtain rfl : t = xl := by omega
                clear hlt
                have hP7 : Hid (Pair wr w'.heap.size V3 A4 q) := Lib.hid (hP6.out.kept hSv'.out hX6w.out hX6a.out)
                have HB7 := Lib.hid (Below.save HB6.out hSv'.out (fun i hi => by have := (hO'.out.lt i hi).1; have := HWs.out; omega) (Nat.le_refl _))
                go_wp2_with fail
                refine (num_any _ _).mono ?_
                rintro e w8 ⟨rfl, rfl⟩
                go_wp2_with fail
                refine (wbytes_any hP7.out.wrt).mono ?_
                rintro e w8 ⟨Y, cy, rfl, hoy, hb8⟩
                have HY8 := Lib.hid hoy
                have hB8 := Lib.hid hb8
                clear hoy hb8
                go_wp2_with fail
                have hr9 := Lib.hid (rbytes_any (c := c4) ((hP7.out.below hB8.out).rd) (by have := hql.out; omega) hqb.out)
                refine hr9.out.mono ?_
                rintro e w9 ⟨Z, cz, rfl, hn9⟩
                have HN9 := Lib.hid hn9.below
                have hs9 := Lib.hid (same_true (c := cy) (c' := cz) ((Rd.of_own HY8.out).step hn9.below) hn9.rd (byte_packL hqb.out))
                clear hn9
                go_wp2_with fail
                refine hs9.out.mono ?_
                rintro e w10 ⟨rfl, rfl⟩
                go_wp2_with fail
                refine (works_any _).mono ?_
                rintro e w11 ⟨rfl, hb11⟩
                have HB9 := Lib.hid (((HB7.out.trans (hB8.out.mono HB7.out.size)).trans (HN9.out.mono (Nat.le_trans HB7.out.size hB8.out.size))))
                have HB11 := Lib.hid (HB9.out.trans (hb11.mono HB9.out.size))
                clear hb11
                go_wp2
                go_ret
                exact ⟨rfl, HB11.out⟩
  · have hf' : fewB n rs = false := by simpa using hf
    rw [hf'] at hF
    clear hf hf' h hb1 hbx
    go_enter Try.func6, Try.ntmps6
    go_wp2_with fail
    refine hF.out.mono ?_
    rintro e w' ⟨rfl, rfl⟩
    go_wp2_with fail
    refine (works_any _).mono ?_
    rintro e w1 ⟨rfl, hb1⟩
    go_wp2
    go_ret
    exact ⟨rfl, hb1⟩
end Go.Proofs.Ytgcgmnopggabaaa
