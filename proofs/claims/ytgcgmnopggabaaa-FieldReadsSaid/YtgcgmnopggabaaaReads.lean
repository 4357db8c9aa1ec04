/-
  The law FieldReads: its walk.
-/
import Derived.Test.YtgcgmnopggabaaaAsk4
import Derived.Test.YtgcgmnopggabaaaOwn
import Derived.Deep.Cut
namespace Go.Proofs.Ytgcgmnopggabaaa
open Go.RowKit Go.ChangeShapes Go.WideShapes Go.ChangeAt Go.Deep

/-- A slice of calls of a reader that is read. -/
structure RdK (w : World) (B : Nat) (A : Option Addr) (n : Nat) (rs : List AskRow) : Prop where
  len : rs.length = n
  cells : ∀ k, k < n → ∃ b off r, A = some ⟨b, off, none⟩ ∧ b < B ∧ rs[k]? = some r ∧ (∀ j, j < 3 → w.cell? ⟨b, off + k * 3 + j, none⟩ = r.cells[j]?) ∧ r.Good w B
theorem AskRow.Good.step {r : AskRow} {w w' : World} {B : Nat} (h : r.Good w B) (hB : B ≤ w.heap.size) (hb : Below w.heap.size w w') : r.Good w' B :=
  ⟨h.what, h.num, h.ints.below' hb hB, h.range⟩
theorem RdK.step {w w' : World} {B n : Nat} {A : Option Addr} {rs : List AskRow} (h : RdK w B A n rs) (hB : B ≤ w.heap.size) (hb : Below w.heap.size w w') : RdK w' B A n rs :=
  ⟨h.len, fun k hk => by
    obtain ⟨b, off, r, h1, h2, h3, h4, h5⟩ := h.cells k hk
    exact ⟨b, off, r, h1, h2, h3, fun j hj => (hb.cell (p := ⟨b, off + k * 3 + j, none⟩) (Nat.lt_of_lt_of_le h2 hB)).trans (h4 j hj), h5.step hB hb⟩⟩
section
variable {H : Type} {enc : TypeId × Value → H} {W : World} {base fuel : Nat} {x : DataW H × List MemPlace}
theorem op_asks {v : Value} (h : DataW.trod enc Try.prog W base (fun _ => true) true fuel 41 [v] = some x) : ∃ A n c rs, v = .slice A n c ∧ n ≤ c ∧ RdK W W.heap.size A n rs := by
  obtain ⟨A, n, c, hv, hc, hk⟩ := op_rows (e := 49) (s := 3) Try.underlying41 (by kernel_rfl) (by decide) h
  have key : ∀ k : Nat, ∃ r : AskRow, k < n → ∃ b off, A = some ⟨b, off, none⟩ ∧ b < W.heap.size ∧ (∀ j, j < 3 → W.cell? ⟨b, off + k * 3 + j, none⟩ = r.cells[j]?) ∧ r.Good W W.heap.size := fun k => by
    by_cases hlt : k < n
    · obtain ⟨b, off, cs, n', y, h1, h2, h3, h4, h5⟩ := hk k hlt
      obtain ⟨r, hr, hg⟩ := op_ask h5
      exact ⟨r, fun _ => ⟨b, off, h1, h2, fun j hj => by rw [h3 j hj, hr], hg⟩⟩
    · exact ⟨⟨0, 0, none, 0, 0, []⟩, fun h => absurd h hlt⟩
  obtain ⟨f, hf⟩ := Classical.axiomOfChoice key
  refine ⟨A, n, c, (List.range n).map f, hv, hc, by simp, fun k hk => ?_⟩
  obtain ⟨b, off, h1, h2, h3, h4⟩ := hf k hk
  exact ⟨b, off, f k, h1, h2, by simp [hk], h3, h4⟩
end

theorem save_new {w w' : World} {X : Nat → Prop} (h : Save X w w') (a b : Value) : Save X w ((w'.setCell ⟨w.heap.size, 0, none⟩ a).setCell ⟨w.heap.size, 1, none⟩ b) :=
  (h.setCell (p := ⟨w.heap.size, 0, none⟩) (fun h => absurd h (Nat.lt_irrefl _)) _).setCell (p := ⟨w.heap.size, 1, none⟩) (fun h => absurd h (Nat.lt_irrefl _)) _
set_option maxRecDepth 100000 in
set_option maxHeartbeats 8000000 in
theorem reads_any {w : World} {nb cb kn kc : Nat} {Ab Ak : Option Addr} {xs : List Int} {rs : List AskRow} (hb : Rd .u8 w w.heap.size Ab nb xs) (hx : Byte xs) (hK : RdK w w.heap.size Ak kn rs) :
    Calls Try.prog 4 #[.slice Ab nb cb, .slice Ak kn kc] w fun e w' => e = .returned (.bool true) ∧ Below w.heap.size w w' := by
  by_cases h200 : 200 < nb
  · have d1 : decide ((200 : Int) < (nb : Int)) = true := by simp; omega
    clear hb hx hK
    go_enter Try.func4, Try.ntmps4
    go_wp2_with fail
    refine (works_any _).mono ?_
    rintro e w1 ⟨rfl, hb1⟩
    go_wp2
    go_ret
    exact ⟨rfl, hb1⟩
  · have d1 : decide ((200 : Int) < (nb : Int)) = false := by simp; omega
    by_cases h40 : 40 < kn
    · have d2 : decide ((40 : Int) < (kn : Int)) = true := by simp; omega
      clear hb hx hK
      go_enter Try.func4, Try.ntmps4
      go_wp2_with fail
      refine (works_any _).mono ?_
      rintro e w1 ⟨rfl, hb1⟩
      go_wp2
      go_ret
      exact ⟨rfl, hb1⟩
    · have d2 : decide ((40 : Int) < (kn : Int)) = false := by simp; omega
      have hnb : nb ≤ 200 := by omega
      have hkn : kn ≤ 40 := by omega
      clear h200 h40
      obtain ⟨O, co, w2, hrun1, hown2, hb2⟩ := copy_run (c := cb) hb (by omega)
      have HR1 := Lib.hid hrun1
      have HO := Lib.hid hown2
      have HB2 := Lib.hid hb2
      have HY := Lib.hid hb
      have HX := Lib.hid hx
      have HK := Lib.hid hK
      have hN := Lib.hid (newReader_any (c := co) (Rd.of_own hown2) (Nat.le_refl _) hx (by omega))
      clear hrun1 hown2 hb2 hb hx hK
      go_enter Try.func4, Try.ntmps4
      go_wp2_with (at_builtin; refine Lib.wpList_append_run _ rfl _ _ _ _ rfl _ _ rfl rfl _ _ HR1.out ?_)
      refine hN.out.mono ?_
      rintro e w3 ⟨Br, A8, c8, rfl, hR3, hb3, hBr, hA8⟩
      have HB3 := Lib.hid (HB2.out.trans (hb3.mono HB2.out.size))
      have hRN := Lib.hid (rnew_any (c := cb) (HY.out.step HB3.out) (Nat.le_refl _) HX.out (by omega))
      unfold rrV at hRN
      obtain ⟨m, hm⟩ : ∃ m, m = 8 * nb := ⟨_, rfl⟩
      rw [← hm] at hRN
      have HM := Lib.hid hm
      clear hm
      have HR3 := Lib.hid hR3
      have HO3 : Hid (OwnAt w3 w.heap.size (.slice O nb co) nb) := Lib.hid ((show OwnAt w2 w.heap.size (.slice O nb co) nb from ⟨_, HO.out⟩).step hb3)
      have hO2 := Lib.hid (show ∀ k, OX (.slice O nb co) k → k < w2.heap.size from fun k hk => (HO.out.lt k hk).2)
      have hs23 := Lib.hid hb3.size
      clear hR3 hb3
      go_wp2_with fail
      refine hRN.out.mono ?_
      rintro e w4 ⟨A, c, rfl, hRf, hAlo, hb4⟩
      have HO4 := Lib.hid (HO3.out.step hb4)
      have HR4 := Lib.hid (HR3.out.save (X := fun i => w3.heap.size ≤ i) (Save.of_below hb4) (by have := HR3.out.blk.lt; omega) (fun a ha => by have := HR3.out.low a ha; omega))
      have HB4 := Lib.hid (HB3.out.trans (hb4.mono HB3.out.size))
      have HRf := Lib.hid hRf
      have hs34 := Lib.hid hb4.size
      have hBrl := Lib.hid HR3.out.blk.lt
      have hlx := Lib.hid HY.out.len
      clear hRf hb4
      go_wp2_with fail
      have hbA : Below w4.heap.size w4 (w4.alloc (.cells #[.slice A m c, .int .i64 0] 45)) := (Below.refl _ w4).alloc (Nat.le_refl _) _
      have HBo : Hid (Both (w4.alloc (.cells #[.slice A m c, .int .i64 0] 45)) Br A8 nb c8 A m c xs 0) := Lib.hid ((show Both w4 Br A8 nb c8 A m c xs 0 from ⟨HR4.out, HRf.out, fun _ a ha => by have := hAlo a ha; have := hBrl.out; omega, hlx.out⟩).below hbA)
      have HTw := Lib.hid (Two.new w4 45 (.slice A m c) (.int .i64 0))
      have HOw := Lib.hid (HO4.out.step hbA)
      have HBw := Lib.hid (HB4.out.trans (hbA.mono HB4.out.size))
      have hA8s := Lib.hid (fun a (ha : A8 = some a) => HR4.out.low a ha)
      have hAs := Lib.hid (fun (hp : 0 < m) => HRf.out.low hp)
      have hA8o := Lib.hid hA8
      have hAlo' := Lib.hid hAlo
      have hBro := Lib.hid hBr
      clear hbA hA8 hAlo hBr
      have hBr0 : Hid (w.heap.size ≤ Br ∧ Br < w4.heap.size) := Lib.hid ⟨by have := HB2.out.size; have := hBro.out; omega, by have := hBrl.out; have := hs34.out; omega⟩
      generalize hW0 : w4.alloc (.cells #[.slice A m c, .int .i64 0] 45) = W0 at *
      have hsw0 : Hid (w4.heap.size < W0.heap.size) := Lib.hid HTw.out.lt
      clear hW0
      go_loopw [8] (fun i wr => ∃ (j : Nat), j ≤ nb ∧ i = .int .i64 j ∧ Hid (OwnAt wr w.heap.size (.slice O nb co) nb) ∧ Hid (Save (OX (.slice O nb co)) W0 wr))
        (fun i _ => nb - (intOf i).toNat)
      case atStart => exact ⟨0, Nat.zero_le _, rfl, HOw, Lib.hid (Save.refl _ _)⟩
      case round =>
        obtain ⟨j, hj, rfl, hO, hSv⟩ := hrel
        by_cases hlt : j < nb
        · obtain ⟨g, z, rfl, hc, hfz, hst⟩ := hO.out.cell hlt
          have hk0 : (0 : Int) ≤ (j : Int) := by omega
          have hk1 : (j : Int) < (nb : Int) := by omega
          have HST := Lib.hid (fun u => And.intro (hst u).1 ((hst u).2 _ hSv.out))
          clear hst
          go_wp2_with fail
          go_roundw
          case rel => exact ⟨j + 1, by omega, by go_num, Lib.hid (HST.out _).1, Lib.hid (HST.out _).2⟩
          case measure => simp [intOf]; omega
        · obtain rfl : j = nb := by omega
          clear hlt
          have HBo1 : Hid (Both wr Br A8 j c8 A m c xs 0) := Lib.hid (HBo.out.save hSv.out (fun ho => by have := hO2.out _ ho; have := hBro.out; omega) (fun a ha ho => by have := hO2.out _ ho; have := hA8o.out a ha; omega) (fun _ a ha ho => by have := hO2.out _ ho; have := hAlo'.out a ha; have := hs23.out; omega))
          have HTw1 : Hid (Two wr w4.heap.size 45 (.slice A m c) (.int .i64 0)) := Lib.hid (HTw.out.save hSv.out (fun ho => by have := hO2.out _ ho; have := hs23.out; have := hs34.out; omega))
          have HBw1 := Lib.hid (Below.save HBw.out hSv.out (fun i hi => (HOw.out.lt i hi).1) (Nat.le_refl _))
          have hsw1 : Hid (w4.heap.size < wr.heap.size) := Lib.hid HTw1.out.lt
          go_wp2_with fail
          go_loopw [9] (fun i wr => ∃ (k p : Nat), k ≤ kn ∧ i = .int .i64 k ∧ Hid (Both wr Br A8 j c8 A m c xs p) ∧ Hid (Two wr w4.heap.size 45 (.slice A m c) (.int .i64 p)) ∧ Hid (Below w.heap.size w wr))
            (fun i _ => kn - (intOf i).toNat)
          case atStart => exact ⟨0, 0, Nat.zero_le _, rfl, HBo1, HTw1, HBw1⟩
          case round =>
            obtain ⟨k, p, hk, rfl, hBo, hTw, hBw⟩ := hrel
            by_cases hlt : k < kn
            · obtain ⟨b, off, r, rfl, hb, hr, hcs, hg⟩ := (HK.out.step (Nat.le_refl _) hBw.out).cells k hlt
              have c0 : wr.cell? ⟨b, off + k * 3, none⟩ = some (.int .i64 r.what) := hcs 0 (by decide)
              have c1 : wr.cell? ⟨b, off + k * 3 + 1, none⟩ = some (.int .i64 r.num) := hcs 1 (by decide)
              have c2 : wr.cell? ⟨b, off + k * 3 + 2, none⟩ = some (.slice r.la r.ln r.lc) := hcs 2 (by decide)
              have hk0 : (0 : Int) ≤ (k : Int) := by omega
              have hk1 : (k : Int) < (kn : Int) := by omega
              have HC := Lib.hid hcs
              have HG := Lib.hid hg
              clear hcs hr hg
              by_cases h20 : 20 < r.ln
              · have d20 : decide ((20 : Int) < (r.ln : Int)) = true := by simp; omega
                go_wp2_with fail
                refine (works_any _).mono ?_
                rintro e w9 ⟨rfl, hb9⟩
                go_wp2
                go_ret
                exact ⟨rfl, hBw.out.trans (hb9.mono hBw.out.size)⟩
              · have d20 : decide ((20 : Int) < (r.ln : Int)) = false := by simp; omega
                have HA : Hid (∀ w', Below wr.heap.size wr w' → Calls Try.prog 18 #[.pointer (some ⟨Br, 0, none⟩), .agg #[.slice A m c, .int .i64 p], .agg #[.int .i64 r.what, .int .i64 r.num, .slice r.la r.ln r.lc]] w' (AskR w' Br A8 j c8 A m c xs (askP j p xs r))) := Lib.hid (fun w' hb' => ask_any (hBo.out.below hb') (HG.out.step (by have := hBw.out.size; omega) hb') hBr0.out.1 (by omega))
                generalize askP j p xs r = q at *
                unfold AskR rrV at HA
                have t0 := hTw.out.cell0
                have t1 := hTw.out.cell1
                have hswr : w4.heap.size < wr.heap.size := hTw.out.lt
                have hbr : b < wr.heap.size := by have := hBw.out.size; omega
                have hnb : b ≠ Br := by have := hBr0.out.1; omega
                have hns : w4.heap.size ≠ Br := by have := hBr0.out.2; omega
                have hbA : Hid (Below wr.heap.size wr wr.drew) := Lib.hid (Below.refl _ wr).drew
                have hbB : Hid (Below wr.heap.size wr (World.drew (wr.alloc (.cells #[.slice none 0 0, .int .i64 0] 45)))) := Lib.hid ((Below.refl _ wr).alloc (Nat.le_refl _) _).drew
                have hZ : Hid (∀ w5, Save (· = Br) (World.drew (wr.alloc (.cells #[.slice none 0 0, .int .i64 0] 45))) w5 → Two w5 wr.heap.size 45 (.slice none 0 0) (.int .i64 0)) := Lib.hid (fun w5 hs => (show Two (World.drew (wr.alloc (.cells #[.slice none 0 0, .int .i64 0] 45))) wr.heap.size 45 (.slice none 0 0) (.int .i64 0) from Two.new wr _ _ _).save hs (by have := hBr0.out.2; omega))
                go_upto_region 16 with fail
                go_region_held3 (fun w' => w'.cell? ⟨b, off + k * 3, none⟩ = some (.int .i64 r.what) ∧ w'.cell? ⟨b, off + k * 3 + 1, none⟩ = some (.int .i64 r.num) ∧ w'.cell? ⟨b, off + k * 3 + 2, none⟩ = some (.slice r.la r.ln r.lc) ∧ w'.cell? ⟨w4.heap.size, 0, none⟩ = some (.slice A m c) ∧ w'.cell? ⟨w4.heap.size, 1, none⟩ = some (.int .i64 p))
                  (first
                    | go_keep
                    | exact ⟨(hS5.cell (p := ⟨b, off + k * 3, none⟩) hbr hnb).trans c0, (hS5.cell (p := ⟨b, off + k * 3 + 1, none⟩) hbr hnb).trans c1, (hS5.cell (p := ⟨b, off + k * 3 + 2, none⟩) hbr hnb).trans c2, (hS5.cell (p := ⟨w4.heap.size, 0, none⟩) hswr hns).trans t0, (hS5.cell (p := ⟨w4.heap.size, 1, none⟩) hswr hns).trans t1⟩
                    | exact ⟨((hS5.alloc _).cell (p := ⟨b, off + k * 3, none⟩) hbr hnb).trans c0, ((hS5.alloc _).cell (p := ⟨b, off + k * 3 + 1, none⟩) hbr hnb).trans c1, ((hS5.alloc _).cell (p := ⟨b, off + k * 3 + 2, none⟩) hbr hnb).trans c2, ((hS5.alloc _).cell (p := ⟨w4.heap.size, 0, none⟩) hswr hns).trans t0, ((hS5.alloc _).cell (p := ⟨w4.heap.size, 1, none⟩) hswr hns).trans t1⟩
                    | exact ⟨((save_new hS5 _ _).cell (p := ⟨b, off + k * 3, none⟩) hbr hnb).trans c0, ((save_new hS5 _ _).cell (p := ⟨b, off + k * 3 + 1, none⟩) hbr hnb).trans c1, ((save_new hS5 _ _).cell (p := ⟨b, off + k * 3 + 2, none⟩) hbr hnb).trans c2, ((save_new hS5 _ _).cell (p := ⟨w4.heap.size, 0, none⟩) hswr hns).trans t0, ((save_new hS5 _ _).cell (p := ⟨w4.heap.size, 1, none⟩) hswr hns).trans t1⟩)
                  (first
                    | (go_at_call 18; refine (HA.out wr.drew hbA.out).mono ?_; rintro e w5 ⟨rfl, hBo5, hS50⟩; have hS5 : Save (· = Br) wr w5 := (Save.of_below hbA.out).trans hS50; clear hS50)
                    | (go_at_call 18; refine (HA.out (World.drew (wr.alloc (.cells #[.slice none 0 0, .int .i64 0] 45))) hbB.out).mono ?_; rintro e w5 ⟨rfl, hBo5, hS50⟩; have hz := hZ.out w5 hS50; have z0 := hz.cell0; have z1 := hz.cell1; have zf0 := hz.frozen 0; have zf1 := hz.frozen 1; have hS5 : Save (· = Br) wr w5 := (Save.of_below hbB.out).trans hS50; clear hS50))
                · have hSW : Save (· = Br) wr (w5.alloc (.cells #[.slice A m c, .int .i64 q] 45)) := hS5.alloc _
                  have hBoW := hBo5.below ((Below.refl _ w5).alloc (Nat.le_refl _) (.cells #[.slice A m c, .int .i64 q] 45))
                  have hob := Two.new w5 45 (.slice A m c) (.int .i64 q)
                  clear hS5 hBo5
                  generalize w5.alloc (.cells #[.slice A m c, .int .i64 q] 45) = W at *
                  generalize w5.heap.size = ob at *
                  have hTwW := hTw.out.save hSW (by omega)
                  have o0 := hob.cell0
                  have o1 := hob.cell1
                  have s0 := hTwW.cell0
                  have s1 := hTwW.cell1
                  have sf0 := hTwW.frozen 0
                  have sf1 := hTwW.frozen 1
                  have hbW := Lib.hid (Below.save hBw.out hSW (fun i hi => by have := hBr0.out.1; omega) (Nat.le_refl _))
                  have hBoW' := Lib.hid hBoW
                  have hTwW' := Lib.hid hTwW
                  clear hSW hob hBoW hTwW t0 t1 c0 c1 c2
                  go_upto_region 18 with fail
                  have hS6 := save_sets (Save.refl (· = w4.heap.size) W) (.slice A m c) (.int .i64 q)
                  have HT6 := Lib.hid (two_sets hTwW'.out (.slice A m c) (.int .i64 q))
                  have HB6 : Hid (Both ((W.setCell ⟨w4.heap.size, 0, none⟩ (.slice A m c)).setCell ⟨w4.heap.size, 1, none⟩ (.int .i64 q)) Br A8 j c8 A m c xs q) := Lib.hid (hBoW'.out.save hS6 (by omega) (fun a ha e => by have := hA8s.out a ha; omega) (fun hp a ha e => by have := hAs.out hp a ha; omega))
                  have HL6 := Lib.hid (Below.save hbW.out hS6 (fun i hi => by have := hBr0.out; omega) (Nat.le_refl _))
                  clear hS6 o0 o1 s0 s1 sf0 sf1
                  generalize (W.setCell ⟨w4.heap.size, 0, none⟩ (.slice A m c)).setCell ⟨w4.heap.size, 1, none⟩ (.int .i64 q) = W6 at *
                  have u0 := HT6.out.cell0
                  have u1 := HT6.out.cell1
                  have hsw6 : w4.heap.size < W6.heap.size := HT6.out.lt
                  have hAt : Hid (∀ w', Below W6.heap.size W6 w' → Calls Try.prog 19 #[.pointer (some ⟨Br, 0, none⟩)] w' fun e w'' => e = .returned (.int .i64 q) ∧ w' = w'') := Lib.hid (fun w' hb' => at_any (HB6.out.below hb').rdr.blk)
                  have hLf : Hid (∀ w', Below W6.heap.size W6 w' → Calls Try.prog 20 #[.pointer (some ⟨Br, 0, none⟩)] w' fun e w'' => e = .returned (.int .i64 ((8 * j - q : Nat) : Int)) ∧ ∃ i, w'' = w'.drewN i) := Lib.hid (fun w' hb' => left_any (HB6.out.below hb').rdr.blk HB6.out.rdr.size HB6.out.rdr.pos)
                  have hEn : Hid (∀ w', Below W6.heap.size W6 w' → Calls Try.prog 22 #[.pointer (some ⟨Br, 0, none⟩)] w' fun e w'' => e = .returned (.int .i64 (endE xs j q)) ∧ Below w'.heap.size w' w'') := Lib.hid (fun w' hb' => end_any (HB6.out.below hb').rdr)
                  have hRe : Hid (∀ w', Below W6.heap.size W6 w' → Calls Try.prog 23 #[.agg #[.slice A m c, .int .i64 q]] w' fun e w'' => e = .returned (.int .i64 (endE xs j q)) ∧ Below w'.heap.size w' w'') := Lib.hid (fun w' hb' => rend_any (HB6.out.below hb').ref HB6.out.len)
                  have hmq : IntKind.i64.wrap ((m : Int) - (q : Int)) = (m : Int) - (q : Int) := IntWalk.i64_in _ (by have := HB6.out.ref.pos; have := HM.out; omega)
                  have hl8 : ((8 * j - q : Nat) : Int) = (m : Int) - (q : Int) := by have := HB6.out.ref.pos; have := HM.out; omega
                  rw [hl8] at hLf
                  clear hl8
                  have hbx : Below W6.heap.size W6 W6 := Below.refl _ _
                  generalize endE xs j q = ee at *
                  go_region_held3 (fun w' => w'.cell? ⟨w4.heap.size, 0, none⟩ = some (.slice A m c) ∧ w'.cell? ⟨w4.heap.size, 1, none⟩ = some (.int .i64 q))
                    (first
                      | go_keep
                      | exact ⟨u0, u1⟩
                      | exact ⟨(hbx9.cell (p := ⟨w4.heap.size, 0, none⟩) hsw6).trans u0, (hbx9.cell (p := ⟨w4.heap.size, 1, none⟩) hsw6).trans u1⟩
                      | exact ⟨(hbx7.cell (p := ⟨w4.heap.size, 0, none⟩) hsw6).trans u0, (hbx7.cell (p := ⟨w4.heap.size, 1, none⟩) hsw6).trans u1⟩)
                    (first
                      | (go_at_call 19; refine (hAt.out _ (by first | exact hbx | exact hbx.drew)).mono ?_; rintro e w7 ⟨rfl, rfl⟩)
                      | (go_at_call 20; refine (hLf.out _ (by first | exact hbx | exact hbx.drew)).mono ?_; rintro e w7 ⟨rfl, di, rfl⟩)
                      | (go_at_call 22; refine (hEn.out _ (by first | exact hbx | exact hbx.drew | exact below_drewN hbx _)).mono ?_; rintro e w7 ⟨rfl, hb7⟩; have hbx7 : Below W6.heap.size W6 w7 := ⟨hb7.os, hb7.tape, hb7.output, hb7.size, hb7.block⟩; clear hb7)
                      | (go_at_call 21; refine (num_any _ _).mono ?_; rintro e w8 ⟨rfl, rfl⟩)
                      | (go_at_call 23; refine (hRe.out _ (by first | exact hbx7 | exact hbx7.drew)).mono ?_; rintro e w9 ⟨rfl, hb9⟩; have hbx9 : Below W6.heap.size W6 w9 := hbx7.trans (Below.mono ⟨hb9.os, hb9.tape, hb9.output, hb9.size, hb9.block⟩ hbx7.size); clear hb9))
                  have HBo9 := Lib.hid (HB6.out.below hbx9)
                  have HT9 := Lib.hid (HT6.out.save (X := fun i => W6.heap.size ≤ i) (Save.of_below hbx9) (by omega))
                  have HL9 := Lib.hid (HL6.out.trans (hbx9.mono HL6.out.size))
                  clear hbx hbx7 hbx9 u0 u1
                  go_wp2_with fail
                  go_roundw
                  case rel => exact ⟨k + 1, q, by omega, by go_num, HBo9, HT9, HL9⟩
                  case measure => simp [intOf]; omega
                · have hSW := save_new hS5 (.slice A m c) (.int .i64 q)
                  have hBoW : Both ((w5.setCell ⟨wr.heap.size, 0, none⟩ (.slice A m c)).setCell ⟨wr.heap.size, 1, none⟩ (.int .i64 q)) Br A8 j c8 A m c xs q := hBo5.save (save_sets (Save.refl (· = wr.heap.size) w5) _ _) (by have := hBr0.out.2; omega) (fun a ha e => by have := hA8s.out a ha; omega) (fun hp a ha e => by have := hAs.out hp a ha; omega)
                  have hob := two_sets hz (.slice A m c) (.int .i64 q)
                  clear hS5 hBo5 hz z0 z1 zf0 zf1
                  generalize (w5.setCell ⟨wr.heap.size, 0, none⟩ (.slice A m c)).setCell ⟨wr.heap.size, 1, none⟩ (.int .i64 q) = W at *
                  have hTwW := hTw.out.save hSW (by omega)
                  have o0 := hob.cell0
                  have o1 := hob.cell1
                  have s0 := hTwW.cell0
                  have s1 := hTwW.cell1
                  have sf0 := hTwW.frozen 0
                  have sf1 := hTwW.frozen 1
                  have hbW := Lib.hid (Below.save hBw.out hSW (fun i hi => by have := hBr0.out.1; omega) (Nat.le_refl _))
                  have hBoW' := Lib.hid hBoW
                  have hTwW' := Lib.hid hTwW
                  clear hSW hob hBoW hTwW t0 t1 c0 c1 c2
                  go_upto_region 18 with fail
                  have hS6 := save_sets (Save.refl (· = w4.heap.size) W) (.slice A m c) (.int .i64 q)
                  have HT6 := Lib.hid (two_sets hTwW'.out (.slice A m c) (.int .i64 q))
                  have HB6 : Hid (Both ((W.setCell ⟨w4.heap.size, 0, none⟩ (.slice A m c)).setCell ⟨w4.heap.size, 1, none⟩ (.int .i64 q)) Br A8 j c8 A m c xs q) := Lib.hid (hBoW'.out.save hS6 (by omega) (fun a ha e => by have := hA8s.out a ha; omega) (fun hp a ha e => by have := hAs.out hp a ha; omega))
                  have HL6 := Lib.hid (Below.save hbW.out hS6 (fun i hi => by have := hBr0.out; omega) (Nat.le_refl _))
                  clear hS6 o0 o1 s0 s1 sf0 sf1
                  generalize (W.setCell ⟨w4.heap.size, 0, none⟩ (.slice A m c)).setCell ⟨w4.heap.size, 1, none⟩ (.int .i64 q) = W6 at *
                  have u0 := HT6.out.cell0
                  have u1 := HT6.out.cell1
                  have hsw6 : w4.heap.size < W6.heap.size := HT6.out.lt
                  have hAt : Hid (∀ w', Below W6.heap.size W6 w' → Calls Try.prog 19 #[.pointer (some ⟨Br, 0, none⟩)] w' fun e w'' => e = .returned (.int .i64 q) ∧ w' = w'') := Lib.hid (fun w' hb' => at_any (HB6.out.below hb').rdr.blk)
                  have hLf : Hid (∀ w', Below W6.heap.size W6 w' → Calls Try.prog 20 #[.pointer (some ⟨Br, 0, none⟩)] w' fun e w'' => e = .returned (.int .i64 ((8 * j - q : Nat) : Int)) ∧ ∃ i, w'' = w'.drewN i) := Lib.hid (fun w' hb' => left_any (HB6.out.below hb').rdr.blk HB6.out.rdr.size HB6.out.rdr.pos)
                  have hEn : Hid (∀ w', Below W6.heap.size W6 w' → Calls Try.prog 22 #[.pointer (some ⟨Br, 0, none⟩)] w' fun e w'' => e = .returned (.int .i64 (endE xs j q)) ∧ Below w'.heap.size w' w'') := Lib.hid (fun w' hb' => end_any (HB6.out.below hb').rdr)
                  have hRe : Hid (∀ w', Below W6.heap.size W6 w' → Calls Try.prog 23 #[.agg #[.slice A m c, .int .i64 q]] w' fun e w'' => e = .returned (.int .i64 (endE xs j q)) ∧ Below w'.heap.size w' w'') := Lib.hid (fun w' hb' => rend_any (HB6.out.below hb').ref HB6.out.len)
                  have hmq : IntKind.i64.wrap ((m : Int) - (q : Int)) = (m : Int) - (q : Int) := IntWalk.i64_in _ (by have := HB6.out.ref.pos; have := HM.out; omega)
                  have hl8 : ((8 * j - q : Nat) : Int) = (m : Int) - (q : Int) := by have := HB6.out.ref.pos; have := HM.out; omega
                  rw [hl8] at hLf
                  clear hl8
                  have hbx : Below W6.heap.size W6 W6 := Below.refl _ _
                  generalize endE xs j q = ee at *
                  go_region_held3 (fun w' => w'.cell? ⟨w4.heap.size, 0, none⟩ = some (.slice A m c) ∧ w'.cell? ⟨w4.heap.size, 1, none⟩ = some (.int .i64 q))
                    (first
                      | go_keep
                      | exact ⟨u0, u1⟩
                      | exact ⟨(hbx9.cell (p := ⟨w4.heap.size, 0, none⟩) hsw6).trans u0, (hbx9.cell (p := ⟨w4.heap.size, 1, none⟩) hsw6).trans u1⟩
                      | exact ⟨(hbx7.cell (p := ⟨w4.heap.size, 0, none⟩) hsw6).trans u0, (hbx7.cell (p := ⟨w4.heap.size, 1, none⟩) hsw6).trans u1⟩)
                    (first
                      | (go_at_call 19; refine (hAt.out _ (by first | exact hbx | exact hbx.drew)).mono ?_; rintro e w7 ⟨rfl, rfl⟩)
                      | (go_at_call 20; refine (hLf.out _ (by first | exact hbx | exact hbx.drew)).mono ?_; rintro e w7 ⟨rfl, di, rfl⟩)
                      | (go_at_call 22; refine (hEn.out _ (by first | exact hbx | exact hbx.drew | exact below_drewN hbx _)).mono ?_; rintro e w7 ⟨rfl, hb7⟩; have hbx7 : Below W6.heap.size W6 w7 := ⟨hb7.os, hb7.tape, hb7.output, hb7.size, hb7.block⟩; clear hb7)
                      | (go_at_call 21; refine (num_any _ _).mono ?_; rintro e w8 ⟨rfl, rfl⟩)
                      | (go_at_call 23; refine (hRe.out _ (by first | exact hbx7 | exact hbx7.drew)).mono ?_; rintro e w9 ⟨rfl, hb9⟩; have hbx9 : Below W6.heap.size W6 w9 := hbx7.trans (Below.mono ⟨hb9.os, hb9.tape, hb9.output, hb9.size, hb9.block⟩ hbx7.size); clear hb9))
                  have HBo9 := Lib.hid (HB6.out.below hbx9)
                  have HT9 := Lib.hid (HT6.out.save (X := fun i => W6.heap.size ≤ i) (Save.of_below hbx9) (by omega))
                  have HL9 := Lib.hid (HL6.out.trans (hbx9.mono HL6.out.size))
                  clear hbx hbx7 hbx9 u0 u1
                  go_wp2_with fail
                  go_roundw
                  case rel => exact ⟨k + 1, q, by omega, by go_num, HBo9, HT9, HL9⟩
                  case measure => simp [intOf]; omega
            · obtain rfl : k = kn := by omega
              clear hlt
              go_wp2_with fail
              refine (works_any _).mono ?_
              rintro e w9 ⟨rfl, hb9⟩
              go_wp2
              go_ret
              exact ⟨rfl, hBw.out.trans (hb9.mono hBw.out.size)⟩
end Go.Proofs.Ytgcgmnopggabaaa
