/-
  The reference of Split. The reference of Split, the loop.
-/
import Derived.Test.YtkdodmjhpkfhnaaDoorRh
namespace Go.Proofs.YtkdodmjhpkfhnaaDoor
/-! ### The reference of Split. -/
section
open Go.RowKit

theorem slice_mid {a : Addr} {n c lo hi : Nat} (h1 : lo ≤ hi) (h2 : hi ≤ n) (h3 : n ≤ c) (h4 : lo < n) (u : World) : (Instr.slice 46 (.slice (some a) n c) (some (.int .i64 (lo : Int))) (some (.int .i64 (hi : Int))) none).run Tryd.prog u = .ok (.slice (some (a.add lo)) (hi - lo) (c - lo)) u := by
  have e1 : ¬ c = lo := by omega
  have e2 : hi ≤ c := by omega
  simp [Instr.slice, Instr.sliceBounds, Instr.sliceBound, run_underlying Tryd.underlying46, asIntOf, go_sem, h1, e1, e2]
/-- Where the reference's Split is. -/
structure RsIn (w : World) (L b5 off5 : Nat) (l : Lay) (xs : List Int) (k : Nat) (A : Option Addr) (c : Nat) (rows : List BRow) (W : World) : Prop where
  fam : Fam w.heap.size (fun _ => False) b5 (ZOwn w.heap.size) W (.slice A k c) k rows
  map : rows.map (·.xs) = (List.range k).map (l.block xs)
  below : Below w.heap.size w W
  lay : LayAt W L 34 l
  szs : Rd .i64 W W.heap.size (some ⟨b5, off5, none⟩) l.blocks (eachL l l.blocks)
  lt5 : b5 < W.heap.size
theorem rs_done {w W W5 : World} {L b5 off5 k c : Nat} {l : Lay} {xs : List Int} {A : Option Addr} {rows : List BRow} {r : BRow} (h : RsIn w L b5 off5 l xs k A c rows W) (hb5 : Below W.heap.size W W5) (hO : ZOwn W.heap.size W5 r) (hx : r.xs = l.block xs k) (hk : k < 13) :
    ∃ A2 c2 w6, (Builtin.append_ #[48, 48] 48 #[.slice A k c, .slice (some ⟨W5.heap.size, 0, none⟩) 1 1]).run Tryd.prog (W5.alloc (.cells #[hdr r] 46)) = .ok (.slice A2 (k + 1) c2) w6 ∧
      RsIn w L b5 off5 l xs (k + 1) A2 c2 (rows ++ [r]) w6 := by
  have hs := hb5.size
  have hw := h.below.size
  have hF5 : Fam w.heap.size (fun _ => False) b5 (ZOwn w.heap.size) W5 (.slice A k c) k rows := h.fam.keep (ZOwn.abides _) (fun j o ho _ _ _ => (hb5.block j (Array.getElem?_eq_some_iff.1 ho).1).trans ho) hs
  have hra : ∀ a, r.a = some a → W.heap.size ≤ a.block ∧ ∃ o, W5.heap[a.block]? = some o ∧ o.isCells = true := fun a ha => by
    rcases hO.2 with ⟨hv, _⟩ | ⟨g, cap, cur, hv, hg, hh, _⟩
    · unfold hdr at hv
      injection hv with hv _ _
      rw [hv] at ha
      cases ha
    · unfold hdr at hv
      injection hv with hv _ _
      rw [hv] at ha
      injection ha with ha
      subst ha
      exact ⟨hg, _, hh, rfl⟩
  have hold : ∀ s ∈ rows, ∀ b, s.a = some b → b.block < W.heap.size := fun s hsr b hb => by
    obtain ⟨o, ho, _⟩ := (h.fam.row s hsr).cells b hb
    exact (Array.getElem?_eq_some_iff.1 ho).1
  have hout : ∀ g, (Value.slice A k c).ownBlock = some g → w.heap.size ≤ g ∧ g < W.heap.size := fun g hg => by
    rcases h.fam.own.2 with ⟨hv, _⟩ | ⟨g', cap, cur, hv, hg', hh, _⟩
    · rw [hv] at hg; cases hg
    · rw [hv] at hg
      injection hg with hg
      simp only at hg
      subst hg
      exact ⟨hg', (Array.getElem?_eq_some_iff.1 hh).1⟩
  have hlt5 := h.lt5
  obtain ⟨A2, c2, w6, h1, h2, h3⟩ := hF5.append (r := r) (ZOwn.abides _) ⟨World.ownsRow.mono hO hw, fun a ha => (hra a ha).2, fun a ha => .inr (fun x => x), fun a ha e => by have := (hra a ha).1; omega⟩
    (fun a ha => .inr (fun s hsr b hb => by have := hold s hsr b hb; have := (hra a ha).1; omega)) (fun a ha e => by have := (hout a.block e).2; have := (hra a ha).1; omega) (by omega) (by omega) (by omega)
  refine ⟨A2, c2, w6, h1, h2, ?_, ?_, ?_, ?_, ?_⟩
  · rw [List.map_append, h.map, List.range_succ, List.map_append, List.map_singleton, List.map_singleton, hx]
  · exact ((h.below.trans (hb5.mono hw)).alloc (by omega) _).grown h3 (by rw [World.size_alloc]; omega) (fun g hg => (hout g hg).1)
  · refine LayAt.grown ((h.lay.below hb5 h.lay.lt).alloc _) h3 ?_
    exact (h.lay.below hb5 h.lay.lt).not_row (e := 46) (by decide) hF5.own
  · have hR := h.szs.step hb5
    have h36 := h3.size
    rw [World.size_alloc] at h36
    refine (hR.block0 (w' := w6) (fun _ a ha => ?_)).more (by omega)
    obtain rfl : (⟨b5, off5, none⟩ : Addr) = a := Option.some.inj ha
    exact (h3.block b5 (by rw [World.size_alloc]; omega) (fun e => h.fam.outerC e.symm)).trans (Below.heap_alloc _ _ _ (by omega))
  · have := h3.size
    rw [World.size_alloc] at this
    omega
end

/-! ### The reference of Split, the loop. -/
section
open Go.RowKit

structure RsAt (w : World) (L b5 off5 : Nat) (l : Lay) (xs : List Int) (o t i : Value) (W : World) : Prop where
  ex : ∃ (k : Nat) (A : Option Addr) (c : Nat) (rows : List BRow), k ≤ l.blocks ∧ i = .int .i64 (k : Int) ∧ t = .int .i64 ((l.off k : Nat) : Int) ∧ o = .slice A k c ∧ RsIn w L b5 off5 l xs k A c rows W
set_option maxRecDepth 100000 in
set_option maxHeartbeats 4000000 in
theorem refSplit_ok {A : Option Addr} {n c : Nat} {xs : List Int} {w : World} (hI : Rd .u8 w w.heap.size A n xs) (hc : n ≤ c) (hx : Byte xs) (h1 : 1 ≤ n) (h2 : n ≤ 79560) (hv : validB xs = true) :
    Calls Tryd.prog 25 #[.slice A n c] w (RetRows w (splitL xs, 0)) := by
  have hlen := hI.len
  have hps : planS (n : Int) = (planN n, 0) := by unfold planS; rw [if_neg (by omega), Int.toNat_natCast]
  obtain ⟨hok, hbits⟩ := planN_ok h1 h2
  have hpl := Lib.hid (fun (u : World) => refPlan_any (b := (n : Int)) (w := u))
  rw [hps] at hpl
  have hea := Lib.hid (fun (u : World) => refEach_any (b := (n : Int)) (w := u) hps hok.blocks1)
  have hsp : Hid (splitL xs = (List.range (planN n).blocks).map ((planN n).block xs)) := Lib.hid (by unfold splitL; rw [hlen])
  have hbv : Bits xs := validB_bits hx hv
  obtain ⟨l, hl⟩ : ∃ l, planN n = l := ⟨_, rfl⟩
  rw [hl] at hpl hok hbits hea hsp
  have hri := Lib.hid (fun (u : World) (h : Below w.heap.size w u) => right_any (c := c) (hI.step h) (by omega))
  rw [hv] at hri
  have HBT := Lib.hid hbits
  have HLX := Lib.hid hlen
  clear hl hps hv hbits hlen
  unfold layV layA at hpl
  go_enter Tryd.func25, Tryd.ntmps25
  go_wp2_with fail
  refine (hpl.out _).mono ?_
  rintro e w1 ⟨rfl, hb1⟩
  have hL := LayAt.new w1 34 l
  have hb2 := hb1.alloc hb1.size (.cells (layA l) 34)
  unfold layA at hb2 hL
  go_wp2_with fail
  generalize (w1.alloc (.cells #[.int .i64 l.bits, .int .i64 l.blocks, .int .i64 l.long, .int .i64 l.short, .int .i64 l.longs, .int .i64 l.shorts, .int .i64 l.filler] 34)) = W1 at *
  refine (hri.out _ hb2).mono ?_
  rintro e w3 ⟨rfl, rfl⟩
  go_wp2_with fail
  refine (hea.out _).mono ?_
  rintro e w5 ⟨A5, c5, rfl, ho5, hb5⟩
  have hr5 := Rd.of_own ho5
  have hL5 := hL.below hb5 hL.lt
  have hbw5 := hb2.trans (hb5.mono hb2.size)
  obtain ⟨b5, off5, rfl, hlt5, _⟩ := hr5.cells 0 (by have := hok.blocks0; omega)
  clear hpl hea hri ho5 hb5 hb2 hb1 hL
  go_wp2_with fail
  go_loopw [7, 8, 9] (fun o t i W => RsAt w w1.heap.size b5 off5 l xs o t i W) (fun _ _ i _ => l.blocks - (intOf i).toNat)
  case atStart => exact ⟨⟨0, none, 0, [], Nat.zero_le _, rfl, rfl, rfl, ⟨⟨rfl, by simpa using World.ownsRow_nil w5 w.heap.size 46 1, by simp, by simp, by simp [Value.ownBlock], by simp⟩, rfl, hbw5, hL5, hr5, hlt5⟩⟩⟩
  case round =>
    obtain ⟨⟨k, A', c', rows, hk, rfl, rfl, rfl, hR⟩⟩ := hrel
    by_cases hkb : k < l.blocks
    · obtain ⟨c0, c1, c2, c3, c4, c5', c6⟩ := hR.lay.all
      obtain ⟨b6, off6, hb6, _, hcz⟩ := hR.szs.cells k hkb
      have hbe : (⟨b5, off5, none⟩ : Addr) = ⟨b6, off6, none⟩ := Option.some.inj hb6
      injection hbe with hbe1 hbe2
      subst hbe1 hbe2
      have hel : (eachL l l.blocks)[k]?.getD 0 = (l.size k : Int) := by unfold eachL; rw [List.getElem?_map, List.getElem?_range hkb]; rfl
      rw [hel] at hcz
      have hroom := hok.room hkb
      have hoff := hok.off_le (i := k + 1) (by omega)
      have hOE : l.off (k + 1) = l.off k + l.data k := rfl
      rw [HBT.out] at hoff
      have hsz := hok.size_le k
      obtain ⟨ba, offa, rfl, hba, _⟩ := hI.cells 0 (by omega)
      have hbl := hR.below
      have hIr := hI.below hbl
      have hsl := slice_mid (a := ⟨ba, offa, none⟩) (n := n) (c := c) (lo := l.off k) (hi := l.off (k + 1)) (by omega) (by omega) hc (by omega)
      have hRc : ∀ u, Below w.heap.size w u → Rd .u8 u u.heap.size (some ((⟨ba, offa, none⟩ : Addr).add (l.off k))) (l.off (k + 1) - l.off k) ((xs.drop (l.off k)).take (l.data k)) := fun u hu => by
        have := Rd.cut (hI.step hu) (lo := l.off k) (hi := l.off (k + 1)) (cap := c) (by omega) (by omega) hc
        rw [if_neg (by omega), show l.off (k + 1) - l.off k = l.data k by omega] at this
        rw [show l.off (k + 1) - l.off k = l.data k by omega]
        exact this
      have hpb : Bits (l.part xs k) := (zerosI_bits _).append (fun x hx2 => hbv x (List.mem_of_mem_drop (List.mem_of_mem_take hx2)))
      have hpl2 : (l.part xs k).length = l.fill k + l.data k := by unfold Lay.part; rw [List.length_append, zerosI_length, List.length_take, List.length_drop, HLX.out]; omega
      have hds : l.off (k + 1) - l.off k = l.data k := by omega
      rw [hds] at hsl hRc
      have HR := Lib.hid hR
      have hr13 : k < 13 := by have := hok.blocks1; omega
      obtain ⟨E, hE⟩ : ∃ E, l.off (k + 1) = E := ⟨_, rfl⟩
      obtain ⟨O, hO⟩ : ∃ O, l.off k = O := ⟨_, rfl⟩
      obtain ⟨d, hd⟩ : ∃ d, l.data k = d := ⟨_, rfl⟩
      obtain ⟨S, hS⟩ : ∃ S, l.size k = S := ⟨_, rfl⟩
      have HE := Lib.hid hE
      have HO := Lib.hid hO
      have HD := Lib.hid hd
      have HSz := Lib.hid hS
      have HOK := Lib.hid hok
      have HPB := Lib.hid hpb
      have hpart : Hid (zerosI (l.fill k) ++ (xs.drop O).take d = l.part xs k) := Lib.hid (by unfold Lay.part; rw [hO, hd])
      rw [hE] at hsl hoff hOE hds
      rw [hO] at hsl hOE hds
      rw [hd] at hsl hOE hds
      simp only [hO, hd, Addr.add_lit] at hRc
      simp only [Addr.add_lit] at hsl
      rw [hd] at hroom hpl2
      rw [hS] at hcz hroom hsz
      rw [hO]
      clear hel hIr hba hE hO hd hS
      by_cases hk0 : k = 0
      · by_cases hone : l.blocks = 1
        · subst hk0
          rw [show ((0 : Nat) : Int) = 0 from rfl]
          rw [Nat.add_zero] at hcz
          have hfl : l.fill 0 = l.filler := rfl
          obtain ⟨F, hF⟩ : ∃ F, l.filler = F := ⟨_, rfl⟩
          rw [hfl, hF] at hroom hpart hpl2
          rw [hF] at c6
          have hF64 : F < 64 := by have := hok.filler; omega
          have hmk := make_bytes F F (Nat.le_refl _) (by omega)
          have own0 := own_zeros (w := wr) (B := wr.heap.size) (n := F) (m := F) (Nat.le_refl _) (by omega) (Nat.le_refl _)
          have hb0 := (Below.refl wr.heap.size wr).alloc (Nat.le_refl _) (.cells (madeCells #[.int .u8 0] F) 5)
          have hs0 : wr.heap.size ≤ (wr.alloc (.cells (madeCells #[.int .u8 0] F) 5)).heap.size := by rw [World.size_alloc]; omega
          have hLm := hR.lay.alloc (.cells (madeCells #[.int .u8 0] F) 5)
          obtain ⟨_, m1, _⟩ := hLm.all
          have hk1 : (0 : Int) < (l.blocks : Int) := by omega
          obtain ⟨A2, c2, w2, hrun1, own2, hbb⟩ := more_run (c' := c - O) own0 (hRc _ (hbl.trans (hb0.mono hbl.size))) (by omega) (by omega) hs0
          have hb2 : Below wr.heap.size wr w2 := hbb _ _ hb0 (Nat.le_refl _) (Nat.le_refl _)
          have HR1 := Lib.hid hrun1
          rw [show List.replicate F (0 : Int) ++ (xs.drop O).take d = l.part xs 0 from hpart.out] at own2
          have hcs : l.cs = 0 := by unfold Lay.cs; rw [if_pos hone]
          rw [hcs] at hroom
          have hblk : l.part xs 0 = l.block xs 0 := by unfold Lay.block; rw [if_pos hone]
          obtain ⟨A4, c4', w6, hrun3, hRs⟩ := rs_done (r := ⟨A2, F + d, c2, l.part xs 0⟩) hR hb2 own2 hblk hr13
          have hT1 : (S : Int) - (F : Int) = (d : Int) := by omega
          have hOE2 : (O : Int) + (d : Int) = (E : Int) := by omega
          have HRR := Lib.hid hR
          have hS2 : S ≤ 6144 := by omega
          have hd1 : d ≤ 6144 := by omega
          have hO1 : O ≤ 100000 := by omega
          unfold hdr at hrun3
          have HR3 := Lib.hid hrun3
          have hL2 := hR.lay.below hb2 hR.lay.lt
          obtain ⟨_, n1, _⟩ := hL2.all
          have HRS := Lib.hid hRs
          have hone1 : (l.blocks : Int) = 1 := by omega
          clear hrun1 hrun3 hRs hRc hpl2 own2 own0 hb2 hbb hb0 hoff hOE hone hR hF
          simp only [hone1] at c1 hk1 m1 n1
          clear hroom hcs hpart hds hsz hS2
          have HBK := Lib.hid hblk
          clear hblk
          go_wp2_with (at_builtin; first | (refine Lib.wpList_append_run _ rfl _ _ _ _ rfl _ _ rfl rfl _ _ HR1.out ?_) | (refine Lib.wpList_append_run _ rfl _ _ _ _ rfl _ _ rfl rfl _ _ HR3.out ?_))
          go_roundw
          case rel => first | exact ⟨_, _, _, ⟨⟨0 + 1, A4, c4', _, hkb, rfl, congrArg (fun z : Nat => Value.int .i64 (z : Int)) HE.out.symm, rfl, HRS.out⟩⟩, rfl, rfl, rfl⟩ | exact ⟨⟨0 + 1, A4, c4', _, hkb, rfl, congrArg (fun z : Nat => Value.int .i64 (z : Int)) HE.out.symm, rfl, HRS.out⟩⟩ | (trace_state; fail)
          case measure => simp [intOf]; omega
        · subst hk0
          rw [show ((0 : Nat) : Int) = 0 from rfl]
          rw [Nat.add_zero] at hcz
          have hfl : l.fill 0 = l.filler := rfl
          obtain ⟨F, hF⟩ : ∃ F, l.filler = F := ⟨_, rfl⟩
          rw [hfl, hF] at hroom hpart hpl2
          rw [hF] at c6
          have hF64 : F < 64 := by have := hok.filler; omega
          have hmk := make_bytes F F (Nat.le_refl _) (by omega)
          have own0 := own_zeros (w := wr) (B := wr.heap.size) (n := F) (m := F) (Nat.le_refl _) (by omega) (Nat.le_refl _)
          have hb0 := (Below.refl wr.heap.size wr).alloc (Nat.le_refl _) (.cells (madeCells #[.int .u8 0] F) 5)
          have hs0 : wr.heap.size ≤ (wr.alloc (.cells (madeCells #[.int .u8 0] F) 5)).heap.size := by rw [World.size_alloc]; omega
          have hLm := hR.lay.alloc (.cells (madeCells #[.int .u8 0] F) 5)
          obtain ⟨_, m1, _⟩ := hLm.all
          have hk1 : (0 : Int) < (l.blocks : Int) := by omega
          obtain ⟨A2, c2, w2, hrun1, own2, hbb⟩ := more_run (c' := c - O) own0 (hRc _ (hbl.trans (hb0.mono hbl.size))) (by omega) (by omega) hs0
          have hb2 : Below wr.heap.size wr w2 := hbb _ _ hb0 (Nat.le_refl _) (Nat.le_refl _)
          have HR1 := Lib.hid hrun1
          rw [show List.replicate F (0 : Int) ++ (xs.drop O).take d = l.part xs 0 from hpart.out] at own2
          have hcs : l.cs = 24 := by unfold Lay.cs; rw [if_neg hone]
          rw [hcs] at hroom
          have hblk : l.part xs 0 ++ crcI 2 (l.part xs 0) = l.block xs 0 := by unfold Lay.block; rw [if_neg hone]
          have hck := Lib.hid (refCheck_any (c := c2) (Rd.of_own own2) (by omega) hpb)
          have hcon := Lib.hid (fun (w3 : World) (A3 : Option Addr) (c3 : Nat) (h3 : w3.ownsRow w2.heap.size 5 1 (.slice A3 24 c3) 24 ((crcI 2 (l.part xs 0)).map (Value.int .u8))) (hb3 : Below w2.heap.size w2 w3) => more_run (c' := c3) (ownsRow_save (X := fun _ => False) own2 (Save.of_below hb3) (fun g _ h => h)) (Rd.of_own h3) (by omega) (by decide) (Nat.le_trans hb2.size hb3.size))
          obtain ⟨T, hT⟩ : ∃ T, S - F = T := ⟨_, rfl⟩
          have hT1 : (S : Int) - (F : Int) = (T : Int) := by omega
          have hT2 : (T : Int) - 24 = (d : Int) := by omega
          have hgt : (1 : Int) < (l.blocks : Int) := by have := hok.blocks0; omega
          have hOE2 : (O : Int) + (d : Int) = (E : Int) := by omega
          have HRR := Lib.hid hR
          have hS2 : S ≤ 6144 := by omega
          have hd1 : d ≤ 6144 := by omega
          have hO1 : O ≤ 100000 := by omega
          have HB2 := Lib.hid hb2
          have hL2 := hR.lay.below hb2 hR.lay.lt
          obtain ⟨_, n1, _⟩ := hL2.all
          clear hrun1 hRc hpl2 own2 own0 hb2 hbb hb0 hoff hOE hone hR hF
          clear hroom hcs hpart hds hsz hS2
          have HBK := Lib.hid hblk
          clear hblk
          go_wp2_with (at_builtin; refine Lib.wpList_append_run _ rfl _ _ _ _ rfl _ _ rfl rfl _ _ HR1.out ?_)
          refine hck.out.mono ?_
          rintro e w4 ⟨A3, c3, rfl, own3, hb3⟩
          obtain ⟨A5, c5', w7, hrunB, ownB, hbb⟩ := hcon.out _ _ _ own3 hb3
          have hb7 : Below wr.heap.size wr w7 := hbb _ _ (HB2.out.trans (hb3.mono HB2.out.size)) (Nat.le_refl _) (Nat.le_refl _)
          obtain ⟨A4, c4', w6, hrun3, hRs⟩ := rs_done (r := ⟨A5, F + d + 24, c5', l.part xs 0 ++ crcI 2 (l.part xs 0)⟩) HRR.out hb7 ownB HBK.out hr13
          unfold hdr at hrun3
          have HR3 := Lib.hid hrun3
          have HRB := Lib.hid hrunB
          have HRS := Lib.hid hRs
          clear hrun3 hrunB hRs ownB own3 hbb hb7 hb3
          go_wp2_with (at_builtin; first | (refine Lib.wpList_append_run _ rfl _ _ _ _ rfl _ _ rfl rfl _ _ HRB.out ?_) | (refine Lib.wpList_append_run _ rfl _ _ _ _ rfl _ _ rfl rfl _ _ HR3.out ?_))
          go_roundw
          case rel => first | exact ⟨_, _, _, ⟨⟨0 + 1, A4, c4', _, hkb, rfl, congrArg (fun z : Nat => Value.int .i64 (z : Int)) HE.out.symm, rfl, HRS.out⟩⟩, rfl, rfl, rfl⟩ | exact ⟨⟨0 + 1, A4, c4', _, hkb, rfl, congrArg (fun z : Nat => Value.int .i64 (z : Int)) HE.out.symm, rfl, HRS.out⟩⟩ | (trace_state; fail)
          case measure => simp [intOf]; omega
      · have hone : ¬ l.blocks = 1 := by omega
        have hfl : l.fill k = 0 := by unfold Lay.fill; rw [if_neg hk0]
        obtain ⟨F, hF⟩ : ∃ F : Nat, F = 0 := ⟨_, rfl⟩
        rw [hfl] at hroom hpart hpl2
        have hF64 : F < 64 := by omega
        have own0 : wr.ownsRow wr.heap.size 5 1 (.slice none 0 0) 0 (([] : List Int).map (Value.int .u8)) := by simpa using World.ownsRow_nil wr wr.heap.size 5 1
        have hb0 := Below.refl wr.heap.size wr
        have hs0 := Nat.le_refl wr.heap.size
        have hk1 : (k : Int) < (l.blocks : Int) := by omega
        have hk2 : ((k : Int) == 0) = false := by simp; omega
        have hk3 : (0 : Int) ≤ (k : Int) := by omega
        obtain ⟨A2, c2, w2, hrun1, own2, hbb⟩ := more_run (c' := c - O) own0 (hRc _ (hbl.trans (hb0.mono hbl.size))) (by omega) (by omega) hs0
        rw [Nat.zero_add] at hrun1 own2
        have hb2 : Below wr.heap.size wr w2 := hbb _ _ hb0 (Nat.le_refl _) (Nat.le_refl _)
        have HR1 := Lib.hid hrun1
        rw [show ([] : List Int) ++ (xs.drop O).take d = l.part xs k from hpart.out] at own2
        have hcs : l.cs = 24 := by unfold Lay.cs; rw [if_neg hone]
        rw [hcs] at hroom
        have hblk : l.part xs k ++ crcI 2 (l.part xs k) = l.block xs k := by unfold Lay.block; rw [if_neg hone]
        have hck := Lib.hid (refCheck_any (c := c2) (Rd.of_own own2) (by omega) hpb)
        have hcon := Lib.hid (fun (w3 : World) (A3 : Option Addr) (c3 : Nat) (h3 : w3.ownsRow w2.heap.size 5 1 (.slice A3 24 c3) 24 ((crcI 2 (l.part xs k)).map (Value.int .u8))) (hb3 : Below w2.heap.size w2 w3) => more_run (c' := c3) (ownsRow_save (X := fun _ => False) own2 (Save.of_below hb3) (fun g _ h => h)) (Rd.of_own h3) (by omega) (by decide) (Nat.le_trans hb2.size hb3.size))
        have hT2 : (S : Int) - 24 = (d : Int) := by omega
        have hgt : (1 : Int) < (l.blocks : Int) := by have := hok.blocks0; omega
        have hOE2 : (O : Int) + (d : Int) = (E : Int) := by omega
        have HRR := Lib.hid hR
        have hS2 : S ≤ 6144 := by omega
        have hd1 : d ≤ 6144 := by omega
        have hO1 : O ≤ 100000 := by omega
        have HB2 := Lib.hid hb2
        have hL2 := hR.lay.below hb2 hR.lay.lt
        obtain ⟨_, n1, _⟩ := hL2.all
        clear hrun1 hRc hpl2 own2 own0 hb2 hbb hb0 hoff hOE hone hR hF
        clear hroom hcs hpart hds hsz hS2
        have HBK := Lib.hid hblk
        clear hblk
        go_wp2_with (at_builtin; refine Lib.wpList_append_run _ rfl _ _ _ _ rfl _ _ rfl rfl _ _ HR1.out ?_)
        refine hck.out.mono ?_
        rintro e w4 ⟨A3, c3, rfl, own3, hb3⟩
        obtain ⟨A5, c5', w7, hrunB, ownB, hbb⟩ := hcon.out _ _ _ own3 hb3
        have hb7 : Below wr.heap.size wr w7 := hbb _ _ (HB2.out.trans (hb3.mono HB2.out.size)) (Nat.le_refl _) (Nat.le_refl _)
        obtain ⟨A4, c4', w6, hrun3, hRs⟩ := rs_done (r := ⟨A5, d + 24, c5', l.part xs k ++ crcI 2 (l.part xs k)⟩) HRR.out hb7 ownB HBK.out hr13
        unfold hdr at hrun3
        have HR3 := Lib.hid hrun3
        have HRB := Lib.hid hrunB
        have HRS := Lib.hid hRs
        clear hrun3 hrunB hRs ownB own3 hbb hb7 hb3
        go_wp2_with (at_builtin; first | (refine Lib.wpList_append_run _ rfl _ _ _ _ rfl _ _ rfl rfl _ _ HRB.out ?_) | (refine Lib.wpList_append_run _ rfl _ _ _ _ rfl _ _ rfl rfl _ _ HR3.out ?_))
        go_roundw
        case rel => first | exact ⟨_, _, _, ⟨⟨k + 1, A4, c4', _, hkb, by go_num, congrArg (fun z : Nat => Value.int .i64 (z : Int)) HE.out.symm, rfl, HRS.out⟩⟩, rfl, rfl, rfl⟩ | exact ⟨⟨k + 1, A4, c4', _, hkb, by go_num, congrArg (fun z : Nat => Value.int .i64 (z : Int)) HE.out.symm, rfl, HRS.out⟩⟩ | (trace_state; fail)
        case measure => simp [intOf]; omega
    · obtain rfl : k = l.blocks := by omega
      have hfam := Lib.hid hR.fam
      have hmap := Lib.hid hR.map
      have hbl := Lib.hid hR.below
      clear hR hkb hk
      go_wp2_with fail
      go_ret2
      have hln : (splitL xs).length = l.blocks := by rw [hsp.out]; simp
      refine ⟨A', c', rows, ?_, ?_, ?_⟩
      · simp only [hln]; rfl
      · simp only [hln]; exact OwnRows.of_fam hfam.out (fun j _ => rfl) hbl.out (Nat.le_refl _)
      · rw [hmap.out, hsp.out]
set_option maxRecDepth 100000 in
set_option maxHeartbeats 1000000 in
theorem refSplit_arg {A : Option Addr} {n c : Nat} {w : World} (h : n < 1 ∨ 79560 < n) :
    Calls Tryd.prog 25 #[.slice A n c] w (RetRows w ([], 2)) := by
  have hn := Lib.hid (fun (u : World) => refPlan_no (b := (n : Int)) (w := u) (by omega))
  unfold layV layA zeroLay at hn
  clear h
  go_enter Tryd.func25, Tryd.ntmps25
  go_wp2_with fail
  refine (hn.out _).mono ?_
  rintro e w1 ⟨rfl, hb1⟩
  have hb2 := hb1.alloc hb1.size (.cells (layA zeroLay) 34)
  go_wp2_with fail
  go_ret2
  exact ⟨none, 0, [], rfl, OwnRows.nil hb2, rfl⟩
set_option maxRecDepth 100000 in
set_option maxHeartbeats 1000000 in
theorem refSplit_bit {A : Option Addr} {n c : Nat} {xs : List Int} {w : World} (hI : Rd .u8 w w.heap.size A n xs) (h1 : 1 ≤ n) (h2 : n ≤ 79560) (hv : validB xs = false) :
    Calls Tryd.prog 25 #[.slice A n c] w (RetRows w ([], 3)) := by
  have hps : planS (n : Int) = (planN n, 0) := by unfold planS; rw [if_neg (by omega), Int.toNat_natCast]
  have hpl := Lib.hid (fun (u : World) => refPlan_any (b := (n : Int)) (w := u))
  rw [hps] at hpl
  have hri := Lib.hid (fun (u : World) (h : Below w.heap.size w u) => right_any (c := c) (hI.step h) (by omega))
  rw [hv] at hri
  generalize planN n = l at *
  clear hps hv hI
  unfold layV layA at hpl
  go_enter Tryd.func25, Tryd.ntmps25
  go_wp2_with fail
  refine (hpl.out _).mono ?_
  rintro e w1 ⟨rfl, hb1⟩
  have hb2 := hb1.alloc hb1.size (.cells (layA l) 34)
  unfold layA at hb2
  go_wp2_with fail
  refine (hri.out _ hb2).mono ?_
  rintro e w3 ⟨rfl, rfl⟩
  go_wp2_with fail
  go_ret2
  exact ⟨none, 0, [], rfl, OwnRows.nil hb2, rfl⟩
theorem refSplit_any {A : Option Addr} {n c : Nat} {xs : List Int} {w : World} (hI : Rd .u8 w w.heap.size A n xs) (hc : n ≤ c) (hx : Byte xs) :
    Calls Tryd.prog 25 #[.slice A n c] w (RetRows w (splitS xs)) := by
  have hl := hI.len
  unfold splitS
  split
  · rename_i h; exact refSplit_arg (by omega)
  · rename_i h
    split
    · rename_i hv; exact refSplit_bit hI (by omega) (by omega) hv
    · rename_i hv; exact refSplit_ok hI hc hx (by omega) (by omega) (by simpa using hv)
end
end Go.Proofs.YtkdodmjhpkfhnaaDoor
