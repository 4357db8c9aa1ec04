/-
  checksum: what it returns; what was there stays.
-/
import Derived.Test.YtkdodmjhpkfhnaaDoorK5
namespace Go.Proofs.YtkdodmjhpkfhnaaDoor
open Go.RowKit Go.Shelf BigFrame

attribute [local go_sem] Oper.semAt_some

set_option maxRecDepth 100000 in
set_option maxHeartbeats 4000000 in
theorem checksum_in (n : Nat) (hn : 3 ≤ n) (A : Option Addr) (len cap : Nat) (k : Int) (xs : List Int) (L G GEN : Nat) (hLG : (L = 24 ∧ G = 8801531 ∧ GEN = 25578747) ∨ (L = 24 ∧ G = 8388707 ∧ GEN = 25165923) ∨ (L = 16 ∧ G = 4129 ∧ GEN = 69665) ∨ (L = 8 ∧ G = 155 ∧ GEN = 411)) (hk : genN k = (G, L)) (hx : Bits xs) (hreach : len ≤ 140737488351232) (w : World) (hI : Rd .u8 w w.heap.size A len xs) :
    CallsIn Fence.wide n Tryd.prog 66 #[.agg #[.int .i64 (L : Nat), .int .u32 (G : Nat)], .slice A len cap] w fun e W' => (∃ A2 c2, e = .returned (.slice A2 L c2) ∧
      W'.ownsRow w.heap.size 5 1 (.slice A2 L c2) L ((crcI k xs).map (Value.int .u8))) ∧ Below w.heap.size w W' := by
  have h1 : 1 ≤ n := by omega
  have HK := Lib.hid hk; clear hk
  rcases hLG with ⟨rfl, rfl, rfl⟩ | ⟨rfl, rfl, rfl⟩ | ⟨rfl, rfl, rfl⟩ | ⟨rfl, rfl, rfl⟩
  · refine callsIn_of_wp_marks Tryd.func66 rfl trivial ?_ rfl
    simp only [Tryd.ntmps66, List.size_toArray, List.length_cons, List.length_nil, Nat.reduceAdd, Nat.reduceSub, Array.replicate_succ, Array.replicate_zero, List.push_toArray, List.append_toArray, List.nil_append, List.cons_append]
    gi_wp2
    refine wpIn_wide.2 ?_
    have p0 : (w.alloc (.cells #[.int .i64 24, .int .u32 8801531] 95)).cell? ⟨w.heap.size, 0, none⟩ = some (.int .i64 24) := (Two.new w _ _ _).cell0
    have p1 : (w.alloc (.cells #[.int .i64 24, .int .u32 8801531] 95)).cell? ⟨w.heap.size, 1, none⟩ = some (.int .u32 8801531) := (Two.new w _ _ _).cell1
    go_region_held3 (fun w' => w'.cell? ⟨w.heap.size, 0, none⟩ = some (.int .i64 24) ∧ w'.cell? ⟨w.heap.size, 1, none⟩ = some (.int .u32 8801531)) (first | go_keep) (first | fail)
    rename_i hHeld
    clear hHeld p0 p1
    rw [show bits BinOp.or IntKind.u32 (IntKind.u32.wrap 16777216) 8801531 = 25578747 from by decide]
    have bP := Two.new w 95 (.int .i64 24) (.int .u32 8801531)
    have bG := Boxed.new (w.alloc (.cells #[.int .i64 24, .int .u32 8801531] 95)) 73 (.int .u32 25578747)
    rw [World.size_alloc] at bG
    have hb2 : Below w.heap.size w (((w.alloc (.cells #[.int .i64 24, .int .u32 8801531] 95)).alloc (.cells #[.int .u32 25578747] 73)).drew) := (((Below.refl _ w).alloc (Nat.le_refl _) _).alloc (by simp) _).drew
    have hs2 : (((w.alloc (.cells #[.int .i64 24, .int .u32 8801531] 95)).alloc (.cells #[.int .u32 25578747] 73)).drew).heap.size = w.heap.size + 2 := by simp [World.drew]
    have bP2 : Two (((w.alloc (.cells #[.int .i64 24, .int .u32 8801531] 95)).alloc (.cells #[.int .u32 25578747] 73)).drew) w.heap.size 95 (.int .i64 24) (.int .u32 8801531) := bP.alloc _
    have bG2 : Boxed (((w.alloc (.cells #[.int .i64 24, .int .u32 8801531] 95)).alloc (.cells #[.int .u32 25578747] 73)).drew) (w.heap.size + 1) 73 (.int .u32 25578747) := bG
    generalize (((w.alloc (.cells #[.int .i64 24, .int .u32 8801531] 95)).alloc (.cells #[.int .u32 25578747] 73)).drew) = w2 at *
    clear bP bG
    have p0 := bP2.cell0
    gi_wp2_with (refine ⟨trivial, ?_⟩; gi_at_call 71; refine (dividend_in (n - 1) _ _ _ _ _).mono ?_; rintro e w' ⟨rfl, rfl⟩)
    have bR := Boxed.new w2 73 (.int .u32 0)
    have bS := Boxed.new (w2.alloc (.cells #[.int .u32 0] 73)) 46 (.slice A len cap)
    have bZ := Boxed.new ((w2.alloc (.cells #[.int .u32 0] 73)).alloc (.cells #[.slice A len cap] 46)) 3 (.int .i64 24)
    rw [World.size_alloc, hs2] at bS
    rw [World.size_alloc, World.size_alloc, hs2] at bZ
    rw [hs2] at bR
    have bR' := (bR.alloc (.cells #[.slice A len cap] 46)).alloc (.cells #[.int .i64 24] 3)
    have bS' := bS.alloc (.cells #[.int .i64 24] 3)
    have bP' := ((bP2.alloc (.cells #[.int .u32 0] 73)).alloc (.cells #[.slice A len cap] 46)).alloc (.cells #[.int .i64 24] 3)
    have bG' := ((bG2.alloc (.cells #[.int .u32 0] 73)).alloc (.cells #[.slice A len cap] 46)).alloc (.cells #[.int .i64 24] 3)
    have hb' : Below w.heap.size w (((w2.alloc (.cells #[.int .u32 0] 73)).alloc (.cells #[.slice A len cap] 46)).alloc (.cells #[.int .i64 24] 3)) := ((hb2.alloc (by omega) _).alloc (by simp; omega) _).alloc (by simp; omega) _
    have hs' : (((w2.alloc (.cells #[.int .u32 0] 73)).alloc (.cells #[.slice A len cap] 46)).alloc (.cells #[.int .i64 24] 3)).heap.size = w.heap.size + 5 := by simp; omega
    generalize (((w2.alloc (.cells #[.int .u32 0] 73)).alloc (.cells #[.slice A len cap] 46)).alloc (.cells #[.int .i64 24] 3)) = w5 at *
    clear bR bS hb2 hs2 bP2 bG2 p0
    refine wpIn_rangeFunc_ownG rfl h1 (gf := 73) (lb := #[.pointer (some ⟨w.heap.size + 2 + 1, 0, none⟩), .pointer (some ⟨w.heap.size + 2 + 1 + 1, 0, none⟩)]) rfl trivial (enters_of Tryd.func73 (by kernel_rfl) rfl)
      (dividend_stops (n - 1) (by omega) (w.heap.size + 2 + 1) (w.heap.size + 2 + 1 + 1) w.heap.size A len cap 24 xs hreach (by decide) w5 (by omega) (by omega) (by omega) bS'.cell bZ.cell (hI.below hb')) keepsFor_t (keepsFor_b (by omega) (by omega) (by omega)) (Below.refl _ _) (fun _ => rfl)
      (fun pre W => (((∃ v, W.cell? ⟨w.heap.size + 2, 0, none⟩ = some (.int .u32 v) ∧ (Bits pre → v = regA k pre)) ∧ W.frozen? ⟨w.heap.size + 2, 0, none⟩ = false) ∧ (W.cell? ⟨w.heap.size + 1, 0, none⟩ = some (.int .u32 25578747) ∧ W.cell? ⟨w.heap.size, 0, none⟩ = some (.int .i64 24))) ∧ Below w.heap.size w W)
      (fun _ _ _ => False)
      (OwnFrom.and (Own.from (fun s A B row hs hg hr => ⟨⟨hs.1.1.elim (fun v hv => ⟨v, cell_kept hv.1 hg hr, hv.2⟩), hs.1.1.elim (fun v hv => (frozen_kept hv.1 hg hr).trans hs.1.2)⟩, cell_kept hs.2.1 hg hr, cell_kept hs.2.2 hg hr⟩) _) (ownFrom_below (Nat.le_refl _) (by omega)))
      (fun _ _ _ _ _ hs _ _ => hs)
      ⟨⟨⟨⟨0, bR'.cell, fun _ => (regA_nil k).symm⟩, bR'.frozen⟩, bG'.cell, bP'.cell0⟩, hb'⟩
      (fun x => { tmps := #[.agg #[.int .i64 24, .int .u32 8801531], .slice A len cap, .pointer (some ⟨w.heap.size, 0, none⟩), undef, .slice none 0 0, .pointer (some ⟨w.heap.size + 1, 0, none⟩), .pointer (some ⟨w.heap.size + 2, 0, none⟩), .int .u8 x,
          .pointer (some ⟨w.heap.size, 0, none⟩), .int .i64 24, .int .u32 (IntKind.u32.wrap 16777216), .pointer (some ⟨w.heap.size, 1, none⟩), .int .u32 8801531, .int .u32 25578747, .slice A len cap, .pointer (some ⟨w.heap.size, 0, none⟩), .int .i64 24,
          .func (.func 73) #[] #[.pointer (some ⟨w.heap.size + 2 + 1, 0, none⟩), .pointer (some ⟨w.heap.size + 2 + 1 + 1, 0, none⟩)], .int .u8 x, undef, undef, undef, undef, undef, undef, undef, undef, undef, undef, undef, undef, undef, undef, undef, undef, undef], defers := [] }) ?assign ?body ?done ?stop
    case assign =>
      intro l x W K hK
      gi_wp2
      exact hK
    case body =>
      rintro l pre x W ⟨⟨⟨⟨v, hc, hv⟩, hf⟩, hg, hp⟩, hB⟩ _
      have hS := Lib.hid (fun hb => reg_step (x := x) (P := 16777216) (GI := 25578747) (GEN := 25578747) rfl HK.out (by decide) (by decide) (by decide) (by decide) hv hb)
      have hne : (⟨w.heap.size + 1, 0, none⟩ : Addr).block ≠ w.heap.size + 2 := by simp
      have hnp : (⟨w.heap.size, 0, none⟩ : Addr).block ≠ w.heap.size + 2 := by simp
      have hgo : ∀ u, (W.setCell ⟨w.heap.size + 2, 0, none⟩ u).cell? ⟨w.heap.size + 1, 0, none⟩ = some (.int .u32 25578747) := fun u => (World.cell?_setCell_other W ⟨w.heap.size + 2, 0, none⟩ ⟨w.heap.size + 1, 0, none⟩ u (by simp)).trans hg
      have hpo : ∀ u, (W.setCell ⟨w.heap.size + 2, 0, none⟩ u).cell? ⟨w.heap.size, 0, none⟩ = some (.int .i64 24) := fun u => (World.cell?_setCell_other W ⟨w.heap.size + 2, 0, none⟩ ⟨w.heap.size, 0, none⟩ u (by simp)).trans hp
      have hsame : ∀ u, (W.setCell ⟨w.heap.size + 2, 0, none⟩ u).cell? ⟨w.heap.size + 2, 0, none⟩ = some u := fun u => World.cell?_setCell_same' _ _ _ (by rw [hc]; rfl)
      have HGO := Lib.hid hgo; have HPO := Lib.hid hpo; have HSA := Lib.hid hsame
      clear hgo hpo hsame hne hnp
      gi_wp2
      · rename_i hd
        have hc2 := HSA.out (.int .u32 (bits .or .u32 (v * 2 % 4294967296) (x % 4294967296)))
        refine ⟨((KeepsOthers.setCell _ _ _).trans (KeepsOthers.setCell _ _ _)).from _, ((KeepsFor.refl _ _ _ _).setCell (p := ⟨w.heap.size + 2, 0, none⟩) (Nat.le_add_right _ _) (by simp) (by simp) _).setCell (p := ⟨w.heap.size + 2, 0, none⟩) (Nat.le_add_right _ _) (by simp) (by simp) _, ⟨⟨⟨_, World.cell?_setCell_same' _ _ _ (by rw [hc2]; rfl), fun hb => (hS.out hb).2 hd⟩, by rw [World.frozen?_setCell, World.frozen?_setCell]; exact hf⟩, (World.cell?_setCell_other _ ⟨w.heap.size + 2, 0, none⟩ ⟨w.heap.size + 1, 0, none⟩ _ (by simp)).trans (HGO.out _), (World.cell?_setCell_other _ ⟨w.heap.size + 2, 0, none⟩ ⟨w.heap.size, 0, none⟩ _ (by simp)).trans (HPO.out _)⟩, (hB.setCell (p := ⟨w.heap.size + 2, 0, none⟩) (Nat.le_add_right _ _) _).setCell (p := ⟨w.heap.size + 2, 0, none⟩) (Nat.le_add_right _ _) _⟩
      · rename_i hd
        refine ⟨(KeepsOthers.setCell _ _ _).from _, (KeepsFor.refl _ _ _ _).setCell (p := ⟨w.heap.size + 2, 0, none⟩) (Nat.le_add_right _ _) (by simp) (by simp) _, ⟨⟨⟨_, HSA.out _, fun hb => (hS.out hb).1 hd⟩, by rw [World.frozen?_setCell]; exact hf⟩, HGO.out _, HPO.out _⟩, hB.setCell (p := ⟨w.heap.size + 2, 0, none⟩) (Nat.le_add_right _ _) _⟩
    case done =>
      rintro D ys W hD rfl ⟨⟨⟨⟨v, hc, hv⟩, hf⟩, hg, hp⟩, hB⟩ hKD
      have hbits : Bits (xs ++ zerosL 24) := fun y hy => by
        rcases List.mem_append.1 hy with h | h
        · exact hx y h
        · exact .inl (List.eq_of_mem_replicate h)
      have hve := hv hbits
      have hvr := regA_range k (xs ++ zerosL 24)
      have hcr := regA_crc (k := k) (xs := xs) (by rw [HK.out]; decide)
      rw [HK.out] at hvr hcr
      simp only at hvr hcr
      rw [← hve] at hvr hcr
      have hvr2 : 0 ≤ v ∧ v < 4294967296 := ⟨hvr.1, by have := hvr.2; omega⟩
      have HCR := Lib.hid hcr
      clear hve hv hcr hvr hg
      have hbin := Lib.hid (binary_any (w := W) hvr2 (show 24 ≤ 32 by decide))
      gi_wp2
      refine ⟨trivial, ?_⟩
      gi_at_call 72
      refine (callsIn_wide.2 hbin.out).mono ?_
      rintro e w6 ⟨A2, c2, rfl, hown, hb6⟩
      rw [HCR.out] at hown
      have hD6 : w6.heap[D]? = some (.deferred (some [])) := (hb6.block D (Array.getElem?_eq_some_iff.1 hKD).1).trans hKD
      have hDw := (Array.getElem?_eq_some_iff.1 hD6).1
      gi_wp2
      refine ⟨by simp, .inl ⟨_, _, rfl, run_takeDeferred hD6, ?_⟩⟩
      exact ⟨_, results_tmp rfl _ _ _, ⟨_, _, rfl, ownsRow_putObj (hown.mono hB.size) _ hD6 rfl⟩, (hB.trans (hb6.mono hB.size)).trans (belowK_b (w := w) (Nat.le_refl _) w6 D _ _ (by omega) hD6 rfl rfl)⟩
    case stop =>
      rintro D c pre W _ _ h _
      exact h.elim
  · refine callsIn_of_wp_marks Tryd.func66 rfl trivial ?_ rfl
    simp only [Tryd.ntmps66, List.size_toArray, List.length_cons, List.length_nil, Nat.reduceAdd, Nat.reduceSub, Array.replicate_succ, Array.replicate_zero, List.push_toArray, List.append_toArray, List.nil_append, List.cons_append]
    gi_wp2
    refine wpIn_wide.2 ?_
    have p0 : (w.alloc (.cells #[.int .i64 24, .int .u32 8388707] 95)).cell? ⟨w.heap.size, 0, none⟩ = some (.int .i64 24) := (Two.new w _ _ _).cell0
    have p1 : (w.alloc (.cells #[.int .i64 24, .int .u32 8388707] 95)).cell? ⟨w.heap.size, 1, none⟩ = some (.int .u32 8388707) := (Two.new w _ _ _).cell1
    go_region_held3 (fun w' => w'.cell? ⟨w.heap.size, 0, none⟩ = some (.int .i64 24) ∧ w'.cell? ⟨w.heap.size, 1, none⟩ = some (.int .u32 8388707)) (first | go_keep) (first | fail)
    rename_i hHeld
    clear hHeld p0 p1
    rw [show bits BinOp.or IntKind.u32 (IntKind.u32.wrap 16777216) 8388707 = 25165923 from by decide]
    have bP := Two.new w 95 (.int .i64 24) (.int .u32 8388707)
    have bG := Boxed.new (w.alloc (.cells #[.int .i64 24, .int .u32 8388707] 95)) 73 (.int .u32 25165923)
    rw [World.size_alloc] at bG
    have hb2 : Below w.heap.size w (((w.alloc (.cells #[.int .i64 24, .int .u32 8388707] 95)).alloc (.cells #[.int .u32 25165923] 73)).drew) := (((Below.refl _ w).alloc (Nat.le_refl _) _).alloc (by simp) _).drew
    have hs2 : (((w.alloc (.cells #[.int .i64 24, .int .u32 8388707] 95)).alloc (.cells #[.int .u32 25165923] 73)).drew).heap.size = w.heap.size + 2 := by simp [World.drew]
    have bP2 : Two (((w.alloc (.cells #[.int .i64 24, .int .u32 8388707] 95)).alloc (.cells #[.int .u32 25165923] 73)).drew) w.heap.size 95 (.int .i64 24) (.int .u32 8388707) := bP.alloc _
    have bG2 : Boxed (((w.alloc (.cells #[.int .i64 24, .int .u32 8388707] 95)).alloc (.cells #[.int .u32 25165923] 73)).drew) (w.heap.size + 1) 73 (.int .u32 25165923) := bG
    generalize (((w.alloc (.cells #[.int .i64 24, .int .u32 8388707] 95)).alloc (.cells #[.int .u32 25165923] 73)).drew) = w2 at *
    clear bP bG
    have p0 := bP2.cell0
    gi_wp2_with (refine ⟨trivial, ?_⟩; gi_at_call 71; refine (dividend_in (n - 1) _ _ _ _ _).mono ?_; rintro e w' ⟨rfl, rfl⟩)
    have bR := Boxed.new w2 73 (.int .u32 0)
    have bS := Boxed.new (w2.alloc (.cells #[.int .u32 0] 73)) 46 (.slice A len cap)
    have bZ := Boxed.new ((w2.alloc (.cells #[.int .u32 0] 73)).alloc (.cells #[.slice A len cap] 46)) 3 (.int .i64 24)
    rw [World.size_alloc, hs2] at bS
    rw [World.size_alloc, World.size_alloc, hs2] at bZ
    rw [hs2] at bR
    have bR' := (bR.alloc (.cells #[.slice A len cap] 46)).alloc (.cells #[.int .i64 24] 3)
    have bS' := bS.alloc (.cells #[.int .i64 24] 3)
    have bP' := ((bP2.alloc (.cells #[.int .u32 0] 73)).alloc (.cells #[.slice A len cap] 46)).alloc (.cells #[.int .i64 24] 3)
    have bG' := ((bG2.alloc (.cells #[.int .u32 0] 73)).alloc (.cells #[.slice A len cap] 46)).alloc (.cells #[.int .i64 24] 3)
    have hb' : Below w.heap.size w (((w2.alloc (.cells #[.int .u32 0] 73)).alloc (.cells #[.slice A len cap] 46)).alloc (.cells #[.int .i64 24] 3)) := ((hb2.alloc (by omega) _).alloc (by simp; omega) _).alloc (by simp; omega) _
    have hs' : (((w2.alloc (.cells #[.int .u32 0] 73)).alloc (.cells #[.slice A len cap] 46)).alloc (.cells #[.int .i64 24] 3)).heap.size = w.heap.size + 5 := by simp; omega
    generalize (((w2.alloc (.cells #[.int .u32 0] 73)).alloc (.cells #[.slice A len cap] 46)).alloc (.cells #[.int .i64 24] 3)) = w5 at *
    clear bR bS hb2 hs2 bP2 bG2 p0
    refine wpIn_rangeFunc_ownG rfl h1 (gf := 73) (lb := #[.pointer (some ⟨w.heap.size + 2 + 1, 0, none⟩), .pointer (some ⟨w.heap.size + 2 + 1 + 1, 0, none⟩)]) rfl trivial (enters_of Tryd.func73 (by kernel_rfl) rfl)
      (dividend_stops (n - 1) (by omega) (w.heap.size + 2 + 1) (w.heap.size + 2 + 1 + 1) w.heap.size A len cap 24 xs hreach (by decide) w5 (by omega) (by omega) (by omega) bS'.cell bZ.cell (hI.below hb')) keepsFor_t (keepsFor_b (by omega) (by omega) (by omega)) (Below.refl _ _) (fun _ => rfl)
      (fun pre W => (((∃ v, W.cell? ⟨w.heap.size + 2, 0, none⟩ = some (.int .u32 v) ∧ (Bits pre → v = regA k pre)) ∧ W.frozen? ⟨w.heap.size + 2, 0, none⟩ = false) ∧ (W.cell? ⟨w.heap.size + 1, 0, none⟩ = some (.int .u32 25165923) ∧ W.cell? ⟨w.heap.size, 0, none⟩ = some (.int .i64 24))) ∧ Below w.heap.size w W)
      (fun _ _ _ => False)
      (OwnFrom.and (Own.from (fun s A B row hs hg hr => ⟨⟨hs.1.1.elim (fun v hv => ⟨v, cell_kept hv.1 hg hr, hv.2⟩), hs.1.1.elim (fun v hv => (frozen_kept hv.1 hg hr).trans hs.1.2)⟩, cell_kept hs.2.1 hg hr, cell_kept hs.2.2 hg hr⟩) _) (ownFrom_below (Nat.le_refl _) (by omega)))
      (fun _ _ _ _ _ hs _ _ => hs)
      ⟨⟨⟨⟨0, bR'.cell, fun _ => (regA_nil k).symm⟩, bR'.frozen⟩, bG'.cell, bP'.cell0⟩, hb'⟩
      (fun x => { tmps := #[.agg #[.int .i64 24, .int .u32 8388707], .slice A len cap, .pointer (some ⟨w.heap.size, 0, none⟩), undef, .slice none 0 0, .pointer (some ⟨w.heap.size + 1, 0, none⟩), .pointer (some ⟨w.heap.size + 2, 0, none⟩), .int .u8 x,
          .pointer (some ⟨w.heap.size, 0, none⟩), .int .i64 24, .int .u32 (IntKind.u32.wrap 16777216), .pointer (some ⟨w.heap.size, 1, none⟩), .int .u32 8388707, .int .u32 25165923, .slice A len cap, .pointer (some ⟨w.heap.size, 0, none⟩), .int .i64 24,
          .func (.func 73) #[] #[.pointer (some ⟨w.heap.size + 2 + 1, 0, none⟩), .pointer (some ⟨w.heap.size + 2 + 1 + 1, 0, none⟩)], .int .u8 x, undef, undef, undef, undef, undef, undef, undef, undef, undef, undef, undef, undef, undef, undef, undef, undef, undef], defers := [] }) ?assign ?body ?done ?stop
    case assign =>
      intro l x W K hK
      gi_wp2
      exact hK
    case body =>
      rintro l pre x W ⟨⟨⟨⟨v, hc, hv⟩, hf⟩, hg, hp⟩, hB⟩ _
      have hS := Lib.hid (fun hb => reg_step (x := x) (P := 16777216) (GI := 25165923) (GEN := 25165923) rfl HK.out (by decide) (by decide) (by decide) (by decide) hv hb)
      have hne : (⟨w.heap.size + 1, 0, none⟩ : Addr).block ≠ w.heap.size + 2 := by simp
      have hnp : (⟨w.heap.size, 0, none⟩ : Addr).block ≠ w.heap.size + 2 := by simp
      have hgo : ∀ u, (W.setCell ⟨w.heap.size + 2, 0, none⟩ u).cell? ⟨w.heap.size + 1, 0, none⟩ = some (.int .u32 25165923) := fun u => (World.cell?_setCell_other W ⟨w.heap.size + 2, 0, none⟩ ⟨w.heap.size + 1, 0, none⟩ u (by simp)).trans hg
      have hpo : ∀ u, (W.setCell ⟨w.heap.size + 2, 0, none⟩ u).cell? ⟨w.heap.size, 0, none⟩ = some (.int .i64 24) := fun u => (World.cell?_setCell_other W ⟨w.heap.size + 2, 0, none⟩ ⟨w.heap.size, 0, none⟩ u (by simp)).trans hp
      have hsame : ∀ u, (W.setCell ⟨w.heap.size + 2, 0, none⟩ u).cell? ⟨w.heap.size + 2, 0, none⟩ = some u := fun u => World.cell?_setCell_same' _ _ _ (by rw [hc]; rfl)
      have HGO := Lib.hid hgo; have HPO := Lib.hid hpo; have HSA := Lib.hid hsame
      clear hgo hpo hsame hne hnp
      gi_wp2
      · rename_i hd
        have hc2 := HSA.out (.int .u32 (bits .or .u32 (v * 2 % 4294967296) (x % 4294967296)))
        refine ⟨((KeepsOthers.setCell _ _ _).trans (KeepsOthers.setCell _ _ _)).from _, ((KeepsFor.refl _ _ _ _).setCell (p := ⟨w.heap.size + 2, 0, none⟩) (Nat.le_add_right _ _) (by simp) (by simp) _).setCell (p := ⟨w.heap.size + 2, 0, none⟩) (Nat.le_add_right _ _) (by simp) (by simp) _, ⟨⟨⟨_, World.cell?_setCell_same' _ _ _ (by rw [hc2]; rfl), fun hb => (hS.out hb).2 hd⟩, by rw [World.frozen?_setCell, World.frozen?_setCell]; exact hf⟩, (World.cell?_setCell_other _ ⟨w.heap.size + 2, 0, none⟩ ⟨w.heap.size + 1, 0, none⟩ _ (by simp)).trans (HGO.out _), (World.cell?_setCell_other _ ⟨w.heap.size + 2, 0, none⟩ ⟨w.heap.size, 0, none⟩ _ (by simp)).trans (HPO.out _)⟩, (hB.setCell (p := ⟨w.heap.size + 2, 0, none⟩) (Nat.le_add_right _ _) _).setCell (p := ⟨w.heap.size + 2, 0, none⟩) (Nat.le_add_right _ _) _⟩
      · rename_i hd
        refine ⟨(KeepsOthers.setCell _ _ _).from _, (KeepsFor.refl _ _ _ _).setCell (p := ⟨w.heap.size + 2, 0, none⟩) (Nat.le_add_right _ _) (by simp) (by simp) _, ⟨⟨⟨_, HSA.out _, fun hb => (hS.out hb).1 hd⟩, by rw [World.frozen?_setCell]; exact hf⟩, HGO.out _, HPO.out _⟩, hB.setCell (p := ⟨w.heap.size + 2, 0, none⟩) (Nat.le_add_right _ _) _⟩
    case done =>
      rintro D ys W hD rfl ⟨⟨⟨⟨v, hc, hv⟩, hf⟩, hg, hp⟩, hB⟩ hKD
      have hbits : Bits (xs ++ zerosL 24) := fun y hy => by
        rcases List.mem_append.1 hy with h | h
        · exact hx y h
        · exact .inl (List.eq_of_mem_replicate h)
      have hve := hv hbits
      have hvr := regA_range k (xs ++ zerosL 24)
      have hcr := regA_crc (k := k) (xs := xs) (by rw [HK.out]; decide)
      rw [HK.out] at hvr hcr
      simp only at hvr hcr
      rw [← hve] at hvr hcr
      have hvr2 : 0 ≤ v ∧ v < 4294967296 := ⟨hvr.1, by have := hvr.2; omega⟩
      have HCR := Lib.hid hcr
      clear hve hv hcr hvr hg
      have hbin := Lib.hid (binary_any (w := W) hvr2 (show 24 ≤ 32 by decide))
      gi_wp2
      refine ⟨trivial, ?_⟩
      gi_at_call 72
      refine (callsIn_wide.2 hbin.out).mono ?_
      rintro e w6 ⟨A2, c2, rfl, hown, hb6⟩
      rw [HCR.out] at hown
      have hD6 : w6.heap[D]? = some (.deferred (some [])) := (hb6.block D (Array.getElem?_eq_some_iff.1 hKD).1).trans hKD
      have hDw := (Array.getElem?_eq_some_iff.1 hD6).1
      gi_wp2
      refine ⟨by simp, .inl ⟨_, _, rfl, run_takeDeferred hD6, ?_⟩⟩
      exact ⟨_, results_tmp rfl _ _ _, ⟨_, _, rfl, ownsRow_putObj (hown.mono hB.size) _ hD6 rfl⟩, (hB.trans (hb6.mono hB.size)).trans (belowK_b (w := w) (Nat.le_refl _) w6 D _ _ (by omega) hD6 rfl rfl)⟩
    case stop =>
      rintro D c pre W _ _ h _
      exact h.elim
  · refine callsIn_of_wp_marks Tryd.func66 rfl trivial ?_ rfl
    simp only [Tryd.ntmps66, List.size_toArray, List.length_cons, List.length_nil, Nat.reduceAdd, Nat.reduceSub, Array.replicate_succ, Array.replicate_zero, List.push_toArray, List.append_toArray, List.nil_append, List.cons_append]
    gi_wp2
    refine wpIn_wide.2 ?_
    have p0 : (w.alloc (.cells #[.int .i64 16, .int .u32 4129] 95)).cell? ⟨w.heap.size, 0, none⟩ = some (.int .i64 16) := (Two.new w _ _ _).cell0
    have p1 : (w.alloc (.cells #[.int .i64 16, .int .u32 4129] 95)).cell? ⟨w.heap.size, 1, none⟩ = some (.int .u32 4129) := (Two.new w _ _ _).cell1
    go_region_held3 (fun w' => w'.cell? ⟨w.heap.size, 0, none⟩ = some (.int .i64 16) ∧ w'.cell? ⟨w.heap.size, 1, none⟩ = some (.int .u32 4129)) (first | go_keep) (first | fail)
    rename_i hHeld
    clear hHeld p0 p1
    rw [show bits BinOp.or IntKind.u32 (IntKind.u32.wrap 65536) 4129 = 69665 from by decide]
    have bP := Two.new w 95 (.int .i64 16) (.int .u32 4129)
    have bG := Boxed.new (w.alloc (.cells #[.int .i64 16, .int .u32 4129] 95)) 73 (.int .u32 69665)
    rw [World.size_alloc] at bG
    have hb2 : Below w.heap.size w (((w.alloc (.cells #[.int .i64 16, .int .u32 4129] 95)).alloc (.cells #[.int .u32 69665] 73)).drew) := (((Below.refl _ w).alloc (Nat.le_refl _) _).alloc (by simp) _).drew
    have hs2 : (((w.alloc (.cells #[.int .i64 16, .int .u32 4129] 95)).alloc (.cells #[.int .u32 69665] 73)).drew).heap.size = w.heap.size + 2 := by simp [World.drew]
    have bP2 : Two (((w.alloc (.cells #[.int .i64 16, .int .u32 4129] 95)).alloc (.cells #[.int .u32 69665] 73)).drew) w.heap.size 95 (.int .i64 16) (.int .u32 4129) := bP.alloc _
    have bG2 : Boxed (((w.alloc (.cells #[.int .i64 16, .int .u32 4129] 95)).alloc (.cells #[.int .u32 69665] 73)).drew) (w.heap.size + 1) 73 (.int .u32 69665) := bG
    generalize (((w.alloc (.cells #[.int .i64 16, .int .u32 4129] 95)).alloc (.cells #[.int .u32 69665] 73)).drew) = w2 at *
    clear bP bG
    have p0 := bP2.cell0
    gi_wp2_with (refine ⟨trivial, ?_⟩; gi_at_call 71; refine (dividend_in (n - 1) _ _ _ _ _).mono ?_; rintro e w' ⟨rfl, rfl⟩)
    have bR := Boxed.new w2 73 (.int .u32 0)
    have bS := Boxed.new (w2.alloc (.cells #[.int .u32 0] 73)) 46 (.slice A len cap)
    have bZ := Boxed.new ((w2.alloc (.cells #[.int .u32 0] 73)).alloc (.cells #[.slice A len cap] 46)) 3 (.int .i64 16)
    rw [World.size_alloc, hs2] at bS
    rw [World.size_alloc, World.size_alloc, hs2] at bZ
    rw [hs2] at bR
    have bR' := (bR.alloc (.cells #[.slice A len cap] 46)).alloc (.cells #[.int .i64 16] 3)
    have bS' := bS.alloc (.cells #[.int .i64 16] 3)
    have bP' := ((bP2.alloc (.cells #[.int .u32 0] 73)).alloc (.cells #[.slice A len cap] 46)).alloc (.cells #[.int .i64 16] 3)
    have bG' := ((bG2.alloc (.cells #[.int .u32 0] 73)).alloc (.cells #[.slice A len cap] 46)).alloc (.cells #[.int .i64 16] 3)
    have hb' : Below w.heap.size w (((w2.alloc (.cells #[.int .u32 0] 73)).alloc (.cells #[.slice A len cap] 46)).alloc (.cells #[.int .i64 16] 3)) := ((hb2.alloc (by omega) _).alloc (by simp; omega) _).alloc (by simp; omega) _
    have hs' : (((w2.alloc (.cells #[.int .u32 0] 73)).alloc (.cells #[.slice A len cap] 46)).alloc (.cells #[.int .i64 16] 3)).heap.size = w.heap.size + 5 := by simp; omega
    generalize (((w2.alloc (.cells #[.int .u32 0] 73)).alloc (.cells #[.slice A len cap] 46)).alloc (.cells #[.int .i64 16] 3)) = w5 at *
    clear bR bS hb2 hs2 bP2 bG2 p0
    refine wpIn_rangeFunc_ownG rfl h1 (gf := 73) (lb := #[.pointer (some ⟨w.heap.size + 2 + 1, 0, none⟩), .pointer (some ⟨w.heap.size + 2 + 1 + 1, 0, none⟩)]) rfl trivial (enters_of Tryd.func73 (by kernel_rfl) rfl)
      (dividend_stops (n - 1) (by omega) (w.heap.size + 2 + 1) (w.heap.size + 2 + 1 + 1) w.heap.size A len cap 16 xs hreach (by decide) w5 (by omega) (by omega) (by omega) bS'.cell bZ.cell (hI.below hb')) keepsFor_t (keepsFor_b (by omega) (by omega) (by omega)) (Below.refl _ _) (fun _ => rfl)
      (fun pre W => (((∃ v, W.cell? ⟨w.heap.size + 2, 0, none⟩ = some (.int .u32 v) ∧ (Bits pre → v = regA k pre)) ∧ W.frozen? ⟨w.heap.size + 2, 0, none⟩ = false) ∧ (W.cell? ⟨w.heap.size + 1, 0, none⟩ = some (.int .u32 69665) ∧ W.cell? ⟨w.heap.size, 0, none⟩ = some (.int .i64 16))) ∧ Below w.heap.size w W)
      (fun _ _ _ => False)
      (OwnFrom.and (Own.from (fun s A B row hs hg hr => ⟨⟨hs.1.1.elim (fun v hv => ⟨v, cell_kept hv.1 hg hr, hv.2⟩), hs.1.1.elim (fun v hv => (frozen_kept hv.1 hg hr).trans hs.1.2)⟩, cell_kept hs.2.1 hg hr, cell_kept hs.2.2 hg hr⟩) _) (ownFrom_below (Nat.le_refl _) (by omega)))
      (fun _ _ _ _ _ hs _ _ => hs)
      ⟨⟨⟨⟨0, bR'.cell, fun _ => (regA_nil k).symm⟩, bR'.frozen⟩, bG'.cell, bP'.cell0⟩, hb'⟩
      (fun x => { tmps := #[.agg #[.int .i64 16, .int .u32 4129], .slice A len cap, .pointer (some ⟨w.heap.size, 0, none⟩), undef, .slice none 0 0, .pointer (some ⟨w.heap.size + 1, 0, none⟩), .pointer (some ⟨w.heap.size + 2, 0, none⟩), .int .u8 x,
          .pointer (some ⟨w.heap.size, 0, none⟩), .int .i64 16, .int .u32 (IntKind.u32.wrap 65536), .pointer (some ⟨w.heap.size, 1, none⟩), .int .u32 4129, .int .u32 69665, .slice A len cap, .pointer (some ⟨w.heap.size, 0, none⟩), .int .i64 16,
          .func (.func 73) #[] #[.pointer (some ⟨w.heap.size + 2 + 1, 0, none⟩), .pointer (some ⟨w.heap.size + 2 + 1 + 1, 0, none⟩)], .int .u8 x, undef, undef, undef, undef, undef, undef, undef, undef, undef, undef, undef, undef, undef, undef, undef, undef, undef], defers := [] }) ?assign ?body ?done ?stop
    case assign =>
      intro l x W K hK
      gi_wp2
      exact hK
    case body =>
      rintro l pre x W ⟨⟨⟨⟨v, hc, hv⟩, hf⟩, hg, hp⟩, hB⟩ _
      have hS := Lib.hid (fun hb => reg_step (x := x) (P := 65536) (GI := 69665) (GEN := 69665) rfl HK.out (by decide) (by decide) (by decide) (by decide) hv hb)
      have hne : (⟨w.heap.size + 1, 0, none⟩ : Addr).block ≠ w.heap.size + 2 := by simp
      have hnp : (⟨w.heap.size, 0, none⟩ : Addr).block ≠ w.heap.size + 2 := by simp
      have hgo : ∀ u, (W.setCell ⟨w.heap.size + 2, 0, none⟩ u).cell? ⟨w.heap.size + 1, 0, none⟩ = some (.int .u32 69665) := fun u => (World.cell?_setCell_other W ⟨w.heap.size + 2, 0, none⟩ ⟨w.heap.size + 1, 0, none⟩ u (by simp)).trans hg
      have hpo : ∀ u, (W.setCell ⟨w.heap.size + 2, 0, none⟩ u).cell? ⟨w.heap.size, 0, none⟩ = some (.int .i64 16) := fun u => (World.cell?_setCell_other W ⟨w.heap.size + 2, 0, none⟩ ⟨w.heap.size, 0, none⟩ u (by simp)).trans hp
      have hsame : ∀ u, (W.setCell ⟨w.heap.size + 2, 0, none⟩ u).cell? ⟨w.heap.size + 2, 0, none⟩ = some u := fun u => World.cell?_setCell_same' _ _ _ (by rw [hc]; rfl)
      have HGO := Lib.hid hgo; have HPO := Lib.hid hpo; have HSA := Lib.hid hsame
      clear hgo hpo hsame hne hnp
      gi_wp2
      · rename_i hd
        have hc2 := HSA.out (.int .u32 (bits .or .u32 (v * 2 % 4294967296) (x % 4294967296)))
        refine ⟨((KeepsOthers.setCell _ _ _).trans (KeepsOthers.setCell _ _ _)).from _, ((KeepsFor.refl _ _ _ _).setCell (p := ⟨w.heap.size + 2, 0, none⟩) (Nat.le_add_right _ _) (by simp) (by simp) _).setCell (p := ⟨w.heap.size + 2, 0, none⟩) (Nat.le_add_right _ _) (by simp) (by simp) _, ⟨⟨⟨_, World.cell?_setCell_same' _ _ _ (by rw [hc2]; rfl), fun hb => (hS.out hb).2 hd⟩, by rw [World.frozen?_setCell, World.frozen?_setCell]; exact hf⟩, (World.cell?_setCell_other _ ⟨w.heap.size + 2, 0, none⟩ ⟨w.heap.size + 1, 0, none⟩ _ (by simp)).trans (HGO.out _), (World.cell?_setCell_other _ ⟨w.heap.size + 2, 0, none⟩ ⟨w.heap.size, 0, none⟩ _ (by simp)).trans (HPO.out _)⟩, (hB.setCell (p := ⟨w.heap.size + 2, 0, none⟩) (Nat.le_add_right _ _) _).setCell (p := ⟨w.heap.size + 2, 0, none⟩) (Nat.le_add_right _ _) _⟩
      · rename_i hd
        refine ⟨(KeepsOthers.setCell _ _ _).from _, (KeepsFor.refl _ _ _ _).setCell (p := ⟨w.heap.size + 2, 0, none⟩) (Nat.le_add_right _ _) (by simp) (by simp) _, ⟨⟨⟨_, HSA.out _, fun hb => (hS.out hb).1 hd⟩, by rw [World.frozen?_setCell]; exact hf⟩, HGO.out _, HPO.out _⟩, hB.setCell (p := ⟨w.heap.size + 2, 0, none⟩) (Nat.le_add_right _ _) _⟩
    case done =>
      rintro D ys W hD rfl ⟨⟨⟨⟨v, hc, hv⟩, hf⟩, hg, hp⟩, hB⟩ hKD
      have hbits : Bits (xs ++ zerosL 16) := fun y hy => by
        rcases List.mem_append.1 hy with h | h
        · exact hx y h
        · exact .inl (List.eq_of_mem_replicate h)
      have hve := hv hbits
      have hvr := regA_range k (xs ++ zerosL 16)
      have hcr := regA_crc (k := k) (xs := xs) (by rw [HK.out]; decide)
      rw [HK.out] at hvr hcr
      simp only at hvr hcr
      rw [← hve] at hvr hcr
      have hvr2 : 0 ≤ v ∧ v < 4294967296 := ⟨hvr.1, by have := hvr.2; omega⟩
      have HCR := Lib.hid hcr
      clear hve hv hcr hvr hg
      have hbin := Lib.hid (binary_any (w := W) hvr2 (show 16 ≤ 32 by decide))
      gi_wp2
      refine ⟨trivial, ?_⟩
      gi_at_call 72
      refine (callsIn_wide.2 hbin.out).mono ?_
      rintro e w6 ⟨A2, c2, rfl, hown, hb6⟩
      rw [HCR.out] at hown
      have hD6 : w6.heap[D]? = some (.deferred (some [])) := (hb6.block D (Array.getElem?_eq_some_iff.1 hKD).1).trans hKD
      have hDw := (Array.getElem?_eq_some_iff.1 hD6).1
      gi_wp2
      refine ⟨by simp, .inl ⟨_, _, rfl, run_takeDeferred hD6, ?_⟩⟩
      exact ⟨_, results_tmp rfl _ _ _, ⟨_, _, rfl, ownsRow_putObj (hown.mono hB.size) _ hD6 rfl⟩, (hB.trans (hb6.mono hB.size)).trans (belowK_b (w := w) (Nat.le_refl _) w6 D _ _ (by omega) hD6 rfl rfl)⟩
    case stop =>
      rintro D c pre W _ _ h _
      exact h.elim
  · refine callsIn_of_wp_marks Tryd.func66 rfl trivial ?_ rfl
    simp only [Tryd.ntmps66, List.size_toArray, List.length_cons, List.length_nil, Nat.reduceAdd, Nat.reduceSub, Array.replicate_succ, Array.replicate_zero, List.push_toArray, List.append_toArray, List.nil_append, List.cons_append]
    gi_wp2
    refine wpIn_wide.2 ?_
    have p0 : (w.alloc (.cells #[.int .i64 8, .int .u32 155] 95)).cell? ⟨w.heap.size, 0, none⟩ = some (.int .i64 8) := (Two.new w _ _ _).cell0
    have p1 : (w.alloc (.cells #[.int .i64 8, .int .u32 155] 95)).cell? ⟨w.heap.size, 1, none⟩ = some (.int .u32 155) := (Two.new w _ _ _).cell1
    go_region_held3 (fun w' => w'.cell? ⟨w.heap.size, 0, none⟩ = some (.int .i64 8) ∧ w'.cell? ⟨w.heap.size, 1, none⟩ = some (.int .u32 155)) (first | go_keep) (first | fail)
    rename_i hHeld
    clear hHeld p0 p1
    rw [show bits BinOp.or IntKind.u32 (IntKind.u32.wrap 256) 155 = 411 from by decide]
    have bP := Two.new w 95 (.int .i64 8) (.int .u32 155)
    have bG := Boxed.new (w.alloc (.cells #[.int .i64 8, .int .u32 155] 95)) 73 (.int .u32 411)
    rw [World.size_alloc] at bG
    have hb2 : Below w.heap.size w (((w.alloc (.cells #[.int .i64 8, .int .u32 155] 95)).alloc (.cells #[.int .u32 411] 73)).drew) := (((Below.refl _ w).alloc (Nat.le_refl _) _).alloc (by simp) _).drew
    have hs2 : (((w.alloc (.cells #[.int .i64 8, .int .u32 155] 95)).alloc (.cells #[.int .u32 411] 73)).drew).heap.size = w.heap.size + 2 := by simp [World.drew]
    have bP2 : Two (((w.alloc (.cells #[.int .i64 8, .int .u32 155] 95)).alloc (.cells #[.int .u32 411] 73)).drew) w.heap.size 95 (.int .i64 8) (.int .u32 155) := bP.alloc _
    have bG2 : Boxed (((w.alloc (.cells #[.int .i64 8, .int .u32 155] 95)).alloc (.cells #[.int .u32 411] 73)).drew) (w.heap.size + 1) 73 (.int .u32 411) := bG
    generalize (((w.alloc (.cells #[.int .i64 8, .int .u32 155] 95)).alloc (.cells #[.int .u32 411] 73)).drew) = w2 at *
    clear bP bG
    have p0 := bP2.cell0
    gi_wp2_with (refine ⟨trivial, ?_⟩; gi_at_call 71; refine (dividend_in (n - 1) _ _ _ _ _).mono ?_; rintro e w' ⟨rfl, rfl⟩)
    have bR := Boxed.new w2 73 (.int .u32 0)
    have bS := Boxed.new (w2.alloc (.cells #[.int .u32 0] 73)) 46 (.slice A len cap)
    have bZ := Boxed.new ((w2.alloc (.cells #[.int .u32 0] 73)).alloc (.cells #[.slice A len cap] 46)) 3 (.int .i64 8)
    rw [World.size_alloc, hs2] at bS
    rw [World.size_alloc, World.size_alloc, hs2] at bZ
    rw [hs2] at bR
    have bR' := (bR.alloc (.cells #[.slice A len cap] 46)).alloc (.cells #[.int .i64 8] 3)
    have bS' := bS.alloc (.cells #[.int .i64 8] 3)
    have bP' := ((bP2.alloc (.cells #[.int .u32 0] 73)).alloc (.cells #[.slice A len cap] 46)).alloc (.cells #[.int .i64 8] 3)
    have bG' := ((bG2.alloc (.cells #[.int .u32 0] 73)).alloc (.cells #[.slice A len cap] 46)).alloc (.cells #[.int .i64 8] 3)
    have hb' : Below w.heap.size w (((w2.alloc (.cells #[.int .u32 0] 73)).alloc (.cells #[.slice A len cap] 46)).alloc (.cells #[.int .i64 8] 3)) := ((hb2.alloc (by omega) _).alloc (by simp; omega) _).alloc (by simp; omega) _
    have hs' : (((w2.alloc (.cells #[.int .u32 0] 73)).alloc (.cells #[.slice A len cap] 46)).alloc (.cells #[.int .i64 8] 3)).heap.size = w.heap.size + 5 := by simp; omega
    generalize (((w2.alloc (.cells #[.int .u32 0] 73)).alloc (.cells #[.slice A len cap] 46)).alloc (.cells #[.int .i64 8] 3)) = w5 at *
    clear bR bS hb2 hs2 bP2 bG2 p0
    refine wpIn_rangeFunc_ownG rfl h1 (gf := 73) (lb := #[.pointer (some ⟨w.heap.size + 2 + 1, 0, none⟩), .pointer (some ⟨w.heap.size + 2 + 1 + 1, 0, none⟩)]) rfl trivial (enters_of Tryd.func73 (by kernel_rfl) rfl)
      (dividend_stops (n - 1) (by omega) (w.heap.size + 2 + 1) (w.heap.size + 2 + 1 + 1) w.heap.size A len cap 8 xs hreach (by decide) w5 (by omega) (by omega) (by omega) bS'.cell bZ.cell (hI.below hb')) keepsFor_t (keepsFor_b (by omega) (by omega) (by omega)) (Below.refl _ _) (fun _ => rfl)
      (fun pre W => (((∃ v, W.cell? ⟨w.heap.size + 2, 0, none⟩ = some (.int .u32 v) ∧ (Bits pre → v = regA k pre)) ∧ W.frozen? ⟨w.heap.size + 2, 0, none⟩ = false) ∧ (W.cell? ⟨w.heap.size + 1, 0, none⟩ = some (.int .u32 411) ∧ W.cell? ⟨w.heap.size, 0, none⟩ = some (.int .i64 8))) ∧ Below w.heap.size w W)
      (fun _ _ _ => False)
      (OwnFrom.and (Own.from (fun s A B row hs hg hr => ⟨⟨hs.1.1.elim (fun v hv => ⟨v, cell_kept hv.1 hg hr, hv.2⟩), hs.1.1.elim (fun v hv => (frozen_kept hv.1 hg hr).trans hs.1.2)⟩, cell_kept hs.2.1 hg hr, cell_kept hs.2.2 hg hr⟩) _) (ownFrom_below (Nat.le_refl _) (by omega)))
      (fun _ _ _ _ _ hs _ _ => hs)
      ⟨⟨⟨⟨0, bR'.cell, fun _ => (regA_nil k).symm⟩, bR'.frozen⟩, bG'.cell, bP'.cell0⟩, hb'⟩
      (fun x => { tmps := #[.agg #[.int .i64 8, .int .u32 155], .slice A len cap, .pointer (some ⟨w.heap.size, 0, none⟩), undef, .slice none 0 0, .pointer (some ⟨w.heap.size + 1, 0, none⟩), .pointer (some ⟨w.heap.size + 2, 0, none⟩), .int .u8 x,
          .pointer (some ⟨w.heap.size, 0, none⟩), .int .i64 8, .int .u32 (IntKind.u32.wrap 256), .pointer (some ⟨w.heap.size, 1, none⟩), .int .u32 155, .int .u32 411, .slice A len cap, .pointer (some ⟨w.heap.size, 0, none⟩), .int .i64 8,
          .func (.func 73) #[] #[.pointer (some ⟨w.heap.size + 2 + 1, 0, none⟩), .pointer (some ⟨w.heap.size + 2 + 1 + 1, 0, none⟩)], .int .u8 x, undef, undef, undef, undef, undef, undef, undef, undef, undef, undef, undef, undef, undef, undef, undef, undef, undef], defers := [] }) ?assign ?body ?done ?stop
    case assign =>
      intro l x W K hK
      gi_wp2
      exact hK
    case body =>
      rintro l pre x W ⟨⟨⟨⟨v, hc, hv⟩, hf⟩, hg, hp⟩, hB⟩ _
      have hS := Lib.hid (fun hb => reg_step (x := x) (P := 256) (GI := 411) (GEN := 411) rfl HK.out (by decide) (by decide) (by decide) (by decide) hv hb)
      have hne : (⟨w.heap.size + 1, 0, none⟩ : Addr).block ≠ w.heap.size + 2 := by simp
      have hnp : (⟨w.heap.size, 0, none⟩ : Addr).block ≠ w.heap.size + 2 := by simp
      have hgo : ∀ u, (W.setCell ⟨w.heap.size + 2, 0, none⟩ u).cell? ⟨w.heap.size + 1, 0, none⟩ = some (.int .u32 411) := fun u => (World.cell?_setCell_other W ⟨w.heap.size + 2, 0, none⟩ ⟨w.heap.size + 1, 0, none⟩ u (by simp)).trans hg
      have hpo : ∀ u, (W.setCell ⟨w.heap.size + 2, 0, none⟩ u).cell? ⟨w.heap.size, 0, none⟩ = some (.int .i64 8) := fun u => (World.cell?_setCell_other W ⟨w.heap.size + 2, 0, none⟩ ⟨w.heap.size, 0, none⟩ u (by simp)).trans hp
      have hsame : ∀ u, (W.setCell ⟨w.heap.size + 2, 0, none⟩ u).cell? ⟨w.heap.size + 2, 0, none⟩ = some u := fun u => World.cell?_setCell_same' _ _ _ (by rw [hc]; rfl)
      have HGO := Lib.hid hgo; have HPO := Lib.hid hpo; have HSA := Lib.hid hsame
      clear hgo hpo hsame hne hnp
      gi_wp2
      · rename_i hd
        have hc2 := HSA.out (.int .u32 (bits .or .u32 (v * 2 % 4294967296) (x % 4294967296)))
        refine ⟨((KeepsOthers.setCell _ _ _).trans (KeepsOthers.setCell _ _ _)).from _, ((KeepsFor.refl _ _ _ _).setCell (p := ⟨w.heap.size + 2, 0, none⟩) (Nat.le_add_right _ _) (by simp) (by simp) _).setCell (p := ⟨w.heap.size + 2, 0, none⟩) (Nat.le_add_right _ _) (by simp) (by simp) _, ⟨⟨⟨_, World.cell?_setCell_same' _ _ _ (by rw [hc2]; rfl), fun hb => (hS.out hb).2 hd⟩, by rw [World.frozen?_setCell, World.frozen?_setCell]; exact hf⟩, (World.cell?_setCell_other _ ⟨w.heap.size + 2, 0, none⟩ ⟨w.heap.size + 1, 0, none⟩ _ (by simp)).trans (HGO.out _), (World.cell?_setCell_other _ ⟨w.heap.size + 2, 0, none⟩ ⟨w.heap.size, 0, none⟩ _ (by simp)).trans (HPO.out _)⟩, (hB.setCell (p := ⟨w.heap.size + 2, 0, none⟩) (Nat.le_add_right _ _) _).setCell (p := ⟨w.heap.size + 2, 0, none⟩) (Nat.le_add_right _ _) _⟩
      · rename_i hd
        refine ⟨(KeepsOthers.setCell _ _ _).from _, (KeepsFor.refl _ _ _ _).setCell (p := ⟨w.heap.size + 2, 0, none⟩) (Nat.le_add_right _ _) (by simp) (by simp) _, ⟨⟨⟨_, HSA.out _, fun hb => (hS.out hb).1 hd⟩, by rw [World.frozen?_setCell]; exact hf⟩, HGO.out _, HPO.out _⟩, hB.setCell (p := ⟨w.heap.size + 2, 0, none⟩) (Nat.le_add_right _ _) _⟩
    case done =>
      rintro D ys W hD rfl ⟨⟨⟨⟨v, hc, hv⟩, hf⟩, hg, hp⟩, hB⟩ hKD
      have hbits : Bits (xs ++ zerosL 8) := fun y hy => by
        rcases List.mem_append.1 hy with h | h
        · exact hx y h
        · exact .inl (List.eq_of_mem_replicate h)
      have hve := hv hbits
      have hvr := regA_range k (xs ++ zerosL 8)
      have hcr := regA_crc (k := k) (xs := xs) (by rw [HK.out]; decide)
      rw [HK.out] at hvr hcr
      simp only at hvr hcr
      rw [← hve] at hvr hcr
      have hvr2 : 0 ≤ v ∧ v < 4294967296 := ⟨hvr.1, by have := hvr.2; omega⟩
      have HCR := Lib.hid hcr
      clear hve hv hcr hvr hg
      have hbin := Lib.hid (binary_any (w := W) hvr2 (show 8 ≤ 32 by decide))
      gi_wp2
      refine ⟨trivial, ?_⟩
      gi_at_call 72
      refine (callsIn_wide.2 hbin.out).mono ?_
      rintro e w6 ⟨A2, c2, rfl, hown, hb6⟩
      rw [HCR.out] at hown
      have hD6 : w6.heap[D]? = some (.deferred (some [])) := (hb6.block D (Array.getElem?_eq_some_iff.1 hKD).1).trans hKD
      have hDw := (Array.getElem?_eq_some_iff.1 hD6).1
      gi_wp2
      refine ⟨by simp, .inl ⟨_, _, rfl, run_takeDeferred hD6, ?_⟩⟩
      exact ⟨_, results_tmp rfl _ _ _, ⟨_, _, rfl, ownsRow_putObj (hown.mono hB.size) _ hD6 rfl⟩, (hB.trans (hb6.mono hB.size)).trans (belowK_b (w := w) (Nat.le_refl _) w6 D _ _ (by omega) hD6 rfl rfl)⟩
    case stop =>
      rintro D c pre W _ _ h _
      exact h.elim
theorem genN_LG {k : Int} (h : (genN k).2 ≠ 0) : ((genN k).2 = 24 ∧ (genN k).1 = 8801531) ∨ ((genN k).2 = 24 ∧ (genN k).1 = 8388707) ∨ ((genN k).2 = 16 ∧ (genN k).1 = 4129) ∨ ((genN k).2 = 8 ∧ (genN k).1 = 155) := by
  rcases genN_cases k with ⟨_, e⟩ | ⟨_, e⟩ | ⟨_, e⟩ | ⟨_, e⟩ | ⟨_, e⟩ <;> rw [e] at h ⊢
  · exact .inl ⟨rfl, rfl⟩
  · exact .inr (.inl ⟨rfl, rfl⟩)
  · exact .inr (.inr (.inl ⟨rfl, rfl⟩))
  · exact .inr (.inr (.inr ⟨rfl, rfl⟩))
  · exact absurd rfl h
theorem genN_le (k : Int) : (genN k).2 ≤ 24 := by
  rcases genN_cases k with ⟨_, e⟩ | ⟨_, e⟩ | ⟨_, e⟩ | ⟨_, e⟩ | ⟨_, e⟩ <;> rw [e] <;> decide
theorem checksum_any {A : Option Addr} {n c : Nat} {k : Int} {xs : List Int} {w : World} (hk : (genN k).2 ≠ 0) (hx : Bits xs) (hn : n ≤ 140737488351232) (hI : Rd .u8 w w.heap.size A n xs) :
    Calls Tryd.prog 66 #[kindV k, .slice A n c] w fun e W' => (∃ A2 c2, e = .returned (.slice A2 (genN k).2 c2) ∧
      W'.ownsRow w.heap.size 5 1 (.slice A2 (genN k).2 c2) (genN k).2 ((crcI k xs).map (Value.int .u8))) ∧ Below w.heap.size w W' := by
  unfold kindV
  refine callsIn_wide.1 (checksum_in 6 (by decide) A n c k xs (genN k).2 (genN k).1 (2 ^ (genN k).2 ||| (genN k).1) ?_ rfl hx hn w hI)
  rcases genN_LG hk with ⟨e1, e2⟩ | ⟨e1, e2⟩ | ⟨e1, e2⟩ | ⟨e1, e2⟩ <;> rw [e1, e2]
  · exact .inl ⟨rfl, rfl, by decide⟩
  · exact .inr (.inl ⟨rfl, rfl, by decide⟩)
  · exact .inr (.inr (.inl ⟨rfl, rfl, by decide⟩))
  · exact .inr (.inr (.inr ⟨rfl, rfl, by decide⟩))
end Go.Proofs.YtkdodmjhpkfhnaaDoor
