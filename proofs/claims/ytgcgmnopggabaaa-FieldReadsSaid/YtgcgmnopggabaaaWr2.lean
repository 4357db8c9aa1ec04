/-
  appendBytes.
-/
import Derived.Test.YtgcgmnopggabaaaWr1
import Derived.Maps.AppendAt
namespace Go.Proofs.Ytgcgmnopggabaaa
open Go.RowKit

/-- append of a byte slice that is read onto one of the call's own: where the new row lies. -/
theorem run_append_rd_at {P : Program} {w : World} {B base : Nat} {t ty e : TypeId} {i : TypeInfo} (ht : P.underlying t = some (.slice e)) (hi : P.info? e = some i) (hz : i.zero = some (.int .u8 0)) (hsize : i.size = 1) (hby : i.bytes = 1)
    {A : Option Addr} {V : Value} {n m c' : Nat} {xs ys : List Int} (hown : w.ownsRow base e 1 V n (xs.map (Value.int .u8))) (hR : Rd .u8 w B A m ys) (hlim : n + m ≤ 140737488355328) (hbase : base ≤ w.heap.size) :
    ∃ V' w', (Builtin.append_ #[t, t] ty #[V, .slice A m c']).run P w = .ok V' w' ∧
      w'.ownsRow base e 1 V' (n + m) ((xs ++ ys).map (Value.int .u8)) ∧ w.grownBy w' V.ownBlock ∧ (V'.ownBlock = V.ownBlock ∨ V'.ownBlock = some w.heap.size) := by
  rcases A with _ | a
  · obtain ⟨A1, c, hV⟩ := ownsRow_shape hown
    have hm : m = 0 := by
      rcases Nat.eq_zero_or_pos m with h0 | h0
      · exact h0
      · obtain ⟨_, _, h, _⟩ := hR.cells 0 h0
        cases h
    subst hm
    obtain rfl : ys = [] := List.eq_nil_of_length_eq_zero hR.len
    refine ⟨V, w, ?_, by simpa using hown, ⟨rfl, rfl, rfl, Nat.le_refl _, fun _ _ _ => rfl⟩, .inl rfl⟩
    rcases hown.2 with ⟨h1, h2⟩ | ⟨g, cap, cur, h1, _, _, hnc, _⟩
    · subst h1
      simp [Builtin.append_, run_underlying ht, sizeOf, typeInfo, hi, Builtin.lenOf, Builtin.firstCells]
    · subst h1
      simp [Builtin.append_, run_underlying ht, sizeOf, typeInfo, hi, Builtin.lenOf, Builtin.firstCells, hnc, storeCells]
  · have hnews : ∀ j u, (ys.map (Value.int .u8))[j]? = some u → w.cell? (a.add j) = some u := by
      intro j u hu
      rw [List.getElem?_map] at hu
      obtain ⟨y, hy, rfl⟩ := Option.map_eq_some_iff.1 hu
      obtain ⟨hj, _⟩ := List.getElem?_eq_some_iff.1 hy
      obtain ⟨b, off, he, _, hc⟩ := hR.cells j (by rw [← hR.len]; exact hj)
      injection he with he
      subst he
      rw [hy] at hc
      by_cases h0 : j = 0
      · subst h0; simpa [Addr.add] using hc
      · simpa [Addr.add, h0] using hc
    obtain ⟨v', w', hr, h2, h3, _, h5⟩ := run_append_own_at (P := P) w base t ty e i (.int .u8 0) 1 1 ht hi hz hsize hby rfl (by decide) _ n _ hown a m c' (ys.map (Value.int .u8)) (by simp [hR.len]) hnews (by simp [Value.oneCell']) (by unfold maxLen; omega) (by omega) hbase
    exact ⟨v', w', hr, by simpa using h2, h3, h5⟩

theorem Rd.block0 {q : IntKind} {w w' : World} {B n : Nat} {A : Option Addr} {xs : List Int} (h : Rd q w B A n xs) (hk : 0 < n → ∀ a, A = some a → w'.heap[a.block]? = w.heap[a.block]?) : Rd q w' B A n xs := by
  rcases Nat.eq_zero_or_pos n with h0 | hp
  · subst h0
    obtain rfl := List.eq_nil_of_length_eq_zero h.len
    exact Rd.nil _ _ _ _
  · exact h.block (hk hp)
set_option maxRecDepth 100000 in
set_option maxHeartbeats 2000000 in
theorem appendBytes_aligned {w : World} {B m c Bl : Nat} {A : Option Addr} {V : Value} {bs l : List Int} (h : WrtAt w B V bs) (hu : bs.length % 8 = 0) (hR : Rd .u8 w Bl A m l) (hl : Byte l) (hA : 0 < m → ∀ a, A = some a → a.block ≠ B) (hsz : bs.length + 8 * m ≤ 1099511627776) :
    Calls Try.prog 51 #[.pointer (some ⟨B, 0, none⟩), .slice A m c] w fun e w' => e = .returned (.tuple #[]) ∧ ∃ V', WrtAt w' B V' (bs ++ bitsOf l) ∧ Turn B V V' w w' := by
  obtain ⟨i0, hi, hz0, hz1, hz2⟩ := info_parts Try.info_u8
  obtain ⟨k, hk⟩ : ∃ k, bs.length = k := ⟨_, rfl⟩
  have hT := h.blk
  have hown := h.row
  have hBw := h.lt
  have hlen := hR.len
  rw [hk] at hT hown hsz hu
  have c0 := hT.cell0
  have c1 := hT.cell1
  have f0 := hT.frozen 0
  have f1 := hT.frozen 1
  have hd : ((k : Int) % 8 == 0) = true := by simp; omega
  have hd4 : (k : Int).tmod 8 = (k : Int) % 8 := IntWalk.rem_in _ _ (by omega)
  obtain ⟨W1, hW1⟩ : ∃ W1, W1 = w.setCell ⟨B, 1, none⟩ (.int .i64 ((k : Int) + 8 * (m : Int))) := ⟨_, rfl⟩
  have hT1 : Two W1 B 29 V (.int .i64 ((k : Int) + 8 * (m : Int))) := by rw [hW1]; exact hT.set1 _
  have hV : ∀ g, V.ownBlock = some g → B < g := fun g hg => (h.own_lt g hg).1
  have hown1 : W1.ownsRow (B + 1) 5 1 V ((k + 7) / 8) ((packL bs).map (Value.int .u8)) := by
    rw [hW1]
    refine hown.kept (grownBy_setCell_at _ ⟨B, 1, none⟩ _) ?_
    rcases hb : V.ownBlock with _ | g
    · exact .inl rfl
    · have := hV g hb; exact .inr (fun e => by injection e with e; simp at e; omega)
  have hR1 : Rd .u8 W1 Bl A m l := hR.block0 (fun hp a ha => by rw [hW1]; exact Below.heap_setCell _ _ _ _ (hA hp a ha))
  have hs1 : W1.heap.size = w.heap.size := by rw [hW1]; simp [World.setCell]
  have ht1 : Turn B V V w W1 := by rw [hW1]; exact turn_blk (Turn.refl _ _ _)
  obtain ⟨V', w2, hrun, hown2, hg2, hat⟩ := run_append_rd_at (P := Try.prog) (t := 25) (ty := 25) (c' := c) Try.underlying25 hi hz0 hz1 hz2 hown1 hR1 (by omega) (by omega)
  obtain ⟨A2, c2, rfl⟩ := ownsRow_shape hown2
  have hT2 : Two w2 B 29 V (.int .i64 ((k : Int) + 8 * (m : Int))) := (hg2.block B hT1.lt (fun e => by have := hV B e.symm; omega)).trans hT1
  have e0 := hT2.cell0
  have e2 := hT2.frozen 0
  rw [hW1] at hrun
  have hRun := Lib.hid hrun
  have HW := Lib.hid hW1
  have HU := Lib.hid hu
  have HK := Lib.hid hk
  have HG := Lib.hid hg2
  have HA := Lib.hid hat
  have HO := Lib.hid hown2
  have HS := Lib.hid hs1
  have HL := Lib.hid hlen
  clear hrun hW1 hu hk hg2 hat hown2 hs1 hown1 hR1 hlen hown
  go_enter Try.func51, Try.ntmps51
  go_wp2_with (at_builtin; refine Lib.wpList_append_run _ rfl _ _ _ _ rfl _ _ rfl rfl _ _ hRun.out ?_)
  refine bodyPost_ret (results_none rfl _ _ _) rfl ?_
  have hlen2 : (bs ++ bitsOf l).length = k + 8 * m := by rw [List.length_append, bitsOf_length, HK.out, HL.out]
  have hpk : packL (bs ++ bitsOf l) = packL bs ++ l := packL_bitsOf hl (by rw [HK.out]; exact HU.out)
  have hn : (k + 8 * m + 7) / 8 = (k + 7) / 8 + m := by omega
  have hg' : Save (WX B V) W1 w2 := ⟨HG.out.os, HG.out.tape, HG.out.output, HG.out.size, fun i hi hne => HG.out.block i hi (fun e => hne (.inr e))⟩
  refine ⟨rfl, .slice A2 ((k + 7) / 8 + m) c2, ⟨?_, ?_, ?_, ?_⟩, turn_blk ⟨ht1.1.trans hg', ?_⟩⟩
  · rw [hlen2]
    have := hT2.set0 (.slice A2 ((k + 7) / 8 + m) c2)
    exact this
  · rw [hlen2, hn, hpk]
    refine HO.out.kept (grownBy_setCell_at _ ⟨B, 0, none⟩ _) ?_
    rcases hb : (Value.slice A2 ((k + 7) / 8 + m) c2).ownBlock with _ | g
    · exact .inl rfl
    · have := (HO.out.lt g hb).1; exact .inr (fun e => by injection e with e; simp at e; omega)
  · exact fun x hx => (List.mem_append.1 hx).elim (h.bits x) (bitsOf_bits l x)
  · rw [hlen2]; exact hsz
  · intro i hi hne he
    rcases HA.out with h1 | h1
    · exact hne (by rw [he, h1])
    · rw [h1, HS.out] at he; injection he with he; omega

/-- Between two bytes of appendBytes at a position that is no multiple of 8: 'cur' is in the row, the count 'fin' stands already. -/
def Mid (w : World) (B : Nat) (V : Value) (cur : List Int) (fin : Int) (V' : Value) (W : World) : Prop :=
  Two W B 29 V' (.int .i64 fin) ∧ W.ownsRow (B + 1) 5 1 V' ((cur.length + 7) / 8) ((packL cur).map (Value.int .u8)) ∧ Turn B V V' w W

set_option maxRecDepth 100000 in
set_option maxHeartbeats 4000000 in
theorem appendBytes_across {w : World} {B m c Bl : Nat} {A : Option Addr} {V : Value} {bs l : List Int} (h : WrtAt w B V bs) (hu : bs.length % 8 ≠ 0) (hR : Rd .u8 w Bl A m l) (hl : Byte l) (hBl : Bl ≤ w.heap.size) (hA : 0 < m → ∀ a, A = some a → a.block ≠ B ∧ some a.block ≠ V.ownBlock) (hsz : bs.length + 8 * m ≤ 1099511627776) :
    Calls Try.prog 51 #[.pointer (some ⟨B, 0, none⟩), .slice A m c] w fun e w' => e = .returned (.tuple #[]) ∧ ∃ V', WrtAt w' B V' (bs ++ bitsOf l) ∧ Turn B V V' w w' := by
  obtain ⟨i0, hi, hz0, hz1, hz2⟩ := info_parts Try.info_u8
  obtain ⟨k, hk⟩ : ∃ k, bs.length = k := ⟨_, rfl⟩
  have hT := h.blk
  have hBw := h.lt
  have hL := Lib.hid hR.len
  rw [hk] at hT hsz hu
  have c0 := hT.cell0
  have c1 := hT.cell1
  have f1 := hT.frozen 1
  have hd : ((k : Int) % 8 == 0) = false := by simp; omega
  have hd4 : (k : Int).tmod 8 = (k : Int) % 8 := IntWalk.rem_in _ _ (by omega)
  have hMid : Hid (Mid w B V (bs ++ bitsOf (l.take 0)) ((k : Int) + 8 * (m : Int)) V (w.setCell ⟨B, 1, none⟩ (.int .i64 ((k : Int) + 8 * (m : Int))))) := Lib.hid (by
    refine ⟨hT.set1 _, ?_, turn_blk (Turn.refl _ _ _)⟩
    have e : bs ++ bitsOf (l.take 0) = bs := by simp [bitsOf, unpackL]
    rw [e]
    refine h.row.kept (grownBy_setCell_at _ ⟨B, 1, none⟩ _) ?_
    rcases hb : V.ownBlock with _ | g
    · exact .inl rfl
    · have := (h.own_lt g hb).1; exact .inr (fun e => by injection e with e; simp at e; omega))
  have HK := Lib.hid hk
  have HU := Lib.hid hu
  have hVn : V = .slice none 0 0 → k = 0 := by
    intro e
    have := h.row
    rw [hk, e] at this
    rcases this.2 with ⟨_, h0⟩ | ⟨g, cap, cur, h1, _⟩
    · omega
    · cases h1
  clear hk hu
  go_enter Try.func51, Try.ntmps51
  go_wp2_with fail
  go_loopw [35] (fun i wr => ∃ (j : Nat) (V' : Value), j ≤ m ∧ i = .int .i64 j ∧ Hid (Mid w B V (bs ++ bitsOf (l.take j)) ((k : Int) + 8 * (m : Int)) V' wr))
    (fun i _ => m - (intOf i).toNat)
  case atStart => exact ⟨0, V, Nat.zero_le _, rfl, hMid⟩
  case round =>
    obtain ⟨j, V', hj, rfl, hM⟩ := hrel
    by_cases hlt : j < m
    · obtain ⟨hT', hown', ht⟩ := hM.out
      have hclen : (bs ++ bitsOf (l.take j)).length = k + 8 * j := by rw [List.length_append, bitsOf_length, List.length_take, HK.out, hL.out]; omega
      have hcb : Bits (bs ++ bitsOf (l.take j)) := fun x hx => (List.mem_append.1 hx).elim (h.bits x) (bitsOf_bits _ x)
      obtain ⟨cur, hcur⟩ : ∃ cur, cur = bs ++ bitsOf (l.take j) := ⟨_, rfl⟩
      rw [← hcur] at hown' hclen hcb
      obtain ⟨N, hN⟩ : ∃ N, N = (cur.length + 7) / 8 := ⟨_, rfl⟩
      obtain ⟨jj, hjj⟩ : ∃ jj, jj = cur.length / 8 := ⟨_, rfl⟩
      have hNj : N = jj + 1 := by have := HU.out; omega
      rw [← hN] at hown'
      obtain ⟨g, cap, rfl, hg1, hg2⟩ := hown'.form (by omega)
      have hRw : Rd .u8 wr Bl A m l := hR.save ht.1 (by omega) (fun a ha hx => by
        rcases hx with hx | hx
        · exact (hA (by omega) a ha).1 hx
        · exact (hA (by omega) a ha).2 hx)
      obtain ⟨b, off, rfl, hb, hcell⟩ := hRw.cells j hlt
      have hbg : b ≠ g := fun e => ht.2 b (by omega) (hA (by omega) _ rfl).2 (by rw [e]; rfl)
      have hbB : b ≠ B := (hA (by omega) _ rfl).1
      have hxr := hl j
      have hor := byte_or hcb hxr.1 hxr.2
      have hnx := byte_next (x := l[j]?.getD 0) (bs := cur) (by have := HU.out; omega)
      have hpk := packL_byte (x := l[j]?.getD 0) (bs := cur) (by have := HU.out; omega)
      have hsn : bs ++ bitsOf (l.take (j + 1)) = cur ++ bitsOf [l[j]?.getD 0] := by
        rw [take_snoc l j (by rw [hL.out]; exact hlt) 0, bitsOf_snoc, hcur, List.append_assoc]
      have hm8 : cur.length % 8 = k % 8 := by omega
      rw [← hjj] at hor hnx hpk
      rw [hm8] at hor hnx
      generalize l[j]?.getD 0 = x at hcell hxr hor hnx hpk hsn
      obtain ⟨q1, hq1⟩ : ∃ q1, q1 = byteAt (cur ++ bitsOf [x]) jj := ⟨_, rfl⟩
      obtain ⟨q2, hq2⟩ : ∃ q2, q2 = byteAt (cur ++ bitsOf [x]) (jj + 1) := ⟨_, rfl⟩
      rw [← hq1] at hor hpk
      rw [← hq2] at hnx hpk
      have hor' : bits .or .u8 (byteAt cur jj) (x / 2 ^ ((k : Int) % 8).toNat) = q1 := by rw [show ((k : Int) % 8).toNat = k % 8 by omega]; exact hor
      have hnx' : IntKind.u8.wrap (x * 2 ^ (8 - (k : Int) % 8).toNat) = q2 := by rw [show (8 - (k : Int) % 8).toNat = 8 - k % 8 by omega]; exact hnx
      have e0 := hT'.cell0
      have hc : wr.cell? ⟨g, jj, none⟩ = some (.int .u8 (byteAt cur jj)) := by
        rw [hown'.cellAt jj (by omega), List.getElem?_map, packL_get _ _ (by omega)]
        rfl
      have hf := hown'.frozenAt jj
      have hpr := byteAt_range hcb jj
      generalize byteAt cur jj = p at hor' hc hpr
      have hi0 : (0 : Int) ≤ (N : Int) - 1 := by omega
      have hi1 : (N : Int) - 1 < (N : Int) := by omega
      have hi2 : IntKind.i64.wrap ((N : Int) - 1) = (N : Int) - 1 := IntWalk.i64_in _ (by omega)
      have hi3 : ((N : Int) - 1).toNat = jj := by omega
      have hi4 : (1 : Int) ≤ (N : Int) := by omega
      have hi5 : 1 ≤ N := by omega
      have hi6 : 0 < N := by omega
      have hd2 : (0 : Int) ≤ 8 - (k : Int) % 8 := by omega
      have hd5 : IntKind.i64.wrap (8 - (k : Int) % 8) = 8 - (k : Int) % 8 := IntWalk.i64_in _ (by omega)
      have hd6 : IntKind.i64.wrap ((k : Int) % 8) = (k : Int) % 8 := IntWalk.i64_in _ (by omega)
      have HF := Lib.hid (And.intro hpk (And.intro hsn (And.intro hclen hNj)))
      have HQ := Lib.hid hor'
      have HX := Lib.hid hnx'
      have HC := Lib.hid hcur
      have HN := Lib.hid hN
      have HJ := Lib.hid hjj
      clear hor hor' hnx hnx' hpk hsn hclen hNj hcur hN hjj hm8 hq1 hq2 hRw
      go_wp2_with fail
      go_still_tail 17, (by kernel_rfl)
      change wpList _ _ _ _ _ wr.drew
      rw [HQ.out]
      go_wp2_with fail
      obtain ⟨W5, hW5⟩ : ∃ W5, W5 = (wr.setCell ⟨g, jj, none⟩ (.int .u8 q1)).drew := ⟨_, rfl⟩
      rw [← hW5]
      have hT5 : Two W5 B 29 (.slice (some ⟨g, 0, none⟩) N cap) (.int .i64 ((k : Int) + 8 * (m : Int))) := by rw [hW5]; exact hT'.other (by simp; omega) _
      have hown5 : W5.ownsRow (B + 1) 5 1 (.slice (some ⟨g, 0, none⟩) N cap) N (((packL cur).map (Value.int .u8)).set jj (.int .u8 q1)) := by rw [hW5]; exact (hown'.stored jj _).1
      have ht5 : Turn B V (.slice (some ⟨g, 0, none⟩) N cap) w W5 := by rw [hW5]; exact (turn_store ht rfl).drew
      have hOW := Lib.hid hown5
      have hmt : N + 1 ≤ 140737488351232 := by have := HF.out.2.2.2; have := HJ.out; have := HF.out.2.2.1; omega
      have hB5 : B < W5.heap.size := hT5.lt
      have e0 := hT5.cell0
      have f0 := hT5.frozen 0
      have hT6 := hT5.alloc (.cells #[.int .u8 (IntKind.u8.wrap (x * 2 ^ (8 - (k : Int) % 8).toNat))] 5)
      have e6 := hT6.cell0
      clear hW5 hT' hown' ht hown5 hc hf hcell
      go_region_law ((refine step_append_lies _ (by rfl) _ _ _ (by rfl) (B + 1) 5 i0 (.int .u8 0) 1 1 Try.underlying25 hi hz0 hz1 hz2 rfl (by omega) (.slice (some ⟨g, 0, none⟩) N cap) N _ (by rfl) ((hOW.out.alloc _).drew) ⟨W5.heap.size, 0, none⟩ 1 1 [.int .u8 (IntKind.u8.wrap (x * 2 ^ (8 - (k : Int) % 8).toNat))] (by rfl) (by rfl) (World.news_of_block (cs := #[.int .u8 (IntKind.u8.wrap (x * 2 ^ (8 - (k : Int) % 8).toNat))]) (t := 5) (fr := (0, 0)) (heap_alloc_new W5 _)) (by simp [Value.oneCell']) (by omega) (by unfold maxLen; omega) (by omega) (by simp; omega) (W5.heap.size + 1) (by simp) ?_; intro gg cap3 w3 hown3 hgrow3 hat hlt3; have hT7 : Two w3 B 29 (.slice (some ⟨g, 0, none⟩) N cap) (.int .i64 ((k : Int) + 8 * (m : Int))) := (hgrow3.block B (by simp; omega) (by simp [Value.ownBlock]; omega)).trans hT6; have e7 := hT7.cell0; have f7 := hT7.frozen 0))
      all_goals
        have hM9 : Hid (Mid w B V (bs ++ bitsOf (l.take (j + 1))) ((k : Int) + 8 * (m : Int)) (.slice (some ⟨gg, 0, none⟩) (N + 1) cap3) (w3.setCell ⟨B, 0, none⟩ (.slice (some ⟨gg, 0, none⟩) (N + 1) cap3))) := Lib.hid (by
          obtain ⟨hpk, hsn, hclen, hNj⟩ := HF.out
          rw [HX.out] at hown3
          rw [hsn]
          refine ⟨hT7.set0 _, ?_, turn_blk (ht5.trans ⟨((Save.refl _ W5).alloc _).drew.grown hgrow3 (fun i hi hl => .inr hi.symm), fun i hi hne he => ?_⟩)⟩
          · have hl2 : (cur ++ bitsOf [x]).length = k + 8 * j + 8 := by rw [List.length_append, bitsOf_length, hclen]; rfl
            have hN2 : (k + 8 * j + 8 + 7) / 8 = N + 1 := by rw [HN.out, hclen]; omega
            have hr : ((packL cur).map (Value.int .u8)).set jj (.int .u8 q1) ++ [Value.int .u8 q2] = (packL (cur ++ bitsOf [x])).map (Value.int .u8) := by
              rw [hpk, List.map_append, List.map_set]; rfl
            rw [hl2, hN2, ← hr]
            exact hown3.kept (grownBy_setCell_at _ ⟨B, 0, none⟩ _) (.inr (by have := (hown3.lt gg rfl).1; simp [Value.ownBlock]; omega))
          · have he' : i = gg := by simpa [Value.ownBlock] using he
            rcases hat with h1 | h1
            · exact hne (by rw [h1, he'])
            · omega)
        clear hown3 hgrow3 hat hT7 e7 f7 hlt3
        go_wp2_with fail
        go_roundw
        case rel => exact ⟨j + 1, _, by omega, by go_num, hM9⟩
        case measure => simp [intOf]; omega
    · obtain rfl : j = m := by omega
      clear hlt
      go_wp2_with fail
      go_end0
      obtain ⟨h1, h2, h3⟩ := hM.out
      have e : l.take j = l := List.take_of_length_le (by rw [hL.out]; exact Nat.le_refl _)
      have hlen2 : (bs ++ bitsOf l).length = k + 8 * j := by rw [List.length_append, bitsOf_length, HK.out, hL.out]
      rw [e] at h2
      exact ⟨rfl, V', ⟨by rw [hlen2]; exact h1, h2, fun x hx => (List.mem_append.1 hx).elim (h.bits x) (bitsOf_bits l x), by rw [hlen2]; exact hsz⟩, h3⟩
end Go.Proofs.Ytgcgmnopggabaaa
