/-
  ratematch.Match of bits; what is known of a buffer that ideal values of one word were added to; DematchHolds: the stage's theorem.
-/
import Derived.Test.YtoegamlpgenfcaaDoorPo
import Derived.Test.YtoegamlpgenfcaaDoorDf
import Derived.Test.YtoegamlpgenfcaaDoorLe
import Derived.Test.YtoegamlpgenfcaaDoorL1
import Derived.Test.YtoegamlpgenfcaaDoorUs
import Derived.Test.YtoegamlpgenfcaaDoorRh
namespace Go.Proofs.YtoegamlpgenfcaaDoor
open Go.RowKit Go.Shelf

theorem noBitR_any {x : Int} {w : World} : Calls Tryd.prog 49 #[.int .u8 x] w fun e w' => e = .returned (.bool (decide (1 < x))) ∧ w' = w := by
  go_enter Tryd.func49, Tryd.ntmps49
  go_wp2
  go_ret
  exact ⟨rfl, rfl⟩
/-- A byte of a slice of one's own is stored. -/
theorem own_putB {w wr : World} {D N c p : Nat} {l l2 : List Int} {x : Int} (hO : wr.ownsRow w.heap.size 5 1 (.slice (some ⟨D, 0, none⟩) N c) N (l.map (Value.int .u8))) (hp : l.set p x = l2) (hl : p < l.length) :
    (wr.setCell ⟨D, p, none⟩ (.int .u8 x)).ownsRow w.heap.size 5 1 (.slice (some ⟨D, 0, none⟩) N c) N (l2.map (Value.int .u8)) ∧ wr.frozen? ⟨D, p, none⟩ = false ∧ ∃ y, wr.cell? ⟨D, p, none⟩ = some y := by
  have hst := (World.ownsRow.stored hO p (.int .u8 x)).1
  rw [← List.map_set, hp] at hst
  refine ⟨hst, World.ownsRow.frozenAt hO p, ?_⟩
  have hlen : N = l.length := by have := hO.1; simpa using this.symm
  have hcx := World.ownsRow.cellAt hO p (by omega)
  rw [List.getElem?_eq_getElem (by rw [List.length_map]; omega)] at hcx
  exact ⟨_, hcx⟩
/-- The positions of a selection, or none. -/
theorem pos_all {k f l v e : Nat} (h1 : 40 ≤ k) (h2 : k ≤ 6144) (h3 : f < k) (h4 : 1 ≤ l) (hv : v < 4) (he : e ≤ 131072) : (posS k f l v e).1.length ≤ 131072 ∧ ∀ j, j < (posS k f l v e).1.length → ∃ p : Nat, (posS k f l v e).1[j]?.getD 0 = (p : Int) ∧ p < 3 * (k + 4) := by
  by_cases h0 : (posS k f l v e).2 = 0
  · obtain ⟨a, b, c⟩ := pos_in (m := e) h0
    rw [a]
    refine ⟨b, fun j hj => ?_⟩
    obtain ⟨p, hp, hp2⟩ := c j hj
    exact ⟨p, hp, by simpa using hp2⟩
  · have hok := oks h1 h2 h3 h4 hv he
    rw [posS_ok hok] at h0 ⊢
    by_cases hn : 0 < e ∧ usable (cirI k f l) = 0
    · rw [if_pos hn]
      exact ⟨Nat.zero_le _, fun j hj => absurd hj (Nat.not_lt_zero j)⟩
    · rw [if_neg hn] at h0
      exact absurd rfl h0
def matL (W ps : List Int) : List Int := ps.map fun p => W[p.toNat]?.getD 0
set_option maxRecDepth 100000 in
set_option maxHeartbeats 4000000 in
theorem Match_bits {A : Option Addr} {n c k f l v e : Nat} {W : List Int} {w : World} (hK : KCol w) (h : Rd .u8 w w.heap.size A n W) (hn : n = 3 * (k + 4)) (hW : validB W = true) (h1 : 40 ≤ k) (h2 : k ≤ 6144) (h3 : f < k) (h4 : 1 ≤ l) (hv : v < 4) (he : e ≤ 131072) :
    Calls Tryd.prog 26 #[.slice A n c, .int .i64 (f : Int), .int .i64 (l : Int), .int .i64 (v : Int), .int .i64 (e : Int)] w (RetQ .u8 5 w (matL W (posS k f l v e).1, (posS k f l v e).2)) := by
  have hI := Lib.hid (fun (u : World) => isSelection_any (k := (k : Int)) (f := (f : Int)) (l := (l : Int)) (v := (v : Int)) (x := (e : Int)) (w := u))
  rw [oks h1 h2 h3 h4 hv he] at hI
  have hC := Lib.hid (containsFunc_any (c := c) (enters_of Tryd.func49 (by kernel_rfl) rfl) (fun x => noBitR_any (x := x)) h (by omega))
  rw [any_valid, hW] at hC
  have hP := Lib.hid (Positions_ok hK h1 h2 h3 h4 hv he)
  obtain ⟨hpl, hpp⟩ := pos_all h1 h2 h3 h4 hv he
  rw [← hn] at hpp
  generalize posS (k : Int) (f : Int) (l : Int) (v : Int) (e : Int) = r at *
  obtain ⟨ps, no⟩ := r
  dsimp only at hpl hpp ⊢
  obtain ⟨m, hm⟩ : ∃ m, ps.length = m := ⟨_, rfl⟩
  rw [hm] at hpl hpp
  have hz1 : (m : Int) ≤ 131072 := by omega
  have hnn : (n : Int) ≤ 18444 := by omega
  have hn0 : (0 : Int) ≤ (n : Int) := by omega
  have q1 : (n : Int) / 3 = (k : Int) + 4 := by omega
  have q2 : (k : Int) + 4 - 4 = (k : Int) := by omega
  have q3 : (n : Int) % 3 = 0 := by omega
  have q4 : (n : Int).tdiv 3 = (k : Int) + 4 := by rw [Int.tdiv_eq_ediv_of_nonneg hn0]; exact q1
  have q5 : (n : Int).tmod 3 = 0 := by rw [Int.tmod_eq_emod_of_nonneg hn0]; exact q3
  have k1 : (k : Int) ≤ 6144 := by omega
  have k0 : (40 : Int) ≤ (k : Int) := by omega
  have hmk := fun u => make_bytes m m (Nat.le_refl _) (by omega) u
  have HR := Lib.hid h
  have HPP := Lib.hid hpp
  have HM := Lib.hid hm
  clear h hn hW hK h1 h2 h3 h4 hv he hpp hm
  go_enter Tryd.func26, Tryd.ntmps26
  go_wp2_with (first | (go_at_call 47; refine (hI.out _).mono ?_; rintro e w' ⟨rfl, he⟩; obtain rfl := he.symm) | (go_at_call 48; refine hC.out.mono ?_; rintro e w' ⟨rfl, he⟩; obtain rfl := he.symm) | fail)
  refine hP.out.mono ?_
  rintro e w1 he
  obtain ⟨A1, c1, rfl, o1, b1⟩ := he.got HM.out
  have hO := own_zeros (w := w1) (B := w.heap.size) (n := m) (m := m) b1.size (by omega) (Nat.le_refl _)
  have hb2 := b1.alloc b1.size (.cells (madeCells #[.int .u8 0] m) 5)
  have R1 := (Rd.of_own o1).alloc (Nat.le_refl _) (.cells (madeCells #[.int .u8 0] m) 5)
  have HO := Lib.hid (show (w1.alloc (.cells (madeCells #[.int .u8 0] m) 5)).ownsRow w.heap.size 5 1 (.slice (some ⟨w1.heap.size, 0, none⟩) m m) m ((newL (fun j => W[(ps[j]?.getD 0).toNat]?.getD 0) m 0).map (Value.int .u8)) by rw [newL_zero]; exact hO)
  have HB := Lib.hid hb2
  have HP1 := Lib.hid R1
  clear hI hC hP he o1 b1 hO hb2 R1 q1 q2 q3 q4 q5
  go_wp2_with fail
  go_loopw [51] (fun i wr => ∃ j : Nat, j ≤ m ∧ i = .int .i64 (j : Int) ∧ Hid (wr.ownsRow w.heap.size 5 1 (.slice (some ⟨w1.heap.size, 0, none⟩) m m) m ((newL (fun j => W[(ps[j]?.getD 0).toNat]?.getD 0) m j).map (Value.int .u8))) ∧ Hid (Below w.heap.size w wr) ∧ Hid (Rd .i64 wr w1.heap.size A1 m ps)) (fun i _ => m - (intOf i).toNat)
  case atStart => exact ⟨0, Nat.zero_le _, rfl, HO, HB, HP1⟩
  case round =>
    obtain ⟨j, hj, rfl, hO, hb, hPs⟩ := hrel
    by_cases hlt : j < m
    · have hz : (j : Int) < (m : Int) := by omega
      have hz0 : (0 : Int) ≤ (j : Int) := by omega
      obtain ⟨p, hp1, hp2⟩ := HPP.out j hlt
      obtain ⟨b, off, rfl, hbl, hc⟩ := hPs.out.cells j hlt
      rw [hp1] at hc
      obtain ⟨b', off', rfl, hbl', hc0⟩ := HR.out.cells p hp2
      have hc' := (hb.out.cell (p := ⟨b', off' + p, none⟩) hbl').trans hc0
      obtain ⟨o1, o2, y, o3⟩ := own_putB hO.out (newL_set (f := fun j => W[(ps[j]?.getD 0).toNat]?.getD 0) hlt) (by unfold newL; simp; omega)
      try dsimp only at o1
      rw [hp1, Int.toNat_natCast] at o1
      generalize W[p]?.getD 0 = x at *
      have O1 := Lib.hid o1
      have hzp : (p : Int) < (n : Int) := by omega
      have hzp0 : (0 : Int) ≤ (p : Int) := by omega
      clear hO o1 hmk hp1 hc0 hbl hbl'
      go_wp2_with fail
      go_roundw
      case rel => exact ⟨j + 1, by omega, by go_num, O1, Lib.hid (hb.out.setCell (p := ⟨w1.heap.size, j, none⟩) (show w.heap.size ≤ w1.heap.size by have := HB.out.size; simp at this; exact (World.ownsRow.lt HO.out w1.heap.size rfl).1) _), Lib.hid (hPs.out.setCell (p := ⟨w1.heap.size, j, none⟩) (Nat.le_refl _) _)⟩
      case measure => simp [intOf]; omega
    · obtain rfl : j = m := by omega
      clear hlt hmk
      go_wp2_with fail
      go_ret2
      have h := hO.out
      rw [newL_all] at h
      have e : (List.range j).map (fun j => W[(ps[j]?.getD 0).toNat]?.getD 0) = matL W ps := by
        unfold matL
        exact map_get (fun p => W[p.toNat]?.getD 0) ps HM.out
      rw [e] at h
      exact RetQ.mk_ (by unfold matL; rw [List.length_map, HM.out]) h (Nat.le_refl _) hb.out rfl
end Go.Proofs.YtoegamlpgenfcaaDoor

namespace Go.Proofs.YtoegamlpgenfcaaDoor

/-- The word: bits, noughts at the fillers. -/
structure WordOk (K F : Nat) (W : List Int) : Prop where
  len : W.length = 3 * (K + 4)
  bit : ∀ p : Nat, W[p]?.getD 0 = 0 ∨ W[p]?.getD 0 = 1
  fil : ∀ i, fillB K F i = true → W[i]?.getD 0 = 0
structure HoldI (K F L : Nat) (W : List Int) (s : St) (kn : Nat) : Prop where
  par : s.k = K ∧ s.f = F ∧ s.l = L
  right : ∀ p : Nat, Right (s.V[p]?.getD 0) (W[p]?.getD 0)
  fill : ∀ i, i < 3 * (K + 4) → fillB K F i = true → s.V[i]?.getD 0 ≠ 0
  kn : kn = 2 * F ∨ (kn = 2 * F + usable (cirI K F L) ∧ ∀ p : Nat, (p : Int) ∈ cirI K F L → s.V[p]?.getD 0 ≠ 0)
theorem hold_new {K F L : Nat} {W : List Int} (hW : WordOk K F W) : HoldI K F L W (newSt K F L) (2 * F) := by
  refine ⟨⟨rfl, rfl, rfl⟩, fun p => ?_, fun i hi hf => ?_, .inl rfl⟩
  · show Right ((newV K F)[p]?.getD 0) _
    rcases Nat.lt_or_ge p (3 * (K + 4)) with h | h
    · rw [newV_at h]
      by_cases hf : fillB K F p = true
      · rw [if_pos hf, hW.fil p hf]; unfold Right; omega
      · rw [if_neg hf]; unfold Right; omega
    · rw [List.getElem?_eq_none (by rw [newV_length]; exact h)]
      show Right 0 _
      unfold Right; omega
  · show (newV K F)[i]?.getD 0 ≠ 0
    rw [newV_at hi, if_pos hf]; decide
theorem sel_all {K F L v e : Nat} (h2 : K ≤ 6144) (he : usable (cirI K F L) ≤ e) {p : Nat} (hp : (p : Int) ∈ cirI K F L) : ∃ i, i < e ∧ (selL (cirI K F L) v e)[i]?.getD 0 = (p : Int) := by
  have hu : useB (p : Int) = true := decide_eq_true (by omega)
  have hpos : 1 ≤ usable (cirI K F L) := by
    rcases Nat.eq_zero_or_pos (usable (cirI K F L)) with h | h
    · have := usable_pos h _ hp
      rw [hu] at this; cases this
    · exact h
  have hc1 : (cirI K F L).count (p : Int) = 1 := by
    have a := (count_buf (f := F) (n := sizN K L) (p := p) h2).1
    have b : 0 < (cirI K F L).count (p : Int) := List.count_pos_iff.2 hp
    unfold cirI at b ⊢
    omega
  have hc := (sel_count (s := v) (e := e) hu hc1).1
  have h1 : 1 ≤ e / usable (cirI K F L) := (Nat.one_le_div_iff (by omega)).2 he
  have hm : (p : Int) ∈ selL (cirI K F L) v e := List.count_pos_iff.1 (by omega)
  obtain ⟨i, hi, e2⟩ := List.getElem_of_mem hm
  rw [selL_length] at hi
  exact ⟨i, hi, by rw [List.getElem?_eq_getElem (by rw [selL_length]; exact hi), e2]; rfl⟩
theorem matL_at {W ps : List Int} {i : Nat} (h : i < ps.length) : (matL W ps)[i]?.getD 0 = W[(ps[i]?.getD 0).toNat]?.getD 0 := by
  unfold matL
  rw [List.getElem?_map, List.getElem?_eq_getElem h]
  rfl
theorem matL_bits {K F : Nat} {W ps : List Int} (hW : WordOk K F W) : ∀ b ∈ matL W ps, b = 0 ∨ b = 1 := by
  intro b hb
  obtain ⟨p, _, rfl⟩ := List.mem_map.1 hb
  exact hW.bit _
theorem hold_step {K F L v e : Nat} {m : Int} {W : List Int} {s : St} {kn : Nat} (h1 : 40 ≤ K) (h2 : K ≤ 6144) (h3 : F < K) (h4 : 1 ≤ L) (hv : v < 4) (he : e ≤ 131072) (hW : WordOk K F W) (hs : s.Ok) (h : HoldI K F L W s kn) (h0 : (posS K F L v e).2 = 0) (m0 : 1 ≤ m) (m1 : m ≤ 127) :
    HoldI K F L W { s with V := accV s.V (posS K F L v e).1 (idealI m (matL W (posS K F L v e).1)) e, n := s.n + e } (if usable (cirI K F L) ≤ e then 2 * F + usable (cirI K F L) else kn) := by
  obtain ⟨hpl, _, hpp⟩ := pos_in (m := e) h0
  have hlen : s.V.length = 3 * (K + 4) := by rw [hs.len, h.par.1]
  have hA := acc_right (W := fun p => W[p]?.getD 0) (V := s.V) (at' := (posS K F L v e).1) (l := idealI m (matL W (posS K F L v e).1)) (m := m) hW.bit m0 m1 h.right e (fun i hi => by
    obtain ⟨p, hp, hp2⟩ := hpp i hi
    refine ⟨p, hp, by rw [hlen]; simpa using hp2, ?_⟩
    have hi2 : i < (matL W (posS K F L v e).1).length := by unfold matL; rw [List.length_map, hpl]; exact hi
    unfold idealI
    rw [List.getElem?_map, List.getElem?_eq_getElem hi2, Option.map_some, Option.getD_some]
    have := matL_at (W := W) (ps := (posS K F L v e).1) (i := i) (by rw [hpl]; exact hi)
    rw [List.getElem?_eq_getElem hi2, Option.getD_some, hp, Int.toNat_natCast] at this
    rw [this])
  refine ⟨h.par, hA.1, fun i hi hf => hA.2.1 i (h.fill i hi hf), ?_⟩
  by_cases hu : usable (cirI K F L) ≤ e
  · rw [if_pos hu]
    refine .inr ⟨rfl, fun p hp => ?_⟩
    have hok := oks h1 h2 h3 h4 hv he
    have hpe := posS_ok hok
    by_cases hn : 0 < e ∧ usable (cirI K F L) = 0
    · rw [hpe, if_pos hn] at h0; cases h0
    · rw [if_neg hn] at hpe
      obtain ⟨i, hi, hpi⟩ := sel_all (v := startN K (sizN K L) v) h2 hu hp
      refine hA.2.2 i p hi ?_
      rw [hpe]
      exact hpi
  · rw [if_neg hu]
    rcases h.kn with e1 | ⟨e1, e2⟩
    · exact .inl e1
    · exact .inr ⟨e1, fun p hp => hA.2.1 p (e2 p hp)⟩
theorem hold_end {K F L : Nat} {W : List Int} {s : St} {kn : Nat} (h2 : K ≤ 6144) (h3 : F < K) (hW : WordOk K F W) (h : HoldI K F L W s kn) : wrongN s.V W (3 * (K + 4)) = 0 ∧ kn ≤ knoN s.V (3 * (K + 4)) := by
  refine ⟨wrong_zero (fun i _ => (h.right i).wr (hW.bit i)), ?_⟩
  rcases h.kn with e1 | ⟨e1, e2⟩
  · rw [e1, ← fill_count (k := K) (f := F) (n := 3 * (K + 4)) (by omega) (by omega)]
    unfold knoN
    refine List.countP_mono_left (fun i hi hf => decide_eq_true (h.fill i (List.mem_range.1 hi) hf))
  · rw [e1]
    exact known_ge h2 (by omega) rfl h.fill (c := sizN K L) e2
theorem matL_valid {K F : Nat} {W ps : List Int} (hW : WordOk K F W) : validB (matL W ps) = true := by
  unfold validB
  rw [List.all_eq_true]
  intro b hb
  rcases matL_bits hW b hb with rfl | rfl <;> decide
theorem ideal_soft {m : Int} {bits : List Int} (hb : ∀ b ∈ bits, b = 0 ∨ b = 1) (m0 : 1 ≤ m) (m1 : m ≤ 127) : softB (idealI m bits) = true := by
  unfold softB idealI
  rw [List.all_eq_true]
  intro x hx
  obtain ⟨b, hb2, rfl⟩ := List.mem_map.1 hx
  unfold idealE
  rcases hb b hb2 with rfl | rfl <;> simp <;> omega
end Go.Proofs.YtoegamlpgenfcaaDoor

namespace Go.Proofs.YtoegamlpgenfcaaDoor
open Go.RowKit Go.Shelf

theorem oks12 {v e : Int} (h0 : 0 ≤ e) (h1 : e ≤ 1000) (h2 : 0 ≤ v) (h3 : v ≤ 3) : ∃ V E : Nat, v = (V : Int) ∧ e = (E : Int) ∧ V < 4 ∧ E ≤ 1000 := ⟨v.toNat, e.toNat, by omega, by omega, by omega, by omega⟩
/-- A word with noughts up to the jth filler of both streams. -/
structure WordTo (K F j : Nat) (W : List Int) : Prop where
  len : W.length = 3 * (K + 4)
  bit : ∀ p : Nat, W[p]?.getD 0 = 0 ∨ W[p]?.getD 0 = 1
  fst : ∀ i, i < j → W[i]?.getD 0 = 0
  snd : ∀ i, i < j → W[K + 4 + i]?.getD 0 = 0
theorem get_set0 (W : List Int) (p q : Nat) (x : Int) (hp : p < W.length) : (W.set p x)[q]?.getD 0 = if q = p then x else W[q]?.getD 0 := by
  by_cases h : q = p
  · subst h; rw [if_pos rfl, List.getElem?_set_self hp]; rfl
  · rw [if_neg h, List.getElem?_set_ne (fun e => h e.symm)]
theorem WordTo.step {K F j : Nat} {W : List Int} (h : WordTo K F j W) (hj : j < K) : WordTo K F (j + 1) ((W.set j 0).set (K + 4 + j) 0) := by
  have hl := h.len
  have e : ∀ q, ((W.set j 0).set (K + 4 + j) 0)[q]?.getD 0 = if q = K + 4 + j then 0 else if q = j then 0 else W[q]?.getD 0 := by
    intro q
    rw [get_set0 _ _ _ _ (by rw [List.length_set]; omega), get_set0 _ _ _ _ (by omega)]
  refine ⟨by simpa using hl, fun p => ?_, fun i hi => ?_, fun i hi => ?_⟩
  · rw [e]
    by_cases h1 : p = K + 4 + j
    · rw [if_pos h1]; exact .inl rfl
    · rw [if_neg h1]
      by_cases h2 : p = j
      · rw [if_pos h2]; exact .inl rfl
      · rw [if_neg h2]; exact h.bit p
  · rw [e]
    by_cases h1 : i = K + 4 + j
    · rw [if_pos h1]
    · rw [if_neg h1]
      by_cases h2 : i = j
      · rw [if_pos h2]
      · rw [if_neg h2]; exact h.fst i (by omega)
  · rw [e]
    by_cases h1 : K + 4 + i = K + 4 + j
    · rw [if_pos h1]
    · rw [if_neg h1]
      by_cases h2 : K + 4 + i = j
      · rw [if_pos h2]
      · rw [if_neg h2]; exact h.snd i (by omega)
theorem WordTo.done {K F : Nat} {W : List Int} (h : WordTo K F F W) : WordOk K F W := by
  refine ⟨h.len, h.bit, fun i hi => ?_⟩
  unfold fillB at hi
  simp at hi
  rcases hi with h1 | ⟨h1, h2⟩
  · exact h.fst i h1
  · have := h.snd (i - (K + 4)) (by omega)
    rw [show K + 4 + (i - (K + 4)) = i by omega] at this
    exact this
theorem bits_set {W : List Int} {p : Nat} {y : Int} (h : ∀ q : Nat, W[q]?.getD 0 = 0 ∨ W[q]?.getD 0 = 1) (hy : y = 0 ∨ y = 1) : ∀ q : Nat, (W.set p y)[q]?.getD 0 = 0 ∨ (W.set p y)[q]?.getD 0 = 1 := by
  intro q
  by_cases hp : p < W.length
  · rw [get_set0 _ _ _ _ hp]
    by_cases e : q = p
    · rw [if_pos e]; exact hy
    · rw [if_neg e]; exact h q
  · rw [List.set_eq_of_length_le (by omega)]; exact h q
theorem WordOk.valid {K F : Nat} {W : List Int} (h : WordOk K F W) : validB W = true := by
  unfold validB
  rw [List.all_eq_true]
  intro x hx
  obtain ⟨k, hk, rfl⟩ := List.getElem_of_mem hx
  have := h.bit k
  rw [List.getElem?_eq_getElem hk, Option.getD_some] at this
  rcases this with e | e <;> rw [e] <;> decide
theorem WordOk.byte {K F : Nat} {W : List Int} (h : WordOk K F W) : Byte W := fun k => by rcases h.bit k with e | e <;> rw [e] <;> decide
theorem matL_byte {K F : Nat} {W ps : List Int} (h : WordOk K F W) : Byte (matL W ps) := Byte.of_mem fun x hx => by rcases matL_bits h x hx with rfl | rfl <;> decide
structure HoldAt (w W : World) (X B : Nat) (K F L m : Nat) (Wd : List Int) (s : St) (kn : Nat) : Prop where
  wk : WkA w W B s
  ne : X ≠ B
  lt : X < W.heap.size
  rd : Rd .u8 W W.heap.size (some ⟨X, 0, none⟩) m Wd
  hold : HoldI K F L Wd s kn
section
variable {w W W' : World} {X B K F L m kn : Nat} {Wd : List Int} {s : St}
theorem HoldAt.step (h : HoldAt w W X B K F L m Wd s kn) (hb : Below W.heap.size W W') : HoldAt w W' X B K F L m Wd s kn :=
  ⟨h.wk.step hb, h.ne, Nat.lt_of_lt_of_le h.lt hb.size, h.rd.step hb, h.hold⟩
theorem HoldAt.drew (h : HoldAt w W X B K F L m Wd s kn) : HoldAt w W.drew X B K F L m Wd s kn := h.step (Below.refl _ _).drew
theorem rd_own {W : World} {X B0 n : Nat} {xs : List Int} (h : Rd .u8 W B0 (some ⟨X, 0, none⟩) n xs) (_hX : X < B0) {W' : World} (hc : ∀ p : Addr, p.block = X → W'.cell? p = W.cell? p) {B1 : Nat} (h1 : X < B1) : Rd .u8 W' B1 (some ⟨X, 0, none⟩) n xs :=
  ⟨h.len, fun k hk => by
    obtain ⟨b, off, e, hb, hcell⟩ := h.cells k hk
    injection e with e
    injection e with e1 e2
    subst e1 e2
    exact ⟨X, 0, rfl, h1, (hc ⟨X, 0 + k, none⟩ rfl).trans hcell⟩⟩
theorem HoldAt.turn {r : St × Int} {e : Ending} {kn' : Nat} (h : HoldAt w W X B K F L m Wd s kn) (ht : TurnB W B r e W') (hh : HoldI K F L Wd r.1 kn') : HoldAt w W' X B K F L m Wd r.1 kn' := by
  obtain ⟨A, N, c, h1, h2, h3⟩ := id ht
  exact ⟨h.wk.turn ht, h.ne, Nat.lt_of_lt_of_le h.lt h3.size, rd_own h.rd h.lt (fun p hp => h3.cell (p := p) (by rw [hp]; exact h.lt) (by rw [hp]; exact h.ne)) (Nat.lt_of_lt_of_le h.lt h3.size), hh⟩
end
/-- The step of the state, as Add makes it. -/
theorem hold_add {K F L v e : Nat} {g : Int} {W : List Int} {s : St} {kn : Nat} (h1 : 40 ≤ K) (h2 : K ≤ 6144) (h3 : F < K) (h4 : 1 ≤ L) (hv : v < 4) (he : e ≤ 131072) (hW : WordOk K F W) (hs : s.Ok) (h : HoldI K F L W s kn) (h0 : (posS K F L v e).2 = 0) (m0 : 1 ≤ g) (m1 : g ≤ 127) :
    (addSt s v (idealI g (matL W (posS K F L v e).1))).2 = 0 ∧ HoldI K F L W (addSt s v (idealI g (matL W (posS K F L v e).1))).1 (if usable (cirI K F L) ≤ e then 2 * F + usable (cirI K F L) else kn) ∧ (addSt s v (idealI g (matL W (posS K F L v e).1))).1.n = s.n + e := by
  have hl : (idealI g (matL W (posS K F L v e).1)).length = e := by
    unfold idealI matL
    rw [List.length_map, List.length_map]
    exact (pos_in (m := e) h0).1
  have hst := hold_step h1 h2 h3 h4 hv he hW hs h h0 m0 m1
  obtain ⟨p1, p2, p3⟩ := h.par
  have e : addSt s v (idealI g (matL W (posS K F L v e).1)) = ({ s with V := accV s.V (posS K F L v e).1 (idealI g (matL W (posS K F L v e).1)) e, n := s.n + e }, 0) := by
    unfold addSt
    rw [hl, if_pos (ideal_soft (matL_bits hW) m0 m1), p1, p2, p3, if_pos h0]
  rw [e]
  exact ⟨rfl, hst, rfl⟩
/-- Match had nothing to take: the buffer has no usable place. -/
theorem pos_err {K F L v e : Nat} (h1 : 40 ≤ K) (h2 : K ≤ 6144) (h3 : F < K) (h4 : 1 ≤ L) (hv : v < 4) (he : e ≤ 131072) (h0 : (posS K F L v e).2 ≠ 0) : usable (cirI K F L) = 0 ∧ 0 < e ∧ posS K F L v e = ([], 10) := by
  have hp := posS_ok (oks h1 h2 h3 h4 hv he)
  by_cases hn : 0 < e ∧ usable (cirI K F L) = 0
  · rw [if_pos hn] at hp
    exact ⟨hn.2, hn.1, hp⟩
  · rw [if_neg hn] at hp
    exact absurd (by rw [hp]) h0
theorem ideal_ok {K F : Nat} {W ps : List Int} {g : Int} (hW : WordOk K F W) (m0 : 1 ≤ g) (m1 : g ≤ 127) : idealS (matL W ps) g = (idealI g (matL W ps), 0) := by
  unfold idealS
  rw [if_pos (by simp; omega), if_pos (matL_valid hW)]
/-- At the end: what Compare says. -/
theorem hold_cmp {K F L : Nat} {W : List Int} {s : St} {kn : Nat} (h2 : K ≤ 6144) (h3 : F < K) (hW : WordOk K F W) (hs : s.Ok) (h : HoldI K F L W s kn) : ∃ u k2 : Nat, compareS s.V W = ((0, u), 0) ∧ k2 + u = 3 * (K + 4) ∧ kn ≤ k2 ∧ knoN s.V (3 * (K + 4)) = k2 := by
  have hl : s.V.length = 3 * (K + 4) := by rw [hs.len, h.par.1]
  obtain ⟨e1, e2⟩ := hold_end h2 h3 hW h
  refine ⟨unkN s.V (3 * (K + 4)), knoN s.V (3 * (K + 4)), ?_, knoN_unk _ _, e2, rfl⟩
  unfold compareS
  rw [hl, hW.len, if_pos (by rw [hs.soft]; simp), if_pos hW.valid, e1]
end Go.Proofs.YtoegamlpgenfcaaDoor

namespace Go.Proofs.YtoegamlpgenfcaaDoor
open Go.RowKit Go.Shelf

set_option maxRecDepth 100000 in
set_option maxHeartbeats 8000000 in
theorem holds_walk {k f l seed : Int} {A4 A5 A6 : Option Addr} {n4 c4 n5 c5 n6 c6 : Nat} {r4 r5 r6 : List Int} {w : World} (hK : Kinds w) (hR4 : Rd .i64 w w.heap.size A4 n4 r4) (hR5 : Rd .i64 w w.heap.size A5 n5 r5) (hR6 : Rd .i64 w w.heap.size A6 n6 r6) :
    Calls Tryd.prog 8 #[.int .i64 k, .int .i64 f, .int .i64 l, .int .i64 seed, .slice A4 n4 c4, .slice A5 n5 c5, .slice A6 n6 c6] w fun e w' => e = .returned (.bool true) ∧ Below w.heap.size w w' := by
  have hN := Lib.hid (fun (e : Int) (u : World) => num12_any (e := e) (w := u))
  have hWk := Lib.hid (fun (u : World) (hb : Below w.heap.size w u) => works_any (hK.step hb))
  have hz := hK.col.lt
  have hV := Lib.hid (fun (u : World) => refValidR_any (k := k) (f := f) (l := l) (w := u))
  have hn4 : (0 : Int) ≤ (n4 : Int) := by omega
  have hn5 : (0 : Int) ≤ (n5 : Int) := by omega
  have hn6 : (0 : Int) ≤ (n6 : Int) := by omega
  by_cases hgo : k ≤ 200 ∧ okB k f l = true ∧ n4 ≤ 6 ∧ n4 ≤ n5 ∧ n4 ≤ n6
  · obtain ⟨g1, hB, g3, g4, g5⟩ := hgo
    have hBs := Lib.hid hB
    rw [hB] at hV
    have x3 : (n4 : Int) ≤ 6 := by omega
    have x4 : (n4 : Int) ≤ (n5 : Int) := by omega
    have x5 : (n4 : Int) ≤ (n6 : Int) := by omega
    obtain ⟨K, F, L, rfl, rfl, rfl, h1, h2, h3, h4⟩ := okB_nat hB
    obtain ⟨m, hm⟩ : ∃ m, 3 * (K + 4) = m := ⟨_, rfl⟩
    have hm1 : 3 * ((K : Int) + 4) = (m : Int) := by omega
    have hmz : (m : Int) ≤ 612 := by omega
    have hm0 : (0 : Int) ≤ (m : Int) := by omega
    have hK2 : (K : Int) ≤ 200 := by omega
    have hF2 : (F : Int) < (K : Int) := by omega
    have hF0 : (0 : Int) ≤ (F : Int) := by omega
    have hmk := fun u => make_bytes m m (Nat.le_refl _) (by omega) u
    have hO0 := own_zeros (w := w) (B := w.heap.size) (n := m) (m := m) (Nat.le_refl _) (by omega) (Nat.le_refl _)
    have hb0 := (Below.refl w.heap.size w).alloc (Nat.le_refl _) (.cells (madeCells #[.int .u8 0] m) 5)
    have HO := Lib.hid hO0
    have HB := Lib.hid hb0
    have HK := Lib.hid hK
    have H4 := Lib.hid hR4
    have H5 := Lib.hid hR5
    have H6 := Lib.hid hR6
    have HP := Lib.hid (show 40 ≤ K ∧ K ≤ 6144 ∧ F < K ∧ 1 ≤ L ∧ K ≤ 200 from ⟨h1, h2, h3, h4, by omega⟩)
    have HM := Lib.hid hm
    have HG := Lib.hid (show n4 ≤ 6 ∧ n4 ≤ n5 ∧ n4 ≤ n6 from ⟨g3, g4, g5⟩)
    clear hO0 hb0 hK hR4 hR5 hR6 hB h1 h2 h3 h4 hm g1 hz
    go_enter Tryd.func8, Tryd.ntmps8
    go_wp2_with (first | (go_at_call 24; refine (hV.out _).mono ?_; rintro e w6 ⟨rfl, he⟩; obtain rfl := he.symm) | fail)
    clear hmk hV hm1
    obtain ⟨v0, hv0, hv00, hv01⟩ : ∃ v0, seed % 4294967296 = v0 ∧ 0 ≤ v0 ∧ v0 < 4294967296 := ⟨_, rfl, by omega, by omega⟩
    go_loopw [16, 17] (fun x i wr => ∃ (v : Int) (j : Nat) (W : List Int), 0 ≤ v ∧ v < 4294967296 ∧ x = .int .u32 v ∧ j ≤ m ∧ i = .int .i64 (j : Int) ∧ Hid (WordTo K F 0 W) ∧ Hid (wr.ownsRow w.heap.size 5 1 (.slice (some ⟨w.heap.size, 0, none⟩) m m) m (W.map (Value.int .u8))) ∧ Hid (Below w.heap.size w wr)) (fun _ i _ => m - (intOf i).toNat)
    case atStart => exact ⟨v0, 0, _, hv00, hv01, by first | rfl | rw [hv0], Nat.zero_le _, rfl, Lib.hid ⟨by rw [List.length_replicate]; exact HM.out.symm, fun p => .inl zero_at, fun i hi => absurd hi (Nat.not_lt_zero i), fun i hi => absurd hi (Nat.not_lt_zero i)⟩, HO, HB⟩
    case round =>
      obtain ⟨v, j, W, hva, hvb, rfl, hj, rfl, hl, hO, hb⟩ := hrel
      by_cases hlt : j < m
      · have hz : (j : Int) < (m : Int) := by omega
        have hz0 : (0 : Int) ≤ (j : Int) := by omega
        obtain ⟨v1, hv1, hv10, hv11⟩ : ∃ v1, IntKind.u32.wrap (v * 1664525) = v1 ∧ 0 ≤ v1 ∧ v1 < 4294967296 := ⟨_, rfl, u32_range _⟩
        obtain ⟨v2, hv2, hv20, hv21⟩ : ∃ v2, IntKind.u32.wrap (v1 + 1013904223) = v2 ∧ 0 ≤ v2 ∧ v2 < 4294967296 := ⟨_, rfl, u32_range _⟩
        obtain ⟨y, hy, hy0, hy1⟩ : ∃ y, v2 / 2147483648 = y ∧ 0 ≤ y ∧ y ≤ 1 := ⟨_, rfl, by omega, by omega⟩
        obtain ⟨o1, o2, y2, o3⟩ := own_putB hO.out (x := y) rfl (by rw [hl.out.len, HM.out]; exact hlt)
        have O1 := Lib.hid o1
        clear hO o1
        go_wp2_with fail
        go_roundw
        case rel => exact ⟨v2, j + 1, _, hv20, hv21, rfl, by omega, by go_num, Lib.hid ⟨by rw [List.length_set]; exact hl.out.len, bits_set hl.out.bit (by omega), fun i hi => absurd hi (Nat.not_lt_zero i), fun i hi => absurd hi (Nat.not_lt_zero i)⟩, O1, Lib.hid (hb.out.setCell (p := ⟨w.heap.size, j, none⟩) (Nat.le_refl _) _)⟩
        case measure => simp [intOf]; omega
      · clear HO HB hv0 hv00 hv01 hva hvb
        have HW := hl
        go_wp2_with fail
        go_loopw [18] (fun i wr => ∃ (j : Nat) (W : List Int), j ≤ F ∧ i = .int .i64 (j : Int) ∧ Hid (WordTo K F j W) ∧ Hid (wr.ownsRow w.heap.size 5 1 (.slice (some ⟨w.heap.size, 0, none⟩) m m) m (W.map (Value.int .u8))) ∧ Hid (Below w.heap.size w wr)) (fun i _ => F - (intOf i).toNat)
        case atStart => exact ⟨0, W, Nat.zero_le _, rfl, HW, hO, hb⟩
        case round =>
          clear HW hO hb hl
          obtain ⟨i, W, hj, rfl, hl, hO, hb⟩ := hrel
          by_cases hlt : i < F
          · have hz : (i : Int) < (F : Int) := by omega
            have hz0 : (0 : Int) ≤ (i : Int) := by omega
            have hzm : (i : Int) < (m : Int) := by have := HM.out; omega
            have hzm2 : (K : Int) + 4 + (i : Int) < (m : Int) := by have := HM.out; omega
            have e4 : (K : Int) + 4 + (i : Int) = ((K + 4 + i : Nat) : Int) := by omega
            obtain ⟨q, hq⟩ : ∃ q, K + 4 + i = q := ⟨_, rfl⟩
            rw [hq] at e4
            obtain ⟨o1, o2, y2, o3⟩ := own_putB hO.out (p := i) (x := 0) rfl (by have := hl.out.len; omega)
            obtain ⟨p1, p2, y3, p3⟩ := own_putB o1 (p := q) (x := 0) rfl (by rw [List.length_set]; have := hl.out.len; have := HM.out; omega)
            obtain ⟨_, q2, y4, q3⟩ := own_putB hO.out (p := q) (x := 0) rfl (by have := hl.out.len; have := HM.out; omega)
            have P1 := Lib.hid p1
            have hst := hl.out.step (j := i) (by omega)
            rw [hq] at hst
            have hst := Lib.hid hst
            have hqm : (q : Int) < (m : Int) := by omega
            have hq0 : (0 : Int) ≤ (q : Int) := by omega
            clear hO o1 p1 hl
            go_wp2_with fail
            go_roundw
            case rel => exact ⟨i + 1, _, by omega, by go_num, hst, P1, Lib.hid ((hb.out.setCell (p := ⟨w.heap.size, i, none⟩) (Nat.le_refl _) _).setCell (p := ⟨w.heap.size, q, none⟩) (Nat.le_refl _) _)⟩
            case measure => simp [intOf]; omega
          · obtain rfl : F = i := by omega
            obtain ⟨h1, h2, h3, h4, _⟩ := HP.out
            have HWo := Lib.hid hl.out.done
            have hzw : 1 < wr.heap.size := Nat.lt_of_lt_of_le HK.out.col.lt hb.out.size
            have hnw := Lib.hid (New_ok (w := wr) (k := K) (f := F) (l := L) hzw h1 h2 h3 h4)
            have HKw := Lib.hid (HK.out.step hb.out)
            have hus := Lib.hid (fun (u : World) (hb2 : Below wr.heap.size wr u) => Usable_ok (w := u) (k := K) (f := F) (l := L) (HKw.out.step hb2).col h1 h2 h3 h4)
            have hh0 := hold_new (L := L) HWo.out
            obtain ⟨s0, hsn⟩ : ∃ s0, newSt K F L = s0 := ⟨_, rfl⟩
            have hn0 : s0.n = 0 := by rw [← hsn]; rfl
            rw [hsn] at hh0 hnw
            obtain ⟨U, hU⟩ : ∃ U, usable (cirI K F L) = U := ⟨_, rfl⟩
            have hU2 : U ≤ 18528 := by
              have a := usable_le (cirI K F L)
              have b := siz_le h1 h2 h4
              rw [cirI_length] at a
              omega
            rw [hU] at hus
            have hU3 : (U : Int) ≤ 18528 := by omega
            have hU0 : (0 : Int) ≤ (U : Int) := by omega
            have HH0 := Lib.hid hh0
            have HN0 := Lib.hid hn0
            have HU := Lib.hid hU
            have hXl : w.heap.size < wr.heap.size := (World.ownsRow.lt hO.out w.heap.size rfl).2
            have hXr := Lib.hid (Rd.of_own hO.out)
            have HXl := Lib.hid hXl
            clear hlt h1 h2 h3 h4 hl hzw hh0 hsn hn0 hU hU2 hO hXl
            go_wp2_with fail
            refine hnw.out.mono ?_
            rintro e w1 ⟨v, rfl, hRB⟩
            obtain ⟨B, A1, N1, c1, rfl, hBl, hBuf, b1⟩ := hRB.got
            have hH1 : HoldAt w w1 w.heap.size B K F L m W s0 (2 * F) := ⟨⟨⟨A1, N1, c1, hBuf⟩, hb.out.trans (b1.mono hb.out.size), Nat.le_trans hb.out.size hBl⟩, by have := HXl.out; omega, Nat.lt_of_lt_of_le HXl.out b1.size, hXr.out.step b1, HH0.out⟩
            have HH1 := Lib.hid hH1
            clear hH1 hnw hBuf hRB hBl
            go_wp2_with fail
            refine (hus.out _ b1).mono ?_
            rintro e w2 ⟨rfl, b2⟩
            have HH2 := Lib.hid (HH1.out.step b2)
            clear hus HH1 b1 b2 HH0
            go_wp2_with (first | (go_at_call 12; refine (hN.out _ _).mono ?_; rintro e w6 ⟨rfl, he⟩; obtain rfl := he.symm) | fail)
            clear hXr HXl HKw hb
            go_loopw [23, 24] (fun kv i wr => ∃ (j kn : Nat) (s : St), j ≤ n4 ∧ i = .int .i64 (j : Int) ∧ kv = .int .i64 (kn : Int) ∧ Hid (HoldAt w wr w.heap.size B K F L m W s kn) ∧ Hid (s.n ≤ 1000 * j)) (fun _ i _ => n4 - (intOf i).toNat)
            case atStart => exact ⟨0, 2 * F, s0, Nat.zero_le _, rfl, by go_num, HH2, Lib.hid (by rw [HN0.out]; exact Nat.zero_le _)⟩
            case round =>
              clear HH2 HN0
              obtain ⟨j, kn, s, hj, rfl, rfl, HH, HS⟩ := hrel
              by_cases hlt : j < n4
              · have hz : (j : Int) < (n4 : Int) := by omega
                have hz5 : (j : Int) < (n5 : Int) := by omega
                have hz6 : (j : Int) < (n6 : Int) := by omega
                have hz0 : (0 : Int) ≤ (j : Int) := by omega
                obtain ⟨b4, o4, rfl, hb4, q4⟩ := H4.out.cells j hlt
                obtain ⟨b5, o5, rfl, hb5, q5⟩ := H5.out.cells j (by omega)
                obtain ⟨b6, o6, rfl, hb6, q6⟩ := H6.out.cells j (by omega)
                have q4 := (HH.out.wk.low.cell (p := ⟨b4, o4 + j, none⟩) hb4).trans q4
                have q5 := (HH.out.wk.low.cell (p := ⟨b5, o5 + j, none⟩) hb5).trans q5
                have q6 := (HH.out.wk.low.cell (p := ⟨b6, o6 + j, none⟩) hb6).trans q6
                generalize r4[j]?.getD 0 = rv at *
                generalize r5[j]?.getD 0 = sz at *
                generalize r6[j]?.getD 0 = mg at *
                have hb4 : b4 < wr.heap.size := Nat.lt_of_lt_of_le hb4 HH.out.wk.low.size
                have hbB5 : ¬ b5 = B := by have := HH.out.wk.at'; omega
                have hb5 : b5 < wr.heap.size := Nat.lt_of_lt_of_le hb5 HH.out.wk.low.size
                have hb6 : b6 < wr.heap.size := Nat.lt_of_lt_of_le hb6 HH.out.wk.low.size
                clear hlt
                by_cases hgd : 0 ≤ sz ∧ sz ≤ 1000 ∧ 1 ≤ mg ∧ mg ≤ 127 ∧ 0 ≤ rv ∧ rv ≤ 3
                · obtain ⟨t1, t2, t3, t4, t5, t6⟩ := hgd
                  obtain ⟨V, E, rfl, rfl, hV4, hE⟩ := oks12 t1 t2 t5 t6
                  have hHd : HoldAt w wr.drew w.heap.size B K F L m W s kn := HH.out.drew
                  have hMt := Lib.hid (Match_bits (k := K) (f := F) (l := L) (v := V) (e := E) (c := m) (HK.out.step hHd.wk.low).col hHd.rd HM.out.symm HWo.out.valid HP.out.1 HP.out.2.1 HP.out.2.2.1 HP.out.2.2.2.1 hV4 (by omega))
                  clear hHd
                  go_wp2_with fail
                  by_cases hp0 : (posS (K : Int) (F : Int) (L : Int) (V : Int) (E : Int)).2 = 0
                  · obtain ⟨ps, hps⟩ : ∃ ps, matL W (posS (K : Int) (F : Int) (L : Int) (V : Int) (E : Int)).1 = ps := ⟨_, rfl⟩
                    have hpl : ps.length = E := by rw [← hps]; unfold matL; rw [List.length_map]; exact (pos_in (m := E) hp0).1
                    rw [hps, hp0] at hMt
                    have HPS := Lib.hid hps
                    have HP0 := Lib.hid hp0
                    have HPL := Lib.hid hpl
                    clear hps hp0 hpl
                    go_region_held3 (fun w' => w'.cell? ⟨b4, o4 + j, none⟩ = some (.int .i64 (V : Int)) ∧ w'.cell? ⟨b5, o5 + j, none⟩ = some (.int .i64 (E : Int))) (first | (with_reducible exact ⟨a4, a5⟩) | (with_reducible exact ⟨q4, q5⟩) | go_keep | fail) (first
                      | (go_at_call 26; (with_reducible refine hMt.out.mono ?_); rintro e v he
                         obtain ⟨A7, c7, rfl, o7, b7⟩ := he.got HPL.out
                         have a4 := (b7.cell (p := ⟨b4, o4 + j, none⟩) hb4).trans q4
                         have a5 := (b7.cell (p := ⟨b5, o5 + j, none⟩) hb5).trans q5)
                      | fail)
                    have b8 : Below wr.heap.size wr v := below_undrew b7
                    have hH7 := HH.out.step b8
                    have q4 := (b8.cell (p := ⟨b4, o4 + j, none⟩) hb4).trans q4
                    have q5 := (b8.cell (p := ⟨b5, o5 + j, none⟩) hb5).trans q5
                    have q6 := (b8.cell (p := ⟨b6, o6 + j, none⟩) hb6).trans q6
                    have hId := Lib.hid (Ideal_any (m := mg) (c := c7) (HK.out.step hH7.wk.low).lim (Rd.of_own o7) (HPS.out ▸ matL_byte HWo.out) (by omega))
                    have hIe := ideal_ok (ps := (posS (K : Int) (F : Int) (L : Int) (V : Int) (E : Int)).1) HWo.out t3 t4
                    rw [HPS.out] at hIe
                    rw [hIe] at hId
                    have HH7 := Lib.hid hH7
                    have hb4 : b4 < v.heap.size := Nat.lt_of_lt_of_le hb4 b8.size
                    have hb5 : b5 < v.heap.size := Nat.lt_of_lt_of_le hb5 b8.size
                    clear a4 a5 hH7 b7 b8 o7 he hIe hMt
                    go_wp2_with (first | (go_at_call 12; refine (hN.out _ _).mono ?_; rintro e w6 ⟨rfl, he⟩; obtain rfl := he.symm) | fail)
                    refine hId.out.mono ?_
                    rintro e v2 he
                    obtain ⟨A8, c8, rfl, o8, b8⟩ := he.got (show (idealI mg ps).length = E by unfold idealI; rw [List.length_map]; exact HPL.out)
                    have hH8 := HH7.out.step b8
                    have q4 := (b8.cell (p := ⟨b4, o4 + j, none⟩) hb4).trans q4
                    have q5 := (b8.cell (p := ⟨b5, o5 + j, none⟩) hb5).trans q5
                    obtain ⟨A3, N3, c3, hB3⟩ := hH8.wk.buf
                    have hAd := Lib.hid (Add_buf (c2 := c8) (rv := (V : Int)) (HK.out.step hH8.wk.low) hB3 (Rd.of_own o8) (by omega) (by have := HS.out; omega))
                    obtain ⟨z0, z1, z2⟩ := hold_add HP.out.1 HP.out.2.1 HP.out.2.2.1 HP.out.2.2.2.1 hV4 (show E ≤ 131072 by omega) HWo.out hB3.ok hH8.hold HP0.out t3 t4
                    rw [HPS.out] at z0 z1 z2
                    rw [HU.out] at z1
                    have Z0 := Lib.hid z0
                    have Z1 := Lib.hid z1
                    have Z2 := Lib.hid z2
                    have HH8 := Lib.hid hH8
                    have hb5 : b5 < v2.heap.size := Nat.lt_of_lt_of_le hb5 b8.size
                    clear hH8 b8 o8 he hId z0 z1 z2 HH7 q6
                    go_wp2_with (first | (go_at_call 12; refine (hN.out _ _).mono ?_; rintro e w6 ⟨rfl, he⟩; obtain rfl := he.symm) | fail)
                    refine hAd.out.mono ?_
                    rintro e v3 ht
                    obtain ⟨rfl, _, hs3⟩ := ht.got Z0.out
                    have q5 := (hs3.cell (p := ⟨b5, o5 + j, none⟩) hb5 hbB5).trans q5
                    have hH9 := HH8.out.turn ht Z1.out
                    have hn9 : (addSt s (V : Int) (idealI mg ps)).1.n ≤ 1000 * (j + 1) := by have := HS.out; have := Z2.out; omega
                    have HN9 := Lib.hid hn9
                    have HH9 := Lib.hid hH9
                    clear ht hs3 hAd hH9 hn9 q4 Z0 Z1 Z2 HH8 hB3
                    generalize (addSt s (V : Int) (idealI mg ps)).1 = s9 at *
                    by_cases hu : U ≤ E
                    · rw [if_pos hu] at HH9
                      have hu1 : (U : Int) ≤ (E : Int) := by omega
                      clear hu
                      go_wp2_with (first | (go_at_call 12; refine (hN.out _ _).mono ?_; rintro e w6 ⟨rfl, he⟩; obtain rfl := he.symm) | fail)
                      go_roundw
                      case rel => exact ⟨j + 1, 2 * F + U, s9, by omega, by go_num, by go_num, HH9, HN9⟩
                      case measure => simp [intOf]; omega
                    · rw [if_neg hu] at HH9
                      have hu1 : (E : Int) < (U : Int) := by omega
                      clear hu
                      go_wp2_with (first | (go_at_call 12; refine (hN.out _ _).mono ?_; rintro e w6 ⟨rfl, he⟩; obtain rfl := he.symm) | fail)
                      go_roundw
                      case rel => exact ⟨j + 1, kn, s9, by omega, by go_num, rfl, HH9, HN9⟩
                      case measure => simp [intOf]; omega
                  · obtain ⟨u0, e0, hpe⟩ := pos_err HP.out.1 HP.out.2.1 HP.out.2.2.1 HP.out.2.2.2.1 hV4 (show E ≤ 131072 by omega) hp0
                    obtain rfl : U = 0 := HU.out.symm.trans u0
                    rw [hpe] at hMt
                    have e1 : (0 : Int) < (E : Int) := by omega
                    clear hp0 u0 e0 hpe
                    go_region_held3 (fun w' => w'.cell? ⟨b4, o4 + j, none⟩ = some (.int .i64 (V : Int)) ∧ w'.cell? ⟨b5, o5 + j, none⟩ = some (.int .i64 (E : Int))) (first | (with_reducible exact ⟨a4, a5⟩) | (with_reducible exact ⟨q4, q5⟩) | go_keep | fail) (first
                      | (go_at_call 26; (with_reducible refine hMt.out.mono ?_); rintro e v he
                         obtain ⟨A7, c7, rfl, o7, b7⟩ := he.got (n := 0) rfl
                         have a4 := (b7.cell (p := ⟨b4, o4 + j, none⟩) hb4).trans q4
                         have a5 := (b7.cell (p := ⟨b5, o5 + j, none⟩) hb5).trans q5)
                      | fail)
                    have b8 : Below wr.heap.size wr v := below_undrew b7
                    have hb9 := HH.out.wk.low.trans (b8.mono HH.out.wk.low.size)
                    have hW4 := Lib.hid (hWk.out _ hb9)
                    clear b7 b8 o7 he hMt a4 q4 q5 q6
                    go_wp2_with (first | (go_at_call 12; refine (hN.out _ _).mono ?_; rintro e w6 ⟨rfl, he⟩; obtain rfl := he.symm) | (go_at_call 9; refine hW4.out.mono ?_; rintro e w5 ⟨rfl, b5⟩) | fail)
                    go_ret
                    exact ⟨rfl, hb9.trans (b5.mono hb9.size)⟩
                · have t1 : sz < 0 ∨ 1000 < sz ∨ mg < 1 ∨ 127 < mg ∨ rv < 0 ∨ 3 < rv := by omega
                  have hW4 := Lib.hid (hWk.out _ HH.out.wk.low)
                  clear hgd
                  go_wp2_with (first | (go_at_call 9; refine hW4.out.mono ?_; rintro e w5 ⟨rfl, b5⟩) | fail)
                  all_goals
                    go_ret
                    exact ⟨rfl, HH.out.wk.low.trans (b5.mono HH.out.wk.low.size)⟩
              · obtain rfl : j = n4 := by omega
                obtain ⟨A3, N3, c3, hB3⟩ := HH.out.wk.buf
                obtain ⟨u, k2, y1, y2, y3, y4⟩ := hold_cmp HP.out.2.1 HP.out.2.2.1 HWo.out hB3.ok HH.out.hold
                rw [HM.out] at y2 y4
                obtain rfl : N3 = m := by rw [hB3.len, HH.out.hold.par.1]; exact HM.out
                have hVa := Lib.hid (Values_buf hB3)
                have hKn := Lib.hid (fun (x : World) (hb : Below wr.heap.size wr x) => Known_buf (hB3.below hb))
                rw [y4] at hKn
                have y5 : (N3 : Int) - (u : Int) = (k2 : Int) := by omega
                have y6 : (kn : Int) ≤ (k2 : Int) := by omega
                have y7 : (k2 : Int) ≤ 612 := by omega
                have y8 : (0 : Int) ≤ (u : Int) := by omega
                have Y1 := Lib.hid y1
                clear hlt y1 y2 y3 y4 hB3
                go_wp2_with fail
                refine hVa.out.mono ?_
                rintro e v2 ⟨g, c', rfl, hgc, o2, b2⟩
                have hH2 := HH.out.step b2
                have hCm := Lib.hid (refCompare_any (c := c') (c2 := N3) (Rd.of_own o2) hH2.rd (by omega) (by omega) HWo.out.byte)
                rw [Y1.out] at hCm
                have HB2 := Lib.hid b2
                have HHl := Lib.hid HH.out.wk.low
                clear hVa o2 b2 hH2 hgc
                go_wp2_with fail
                refine hCm.out.mono ?_
                rintro e v3 ⟨rfl, b3⟩
                have hb3 : Below wr.heap.size wr v3 := HB2.out.trans (b3.mono HB2.out.size)
                have HB3 := Lib.hid hb3
                dsimp only
                clear hCm b3
                go_wp2_with (first | (go_at_call 22; refine (hKn.out _ hb3).mono ?_; rintro e v4 ⟨rfl, b4⟩; have hb4 := HHl.out.trans ((HB3.out.trans (b4.mono HB3.out.size)).mono HHl.out.size)) | (go_at_call 9; refine (hWk.out _ hb4).mono ?_; rintro e w5 ⟨rfl, b5⟩) | fail)
                go_ret
                exact ⟨rfl, hb4.trans (b5.mono hb4.size)⟩
  · have hW4 := Lib.hid (hWk.out _ (Below.refl _ _))
    by_cases hB : okB k f l = true
    · rw [hB] at hV
      have t1 : 200 < k ∨ (6 : Int) < (n4 : Int) ∨ (n5 : Int) < (n4 : Int) ∨ (n6 : Int) < (n4 : Int) := by
        rcases Classical.em (k ≤ 200) with g1 | g1
        · rcases Classical.em (n4 ≤ 6) with g2 | g2
          · rcases Classical.em (n4 ≤ n5) with g3 | g3
            · rcases Classical.em (n4 ≤ n6) with g4 | g4
              · exact absurd ⟨g1, hB, g2, g3, g4⟩ hgo
              · omega
            · omega
          · omega
        · omega
      clear hgo hB hz hK hR4 hR5 hR6
      go_enter Tryd.func8, Tryd.ntmps8
      go_wp2_with (first | (go_at_call 24; refine (hV.out _).mono ?_; rintro e w6 ⟨rfl, he⟩; obtain rfl := he.symm) | (go_at_call 9; refine hW4.out.mono ?_; rintro e w5 ⟨rfl, b5⟩) | fail)
      all_goals
        go_ret
        exact ⟨rfl, b5⟩
    · have hB := Bool.eq_false_iff.2 hB
      rw [hB] at hV
      clear hgo hB hz hK hR4 hR5 hR6
      go_enter Tryd.func8, Tryd.ntmps8
      go_wp2_with (first | (go_at_call 24; refine (hV.out _).mono ?_; rintro e w6 ⟨rfl, he⟩; obtain rfl := he.symm) | (go_at_call 9; refine hW4.out.mono ?_; rintro e w5 ⟨rfl, b5⟩) | fail)
      all_goals
        go_ret
        exact ⟨rfl, b5⟩
end Go.Proofs.YtoegamlpgenfcaaDoor
