/-
  Join behind Split, and behind one bit's change: the mathematics. The law SegmentHolds's walk.
-/
import Derived.Test.YtkdodmjhpkfhnaaDoorL3
import Derived.Test.YtkdodmjhpkfhnaaDoorJs
namespace Go.Proofs.YtkdodmjhpkfhnaaDoor
/-! ### Join behind Split, and behind one bit's change: the mathematics. -/
section
open Go.RowKit

theorem xorB_zl {a : List Bool} {n : Nat} (h : a.length = n) : xorB (zerosB n) a = a := by
  subst h
  refine ext_getD (by rw [xorB_length]; simp [zerosB]) (fun i hi => ?_)
  rw [xorB_length] at hi
  rw [xorB_getD hi, zerosB_getD, Bool.false_xor]
theorem setB_getD {bs : List Bool} {p j : Nat} {b : Bool} (hp : p < bs.length) : (bs.set p b).getD j false = if j = p then b else bs.getD j false := by
  rw [List.getD_eq_getElem?_getD, List.getElem?_set, List.getD_eq_getElem?_getD]
  by_cases h : p = j
  · subst h
    rw [if_pos rfl, if_pos hp, if_pos rfl]; rfl
  · rw [if_neg h, if_neg (fun e => h e.symm)]
/-- A word with the checksum 0 of which one element is changed has another checksum. -/
theorem flip1_bad {g bs : List Bool} {i : Nat} (hg : g.getD (g.length - 1) false = true) (h0 : crcB g bs = zerosB g.length) (hi : i < bs.length) (hgl : 1 ≤ g.length) : crcB g (bs.set i (!(bs.getD i false))) ≠ zerosB g.length := by
  obtain ⟨M, hMd⟩ : ∃ M, M = zerosB i ++ [true] ++ zerosB (bs.length - i - 1) := ⟨_, rfl⟩
  have hMl : M.length = bs.length := by rw [hMd]; simp [zerosB]; omega
  have hM : ∀ p, p < bs.length → M.getD p false = decide (p = i) := by
    intro p hp
    rw [hMd, List.getD_eq_getElem?_getD]
    by_cases h1 : p < i
    · rw [List.getElem?_append_left (by simp [zerosB]; omega), List.getElem?_append_left (by simp [zerosB]; omega), ← List.getD_eq_getElem?_getD, zerosB_getD, decide_eq_false (by omega)]
    · by_cases h2 : p = i
      · subst h2
        rw [List.getElem?_append_left (by simp [zerosB]), List.getElem?_append_right (by simp [zerosB])]
        simp [zerosB]
      · rw [List.getElem?_append_right (by simp [zerosB]; omega), ← List.getD_eq_getElem?_getD, zerosB_getD, decide_eq_false h2]
  have hf : bs.set i (!(bs.getD i false)) = xorB bs M := by
    refine ext_getD (by rw [List.length_set, xorB_length]) (fun p hp => ?_)
    rw [List.length_set] at hp
    rw [setB_getD hi, xorB_getD hp, hM p hp]
    by_cases h : p = i
    · subst h
      rw [if_pos rfl, decide_eq_true rfl, Bool.xor_true]
    · rw [if_neg h, decide_eq_false h, Bool.xor_false]
  rw [hf, crcB_xor g hMl.symm, h0, xorB_zl (crcB_length g M), hMd]
  refine crcB_burst (by simpa using hgl) (fun e => ?_) hg
  simp [zerosB] at e
theorem bits_valid2 {xs : List Int} (h : Bits xs) : validB xs = true := by
  unfold validB
  rw [List.all_eq_true]
  intro x hx
  rcases h x hx with h | h <;> simp [h]
theorem part_bits {l : Lay} {xs : List Int} (hx : Bits xs) (k : Nat) : Bits (l.part xs k) := (zerosI_bits _).append (fun x hx2 => hx x (List.mem_of_mem_drop (List.mem_of_mem_take hx2)))
theorem block_bits {l : Lay} {xs : List Int} (hx : Bits xs) (k : Nat) : Bits (l.block xs k) := by
  unfold Lay.block
  split
  · exact part_bits hx k
  · exact (part_bits hx k).append (crcI_bits _ _)
theorem genN2_24 : (genN 2).2 = 24 := by decide
section
variable {l : Lay} {xs : List Int}
theorem part_length (hok : l.Ok) (hxl : xs.length = l.bits) {k : Nat} (hk : k < l.blocks) : (l.part xs k).length = l.fill k + l.data k := by
  have h1 := hok.off_le (i := k + 1) (by omega)
  have h2 : l.off (k + 1) = l.off k + l.data k := rfl
  unfold Lay.part
  rw [List.length_append, zerosI_length, List.length_take, List.length_drop, hxl]
  omega
theorem block_length (hok : l.Ok) (hxl : xs.length = l.bits) {k : Nat} (hk : k < l.blocks) : (l.block xs k).length = l.size k := by
  have h1 := part_length hok hxl hk
  have h2 := (hok.room hk).1
  unfold Lay.block
  split
  · rename_i h
    have : l.cs = 0 := by unfold Lay.cs; rw [if_pos h]
    omega
  · rename_i h
    have : l.cs = 24 := by unfold Lay.cs; rw [if_neg h]
    rw [List.length_append, crcI_length, genN2_24]
    omega
theorem unwrap_block (_hok : l.Ok) (_hxl : xs.length = l.bits) {k : Nat} (_hk : k < l.blocks) : unwrapL l k (l.block xs k) = some ((xs.drop (l.off k)).take (l.data k)) := by
  have hd : (l.part xs k).drop (l.fill k) = (xs.drop (l.off k)).take (l.data k) := by
    unfold Lay.part
    rw [List.drop_left' (zerosI_length _)]
  unfold unwrapL Lay.block
  by_cases h : l.blocks = 1
  · rw [if_pos h, if_pos h, hd]
  · rw [if_neg h, if_neg h]
    have e : (l.part xs k ++ crcI 2 (l.part xs k)).length - 24 = (l.part xs k).length := by rw [List.length_append, crcI_length, genN2_24]; omega
    rw [e, List.take_left' rfl, List.drop_left' rfl, if_pos rfl, hd]
theorem parts_flat (_hok : l.Ok) : ∀ k, ((List.range k).map (fun i => (xs.drop (l.off i)).take (l.data i))).flatten = xs.take (l.off k)
  | 0 => by simp [Lay.off]
  | k + 1 => by
    rw [List.range_succ, List.map_append, List.flatten_append, parts_flat _hok k]
    rw [show l.off (k + 1) = l.off k + l.data k from rfl, List.take_add]
    simp
end
theorem splitL_get {xs : List Int} {k : Nat} (hk : k < (planN xs.length).blocks) : (splitL xs)[k]? = some ((planN xs.length).block xs k) := by
  unfold splitL
  rw [List.getElem?_map, List.getElem?_range hk]
  rfl
theorem splitL_length (xs : List Int) : (splitL xs).length = (planN xs.length).blocks := by simp [splitL]
theorem splitL_bits {xs : List Int} (hx : Bits xs) : ∀ ys ∈ splitL xs, Bits ys := fun ys hy => by
  simp only [splitL, List.mem_map] at hy
  obtain ⟨i, _, rfl⟩ := hy
  exact block_bits hx i
/-- The head of block 0: the filler bits. -/
theorem block_fill {l : Lay} {xs : List Int} : (l.block xs 0).take l.filler = zerosI l.filler := by
  have hp : (l.part xs 0).take l.filler = zerosI l.filler := by
    unfold Lay.part
    exact List.take_left' (zerosI_length _)
  have hpl : l.filler ≤ (l.part xs 0).length := by
    unfold Lay.part
    rw [List.length_append, zerosI_length]
    show l.filler ≤ l.filler + _
    omega
  unfold Lay.block
  split
  · exact hp
  · rw [List.take_append_of_le_length hpl, hp]
theorem joinL_split {xs : List Int} (hx : Bits xs) (h1 : 1 ≤ xs.length) (h2 : xs.length ≤ 79560) : joinL (xs.length : Int) (splitL xs) = (xs, 0) := by
  obtain ⟨hok, hb⟩ := planN_ok h1 h2
  have hval : (splitL xs).all validB = true := List.all_eq_true.2 (fun ys hy => bits_valid2 (splitL_bits hx ys hy))
  have hlen := splitL_length xs
  have hget := fun k (hk : k < (planN xs.length).blocks) => splitL_get (xs := xs) hk
  have hpart : ∀ i, i < (planN xs.length).blocks → partL (planN xs.length) (splitL xs) i = some ((xs.drop ((planN xs.length).off i)).take ((planN xs.length).data i)) := fun i hi => by
    unfold partL
    rw [hget i hi]
    exact unwrap_block hok hb.symm hi
  have hfit : fitL (planN xs.length) (splitL xs) = true := by
    unfold fitL
    rw [hget 0 hok.blocks0, hlen]
    simp only [Option.getD_some, Bool.and_eq_true, decide_eq_true_eq, List.all_eq_true, List.mem_range, Bool.not_eq_true', true_and]
    refine ⟨fun i hi => ?_, ?_⟩
    · rw [hget i hi]
      exact block_length hok hb.symm hi
    · rw [block_fill]
      simp [zerosI]
  unfold joinL
  rw [if_neg (by omega), if_neg (by rw [hval]; simp), Int.toNat_natCast, if_neg (by rw [hfit]; simp), if_neg]
  · have hm : (List.range (planN xs.length).blocks).map (fun i => (partL (planN xs.length) (splitL xs) i).getD []) = (List.range (planN xs.length).blocks).map (fun i => (xs.drop ((planN xs.length).off i)).take ((planN xs.length).data i)) := by
      refine List.map_congr_left (fun i hi => ?_)
      rw [hpart i (List.mem_range.1 hi)]
      rfl
    rw [hm, parts_flat hok, hok.off_all, hb, List.take_length]
  · rw [Bool.not_eq_false, List.all_eq_true]
    intro i hi
    rw [hpart i (List.mem_range.1 hi)]
    rfl
theorem flip_none {l : Lay} {xs : List Int} (hx : Bits xs) (hm : l.blocks ≠ 1) {k i : Nat} (hi : i < (l.block xs k).length) :
    unwrapL l k ((l.block xs k).set i (1 - (l.block xs k)[i]?.getD 0)) = none := by
  have hbk : l.block xs k = l.part xs k ++ crcI 2 (l.part xs k) := by unfold Lay.block; rw [if_neg hm]
  have hbb := block_bits (l := l) hx k
  have hzero : crcB (genB 2) (toB (l.block xs k)) = zerosB (genB 2).length := by
    rw [hbk, toB_append]
    unfold crcI
    rw [toB_toI]
    exact crcB_residue _ _
  have hset : toB ((l.block xs k).set i (1 - (l.block xs k)[i]?.getD 0)) = (toB (l.block xs k)).set i (!((toB (l.block xs k)).getD i false)) := by
    have hv := hbb ((l.block xs k)[i]) (List.getElem_mem hi)
    unfold toB
    rw [List.map_set, List.getElem?_eq_getElem hi, List.getD_eq_getElem?_getD, List.getElem?_map, List.getElem?_eq_getElem hi]
    simp only [Option.getD_some, Option.map_some]
    rcases hv with h | h <;> rw [h] <;> rfl
  have hbad := flip1_bad (genB_last (k := 2) (by decide)) hzero (i := i) (by rw [toB_length]; exact hi) (by rw [genB_length]; decide)
  rw [← hset] at hbad
  have hsl : ((l.block xs k).set i (1 - (l.block xs k)[i]?.getD 0)).length = (l.block xs k).length := List.length_set
  generalize (l.block xs k).set i (1 - (l.block xs k)[i]?.getD 0) = ys at *
  unfold unwrapL
  rw [if_neg hm, if_neg]
  intro e
  apply hbad
  have h1 : ys = ys.take (ys.length - 24) ++ crcI 2 (ys.take (ys.length - 24)) := by rw [e, List.take_append_drop]
  rw [h1, toB_append]
  unfold crcI
  rw [toB_toI]
  exact crcB_residue _ _
theorem joinL_flip {xs : List Int} (hx : Bits xs) (h1 : 1 ≤ xs.length) (h2 : xs.length ≤ 79560) (hm : (planN xs.length).blocks ≠ 1) {k i : Nat} (hk : k < (planN xs.length).blocks) (hi : i < ((planN xs.length).block xs k).length) :
    ∃ z, z ≠ 0 ∧ joinL (xs.length : Int) ((splitL xs).set k (((planN xs.length).block xs k).set i (1 - ((planN xs.length).block xs k)[i]?.getD 0))) = ([], z) := by
  obtain ⟨hok, hb⟩ := planN_ok h1 h2
  have hn := flip_none hx hm (k := k) hi
  have hfb : Bits (((planN xs.length).block xs k).set i (1 - ((planN xs.length).block xs k)[i]?.getD 0)) := fun x hxm => by
    rcases List.mem_or_eq_of_mem_set hxm with h | h
    · exact block_bits hx k x h
    · have hv := block_bits (l := planN xs.length) hx k (((planN xs.length).block xs k)[i]) (List.getElem_mem hi)
      rw [List.getElem?_eq_getElem hi] at h
      simp only [Option.getD_some] at h
      omega
  have hval : ((splitL xs).set k (((planN xs.length).block xs k).set i (1 - ((planN xs.length).block xs k)[i]?.getD 0))).all validB = true := List.all_eq_true.2 (fun ys hy => by
    rcases List.mem_or_eq_of_mem_set hy with h | h
    · exact bits_valid2 (splitL_bits hx ys h)
    · rw [h]; exact bits_valid2 hfb)
  have hnone : partL (planN xs.length) ((splitL xs).set k (((planN xs.length).block xs k).set i (1 - ((planN xs.length).block xs k)[i]?.getD 0))) k = none := by
    unfold partL
    rw [List.getElem?_set_self (by rw [splitL_length]; exact hk)]
    exact hn
  unfold joinL
  rw [if_neg (by omega), if_neg (by rw [hval]; simp), Int.toNat_natCast]
  split
  · exact ⟨60, by decide, rfl⟩
  · rw [if_pos]
    · exact ⟨61, by decide, rfl⟩
    · rw [List.all_eq_false]
      exact ⟨k, List.mem_range.2 hk, by rw [hnone]; simp⟩
end

/-! ### The law SegmentHolds's walk. -/
section
open Go.RowKit Go.Shelf BigFrame

theorem OwnRows.step {w w' w2 : World} {V : Value} {n : Nat} {rows : List BRow} (h : OwnRows w w' V n rows) (hb : Below w'.heap.size w' w2) : OwnRows w w2 V n rows := by
  have hS : Save (fun _ => False) w' w2 := Save.of_below hb
  exact ⟨h.below.trans (hb.mono h.below.size), h.len, ownsRow_save h.own hS (fun _ _ x => x), fun r hr => zown_save (h.row r hr) hS (fun _ _ x => x), h.apart, h.outer⟩
theorem joinS_rows {w w' : World} {A : Option Addr} {n c : Nat} {rows : List BRow} {b : Int} (h : OwnRows w w' (.slice A n c) n rows) : joinS b rows = joinL b (rows.map (·.xs)) := joinS_list h.rds.len1
/-- What the law finds, if Split has no error. -/
structure HoldsAt (w w1 W : World) (l : Lay) (A : Option Addr) (c L : Nat) (rows : List BRow) : Prop where
  own : OwnRows w1 W (.slice A l.blocks c) l.blocks rows
  lay : LayAt W L 34 l
  below : Below w.heap.size w W
theorem HoldsAt.step {w w1 W W' : World} {l : Lay} {A : Option Addr} {c L : Nat} {rows : List BRow} (h : HoldsAt w w1 W l A c L rows) (hb : Below W.heap.size W W') : HoldsAt w w1 W' l A c L rows :=
  ⟨h.own.step hb, h.lay.below hb h.lay.lt, h.below.trans (hb.mono h.below.size)⟩
set_option maxRecDepth 100000 in
set_option maxHeartbeats 4000000 in
theorem holds_walk {a b p q blk pos : Int} {w : World} (hK : Kinds w) (hq : 0 ≤ q ∧ q ≤ 255) :
    Calls Tryd.prog 9 #[.agg #[.int .i64 a, .int .i64 b, .int .i64 p, .int .u8 q], .int .i64 blk, .int .i64 pos] w fun e w' => e = .returned (.bool true) ∧ Below w.heap.size w w' := by
  have hP := Lib.hid (fun (u : World) => patBits_any (a := a) (b := b) (p := p) (w := u) hq)
  have hW := Lib.hid (fun (u : World) (h : Below w.heap.size w u) => works_any (hK.step h))
  have hPl := Lib.hid (fun (u : World) (h : Below w.heap.size w u) (n : Int) => Plan_any (b := n) (hK.step h))
  have hV := Lib.hid (fun (u : World) (h : Below w.heap.size w u) (n : Int) => Valid_any (n := n) (hK.step h))
  have hB := Lib.hid (fun (u : World) (A : Option Addr) (n : Nat) (rows : List BRow) (b : Int) (h : JnOk w u A n rows) (c : Nat) => Join_any (c := c) (b := b) (hK.step h.below) h.rds (by have := h.few; omega) h.byt h.cap)
  go_enter Tryd.func9, Tryd.ntmps9
  go_wp2_with fail
  refine (hP.out _).mono ?_
  rintro e w1 ⟨A1, n, c1, xs, rfl, hn, ho1, hx, hb1⟩
  have hb00 := (Below.refl w.heap.size w).alloc (Nat.le_refl _) (.cells #[.int .i64 a, .int .i64 b, .int .i64 p, .int .u8 q] 45)
  replace hb1 := hb00.trans (hb1.mono hb00.size)
  clear hb00
  have hc1 := own_cap' ho1
  have hr1 := Rd.of_own ho1
  have hlx := hr1.len
  have hS := Lib.hid (Split_any (hK.step hb1) hr1 hc1 hx)
  clear ho1
  go_wp2_with fail
  refine hS.out.mono ?_
  intro e w3 h3
  have hbyt := splitS_byte hx
  clear hS hP
  by_cases hok : 1 ≤ n ∧ validB xs = true
  · obtain ⟨hn1, hv⟩ := hok
    have hbx : Bits xs := validB_bits hx hv
    have hss : splitS xs = (splitL xs, 0) := by unfold splitS; rw [if_neg (by omega), if_neg (by rw [hv]; simp)]
    rw [hss] at h3 hbyt
    obtain ⟨hlok, hlb⟩ := planN_ok (b := n) hn1 (by omega)
    have hsl : (splitL xs).length = (planN n).blocks := by rw [splitL_length, hlx]
    obtain ⟨A3, c3, rows, rfl, hO3, hm3⟩ := h3.got hsl
    have hpl := hPl.out w3 (hb1.trans (hO3.below.mono hb1.size)) (n : Int)
    rw [show planS (n : Int) = (planN n, 0) by unfold planS; rw [if_neg (by omega), Int.toNat_natCast]] at hpl
    have hjs : joinS (n : Int) rows = (xs, 0) := by rw [joinS_rows hO3, hm3, ← hlx]; exact joinL_split hbx (by omega) (by omega)
    have hrow : Hid (∀ k r, rows[k]? = some r → k < (planN n).blocks ∧ r.xs = (planN n).block xs k ∧ r.n = (planN n).size k) := Lib.hid (fun k r hr => by
      have hkl : k < (planN n).blocks := by rw [← hO3.len]; exact (List.getElem?_eq_some_iff.1 hr).1
      have h1 := congrArg (fun l => l[k]?) hm3
      simp only [List.getElem?_map, hr, Option.map_some] at h1
      have hkl2 : k < (planN xs.length).blocks := by rw [hlx]; exact hkl
      rw [splitL_get hkl2] at h1
      injection h1 with h1
      rw [hlx] at h1
      have h2 : r.xs.length = r.n := by have := (hO3.row r (List.mem_of_getElem? hr)).1; simpa using this
      refine ⟨hkl, h1, ?_⟩
      rw [← h2, h1]
      exact block_length hlok (by rw [hlx, hlb]) hkl)
    have hbr : ∀ r ∈ rows, Byte r.xs ∧ r.n ≤ 6144 := fun r hr => by
      have h1 := hbyt r.xs (by simp only; rw [← hm3]; exact List.mem_map_of_mem hr)
      have h2 : r.xs.length = r.n := by have := (hO3.row r hr).1; simpa using this
      exact ⟨h1.1, by omega⟩
    have hfl := Lib.hid (fun (k i : Nat) (hm : (planN n).blocks ≠ 1) (hk : k < (planN n).blocks) (hi : i < ((planN n).block xs k).length) => by
      have := joinL_flip hbx (by omega) (by omega) (k := k) (i := i) (by rw [hlx]; exact hm) (by rw [hlx]; exact hk) (by rw [hlx]; exact hi)
      rw [hlx] at this
      exact this)
    have hm3' := Lib.hid hm3
    have hbb : Hid (∀ k, Bits ((planN n).block xs k)) := Lib.hid (fun k => block_bits hbx k)
    obtain ⟨l, hl⟩ : ∃ l, planN n = l := ⟨_, rfl⟩
    rw [hl] at hpl hrow hfl hlok hO3 hbb ⊢
    have HOK := Lib.hid hlok
    have HBR := Lib.hid hbr
    have HJS := Lib.hid hjs
    have hbl0 := hlok.blocks0
    have hbl1 := hlok.blocks1
    have hfil := hlok.filler
    have hJ0 := hO3.jnOk hb1 (by omega) (fun r hr => ⟨(hbr r hr).1, by have := (hbr r hr).2; omega⟩)
    have hr3 := hr1.step hO3.below
    have hb3 := hJ0.below
    clear h3 hbyt hss hv hl hlb hsl hm3 hbr hjs hlok hx
    unfold layV layA at hpl
    simp only
    go_wp2_with (go_at_call 17; refine num_any.mono ?_; rintro e w4 ⟨rfl, rfl⟩)
    refine hpl.mono ?_
    rintro e w5 ⟨rfl, hb5⟩
    have hL := LayAt.new w5 34 l
    have hb6 := hb5.alloc hb5.size (.cells (layA l) 34)
    unfold layA at hb6 hL
    go_wp2_with fail
    generalize (w5.alloc (.cells #[.int .i64 l.bits, .int .i64 l.blocks, .int .i64 l.long, .int .i64 l.short, .int .i64 l.longs, .int .i64 l.shorts, .int .i64 l.filler] 34)) = W5 at *
    have hj := (hB.out W5 A3 l.blocks rows (n : Int) (hJ0.step hb6)) c3
    rw [HJS.out] at hj
    refine hj.mono ?_
    intro e w6 h6
    obtain ⟨A6, c6, rfl, own6, hb7⟩ := h6.got hlx
    have hH0 : HoldsAt w w1 w6 l A3 c3 w5.heap.size rows := (⟨hO3.step hb6, hL, hb3.trans (hb6.mono hb3.size)⟩ : HoldsAt w w1 W5 l A3 c3 w5.heap.size rows).step hb7
    have k1 := (Rd.of_own own6).convert (P := Tryd.prog) Tryd.underlying46 Tryd.underlying5 c6 9 Tryd.underlying9
    have k2 := ((hr3.step hb6).step hb7).convert (P := Tryd.prog) Tryd.underlying46 Tryd.underlying5 c1 9 Tryd.underlying9
    generalize strOfNums xs = st at *
    obtain ⟨p0, p1, p2, p3, p4, p5, p6⟩ := hH0.lay.all
    have hf0 : ¬ (l.filler : Int) < 0 := by omega
    have hf1 : ¬ (64 : Int) ≤ (l.filler : Int) := by omega
    have HH := Lib.hid hH0
    have HB1 := Lib.hid hb1
    clear hj h6 own6 hb7 hb6 hL hb5 hr3 hb3 hJ0 hpl hO3 HJS hPl hr1 hc1 hb1 hH0
    go_wp2_with (go_at_call 17; refine num_any.mono ?_; rintro e w7 ⟨rfl, rfl⟩)
    clear p0 p1 p2 p3 p4 p5 p6 k1 k2 hf0 hf1
    go_loopw [14] (fun i wr => ∃ k : Nat, k ≤ l.blocks ∧ i = .int .i64 (k : Int) ∧ HoldsAt w w1 wr l A3 c3 w5.heap.size rows) (fun i _ => l.blocks - (intOf i).toNat)
    case atStart => exact ⟨0, Nat.zero_le _, rfl, HH.out⟩
    case round =>
      obtain ⟨k, hk, rfl, hH⟩ := hrel
      by_cases hkb : k < l.blocks
      · obtain ⟨g0, off0, r, rfl, hg0, hr, hcr, _⟩ := hH.own.rds.cells k hkb
        obtain ⟨_, _, hrn⟩ := hrow.out k r hr
        rw [hrn] at hcr
        have hbw := hH.below
        have hcell : ∀ u, Below wr.heap.size wr u → u.cell? ⟨g0, off0 + k, none⟩ = some (.slice r.a (l.size k) r.c) := fun u hu => (hu.cell (show g0 < wr.heap.size from hg0)).trans hcr
        have hlay : ∀ u, Below wr.heap.size wr u → u.cell? ⟨w5.heap.size, 2, none⟩ = some (.int .i64 (l.long : Int)) ∧ u.cell? ⟨w5.heap.size, 3, none⟩ = some (.int .i64 (l.short : Int)) := fun u hu => by
          obtain ⟨_, _, q2, q3, _, _, _⟩ := (hH.lay.below hu hH.lay.lt).all
          exact ⟨q2, q3⟩
        have hval : validS ((l.size k : Nat) : Int) = true := by
          rw [validS_isB, isB_nat]
          exact decide_eq_true (HOK.out.size_S hkb)
        have hVk := Lib.hid (fun (u : World) (h : Below wr.heap.size wr u) => hV.out u (hbw.trans (h.mono hbw.size)) (l.size k : Int))
        rw [hval] at hVk
        have hbd : Below wr.heap.size wr wr.drew := (Below.refl _ _).drew
        have hk0 : (0 : Int) ≤ (k : Int) := by omega
        have hk1 : (k : Int) < (l.blocks : Int) := by omega
        have hsz := HOK.out.size_le k
        have HHk := Lib.hid hH
        by_cases hs : k < l.shorts
        · have e1 : l.size k = l.short := by unfold Lay.size; rw [if_pos hs]
          have hmore := HOK.out.more (by have := HOK.out.shorts1; omega)
          rw [e1] at hVk hcell hsz hcr
          have hne : ((l.short : Int) != (l.long : Int)) = true := by simp; omega
          have hcd := hcell _ hbd
          obtain ⟨hld2, hld3⟩ := hlay _ hbd
          have HCE := Lib.hid hcell
          have HLY := Lib.hid hlay
          clear hcell hlay hmore hs e1 hval hrn hr hH hk hkb
          go_wp2_with fail
          go_region_held3 (fun w' => w'.cell? ⟨g0, off0 + k, none⟩ = some (.slice r.a l.short r.c) ∧ w'.cell? ⟨w5.heap.size, 2, none⟩ = some (.int .i64 (l.long : Int)) ∧ w'.cell? ⟨w5.heap.size, 3, none⟩ = some (.int .i64 (l.short : Int)))
            (first | go_keep | exact ⟨HCE.out _ hb10, HLY.out _ hb10⟩)
            (first
              | (go_at_call 15; refine (hVk.out _ hbd).mono ?_; rintro e w9 ⟨rfl, hb9⟩; have hb10 := hbd.trans (hb9.mono hbd.size)))
          clear HCE HLY
          go_wp2_with fail
          go_roundw
          case rel => exact ⟨k + 1, by omega, by go_num, HHk.out.step hb10⟩
          case measure => simp [intOf]; omega
        · have e1 : l.size k = l.long := by unfold Lay.size; rw [if_neg hs]
          obtain ⟨S, hS⟩ : ∃ S, l.size k = S := ⟨_, rfl⟩
          rw [hS] at hVk hcell hsz hcr e1
          have hne : ((S : Int) != (l.long : Int)) = false := by simp; omega
          have hcd := hcell _ hbd
          obtain ⟨hld2, hld3⟩ := hlay _ hbd
          have HCE := Lib.hid hcell
          have HLY := Lib.hid hlay
          clear hcell hlay hs e1 hval hrn hr hH hk hkb hS
          go_wp2_with fail
          refine wp_region_held_drew (S := fun w' => w'.cell? ⟨g0, off0 + k, none⟩ = some (.slice r.a S r.c) ∧ w'.cell? ⟨w5.heap.size, 2, none⟩ = some (.int .i64 (l.long : Int)) ∧ w'.cell? ⟨w5.heap.size, 3, none⟩ = some (.int .i64 (l.short : Int))) (by kernel_rfl) ⟨hcd, hld2, hld3⟩ (fun hHeld => ?_)
          refine wpAnyH_take (i := 0) (oi := { dst := some 82, op := Op.move (Operand.tmp 8), type := 48, pos := "law.go:195", after := #[], guard := none }) (v := ?_) rfl (by kernel_rfl) (by kernel_rfl) (by kernel_rfl) (fun _ _ _ h => h) (Or.inl ⟨by rfl, ?_⟩) hHeld ?_
          rotate_left
          · intro w hSw
            obtain ⟨s1, s2, s3⟩ := hSw
            go_simp
            try rfl
          simp only [Act.put, List.setIfInBounds_toArray, List.set_cons_zero, List.set_cons_succ]
          refine wpAnyH_take (i := 1) (oi := { dst := some 83, op := Op.move (Operand.tmp 14), type := 3, pos := "law.go:195", after := #[], guard := none }) (v := ?_) rfl (by kernel_rfl) (by kernel_rfl) (by kernel_rfl) (fun _ _ _ h => h) (Or.inl ⟨by rfl, ?_⟩) hHeld ?_
          rotate_left
          · intro w hSw
            obtain ⟨s1, s2, s3⟩ := hSw
            go_simp
            try rfl
          simp only [Act.put, List.setIfInBounds_toArray, List.set_cons_zero, List.set_cons_succ]
          refine wpAnyH_take (i := 2) (oi := { dst := some 84, op := Op.indexAddr 48 (Operand.tmp 82) (Operand.tmp 83), type := 0, pos := "law.go:195", after := #[{ on := 0, ground := Ground.data }, { on := 1, ground := Ground.data }], guard := none }) (v := ?_) rfl (by kernel_rfl) (by kernel_rfl) (by kernel_rfl) (fun _ _ _ h => h) (Or.inl ⟨by rfl, ?_⟩) hHeld ?_
          rotate_left
          · intro w hSw
            obtain ⟨s1, s2, s3⟩ := hSw
            go_simp
            try rfl
          simp only [Act.put, List.setIfInBounds_toArray, List.set_cons_zero, List.set_cons_succ]
          refine wpAnyH_take (i := 3) (oi := { dst := some 85, op := Op.load 46 (Operand.tmp 84), type := 46, pos := "law.go:195", after := #[{ on := 2, ground := Ground.data }], guard := none }) (v := ?_) rfl (by kernel_rfl) (by kernel_rfl) (by kernel_rfl) (fun _ _ _ h => h) (Or.inl ⟨by rfl, ?_⟩) hHeld ?_
          rotate_left
          · intro w hSw
            obtain ⟨s1, s2, s3⟩ := hSw
            go_simp
            try rfl
          simp only [Act.put, List.setIfInBounds_toArray, List.set_cons_zero, List.set_cons_succ]
          refine wpAnyH_take (i := 4) (oi := { dst := some 86, op := Op.call { callee := Callee.builtin Builtin.len, args := #[Operand.tmp 85], argTypes := #[46] }, type := 3, pos := "law.go:195", after := #[{ on := 3, ground := Ground.data }], guard := none }) (v := ?_) rfl (by kernel_rfl) (by kernel_rfl) (by kernel_rfl) (fun _ _ _ h => h) (Or.inl ⟨by rfl, ?_⟩) hHeld ?_
          rotate_left
          · intro w hSw
            obtain ⟨s1, s2, s3⟩ := hSw
            go_simp
            try rfl
          simp only [Act.put, List.setIfInBounds_toArray, List.set_cons_zero, List.set_cons_succ]
          refine wpAnyH_ready (rs := [5]) (by kernel_rfl) (by simp) ?_
          refine AllReadyH.cons (o := { dst := some 87, op := Op.call { callee := Callee.value (Operand.func 15), args := #[Operand.tmp 86], argTypes := #[3] }, type := 4, pos := "law.go:195", after := #[{ on := 4, ground := Ground.data }], guard := none }) rfl (fun K hK => ?_) AllReadyH.nil
          go_simp
          go_at_call 15
          refine (hVk.out _ hbd).mono ?_
          rintro e w9 ⟨rfl, hb9⟩
          have hb10 := hbd.trans (hb9.mono hbd.size)
          refine hK.out _ _ ⟨HCE.out _ hb10, HLY.out _ hb10⟩ (fun hHeld => ?_)
          clear hK K
          try simp only [Act.put, List.setIfInBounds_toArray, List.set_cons_zero, List.set_cons_succ]
          refine wpAnyH_take (i := 6) (oi := { dst := some 88, op := Op.unOp UnOp.not 4 (Operand.tmp 87), type := 4, pos := "law.go:195", after := #[{ on := 5, ground := Ground.data }], guard := none }) (v := ?_) rfl (by kernel_rfl) (by kernel_rfl) (by kernel_rfl) (fun _ _ _ h => h) (Or.inl ⟨by rfl, ?_⟩) hHeld ?_
          rotate_left
          · intro w hSw
            obtain ⟨s1, s2, s3⟩ := hSw
            go_simp
            try rfl
          simp only [Act.put, List.setIfInBounds_toArray, List.set_cons_zero, List.set_cons_succ]
          refine wpAnyH_take (i := 7) (oi := { dst := some 89, op := Op.move (Operand.tmp 88), type := 4, pos := "law.go:195", after := #[{ on := 6, ground := Ground.data }, { on := 5, ground := Ground.chain }], guard := none }) (v := ?_) rfl (by kernel_rfl) (by kernel_rfl) (by kernel_rfl) (fun _ _ _ h => h) (Or.inl ⟨by rfl, ?_⟩) hHeld ?_
          rotate_left
          · intro w hSw
            obtain ⟨s1, s2, s3⟩ := hSw
            go_simp
            try rfl
          simp only [Act.put, List.setIfInBounds_toArray, List.set_cons_zero, List.set_cons_succ]
          refine wpAnyH_take (i := 8) (oi := { dst := some 90, op := Op.move (Operand.tmp 8), type := 48, pos := "law.go:195", after := #[{ on := 7, ground := Ground.guard }], guard := some (7, false) }) (v := ?_) rfl (by kernel_rfl) (by kernel_rfl) (by kernel_rfl) (fun _ _ _ h => h) (Or.inl ⟨by rfl, ?_⟩) hHeld ?_
          rotate_left
          · intro w hSw
            obtain ⟨s1, s2, s3⟩ := hSw
            go_simp
            try rfl
          simp only [Act.put, List.setIfInBounds_toArray, List.set_cons_zero, List.set_cons_succ]
          refine wpAnyH_take (i := 9) (oi := { dst := some 91, op := Op.move (Operand.tmp 14), type := 3, pos := "law.go:195", after := #[{ on := 7, ground := Ground.guard }], guard := some (7, false) }) (v := ?_) rfl (by kernel_rfl) (by kernel_rfl) (by kernel_rfl) (fun _ _ _ h => h) (Or.inl ⟨by rfl, ?_⟩) hHeld ?_
          rotate_left
          · intro w hSw
            obtain ⟨s1, s2, s3⟩ := hSw
            go_simp
            try rfl
          simp only [Act.put, List.setIfInBounds_toArray, List.set_cons_zero, List.set_cons_succ]
          refine wpAnyH_take (i := 10) (oi := { dst := some 92, op := Op.indexAddr 48 (Operand.tmp 90) (Operand.tmp 91), type := 0, pos := "law.go:195", after := #[{ on := 8, ground := Ground.data }, { on := 9, ground := Ground.data }, { on := 7, ground := Ground.guard }], guard := some (7, false) }) (v := ?_) rfl (by kernel_rfl) (by kernel_rfl) (by kernel_rfl) (fun _ _ _ h => h) (Or.inl ⟨by rfl, ?_⟩) hHeld ?_
          rotate_left
          · intro w hSw
            obtain ⟨s1, s2, s3⟩ := hSw
            go_simp
            try rfl
          simp only [Act.put, List.setIfInBounds_toArray, List.set_cons_zero, List.set_cons_succ]
          refine wpAnyH_take (i := 11) (oi := { dst := some 93, op := Op.load 46 (Operand.tmp 92), type := 46, pos := "law.go:195", after := #[{ on := 10, ground := Ground.data }, { on := 7, ground := Ground.guard }], guard := some (7, false) }) (v := ?_) rfl (by kernel_rfl) (by kernel_rfl) (by kernel_rfl) (fun _ _ _ h => h) (Or.inl ⟨by rfl, ?_⟩) hHeld ?_
          rotate_left
          · intro w hSw
            obtain ⟨s1, s2, s3⟩ := hSw
            go_simp
            try rfl
          simp only [Act.put, List.setIfInBounds_toArray, List.set_cons_zero, List.set_cons_succ]
          refine wpAnyH_take (i := 12) (oi := { dst := some 94, op := Op.call { callee := Callee.builtin Builtin.len, args := #[Operand.tmp 93], argTypes := #[46] }, type := 3, pos := "law.go:195", after := #[{ on := 11, ground := Ground.data }, { on := 7, ground := Ground.guard }], guard := some (7, false) }) (v := ?_) rfl (by kernel_rfl) (by kernel_rfl) (by kernel_rfl) (fun _ _ _ h => h) (Or.inl ⟨by rfl, ?_⟩) hHeld ?_
          rotate_left
          · intro w hSw
            obtain ⟨s1, s2, s3⟩ := hSw
            go_simp
            try rfl
          simp only [Act.put, List.setIfInBounds_toArray, List.set_cons_zero, List.set_cons_succ]
          refine wpAnyH_take (i := 13) (oi := { dst := some 95, op := Op.fieldAddr 34 (Operand.tmp 10) 2, type := 0, pos := "law.go:195", after := #[{ on := 7, ground := Ground.guard }], guard := some (7, false) }) (v := ?_) rfl (by kernel_rfl) (by kernel_rfl) (by kernel_rfl) (fun _ _ _ h => h) (Or.inl ⟨by rfl, ?_⟩) hHeld ?_
          rotate_left
          · intro w hSw
            obtain ⟨s1, s2, s3⟩ := hSw
            go_simp
            try rfl
          simp only [Act.put, List.setIfInBounds_toArray, List.set_cons_zero, List.set_cons_succ]
          refine wpAnyH_take (i := 14) (oi := { dst := some 96, op := Op.load 3 (Operand.tmp 95), type := 3, pos := "law.go:195", after := #[{ on := 13, ground := Ground.data }, { on := 7, ground := Ground.guard }], guard := some (7, false) }) (v := ?_) rfl (by kernel_rfl) (by kernel_rfl) (by kernel_rfl) (fun _ _ _ h => h) (Or.inl ⟨by rfl, ?_⟩) hHeld ?_
          rotate_left
          · intro w hSw
            obtain ⟨s1, s2, s3⟩ := hSw
            go_simp
            try rfl
          simp only [Act.put, List.setIfInBounds_toArray, List.set_cons_zero, List.set_cons_succ]
          refine wpAnyH_take (i := 15) (oi := { dst := some 97, op := Op.binOp BinOp.neq 3 (Operand.tmp 94) (Operand.tmp 96) 3, type := 4, pos := "law.go:195", after := #[{ on := 12, ground := Ground.data }, { on := 14, ground := Ground.data }, { on := 7, ground := Ground.guard }], guard := some (7, false) }) (v := ?_) rfl (by kernel_rfl) (by kernel_rfl) (by kernel_rfl) (fun _ _ _ h => h) (Or.inl ⟨by rfl, ?_⟩) hHeld ?_
          rotate_left
          · intro w hSw
            obtain ⟨s1, s2, s3⟩ := hSw
            go_simp
            try rfl
          simp only [Act.put, List.setIfInBounds_toArray, List.set_cons_zero, List.set_cons_succ]
          refine wpAnyH_take (i := 16) (oi := { dst := some 98, op := Op.move (Operand.tmp 97), type := 4, pos := "law.go:195", after := #[{ on := 15, ground := Ground.data }, { on := 7, ground := Ground.chain }, { on := 7, ground := Ground.guard }], guard := some (7, false) }) (v := ?_) rfl (by kernel_rfl) (by kernel_rfl) (by kernel_rfl) (fun _ _ _ h => h) (Or.inl ⟨by rfl, ?_⟩) hHeld ?_
          rotate_left
          · intro w hSw
            obtain ⟨s1, s2, s3⟩ := hSw
            go_simp
            try rfl
          simp only [Act.put, List.setIfInBounds_toArray, List.set_cons_zero, List.set_cons_succ]
          refine wpAnyH_take (i := 17) (oi := { dst := some 99, op := Op.move (Operand.tmp 8), type := 48, pos := "law.go:195", after := #[{ on := 16, ground := Ground.guard }], guard := some (16, true) }) rfl (by kernel_rfl) (by kernel_rfl) (by kernel_rfl) (fun _ _ _ h => h) (Or.inr ⟨by rfl, rfl⟩) hHeld ?_
          simp only [Act.put, List.setIfInBounds_toArray, List.set_cons_zero, List.set_cons_succ]
          refine wpAnyH_take (i := 18) (oi := { dst := some 100, op := Op.move (Operand.tmp 14), type := 3, pos := "law.go:195", after := #[{ on := 16, ground := Ground.guard }], guard := some (16, true) }) rfl (by kernel_rfl) (by kernel_rfl) (by kernel_rfl) (fun _ _ _ h => h) (Or.inr ⟨by rfl, rfl⟩) hHeld ?_
          simp only [Act.put, List.setIfInBounds_toArray, List.set_cons_zero, List.set_cons_succ]
          refine wpAnyH_take (i := 19) (oi := { dst := some 101, op := Op.indexAddr 48 (Operand.tmp 99) (Operand.tmp 100), type := 0, pos := "law.go:195", after := #[{ on := 17, ground := Ground.data }, { on := 18, ground := Ground.data }, { on := 16, ground := Ground.guard }], guard := some (16, true) }) rfl (by kernel_rfl) (by kernel_rfl) (by kernel_rfl) (fun _ _ _ h => h) (Or.inr ⟨by rfl, rfl⟩) hHeld ?_
          simp only [Act.put, List.setIfInBounds_toArray, List.set_cons_zero, List.set_cons_succ]
          refine wpAnyH_take (i := 20) (oi := { dst := some 102, op := Op.load 46 (Operand.tmp 101), type := 46, pos := "law.go:195", after := #[{ on := 19, ground := Ground.data }, { on := 16, ground := Ground.guard }], guard := some (16, true) }) rfl (by kernel_rfl) (by kernel_rfl) (by kernel_rfl) (fun _ _ _ h => h) (Or.inr ⟨by rfl, rfl⟩) hHeld ?_
          simp only [Act.put, List.setIfInBounds_toArray, List.set_cons_zero, List.set_cons_succ]
          refine wpAnyH_take (i := 21) (oi := { dst := some 103, op := Op.call { callee := Callee.builtin Builtin.len, args := #[Operand.tmp 102], argTypes := #[46] }, type := 3, pos := "law.go:195", after := #[{ on := 20, ground := Ground.data }, { on := 16, ground := Ground.guard }], guard := some (16, true) }) rfl (by kernel_rfl) (by kernel_rfl) (by kernel_rfl) (fun _ _ _ h => h) (Or.inr ⟨by rfl, rfl⟩) hHeld ?_
          simp only [Act.put, List.setIfInBounds_toArray, List.set_cons_zero, List.set_cons_succ]
          refine wpAnyH_take (i := 22) (oi := { dst := some 104, op := Op.fieldAddr 34 (Operand.tmp 10) 3, type := 0, pos := "law.go:195", after := #[{ on := 16, ground := Ground.guard }], guard := some (16, true) }) rfl (by kernel_rfl) (by kernel_rfl) (by kernel_rfl) (fun _ _ _ h => h) (Or.inr ⟨by rfl, rfl⟩) hHeld ?_
          simp only [Act.put, List.setIfInBounds_toArray, List.set_cons_zero, List.set_cons_succ]
          refine wpAnyH_take (i := 23) (oi := { dst := some 105, op := Op.load 3 (Operand.tmp 104), type := 3, pos := "law.go:195", after := #[{ on := 22, ground := Ground.data }, { on := 16, ground := Ground.guard }], guard := some (16, true) }) rfl (by kernel_rfl) (by kernel_rfl) (by kernel_rfl) (fun _ _ _ h => h) (Or.inr ⟨by rfl, rfl⟩) hHeld ?_
          simp only [Act.put, List.setIfInBounds_toArray, List.set_cons_zero, List.set_cons_succ]
          refine wpAnyH_take (i := 24) (oi := { dst := some 106, op := Op.binOp BinOp.neq 3 (Operand.tmp 103) (Operand.tmp 105) 3, type := 4, pos := "law.go:195", after := #[{ on := 21, ground := Ground.data }, { on := 23, ground := Ground.data }, { on := 16, ground := Ground.guard }], guard := some (16, true) }) rfl (by kernel_rfl) (by kernel_rfl) (by kernel_rfl) (fun _ _ _ h => h) (Or.inr ⟨by rfl, rfl⟩) hHeld ?_
          simp only [Act.put, List.setIfInBounds_toArray, List.set_cons_zero, List.set_cons_succ]
          refine wpAnyH_take (i := 25) (oi := { dst := some 107, op := Op.pick (Operand.tmp 98) (Operand.tmp 106) (Operand.const (Value.bool false)), type := 4, pos := "law.go:195", after := #[{ on := 16, ground := Ground.data }, { on := 24, ground := Ground.data }, { on := 7, ground := Ground.guard }], guard := some (7, false) }) (v := ?_) rfl (by kernel_rfl) (by kernel_rfl) (by kernel_rfl) (fun _ _ _ h => h) (Or.inl ⟨by rfl, ?_⟩) hHeld ?_
          rotate_left
          · intro w hSw
            obtain ⟨s1, s2, s3⟩ := hSw
            go_simp
            try rfl
          simp only [Act.put, List.setIfInBounds_toArray, List.set_cons_zero, List.set_cons_succ]
          refine wpAnyH_take (i := 26) (oi := { dst := some 108, op := Op.pick (Operand.tmp 89) (Operand.const (Value.bool true)) (Operand.tmp 107), type := 4, pos := "law.go:195", after := #[{ on := 7, ground := Ground.data }, { on := 25, ground := Ground.data }], guard := none }) (v := ?_) rfl (by kernel_rfl) (by kernel_rfl) (by kernel_rfl) (fun _ _ _ h => h) (Or.inl ⟨by rfl, ?_⟩) hHeld ?_
          rotate_left
          · intro w hSw
            obtain ⟨s1, s2, s3⟩ := hSw
            go_simp
            try rfl
          simp only [Act.put, List.setIfInBounds_toArray, List.set_cons_zero, List.set_cons_succ]
          refine wpAnyH_done (by kernel_rfl) ?_ _
          clear HCE HLY
          go_wp2_with fail
          go_roundw
          case rel => exact ⟨k + 1, by omega, by go_num, HHk.out.step hb10⟩
          case measure => simp [intOf]; omega
      · obtain rfl : k = l.blocks := by omega
        have HHk := Lib.hid hH
        have hbw := hH.below
        obtain ⟨q0, q1, q2, q3, q4, q5, q6⟩ := hH.lay.all
        have hcells := hH.own.rds.cells
        clear hkb hk hH
        have hcase : (l.blocks = 1) ∨ (l.blocks ≠ 1 ∧ blk < 0) ∨ (l.blocks ≠ 1 ∧ 0 ≤ blk ∧ (l.blocks : Int) ≤ blk) ∨ (l.blocks ≠ 1 ∧ 0 ≤ blk ∧ blk < (l.blocks : Int)) := by omega
        rcases hcase with h1 | ⟨h1, h2⟩ | ⟨h1, h2, h3⟩ | ⟨h1, h2, h3⟩
        case' inl =>
          have hbz := hbw
          have hd : (l.blocks : Int) = 1 := by omega
          rw [hd] at q1
          clear hcells
          go_wp2_with fail
        case' inr.inl =>
          have hbz := hbw
          have hd : ((l.blocks : Int) == 1) = false := by simp; omega
          clear hcells
          go_wp2_with fail
        case' inr.inr.inl =>
          have hbz := hbw
          have hd : ((l.blocks : Int) == 1) = false := by simp; omega
          have h2' : ¬ blk < 0 := by omega
          clear hcells
          go_wp2_with fail
        case' inr.inr.inr =>
          have hd : ((l.blocks : Int) == 1) = false := by simp; omega
          have h2' : ¬ blk < 0 := by omega
          obtain ⟨k, rfl⟩ : ∃ k : Nat, blk = k := ⟨blk.toNat, by omega⟩
          have hkb : k < l.blocks := by omega
          obtain ⟨g0, off0, r, rfl, hg0, hr, hcr, hRr⟩ := hcells k hkb
          obtain ⟨_, hrx, hrn⟩ := hrow.out k r hr
          have hrl := hRr.len
          have hsz := HOK.out.size_le k
          have h3' : ¬ (l.blocks : Int) ≤ (k : Int) := by omega
          have hcase2 : (pos < 0) ∨ (0 ≤ pos ∧ (r.n : Int) ≤ pos) ∨ (0 ≤ pos ∧ pos < (r.n : Int)) := by omega
          rcases hcase2 with h4 | ⟨h4, h5⟩ | ⟨h4, h5⟩
        case' inr.inr.inr.inl =>
          have hbz := hbw
          clear hcells
          go_wp2_with fail
        case' inr.inr.inr.inr.inl =>
          have hbz := hbw
          have h4' : ¬ pos < 0 := by omega
          clear hcells
          go_wp2_with fail
        case' inr.inr.inr.inr.inr =>
          have h4' : ¬ pos < 0 := by omega
          have h5' : ¬ (r.n : Int) ≤ pos := by omega
          obtain ⟨i, rfl⟩ : ∃ i : Nat, pos = i := ⟨pos.toNat, by omega⟩
          have hin : i < r.n := by omega
          have hrm := List.mem_of_getElem? hr
          have hz := HHk.out.own.row r hrm
          obtain ⟨g, hg⟩ : ∃ g, r.a = some ⟨g, 0, none⟩ := by
            obtain ⟨g, cap, hv, _, _⟩ := World.ownsRow.form hz (by omega)
            unfold hdr at hv
            injection hv with hv
            exact ⟨g, hv⟩
          obtain ⟨b9, off9, e9, hb9, hc9⟩ := hRr.cells i hin
          rw [hg] at e9
          injection e9 with e9
          injection e9 with e9 e10
          subst e9 e10
          rw [Nat.zero_add] at hc9
          have hfz : wr.frozen? ⟨g, i, none⟩ = false := by
            unfold ZOwn hdr at hz
            rw [hg] at hz
            exact World.ownsRow.frozenAt hz i
          have hil : i < (l.block xs k).length := by rw [← hrx, hrl]; exact hin
          obtain ⟨z2, hz2, hjl⟩ := hfl.out k i h1 hkb hil
          have hx01 : r.xs[i]?.getD 0 = 0 ∨ r.xs[i]?.getD 0 = 1 := by
            rw [hrx, List.getElem?_eq_getElem hil]
            exact hbb.out k _ (List.getElem_mem hil)
          rw [← hrx] at hjl
          have hOn := (HHk.out.own.step (Below.refl wr.heap.size wr).drew).stored (v := 1 - r.xs[i]?.getD 0) (i := i) hr hg
          have hJn := hOn.jnOk HB1.out (by omega) (all_set (fun s hs => ⟨(HBR.out s hs).1, by have := (HBR.out s hs).2; omega⟩) ⟨byte_set (HBR.out r hrm).1 (by omega), by show r.n ≤ 1000000; omega⟩)
          have hjn := hB.out _ _ _ _ (n : Int) hJn c3
          have hjv : joinS (n : Int) (rows.set k ⟨r.a, r.n, r.c, r.xs.set i (1 - r.xs[i]?.getD 0)⟩) = ([], z2) := by
            rw [joinS_rows hOn, List.map_set, hm3'.out]
            exact hjl
          rw [hjv] at hjn
          have HJN := Lib.hid hjn
          have hbn := hJn.below
          obtain ⟨rn, hrn'⟩ : ∃ rn, r.n = rn := ⟨_, rfl⟩
          obtain ⟨rc, hrc'⟩ : ∃ rc, r.c = rc := ⟨_, rfl⟩
          rw [hg, hrn', hrc'] at hcr
          rw [hrn'] at hin hrn h5 h5'
          generalize r.xs[i]?.getD 0 = x at *
          have hx0 : (0 : Int) ≤ x := by omega
          have hx1 : x ≤ 1 := by omega
          have hwr : IntKind.u8.wrap (1 - x) = 1 - x := by rcases hx01 with h | h <;> subst h <;> rfl
          have hi0 : (0 : Int) ≤ (i : Int) := by omega
          have hzne : (z2 != 0) = true := by simp [hz2]
          have hcr' : wr.drew.cell? ⟨g0, off0 + k, none⟩ = some (.slice (some ⟨g, 0, none⟩) rn rc) := hcr
          have hc9' : wr.drew.cell? ⟨g, i, none⟩ = some (.int .u8 x) := hc9
          have hfz' : wr.drew.frozen? ⟨g, i, none⟩ = false := hfz
          clear hcells hjn hjv hjl hJn hOn hil hx01 hz hrm hr hrx hrl hRr hrn' hrc' hg hz2 hrn hrow hfl hbb hm3' HBR HOK hsz q0 q2 q3 q4 q5 q6
          go_wp2_with fail
          go_still_tail 14, (by kernel_rfl)
          change wpList _ _ _ _ _ wr.drew
          go_wp2_with fail
          refine HJN.out.mono ?_
          intro e w11 h11
          obtain ⟨A11, c11, rfl, _, hb11⟩ := h11.got (n := 0) rfl
          have hbz := hbn.trans (hb11.mono hbn.size)
          clear hbn hb11 h11 HJN
          go_wp2_with (go_at_call 17; refine num_any.mono ?_; rintro e w12 ⟨rfl, rfl⟩)
        all_goals
          refine (hW.out _ hbz).mono ?_
          rintro e w9 ⟨rfl, hb9⟩
          replace hb9 := hbz.trans (hb9.mono hbz.size)
          go_wp2_with fail
          go_ret
          exact ⟨rfl, hb9⟩
  · obtain ⟨z, hz0, hss⟩ : ∃ z : Int, z ≠ 0 ∧ splitS xs = ([], z) := by
      unfold splitS
      by_cases h1 : 1 ≤ n
      · have hv : validB xs = false := by
          cases h : validB xs with
          | false => rfl
          | true => exact absurd ⟨h1, h⟩ hok
        exact ⟨3, by decide, by rw [if_neg (by omega), if_pos hv]⟩
      · exact ⟨2, by decide, by rw [if_pos (by omega)]⟩
    rw [hss] at h3
    obtain ⟨A3, c3, rows, rfl, hO3, _⟩ := h3.got (n := 0) rfl
    have hbz := hb1.trans (hO3.below.mono hb1.size)
    have hzne : (z != 0) = true := by simp [hz0]
    clear h3 hO3 hok hz0 hss hbyt hb1 hlx hr1 hx
    simp only
    go_wp2_with (go_at_call 17; refine num_any.mono ?_; rintro e w4 ⟨rfl, rfl⟩)
    refine (hW.out _ hbz).mono ?_
    rintro e w9 ⟨rfl, hb9⟩
    replace hb9 := hbz.trans (hb9.mono hbz.size)
    go_wp2_with fail
    go_ret
    exact ⟨rfl, hb9⟩
end
end Go.Proofs.YtkdodmjhpkfhnaaDoor
