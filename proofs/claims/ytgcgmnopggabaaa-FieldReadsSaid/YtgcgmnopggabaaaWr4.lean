/-
  PutAll, Put.
-/
import Derived.Test.YtgcgmnopggabaaaWr3
import Derived.Outline
namespace Go.Proofs.Ytgcgmnopggabaaa
open Go.RowKit Go.Shelf BigFrame

attribute [local go_sem] Oper.semAt_some

/-- A slice of fields that is read: each as its value and its width. -/
structure RdF (w : World) (B : Nat) (A : Option Addr) (n : Nat) (fs : List (Int × Int)) : Prop where
  len : fs.length = n
  cells : ∀ k, k < n → ∃ b off, A = some ⟨b, off, none⟩ ∧ b < B ∧ w.cell? ⟨b, off + k * 2, none⟩ = some (.int .u64 (fs[k]?.getD (0, 0)).1) ∧ w.cell? ⟨b, off + k * 2 + 1, none⟩ = some (.int .i64 (fs[k]?.getD (0, 0)).2)
  range : ∀ f ∈ fs, 0 ≤ f.1 ∧ f.1 < 18446744073709551616
theorem RdF.save {w w' : World} {B n : Nat} {A : Option Addr} {fs : List (Int × Int)} (h : RdF w B A n fs) {X : Nat → Prop} (hs : Save X w w') (hB : B ≤ w.heap.size) (hX : ∀ a, A = some a → ¬ X a.block) : RdF w' B A n fs :=
  ⟨h.len, fun k hn => by
    obtain ⟨b, off, e, hb, hc, hd⟩ := h.cells k hn
    exact ⟨b, off, e, hb, (hs.cell (p := ⟨b, off + k * 2, none⟩) (Nat.lt_of_lt_of_le hb hB) (show ¬ X b from hX _ e)).trans hc, (hs.cell (p := ⟨b, off + k * 2 + 1, none⟩) (Nat.lt_of_lt_of_le hb hB) (show ¬ X b from hX _ e)).trans hd⟩, h.range⟩
theorem RdF.more {w : World} {B B' n : Nat} {A : Option Addr} {fs : List (Int × Int)} (h : RdF w B A n fs) (hB : B ≤ B') : RdF w B' A n fs :=
  ⟨h.len, fun k hn => by
    obtain ⟨b, off, e, hb, hc⟩ := h.cells k hn
    exact ⟨b, off, e, Nat.lt_of_lt_of_le hb hB, hc⟩, h.range⟩
theorem RdF.at_range {w : World} {B n : Nat} {A : Option Addr} {fs : List (Int × Int)} (h : RdF w B A n fs) (k : Nat) (hk : k < n) : 0 ≤ (fs[k]?.getD (0, 0)).1 ∧ (fs[k]?.getD (0, 0)).1 < 18446744073709551616 := by
  have hl : k < fs.length := by rw [h.len]; exact hk
  have := h.range fs[k] (List.getElem_mem hl)
  simpa [hl] using this

/-- The first error of the fields. -/
def errAll : List (Int × Int) → Int
  | [] => 0
  | f :: t => if (fromUintS f.1 f.2).2 = 0 then errAll t else (fromUintS f.1 f.2).2
/-- The bits of the fields. -/
def bitsAll (fs : List (Int × Int)) : List Int := fs.flatMap fun f => fromUintL f.1 f.2.toNat
theorem errAll_zero (fs : List (Int × Int)) : errAll fs = 0 ↔ ∀ f ∈ fs, (fromUintS f.1 f.2).2 = 0 := by
  induction fs with
  | nil => simp [errAll]
  | cons f t ih =>
    by_cases h : (fromUintS f.1 f.2).2 = 0
    · simp [errAll, h, ih]
    · simp [errAll, h]
theorem errAll_first {fs : List (Int × Int)} {k : Nat} (hk : k < fs.length) (h : ∀ f ∈ fs.take k, (fromUintS f.1 f.2).2 = 0) (hne : (fromUintS (fs[k]?.getD (0, 0)).1 (fs[k]?.getD (0, 0)).2).2 ≠ 0) : errAll fs = (fromUintS (fs[k]?.getD (0, 0)).1 (fs[k]?.getD (0, 0)).2).2 := by
  induction fs generalizing k with
  | nil => simp at hk
  | cons f t ih =>
    cases k with
    | zero => simp at hne; simp [errAll, hne]
    | succ k =>
      have h0 := h f (by simp)
      simp only [List.getElem?_cons_succ] at hne ⊢
      rw [errAll, if_pos h0]
      exact ih (by simpa using hk) (fun g hg => h g (by simp [hg])) hne
theorem bitsAll_snoc (fs : List (Int × Int)) (f : Int × Int) : bitsAll (fs ++ [f]) = bitsAll fs ++ fromUintL f.1 f.2.toNat := by simp [bitsAll]
theorem bitsAll_bits (fs : List (Int × Int)) : Bits (bitsAll fs) := fun x hx => by
  obtain ⟨f, _, h⟩ := List.mem_flatMap.1 hx
  exact fromUintL_bits _ _ x h
theorem width_ok {v n : Int} (h : (fromUintS v n).2 = 0) : 0 ≤ n ∧ n ≤ 64 := by
  unfold fromUintS at h
  split at h
  · simp at h
  · omega
theorem bitsAll_len {fs : List (Int × Int)} (h : ∀ f ∈ fs, (fromUintS f.1 f.2).2 = 0) : (bitsAll fs).length ≤ 64 * fs.length := by
  induction fs with
  | nil => simp [bitsAll]
  | cons f t ih =>
    have h1 := ih (fun g hg => h g (by simp [hg]))
    have h2 := width_ok (h f (by simp))
    have : bitsAll (f :: t) = fromUintL f.1 f.2.toNat ++ bitsAll t := by simp [bitsAll]
    rw [this, List.length_append, fromUintL_length, List.length_cons]
    omega

/-- The marks leave: nothing else turns. -/
theorem leaves_marks_save {P : Program} {F : Fence} {n : Nat} {fn : Func} {tmps : Array Value} {R : Ending → World → Prop} (Ds : List Nat) : ∀ (w : World), Marks w Ds →
    (∀ w', Save (· ∈ Ds) w w' → ∃ v, (results fn tmps).run P w' = .ok v w' ∧ R (.returned v) w') → LeavesInM F n P fn tmps R (Ds.map mkD) .returning w := by
  induction Ds with
  | nil => intro w _ h; exact h w (Save.refl _ _)
  | cons D Ds ih =>
    intro w hM h
    have hD := hM.2 D (by simp)
    refine ⟨by simp, .inl ⟨D, _, rfl, run_takeDeferred hD, ?_⟩⟩
    have hb : Save (· ∈ D :: Ds) w (w.putObj D (.deferred none)) := (Save.refl _ w).grown (grownBy_putObj' w D _) (fun k e _ => by cases e; simp)
    refine ih _ ⟨(List.nodup_cons.1 hM.1).2, fun E hE => ?_⟩ (fun w' hw => h w' (hb.trans (hw.mono (fun i _ hi => by simp [hi]))))
    have hne : E ≠ D := fun e => (List.nodup_cons.1 hM.1).1 (e ▸ hE)
    exact ((grownBy_putObj' w D (.deferred none)).block E (hM.lt E (by simp [hE])) (fun e => hne (by injection e))).trans (hM.2 E (by simp [hE]))

/-- What PutAll hands back and leaves. -/
def PutR (w : World) (B : Nat) (V : Value) (bs : List Int) (fs : List (Int × Int)) (e : Ending) (w' : World) : Prop := e = .returned (.int .i64 (errAll fs)) ∧ WStep w B V (if errAll fs = 0 then bs ++ bitsAll fs else bs) w'

theorem WX.boxes {w : World} {B : Nat} {V : Value} {bs : List Int} (h : WrtAt w B V bs) : ∀ k o, WX B V k → w.heap[k]? = some o → o.isCells = true := by
  rintro k o (rfl | hk) ho
  · rw [show w.heap[k]? = _ from h.blk] at ho; cases ho; rfl
  · rcases h.row.2 with ⟨h1, _⟩ | ⟨g, cap, cur, h1, _, hg, _⟩
    · rw [h1] at hk; cases hk
    · rw [h1] at hk
      have : k = g := by simpa [Value.ownBlock] using hk
      subst this
      rw [hg] at ho; cases ho; rfl
/-- A writer abides the turn of what is no cells. -/
theorem WrtAt.grown {w w' : World} {B D : Nat} {V : Value} {bs : List Int} {row : Option Nat} (h : WrtAt w B V bs) (hg : w.grownBy w' row) (hr : ∀ r, row = some r → D ≤ r ∧ ∃ o : Obj, w.heap[r]? = some o ∧ o.isCells = false) : WrtAt w' B V bs := by
  refine h.save (X := fun k => some k = row) ⟨hg.os, hg.tape, hg.output, hg.size, fun k hk hx => hg.block k hk hx⟩ (fun k hk hx => ?_)
  obtain ⟨_, o, ho, hc⟩ := hr k hx.symm
  have := WX.boxes h k o hk ho
  rw [hc] at this; cases this
/-- Between two bits of PutAll. -/
def PI (Wc : World) (B : Nat) (Vc : Value) (cur : List Int) (Nb : Nat) (Ds : List Nat) (pre : List Bool) (W : World) : Prop :=
  (∃ V', WrtAt W B V' (cur ++ pre.map bI) ∧ Turn B Vc V' Wc W) ∧ Boxed W Nb 32 (.pointer (some ⟨B, 0, none⟩)) ∧ Marks W Ds
theorem pi_own {Wc : World} {B : Nat} {Vc : Value} {cur : List Int} {Nb D : Nat} {Ds : List Nat} (hD : Wc.heap.size ≤ D) (hDs : ∀ E ∈ Ds, E < D) : OwnFrom D (PI Wc B Vc cur Nb Ds) := fun s W W' row hs hg hr => by
  obtain ⟨⟨V', h1, h2⟩, h3, h4⟩ := hs
  refine ⟨⟨V', h1.grown hg hr, h2.1.grown hg (fun k e hk => by have := (hr k e).1; omega), h2.2⟩, (boxed_own (β := Unit) Nb _ (fun _ => _)).from D () W W' row h3 hg hr, h4.grown hg (fun E hE e => by have := (hr E e.symm).1; have := hDs E hE; omega)⟩

set_option maxRecDepth 100000 in
set_option maxHeartbeats 4000000 in
theorem putAll_in (m : Nat) (hm : 6 ≤ m) {w : World} {B n c Bl : Nat} {A : Option Addr} {V : Value} {bs : List Int} {fs : List (Int × Int)} (h : WrtAt w B V bs) (hR : RdF w Bl A n fs) (hBl : Bl ≤ w.heap.size) (hA : 0 < n → ∀ a, A = some a → a.block ≠ B ∧ some a.block ≠ V.ownBlock)
    (hn : n ≤ 1000000) (hsz : bs.length + 64 * n ≤ 1099511627776) :
    CallsIn Fence.wide m Try.prog 29 #[.pointer (some ⟨B, 0, none⟩), .slice A n c] w (PutR w B V bs fs) := by
  have h1 : 1 ≤ m := by omega
  refine callsIn_of_wp_marks Try.func29 rfl trivial ?_ rfl
  simp only [Try.ntmps29, List.size_toArray, List.length_cons, List.length_nil, Nat.reduceAdd, Nat.reduceSub, Array.replicate_succ, Array.replicate_zero, List.push_toArray, List.append_toArray, List.nil_append, List.cons_append]
  obtain ⟨N, hN⟩ : ∃ N, N = w.heap.size := ⟨_, rfl⟩
  have hBN := h.lt
  have hW0 : Hid (WrtAt (w.alloc (.cells #[.pointer (some ⟨B, 0, none⟩)] 32)) B V bs) := Lib.hid (h.below ((Below.refl _ w).alloc (Nat.le_refl _) _))
  gi_wp2
  gi_loopw [15] (fun i wr => ∃ k : Nat, k ≤ n ∧ i = .int .i64 k ∧ Hid (∀ f ∈ fs.take k, (fromUintS f.1 f.2).2 = 0) ∧ Hid (Below w.heap.size w wr) ∧ Boxed wr w.heap.size 32 (.pointer (some ⟨B, 0, none⟩)))
    (fun i _ => n - (intOf i).toNat)
  case atStart => exact ⟨0, Nat.zero_le _, rfl, Lib.hid (by simp), Lib.hid ((Below.refl _ w).alloc (Nat.le_refl _) _), Boxed.new _ _ _⟩
  case round =>
    obtain ⟨k, hk, rfl, hall, hbw, hbx⟩ := hrel
    by_cases hlt : k < n
    · have hRw : RdF wr Bl A n fs := hR.save (X := fun i => w.heap.size ≤ i) (Save.of_below hbw.out) hBl (fun a ha hx => by
        obtain ⟨b, off, e, hb, _⟩ := hR.cells k hlt
        rw [ha] at e
        injection e with e
        have : a.block = b := by rw [e]
        omega)
      obtain ⟨b, off, rfl, hb, hc, hd⟩ := hRw.cells k hlt
      have hrg := hRw.at_range k hlt
      have hfirst := fun (hz : (fromUintS (fs[k]?.getD (0, 0)).1 (fs[k]?.getD (0, 0)).2).2 ≠ 0) => errAll_first (fs := fs) (k := k) (by rw [hR.len]; exact hlt) hall.out hz
      have hnext : (fromUintS (fs[k]?.getD (0, 0)).1 (fs[k]?.getD (0, 0)).2).2 = 0 → ∀ f ∈ fs.take (k + 1), (fromUintS f.1 f.2).2 = 0 := fun hz f hf => by
        rw [take_snoc fs k (by rw [hR.len]; exact hlt) (0, 0)] at hf
        rcases List.mem_append.1 hf with h2 | h2
        · exact hall.out f h2
        · rw [List.mem_singleton.1 h2]; exact hz
      generalize (fs[k]?.getD (0, 0)).1 = v at hc hfirst hnext
      generalize (fs[k]?.getD (0, 0)).2 = wd at hd hfirst hnext
      have hCk : Hid (∀ W, Calls Try.prog 52 #[.agg #[.int .u64 v, .int .i64 wd]] W fun e w' => e = .returned (.int .i64 (fromUintS v wd).2) ∧ Below W.heap.size W w') := Lib.hid (fun W => check_any)
      obtain ⟨er, her⟩ : ∃ er, er = (fromUintS v wd).2 := ⟨_, rfl⟩
      rw [← her] at hCk hfirst hnext
      have HF := Lib.hid hfirst
      have HX := Lib.hid hnext
      clear hfirst hnext her
      have hN := Two.new wr 73 (.int .u64 0) (.int .i64 0)
      have n0 := hN.cell0
      have n1 := hN.cell1
      have f0 := hN.frozen 0
      have f1 := hN.frozen 1
      gi_wp2_with fail
      refine ⟨trivial, ?_⟩
      refine (callsIn_wide.2 (hCk.out _)).mono ?_
      rintro e w2 ⟨rfl, hb2⟩
      have hb3 : Below w.heap.size w w2 := (hbw.out.alloc hbw.out.size _).trans (hb2.mono (by have := hbw.out.size; simp; omega))
      have hbx2 : Boxed w2 w.heap.size 32 (.pointer (some ⟨B, 0, none⟩)) := (hb2.block _ (by have := hbx.lt; simp; omega)).trans (hbx.alloc _)
      clear hb2 n0 n1 f0 f1 hN hc hd
      by_cases hz : er = 0
      · have hdz : (er != 0) = false := by simp [hz]
        have HZ := Lib.hid (HX.out hz)
        clear hz
        have HB := Lib.hid hb3
        clear hb3
        gi_wp2_with fail
        go_roundw
        case rel => exact ⟨k + 1, by omega, by go_num, HZ, HB, hbx2⟩
        case measure => simp [intOf]; omega
      · have hdz : (er != 0) = true := by simp [hz]
        have HZ := Lib.hid (HF.out hz)
        have HY := Lib.hid hz
        clear hz
        gi_wp2_with fail
        refine ⟨_, results_tmp rfl _ _ _, ?_, ?_⟩
        · rw [HZ.out]; rfl
        · rw [HZ.out, if_neg HY.out]
          exact ⟨V, h.below hb3, Save.of_below hb3, fun i _ hne => hne⟩
    · obtain rfl : k = n := by omega
      have hall' : Hid (∀ f ∈ fs, (fromUintS f.1 f.2).2 = 0) := Lib.hid (by have := hall.out; rwa [← hR.len, List.take_length] at this)
      clear hall hlt hk
      gi_wp2_with fail
      refine wpIn_loop
        (fun a' w' => ∃ (j : Nat) (Ds : List Nat) (u9 u28 u29 u30 u31 u32 u39 : Value), j ≤ k ∧
          a' = { tmps := #[.pointer (some ⟨B, 0, none⟩), .slice A k c, .pointer (some ⟨w.heap.size, 0, none⟩), undef, u4, undef, u6, u7, undef, u9, undef, .pointer (some ⟨B, 0, none⟩), .bool false, .slice A k c, .int .i64 k, .int .i64 k, .bool false, u17, u18, u19, u20, u21, u22, u23, u24, .slice A k c, .int .i64 k, .int .i64 j, u28, u29, u30, u31, u32, undef, undef, undef, undef, undef, undef, u39], defers := Ds.map mkD } ∧
          PI wr B V (bs ++ bitsAll (fs.take j)) w.heap.size Ds [] w' ∧ ∀ D ∈ Ds, w.heap.size ≤ D)
        (fun a' _ => k - (intOf (a'.tmps.getD 27 undef)).toNat) ?start ?round
      case start => exact ⟨0, [], _, _, _, _, _, _, _, Nat.zero_le _, rfl, ⟨⟨V, by simpa [bitsAll] using h.below hbw.out, Turn.refl _ _ _⟩, hbx, Marks.nil _⟩, by simp⟩
      case round =>
        rintro a' w' ⟨j, Ds, u9, u28, u29, u30, u31, u32, u39, hj, rfl, ⟨⟨V', hw', ht'⟩, hbx', hM⟩, hDs⟩
        dsimp only
        have hww : Save (WX B V) w w' := (Save.of_below hbw.out).trans' ht'.1 (fun i hi _ => hi)
        have htw : Turn B V V' w w' := ⟨hww, fun i hi hne => ht'.2 i (Nat.lt_of_lt_of_le hi hbw.out.size) hne⟩
        rw [List.map_nil, List.append_nil] at hw'
        by_cases hlt : j < k
        · have hRw : RdF w' Bl A k fs := hR.save hww hBl (fun a ha hx => by
            rcases hx with hx | hx
            · exact (hA (by omega) a ha).1 hx
            · exact (hA (by omega) a ha).2 hx)
          obtain ⟨b, off, rfl, hb, hc, hd⟩ := hRw.cells j hlt
          have hrg := hRw.at_range j hlt
          have hw0 := width_ok (hall'.out (fs[j]?.getD (0, 0)) (by
            have hl : j < fs.length := by rw [hR.len]; exact hlt
            simp [hl]))
          have hsn : bitsAll (fs.take (j + 1)) = bitsAll (fs.take j) ++ fromUintL (fs[j]?.getD (0, 0)).1 (fs[j]?.getD (0, 0)).2.toNat := by
            rw [take_snoc fs j (by rw [hR.len]; exact hlt) (0, 0), bitsAll_snoc]
          have hbl := bitsAll_len (fs := fs.take j) (fun f hf => hall'.out f (List.mem_of_mem_take hf))
          have htl : (fs.take j).length ≤ j := List.length_take_le _ _
          generalize (fs[j]?.getD (0, 0)).1 = v at hc hrg hsn
          generalize (fs[j]?.getD (0, 0)).2 = wd at hd hw0 hsn
          obtain ⟨wn, rfl⟩ := Int.eq_ofNat_of_zero_le hw0.1
          have hwn : wn ≤ 64 := by omega
          rw [Int.toNat_natCast] at hsn
          have HSn := Lib.hid hsn
          have HR := Lib.hid hrg
          obtain ⟨cur, hcur⟩ : ∃ cur, cur = bs ++ bitsAll (fs.take j) := ⟨_, rfl⟩
          rw [← hcur] at hw'
          have hcl : cur.length + 64 ≤ 1099511627776 := by rw [hcur, List.length_append]; omega
          have HC := Lib.hid hcur
          have hN := Two.new w' 73 (.int .u64 0) (.int .i64 0)
          have n0 := hN.cell0
          have n1 := hN.cell1
          have f0 := hN.frozen 0
          have f1 := hN.frozen 1
          clear hsn hrg hcur hbl htl
          gi_wp2_with fail
          refine ⟨trivial, ?_⟩
          refine (bits_in (m - 1) _ _ _).mono ?_
          rintro e w2 ⟨rfl, hw2⟩
          obtain ⟨Bs, hBs⟩ : ∃ Bs, Bs = w'.heap.size + 1 := ⟨_, rfl⟩
          simp only [World.size_alloc, ← hBs] at hw2 ⊢
          have hs2 : w2.heap.size = Bs + 1 := by rw [hw2, hBs]; simp
          have hb2 : Below w'.heap.size w' w2 := by rw [hw2]; exact ((Below.refl _ _).alloc (Nat.le_refl _) _).alloc (by simp) _
          have hbox : Two w2 Bs 73 (.int .u64 v) (.int .i64 wn) := by
            have := Two.new (w'.alloc (.cells #[.int .u64 v, .int .i64 wn] 73)) 73 (.int .u64 v) (.int .i64 wn)
            rw [World.size_alloc, ← hBs] at this
            rw [hw2]; exact this
          have hW2 : WrtAt w2 B V' cur := hw'.below hb2
          have hM2 : Marks w2 Ds := by rw [hw2]; exact (hM.alloc _).alloc _
          have hbx2 : Boxed w2 w.heap.size 32 (.pointer (some ⟨B, 0, none⟩)) := (hb2.block _ hbx'.lt).trans hbx'
          have hVl := hw'.own_lt
          have hBl' := hw'.lt
          have hMl := hM2.lt
          clear hw2 n0 n1 f0 f1 hN hc hd
          gi_wp2_with fail
          refine wpIn_rangeFunc_mv rfl h1 (gf := 60) (lb := #[.pointer (some ⟨Bs, 0, none⟩)]) rfl trivial (enters_of Try.func60 (by kernel_rfl) rfl)
            (bits_seq (m - 1) (by omega) HR.out hwn hbox) KeepB.trans (KeepB.putObj (by rintro i rfl; omega)) (Below.refl _ _) (fun _ => rfl)
            (fun _ _ h => h.elim) (fun _ _ _ _ hs _ _ => hs) (fun _ _ _ _ hs _ _ => hs)
            (PI w2 B V' cur w.heap.size Ds) (fun _ _ _ => False) (pi_own (by omega) (fun E hE => by have := hMl E hE; omega)) (fun _ _ _ _ _ hs _ _ => hs) (fun _ _ _ _ h => h.elim) ⟨⟨V', by simpa using hW2, Turn.refl _ _ _⟩, hbx2, hM2⟩
            ?a1 ?assign ?body ?done ?stop
          case assign =>
            intro l x W K hK
            gi_wp2
            exact hK
          case body =>
            rintro l pre x W ⟨⟨V2, hW, hT⟩, hbx3, hM3⟩ hlen
            have cb := Boxed.cell hbx3
            have hlen2 : (cur ++ pre.map bI).length < 1099511627776 := by simp; omega
            have hAp := Lib.hid (appendBit_any (bI_bit x) hW hlen2)
            have hcell := WX.boxes hW
            gi_wp2_with fail
            refine ⟨trivial, fun _ => by omega, ?_⟩
            refine (CallsIn.inRound l (callsIn_wide.2 hAp.out)).mono ?_
            rintro e W3 ⟨rfl, V3, hW3, hT3⟩
            have hms : Save (WX B V2) W W3 := hT3.1
            have hnb : ∀ i, i = Bs → i < W.heap.size ∧ ¬ WX B V2 i := by
              rintro i rfl
              have hsz := hT.1.size
              refine ⟨by omega, fun h => ?_⟩
              rcases h with h | h
              · omega
              · exact hT.2 _ (by omega) (fun e => by have := (hVl _ e.symm).2; omega) h
            have hPI : PI w2 B V' cur w.heap.size Ds (pre ++ [x]) W3 := by
              refine ⟨⟨V3, by simpa [List.append_assoc] using hW3, hT.trans hT3⟩, ?_, ⟨hM3.1, fun D hD => ?_⟩⟩
              · refine hms.heap hbx3 (fun h => ?_)
                rcases h with h | h
                · omega
                · exact hT.2 w.heap.size (by have := hbx2.lt; omega) (fun e => by
                    have h1 := htw.2
                    have := (hW2.own_lt _ e.symm)
                    have hb' : Boxed w2 w.heap.size 32 (.pointer (some ⟨B, 0, none⟩)) := hbx2
                    rcases hW2.row.2 with ⟨h4, _⟩ | ⟨g, cap, cu, h4, _, hg, _⟩
                    · rw [h4] at e; cases e
                    · rw [h4] at e
                      have e' : w.heap.size = g := by simpa [Value.ownBlock] using e
                      rw [← e', show w2.heap[w.heap.size]? = _ from hb'] at hg
                      injection hg with hg
                      injection hg with _ hg
                      exact absurd hg (by decide)) h
              · refine hms.heap (hM3.2 D hD) (fun h => ?_)
                have := hcell D _ h (hM3.2 D hD)
                cases this
            clear hAp hW hT hbx3 hM3 cb
            gi_wp2_with fail
            exact ⟨hms.others hcell, KeepB.of_save hms hnb, hPI⟩
          case done =>
            rintro D ys W hD rfl ⟨⟨V2, hW, hT⟩, hbx3, hM3⟩ hK
            rw [fbits_int] at hW
            have hst : Turn B V V2 wr W := ht'.trans (Turn.trans ⟨Save.of_below hb2, fun i _ hne => hne⟩ hT)
            have hnext : bs ++ bitsAll (fs.take (j + 1)) = cur ++ fromUintL v wn := by rw [HSn.out, HC.out, List.append_assoc]
            have HN := Lib.hid hnext
            clear hnext
            gi_wp2_with fail
            refine ⟨⟨j + 1, D :: Ds, _, _, _, _, _, _, _, by omega, rfl, ⟨⟨V2, by rw [HN.out]; simpa using hW, hst⟩, hbx3, hM3.cons hK (fun h => by have := hMl D h; omega)⟩, ?_⟩, ?_⟩
            · intro E hE
              rcases List.mem_cons.1 hE with rfl | hE
              · have := hww.size; omega
              · exact hDs E hE
            · simp [intOf]; omega
          case stop =>
            rintro D c pre W _ _ h _
            exact h.elim
        · obtain rfl : j = k := by omega
          gi_wp2_with fail
          have hz : errAll fs = 0 := (errAll_zero fs).2 hall'.out
          refine leaves_marks_save Ds w' hM (fun w2 h2 => ⟨_, results_tmp rfl _ _ _, by rw [hz]; rfl, ?_⟩)
          rw [if_pos hz]
          have e : fs.take j = fs := List.take_of_length_le (by rw [hR.len]; exact Nat.le_refl _)
          rw [e] at hw'
          refine ⟨V', hw'.save h2 (fun i hi hD => ?_), hww.trans' h2 (fun i hi hl => by have := hDs i hi; omega), htw.2⟩
          have := WX.boxes hw' i _ hi (hM.2 i hD)
          cases this
end Go.Proofs.Ytgcgmnopggabaaa
