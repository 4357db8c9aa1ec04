/-
  The law's act: a call of the writer and of its reference.
-/
import Derived.Test.YtgcgmnopggabaaaRf3
import Derived.Test.YtgcgmnopggabaaaL2
import Derived.Test.YtgcgmnopggabaaaOpen
namespace Go.Proofs.Ytgcgmnopggabaaa
open Go.RowKit

/-- The bits after a call. -/
def actL (bs : List Int) (r : ActRow) : List Int := if r.what = 0 then bs ++ putS r.v r.num else if r.what = 1 then bs ++ bitsOf r.bxs else if r.what = 2 then (putAllS bs r.fs).1 else padTo bs
/-- A writer and its bits. -/
structure Pair (w : World) (B : Nat) (V : Value) (A : Option Addr) (bs : List Int) : Prop where
  wrt : WrtAt w B V bs
  rd : Rd .u8 w w.heap.size A bs.length bs
  safe : Safe w B V A
def ActR (w : World) (B : Nat) (V : Value) (bs : List Int) (e : Ending) (w' : World) : Prop := ∃ A' c' V', e = .returned (.tuple #[.slice A' bs.length c', .bool true]) ∧ Pair w' B V' A' bs ∧ Turn B V V' w w'
theorem Pair.below {w w' : World} {B : Nat} {V : Value} {A : Option Addr} {bs : List Int} (h : Pair w B V A bs) (hb : Below w.heap.size w w') : Pair w' B V A bs :=
  ⟨h.wrt.below hb, h.rd.step hb, h.safe.size hb.size⟩
/-- A step of the bits, then one of the writer. -/
theorem Pair.turn {w w1 w2 : World} {B : Nat} {V V' : Value} {A A' : Option Addr} {bs bs' : List Int} (h : Pair w B V A bs) (hn : NewB w A bs' A' w1) (hW : WrtAt w2 B V' bs') (ht : Turn B V V' w1 w2) : Pair w2 B V' A' bs' ∧ Turn B V V' w w2 := by
  have hs := hn.safe h.safe h.wrt
  exact ⟨⟨hW, hn.rd.turn hs ht, hs.turn ht⟩, ht.after hn.below⟩
theorem ActR.mk_ {w w' : World} {B : Nat} {V V' : Value} {A' : Option Addr} {bs : List Int} {k c : Nat} {b : Bool} (hk : k = bs.length) (hb : b = true) (h : Pair w' B V' A' bs ∧ Turn B V V' w w') : ActR w B V bs (.returned (.tuple #[.slice A' k c, .bool b])) w' := ⟨A', c, V', by rw [hk, hb], h.1, h.2⟩
theorem below_undrew {B : Nat} {w w' : World} (h : Below B w.drew w') : Below B w w' := ⟨h.os, h.tape, h.output, h.size, h.block⟩
theorem turn_undrew {B : Nat} {V V' : Value} {w w' : World} (h : Turn B V V' w.drew w') : Turn B V V' w w' := ⟨⟨h.1.os, h.1.tape, h.1.output, h.1.size, h.1.block⟩, h.2⟩
theorem arg_apart {q : IntKind} {w w' : World} {N n B : Nat} {A : Option Addr} {xs bs : List Int} {V : Value} (hR : Rd q w N A n xs) (hW : WrtAt w' B V bs) (hNB : N ≤ B) : 0 < n → ∀ a, A = some a → a.block ≠ B ∧ some a.block ≠ V.ownBlock := fun hp a ha => by
  obtain ⟨b, off, e, hb, _⟩ := hR.cells 0 hp
  rw [ha] at e
  injection e with e
  subst e
  refine ⟨by simp; omega, fun he => ?_⟩
  have := (hW.own_lt _ he.symm).1
  simp at this; omega
theorem arg_apartF {w w' : World} {N n B : Nat} {A : Option Addr} {fs : List (Int × Int)} {bs : List Int} {V : Value} (hR : RdF w N A n fs) (hW : WrtAt w' B V bs) (hNB : N ≤ B) : 0 < n → ∀ a, A = some a → a.block ≠ B ∧ some a.block ≠ V.ownBlock := fun hp a ha => by
  obtain ⟨b, off, e, hb, _⟩ := hR.cells 0 hp
  rw [ha] at e
  injection e with e
  subst e
  refine ⟨by simp; omega, fun he => ?_⟩
  have := (hW.own_lt _ he.symm).1
  simp at this; omega
theorem RdF.low {w w' : World} {N n : Nat} {A : Option Addr} {fs : List (Int × Int)} (h : RdF w N A n fs) (hN : N ≤ w.heap.size) (hb : Below w.heap.size w w') : RdF w' N A n fs :=
  ⟨h.len, fun k hk => by
    obtain ⟨b, off, e, h1, h2, h3⟩ := h.cells k hk
    exact ⟨b, off, e, h1, (hb.cell (p := ⟨b, off + k * 2, none⟩) (Nat.lt_of_lt_of_le h1 hN)).trans h2, (hb.cell (p := ⟨b, off + k * 2 + 1, none⟩) (Nat.lt_of_lt_of_le h1 hN)).trans h3⟩, h.range⟩
set_option maxRecDepth 100000 in
set_option maxHeartbeats 1000000 in
theorem act_put {w : World} {B N n c : Nat} {V : Value} {A : Option Addr} {bs : List Int} {r : ActRow} (h : Pair w B V A bs) (hg : r.Good w N) (hNB : N ≤ B) (h40 : r.bn ≤ 40) (h20 : r.ln ≤ 20) (hsz : bs.length ≤ 100000000) (hn : n = bs.length) (h0 : r.what = 0) :
    Calls Try.prog 11 #[.pointer (some ⟨B, 0, none⟩), .slice A n c, .agg #[.int .i64 r.what, .int .u64 r.v, .int .i64 r.num, .slice r.ba r.bn r.bc, .slice r.la r.ln r.lc]] w (ActR w B V (bs ++ putS r.v r.num)) := by
  obtain ⟨what, v, num, ba, bn, bc, bxs, la, ln, lc, fs⟩ := r
  subst hn
  simp only at h0 h40 h20
  subst h0
  have hNw : N ≤ w.heap.size := by have := h.wrt.lt; omega
  obtain ⟨w1, hw1⟩ : ∃ W, W = w.alloc (.cells #[.int .i64 0, .int .u64 v, .int .i64 num, .slice ba bn bc, .slice la ln lc] 36) := ⟨_, rfl⟩
  have hX : w1.heap[w.heap.size]? = some (.cells #[.int .i64 0, .int .u64 v, .int .i64 num, .slice ba bn bc, .slice la ln lc] 36) := by rw [hw1]; exact World.alloc_heap_new _ _
  have hb : Below w.heap.size w w1 := by rw [hw1]; exact (Below.refl _ w).alloc (Nat.le_refl _) _
  have h1 := h.below hb
  have hbts : Rd .u8 w1 w1.heap.size ba bn bxs := (hg.bytes.more hNw).step hb
  have hflds : RdF w1 w1.heap.size la ln fs := (hg.fields.more hNw).step hb
  have x0 := blk_cell hX (j := 0) rfl
  have x1 := blk_cell hX (j := 1) rfl
  have x2 := blk_cell hX (j := 2) rfl
  have x3 := blk_cell hX (j := 3) rfl
  have x4 := blk_cell hX (j := 4) rfl
  have hP := Lib.hid (rput_any (c := c) (v := v) (wd := num) h1.rd (by omega) hg.v)
  obtain ⟨q, hq⟩ : ∃ q, q = bs ++ putS v num := ⟨_, rfl⟩
  have HQ := Lib.hid hq
  obtain ⟨er, her⟩ : ∃ er, (fromUintS v num).2 = er := ⟨_, rfl⟩
  have HE := Lib.hid her
  rw [← hq, her] at hP
  clear hq her
  have HB := Lib.hid hb
  have HX := Lib.hid hX
  have H1 := Lib.hid h1
  have HG := Lib.hid hg
  have HD : Hid (B ≠ w.heap.size ∧ some w.heap.size ≠ V.ownBlock) := Lib.hid ⟨by have := h.wrt.lt; omega, fun e => by have := (h.wrt.own_lt _ e.symm).2; omega⟩
  have HS := Lib.hid hsz
  have HL := Lib.hid (And.intro h40 h20)
  subst hw1
  clear hX hb h1 h hg hsz hbts hflds h40 h20
  go_enter Try.func11, Try.ntmps11
  go_wp2_with fail
  refine hP.out.mono ?_
  rintro e w2 ⟨A2, c2, rfl, hnew⟩
  have hX2 := blk_below HX.out hnew.below
  have x1 := blk_cell hX2 (j := 1) rfl
  have x2 := blk_cell hX2 (j := 2) rfl
  have hW := Lib.hid (put_any (n := num) (H1.out.wrt.below hnew.below) HG.out.v (by have := HS.out; omega))
  have HN := Lib.hid hnew
  clear hnew hX2
  go_wp2_with fail
  refine hW.out.mono ?_
  rintro e w3 ⟨rfl, V', hW3, hT3⟩
  rw [HE.out, ← HQ.out] at *
  have HW := Lib.hid (H1.out.turn HN.out hW3 hT3)
  clear hW3 hT3 x1 x2
  go_wp2_with fail
  refine (num_any _ _).mono ?_
  rintro e w' ⟨rfl, rfl⟩
  go_wp2_with fail
  go_ret2
  exact ActR.mk_ rfl (by simp) ⟨HW.out.1, HW.out.2.after HB.out⟩
set_option maxRecDepth 100000 in
set_option maxHeartbeats 1000000 in
theorem act_bytes {w : World} {B N n c : Nat} {V : Value} {A : Option Addr} {bs : List Int} {r : ActRow} (h : Pair w B V A bs) (hg : r.Good w N) (hNB : N ≤ B) (h40 : r.bn ≤ 40) (h20 : r.ln ≤ 20) (hsz : bs.length ≤ 100000000) (hn : n = bs.length) (h0 : r.what = 1) :
    Calls Try.prog 11 #[.pointer (some ⟨B, 0, none⟩), .slice A n c, .agg #[.int .i64 r.what, .int .u64 r.v, .int .i64 r.num, .slice r.ba r.bn r.bc, .slice r.la r.ln r.lc]] w (ActR w B V (bs ++ bitsOf r.bxs)) := by
  obtain ⟨what, v, num, ba, bn, bc, bxs, la, ln, lc, fs⟩ := r
  subst hn
  simp only at h0 h40 h20
  subst h0
  have hNw : N ≤ w.heap.size := by have := h.wrt.lt; omega
  obtain ⟨w1, hw1⟩ : ∃ W, W = w.alloc (.cells #[.int .i64 1, .int .u64 v, .int .i64 num, .slice ba bn bc, .slice la ln lc] 36) := ⟨_, rfl⟩
  have hX : w1.heap[w.heap.size]? = some (.cells #[.int .i64 1, .int .u64 v, .int .i64 num, .slice ba bn bc, .slice la ln lc] 36) := by rw [hw1]; exact World.alloc_heap_new _ _
  have hb : Below w.heap.size w w1 := by rw [hw1]; exact (Below.refl _ w).alloc (Nat.le_refl _) _
  have h1 := h.below hb
  have hbts : Rd .u8 w1 w1.heap.size ba bn bxs := (hg.bytes.more hNw).step hb
  have hflds : RdF w1 w1.heap.size la ln fs := (hg.fields.more hNw).step hb
  have x0 := blk_cell hX (j := 0) rfl
  have x1 := blk_cell hX (j := 1) rfl
  have x2 := blk_cell hX (j := 2) rfl
  have x3 := blk_cell hX (j := 3) rfl
  have x4 := blk_cell hX (j := 4) rfl
  have hP := Lib.hid (rputBytes_any (w := w1.drew) (c := c) (c1 := bc) h1.rd.drew (by omega) hbts.drew (Nat.le_refl _) hg.byte (by omega))
  obtain ⟨q, hq⟩ : ∃ q, q = bs ++ bitsOf bxs := ⟨_, rfl⟩
  have HQ := Lib.hid hq
  rw [← hq] at hP
  clear hq
  have HB := Lib.hid hb
  have HX := Lib.hid hX
  have H1 := Lib.hid h1
  have HG := Lib.hid hg
  have HD : Hid (B ≠ w.heap.size ∧ some w.heap.size ≠ V.ownBlock) := Lib.hid ⟨by have := h.wrt.lt; omega, fun e => by have := (h.wrt.own_lt _ e.symm).2; omega⟩
  have HS := Lib.hid hsz
  have HL := Lib.hid (And.intro h40 h20)
  subst hw1
  clear hX hb h1 h hg hsz hbts hflds h40 h20
  go_enter Try.func11, Try.ntmps11
  go_wp2_with fail
  have c3 := blk_cell HX.out (j := 3) rfl
  have hbk : w.heap.size < (w.alloc (.cells #[.int .i64 1, .int .u64 v, .int .i64 num, .slice ba bn bc, .slice la ln lc] 36)).heap.size := by simp
  have hWX : ¬ WX B V w.heap.size := by
    rintro (e | e)
    · exact HD.out.1 e.symm
    · exact HD.out.2 e
  have HPre : Hid (∀ (A2 : Option Addr) (w2 : World), NewB (World.drew (w.alloc (.cells #[.int .i64 1, .int .u64 v, .int .i64 num, .slice ba bn bc, .slice la ln lc] 36))) A q A2 w2 → WrtAt w2 B V bs ∧ Rd .u8 w2 N ba bn bxs ∧ N ≤ w2.heap.size ∧ bs.length + 8 * bn ≤ 1099511627776) := Lib.hid (fun A2 w2 hn => ⟨H1.out.wrt.below (below_undrew hn.below), (HG.out.bytes.below' HB.out hNw).below' (below_undrew hn.below) (Nat.le_trans hNw HB.out.size), Nat.le_trans hNw (Nat.le_trans HB.out.size hn.below.size), by have := HL.out; have := HS.out; omega⟩)
  have HA : Hid (0 < bn → ∀ a, ba = some a → a.block ≠ B ∧ some a.block ≠ V.ownBlock) := Lib.hid (arg_apart HG.out.bytes H1.out.wrt hNB)
  have HT : Hid (∀ (A2 : Option Addr) (w2 w3 : World) (V' : Value), NewB (World.drew (w.alloc (.cells #[.int .i64 1, .int .u64 v, .int .i64 num, .slice ba bn bc, .slice la ln lc] 36))) A q A2 w2 → WrtAt w3 B V' q → Turn B V V' w2 w3 → Pair w3 B V' A2 q ∧ Turn B V V' w w3) := Lib.hid (fun A2 w2 w3 V' hn hW ht => by
    have h9 := (show Pair (World.drew (w.alloc (.cells #[.int .i64 1, .int .u64 v, .int .i64 num, .slice ba bn bc, .slice la ln lc] 36))) B V A bs from ⟨⟨H1.out.wrt.blk, H1.out.wrt.row, H1.out.wrt.bits, H1.out.wrt.size⟩, H1.out.rd.drew, H1.out.safe⟩).turn hn hW ht
    exact ⟨h9.1, (turn_undrew h9.2).after HB.out⟩)
  clear x0 x1 x2 x3 x4
  go_region_held3 (fun w' => w'.cell? ⟨w.heap.size, 3, none⟩ = some (.slice ba bn bc))
    (first
      | go_keep
      | exact (hnew.below.cell (p := ⟨w.heap.size, 3, none⟩) hbk).trans c3
      | exact (hT3.1.cell (p := ⟨w.heap.size, 3, none⟩) (Nat.lt_of_lt_of_le hbk hnew.below.size) hWX).trans ((hnew.below.cell (p := ⟨w.heap.size, 3, none⟩) hbk).trans c3))
    (first
      | (go_at_call 32; refine hP.out.mono ?_; rintro e w2 ⟨A2, c2, rfl, hnew⟩)
      | (go_at_call 28; refine (putBytes_any (V := V) (Bl := N) (bs := bs) (l := bxs) (HPre.out _ _ hnew).1 (HPre.out _ _ hnew).2.1 HG.out.byte (HPre.out _ _ hnew).2.2.1 HA.out (HPre.out _ _ hnew).2.2.2).mono ?_; rintro e w3 ⟨rfl, V', hW3, hT3⟩)
      | (go_at_call 21; refine (num_any _ _).mono ?_; rintro e w4 ⟨rfl, rfl⟩))
  rw [← HQ.out] at hW3
  have HW := Lib.hid (HT.out _ _ _ _ hnew hW3 hT3)
  clear hnew hW3 hT3 c3
  go_wp2_with fail
  go_ret2
  rw [← HQ.out]
  exact ActR.mk_ rfl (by simp) HW.out
set_option maxRecDepth 100000 in
set_option maxHeartbeats 1000000 in
theorem act_all {w : World} {B N n c : Nat} {V : Value} {A : Option Addr} {bs : List Int} {r : ActRow} (h : Pair w B V A bs) (hg : r.Good w N) (hNB : N ≤ B) (h40 : r.bn ≤ 40) (h20 : r.ln ≤ 20) (hsz : bs.length ≤ 100000000) (hn : n = bs.length) (h0 : r.what = 2) :
    Calls Try.prog 11 #[.pointer (some ⟨B, 0, none⟩), .slice A n c, .agg #[.int .i64 r.what, .int .u64 r.v, .int .i64 r.num, .slice r.ba r.bn r.bc, .slice r.la r.ln r.lc]] w (ActR w B V (putAllS bs r.fs).1) := by
  obtain ⟨what, v, num, ba, bn, bc, bxs, la, ln, lc, fs⟩ := r
  subst hn
  simp only at h0 h40 h20
  subst h0
  have hNw : N ≤ w.heap.size := by have := h.wrt.lt; omega
  obtain ⟨w1, hw1⟩ : ∃ W, W = w.alloc (.cells #[.int .i64 2, .int .u64 v, .int .i64 num, .slice ba bn bc, .slice la ln lc] 36) := ⟨_, rfl⟩
  have hX : w1.heap[w.heap.size]? = some (.cells #[.int .i64 2, .int .u64 v, .int .i64 num, .slice ba bn bc, .slice la ln lc] 36) := by rw [hw1]; exact World.alloc_heap_new _ _
  have hb : Below w.heap.size w w1 := by rw [hw1]; exact (Below.refl _ w).alloc (Nat.le_refl _) _
  have h1 := h.below hb
  have hbts : Rd .u8 w1 w1.heap.size ba bn bxs := (hg.bytes.more hNw).step hb
  have hflds : RdF w1 w1.heap.size la ln fs := (hg.fields.more hNw).step hb
  have x0 := blk_cell hX (j := 0) rfl
  have x1 := blk_cell hX (j := 1) rfl
  have x2 := blk_cell hX (j := 2) rfl
  have x3 := blk_cell hX (j := 3) rfl
  have x4 := blk_cell hX (j := 4) rfl
  have hP := Lib.hid (rputAll_any (c := c) (c1 := lc) h1.rd (by omega) hflds (by omega))
  obtain ⟨q, er, hq⟩ : ∃ q er, (putAllS bs fs) = (q, er) := ⟨_, _, rfl⟩
  have HQ := Lib.hid hq
  rw [hq] at hP
  clear hq
  have HB := Lib.hid hb
  have HX := Lib.hid hX
  have H1 := Lib.hid h1
  have HG := Lib.hid hg
  have HD : Hid (B ≠ w.heap.size ∧ some w.heap.size ≠ V.ownBlock) := Lib.hid ⟨by have := h.wrt.lt; omega, fun e => by have := (h.wrt.own_lt _ e.symm).2; omega⟩
  have HS := Lib.hid hsz
  have HL := Lib.hid (And.intro h40 h20)
  subst hw1
  clear hX hb h1 h hg hsz hbts hflds h40 h20
  go_enter Try.func11, Try.ntmps11
  go_wp2_with fail
  refine hP.out.mono ?_
  rintro e w2 ⟨A2, c2, rfl, hnew⟩
  have hX2 := blk_below HX.out hnew.below
  have x4 := blk_cell hX2 (j := 4) rfl
  have HF : Hid (RdF w N la ln fs) := Lib.hid HG.out.fields
  have hW := Lib.hid (putAll_any (c := lc) (H1.out.wrt.below hnew.below) ((HF.out.low hNw HB.out).low (Nat.le_trans hNw HB.out.size) hnew.below) (Nat.le_trans hNw (Nat.le_trans HB.out.size hnew.below.size)) (arg_apartF HF.out H1.out.wrt hNB) (by have := HL.out; omega) (by have := HL.out; have := HS.out; omega))
  have HN := Lib.hid hnew
  have hq1 := HQ.out
  have HQ1 : Hid ((if errAll fs = 0 then bs ++ bitsAll fs else bs) = q ∧ errAll fs = er) := Lib.hid (by unfold putAllS at hq1; injection hq1 with h1 h2; exact ⟨h1, h2⟩)
  clear hnew hX2 hq1 x0 x1 x2 x3
  go_wp2_with fail
  refine hW.out.mono ?_
  rintro e w3 ⟨rfl, V', hW3, hT3⟩
  rw [HQ1.out.1] at hW3
  rw [HQ1.out.2]
  have HW := Lib.hid (H1.out.turn HN.out hW3 hT3)
  clear hW3 hT3 x4
  go_wp2_with fail
  refine (num_any _ _).mono ?_
  rintro e w' ⟨rfl, rfl⟩
  go_wp2_with fail
  go_ret2
  rw [HQ.out]
  exact ActR.mk_ rfl (by simp) ⟨HW.out.1, HW.out.2.after HB.out⟩
set_option maxRecDepth 100000 in
set_option maxHeartbeats 1000000 in
theorem act_align {w : World} {B N n c : Nat} {V : Value} {A : Option Addr} {bs : List Int} {r : ActRow} (h : Pair w B V A bs) (hg : r.Good w N) (hNB : N ≤ B) (h40 : r.bn ≤ 40) (h20 : r.ln ≤ 20) (hsz : bs.length ≤ 100000000) (hn : n = bs.length) (h0 : r.what ≠ 0 ∧ r.what ≠ 1 ∧ r.what ≠ 2) :
    Calls Try.prog 11 #[.pointer (some ⟨B, 0, none⟩), .slice A n c, .agg #[.int .i64 r.what, .int .u64 r.v, .int .i64 r.num, .slice r.ba r.bn r.bc, .slice r.la r.ln r.lc]] w (ActR w B V (padTo bs)) := by
  obtain ⟨what, v, num, ba, bn, bc, bxs, la, ln, lc, fs⟩ := r
  subst hn
  simp only at h0 h40 h20
  have t0 : (what == 0) = false := by simpa using h0.1
  have t1 : (what == 1) = false := by simpa using h0.2.1
  have t2 : (what == 2) = false := by simpa using h0.2.2
  clear h0
  have hNw : N ≤ w.heap.size := by have := h.wrt.lt; omega
  obtain ⟨w1, hw1⟩ : ∃ W, W = w.alloc (.cells #[.int .i64 what, .int .u64 v, .int .i64 num, .slice ba bn bc, .slice la ln lc] 36) := ⟨_, rfl⟩
  have hX : w1.heap[w.heap.size]? = some (.cells #[.int .i64 what, .int .u64 v, .int .i64 num, .slice ba bn bc, .slice la ln lc] 36) := by rw [hw1]; exact World.alloc_heap_new _ _
  have hb : Below w.heap.size w w1 := by rw [hw1]; exact (Below.refl _ w).alloc (Nat.le_refl _) _
  have h1 := h.below hb
  have hbts : Rd .u8 w1 w1.heap.size ba bn bxs := (hg.bytes.more hNw).step hb
  have hflds : RdF w1 w1.heap.size la ln fs := (hg.fields.more hNw).step hb
  have x0 := blk_cell hX (j := 0) rfl
  have x1 := blk_cell hX (j := 1) rfl
  have x2 := blk_cell hX (j := 2) rfl
  have x3 := blk_cell hX (j := 3) rfl
  have x4 := blk_cell hX (j := 4) rfl
  have hP := Lib.hid (ralign_any (c := c) h1.rd (by omega))
  have HB := Lib.hid hb
  have HX := Lib.hid hX
  have H1 := Lib.hid h1
  have HG := Lib.hid hg
  have HD : Hid (B ≠ w.heap.size ∧ some w.heap.size ≠ V.ownBlock) := Lib.hid ⟨by have := h.wrt.lt; omega, fun e => by have := (h.wrt.own_lt _ e.symm).2; omega⟩
  have HS := Lib.hid hsz
  have HL := Lib.hid (And.intro h40 h20)
  subst hw1
  clear hX hb h1 h hg hsz hbts hflds h40 h20
  go_enter Try.func11, Try.ntmps11
  go_wp2_with fail
  refine hP.out.mono ?_
  rintro e w2 ⟨A2, c2, rfl, hnew⟩
  have hW := Lib.hid (walign_any (H1.out.wrt.below hnew.below))
  have HN := Lib.hid hnew
  clear hnew
  go_wp2_with fail
  refine hW.out.mono ?_
  rintro e w3 ⟨rfl, h3⟩
  have HW := Lib.hid h3
  clear h3
  go_wp2_with fail
  refine (num_any _ _).mono ?_
  rintro e w' ⟨rfl, rfl⟩
  go_wp2_with fail
  go_ret2
  have HZ := H1.out.turn HN.out HW.out.1 HW.out.2
  exact ActR.mk_ rfl (by simp) ⟨HZ.1, HZ.2.after HB.out⟩

theorem actL_bits {bs : List Int} (h : Bits bs) (r : ActRow) : Bits (actL bs r) := by
  unfold actL
  have hp : ∀ {ys : List Int}, Bits ys → Bits (bs ++ ys) := fun hy x hx => (List.mem_append.1 hx).elim (h x) (hy x)
  split
  · refine hp ?_
    unfold putS
    split
    · exact fromUintL_bits _ _
    · intro x hx; cases hx
  · split
    · exact hp (bitsOf_bits _)
    · split
      · unfold putAllS
        dsimp only
        split
        · exact hp (bitsAll_bits _)
        · exact h
      · exact padTo_bits h
theorem actL_len {bs : List Int} {r : ActRow} (h40 : r.bxs.length ≤ 40) (h20 : r.fs.length ≤ 20) : (actL bs r).length ≤ bs.length + 1280 := by
  unfold actL
  split
  · rw [List.length_append]; have := putS_len r.v r.num; omega
  · split
    · rw [List.length_append, bitsOf_length]; omega
    · split
      · unfold putAllS
        dsimp only
        split
        · rename_i h0
          rw [List.length_append]; have := bitsAll_len ((errAll_zero _).1 h0); omega
        · omega
      · rw [padTo_length]; omega
/-- One call. -/
theorem act_any {w : World} {B N n c : Nat} {V : Value} {A : Option Addr} {bs : List Int} {r : ActRow} (h : Pair w B V A bs) (hg : r.Good w N) (hNB : N ≤ B) (h40 : r.bn ≤ 40) (h20 : r.ln ≤ 20) (hsz : bs.length ≤ 100000000) (hn : n = bs.length) :
    Calls Try.prog 11 #[.pointer (some ⟨B, 0, none⟩), .slice A n c, .agg #[.int .i64 r.what, .int .u64 r.v, .int .i64 r.num, .slice r.ba r.bn r.bc, .slice r.la r.ln r.lc]] w (ActR w B V (actL bs r)) := by
  by_cases h0 : r.what = 0
  · have e : actL bs r = bs ++ putS r.v r.num := by unfold actL; rw [if_pos h0]
    rw [e]; exact act_put h hg hNB h40 h20 hsz hn h0
  · by_cases h1 : r.what = 1
    · have e : actL bs r = bs ++ bitsOf r.bxs := by unfold actL; rw [if_neg h0, if_pos h1]
      rw [e]; exact act_bytes h hg hNB h40 h20 hsz hn h1
    · by_cases h2 : r.what = 2
      · have e : actL bs r = (putAllS bs r.fs).1 := by unfold actL; rw [if_neg h0, if_neg h1, if_pos h2]
        rw [e]; exact act_all h hg hNB h40 h20 hsz hn h2
      · have e : actL bs r = padTo bs := by unfold actL; rw [if_neg h0, if_neg h1, if_neg h2]
        rw [e]; exact act_align h hg hNB h40 h20 hsz hn ⟨h0, h1, h2⟩
end Go.Proofs.Ytgcgmnopggabaaa
