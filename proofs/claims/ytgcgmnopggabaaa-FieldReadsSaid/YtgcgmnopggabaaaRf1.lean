/-
  The reference's writer: Put, PutBytes, PutAll, Align, Bytes.
-/
import Derived.Test.YtgcgmnopggabaaaL1
namespace Go.Proofs.Ytgcgmnopggabaaa
open Go.RowKit

/-- A slice of bytes that a reference function returns: it reads as r, and it is the one that came in or a new one. -/
structure NewB (w : World) (A : Option Addr) (r : List Int) (A' : Option Addr) (w' : World) : Prop where
  rd : Rd .u8 w' w'.heap.size A' r.length r
  place : ∀ a, A' = some a → A = some a ∨ (w.heap.size ≤ a.block ∧ a.block < w'.heap.size)
  below : Below w.heap.size w w'
theorem NewB.of_own {w w' : World} {A A' : Option Addr} {c : Nat} {r : List Int} {t : TypeId} (h : w'.ownsRow w.heap.size t 1 (.slice A' r.length c) r.length (r.map (Value.int .u8))) (hb : Below w.heap.size w w') : NewB w A r A' w' :=
  ⟨Rd.of_own h, fun a ha => .inr (by subst ha; exact h.lt a.block rfl), hb⟩
theorem NewB.same {w w' : World} {A : Option Addr} {n : Nat} {r : List Int} (h : Rd .u8 w w.heap.size A n r) (hb : Below w.heap.size w w') : NewB w A r A w' := by
  have h1 := h.step hb
  rw [← h.len] at h1
  exact ⟨h1, fun a ha => .inl ha, hb⟩
theorem NewB.safe {w w' : World} {A A' : Option Addr} {r bs : List Int} {B : Nat} {V : Value} (h : NewB w A r A' w') (hs : Safe w B V A) (hW : WrtAt w B V bs) : Safe w' B V A' := fun a ha => by
  rcases h.place a ha with h1 | h1
  · exact ⟨Nat.lt_of_lt_of_le (hs a h1).1 h.below.size, (hs a h1).2⟩
  · have h2 := wx_old hW h1.1
    exact ⟨h1.2, fun e => h2 (.inl e), fun e => h2 (.inr e)⟩
theorem NewB.after {w w1 w' : World} {A A' : Option Addr} {r : List Int} (hb : Below w.heap.size w w1) (h : NewB w1 A r A' w') : NewB w A r A' w' :=
  ⟨h.rd, fun a ha => (h.place a ha).imp id (fun h1 => ⟨Nat.le_trans hb.size h1.1, h1.2⟩), hb.trans (h.below.mono hb.size)⟩
/-- A reference function's slice and number. -/
def RetN (w : World) (A : Option Addr) (r : List Int × Int) (e : Ending) (w' : World) : Prop := ∃ A' c', e = .returned (.tuple #[.slice A' r.1.length c', .int .i64 r.2]) ∧ NewB w A r.1 A' w'
theorem RetN.mk_ {w w' : World} {A A' : Option Addr} {r : List Int} {no : Int} {k c : Nat} (hk : k = r.length) (h : NewB w A r A' w') : RetN w A (r, no) (.returned (.tuple #[.slice A' k c, .int .i64 no])) w' := ⟨A', c, by rw [hk], h⟩
/-- A reference function's slice. -/
def RetS (w : World) (A : Option Addr) (r : List Int) (e : Ending) (w' : World) : Prop := ∃ A' c', e = .returned (.slice A' r.length c') ∧ NewB w A r A' w'
theorem RetS.mk_ {w w' : World} {A A' : Option Addr} {r : List Int} {k c : Nat} (hk : k = r.length) (h : NewB w A r A' w') : RetS w A r (.returned (.slice A' k c)) w' := ⟨A', c, by rw [hk], h⟩
theorem own_empty (w : World) (t : TypeId) : (w.alloc (.cells #[] t)).ownsRow w.heap.size t 1 (.slice (some ⟨w.heap.size, 0, none⟩) 0 0) 0 (([] : List Int).map (Value.int .u8)) := by
  simpa using World.ownsRow_lit (base := w.heap.size) (size := 1) (e := t) w #[] 0 (Nat.le_refl _) (Nat.zero_le _) rfl

/-- append onto a new empty slice: a copy. -/
theorem copy_run {w : World} {A : Option Addr} {n c : Nat} {xs : List Int} (hI : Rd .u8 w w.heap.size A n xs) (hn : n ≤ 2199023255552) :
    ∃ A2 c2 w2, (Builtin.append_ #[25, 25] 25 #[.slice (some ⟨w.heap.size, 0, none⟩) 0 0, .slice A n c]).run Try.prog (w.alloc (.cells #[] 5)) = .ok (.slice A2 n c2) w2 ∧
      w2.ownsRow w.heap.size 5 1 (.slice A2 n c2) n (xs.map (Value.int .u8)) ∧ Below w.heap.size w w2 := by
  obtain ⟨i0, hi, hz0, hz1, hz2⟩ := info_parts Try.info_u8
  obtain ⟨V2, w2, h1, h2, h3, _⟩ := run_append_rd_at (P := Try.prog) (t := 25) (ty := 25) (c' := c) Try.underlying25 hi hz0 hz1 hz2 (own_empty w 5) (hI.alloc (Nat.le_refl _) _) (by omega) (by simp)
  obtain ⟨A2, c2, rfl⟩ := ownsRow_shape h2
  rw [Nat.zero_add] at h1 h2
  exact ⟨A2, c2, w2, h1, by simpa using h2, ((Below.refl _ w).alloc (Nat.le_refl _) _).grown h3 (by simp) (fun g hg => by cases hg; exact Nat.le_refl _)⟩
/-- append onto one's own. -/
theorem more_run {w : World} {base : Nat} {A A1 : Option Addr} {n c m c' : Nat} {xs ys : List Int} (hO : w.ownsRow base 5 1 (.slice A n c) n (xs.map (Value.int .u8))) (hJ : Rd .u8 w w.heap.size A1 m ys) (hn : n ≤ 2199023255552) (hm : m ≤ 2199023255552) (hb : base ≤ w.heap.size) :
    ∃ A2 c2 w2, (Builtin.append_ #[25, 25] 25 #[.slice A n c, .slice A1 m c']).run Try.prog w = .ok (.slice A2 (n + m) c2) w2 ∧
      w2.ownsRow base 5 1 (.slice A2 (n + m) c2) (n + m) ((xs ++ ys).map (Value.int .u8)) ∧ (∀ B v, Below B v w → B ≤ base → B ≤ v.heap.size → Below B v w2) := by
  obtain ⟨i0, hi, hz0, hz1, hz2⟩ := info_parts Try.info_u8
  obtain ⟨V2, w2, h1, h2, h3, _⟩ := run_append_rd_at (P := Try.prog) (t := 25) (ty := 25) (c' := c') Try.underlying25 hi hz0 hz1 hz2 hO hJ (by omega) hb
  obtain ⟨A2, c2, rfl⟩ := ownsRow_shape h2
  exact ⟨A2, c2, w2, h1, h2, fun B v h hB hv => h.grown h3 (Nat.le_trans hv h.size) (fun g hg => Nat.le_trans hB (hO.lt g hg).1)⟩
theorem putS_len (v wd : Int) : (putS v wd).length ≤ 64 := by
  unfold putS
  split
  · rename_i h
    have := width_ok h
    rw [fromUintL_length]; omega
  · simp
theorem NewB.own_le {w w1 w' : World} {A A' : Option Addr} {c k : Nat} {r : List Int} {t : TypeId} (h : w'.ownsRow w1.heap.size t 1 (.slice A' k c) k (r.map (Value.int .u8))) (hb : Below w.heap.size w w') (hs : w.heap.size ≤ w1.heap.size) : NewB w A r A' w' := by
  have hk : k = r.length := by simpa using (Rd.of_own h).len.symm
  subst hk
  exact NewB.of_own (h.mono hs) hb

set_option maxRecDepth 100000 in
set_option maxHeartbeats 1000000 in
theorem rput_any {w : World} {A : Option Addr} {n c : Nat} {bs : List Int} {v wd : Int} (hI : Rd .u8 w w.heap.size A n bs) (hn : n ≤ 1099511627776) (hv : 0 ≤ v ∧ v < 18446744073709551616) :
    Calls Try.prog 34 #[.slice A n c, .int .u64 v, .int .i64 wd] w (RetN w A (bs ++ putS v wd, (fromUintS v wd).2)) := by
  have hF := Lib.hid (refFromUint_any (n := wd) (w := w) hv)
  by_cases hz : (fromUintS v wd).2 = 0
  · have hS : (fromUintS v wd).1 = putS v wd := by
      unfold putS
      rw [if_pos hz]
      unfold fromUintS at hz ⊢
      split at hz
      · simp at hz
      · rename_i h1
        rw [if_neg h1]
        split at hz
        · simp at hz
        · rename_i h2; rw [if_neg h2]
    generalize hfs : fromUintS v wd = fs at *
    obtain ⟨r, er⟩ := fs
    subst hz hS
    have HI := Lib.hid hI
    have HN := Lib.hid hn
    have hlen := hI.len
    clear hI hn hv
    go_enter Try.func34, Try.ntmps34
    go_wp2_with fail
    refine hF.out.mono ?_
    rintro e w1 ⟨A1, c1, rfl, hown, hb1⟩
    have hR1 : Rd .u8 w1 w1.heap.size A1 (putS v wd).length (putS v wd) := Rd.of_own hown
    have hpl := putS_len v wd
    obtain ⟨A2, c2, w2, hrun1, hown2, hb2⟩ := copy_run (c := c) (HI.out.step hb1) (by have := HN.out; omega)
    obtain ⟨A3, c3, w3, hrun2, hown3, hb3⟩ := more_run (c' := c1) hown2 (hR1.step hb2) (by have := HN.out; omega) (by omega) hb2.size
    have HR1 := Lib.hid hrun1
    have HR2 := Lib.hid hrun2
    have HO := Lib.hid hown3
    have HB := Lib.hid (hb3 _ _ (hb1.trans (hb2.mono hb1.size)) hb1.size (Nat.le_refl _))
    have HS := Lib.hid hb1.size
    clear hown hb1 hrun1 hrun2 hown2 hown3 hb2 hb3 hR1 hpl
    go_wp2_with (at_builtin; first | (refine Lib.wpList_append_run _ rfl _ _ _ _ rfl _ _ rfl rfl _ _ HR1.out ?_; clear HR1) | refine Lib.wpList_append_run _ rfl _ _ _ _ rfl _ _ rfl rfl _ _ HR2.out ?_)
    go_ret2
    exact RetN.mk_ (by rw [List.length_append, hlen]) (NewB.own_le HO.out HB.out HS.out)
  · go_enter Try.func34, Try.ntmps34
    have hz' : ((fromUintS v wd).2 != 0) = true := by simp [hz]
    have hS : putS v wd = [] := by unfold putS; rw [if_neg hz]
    generalize hfs : fromUintS v wd = fs at *
    obtain ⟨r, er⟩ := fs
    have HI := Lib.hid hI
    rw [hS, List.append_nil]
    clear hI hn hv
    go_wp2_with fail
    refine hF.out.mono ?_
    rintro e w1 ⟨A1, c1, rfl, hown, hb1⟩
    have HB := Lib.hid hb1
    have hl := HI.out.len
    clear hown hb1
    go_wp2_with fail
    go_ret2
    exact RetN.mk_ hl.symm (NewB.same HI.out HB.out)

def lenOf : Value → Nat | .slice _ n _ => n | _ => 0
theorem padTo_take (bs : List Int) (k : Nat) : bs ++ List.replicate k (0 : Int) ++ [0] = bs ++ List.replicate (k + 1) 0 := by
  rw [List.append_assoc, List.replicate_succ', ]
set_option maxRecDepth 100000 in
set_option maxHeartbeats 1000000 in
theorem ralign_any {w : World} {A : Option Addr} {n c : Nat} {bs : List Int} (hI : Rd .u8 w w.heap.size A n bs) (hn : n ≤ 1099511627776) :
    Calls Try.prog 36 #[.slice A n c] w (RetS w A (padTo bs)) := by
  obtain ⟨i0, hi, hz0, hz1, hz2⟩ := info_parts Try.info_u8
  obtain ⟨A2, c2, w2, hrun1, hown2, hb2⟩ := copy_run (c := c) hI (by omega)
  have HR1 := Lib.hid hrun1
  have HO := Lib.hid hown2
  have HB := Lib.hid hb2
  have HL := Lib.hid hI.len
  clear hrun1 hown2 hb2 hI
  go_enter Try.func36, Try.ntmps36
  go_wp2_with (at_builtin; refine Lib.wpList_append_run _ rfl _ _ _ _ rfl _ _ rfl rfl _ _ HR1.out ?_)
  go_loopw [3] (fun p wr => ∃ (k : Nat) (A1 : Option Addr) (c1 : Nat), n + k ≤ 8 * ((n + 7) / 8) ∧ p = .slice A1 (n + k) c1 ∧ wr.ownsRow w.heap.size 5 1 (.slice A1 (n + k) c1) (n + k) ((bs ++ List.replicate k (0 : Int)).map (Value.int .u8)) ∧ Below w.heap.size w wr)
    (fun p _ => 8 * ((n + 7) / 8) - lenOf p)
  case atStart => exact ⟨0, A2, c2, by omega, rfl, by simpa using HO.out, HB.out⟩
  case round =>
    obtain ⟨k, A1, c1, hk, rfl, hown, hB1⟩ := hrel
    have hO := Lib.hid hown; clear hown
    have hd4 : ((n + k : Nat) : Int).tmod 8 = ((n + k : Nat) : Int) % 8 := IntWalk.rem_in _ _ (by omega)
    by_cases hlt : n + k < 8 * ((n + 7) / 8)
    · have hd : decide (0 < ((n + k : Nat) : Int) % 8) = true := by simp; omega
      go_wp2_with (at_builtin; refine wpList_append_own _ rfl _ _ 25 rfl w.heap.size 5 i0 (.int .u8 0) 1 1 Try.underlying25 hi hz0 hz1 hz2 rfl (by decide) _ _ _ rfl (hO.out.alloc _) ⟨wr.heap.size, 0, none⟩ 1 1 [.int .u8 0] rfl rfl (cell_one_new _ _ _) (by simp [Value.oneCell']) (by unfold maxLen; omega) (by omega) (by have := hB1.size; simp; omega) ?_; intro v3 w3 hown3 hgrow3 _; obtain ⟨g3, c3, rfl⟩ := ownsRow_succ hown3)
      have hB3 : Below w.heap.size w w3 := (hB1.alloc hB1.size _).grown hgrow3 (by have := hB1.size; simp; omega) (fun g hg => (hO.out.lt g hg).1)
      rw [show (bs ++ List.replicate k (0 : Int)).map (Value.int .u8) ++ [Value.int .u8 0] = (bs ++ List.replicate (k + 1) (0 : Int)).map (Value.int .u8) by rw [← padTo_take]; simp] at hown3
      have hO3 := Lib.hid hown3; clear hown3
      go_wp2
      go_roundw
      case rel => exact ⟨k + 1, some ⟨g3, 0, none⟩, c3, by omega, rfl, hO3.out, hB3⟩
      case measure => simp [lenOf]; omega
    · have hd : decide (0 < ((n + k : Nat) : Int) % 8) = false := by simp; omega
      go_wp2
      go_ret
      have he : padTo bs = bs ++ List.replicate k (0 : Int) := by unfold padTo; rw [HL.out, show 8 * ((n + 7) / 8) - n = k by omega]
      rw [he]
      exact RetS.mk_ (by simp [HL.out]) (NewB.own_le hO.out hB1 (Nat.le_refl _))
end Go.Proofs.Ytgcgmnopggabaaa
