/-
  The writer's fillByte, Align, Len, Bytes, PutBytes; check; the iterator over a field's bits.
-/
import Derived.Test.YtgcgmnopggabaaaWr2
import Derived.Test.YtgcgmnopggabaaaRd3
namespace Go.Proofs.Ytgcgmnopggabaaa
open Go.RowKit Go.Shelf BigFrame

attribute [local go_sem] Oper.semAt_some

theorem WrtAt.slice {w : World} {B : Nat} {V : Value} {bs : List Int} (h : WrtAt w B V bs) : ∃ A c, V = .slice A ((bs.length + 7) / 8) c := ownsRow_shape h.row
set_option maxRecDepth 100000 in
theorem fillByte_any {w : World} {B : Nat} {V : Value} {bs : List Int} (h : WrtAt w B V bs) :
    Calls Try.prog 55 #[.pointer (some ⟨B, 0, none⟩)] w fun e w' => e = .returned (.tuple #[]) ∧ WrtAt w' B V (padTo bs) ∧ Turn B V V w w' := by
  obtain ⟨A, c, rfl⟩ := h.slice
  have c0 := h.blk.cell0
  have c1 := h.blk.cell1
  have f1 := h.blk.frozen 1
  have hsz := h.size
  obtain ⟨N, hN⟩ : ∃ N, N = (bs.length + 7) / 8 := ⟨_, rfl⟩
  rw [← hN] at c0
  have hNl : N ≤ 1099511627776 := by omega
  have HN := Lib.hid hN
  clear hN
  go_enter Try.func55, Try.ntmps55
  go_wp2
  go_end0
  refine ⟨rfl, ⟨?_, ?_, padTo_bits h.bits, by rw [padTo_length]; omega⟩, turn_blk (Turn.refl _ _ _)⟩
  · have := h.blk.set1 (.int .i64 (8 * (N : Int)))
    rw [padTo_length, ← HN.out]
    rw [← HN.out] at this
    rw [show ((8 * N : Nat) : Int) = 8 * (N : Int) by omega]
    exact this
  · rw [padTo_length, packL_padTo, show (8 * ((bs.length + 7) / 8) + 7) / 8 = (bs.length + 7) / 8 by omega]
    refine h.row.kept (grownBy_setCell_at _ ⟨B, 1, none⟩ _) ?_
    rcases hb : (Value.slice A ((bs.length + 7) / 8) c).ownBlock with _ | g
    · exact .inl rfl
    · have := (h.own_lt g hb).1; exact .inr (fun e => by injection e with e; simp at e; omega)

set_option maxRecDepth 100000 in
theorem walign_any {w : World} {B : Nat} {V : Value} {bs : List Int} (h : WrtAt w B V bs) :
    Calls Try.prog 30 #[.pointer (some ⟨B, 0, none⟩)] w fun e w' => e = .returned (.int .i64 0) ∧ WrtAt w' B V (padTo bs) ∧ Turn B V V w w' := by
  have hF := Lib.hid (fillByte_any h)
  go_enter Try.func30, Try.ntmps30
  go_wp2_with fail
  refine hF.out.mono ?_
  rintro e w' ⟨rfl, h1, h2⟩
  go_wp2_with fail
  go_ret
  exact ⟨rfl, h1, h2⟩
theorem walign_nil {w : World} : Calls Try.prog 30 #[.pointer none] w fun e w' => e = .returned (.int .i64 1) ∧ w = w' := by
  go_enter Try.func30, Try.ntmps30
  go_wp2
  go_ret
  exact ⟨rfl, rfl⟩
theorem wlen_any {w : World} {B : Nat} {V : Value} {bs : List Int} (h : WrtAt w B V bs) :
    Calls Try.prog 12 #[.pointer (some ⟨B, 0, none⟩)] w fun e w' => e = .returned (.int .i64 bs.length) ∧ w = w' := by
  have c1 := h.blk.cell1
  go_enter Try.func12, Try.ntmps12
  go_wp2
  go_ret
  exact ⟨rfl, rfl⟩
theorem wlen_nil {w : World} : Calls Try.prog 12 #[.pointer none] w fun e w' => e = .returned (.int .i64 0) ∧ w = w' := by
  go_enter Try.func12, Try.ntmps12
  go_wp2
  go_ret
  exact ⟨rfl, rfl⟩
/-- A function hands back a byte slice of its own. -/
def RetB (w : World) (r : List Int) (e : Ending) (w' : World) : Prop :=
  ∃ A c, e = .returned (.slice A r.length c) ∧ w'.ownsRow w.heap.size 5 1 (.slice A r.length c) r.length (r.map (Value.int .u8)) ∧ Below w.heap.size w w'
set_option maxRecDepth 100000 in
theorem wbytes_any {w : World} {B : Nat} {V : Value} {bs : List Int} (h : WrtAt w B V bs) :
    Calls Try.prog 14 #[.pointer (some ⟨B, 0, none⟩)] w (RetB w (packL bs)) := by
  obtain ⟨A, c, rfl⟩ := h.slice
  have c0 := h.blk.cell0
  have hsz := h.size
  have hC := Lib.hid (clone_any (c := c) (Rd.of_own h.row) (Nat.le_refl _) (by omega))
  go_enter Try.func14, Try.ntmps14
  go_wp2_with fail
  refine hC.out.mono ?_
  rintro e w1 ⟨A2, c2, rfl, hown, hb⟩
  have hO := Lib.hid hown
  clear hown
  go_wp2_with fail
  go_ret
  refine ⟨A2, c2, by rw [packL_length]; rfl, ?_, hb⟩
  rw [packL_length]; exact hO.out
theorem wbytes_nil {w : World} : Calls Try.prog 14 #[.pointer none] w fun e w' => e = .returned (.slice none 0 0) ∧ w = w' := by
  go_enter Try.func14, Try.ntmps14
  go_wp2
  go_ret
  exact ⟨rfl, rfl⟩

/-- What a step of the writer leaves: the bits bs', and nothing else has turned. -/
def WStep (w : World) (B : Nat) (V : Value) (bs' : List Int) (w' : World) : Prop := ∃ V', WrtAt w' B V' bs' ∧ Turn B V V' w w'
set_option maxRecDepth 100000 in
theorem putBytes_any {w : World} {B m c Bl : Nat} {A : Option Addr} {V : Value} {bs l : List Int} (h : WrtAt w B V bs) (hR : Rd .u8 w Bl A m l) (hl : Byte l) (hBl : Bl ≤ w.heap.size) (hA : 0 < m → ∀ a, A = some a → a.block ≠ B ∧ some a.block ≠ V.ownBlock) (hsz : bs.length + 8 * m ≤ 1099511627776) :
    Calls Try.prog 28 #[.pointer (some ⟨B, 0, none⟩), .slice A m c] w fun e w' => e = .returned (.int .i64 0) ∧ WStep w B V (bs ++ bitsOf l) w' := by
  have hF : Hid (Calls Try.prog 51 #[.pointer (some ⟨B, 0, none⟩), .slice A m c] w fun e w' => e = .returned (.tuple #[]) ∧ ∃ V', WrtAt w' B V' (bs ++ bitsOf l) ∧ Turn B V V' w w') := Lib.hid (by
    by_cases hu : bs.length % 8 = 0
    · exact appendBytes_aligned h hu hR hl (fun hp a ha => (hA hp a ha).1) hsz
    · exact appendBytes_across h hu hR hl hBl hA hsz)
  clear hR hA
  go_enter Try.func28, Try.ntmps28
  go_wp2_with fail
  refine hF.out.mono ?_
  rintro e w' ⟨rfl, h1⟩
  have H1 := Lib.hid h1
  clear h1
  go_wp2_with fail
  go_ret
  exact ⟨rfl, H1.out⟩
theorem putBytes_nil {w : World} {A : Option Addr} {m c : Nat} : Calls Try.prog 28 #[.pointer none, .slice A m c] w fun e w' => e = .returned (.int .i64 1) ∧ w = w' := by
  go_enter Try.func28, Try.ntmps28
  go_wp2
  go_ret
  exact ⟨rfl, rfl⟩

/-! ### check -/
set_option maxRecDepth 100000 in
theorem check_any {v n : Int} {w : World} :
    Calls Try.prog 52 #[.agg #[.int .u64 v, .int .i64 n]] w fun e w' => e = .returned (.int .i64 (fromUintS v n).2) ∧ Below w.heap.size w w' := by
  have hT := Two.new w 73 (.int .u64 v) (.int .i64 n)
  have c0 := hT.cell0
  have c1 := hT.cell1
  have hb : Below w.heap.size w (w.alloc (.cells #[.int .u64 v, .int .i64 n] 73)) := (Below.refl _ w).alloc (Nat.le_refl _) _
  by_cases hn : n < 0 ∨ 64 < n
  · have hE : Hid ((fromUintS v n).2 = 2) := Lib.hid (by unfold fromUintS; rw [if_pos hn])
    have hP := fun (W : World) => Lib.hid (possible_no (w := W) hn)
    clear hn
    go_enter Try.func52, Try.ntmps52
    go_wp2_with fail
    refine (hP _).out.mono ?_
    rintro e w' ⟨rfl, rfl⟩
    go_wp2_with fail
    go_ret
    exact ⟨by rw [hE.out]; rfl, hb⟩
  · obtain ⟨k, rfl⟩ := Int.eq_ofNat_of_zero_le (show 0 ≤ n by omega)
    have hk : k ≤ 64 := by omega
    have hP := fun (W : World) => Lib.hid (possible_yes (k := (k : Int)) (w := W) (by omega) (by omega))
    by_cases hz : v / 2 ^ k = 0
    · have hE : Hid ((fromUintS v (k : Int)).2 = 0) := Lib.hid (by unfold fromUintS; rw [if_neg hn, Int.toNat_natCast, if_neg (by simp [hz])])
      have hd : (v / 2 ^ k != 0) = false := by simp [hz]
      clear hn hz
      go_enter Try.func52, Try.ntmps52
      go_wp2_with fail
      refine (hP _).out.mono ?_
      rintro e w' ⟨rfl, rfl⟩
      go_wp2_with fail
      go_ret
      exact ⟨by rw [hE.out]; rfl, hb⟩
    · have hE : Hid ((fromUintS v (k : Int)).2 = 4) := Lib.hid (by unfold fromUintS; rw [if_neg hn, Int.toNat_natCast, if_pos hz])
      have hd : (v / 2 ^ k != 0) = true := by simp [hz]
      clear hn hz
      go_enter Try.func52, Try.ntmps52
      go_wp2_with fail
      refine (hP _).out.mono ?_
      rintro e w' ⟨rfl, rfl⟩
      go_wp2_with fail
      go_ret
      exact ⟨by rw [hE.out]; rfl, hb⟩

/-! ### the iterator over a field's bits -/
def bI (b : Bool) : Int := if b then 1 else 0
theorem bI_bit (b : Bool) : bI b = 0 ∨ bI b = 1 := by cases b <;> simp [bI]
theorem bits_in (m : Nat) (v n : Value) (w : World) :
    CallsIn Fence.wide m Try.prog 53 #[.agg #[v, n]] w fun e w' => e = .returned (.func (.func 60) #[] #[.pointer (some ⟨w.heap.size, 0, none⟩)]) ∧ w' = w.alloc (.cells #[v, n] 73) := by
  refine callsIn_of_wp Try.func53 rfl trivial ?_ rfl
  simp only [Try.ntmps53, List.size_toArray, List.length_cons, List.length_nil, Nat.reduceAdd, Nat.reduceSub, Array.replicate_succ, Array.replicate_zero, List.push_toArray, List.append_toArray, List.nil_append, List.cons_append]
  gi_wp2
  go_ret
  exact ⟨rfl, rfl⟩
/-- The bits as the iterator hands them on. -/
def fbits (v : Int) (n : Nat) : List Bool := (List.range n).map fun i => decide (v / 2 ^ (n - 1 - i) % 2 = 1)
theorem fbits_int (v : Int) (n : Nat) : (fbits v n).map bI = fromUintL v n := by
  unfold fbits fromUintL
  rw [List.map_map]
  refine List.map_congr_left fun i _ => ?_
  simp only [Function.comp, bI]
  by_cases h : v / 2 ^ (n - 1 - i) % 2 = 1
  · simp [h]
  · simp [h]; omega
theorem fbits_length (v : Int) (n : Nat) : (fbits v n).length = n := by simp [fbits]
theorem fbits_take_succ (v : Int) (n k : Nat) (h : k < n) : (fbits v n).take (k + 1) = (fbits v n).take k ++ [decide (v / 2 ^ (n - 1 - k) % 2 = 1)] := by
  rw [List.take_succ_eq_append_getElem (by rw [fbits_length]; exact h)]
  simp [fbits]
def FS (v : Int) (n : Nat) (ys : List Bool) (_ : World) : Prop := ys = fbits v n
def FSp (_ : List Bool) (_ : World) : Prop := True
set_option maxRecDepth 100000 in
set_option maxHeartbeats 1000000 in
theorem bits1_in (m : Nat) (hm : 1 ≤ m) (l Bs : Nat) (v : Int) (n : Nat) (hv : 0 ≤ v ∧ v < 18446744073709551616) (hn : n ≤ 64) (J Jx : List Bool → World → Prop)
    (hY : ∀ pre x W, J pre W → pre.length < n → YieldAt Fence.wide (m - 1) Try.prog l #[.int .u8 (bI x)] W fun e W' =>
      (e = .returned (.bool true) ∧ J (pre ++ [x]) W' ∧ KeepB (· = Bs) W W') ∨ (e = .returned (.bool false) ∧ Jx (pre ++ [x]) W' ∧ KeepB (· = Bs) W W'))
    (W : World) (hbox : Two W Bs 73 (.int .u64 v) (.int .i64 n)) (h0 : J [] W) :
    CallsIn Fence.wide m Try.prog 60 #[.func (.yield l) #[] #[], .pointer (some ⟨Bs, 0, none⟩)] W fun e W' => (∃ v, e = .returned v) ∧
      ((∃ ys, FS v n ys W' ∧ J ys W') ∨ (∃ pre, FSp pre W' ∧ Jx pre W')) := by
  have hvb := Lib.hid hv
  clear hv
  have c1 := hbox.cell1
  refine callsIn_of_wp Try.func60 rfl trivial ?_ rfl
  simp only [Try.ntmps60, List.size_toArray, List.length_cons, List.length_nil, Nat.reduceAdd, Nat.reduceSub, Array.replicate_succ, Array.replicate_zero, List.push_toArray, List.append_toArray, List.nil_append, List.cons_append]
  gi_wp2
  gi_loopw [3] (fun i wr => ∃ k : Nat, k ≤ n ∧ i = .int .i64 ((n : Int) - 1 - k) ∧ J ((fbits v n).take k) wr ∧ Two wr Bs 73 (.int .u64 v) (.int .i64 n))
    (fun i _ => (intOf i + 1).toNat)
  case atStart => exact ⟨0, Nat.zero_le _, by go_num, h0, hbox⟩
  case round =>
    obtain ⟨k, hk, rfl, hJk, hT⟩ := hrel
    have e0 := hT.cell0
    by_cases hlt : k < n
    · have hq := shr_range hvb.out (n - 1 - k)
      have hb := and_one_u64' hq.1 hq.2
      have hd : (0 : Int) ≤ (n : Int) - 1 - k := by omega
      have htn : ((n : Int) - 1 - (k : Int)).toNat = n - 1 - k := by omega
      have hbi : bI (decide (v / 2 ^ (n - 1 - k) % 2 = 1)) = v / 2 ^ (n - 1 - k) % 2 := by
        unfold bI
        by_cases hh : v / 2 ^ (n - 1 - k) % 2 = 1
        · simp [hh]
        · simp [hh]; omega
      obtain ⟨fn, tmps, assign, body, hy, hRd⟩ := hY _ (decide (v / 2 ^ (n - 1 - k) % 2 = 1)) wr hJk (by rw [List.length_take, fbits_length]; omega)
      rw [hbi] at hy
      rw [← fbits_take_succ v n k hlt] at hRd
      clear hbi
      gi_wp2
      refine hRd.mono ?_
      rintro e W3 (⟨rfl, hJ3, hk3⟩ | ⟨rfl, hJx3, hk3⟩)
      · have hT3 : Two W3 Bs 73 (.int .u64 v) (.int .i64 n) := (hk3.2 Bs rfl).trans hT
        clear hy hRd hJk hT e0
        gi_wp2
        go_roundw
        case rel => exact ⟨k + 1, by omega, by go_num, hJ3, hT3⟩
        case measure => simp [intOf]; omega
      · clear hy hRd hJk hT e0
        gi_wp2
        refine bodyPost_ret (results_none rfl _ _ _) rfl ?_
        exact ⟨⟨_, rfl⟩, .inr ⟨_, (trivial : FSp _ W3), hJx3⟩⟩
    · have hd : ¬ (0 : Int) ≤ (n : Int) - 1 - k := by omega
      obtain rfl : k = n := by omega
      rw [List.take_of_length_le (by rw [fbits_length]; exact Nat.le_refl _)] at hJk
      gi_wp2
      go_end0
      exact ⟨⟨_, rfl⟩, .inl ⟨_, (rfl : FS v k _ wr), hJk⟩⟩
theorem bits_seq (m : Nat) (hm : 1 ≤ m) {w : World} {Bs : Nat} {v : Int} {n : Nat} (hv : 0 ≤ v ∧ v < 18446744073709551616) (hn : n ≤ 64) (hbox : Two w Bs 73 (.int .u64 v) (.int .i64 n)) :
    SeqMv Fence.wide m Try.prog 60 #[.pointer (some ⟨Bs, 0, none⟩)] (fun x : Bool => #[Value.int .u8 (bI x)]) (KeepB (· = Bs)) (fun _ _ => False) (FS v n) FSp n w := fun l J Jx W hW _ hY h0 =>
  bits1_in m hm l Bs v n hv hn J Jx hY W ((hW.block Bs hbox.lt).trans hbox) h0
end Go.Proofs.Ytgcgmnopggabaaa
