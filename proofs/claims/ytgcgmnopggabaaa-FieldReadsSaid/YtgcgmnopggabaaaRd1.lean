/-
  The reader: what it is in memory; possible, Left, At, the iterator over the bits that are left.
-/
import Derived.Test.YtgcgmnopggabaaaV1
import Derived.Test.YtgcgmnopggabaaaMv
import Derived.Test.YtgcgmnopggabaaaQtail
import Derived.Shelf.Abstract
import Derived.Shelf.RegionOpen
import Derived.OwnWalkIn
import Derived.LoopNIn
import Derived.LoopIn
import Derived.Deep.QuietTactic
import Derived.BigQuiet
import Derived.Sort.LoopGhostIn
namespace Go.Proofs.Ytgcgmnopggabaaa
open Go.RowKit Go.Shelf BigFrame

attribute [local go_sem] Oper.semAt_some

/-- The reader at block B: its bytes xs, its position p. -/
structure RdrAt (w : World) (B : Nat) (A : Option Addr) (n c : Nat) (xs : List Int) (p : Nat) : Prop where
  blk : Two w B 57 (.slice A n c) (.int .i64 p)
  row : Rd .u8 w w.heap.size A n xs
  far : ∀ a, A = some a → a.block ≠ B
  low : ∀ a, A = some a → a.block < w.heap.size
  byte : Byte xs
  size : n ≤ 1099511627776
  pos : p ≤ 8 * n

theorem RdrAt.save {w w' : World} {B : Nat} {A : Option Addr} {n c : Nat} {xs : List Int} {p : Nat} (h : RdrAt w B A n c xs p) {X : Nat → Prop} (hs : Save X w w') (hB : ¬ X B) (hA : ∀ a, A = some a → ¬ X a.block) : RdrAt w' B A n c xs p :=
  ⟨h.blk.save hs hB, (h.row.save hs (Nat.le_refl _) hA).more hs.size, h.far, fun a ha => Nat.lt_of_lt_of_le (h.low a ha) hs.size, h.byte, h.size, h.pos⟩
/-- The position moves. -/
theorem RdrAt.moved {w w' : World} {B : Nat} {A : Option Addr} {n c : Nat} {xs : List Int} {p : Nat} (h : RdrAt w B A n c xs p) {q : Nat} (hs : Save (· = B) w w') (hq : Two w' B 57 (.slice A n c) (.int .i64 q)) (hp : q ≤ 8 * n) : RdrAt w' B A n c xs q :=
  ⟨hq, (h.row.save hs (Nat.le_refl _) h.far).more hs.size, h.far, fun a ha => Nat.lt_of_lt_of_le (h.low a ha) hs.size, h.byte, h.size, hp⟩

theorem possible_yes {k : Int} {w : World} (h0 : 0 ≤ k) (h1 : k ≤ 64) : Calls Try.prog 46 #[.int .i64 k] w fun e w' => e = .returned (.bool true) ∧ w = w' := by
  go_enter Try.func46, Try.ntmps46
  go_wp2
  go_ret
  exact ⟨rfl, rfl⟩
theorem possible_no {k : Int} {w : World} (h : k < 0 ∨ 64 < k) : Calls Try.prog 46 #[.int .i64 k] w fun e w' => e = .returned (.bool false) ∧ w = w' := by
  rcases h with h | h
  · go_enter Try.func46, Try.ntmps46
    go_wp2
    go_ret
    exact ⟨rfl, rfl⟩
  · have h1 : decide (k ≤ 64) = false := by simp; omega
    go_enter Try.func46, Try.ntmps46
    go_wp2
    go_ret
    exact ⟨rfl, rfl⟩

theorem left_any {w : World} {B : Nat} {A : Option Addr} {n c p : Nat} (h : Two w B 57 (.slice A n c) (.int .i64 p)) (hn : n ≤ 1099511627776) (hp : p ≤ 8 * n) :
    Calls Try.prog 20 #[.pointer (some ⟨B, 0, none⟩)] w fun e w' => e = .returned (.int .i64 ((8 * n - p : Nat) : Int)) ∧ ∃ k, w' = w.drewN k := by
  have h0 := h.cell0
  have h1 := h.cell1
  go_enter Try.func20, Try.ntmps20
  go_wp2
  go_quiet (fail)
  go_wp2
  go_ret
  exact ⟨ret_int (by omega), _, rfl⟩
theorem left_nil {w : World} : Calls Try.prog 20 #[.pointer none] w fun e w' => e = .returned (.int .i64 0) ∧ w = w' := by
  go_enter Try.func20, Try.ntmps20
  go_wp2
  go_ret
  exact ⟨rfl, rfl⟩
theorem at_any {w : World} {B : Nat} {A : Option Addr} {n c p : Nat} (h : Two w B 57 (.slice A n c) (.int .i64 p)) :
    Calls Try.prog 19 #[.pointer (some ⟨B, 0, none⟩)] w fun e w' => e = .returned (.int .i64 p) ∧ w = w' := by
  have h1 := h.cell1
  go_enter Try.func19, Try.ntmps19
  go_wp2
  go_ret
  exact ⟨rfl, rfl⟩
theorem at_nil {w : World} : Calls Try.prog 19 #[.pointer none] w fun e w' => e = .returned (.int .i64 0) ∧ w = w' := by
  go_enter Try.func19, Try.ntmps19
  go_wp2
  go_ret
  exact ⟨rfl, rfl⟩

theorem rest_in (m : Nat) (a : Option Addr) (w : World) :
    CallsIn Fence.wide m Try.prog 48 #[.pointer a] w fun e w' => e = .returned (.func (.func 59) #[] #[.pointer (some ⟨w.heap.size, 0, none⟩)]) ∧ w' = w.alloc (.cells #[.pointer a] 42) := by
  refine callsIn_of_wp Try.func48 rfl trivial ?_ rfl
  simp only [Try.ntmps48, List.size_toArray, List.length_cons, List.length_nil, Nat.reduceAdd, Nat.reduceSub, Array.replicate_succ, Array.replicate_zero, List.push_toArray, List.append_toArray, List.nil_append, List.cons_append]
  gi_wp2
  go_ret
  exact ⟨rfl, rfl⟩

/-- Bit k of the bytes. -/
def bitAt (xs : List Int) (k : Nat) : Int := xs[k / 8]?.getD 0 / 2 ^ (7 - k % 8) % 2
def restL (xs : List Int) (n p : Nat) : List Int := (List.range (8 * n - p)).map fun i => bitAt xs (p + i)
theorem restL_length (xs : List Int) (n p : Nat) : (restL xs n p).length = 8 * n - p := by simp [restL]
theorem restL_take_succ (xs : List Int) (n p k : Nat) (h : k < 8 * n - p) : (restL xs n p).take (k + 1) = (restL xs n p).take k ++ [bitAt xs (p + k)] := by
  rw [List.take_succ_eq_append_getElem (by rw [restL_length]; exact h)]
  simp [restL]

/-- What the iterator does to memory between two rounds. -/
def RMv (B : Nat) (W W' : World) : Prop := (∃ u, W' = W.setCell ⟨B, 1, none⟩ u) ∨ (∃ k, W' = W.drewN k)
theorem RMv.others {B : Nat} {W W' : World} (h : RMv B W W') : KeepsOthers W W' := by
  rcases h with ⟨u, rfl⟩ | ⟨k, rfl⟩
  · exact KeepsOthers.setCell _ _ _
  · exact ⟨Nat.le_refl _, fun _ _ h _ => h⟩
/-- The blocks that a round's body leaves to the iterator. -/
def RX (Bs B : Nat) (A : Option Addr) (k : Nat) : Prop := k = Bs ∨ k = B ∨ ∃ a, A = some a ∧ k = a.block

set_option maxRecDepth 100000 in
set_option maxHeartbeats 2000000 in
theorem rest1_in (m : Nat) (hm : 2 ≤ m) (l Bs B : Nat) (A : Option Addr) (n c : Nat) (xs : List Int) (p : Nat) (hn : n ≤ 1099511627776) (hp : p ≤ 8 * n) (hx : Byte xs) (hBs : Bs ≠ B)
    (J Jx : List Int → World → Prop) (hJ : ∀ s X Y, J s X → RMv B X Y → J s Y)
    (hY : ∀ pre x W, J pre W → pre.length < 8 * n - p → YieldAt Fence.wide (m - 1) Try.prog l #[.int .u8 x] W fun e W' =>
      (e = .returned (.bool true) ∧ J (pre ++ [x]) W' ∧ KeepB (RX Bs B A) W W') ∨ (e = .returned (.bool false) ∧ Jx (pre ++ [x]) W' ∧ KeepB (RX Bs B A) W W'))
    (W : World) (hbox : W.heap[Bs]? = some (.cells #[.pointer (some ⟨B, 0, none⟩)] 42)) (hblk : Two W B 57 (.slice A n c) (.int .i64 p)) (hR : Rd .u8 W W.heap.size A n xs) (hA : ∀ a, A = some a → a.block ≠ B) (h0 : J [] W) :
    CallsIn Fence.wide m Try.prog 59 #[.func (.yield l) #[] #[], .pointer (some ⟨Bs, 0, none⟩)] W fun e W' => (∃ v, e = .returned v) ∧
      ((∃ ys, (ys = restL xs n p ∧ Two W' B 57 (.slice A n c) (.int .i64 ((8 * n : Nat) : Int))) ∧ J ys W') ∨
       (∃ pre, (∃ k, k < 8 * n - p ∧ pre = (restL xs n p).take (k + 1) ∧ Two W' B 57 (.slice A n c) (.int .i64 ((p + k : Nat) : Int))) ∧ Jx pre W')) := by
  have hxb := Lib.hid hx; clear hx
  refine callsIn_of_wp Try.func59 rfl trivial ?_ rfl
  simp only [Try.ntmps59, List.size_toArray, List.length_cons, List.length_nil, Nat.reduceAdd, Nat.reduceSub, Array.replicate_succ, Array.replicate_zero, List.push_toArray, List.append_toArray, List.nil_append, List.cons_append]
  gi_wp2
  gi_loopg [] (8 * n - p) (fun g wr => ∃ k : Nat, k ≤ 8 * n - p ∧ g = 8 * n - p - k ∧ J ((restL xs n p).take k) wr ∧ Two wr B 57 (.slice A n c) (.int .i64 ((p + k : Nat) : Int)) ∧ wr.heap[Bs]? = some (.cells #[.pointer (some ⟨B, 0, none⟩)] 42) ∧ Rd .u8 wr W.heap.size A n xs ∧ W.heap.size ≤ wr.heap.size)
  case atStart => exact ⟨0, Nat.zero_le _, rfl, h0, hblk, hbox, hR, Nat.le_refl _⟩
  case round =>
    obtain ⟨k, hk, rfl, hJk, hT, hbx, hRk, hsz⟩ := hrel
    have hpc : wr.cell? ⟨Bs, 0, none⟩ = some (.pointer (some ⟨B, 0, none⟩)) := by simp [World.cell?, hbx]
    obtain ⟨q, hq⟩ : ∃ q, q = p + k := ⟨_, rfl⟩
    rw [← hq] at hT
    have c0 := hT.cell0
    have c1 := hT.cell1
    have hL : Hid (∀ j, CallsIn Fence.wide (m - 1) Try.prog 20 #[.pointer (some ⟨B, 0, none⟩)] (wr.drewN j) fun e w' => e = .returned (.int .i64 ((8 * n - q : Nat) : Int)) ∧ ∃ i, w' = wr.drewN i) := Lib.hid fun j =>
      (callsIn_wide.2 (left_any (w := wr.drewN j) hT hn (by omega))).mono (fun e w' h => ⟨h.1, by obtain ⟨i, rfl⟩ := h.2; exact ⟨j + i, World.drewN_drewN _ _ _⟩⟩)
    have hQ := Lib.hid hq
    by_cases hlt : k < 8 * n - p
    · obtain ⟨r, hr⟩ : ∃ r : Nat, 8 * n - q = r + 1 := ⟨8 * n - q - 1, by omega⟩
      rw [hr] at hL
      have hR' := Lib.hid hr
      have hq8 : q / 8 < n := by omega
      obtain ⟨b, off, rfl, hb, hcell⟩ := hRk.cells (q / 8) hq8
      clear hr hq hk
      have hbk := shr_byte hxb.out (q / 8) (7 - q % 8)
      gi_wp2
      refine wpIn_region_quiet_tail 24 rfl (by kernel_rfl) (by kernel_rfl) ?_
      simp only [List.take_succ_cons, List.take_zero, List.drop_succ_cons, List.drop_zero]
      gi_big_quiet_step (fail)
      refine wpQuietIn_step (fun _ _ _ _ => trivial) (fun K hK => ?_)
      rw [if_pos (by rfl)]
      gi_big_quiet_op
      refine ⟨_, fun j => ⟨fun h => (by cases h), hL.out j⟩, hK _ ?_⟩
      clear hK K
      repeat (gi_big_quiet_step (fail))
      refine wpQuietIn_nil ?_
      rintro w' ⟨nq, rfl⟩
      have e1 : Hid (bits .and .u8 (xs[q / 8]?.getD 0 / 2 ^ (7 - q % 8)) 1 = bitAt xs q) := Lib.hid (and_one_u8 hbk.1 hbk.2)
      obtain ⟨fn, tmps, assign, body, hy, hRd⟩ := hY _ (bits .and .u8 (xs[q / 8]?.getD 0 / 2 ^ (7 - q % 8)) 1) (wr.drewN nq) (hJ _ _ _ hJk (.inr ⟨nq, rfl⟩)) (by rw [List.length_take, restL_length]; omega)
      have hJ0 := hJ
      clear hJ
      have hTk : (restL xs n p).take k ++ [bits .and .u8 (xs[q / 8]?.getD 0 / 2 ^ (7 - q % 8)) 1] = (restL xs n p).take (k + 1) := by rw [e1.out, restL_take_succ _ _ _ _ hlt, hQ.out]
      rw [hTk] at hRd
      have hHb : (wr.drewN nq).heap = wr.heap := rfl
      have hq1 : q < 8 * n := by have := hR'.out; omega
      clear hTk c0 c1 hpc hcell hL
      gi_wp2
      refine ⟨fun _ => by omega, hRd.mono ?_⟩
      rintro e W3 (⟨rfl, hJ3, hk3⟩ | ⟨rfl, hJx3, hk3⟩)
      · have hT3 : Two W3 B 57 (.slice (some ⟨b, off, none⟩) n c) (.int .i64 q) := (hk3.2 B (.inr (.inl rfl))).trans hT
        have hbx3 := (hk3.2 Bs (.inl rfl)).trans hbx
        have hR3 : Rd .u8 W3 W.heap.size (some ⟨b, off, none⟩) n xs := hRk.block (fun a ha => hk3.2 _ (.inr (.inr ⟨a, ha, rfl⟩)))
        have hs3 := hk3.1
        have hpc3 : W3.cell? ⟨Bs, 0, none⟩ = some (.pointer (some ⟨B, 0, none⟩)) := by simp [World.cell?, hbx3]
        have c13 := hT3.cell1
        have f13 := hT3.frozen 1
        gi_wp2
        gi_roundg (8 * n - p - (k + 1))
        case rel =>
          have hbB := hA _ rfl
          refine ⟨k + 1, by omega, rfl, hJ0 _ _ _ hJ3 (.inl ⟨_, rfl⟩), ?_, ?_, ?_, ?_⟩
          · have := hT3.set1 (.int .i64 ((q : Int) + 1))
            rw [show ((p + (k + 1) : Nat) : Int) = (q : Int) + 1 by have := hQ.out; omega]
            exact this
          · exact (Below.heap_setCell _ _ _ _ hBs).trans hbx3
          · exact hR3.block (fun a ha => Below.heap_setCell _ _ _ _ (hA a ha))
          · have : (wr.drewN nq).heap.size = wr.heap.size := rfl
            simp [World.setCell]; omega
        case measure => omega
      · have hT3 : Two W3 B 57 (.slice (some ⟨b, off, none⟩) n c) (.int .i64 q) := (hk3.2 B (.inr (.inl rfl))).trans hT
        gi_wp2
        go_end0
        exact ⟨⟨_, rfl⟩, .inr ⟨_, ⟨k, hlt, rfl, by rw [← hQ.out]; exact hT3⟩, hJx3⟩⟩
    · have hr : 8 * n - q = 0 := by omega
      obtain rfl : k = 8 * n - p := by omega
      rw [hr] at hL
      have hq8 : p + (8 * n - p) = 8 * n := by omega
      rw [hq8] at hQ
      have hTk : (restL xs n p).take (8 * n - p) = restL xs n p := List.take_of_length_le (by rw [restL_length]; exact Nat.le_refl _)
      rw [hTk] at hJk
      clear hr hq hk hlt hTk hq8
      gi_wp2
      refine wpIn_region_quiet_lit rfl (by kernel_rfl) (by kernel_rfl) ?_
      gi_big_quiet_step (fail)
      refine wpQuietIn_step (fun _ _ _ _ => trivial) (fun K hK => ?_)
      rw [if_pos (by rfl)]
      gi_big_quiet_op
      refine ⟨_, fun j => ⟨fun h => (by cases h), hL.out j⟩, hK _ ?_⟩
      clear hK K
      repeat (gi_big_quiet_step (fail))
      refine wpQuietIn_step (fun _ _ _ _ => trivial) (fun K hK => ?_)
      rw [if_neg (by intro h; cases h)]
      refine hK _ ?_
      clear hK K
      simp only [Act.put, List.setIfInBounds_toArray, List.set_cons_succ, List.set_cons_zero]
      repeat (gi_big_quiet_step (fail))
      refine wpQuietIn_nil ?_
      rintro w' ⟨nq, rfl⟩
      have hJ4 := hJ _ _ _ hJk (.inr ⟨nq, rfl⟩)
      have hT4 : Two (wr.drewN nq) B 57 (.slice A n c) (.int .i64 q) := hT
      clear hL hJ hJk hT
      gi_wp2
      go_end0
      exact ⟨⟨_, rfl⟩, .inl ⟨_, ⟨rfl, by rw [← hQ.out]; exact hT4⟩, hJ4⟩⟩

/-- What is known where all bits have come; where a round has said no. -/
def RS (xs : List Int) (n p B : Nat) (A : Option Addr) (c : Nat) (ys : List Int) (W : World) : Prop := ys = restL xs n p ∧ Two W B 57 (.slice A n c) (.int .i64 ((8 * n : Nat) : Int))
def RSp (xs : List Int) (n p B : Nat) (A : Option Addr) (c : Nat) (pre : List Int) (W : World) : Prop := ∃ k, k < 8 * n - p ∧ pre = (restL xs n p).take (k + 1) ∧ Two W B 57 (.slice A n c) (.int .i64 ((p + k : Nat) : Int))
theorem Two.grown {w w' : World} {B D : Nat} {t : TypeId} {x y : Value} {row : Option Nat} (h : Two w B t x y) (hg : w.grownBy w' row) (hr : ∀ r, row = some r → D ≤ r ∧ ∃ o : Obj, w.heap[r]? = some o ∧ o.isCells = false) : Two w' B t x y :=
  (hg.block B h.lt (fun e => by obtain ⟨_, o, ho, hc⟩ := hr B e.symm; rw [show w.heap[B]? = _ from h] at ho; cases ho; cases hc)).trans h
theorem rs_own (xs : List Int) (n p B : Nat) (A : Option Addr) (c D : Nat) : OwnFrom D (RS xs n p B A c) := fun _ _ _ _ hs hg hr => ⟨hs.1, hs.2.grown hg hr⟩
theorem rsp_own (xs : List Int) (n p B : Nat) (A : Option Addr) (c D : Nat) : OwnFrom D (RSp xs n p B A c) := fun _ _ _ _ hs hg hr => by
  obtain ⟨k, h1, h2, h3⟩ := hs
  exact ⟨k, h1, h2, h3.grown hg hr⟩
theorem rest_seq (m : Nat) (hm : 2 ≤ m) {w : World} {B : Nat} {A : Option Addr} {n c : Nat} {xs : List Int} {p : Nat} (h : RdrAt w B A n c xs p) (Bs : Nat) (hbox : w.heap[Bs]? = some (.cells #[.pointer (some ⟨B, 0, none⟩)] 42)) (hBs : Bs ≠ B) :
    SeqMv Fence.wide m Try.prog 59 #[.pointer (some ⟨Bs, 0, none⟩)] (fun x : Int => #[Value.int .u8 x]) (KeepB (RX Bs B A)) (RMv B) (RS xs n p B A c) (RSp xs n p B A c) (8 * n - p) w := fun l J Jx W hW hJ hY h0 =>
  rest1_in m hm l Bs B A n c xs p h.size h.pos h.byte hBs J Jx hJ hY W ((hW.block Bs (Array.getElem?_eq_some_iff.1 hbox).1).trans hbox) ((hW.block B h.blk.lt).trans h.blk) ((h.row.below hW).more hW.size) h.far h0
end Go.Proofs.Ytgcgmnopggabaaa
