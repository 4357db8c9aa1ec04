/-
  sums: the iterator over the sums of the two registers' elements.
-/
import Derived.Shelf.Abstract
import Derived.Shelf.RegionOpen
import Derived.WalkKit
import Derived.OwnWalkIn
import Derived.TacticsInMore
import Derived.LoopNIn
import Derived.LoopIn
import Derived.Sort.QuietIn
import Derived.Test.YtofcjcmbbkiaaaaG1
import Derived.Test.YtofcjcmbbkiaaaaRuns
namespace Go.Proofs.Ytofcjcmbbkiaaaa
open Go.RowKit Go.Shelf BigFrame

attribute [local go_sem] Oper.semAt_some

theorem ownFrom_drewN {β : Type} {B : Nat} {I : β → World → Prop} (h : OwnFrom B I) {s : β} {W : World} (hs : I s W) (k : Nat) : I s (W.drewN k) :=
  h s W _ none hs ⟨rfl, rfl, rfl, Nat.le_refl _, fun _ _ _ => rfl⟩ (fun r e => by cases e)
theorem ownFrom_drew {β : Type} {B : Nat} {I : β → World → Prop} (h : OwnFrom B I) {s : β} {W : World} (hs : I s W) : I s W.drew :=
  h s W _ none hs ⟨rfl, rfl, rfl, Nat.le_refl _, fun _ _ _ => rfl⟩ (fun r e => by cases e)

/-- A measure for a loop whose count no variable holds: how far the greatest k with p k is from N. -/
noncomputable def lead (N : Nat) (p : Nat → Prop) : Nat := Classical.epsilon fun d => (∃ k, p k ∧ k + d = N) ∧ ∀ k d', p k → k + d' = N → d ≤ d'
theorem lead_spec {N : Nat} {p : Nat → Prop} (hN : ∀ k, p k → k < N) (h : ∃ k, p k) : (∃ k, p k ∧ k + lead N p = N) ∧ ∀ k d', p k → k + d' = N → lead N p ≤ d' := by
  unfold lead
  refine Classical.epsilon_spec (p := fun d => (∃ k, p k ∧ k + d = N) ∧ ∀ k d', p k → k + d' = N → d ≤ d') ?_
  have key : ∀ n, (∃ k, p k ∧ N ≤ k + n) → ∃ d, (∃ k, p k ∧ k + d = N) ∧ ∀ k d', p k → k + d' = N → d ≤ d' := by
    intro n
    induction n with
    | zero => rintro ⟨k, hk, h⟩; exact absurd (hN k hk) (by omega)
    | succ n ih =>
      intro h
      by_cases h2 : ∃ k, p k ∧ N ≤ k + n
      · exact ih h2
      · obtain ⟨k, hk, hle⟩ := h
        have : ¬ N ≤ k + n := fun h3 => h2 ⟨k, hk, h3⟩
        refine ⟨n + 1, ⟨k, hk, by omega⟩, fun k' d' hk' he => ?_⟩
        have : ¬ N ≤ k' + n := fun h3 => h2 ⟨k', hk', h3⟩
        omega
  obtain ⟨k, hk⟩ := h
  exact key N ⟨k, hk, by omega⟩
theorem lead_most {N : Nat} {p : Nat → Prop} (hN : ∀ k, p k → k < N) (h : ∃ k, p k) : ∃ k, p k ∧ ∀ q : Nat → Prop, (∀ k, q k → k < N) → q (k + 1) → lead N q < lead N p := by
  obtain ⟨⟨k, hk, he⟩, _⟩ := lead_spec hN h
  refine ⟨k, hk, fun q hq h1 => ?_⟩
  have := (lead_spec hq ⟨_, h1⟩).2 (k + 1) (N - (k + 1)) h1 (by have := hq _ h1; omega)
  have := hq _ h1
  omega

/-! ### the registers -/
def reg1 (k : Nat) : Int := ((regN fb1 1 k : Nat) : Int)
def reg2 (v k : Nat) : Int := ((regN fb2 v k : Nat) : Int)
def sumN (v k : Nat) : Nat := (elN fb1 1 k + elN fb2 v k) % 2
def sumI (v k : Nat) : Int := ((sumN v k : Nat) : Int)
theorem reg1_range (k : Nat) : 0 ≤ reg1 k ∧ reg1 k < 2147483648 := by
  have := regN_lt (f := fb1) fb1_le (show 1 < 2147483648 by decide) k
  unfold reg1; omega
theorem reg2_range {v : Nat} (hv : v < 2147483648) (k : Nat) : 0 ≤ reg2 v k ∧ reg2 v k < 2147483648 := by
  have := regN_lt (f := fb2) fb2_le hv k
  unfold reg2; omega
theorem reg1_succ (k : Nat) : reg1 (k + 1) = reg1 k / 2 + 1073741824 * ((reg1 k / 8 + reg1 k) % 2) := by
  have h : regN fb1 1 (k + 1) = lf fb1 (regN fb1 1 k) := rfl
  unfold reg1
  rw [h]
  unfold lf fb1
  omega
theorem reg2_succ (v k : Nat) : reg2 v (k + 1) = reg2 v k / 2 + 1073741824 * ((reg2 v k / 8 + reg2 v k / 4 + reg2 v k / 2 + reg2 v k) % 2) := by
  have h : regN fb2 v (k + 1) = lf fb2 (regN fb2 v k) := rfl
  unfold reg2
  rw [h]
  unfold lf fb2
  omega
theorem sumI_reg (v k : Nat) : sumI v k = (reg1 k + reg2 v k) % 2 := by
  unfold sumI sumN elN reg1 reg2; omega
theorem xor_mod {a b : Int} (ha : 0 ≤ a ∧ a < 4294967296) (hb : 0 ≤ b ∧ b < 4294967296) :
    (0 ≤ bits .xor .u32 a b ∧ bits .xor .u32 a b < 4294967296) ∧ bits .xor .u32 a b % 2 = (a + b) % 2 := by
  obtain ⟨x, rfl⟩ := Int.eq_ofNat_of_zero_le ha.1
  obtain ⟨y, rfl⟩ := Int.eq_ofNat_of_zero_le hb.1
  have h := bits_xor_u .u32 rfl x y (by simp [IntKind.bits]; omega) (by simp [IntKind.bits]; omega)
  have h2 : x ^^^ y < 2 ^ 32 := Nat.xor_lt_two_pow (by omega) (by omega)
  have h3 := xor_two x y
  rw [h]
  omega

theorem sums_in (n : Nat) (v : Int) (w : World) :
    CallsIn Fence.wide n Try.prog 29 #[.int .u32 v] w fun e w' => e = .returned (.func (.func 39) #[] #[.pointer (some ⟨w.heap.size, 0, none⟩)]) ∧ w' = w.alloc (.cells #[.int .u32 v] 22) := by
  refine callsIn_of_wp Try.func29 rfl trivial ?_ rfl
  simp only [Try.ntmps29, List.size_toArray, List.length_cons, List.length_nil, Nat.reduceAdd, Nat.reduceSub, Array.replicate_succ, Array.replicate_zero, List.push_toArray, List.append_toArray, List.nil_append, List.cons_append]
  gi_wp2
  go_ret
  exact ⟨by simp, rfl⟩

/-- Where the loop is. -/
def AtStep (v : Nat) (J : Nat → World → Prop) (B : Nat) (x1 x2 : Value) (wr : World) (k : Nat) : Prop := x1 = .int .u32 (reg1 k) ∧ x2 = .int .u32 (reg2 v k) ∧ J k wr ∧ B ≤ wr.heap.size
set_option maxRecDepth 100000 in
set_option maxHeartbeats 2000000 in
theorem sums_runs {n : Nat} (hn : 1 ≤ n) {v B N : Nat} (hv : v < 2147483648) {w : World} (hB : B < w.heap.size) (hc : w.cell? ⟨B, 0, none⟩ = some (.int .u32 (v : Int))) :
    Runs n Try.prog 39 #[.pointer (some ⟨B, 0, none⟩)] (fun k => .int .u8 (sumI v k)) False 0 N w := by
  intro l J Jx W hW hJ hJx _ hN hY h0
  have hcW := (hW.cell (p := ⟨B, 0, none⟩) hB).trans hc
  have hP : ∀ x1 x2 wr k, AtStep v J W.heap.size x1 x2 wr k → k < N := fun x1 x2 wr k h => hN k wr h.2.2.1
  have hr0 : reg1 0 = 1 := rfl
  have hr0' : reg2 v 0 = (v : Int) := rfl
  have h00 : AtStep v J W.heap.size (.int .u32 1) (.int .u32 (v : Int)) W 0 := ⟨by rw [hr0], by rw [hr0'], h0, Nat.le_refl _⟩
  clear hW hc hr0 hr0' h0
  refine callsIn_of_wp Try.func39 rfl trivial ?_ rfl
  simp only [Try.ntmps39, List.size_toArray, List.length_cons, List.length_nil, Nat.reduceAdd, Nat.reduceSub, Array.replicate_succ, Array.replicate_zero, List.push_toArray, List.append_toArray, List.nil_append, List.cons_append]
  gi_wp2
  refine wpIn_wide.2 ?_
  go_quiet (fail)
  obtain ⟨h01, h02, h03, h04⟩ := h00
  have h0 : AtStep v J W.heap.size (.int .u32 1) (.int .u32 (v : Int)) (W.drewN nq) 0 := ⟨h01, h02, ownFrom_drewN hJ h03 _, h04⟩
  clear h01 h02 h03 h04 hcW
  gi_wp2
  gi_loopw [3, 4] (fun x1 x2 wr => ∃ k, AtStep v J W.heap.size x1 x2 wr k) (fun x1 x2 wr => lead N (AtStep v J W.heap.size x1 x2 wr))
  case atStart => exact ⟨0, h0⟩
  case round =>
    obtain ⟨k, hk, hless⟩ := lead_most (hP _ _ _) hrel
    have HL := Lib.hid hless
    clear hrel hless h0
    obtain ⟨rfl, rfl, hJk, hsz⟩ := hk
    obtain ⟨fn, tmps, assign, body, hy, hRd⟩ := hY (fun h => h) k wr hJk hsz
    have ra := reg1_range k
    have rb := reg2_range hv k
    have hs := sumI_reg v k
    have sa := Lib.hid (reg1_succ k)
    have sb := Lib.hid (reg2_succ v k)
    obtain ⟨a2, ha2⟩ : ∃ a2, reg1 (k + 1) = a2 := ⟨_, rfl⟩
    obtain ⟨b2, hb2⟩ : ∃ b2, reg2 v (k + 1) = b2 := ⟨_, rfl⟩
    rw [ha2] at sa
    rw [hb2] at sb
    generalize reg1 k = a at *
    generalize reg2 v k = b at *
    have hx := xor_mod (a := a) (b := b) (by omega) (by omega)
    have h1 := and1_u32 hx.1.1 hx.1.2
    have h2 : sumI v k = bits .and .u32 (bits .xor .u32 a b) 1 % 256 := by rw [h1]; omega
    rw [h2] at hy
    have y1 := xor_mod (a := a / 8) (b := a) (by omega) (by omega)
    have f1 := Lib.hid (fun u : World => shift_any (r := a) (w := u) ra y1.1)
    rw [y1.2, ← sa.out] at f1
    have z1 := xor_mod (a := b / 8) (b := b / 4) (by omega) (by omega)
    have z2 := xor_mod (b := b / 2) z1.1 (by omega)
    have z3 := xor_mod (b := b) z2.1 (by omega)
    have hz : b / 2 + 1073741824 * (bits .xor .u32 (bits .xor .u32 (bits .xor .u32 (b / 8) (b / 4)) (b / 2)) b % 2) = b2 := by rw [sb.out, z3.2]; omega
    have f2 := Lib.hid (fun u : World => shift_any (r := b) (w := u) rb z3.1)
    rw [hz] at f2
    have HA2 := Lib.hid ha2
    have HB2 := Lib.hid hb2
    clear hx h1 h2 hs sa sb y1 z1 z2 z3 hz ha2 hb2 ra rb
    gi_wp2
    refine hRd.mono ?_
    rintro e W3 (⟨rfl, hJ3, hk3, _⟩ | ⟨rfl, hJx3, _⟩)
    · have hsz3 := Nat.le_trans hsz hk3.size
      gi_wp2_with (refine ⟨trivial, ?_⟩; gi_at_call 40; first | (refine (callsIn_wide.2 (f1.out _)).mono ?_; rintro e w' ⟨rfl, rfl⟩; clear f1) | (refine (callsIn_wide.2 (f2.out _)).mono ?_; rintro e w' ⟨rfl, rfl⟩; clear f2))
      have hA : AtStep v J W.heap.size (.int .u32 a2) (.int .u32 b2) w' (k + 1) := ⟨by rw [HA2.out], by rw [HB2.out], hJ3, hsz3⟩
      go_roundw
      case rel => exact ⟨_, hA⟩
      case measure => exact HL.out _ (hP _ _ _) hA
    · gi_wp2
      go_end0
      exact ⟨⟨_, rfl⟩, .inr hJx3⟩
end Go.Proofs.Ytofcjcmbbkiaaaa
