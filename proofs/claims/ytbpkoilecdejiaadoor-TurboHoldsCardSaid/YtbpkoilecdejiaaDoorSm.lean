/-
  require, raised, ceil, next; the deferred closures. next. Next, Valid. The reference of Valid. The law's same (of integers) and num.
-/
import Derived.Test.YtbpkoilecdejiaaDoorT3
import Derived.Test.YtbpkoilecdejiaaDoorKq
import Derived.Defers
import Derived.Recover
import Derived.WalkLawsBesides
import Derived.Deep.QuietTactic
import Derived.BigQuiet
namespace Go.Proofs.YtbpkoilecdejiaaDoor
/-! ### require, raised, ceil, next; the deferred closures. next. Next, Valid. -/
section
/-! ### require, raised, ceil, next; the deferred closures. -/
section
open Go.RowKit

/-- What require raises. -/
def failV (e : Int) : Value := .iface 111 (.agg #[.int .i64 e])
theorem require_ok {e : Int} {w : World} :
    Calls Tryd.prog 61 #[.bool true, .int .i64 e] w fun r w' => r = .returned (.tuple #[]) ∧ w' = w := by
  go_enter Tryd.func61, Tryd.ntmps61
  go_wp2
  go_end0
  exact ⟨rfl, rfl⟩
theorem require_no {e : Int} {w : World} :
    Calls Tryd.prog 61 #[.bool false, .int .i64 e] w fun r w' => r = .panicked [{ v := failV e, recovered := false }] ∧ w' = w := by
  go_enter Tryd.func61, Tryd.ntmps61
  go_wp2
  exact ⟨rfl, rfl, rfl⟩
theorem raised_nil {w : World} :
    Calls Tryd.prog 60 #[.nilIface] w fun r w' => r = .returned (.int .i64 0) ∧ w' = w := by
  go_enter Tryd.func60, Tryd.ntmps60
  go_wp2
  go_ret
  exact ⟨rfl, rfl⟩
theorem ceil_any {a b : Nat} {w : World} (hb : 1 ≤ b) (ha : a ≤ 1000000000) (hb2 : b ≤ 1000000000) :
    Calls Tryd.prog 71 #[.int .i64 a, .int .i64 b] w fun r w' => r = .returned (.int .i64 ((a + b - 1) / b : Nat)) ∧ w' = w := by
  have hc : ((a : Int) + b - 1) / b = ((a + b - 1) / b : Nat) := by
    rw [show (a : Int) + b - 1 = ((a + b - 1 : Nat) : Int) by omega]; rfl
  go_enter Tryd.func71, Tryd.ntmps71
  go_wp2
  go_ret
  exact ⟨by show Ending.returned (.int .i64 (((a : Int) + b - 1) / b)) = _; rw [hc], rfl⟩
set_option maxRecDepth 100000 in
theorem raised_some {e : Int} {w : World} :
    Calls Tryd.prog 60 #[failV e] w fun r w' => r = .returned (.int .i64 e) ∧ w' = w := by
  unfold failV
  have hta : ∀ (w : World), (Instr.typeAssert (.iface 111 (.agg #[.int .i64 e])) 20 111 false).run Tryd.prog w = .ok (.agg #[.int .i64 e]) w := fun _ => by kernel_rfl
  have hfi : ∀ (w : World), (Instr.field 111 (.agg #[.int .i64 e]) 0).run Tryd.prog w = .ok (.int .i64 e) w := fun _ => by
    simp [Instr.field, run_underlying Tryd.underlying111, asAgg, go_sem]
  go_enter Tryd.func60, Tryd.ntmps60
  go_wp2
  go_ret
  exact ⟨rfl, rfl⟩

/-! ### The deferred closures -/
theorem next_caught (e : Int) (p : Addr) (w : World) {v : Value} (hc : w.cell? p = some v) (hf : w.frozen? p = false) :
    CallsD Tryd.prog 59 #[.pointer (some p)] (.panicking [{ v := failV e, recovered := false }]) w fun r u' w' => r = .returned (.tuple #[]) ∧ u' = .panicking [{ v := failV e, recovered := true }] ∧ w' = w.setCell p (.int .i64 e) := by
  refine callsD_of_wpS Tryd.func59 rfl fun c₀ cs hu => ?_
  apply wpS_region
  simp [wpOpsS, go_sem, recoverD, hu, Tryd.ntmps59]
  refine raised_some.mono ?_
  rintro r w2 ⟨rfl, rfl⟩
  simp [go_sem, hc, hf, bodyPostS, results, Tryd.results59]
theorem next_calm (p : Addr) (w : World) {v : Value} (hc : w.cell? p = some v) (hf : w.frozen? p = false) :
    CallsD Tryd.prog 59 #[.pointer (some p)] .returning w fun r u' w' => r = .returned (.tuple #[]) ∧ u' = .returning ∧ w' = w.setCell p (.int .i64 0) := by
  refine callsD_of_wpS Tryd.func59 rfl fun c₀ cs hu => ?_
  apply wpS_region
  simp [wpOpsS, go_sem, recoverD, hu, Tryd.ntmps59]
  refine raised_nil.mono ?_
  rintro r w2 ⟨rfl, rfl⟩
  cases c₀
  simp_all [go_sem, bodyPostS, results, Tryd.results59]
end

/-! ### next. -/
section
open Go.RowKit

structure RgC (w : World) : Prop where
  a0 : w.cell? ⟨0, 0, none⟩ = some (.int .i64 40)
  a1 : w.cell? ⟨0, 1, none⟩ = some (.int .i64 512)
  a2 : w.cell? ⟨0, 2, none⟩ = some (.int .i64 8)
  b0 : w.cell? ⟨0, 3, none⟩ = some (.int .i64 528)
  b1 : w.cell? ⟨0, 4, none⟩ = some (.int .i64 1024)
  b2 : w.cell? ⟨0, 5, none⟩ = some (.int .i64 16)
  c0 : w.cell? ⟨0, 6, none⟩ = some (.int .i64 1056)
  c1 : w.cell? ⟨0, 7, none⟩ = some (.int .i64 2048)
  c2 : w.cell? ⟨0, 8, none⟩ = some (.int .i64 32)
  d0 : w.cell? ⟨0, 9, none⟩ = some (.int .i64 2112)
  d1 : w.cell? ⟨0, 10, none⟩ = some (.int .i64 6144)
  d2 : w.cell? ⟨0, 11, none⟩ = some (.int .i64 64)
theorem Ranges.all {w : World} (h : Ranges w) : RgC w :=
  ⟨h.cells 0 _ rfl, h.cells 1 _ rfl, h.cells 2 _ rfl, h.cells 3 _ rfl, h.cells 4 _ rfl, h.cells 5 _ rfl, h.cells 6 _ rfl, h.cells 7 _ rfl, h.cells 8 _ rfl, h.cells 9 _ rfl, h.cells 10 _ rfl, h.cells 11 _ rfl⟩

def rgLast (j : Nat) : Nat := if j = 0 then 512 else if j = 1 then 1024 else if j = 2 then 2048 else 6144
def rgLow (j : Nat) : Nat := if j = 0 then 0 else if j = 1 then 513 else if j = 2 then 1025 else 2049
theorem wrap_small {x : Int} (h1 : -9223372036854775808 ≤ x) (h2 : x ≤ 9223372036854775807) : IntKind.i64.wrap x = x := by
  simp only [IntKind.wrap_i64]
  omega
theorem max_sub {n f m : Nat} (hn : n ≤ 6144) (hf : f ≤ 6144) (hm : m = n - f) : (if 0 < IntKind.i64.wrap ((n : Int) - (f : Int)) then IntKind.i64.wrap ((n : Int) - (f : Int)) else 0) = (m : Int) := by
  rw [wrap_small (by omega) (by omega)]
  split <;> omega
theorem wrap64_i64 (x : Int) : wrap64 x = IntKind.i64.wrap x := by unfold wrap64; rw [IntKind.wrap_i64]
theorem max_sub2 {n f m : Nat} (hm : m = n - f) : (if (f : Int) < (n : Int) then (n : Int) - (f : Int) else 0) = (m : Int) := by
  split <;> omega
theorem size_val {f q s : Nat} (hq : q ≤ 6144) (hs : s ≤ 64) (hf : f ≤ 6144) : IntKind.i64.wrap ((f : Int) + IntKind.i64.wrap ((q : Int) * (s : Int))) = ((f + q * s : Nat) : Int) := by
  have h1 : q * s ≤ 6144 * 64 := Nat.mul_le_mul hq hs
  have h2 : (q : Int) * (s : Int) = ((q * s : Nat) : Int) := by simp
  rw [h2]
  generalize q * s = z at *
  rw [wrap_small (x := (z : Int)) (by omega) (by omega), wrap_small (by omega) (by omega)]
  omega
set_option maxRecDepth 100000 in
set_option maxHeartbeats 4000000 in
theorem next_any {n : Nat} {w : World} (hK : Kinds w) (h : n ≤ 6144) :
    Calls Tryd.prog 62 #[.int .i64 n] w fun r w' => r = .returned (.int .i64 (nextN n : Nat)) ∧ Below w.heap.size w w' := by
  obtain ⟨a0, a1, a2, b0, b1, b2, c0, c1, c2, d0, d1, d2⟩ := hK.rg.all
  have hlt := hK.lt
  clear hK
  go_enter Tryd.func62, Tryd.ntmps62
  go_wp2_with fail
  go_loop [3] (fun i => ∃ j : Nat, j ≤ 3 ∧ i = .int .i64 j ∧ rgLow j ≤ n) (fun i => 3 - (intOf i).toNat)
  case atStart => exact ⟨0, by decide, rfl, Nat.zero_le _⟩
  case round =>
    obtain ⟨j, hj, rfl, hlow⟩ := hrel
    have hj4 : j = 0 ∨ j = 1 ∨ j = 2 ∨ j = 3 := by omega
    rcases hj4 with rfl | rfl | rfl | rfl
    · have hlo : 0 ≤ n := by simp [rgLow] at hlow; omega
      clear hlow
      by_cases hle : n ≤ 512
      · have hm := max_sub (n := n) (f := 40) (m := n - 40) (by omega) (by decide) rfl
        have hm2 := max_sub2 (n := n) (f := 40) (m := n - 40) rfl
        have hv := size_val (f := 40) (q := (n - 40 + 8 - 1) / 8) (s := 8) (by omega) (by decide) (by decide)
        have hN : nextN n = 40 + (n - 40 + 8 - 1) / 8 * 8 := by
          unfold nextN
          rw [if_pos (by omega)]
          rfl
        have hce := fun (u : World) => ceil_any (a := n - 40) (b := 8) (w := u) (by decide) (by omega) (by decide)
        simp only [Int.cast_ofNat_Int] at hce hm hm2 hv
        have hle2 : n - 40 ≤ 6144 := by omega
        go_wp2_with fail
        have hT := Three.new w 112 (.int .i64 40) (.int .i64 512) (.int .i64 8)
        have hbW := (Below.refl w.heap.size w).alloc (Nat.le_refl _) (.cells #[.int .i64 40, .int .i64 512, .int .i64 8] 112)
        have p0 := hT.cell0
        have p2 := hT.cell2
        clear hT
        generalize (w.alloc (.cells #[.int .i64 40, .int .i64 512, .int .i64 8] 112)) = W at *
        generalize n - 40 = m at hm hm2 hv hN hce hle2
        generalize (m + 8 - 1) / 8 = q at hv hN hce
        have HV := Lib.hid hv
        have HN := Lib.hid hN
        clear hv hN
        go_quiet ((go_at_call 71; exact Calls.quiet_of_same (hce _)))
        go_wp2_with fail
        go_ret
        exact ⟨ret_int (by rw [HN.out]; first | exact HV.out | (rw [wrap64_i64, wrap64_i64]; exact HV.out)), below_drewN hbW nq⟩
      · go_wp2_with fail
        go_round
        case rel => exact ⟨1, by decide, rfl, by unfold rgLow; simp; omega⟩
        case measure => simp [intOf]
    · have hlo : 513 ≤ n := by simp [rgLow] at hlow; omega
      clear hlow
      by_cases hle : n ≤ 1024
      · have hm := max_sub (n := n) (f := 528) (m := n - 528) (by omega) (by decide) rfl
        have hm2 := max_sub2 (n := n) (f := 528) (m := n - 528) rfl
        have hv := size_val (f := 528) (q := (n - 528 + 16 - 1) / 16) (s := 16) (by omega) (by decide) (by decide)
        have hN : nextN n = 528 + (n - 528 + 16 - 1) / 16 * 16 := by
          unfold nextN
          rw [if_neg (by omega), if_pos (by omega)]
          rfl
        have hce := fun (u : World) => ceil_any (a := n - 528) (b := 16) (w := u) (by decide) (by omega) (by decide)
        simp only [Int.cast_ofNat_Int] at hce hm hm2 hv
        have hle2 : n - 528 ≤ 6144 := by omega
        go_wp2_with fail
        have hT := Three.new w 112 (.int .i64 528) (.int .i64 1024) (.int .i64 16)
        have hbW := (Below.refl w.heap.size w).alloc (Nat.le_refl _) (.cells #[.int .i64 528, .int .i64 1024, .int .i64 16] 112)
        have p0 := hT.cell0
        have p2 := hT.cell2
        clear hT
        generalize (w.alloc (.cells #[.int .i64 528, .int .i64 1024, .int .i64 16] 112)) = W at *
        generalize n - 528 = m at hm hm2 hv hN hce hle2
        generalize (m + 16 - 1) / 16 = q at hv hN hce
        have HV := Lib.hid hv
        have HN := Lib.hid hN
        clear hv hN
        go_quiet ((go_at_call 71; exact Calls.quiet_of_same (hce _)))
        go_wp2_with fail
        go_ret
        exact ⟨ret_int (by rw [HN.out]; first | exact HV.out | (rw [wrap64_i64, wrap64_i64]; exact HV.out)), below_drewN hbW nq⟩
      · go_wp2_with fail
        go_round
        case rel => exact ⟨2, by decide, rfl, by unfold rgLow; simp; omega⟩
        case measure => simp [intOf]
    · have hlo : 1025 ≤ n := by simp [rgLow] at hlow; omega
      clear hlow
      by_cases hle : n ≤ 2048
      · have hm := max_sub (n := n) (f := 1056) (m := n - 1056) (by omega) (by decide) rfl
        have hm2 := max_sub2 (n := n) (f := 1056) (m := n - 1056) rfl
        have hv := size_val (f := 1056) (q := (n - 1056 + 32 - 1) / 32) (s := 32) (by omega) (by decide) (by decide)
        have hN : nextN n = 1056 + (n - 1056 + 32 - 1) / 32 * 32 := by
          unfold nextN
          rw [if_neg (by omega), if_neg (by omega), if_pos (by omega)]
          rfl
        have hce := fun (u : World) => ceil_any (a := n - 1056) (b := 32) (w := u) (by decide) (by omega) (by decide)
        simp only [Int.cast_ofNat_Int] at hce hm hm2 hv
        have hle2 : n - 1056 ≤ 6144 := by omega
        go_wp2_with fail
        have hT := Three.new w 112 (.int .i64 1056) (.int .i64 2048) (.int .i64 32)
        have hbW := (Below.refl w.heap.size w).alloc (Nat.le_refl _) (.cells #[.int .i64 1056, .int .i64 2048, .int .i64 32] 112)
        have p0 := hT.cell0
        have p2 := hT.cell2
        clear hT
        generalize (w.alloc (.cells #[.int .i64 1056, .int .i64 2048, .int .i64 32] 112)) = W at *
        generalize n - 1056 = m at hm hm2 hv hN hce hle2
        generalize (m + 32 - 1) / 32 = q at hv hN hce
        have HV := Lib.hid hv
        have HN := Lib.hid hN
        clear hv hN
        go_quiet ((go_at_call 71; exact Calls.quiet_of_same (hce _)))
        go_wp2_with fail
        go_ret
        exact ⟨ret_int (by rw [HN.out]; first | exact HV.out | (rw [wrap64_i64, wrap64_i64]; exact HV.out)), below_drewN hbW nq⟩
      · go_wp2_with fail
        go_round
        case rel => exact ⟨3, by decide, rfl, by unfold rgLow; simp; omega⟩
        case measure => simp [intOf]
    · have hlo : 2049 ≤ n := by simp [rgLow] at hlow; omega
      clear hlow
      by_cases hle : n ≤ 6144
      · have hm := max_sub (n := n) (f := 2112) (m := n - 2112) (by omega) (by decide) rfl
        have hm2 := max_sub2 (n := n) (f := 2112) (m := n - 2112) rfl
        have hv := size_val (f := 2112) (q := (n - 2112 + 64 - 1) / 64) (s := 64) (by omega) (by decide) (by decide)
        have hN : nextN n = 2112 + (n - 2112 + 64 - 1) / 64 * 64 := by
          unfold nextN
          rw [if_neg (by omega), if_neg (by omega), if_neg (by omega)]
          rfl
        have hce := fun (u : World) => ceil_any (a := n - 2112) (b := 64) (w := u) (by decide) (by omega) (by decide)
        simp only [Int.cast_ofNat_Int] at hce hm hm2 hv
        have hle2 : n - 2112 ≤ 6144 := by omega
        go_wp2_with fail
        have hT := Three.new w 112 (.int .i64 2112) (.int .i64 6144) (.int .i64 64)
        have hbW := (Below.refl w.heap.size w).alloc (Nat.le_refl _) (.cells #[.int .i64 2112, .int .i64 6144, .int .i64 64] 112)
        have p0 := hT.cell0
        have p2 := hT.cell2
        clear hT
        generalize (w.alloc (.cells #[.int .i64 2112, .int .i64 6144, .int .i64 64] 112)) = W at *
        generalize n - 2112 = m at hm hm2 hv hN hce hle2
        generalize (m + 64 - 1) / 64 = q at hv hN hce
        have HV := Lib.hid hv
        have HN := Lib.hid hN
        clear hv hN
        go_quiet ((go_at_call 71; exact Calls.quiet_of_same (hce _)))
        go_wp2_with fail
        go_ret
        exact ⟨ret_int (by rw [HN.out]; first | exact HV.out | (rw [wrap64_i64, wrap64_i64]; exact HV.out)), below_drewN hbW nq⟩
      · go_wp2_with fail
        omega
end

/-! ### Next, Valid. -/
section
open Go.RowKit

def nextQ (n : Int) : Int × Int := if n < 0 ∨ 6144 < n then (0, 2) else ((nextN n.toNat : Nat), 0)
/-- The way out of Next without a panic. -/
theorem next_door {tmps : Array Value} {W : World} {B : Nat} {v res : Value} {R : Ending → World → Prop} (h2 : tmps.getD 2 undef = res) (h3 : tmps.getD 3 undef = .pointer (some ⟨B, 0, none⟩)) (hb : Boxed W B 24 v)
    (hR : R (.returned (.tuple #[res, .int .i64 0])) (W.setCell ⟨B, 0, none⟩ (.int .i64 0))) :
    Leaves Tryd.prog Tryd.f46 tmps R [{ target := .fn (.func 59) #[.pointer (some ⟨B, 0, none⟩)], args := #[] }] .returning W := by
  refine leaves_cons (f := 59) (args := #[.pointer (some ⟨B, 0, none⟩)]) (by simp) (by simp [go_sem]) ?_
  refine (next_calm ⟨B, 0, none⟩ W hb.cell hb.frozen).mono ?_
  rintro e u' w' ⟨rfl, rfl, rfl⟩
  have hc := (hb.set (.int .i64 0)).cell
  simp only [Array.getD_eq_getD_getElem?] at h2 h3
  simpa [Leaves, settle, results, Tryd.results46, go_sem, h2, h3, hc] using hR
/-- The way out of Next behind require's panic. -/
theorem next_door_no {tmps : Array Value} {W : World} {B : Nat} {v res : Value} {k : Int} {R : Ending → World → Prop} (h2 : tmps.getD 2 undef = res) (h3 : tmps.getD 3 undef = .pointer (some ⟨B, 0, none⟩)) (hb : Boxed W B 24 v)
    (hR : R (.returned (.tuple #[res, .int .i64 k])) (W.setCell ⟨B, 0, none⟩ (.int .i64 k))) :
    Leaves Tryd.prog Tryd.f46 tmps R [{ target := .fn (.func 59) #[.pointer (some ⟨B, 0, none⟩)], args := #[] }] (.panicking [{ v := failV k, recovered := false }]) W := by
  refine leaves_cons (f := 59) (args := #[.pointer (some ⟨B, 0, none⟩)]) (by simp) (by simp [go_sem]) ?_
  refine (next_caught k ⟨B, 0, none⟩ W hb.cell hb.frozen).mono ?_
  rintro e u' w' ⟨rfl, rfl, rfl⟩
  have hc := (hb.set (.int .i64 k)).cell
  simp only [Array.getD_eq_getD_getElem?] at h2 h3
  simpa [Leaves, settle, results, Tryd.results46, go_sem, h2, h3, hc] using hR
theorem Boxed.below {w w' : World} {B N : Nat} {t : TypeId} {v : Value} (h : Boxed w B t v) (hb : Below N w w') (hB : B < N) : Boxed w' B t v := (hb.block B hB).trans h
set_option maxRecDepth 100000 in
set_option maxHeartbeats 1000000 in
theorem Next_ok {n : Nat} {w : World} (hK : Kinds w) (h : n ≤ 6144) :
    Calls Tryd.prog 46 #[.int .i64 n] w fun e w' => e = .returned (.tuple #[.int .i64 (nextN n : Nat), .int .i64 0]) ∧ Below w.heap.size w w' := by
  have hmf := makeFunc_run
  have hn := Lib.hid (fun (u : World) (hb : Below w.heap.size w u) => next_any (n := n) (hK.step hb) h)
  have hb0 := (Below.refl w.heap.size w).alloc (Nat.le_refl _) (.cells #[.int .i64 0] 24)
  have bE := Boxed.new w 24 (.int .i64 0)
  have d1 : decide ((0 : Int) ≤ (n : Int)) = true := by simp
  have d2 : decide ((n : Int) ≤ 6144) = true := by simp; omega
  go_enter_defers Tryd.func46, Tryd.ntmps46
  go_wp2_with (go_at_call 61; refine require_ok.mono ?_; rintro e w1 ⟨rfl, rfl⟩)
  refine (hn.out _ hb0).mono ?_
  rintro e w1 ⟨rfl, hb1⟩
  rw [World.size_alloc] at hb1
  replace bE := Boxed.below bE hb1 (Nat.lt_succ_self _)
  have c0 := bE.cell
  have f0 := bE.frozen
  have hb2 := hb0.trans (hb1.mono (Nat.le_succ _))
  go_wp2_with fail
  exact next_door rfl rfl (bE.set _) ⟨rfl, (hb2.setCell (Nat.le_refl _) _).setCell (Nat.le_refl _) _⟩
set_option maxRecDepth 100000 in
set_option maxHeartbeats 1000000 in
theorem Next_no {n : Int} {w : World} (h : n < 0 ∨ 6144 < n) :
    Calls Tryd.prog 46 #[.int .i64 n] w fun e w' => e = .returned (.tuple #[.int .i64 0, .int .i64 2]) ∧ Below w.heap.size w w' := by
  have hmf := makeFunc_run
  have hb0 := (Below.refl w.heap.size w).alloc (Nat.le_refl _) (.cells #[.int .i64 0] 24)
  have bE := Boxed.new w 24 (.int .i64 0)
  rcases h with h | h
  · have d1 : decide ((0 : Int) ≤ n) = false := by simp; omega
    go_enter_defers Tryd.func46, Tryd.ntmps46
    go_wp2_with (go_at_call 61; refine require_no.mono ?_; rintro e w1 ⟨rfl, rfl⟩)
    exact next_door_no rfl rfl bE ⟨rfl, hb0.setCell (Nat.le_refl _) _⟩
  · have d1 : decide ((0 : Int) ≤ n) = true := by simp; omega
    have d2 : decide (n ≤ 6144) = false := by simp; omega
    go_enter_defers Tryd.func46, Tryd.ntmps46
    go_wp2_with (go_at_call 61; refine require_no.mono ?_; rintro e w1 ⟨rfl, rfl⟩)
    exact next_door_no rfl rfl bE ⟨rfl, hb0.setCell (Nat.le_refl _) _⟩
theorem Next_any {n : Int} {w : World} (hK : Kinds w) :
    Calls Tryd.prog 46 #[.int .i64 n] w fun e w' => e = .returned (.tuple #[.int .i64 (nextQ n).1, .int .i64 (nextQ n).2]) ∧ Below w.heap.size w w' := by
  unfold nextQ
  split
  · rename_i h; exact Next_no h
  · rename_i h
    obtain ⟨m, rfl⟩ : ∃ m : Nat, n = m := ⟨n.toNat, by omega⟩
    exact Next_ok hK (by omega)
def validS (n : Int) : Bool := decide ((nextQ n).2 = 0) && decide ((nextQ n).1 = n)
theorem Valid_any {n : Int} {w : World} (hK : Kinds w) :
    Calls Tryd.prog 32 #[.int .i64 n] w fun e w' => e = .returned (.bool (validS n)) ∧ Below w.heap.size w w' := by
  have hN := Lib.hid (Next_any (n := n) hK)
  unfold validS
  obtain ⟨⟨a, b⟩, hab⟩ : ∃ p, nextQ n = p := ⟨_, rfl⟩
  rw [hab] at hN ⊢
  simp only at hN ⊢
  clear hab hK
  by_cases hb : b = 0
  · have d1 : (b == 0) = true := by simp [hb]
    by_cases ha : a = n
    · have d2 : (a == n) = true := by simp [ha]
      rw [decide_eq_true hb, decide_eq_true ha]
      clear hb ha
      go_enter Tryd.func32, Tryd.ntmps32
      go_wp2_with (go_at_call 46; refine hN.out.mono ?_; rintro e w1 ⟨rfl, hb1⟩)
      go_ret
      exact ⟨rfl, hb1⟩
    · have d2 : (a == n) = false := by simp [ha]
      rw [decide_eq_true hb, decide_eq_false ha]
      clear hb ha
      go_enter Tryd.func32, Tryd.ntmps32
      go_wp2_with (go_at_call 46; refine hN.out.mono ?_; rintro e w1 ⟨rfl, hb1⟩)
      go_ret
      exact ⟨rfl, hb1⟩
  · have d1 : (b == 0) = false := by simp [hb]
    rw [decide_eq_false hb]
    clear hb
    go_enter Tryd.func32, Tryd.ntmps32
    go_wp2_with (go_at_call 46; refine hN.out.mono ?_; rintro e w1 ⟨rfl, hb1⟩)
    go_ret
    exact ⟨rfl, hb1⟩
end
end

/-! ### The reference of Valid. -/
section
/-! ### The references of Valid, Next. -/
section
open Go.RowKit

/-- Is an integer a block size? -/
def isB (n : Int) : Bool := decide (0 ≤ n ∧ IsSize n.toNat)
theorem isB_nat (m : Nat) : isB (m : Int) = decide (IsSize m) := by simp [isB]
theorem validS_isB (n : Int) : validS n = isB n := by
  unfold validS nextQ isB
  by_cases h : n < 0 ∨ 6144 < n
  · rw [if_pos h]
    have hno : ¬ (0 ≤ n ∧ IsSize n.toNat) := fun ⟨h1, h2⟩ => by
      unfold IsSize at h2
      omega
    simp [hno]
  · rw [if_neg h]
    obtain ⟨m, rfl⟩ : ∃ m : Nat, n = m := ⟨n.toNat, by omega⟩
    have := nextN_self (n := m) (by omega)
    simp only [Int.toNat_natCast, Int.natCast_nonneg, true_and, decide_true, Bool.true_and]
    rw [decide_eq_decide, ← this]
    exact Int.natCast_inj
theorem isB_out {n : Int} (h : n < 40 ∨ 6144 < n) : isB n = false := by
  unfold isB IsSize
  rw [decide_eq_false_iff_not]
  omega
set_option maxHeartbeats 1000000 in
theorem refValid_mid {m : Nat} {w : World} (h1 : 40 ≤ m) (h2 : m ≤ 6144) :
    Calls Tryd.prog 57 #[.int .i64 (m : Int)] w fun e w' => e = .returned (.bool (decide (IsSize m))) ∧ w' = w := by
  go_enter Tryd.func57, Tryd.ntmps57
  go_wp2_with fail
  all_goals (go_ret; exact ⟨ret_bool (by rw [Bool.eq_iff_iff, decide_eq_true_iff]; unfold IsSize; simp only [beq_iff_eq, Bool.false_eq_true, false_iff, true_iff]; omega), rfl⟩)
set_option maxHeartbeats 1000000 in
theorem refValid_any {n : Int} {w : World} :
    Calls Tryd.prog 57 #[.int .i64 n] w fun e w' => e = .returned (.bool (isB n)) ∧ w' = w := by
  by_cases h : n < 40 ∨ 6144 < n
  · have hb := Lib.hid (isB_out h)
    rcases h with h | h
    · go_enter Tryd.func57, Tryd.ntmps57
      go_wp2_with fail
      all_goals first | (exfalso; omega) | (go_ret; exact ⟨ret_bool hb.out.symm, rfl⟩)
    · go_enter Tryd.func57, Tryd.ntmps57
      go_wp2_with fail
      all_goals first | (exfalso; omega) | (go_ret; exact ⟨ret_bool hb.out.symm, rfl⟩)
  · obtain ⟨m, rfl⟩ : ∃ m : Nat, n = m := ⟨n.toNat, by omega⟩
    rw [isB_nat]
    exact refValid_mid (by omega) (by omega)
end
end

/-! ### The law's same (of integers) and num. -/
section
open Go.RowKit

theorem drewN_two' (w : World) (i j : Nat) : (w.drewN i).drewN j = w.drewN (i + j) := World.drewN_drewN _ _ _
set_option maxHeartbeats 1000000 in
/-- The law's same, of integers. -/
theorem sameQ_any {A A' : Option Addr} {n c n' c' B B' : Nat} {xs ys : List Int} {w : World} (h : Rd .i64 w B A n xs) (h' : Rd .i64 w B' A' n' ys) (hn : n ≤ 140737488351232) (hn' : n' ≤ 140737488351232) :
    Calls Tryd.prog 23 #[.slice A n c, .slice A' n' c'] w fun e w' => e = .returned (.bool (decide (xs = ys))) ∧ ∃ i, w' = w.drewN i := by
  have hl := Lib.hid h.len
  have hl' := Lib.hid h'.len
  by_cases hnn : n = n'
  · subst hnn
    go_enter Tryd.func23, Tryd.ntmps23
    go_wp2_with fail
    go_loopw [5] (fun i wr => ∃ k j : Nat, k ≤ n ∧ i = .int .i64 k ∧ (xs.take k = ys.take k) ∧ wr = w.drewN j) (fun i _ => n - (intOf i).toNat)
    case atStart => exact ⟨0, 0, Nat.zero_le _, rfl, rfl, rfl⟩
    case round =>
      obtain ⟨k, j, hk, rfl, hv, rfl⟩ := hrel
      have hV := Lib.hid hv; clear hv
      by_cases hlt : k < n
      · obtain ⟨b, off, rfl, hb1, hc⟩ := h.cells k hlt
        obtain ⟨b', off', rfl, hb1', hc'⟩ := h'.cells k hlt
        have hT1 := Lib.hid (take_snoc xs k (by rw [hl.out]; exact hlt) 0)
        have hT2 := Lib.hid (take_snoc ys k (by rw [hl'.out]; exact hlt) 0)
        have hE := Lib.hid (fun e : xs = ys => show xs[k]?.getD 0 = ys[k]?.getD 0 by rw [e])
        generalize xs[k]?.getD 0 = x at *
        generalize ys[k]?.getD 0 = y at *
        have hc2 : World.cell? (w.drewN j) ⟨b, off + k, none⟩ = some (.int .i64 x) := hc
        have hc2' : World.cell? (w.drewN j) ⟨b', off' + k, none⟩ = some (.int .i64 y) := hc'
        have hk0 : (0 : Int) ≤ (k : Int) := by omega
        have hk1 : (k : Int) < (n : Int) := by omega
        clear h h' hb1 hb1'
        by_cases hxy : x = y
        · subst hxy
          go_wp2_with fail
          go_quiet (fail)
          go_wp2_with fail
          go_roundw
          case rel => exact ⟨k + 1, _, by omega, by go_num, by rw [hT1.out, hT2.out, hV.out], by first | rfl | exact drewN_two' _ _ _⟩
          case measure => simp [intOf]; omega
        · have hd : (x != y) = true := by simp [hxy]
          have hE2 : Hid (¬ xs = ys) := Lib.hid (fun e => hxy (hE.out e))
          clear hxy
          go_wp2_with fail
          go_quiet (fail)
          go_wp2_with fail
          go_ret
          exact ⟨ret_bool (by simp [hE2.out]), _, by first | rfl | exact drewN_two' _ _ _⟩
      · obtain rfl : k = n := by omega
        clear hlt h h'
        go_wp2_with fail
        go_ret
        have e1 := hV.out
        rw [List.take_of_length_le (Nat.le_of_eq hl.out), List.take_of_length_le (Nat.le_of_eq hl'.out)] at e1
        exact ⟨ret_bool (by simp [e1]), j, rfl⟩
  · have hd : ((n : Int) != (n' : Int)) = true := by simp; omega
    have hne : Hid (¬ xs = ys) := Lib.hid (fun e : xs = ys => hnn (by rw [← hl.out, ← hl'.out, e]))
    clear hnn h h'
    go_enter Tryd.func23, Tryd.ntmps23
    go_wp2_with fail
    go_ret
    exact ⟨ret_bool (by simp [hne.out]), 0, rfl⟩
theorem numQ_any {k : Int} {w : World} : Calls Tryd.prog 14 #[.int .i64 k] w fun e w' => e = .returned (.int .i64 k) ∧ w' = w := by
  go_enter Tryd.func14, Tryd.ntmps14
  go_wp2_with fail
  go_ret
  exact ⟨rfl, rfl⟩
end
end Go.Proofs.YtbpkoilecdejiaaDoor
