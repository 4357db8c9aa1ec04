/-
  require, raised, ceil, next; the deferred closures. next. Next, Valid.
-/
import Derived.Test.YtfplklbicimhkaaDoorKq
import Derived.Defers
import Derived.Recover
import Derived.WalkLawsBesides
import Derived.Deep.QuietTactic
import Derived.BigQuiet
namespace Go.Proofs.YtfplklbicimhkaaDoor
/-! ### require, raised, ceil, next; the deferred closures. -/
section
open Go.RowKit

/-- What require raises. -/
def failV (e : Int) : Value := .iface 82 (.agg #[.int .i64 e])
theorem require_ok {e : Int} {w : World} :
    Calls Tryd.prog 55 #[.bool true, .int .i64 e] w fun r w' => r = .returned (.tuple #[]) ∧ w' = w := by
  go_enter Tryd.func55, Tryd.ntmps55
  go_wp2
  go_end0
  exact ⟨rfl, rfl⟩
theorem require_no {e : Int} {w : World} :
    Calls Tryd.prog 55 #[.bool false, .int .i64 e] w fun r w' => r = .panicked [{ v := failV e, recovered := false }] ∧ w' = w := by
  go_enter Tryd.func55, Tryd.ntmps55
  go_wp2
  exact ⟨rfl, rfl, rfl⟩
theorem raised_nil {w : World} :
    Calls Tryd.prog 54 #[.nilIface] w fun r w' => r = .returned (.int .i64 0) ∧ w' = w := by
  go_enter Tryd.func54, Tryd.ntmps54
  go_wp2
  go_ret
  exact ⟨rfl, rfl⟩
theorem ceil_any {a b : Nat} {w : World} (hb : 1 ≤ b) (ha : a ≤ 1000000000) (hb2 : b ≤ 1000000000) :
    Calls Tryd.prog 58 #[.int .i64 a, .int .i64 b] w fun r w' => r = .returned (.int .i64 ((a + b - 1) / b : Nat)) ∧ w' = w := by
  have hc : ((a : Int) + b - 1) / b = ((a + b - 1) / b : Nat) := by
    rw [show (a : Int) + b - 1 = ((a + b - 1 : Nat) : Int) by omega]; rfl
  go_enter Tryd.func58, Tryd.ntmps58
  go_wp2
  go_ret
  exact ⟨by show Ending.returned (.int .i64 (((a : Int) + b - 1) / b)) = _; rw [hc], rfl⟩
set_option maxRecDepth 100000 in
theorem raised_some {e : Int} {w : World} :
    Calls Tryd.prog 54 #[failV e] w fun r w' => r = .returned (.int .i64 e) ∧ w' = w := by
  unfold failV
  have hta : ∀ (w : World), (Instr.typeAssert (.iface 82 (.agg #[.int .i64 e])) 20 82 false).run Tryd.prog w = .ok (.agg #[.int .i64 e]) w := fun _ => by kernel_rfl
  have hfi : ∀ (w : World), (Instr.field 82 (.agg #[.int .i64 e]) 0).run Tryd.prog w = .ok (.int .i64 e) w := fun _ => by
    simp [Instr.field, run_underlying Tryd.underlying82, asAgg, go_sem]
  go_enter Tryd.func54, Tryd.ntmps54
  go_wp2
  go_ret
  exact ⟨rfl, rfl⟩

/-! ### The deferred closures -/
theorem next_caught (e : Int) (p : Addr) (w : World) {v : Value} (hc : w.cell? p = some v) (hf : w.frozen? p = false) :
    CallsD Tryd.prog 53 #[.pointer (some p)] (.panicking [{ v := failV e, recovered := false }]) w fun r u' w' => r = .returned (.tuple #[]) ∧ u' = .panicking [{ v := failV e, recovered := true }] ∧ w' = w.setCell p (.int .i64 e) := by
  refine callsD_of_wpS Tryd.func53 rfl fun c₀ cs hu => ?_
  apply wpS_region
  simp [wpOpsS, go_sem, recoverD, hu, Tryd.ntmps53]
  refine raised_some.mono ?_
  rintro r w2 ⟨rfl, rfl⟩
  simp [go_sem, hc, hf, bodyPostS, results, Tryd.results53]
theorem next_calm (p : Addr) (w : World) {v : Value} (hc : w.cell? p = some v) (hf : w.frozen? p = false) :
    CallsD Tryd.prog 53 #[.pointer (some p)] .returning w fun r u' w' => r = .returned (.tuple #[]) ∧ u' = .returning ∧ w' = w.setCell p (.int .i64 0) := by
  refine callsD_of_wpS Tryd.func53 rfl fun c₀ cs hu => ?_
  apply wpS_region
  simp [wpOpsS, go_sem, recoverD, hu, Tryd.ntmps53]
  refine raised_nil.mono ?_
  rintro r w2 ⟨rfl, rfl⟩
  cases c₀
  simp_all [go_sem, bodyPostS, results, Tryd.results53]
end

/-! ### next. -/
section
open Go.RowKit

structure RgC (w : World) : Prop where
  a0 : w.cell? ⟨0, 0, none⟩ = some (.int .i64 40)
  a1 : w.cell? ⟨0, 1, none⟩ = some (.int .i64 512)
  a2 : w.cell? ⟨0, 2, none⟩ = some (.int .i64 8)
  b0 : w.cell? ⟨0, 3, none⟩ = some (.int .i64 528)
  b1 : w.cell? ⟨0, 4, none⟩ = some (.int .i64 1024)
  b2 : w.cell? ⟨0, 5, none⟩ = some (.int .i64 16)
  c0 : w.cell? ⟨0, 6, none⟩ = some (.int .i64 1056)
  c1 : w.cell? ⟨0, 7, none⟩ = some (.int .i64 2048)
  c2 : w.cell? ⟨0, 8, none⟩ = some (.int .i64 32)
  d0 : w.cell? ⟨0, 9, none⟩ = some (.int .i64 2112)
  d1 : w.cell? ⟨0, 10, none⟩ = some (.int .i64 6144)
  d2 : w.cell? ⟨0, 11, none⟩ = some (.int .i64 64)
theorem Ranges.all {w : World} (h : Ranges w) : RgC w :=
  ⟨h.cells 0 _ rfl, h.cells 1 _ rfl, h.cells 2 _ rfl, h.cells 3 _ rfl, h.cells 4 _ rfl, h.cells 5 _ rfl, h.cells 6 _ rfl, h.cells 7 _ rfl, h.cells 8 _ rfl, h.cells 9 _ rfl, h.cells 10 _ rfl, h.cells 11 _ rfl⟩

/-- A block of three cells. -/
def Three (w : World) (B : Nat) (t : TypeId) (x y z : Value) : Prop := w.heap[B]? = some (.cells #[x, y, z] t)
theorem Three.new (w : World) (t : TypeId) (x y z : Value) : Three (w.alloc (.cells #[x, y, z] t)) w.heap.size t x y z := World.alloc_heap_new w _
theorem Three.cell {w : World} {B : Nat} {t : TypeId} {x y z : Value} (h : Three w B t x y z) (j : Nat) : w.cell? ⟨B, j, none⟩ = #[x, y, z][j]? := by
  unfold Three at h
  simp [World.cell?, h]
theorem Three.cell0 {w : World} {B : Nat} {t : TypeId} {x y z : Value} (h : Three w B t x y z) : w.cell? ⟨B, 0, none⟩ = some x := h.cell 0
theorem Three.cell1 {w : World} {B : Nat} {t : TypeId} {x y z : Value} (h : Three w B t x y z) : w.cell? ⟨B, 1, none⟩ = some y := h.cell 1
theorem Three.cell2 {w : World} {B : Nat} {t : TypeId} {x y z : Value} (h : Three w B t x y z) : w.cell? ⟨B, 2, none⟩ = some z := h.cell 2
def rgLast (j : Nat) : Nat := if j = 0 then 512 else if j = 1 then 1024 else if j = 2 then 2048 else 6144
def rgLow (j : Nat) : Nat := if j = 0 then 0 else if j = 1 then 513 else if j = 2 then 1025 else 2049
theorem wrap_small {x : Int} (h1 : -9223372036854775808 ≤ x) (h2 : x ≤ 9223372036854775807) : IntKind.i64.wrap x = x := by
  simp only [IntKind.wrap_i64]
  omega
theorem max_sub {n f m : Nat} (hn : n ≤ 6144) (hf : f ≤ 6144) (hm : m = n - f) : (if 0 < IntKind.i64.wrap ((n : Int) - (f : Int)) then IntKind.i64.wrap ((n : Int) - (f : Int)) else 0) = (m : Int) := by
  rw [wrap_small (by omega) (by omega)]
  split <;> omega
theorem wrap64_i64 (x : Int) : wrap64 x = IntKind.i64.wrap x := by unfold wrap64; rw [IntKind.wrap_i64]
theorem max_sub2 {n f m : Nat} (hm : m = n - f) : (if (f : Int) < (n : Int) then (n : Int) - (f : Int) else 0) = (m : Int) := by
  split <;> omega
theorem size_val {f q s : Nat} (hq : q ≤ 6144) (hs : s ≤ 64) (hf : f ≤ 6144) : IntKind.i64.wrap ((f : Int) + IntKind.i64.wrap ((q : Int) * (s : Int))) = ((f + q * s : Nat) : Int) := by
  have h1 : q * s ≤ 6144 * 64 := Nat.mul_le_mul hq hs
  have h2 : (q : Int) * (s : Int) = ((q * s : Nat) : Int) := by simp
  rw [h2]
  generalize q * s = z at *
  rw [wrap_small (x := (z : Int)) (by omega) (by omega), wrap_small (by omega) (by omega)]
  omega
set_option maxRecDepth 100000 in
set_option maxHeartbeats 4000000 in
theorem next_any {n : Nat} {w : World} (hK : Kinds w) (h : n ≤ 6144) :
    Calls Tryd.prog 56 #[.int .i64 n] w fun r w' => r = .returned (.int .i64 (nextN n : Nat)) ∧ Below w.heap.size w w' := by
  obtain ⟨a0, a1, a2, b0, b1, b2, c0, c1, c2, d0, d1, d2⟩ := hK.rg.all
  have hlt := hK.lt
  clear hK
  go_enter Tryd.func56, Tryd.ntmps56
  go_wp2_with fail
  go_loop [3] (fun i => ∃ j : Nat, j ≤ 3 ∧ i = .int .i64 j ∧ rgLow j ≤ n) (fun i => 3 - (intOf i).toNat)
  case atStart => exact ⟨0, by decide, rfl, Nat.zero_le _⟩
  case round =>
    obtain ⟨j, hj, rfl, hlow⟩ := hrel
    have hj4 : j = 0 ∨ j = 1 ∨ j = 2 ∨ j = 3 := by omega
    rcases hj4 with rfl | rfl | rfl | rfl
    · have hlo : 0 ≤ n := by simp [rgLow] at hlow; omega
      clear hlow
      by_cases hle : n ≤ 512
      · have hm := max_sub (n := n) (f := 40) (m := n - 40) (by omega) (by decide) rfl
        have hm2 := max_sub2 (n := n) (f := 40) (m := n - 40) rfl
        have hv := size_val (f := 40) (q := (n - 40 + 8 - 1) / 8) (s := 8) (by omega) (by decide) (by decide)
        have hN : nextN n = 40 + (n - 40 + 8 - 1) / 8 * 8 := by
          unfold nextN
          rw [if_pos (by omega)]
          rfl
        have hce := fun (u : World) => ceil_any (a := n - 40) (b := 8) (w := u) (by decide) (by omega) (by decide)
        simp only [Int.cast_ofNat_Int] at hce hm hm2 hv
        have hle2 : n - 40 ≤ 6144 := by omega
        go_wp2_with fail
        have hT := Three.new w 83 (.int .i64 40) (.int .i64 512) (.int .i64 8)
        have hbW := (Below.refl w.heap.size w).alloc (Nat.le_refl _) (.cells #[.int .i64 40, .int .i64 512, .int .i64 8] 83)
        have p0 := hT.cell0
        have p2 := hT.cell2
        clear hT
        generalize (w.alloc (.cells #[.int .i64 40, .int .i64 512, .int .i64 8] 83)) = W at *
        generalize n - 40 = m at hm hm2 hv hN hce hle2
        generalize (m + 8 - 1) / 8 = q at hv hN hce
        have HV := Lib.hid hv
        have HN := Lib.hid hN
        clear hv hN
        go_quiet ((go_at_call 58; exact Calls.quiet_of_same (hce _)))
        go_wp2_with fail
        go_ret
        exact ⟨ret_int (by rw [HN.out]; first | exact HV.out | (rw [wrap64_i64, wrap64_i64]; exact HV.out)), below_drewN hbW nq⟩
      · go_wp2_with fail
        go_round
        case rel => exact ⟨1, by decide, rfl, by unfold rgLow; simp; omega⟩
        case measure => simp [intOf]
    · have hlo : 513 ≤ n := by simp [rgLow] at hlow; omega
      clear hlow
      by_cases hle : n ≤ 1024
      · have hm := max_sub (n := n) (f := 528) (m := n - 528) (by omega) (by decide) rfl
        have hm2 := max_sub2 (n := n) (f := 528) (m := n - 528) rfl
        have hv := size_val (f := 528) (q := (n - 528 + 16 - 1) / 16) (s := 16) (by omega) (by decide) (by decide)
        have hN : nextN n = 528 + (n - 528 + 16 - 1) / 16 * 16 := by
          unfold nextN
          rw [if_neg (by omega), if_pos (by omega)]
          rfl
        have hce := fun (u : World) => ceil_any (a := n - 528) (b := 16) (w := u) (by decide) (by omega) (by decide)
        simp only [Int.cast_ofNat_Int] at hce hm hm2 hv
        have hle2 : n - 528 ≤ 6144 := by omega
        go_wp2_with fail
        have hT := Three.new w 83 (.int .i64 528) (.int .i64 1024) (.int .i64 16)
        have hbW := (Below.refl w.heap.size w).alloc (Nat.le_refl _) (.cells #[.int .i64 528, .int .i64 1024, .int .i64 16] 83)
        have p0 := hT.cell0
        have p2 := hT.cell2
        clear hT
        generalize (w.alloc (.cells #[.int .i64 528, .int .i64 1024, .int .i64 16] 83)) = W at *
        generalize n - 528 = m at hm hm2 hv hN hce hle2
        generalize (m + 16 - 1) / 16 = q at hv hN hce
        have HV := Lib.hid hv
        have HN := Lib.hid hN
        clear hv hN
        go_quiet ((go_at_call 58; exact Calls.quiet_of_same (hce _)))
        go_wp2_with fail
        go_ret
        exact ⟨ret_int (by rw [HN.out]; first | exact HV.out | (rw [wrap64_i64, wrap64_i64]; exact HV.out)), below_drewN hbW nq⟩
      · go_wp2_with fail
        go_round
        case rel => exact ⟨2, by decide, rfl, by unfold rgLow; simp; omega⟩
        case measure => simp [intOf]
    · have hlo : 1025 ≤ n := by simp [rgLow] at hlow; omega
      clear hlow
      by_cases hle : n ≤ 2048
      · have hm := max_sub (n := n) (f := 1056) (m := n - 1056) (by omega) (by decide) rfl
        have hm2 := max_sub2 (n := n) (f := 1056) (m := n - 1056) rfl
        have hv := size_val (f := 1056) (q := (n - 1056 + 32 - 1) / 32) (s := 32) (by omega) (by decide) (by decide)
        have hN : nextN n = 1056 + (n - 1056 + 32 - 1) / 32 * 32 := by
          unfold nextN
          rw [if_neg (by omega), if_neg (by omega), if_pos (by omega)]
          rfl
        have hce := fun (u : World) => ceil_any (a := n - 1056) (b := 32) (w := u) (by decide) (by omega) (by decide)
        simp only [Int.cast_ofNat_Int] at hce hm hm2 hv
        have hle2 : n - 1056 ≤ 6144 := by omega
        go_wp2_with fail
        have hT := Three.new w 83 (.int .i64 1056) (.int .i64 2048) (.int .i64 32)
        have hbW := (Below.refl w.heap.size w).alloc (Nat.le_refl _) (.cells #[.int .i64 1056, .int .i64 2048, .int .i64 32] 83)
        have p0 := hT.cell0
        have p2 := hT.cell2
        clear hT
        generalize (w.alloc (.cells #[.int .i64 1056, .int .i64 2048, .int .i64 32] 83)) = W at *
        generalize n - 1056 = m at hm hm2 hv hN hce hle2
        generalize (m + 32 - 1) / 32 = q at hv hN hce
        have HV := Lib.hid hv
        have HN := Lib.hid hN
        clear hv hN
        go_quiet ((go_at_call 58; exact Calls.quiet_of_same (hce _)))
        go_wp2_with fail
        go_ret
        exact ⟨ret_int (by rw [HN.out]; first | exact HV.out | (rw [wrap64_i64, wrap64_i64]; exact HV.out)), below_drewN hbW nq⟩
      · go_wp2_with fail
        go_round
        case rel => exact ⟨3, by decide, rfl, by unfold rgLow; simp; omega⟩
        case measure => simp [intOf]
    · have hlo : 2049 ≤ n := by simp [rgLow] at hlow; omega
      clear hlow
      by_cases hle : n ≤ 6144
      · have hm := max_sub (n := n) (f := 2112) (m := n - 2112) (by omega) (by decide) rfl
        have hm2 := max_sub2 (n := n) (f := 2112) (m := n - 2112) rfl
        have hv := size_val (f := 2112) (q := (n - 2112 + 64 - 1) / 64) (s := 64) (by omega) (by decide) (by decide)
        have hN : nextN n = 2112 + (n - 2112 + 64 - 1) / 64 * 64 := by
          unfold nextN
          rw [if_neg (by omega), if_neg (by omega), if_neg (by omega)]
          rfl
        have hce := fun (u : World) => ceil_any (a := n - 2112) (b := 64) (w := u) (by decide) (by omega) (by decide)
        simp only [Int.cast_ofNat_Int] at hce hm hm2 hv
        have hle2 : n - 2112 ≤ 6144 := by omega
        go_wp2_with fail
        have hT := Three.new w 83 (.int .i64 2112) (.int .i64 6144) (.int .i64 64)
        have hbW := (Below.refl w.heap.size w).alloc (Nat.le_refl _) (.cells #[.int .i64 2112, .int .i64 6144, .int .i64 64] 83)
        have p0 := hT.cell0
        have p2 := hT.cell2
        clear hT
        generalize (w.alloc (.cells #[.int .i64 2112, .int .i64 6144, .int .i64 64] 83)) = W at *
        generalize n - 2112 = m at hm hm2 hv hN hce hle2
        generalize (m + 64 - 1) / 64 = q at hv hN hce
        have HV := Lib.hid hv
        have HN := Lib.hid hN
        clear hv hN
        go_quiet ((go_at_call 58; exact Calls.quiet_of_same (hce _)))
        go_wp2_with fail
        go_ret
        exact ⟨ret_int (by rw [HN.out]; first | exact HV.out | (rw [wrap64_i64, wrap64_i64]; exact HV.out)), below_drewN hbW nq⟩
      · go_wp2_with fail
        omega
end

/-! ### Next, Valid. -/
section
open Go.RowKit

def nextS (n : Int) : Int × Int := if n < 0 ∨ 6144 < n then (0, 2) else ((nextN n.toNat : Nat), 0)
theorem makeFunc_run (fn : Fn) (first cap : Array Value) (w : World) : (Instr.makeFunc fn first cap).run Tryd.prog w = .ok (.func fn first cap) w := rfl
/-- The way out of Next without a panic. -/
theorem next_door {tmps : Array Value} {W : World} {B : Nat} {v res : Value} {R : Ending → World → Prop} (h2 : tmps.getD 2 undef = res) (h3 : tmps.getD 3 undef = .pointer (some ⟨B, 0, none⟩)) (hb : Boxed W B 22 v)
    (hR : R (.returned (.tuple #[res, .int .i64 0])) (W.setCell ⟨B, 0, none⟩ (.int .i64 0))) :
    Leaves Tryd.prog Tryd.f48 tmps R [{ target := .fn (.func 53) #[.pointer (some ⟨B, 0, none⟩)], args := #[] }] .returning W := by
  refine leaves_cons (f := 53) (args := #[.pointer (some ⟨B, 0, none⟩)]) (by simp) (by simp [go_sem]) ?_
  refine (next_calm ⟨B, 0, none⟩ W hb.cell hb.frozen).mono ?_
  rintro e u' w' ⟨rfl, rfl, rfl⟩
  have hc := (hb.set (.int .i64 0)).cell
  simp only [Array.getD_eq_getD_getElem?] at h2 h3
  simpa [Leaves, settle, results, Tryd.results48, go_sem, h2, h3, hc] using hR
/-- The way out of Next behind require's panic. -/
theorem next_door_no {tmps : Array Value} {W : World} {B : Nat} {v res : Value} {k : Int} {R : Ending → World → Prop} (h2 : tmps.getD 2 undef = res) (h3 : tmps.getD 3 undef = .pointer (some ⟨B, 0, none⟩)) (hb : Boxed W B 22 v)
    (hR : R (.returned (.tuple #[res, .int .i64 k])) (W.setCell ⟨B, 0, none⟩ (.int .i64 k))) :
    Leaves Tryd.prog Tryd.f48 tmps R [{ target := .fn (.func 53) #[.pointer (some ⟨B, 0, none⟩)], args := #[] }] (.panicking [{ v := failV k, recovered := false }]) W := by
  refine leaves_cons (f := 53) (args := #[.pointer (some ⟨B, 0, none⟩)]) (by simp) (by simp [go_sem]) ?_
  refine (next_caught k ⟨B, 0, none⟩ W hb.cell hb.frozen).mono ?_
  rintro e u' w' ⟨rfl, rfl, rfl⟩
  have hc := (hb.set (.int .i64 k)).cell
  simp only [Array.getD_eq_getD_getElem?] at h2 h3
  simpa [Leaves, settle, results, Tryd.results48, go_sem, h2, h3, hc] using hR
theorem Boxed.below {w w' : World} {B N : Nat} {t : TypeId} {v : Value} (h : Boxed w B t v) (hb : Below N w w') (hB : B < N) : Boxed w' B t v := (hb.block B hB).trans h
set_option maxRecDepth 100000 in
set_option maxHeartbeats 1000000 in
theorem Next_ok {n : Nat} {w : World} (hK : Kinds w) (h : n ≤ 6144) :
    Calls Tryd.prog 48 #[.int .i64 n] w fun e w' => e = .returned (.tuple #[.int .i64 (nextN n : Nat), .int .i64 0]) ∧ Below w.heap.size w w' := by
  have hmf := makeFunc_run
  have hn := Lib.hid (fun (u : World) (hb : Below w.heap.size w u) => next_any (n := n) (hK.step hb) h)
  have hb0 := (Below.refl w.heap.size w).alloc (Nat.le_refl _) (.cells #[.int .i64 0] 22)
  have bE := Boxed.new w 22 (.int .i64 0)
  have d1 : decide ((0 : Int) ≤ (n : Int)) = true := by simp
  have d2 : decide ((n : Int) ≤ 6144) = true := by simp; omega
  go_enter_defers Tryd.func48, Tryd.ntmps48
  go_wp2_with (go_at_call 55; refine require_ok.mono ?_; rintro e w1 ⟨rfl, rfl⟩)
  refine (hn.out _ hb0).mono ?_
  rintro e w1 ⟨rfl, hb1⟩
  rw [World.size_alloc] at hb1
  replace bE := Boxed.below bE hb1 (Nat.lt_succ_self _)
  have c0 := bE.cell
  have f0 := bE.frozen
  have hb2 := hb0.trans (hb1.mono (Nat.le_succ _))
  go_wp2_with fail
  exact next_door rfl rfl (bE.set _) ⟨rfl, (hb2.setCell (Nat.le_refl _) _).setCell (Nat.le_refl _) _⟩
set_option maxRecDepth 100000 in
set_option maxHeartbeats 1000000 in
theorem Next_no {n : Int} {w : World} (h : n < 0 ∨ 6144 < n) :
    Calls Tryd.prog 48 #[.int .i64 n] w fun e w' => e = .returned (.tuple #[.int .i64 0, .int .i64 2]) ∧ Below w.heap.size w w' := by
  have hmf := makeFunc_run
  have hb0 := (Below.refl w.heap.size w).alloc (Nat.le_refl _) (.cells #[.int .i64 0] 22)
  have bE := Boxed.new w 22 (.int .i64 0)
  rcases h with h | h
  · have d1 : decide ((0 : Int) ≤ n) = false := by simp; omega
    go_enter_defers Tryd.func48, Tryd.ntmps48
    go_wp2_with (go_at_call 55; refine require_no.mono ?_; rintro e w1 ⟨rfl, rfl⟩)
    exact next_door_no rfl rfl bE ⟨rfl, hb0.setCell (Nat.le_refl _) _⟩
  · have d1 : decide ((0 : Int) ≤ n) = true := by simp; omega
    have d2 : decide (n ≤ 6144) = false := by simp; omega
    go_enter_defers Tryd.func48, Tryd.ntmps48
    go_wp2_with (go_at_call 55; refine require_no.mono ?_; rintro e w1 ⟨rfl, rfl⟩)
    exact next_door_no rfl rfl bE ⟨rfl, hb0.setCell (Nat.le_refl _) _⟩
theorem Next_any {n : Int} {w : World} (hK : Kinds w) :
    Calls Tryd.prog 48 #[.int .i64 n] w fun e w' => e = .returned (.tuple #[.int .i64 (nextS n).1, .int .i64 (nextS n).2]) ∧ Below w.heap.size w w' := by
  unfold nextS
  split
  · rename_i h; exact Next_no h
  · rename_i h
    obtain ⟨m, rfl⟩ : ∃ m : Nat, n = m := ⟨n.toNat, by omega⟩
    exact Next_ok hK (by omega)
def validS (n : Int) : Bool := decide ((nextS n).2 = 0) && decide ((nextS n).1 = n)
theorem Valid_any {n : Int} {w : World} (hK : Kinds w) :
    Calls Tryd.prog 44 #[.int .i64 n] w fun e w' => e = .returned (.bool (validS n)) ∧ Below w.heap.size w w' := by
  have hN := Lib.hid (Next_any (n := n) hK)
  unfold validS
  obtain ⟨⟨a, b⟩, hab⟩ : ∃ p, nextS n = p := ⟨_, rfl⟩
  rw [hab] at hN ⊢
  simp only at hN ⊢
  clear hab hK
  by_cases hb : b = 0
  · have d1 : (b == 0) = true := by simp [hb]
    by_cases ha : a = n
    · have d2 : (a == n) = true := by simp [ha]
      rw [decide_eq_true hb, decide_eq_true ha]
      clear hb ha
      go_enter Tryd.func44, Tryd.ntmps44
      go_wp2_with (go_at_call 48; refine hN.out.mono ?_; rintro e w1 ⟨rfl, hb1⟩)
      go_ret
      exact ⟨rfl, hb1⟩
    · have d2 : (a == n) = false := by simp [ha]
      rw [decide_eq_true hb, decide_eq_false ha]
      clear hb ha
      go_enter Tryd.func44, Tryd.ntmps44
      go_wp2_with (go_at_call 48; refine hN.out.mono ?_; rintro e w1 ⟨rfl, hb1⟩)
      go_ret
      exact ⟨rfl, hb1⟩
  · have d1 : (b == 0) = false := by simp [hb]
    rw [decide_eq_false hb]
    clear hb
    go_enter Tryd.func44, Tryd.ntmps44
    go_wp2_with (go_at_call 48; refine hN.out.mono ?_; rintro e w1 ⟨rfl, hb1⟩)
    go_ret
    exact ⟨rfl, hb1⟩
end
end Go.Proofs.YtfplklbicimhkaaDoor
