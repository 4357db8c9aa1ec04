/-
  next.
-/
import Derived.Test.YtkdodmjhpkfhnaaDoorP1
import Derived.Deep.QuietTactic
import Derived.BigQuiet
namespace Go.Proofs.YtkdodmjhpkfhnaaDoor
open Go.RowKit

structure RgC (w : World) : Prop where
  a0 : w.cell? ⟨0, 0, none⟩ = some (.int .i64 40)
  a1 : w.cell? ⟨0, 1, none⟩ = some (.int .i64 512)
  a2 : w.cell? ⟨0, 2, none⟩ = some (.int .i64 8)
  b0 : w.cell? ⟨0, 3, none⟩ = some (.int .i64 528)
  b1 : w.cell? ⟨0, 4, none⟩ = some (.int .i64 1024)
  b2 : w.cell? ⟨0, 5, none⟩ = some (.int .i64 16)
  c0 : w.cell? ⟨0, 6, none⟩ = some (.int .i64 1056)
  c1 : w.cell? ⟨0, 7, none⟩ = some (.int .i64 2048)
  c2 : w.cell? ⟨0, 8, none⟩ = some (.int .i64 32)
  d0 : w.cell? ⟨0, 9, none⟩ = some (.int .i64 2112)
  d1 : w.cell? ⟨0, 10, none⟩ = some (.int .i64 6144)
  d2 : w.cell? ⟨0, 11, none⟩ = some (.int .i64 64)
theorem Ranges.all {w : World} (h : Ranges w) : RgC w :=
  ⟨h.cells 0 _ rfl, h.cells 1 _ rfl, h.cells 2 _ rfl, h.cells 3 _ rfl, h.cells 4 _ rfl, h.cells 5 _ rfl, h.cells 6 _ rfl, h.cells 7 _ rfl, h.cells 8 _ rfl, h.cells 9 _ rfl, h.cells 10 _ rfl, h.cells 11 _ rfl⟩

/-- A block of three cells. -/
def Three (w : World) (B : Nat) (t : TypeId) (x y z : Value) : Prop := w.heap[B]? = some (.cells #[x, y, z] t)
theorem Three.new (w : World) (t : TypeId) (x y z : Value) : Three (w.alloc (.cells #[x, y, z] t)) w.heap.size t x y z := World.alloc_heap_new w _
theorem Three.cell {w : World} {B : Nat} {t : TypeId} {x y z : Value} (h : Three w B t x y z) (j : Nat) : w.cell? ⟨B, j, none⟩ = #[x, y, z][j]? := by
  unfold Three at h
  simp [World.cell?, h]
theorem Three.cell0 {w : World} {B : Nat} {t : TypeId} {x y z : Value} (h : Three w B t x y z) : w.cell? ⟨B, 0, none⟩ = some x := h.cell 0
theorem Three.cell1 {w : World} {B : Nat} {t : TypeId} {x y z : Value} (h : Three w B t x y z) : w.cell? ⟨B, 1, none⟩ = some y := h.cell 1
theorem Three.cell2 {w : World} {B : Nat} {t : TypeId} {x y z : Value} (h : Three w B t x y z) : w.cell? ⟨B, 2, none⟩ = some z := h.cell 2
def rgLast (j : Nat) : Nat := if j = 0 then 512 else if j = 1 then 1024 else if j = 2 then 2048 else 6144
def rgLow (j : Nat) : Nat := if j = 0 then 0 else if j = 1 then 513 else if j = 2 then 1025 else 2049
theorem wrap_small {x : Int} (h1 : -9223372036854775808 ≤ x) (h2 : x ≤ 9223372036854775807) : IntKind.i64.wrap x = x := by
  simp only [IntKind.wrap_i64]
  omega
theorem max_sub {n f m : Nat} (hn : n ≤ 6144) (hf : f ≤ 6144) (hm : m = n - f) : (if 0 < IntKind.i64.wrap ((n : Int) - (f : Int)) then IntKind.i64.wrap ((n : Int) - (f : Int)) else 0) = (m : Int) := by
  rw [wrap_small (by omega) (by omega)]
  split <;> omega
theorem wrap64_i64 (x : Int) : wrap64 x = IntKind.i64.wrap x := by unfold wrap64; rw [IntKind.wrap_i64]
theorem max_sub2 {n f m : Nat} (hm : m = n - f) : (if (f : Int) < (n : Int) then (n : Int) - (f : Int) else 0) = (m : Int) := by
  split <;> omega
theorem size_val {f q s : Nat} (hq : q ≤ 6144) (hs : s ≤ 64) (hf : f ≤ 6144) : IntKind.i64.wrap ((f : Int) + IntKind.i64.wrap ((q : Int) * (s : Int))) = ((f + q * s : Nat) : Int) := by
  have h1 : q * s ≤ 6144 * 64 := Nat.mul_le_mul hq hs
  have h2 : (q : Int) * (s : Int) = ((q * s : Nat) : Int) := by simp
  rw [h2]
  generalize q * s = z at *
  rw [wrap_small (x := (z : Int)) (by omega) (by omega), wrap_small (by omega) (by omega)]
  omega
set_option maxRecDepth 100000 in
set_option maxHeartbeats 4000000 in
theorem next_any {n : Nat} {w : World} (hK : Kinds w) (h : n ≤ 6144) :
    Calls Tryd.prog 32 #[.int .i64 n] w fun r w' => r = .returned (.int .i64 (nextN n : Nat)) ∧ Below w.heap.size w w' := by
  obtain ⟨a0, a1, a2, b0, b1, b2, c0, c1, c2, d0, d1, d2⟩ := hK.rg.all
  have hlt := hK.lt
  clear hK
  go_enter Tryd.func32, Tryd.ntmps32
  go_wp2_with fail
  go_loop [3] (fun i => ∃ j : Nat, j ≤ 3 ∧ i = .int .i64 j ∧ rgLow j ≤ n) (fun i => 3 - (intOf i).toNat)
  case atStart => exact ⟨0, by decide, rfl, Nat.zero_le _⟩
  case round =>
    obtain ⟨j, hj, rfl, hlow⟩ := hrel
    have hj4 : j = 0 ∨ j = 1 ∨ j = 2 ∨ j = 3 := by omega
    rcases hj4 with rfl | rfl | rfl | rfl
    · have hlo : 0 ≤ n := by simp [rgLow] at hlow; omega
      clear hlow
      by_cases hle : n ≤ 512
      · have hm := max_sub (n := n) (f := 40) (m := n - 40) (by omega) (by decide) rfl
        have hm2 := max_sub2 (n := n) (f := 40) (m := n - 40) rfl
        have hv := size_val (f := 40) (q := (n - 40 + 8 - 1) / 8) (s := 8) (by omega) (by decide) (by decide)
        have hN : nextN n = 40 + (n - 40 + 8 - 1) / 8 * 8 := by
          unfold nextN
          rw [if_pos (by omega)]
          rfl
        have hce := fun (u : World) => ceil_any (a := n - 40) (b := 8) (w := u) (by decide) (by omega) (by decide)
        simp only [Int.cast_ofNat_Int] at hce hm hm2 hv
        have hle2 : n - 40 ≤ 6144 := by omega
        go_wp2_with fail
        have hT := Three.new w 65 (.int .i64 40) (.int .i64 512) (.int .i64 8)
        have hbW := (Below.refl w.heap.size w).alloc (Nat.le_refl _) (.cells #[.int .i64 40, .int .i64 512, .int .i64 8] 65)
        have p0 := hT.cell0
        have p2 := hT.cell2
        clear hT
        generalize (w.alloc (.cells #[.int .i64 40, .int .i64 512, .int .i64 8] 65)) = W at *
        generalize n - 40 = m at hm hm2 hv hN hce hle2
        generalize (m + 8 - 1) / 8 = q at hv hN hce
        have HV := Lib.hid hv
        have HN := Lib.hid hN
        clear hv hN
        go_quiet ((go_at_call 52; exact Calls.quiet_of_same (hce _)))
        go_wp2_with fail
        go_ret
        exact ⟨ret_int (by rw [HN.out]; first | exact HV.out | (rw [wrap64_i64, wrap64_i64]; exact HV.out)), below_drewN hbW nq⟩
      · go_wp2_with fail
        go_round
        case rel => exact ⟨1, by decide, rfl, by unfold rgLow; simp; omega⟩
        case measure => simp [intOf]
    · have hlo : 513 ≤ n := by simp [rgLow] at hlow; omega
      clear hlow
      by_cases hle : n ≤ 1024
      · have hm := max_sub (n := n) (f := 528) (m := n - 528) (by omega) (by decide) rfl
        have hm2 := max_sub2 (n := n) (f := 528) (m := n - 528) rfl
        have hv := size_val (f := 528) (q := (n - 528 + 16 - 1) / 16) (s := 16) (by omega) (by decide) (by decide)
        have hN : nextN n = 528 + (n - 528 + 16 - 1) / 16 * 16 := by
          unfold nextN
          rw [if_neg (by omega), if_pos (by omega)]
          rfl
        have hce := fun (u : World) => ceil_any (a := n - 528) (b := 16) (w := u) (by decide) (by omega) (by decide)
        simp only [Int.cast_ofNat_Int] at hce hm hm2 hv
        have hle2 : n - 528 ≤ 6144 := by omega
        go_wp2_with fail
        have hT := Three.new w 65 (.int .i64 528) (.int .i64 1024) (.int .i64 16)
        have hbW := (Below.refl w.heap.size w).alloc (Nat.le_refl _) (.cells #[.int .i64 528, .int .i64 1024, .int .i64 16] 65)
        have p0 := hT.cell0
        have p2 := hT.cell2
        clear hT
        generalize (w.alloc (.cells #[.int .i64 528, .int .i64 1024, .int .i64 16] 65)) = W at *
        generalize n - 528 = m at hm hm2 hv hN hce hle2
        generalize (m + 16 - 1) / 16 = q at hv hN hce
        have HV := Lib.hid hv
        have HN := Lib.hid hN
        clear hv hN
        go_quiet ((go_at_call 52; exact Calls.quiet_of_same (hce _)))
        go_wp2_with fail
        go_ret
        exact ⟨ret_int (by rw [HN.out]; first | exact HV.out | (rw [wrap64_i64, wrap64_i64]; exact HV.out)), below_drewN hbW nq⟩
      · go_wp2_with fail
        go_round
        case rel => exact ⟨2, by decide, rfl, by unfold rgLow; simp; omega⟩
        case measure => simp [intOf]
    · have hlo : 1025 ≤ n := by simp [rgLow] at hlow; omega
      clear hlow
      by_cases hle : n ≤ 2048
      · have hm := max_sub (n := n) (f := 1056) (m := n - 1056) (by omega) (by decide) rfl
        have hm2 := max_sub2 (n := n) (f := 1056) (m := n - 1056) rfl
        have hv := size_val (f := 1056) (q := (n - 1056 + 32 - 1) / 32) (s := 32) (by omega) (by decide) (by decide)
        have hN : nextN n = 1056 + (n - 1056 + 32 - 1) / 32 * 32 := by
          unfold nextN
          rw [if_neg (by omega), if_neg (by omega), if_pos (by omega)]
          rfl
        have hce := fun (u : World) => ceil_any (a := n - 1056) (b := 32) (w := u) (by decide) (by omega) (by decide)
        simp only [Int.cast_ofNat_Int] at hce hm hm2 hv
        have hle2 : n - 1056 ≤ 6144 := by omega
        go_wp2_with fail
        have hT := Three.new w 65 (.int .i64 1056) (.int .i64 2048) (.int .i64 32)
        have hbW := (Below.refl w.heap.size w).alloc (Nat.le_refl _) (.cells #[.int .i64 1056, .int .i64 2048, .int .i64 32] 65)
        have p0 := hT.cell0
        have p2 := hT.cell2
        clear hT
        generalize (w.alloc (.cells #[.int .i64 1056, .int .i64 2048, .int .i64 32] 65)) = W at *
        generalize n - 1056 = m at hm hm2 hv hN hce hle2
        generalize (m + 32 - 1) / 32 = q at hv hN hce
        have HV := Lib.hid hv
        have HN := Lib.hid hN
        clear hv hN
        go_quiet ((go_at_call 52; exact Calls.quiet_of_same (hce _)))
        go_wp2_with fail
        go_ret
        exact ⟨ret_int (by rw [HN.out]; first | exact HV.out | (rw [wrap64_i64, wrap64_i64]; exact HV.out)), below_drewN hbW nq⟩
      · go_wp2_with fail
        go_round
        case rel => exact ⟨3, by decide, rfl, by unfold rgLow; simp; omega⟩
        case measure => simp [intOf]
    · have hlo : 2049 ≤ n := by simp [rgLow] at hlow; omega
      clear hlow
      by_cases hle : n ≤ 6144
      · have hm := max_sub (n := n) (f := 2112) (m := n - 2112) (by omega) (by decide) rfl
        have hm2 := max_sub2 (n := n) (f := 2112) (m := n - 2112) rfl
        have hv := size_val (f := 2112) (q := (n - 2112 + 64 - 1) / 64) (s := 64) (by omega) (by decide) (by decide)
        have hN : nextN n = 2112 + (n - 2112 + 64 - 1) / 64 * 64 := by
          unfold nextN
          rw [if_neg (by omega), if_neg (by omega), if_neg (by omega)]
          rfl
        have hce := fun (u : World) => ceil_any (a := n - 2112) (b := 64) (w := u) (by decide) (by omega) (by decide)
        simp only [Int.cast_ofNat_Int] at hce hm hm2 hv
        have hle2 : n - 2112 ≤ 6144 := by omega
        go_wp2_with fail
        have hT := Three.new w 65 (.int .i64 2112) (.int .i64 6144) (.int .i64 64)
        have hbW := (Below.refl w.heap.size w).alloc (Nat.le_refl _) (.cells #[.int .i64 2112, .int .i64 6144, .int .i64 64] 65)
        have p0 := hT.cell0
        have p2 := hT.cell2
        clear hT
        generalize (w.alloc (.cells #[.int .i64 2112, .int .i64 6144, .int .i64 64] 65)) = W at *
        generalize n - 2112 = m at hm hm2 hv hN hce hle2
        generalize (m + 64 - 1) / 64 = q at hv hN hce
        have HV := Lib.hid hv
        have HN := Lib.hid hN
        clear hv hN
        go_quiet ((go_at_call 52; exact Calls.quiet_of_same (hce _)))
        go_wp2_with fail
        go_ret
        exact ⟨ret_int (by rw [HN.out]; first | exact HV.out | (rw [wrap64_i64, wrap64_i64]; exact HV.out)), below_drewN hbW nq⟩
      · go_wp2_with fail
        omega
end Go.Proofs.YtkdodmjhpkfhnaaDoor
