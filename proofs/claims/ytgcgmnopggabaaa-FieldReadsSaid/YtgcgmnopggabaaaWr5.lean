/-
  PutAll and Put, as their callers meet them; nil writers; GetBytes, GetAll of a nil reader.
-/
import Derived.Test.YtgcgmnopggabaaaWr4
namespace Go.Proofs.Ytgcgmnopggabaaa
open Go.RowKit

theorem Turn.after {B : Nat} {V V' : Value} {w w1 w2 : World} (hb : Below w.heap.size w w1) (h : Turn B V V' w1 w2) : Turn B V V' w w2 :=
  ⟨(Save.of_below hb).trans' h.1 (fun _ hi _ => hi), fun i hi hne => h.2 i (Nat.lt_of_lt_of_le hi hb.size) hne⟩
theorem WStep.after {B : Nat} {V : Value} {bs : List Int} {w w1 w2 : World} (hb : Below w.heap.size w w1) (h : WStep w1 B V bs w2) : WStep w B V bs w2 := by
  obtain ⟨V', h1, h2⟩ := h
  exact ⟨V', h1, h2.after hb⟩
theorem putAll_any {w : World} {B n c Bl : Nat} {A : Option Addr} {V : Value} {bs : List Int} {fs : List (Int × Int)} (h : WrtAt w B V bs) (hR : RdF w Bl A n fs) (hBl : Bl ≤ w.heap.size) (hA : 0 < n → ∀ a, A = some a → a.block ≠ B ∧ some a.block ≠ V.ownBlock)
    (hn : n ≤ 1000000) (hsz : bs.length + 64 * n ≤ 1099511627776) :
    Calls Try.prog 29 #[.pointer (some ⟨B, 0, none⟩), .slice A n c] w (PutR w B V bs fs) := callsIn_wide.1 (putAll_in 6 (by omega) h hR hBl hA hn hsz)
theorem rdF_one (w : World) (v n : Int) (t : TypeId) (hv : 0 ≤ v ∧ v < 18446744073709551616) : RdF (w.alloc (.cells #[.int .u64 v, .int .i64 n] t)) (w.heap.size + 1) (some ⟨w.heap.size, 0, none⟩) 1 [(v, n)] := by
  have hT := Two.new w t (.int .u64 v) (.int .i64 n)
  refine ⟨rfl, fun k hk => ?_, by simpa using hv⟩
  obtain rfl : k = 0 := by omega
  exact ⟨w.heap.size, 0, rfl, by omega, hT.cell0, hT.cell1⟩
/-- One field. -/
def putS (v n : Int) : List Int := if (fromUintS v n).2 = 0 then fromUintL v n.toNat else []
set_option maxRecDepth 100000 in
theorem put_any {w : World} {B : Nat} {V : Value} {bs : List Int} {v n : Int} (h : WrtAt w B V bs) (hv : 0 ≤ v ∧ v < 18446744073709551616) (hsz : bs.length + 64 ≤ 1099511627776) :
    Calls Try.prog 27 #[.pointer (some ⟨B, 0, none⟩), .int .u64 v, .int .i64 n] w fun e w' => e = .returned (.int .i64 (fromUintS v n).2) ∧ WStep w B V (bs ++ putS v n) w' := by
  have hb : Below w.heap.size w (w.alloc (.cells #[.int .u64 v, .int .i64 n] 73)) := (Below.refl _ w).alloc (Nat.le_refl _) _
  have hP := Lib.hid (putAll_any (c := 1) (h.below hb) (rdF_one w v n 73 hv) (by simp) (fun _ a ha => by
    injection ha with ha
    subst ha
    have := h.lt
    refine ⟨by simp; omega, fun e => ?_⟩
    have := (h.own_lt _ e.symm).2
    simp at this) (by omega) (by omega))
  have hE : Hid (errAll [(v, n)] = (fromUintS v n).2) := Lib.hid (by
    simp only [errAll]
    split
    · rename_i h0; exact h0.symm
    · rfl)
  have hQ : Hid ((if errAll [(v, n)] = 0 then bs ++ bitsAll [(v, n)] else bs) = bs ++ putS v n) := Lib.hid (by
    rw [hE.out]
    unfold putS
    split <;> simp [bitsAll])
  clear hv hsz
  go_enter Try.func27, Try.ntmps27
  go_wp2_with fail
  refine hP.out.mono ?_
  rintro e w' ⟨rfl, h1⟩
  rw [hQ.out] at h1
  have H1 := Lib.hid h1
  clear h1
  rw [hE.out]
  go_wp2_with fail
  go_ret
  exact ⟨rfl, H1.out.after hb⟩
set_option maxRecDepth 100000 in
theorem putAll_nil {w : World} {A : Option Addr} {n c : Nat} : Calls Try.prog 29 #[.pointer none, .slice A n c] w fun e w' => e = .returned (.int .i64 1) ∧ Below w.heap.size w w' := by
  go_enter Try.func29, Try.ntmps29
  go_wp2
  go_ret
  exact ⟨rfl, (Below.refl _ w).alloc (Nat.le_refl _) _⟩
theorem put_nil {w : World} {v n : Int} : Calls Try.prog 27 #[.pointer none, .int .u64 v, .int .i64 n] w fun e w' => e = .returned (.int .i64 1) ∧ Below w.heap.size w w' := by
  go_enter Try.func27, Try.ntmps27
  go_wp2_with fail
  refine putAll_nil.mono ?_
  rintro e w' ⟨rfl, hb⟩
  go_wp2_with fail
  go_ret
  exact ⟨rfl, ((Below.refl _ w).alloc (Nat.le_refl _) _).trans (hb.mono (by simp))⟩
theorem getBytes_nil {w : World} {n : Int} : Calls Try.prog 25 #[.pointer none, .int .i64 n] w fun e w' => e = .returned (.tuple #[.slice none 0 0, .int .i64 1]) ∧ w = w' := by
  go_enter Try.func25, Try.ntmps25
  go_wp2
  go_ret2
  exact ⟨rfl, rfl⟩
set_option maxRecDepth 100000 in
theorem getAll_nil {w : World} {A : Option Addr} {n c : Nat} : Calls Try.prog 26 #[.pointer none, .slice A n c] w fun e w' => e = .returned (.tuple #[.slice none 0 0, .int .i64 1]) ∧ Below w.heap.size w w' := by
  have bE := Boxed.new w 53 (.int .i64 1)
  have cE := Boxed.cell bE
  go_enter Try.func26, Try.ntmps26
  go_wp2
  exact bodyPost_ret (v := .tuple #[.slice none 0 0, .int .i64 1]) (by simp [results, Try.results26, go_sem, cE]) rfl ⟨rfl, (Below.refl _ w).alloc (Nat.le_refl _) _⟩
end Go.Proofs.Ytgcgmnopggabaaa
