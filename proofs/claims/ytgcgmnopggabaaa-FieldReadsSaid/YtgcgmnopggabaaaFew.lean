/-
  The calls of a writer that come in; the law's few.
-/
import Derived.Test.YtgcgmnopggabaaaAct
import Derived.LoopN
namespace Go.Proofs.Ytgcgmnopggabaaa
open Go.RowKit Go.ChangeShapes Go.WideShapes Go.ChangeAt Go.Deep

/-- A slice of calls of a writer that is read. -/
structure RdA (w : World) (B : Nat) (A : Option Addr) (n : Nat) (rs : List ActRow) : Prop where
  len : rs.length = n
  cells : ∀ k, k < n → ∃ b off r, A = some ⟨b, off, none⟩ ∧ b < B ∧ rs[k]? = some r ∧ (∀ j, j < 5 → w.cell? ⟨b, off + k * 5 + j, none⟩ = r.cells[j]?) ∧ r.Good w B
theorem ActRow.Good.step {r : ActRow} {w w' : World} {B : Nat} (h : r.Good w B) (hB : B ≤ w.heap.size) (hb : Below w.heap.size w w') : r.Good w' B :=
  ⟨h.what, h.v, h.num, h.bytes.below' hb hB, h.byte, h.fields.low hB hb⟩
theorem RdA.step {w w' : World} {B n : Nat} {A : Option Addr} {rs : List ActRow} (h : RdA w B A n rs) (hB : B ≤ w.heap.size) (hb : Below w.heap.size w w') : RdA w' B A n rs :=
  ⟨h.len, fun k hk => by
    obtain ⟨b, off, r, h1, h2, h3, h4, h5⟩ := h.cells k hk
    exact ⟨b, off, r, h1, h2, h3, fun j hj => (hb.cell (p := ⟨b, off + k * 5 + j, none⟩) (Nat.lt_of_lt_of_le h2 hB)).trans (h4 j hj), h5.step hB hb⟩⟩

section
variable {H : Type} {enc : TypeId × Value → H} {W : World} {base fuel : Nat} {x : DataW H × List MemPlace}
theorem op_acts {v : Value} (h : DataW.trod enc Try.prog W base (fun _ => true) true fuel 22 [v] = some x) : ∃ A n c rs, v = .slice A n c ∧ n ≤ c ∧ RdA W W.heap.size A n rs := by
  obtain ⟨A, n, c, hv, hc, hk⟩ := op_rows (e := 36) (s := 5) Try.underlying22 (by kernel_rfl) (by decide) h
  have key : ∀ k : Nat, ∃ r : ActRow, k < n → ∃ b off, A = some ⟨b, off, none⟩ ∧ b < W.heap.size ∧ (∀ j, j < 5 → W.cell? ⟨b, off + k * 5 + j, none⟩ = r.cells[j]?) ∧ r.Good W W.heap.size := fun k => by
    by_cases hlt : k < n
    · obtain ⟨b, off, cs, n', y, h1, h2, h3, h4, h5⟩ := hk k hlt
      obtain ⟨r, hr, hg⟩ := op_act h5
      exact ⟨r, fun _ => ⟨b, off, h1, h2, fun j hj => by rw [h3 j hj, hr], hg⟩⟩
    · exact ⟨⟨0, 0, 0, none, 0, 0, [], none, 0, 0, []⟩, fun h => absurd h hlt⟩
  obtain ⟨f, hf⟩ := Classical.axiomOfChoice key
  refine ⟨A, n, c, (List.range n).map f, hv, hc, by simp, fun k hk => ?_⟩
  obtain ⟨b, off, h1, h2, h3, h4⟩ := hf k hk
  exact ⟨b, off, f k, h1, h2, by simp [hk], h3, h4⟩
end

def fewB (n : Nat) (rs : List ActRow) : Bool := decide (n ≤ 40) && rs.all (fun r => decide (r.bn ≤ 40) && decide (r.ln ≤ 20))
theorem fewB_no {n k : Nat} {rs : List ActRow} {r : ActRow} (hr : rs[k]? = some r) (h : 40 < r.bn ∨ 20 < r.ln) : fewB n rs = false := by
  unfold fewB
  have : rs.all (fun r => decide (r.bn ≤ 40) && decide (r.ln ≤ 20)) = false := by
    rw [List.all_eq_false]
    refine ⟨r, List.mem_of_getElem? hr, ?_⟩
    simp; omega
  rw [this, Bool.and_false]
theorem fewB_step {k : Nat} {rs : List ActRow} {r : ActRow} (hr : rs[k]? = some r) (h : r.bn ≤ 40 ∧ r.ln ≤ 20) (ha : (rs.take k).all (fun r => decide (r.bn ≤ 40) && decide (r.ln ≤ 20)) = true) : (rs.take (k + 1)).all (fun r => decide (r.bn ≤ 40) && decide (r.ln ≤ 20)) = true := by
  rw [List.take_add_one, hr, List.all_append, ha]
  simp [h.1, h.2]
theorem fewB_mem {n : Nat} {rs : List ActRow} (h : fewB n rs = true) : n ≤ 40 ∧ ∀ r ∈ rs, r.bn ≤ 40 ∧ r.ln ≤ 20 := by
  unfold fewB at h
  simp only [Bool.and_eq_true, decide_eq_true_eq, List.all_eq_true] at h
  exact h
set_option maxRecDepth 100000 in
set_option maxHeartbeats 1000000 in
theorem few_any {w : World} {B n c : Nat} {A : Option Addr} {rs : List ActRow} (h : RdA w B A n rs) :
    Calls Try.prog 9 #[.slice A n c] w fun e w' => e = .returned (.bool (fewB n rs)) ∧ w' = w := by
  by_cases hm : 40 < n
  · have hf : Hid (fewB n rs = false) := Lib.hid (by unfold fewB; rw [decide_eq_false (by omega)]; rfl)
    have hd : decide ((40 : Int) < (n : Int)) = true := by simp; omega
    go_enter Try.func9, Try.ntmps9
    go_wp2_with fail
    go_ret
    exact ⟨by rw [hf.out]; rfl, rfl⟩
  · have hd : decide ((40 : Int) < (n : Int)) = false := by simp; omega
    go_enter Try.func9, Try.ntmps9
    go_wp2_with fail
    go_loopw [3] (fun i wr => ∃ (k : Nat), k ≤ n ∧ i = .int .i64 k ∧ wr = w ∧ Hid ((rs.take k).all (fun r => decide (r.bn ≤ 40) && decide (r.ln ≤ 20)) = true))
      (fun i _ => n - (intOf i).toNat)
    case atStart => exact ⟨0, Nat.zero_le _, rfl, rfl, Lib.hid (by simp)⟩
    case round =>
      obtain ⟨k, hk, rfl, rfl, hall⟩ := hrel
      by_cases hlt : k < n
      · obtain ⟨b, off, r, rfl, hb, hr, hcs, hg⟩ := h.cells k hlt
        have c3 : wr.cell? ⟨b, off + k * 5 + 3, none⟩ = some (.slice r.ba r.bn r.bc) := hcs 3 (by decide)
        have c4 : wr.cell? ⟨b, off + k * 5 + 4, none⟩ = some (.slice r.la r.ln r.lc) := hcs 4 (by decide)
        have hl := hg.bytes.len
        have hl2 := hg.fields.len
        have hk0 : (0 : Int) ≤ (k : Int) := by omega
        have hk1 : (k : Int) < (n : Int) := by omega
        have HC := Lib.hid hcs
        have HR := Lib.hid hr
        clear hcs hr
        by_cases h3 : 40 < r.bn
        · have d3 : decide ((40 : Int) < (r.bn : Int)) = true := by simp; omega
          go_wp2_with fail
          go_ret
          exact ⟨by rw [fewB_no HR.out (.inl h3)]; rfl, rfl⟩
        · have d3 : decide ((40 : Int) < (r.bn : Int)) = false := by simp; omega
          by_cases h4 : 20 < r.ln
          · have d4 : decide ((20 : Int) < (r.ln : Int)) = true := by simp; omega
            go_wp2_with fail
            go_ret
            exact ⟨by rw [fewB_no HR.out (.inr h4)]; rfl, rfl⟩
          · have d4 : decide ((20 : Int) < (r.ln : Int)) = false := by simp; omega
            have hs := Lib.hid (fewB_step HR.out ⟨by omega, by omega⟩ hall.out)
            go_wp2_with fail
            go_roundw
            case rel => exact ⟨k + 1, by omega, by go_num, trivial, hs⟩
            case measure => simp [intOf]; omega
      · obtain rfl : k = n := by omega
        have hf : Hid (fewB k rs = true) := Lib.hid (by
          unfold fewB
          have := hall.out
          rw [← h.len, List.take_length] at this
          rw [this, decide_eq_true (by omega : k ≤ 40)]; rfl)
        clear hlt
        go_wp2_with fail
        go_ret
        exact ⟨by rw [hf.out]; rfl, rfl⟩
end Go.Proofs.Ytgcgmnopggabaaa
