/-
  bytes.Repeat of one element; append of a slice onto what it hands back.
-/
import Derived.Test.YtmehfegfkjhdcaaDoorMk
import Derived.Lib.MakeNoZero
import Derived.Lib.SlBuf
import Derived.Laws.CopyOwn
import Derived.Deep.RegionLaw
import Derived.Shelf.Bits.Mul64
namespace Go.Proofs.YtmehfegfkjhdcaaDoor
open Go.RowKit Go.Shelf

theorem mul64_one {n : Nat} {w : World} (hn : n ≤ 100) : Calls Tryd.prog 39 #[.int .u64 1, .int .u64 (n : Int)] w fun e w' => e = .returned (.tuple #[.int .u64 0, .int .u64 (n : Int)]) ∧ w' = w := by
  have e1 : bits .and .u64 1 4294967295 = 1 := by decide
  have e2 : bits .and .u64 0 4294967295 = 0 := by decide
  have e3 : bits .and .u64 (n : Int) 4294967295 = (n : Int) := by
    have := Mul64.maskN n (by omega)
    rwa [Nat.mod_eq_of_lt (by omega)] at this
  have e4 : (n : Int) / 4294967296 = 0 := by omega
  have hn' : (n : Int) ≤ 100 := by omega
  go_enter Tryd.func39, Tryd.ntmps39
  go_wp2_with fail
  go_ret2
  exact ⟨rfl, rfl⟩
theorem mul_one {n : Nat} {w : World} (hn : n ≤ 100) : Calls Tryd.prog 36 #[.int .u64 1, .int .u64 (n : Int)] w fun e w' => e = .returned (.tuple #[.int .u64 0, .int .u64 (n : Int)]) ∧ w' = w := by
  have hM := Lib.hid (fun (u : World) => mul64_one (w := u) hn)
  clear hn
  go_enter Tryd.func36, Tryd.ntmps36
  go_wp2_with (go_at_call 39; refine (hM.out _).mono ?_; rintro e w1 ⟨rfl, rfl⟩)
  go_ret2
  exact ⟨rfl, rfl⟩
/-- The block g holds n cells at least, the first p of which are dummies. -/
def Fil (W : World) (g n p : Nat) : Prop := ∃ cur, W.heap[g]? = some (.cells cur 5) ∧ n ≤ cur.size ∧ cur.toList.take p = List.replicate p (.int .u8 2)
theorem Fil.drewN {W : World} {g n p : Nat} (h : Fil W g n p) (k : Nat) : Fil (W.drewN k) g n p := h
theorem Fil.cell {W : World} {g n p j : Nat} (h : Fil W g n p) (hj : j < p) (_ : p ≤ n) : W.cell? ⟨g, j, none⟩ = some (.int .u8 2) := by
  obtain ⟨cur, hg, hn, ht⟩ := h
  have h1 : cur.toList[j]? = some (.int .u8 2) := by
    have h2 : (cur.toList.take p)[j]? = some (.int .u8 2) := by rw [ht]; simp [hj]
    rwa [List.getElem?_take, if_pos hj] at h2
  simp only [World.cell?, hg]
  rw [← Array.getElem?_toList]
  exact h1
theorem Fil.rd {W : World} {g n : Nat} (h : Fil W g n n) (hg : g < W.heap.size) : Rd .u8 W W.heap.size (some ⟨g, 0, none⟩) n (List.replicate n 2) := by
  refine ⟨by simp, fun k hk => ⟨g, 0, rfl, hg, ?_⟩⟩
  rw [Nat.zero_add, h.cell hk (Nat.le_refl _)]
  simp [hk]
theorem fil_put {W w0 : World} {g n p c B : Nat} {a : Addr} {sl sc dl dc : Nat} (h : Fil W g n p) (hc : c = Nat.min sl dl) (hfit : p + c ≤ n) (hsrc : ∀ j, j < c → W.cell? (a.add j) = some (.int .u8 2)) (hb : Below B w0 W) (hB : B ≤ g) :
    ∃ W', (Builtin.copy_ #[33, 33] 3 #[.slice (some ⟨g, p, none⟩) dl dc, .slice (some a) sl sc]).run Tryd.prog W = .ok (.int .i64 (c : Int)) W' ∧ Fil W' g n (p + c) ∧ Below B w0 W' ∧ W'.heap.size = W.heap.size := by
  obtain ⟨cur, hg, hn, ht⟩ := h
  have hs : (Tryd.prog.info? 5).map (·.size) = some 1 := by kernel_rfl
  have hrun := run_copy_row (P := Tryd.prog) W 33 33 3 5 g p dl dc a sl sc cur 5 (List.replicate c (.int .u8 2)) Tryd.underlying33 hs hg (by rw [List.length_replicate]; exact hc)
    (fun j v hj => by
      rw [List.getElem?_replicate] at hj
      by_cases hjc : j < c
      · rw [if_pos hjc] at hj
        injection hj with hj
        rw [← hj]; exact hsrc j hjc
      · rw [if_neg hjc] at hj; cases hj) (by rw [List.length_replicate]; omega) (fun v hv => by obtain ⟨_, rfl⟩ := List.mem_replicate.1 hv; rfl)
  rw [List.length_replicate] at hrun
  refine ⟨_, hrun, ⟨_, setRow_heap W g cur _ 5 _ hg, ?_, ?_⟩, below_setRow hb hB _, by simp [World.setRow]⟩
  · simp
    omega
  · simp only [List.append_assoc]
    rw [List.take_append]
    have hl : (cur.toList.take p).length = p := by simp; omega
    rw [hl, List.take_of_length_le (by omega), ht, show p + c - p = c by omega, List.take_append, List.length_replicate, Nat.sub_self, List.take_of_length_le (by simp)]
    simp
theorem slice_from {g n m : Nat} (h : m < n) (u : World) : (Instr.slice 33 (.slice (some ⟨g, 0, none⟩) n n) (some (.int .i64 (m : Int))) none none).run Tryd.prog u = .ok (.slice (some ⟨g, m, none⟩) (n - m) (n - m)) u := by
  have hz : ∀ w, (Go.sizeOf 5).run Tryd.prog w = .ok 1 w := fun w => by
    obtain ⟨i0, hi, hz0, hz1, hz2⟩ := info_parts Tryd.info_u8
    simp [Go.sizeOf, typeInfo, hi, hz1]
  have := Lib.run_slice_tailV (P := Tryd.prog) u 33 5 Tryd.underlying33 hz g n m (by omega)
  rw [this]
  unfold Lib.tailV
  rw [if_neg (by omega)]
set_option maxRecDepth 100000 in
set_option maxHeartbeats 1000000 in
theorem repeat_any {n b : Nat} {w : World} (hn1 : 1 ≤ n) (hn : n ≤ 100) (hc : w.cell? ⟨b, 0, none⟩ = some (.int .u8 2)) (hbw : b < w.heap.size) :
    Calls Tryd.prog 30 #[.slice (some ⟨b, 0, none⟩) 1 1, .int .i64 (n : Int)] w fun e w' => (∃ g, e = .returned (.slice (some ⟨g, 0, none⟩) n n) ∧ Rd .u8 w' w'.heap.size (some ⟨g, 0, none⟩) n (List.replicate n 2)) ∧ Below w.heap.size w w' := by
  have hM := Lib.hid (fun (u : World) => mul_one (w := u) hn)
  obtain ⟨cs, hrunM, hle, _⟩ := Lib.run_makeNoZero (P := Tryd.prog) w #[3] 33 5 Tryd.underlying33 n (by omega)
  have hcall : (callFunc 37 #[.int .i64 (n : Int)]).run Tryd.prog w = .ok (.value (.slice (some ⟨w.heap.size, 0, none⟩) n cs.size)) ((w.alloc (.cells cs 5)).drewN 2) := by
    rw [run_callFunc_extern Tryd.func37 (by kernel_rfl) (by kernel_rfl) (by kernel_rfl) (e := Extern.BytealgMakeNoZero.makeNoZero #[3] #[33]) (by kernel_rfl), hrunM]
    rfl
  have hF0 : Fil ((w.alloc (.cells cs 5)).drewN 2) w.heap.size n 0 := ⟨cs, World.alloc_heap_new w _, hle, by simp⟩
  have hB0 : Below w.heap.size w ((w.alloc (.cells cs 5)).drewN 2) := below_drewN ((Below.refl _ w).alloc (Nat.le_refl _) _) 2
  have hc2 : ((w.alloc (.cells cs 5)).drewN 2).cell? ((⟨b, 0, none⟩ : Addr).add 0) = some (.int .u8 2) := by
    have := hB0.cell (p := ⟨b, 0, none⟩) hbw
    exact this.trans hc
  obtain ⟨w1, hr1, hF1, hB1, hs1⟩ := fil_put (a := ⟨b, 0, none⟩) (sl := 1) (sc := 1) (dl := n) (dc := n) (c := 1) hF0 (Nat.min_eq_left hn1).symm (by omega) (fun j hj => by
    obtain rfl : j = 0 := by omega
    exact hc2) hB0 (Nat.le_refl _)
  have hsz1 : w1.heap.size = w.heap.size + 1 := by rw [hs1]; show (w.alloc _).heap.size = _; simp
  have HS1 := Lib.hid hsz1
  have HF1 := Lib.hid hF1
  have HB1 := Lib.hid hB1
  have n0 : ((n : Int) == 0) = false := by simp; omega
  have n1 : (1 : Int) ≤ (n : Int) := by omega
  have n2 : (n : Int) ≤ 100 := by omega
  have n3 : (n : Int) ≤ (cs.size : Int) := by omega
  clear hrunM hF0 hB0 hc2 hF1 hB1 hs1 hsz1 hle
  go_enter Tryd.func30, Tryd.ntmps30
  go_wp2_with (first | (go_at_call 36; refine (hM.out _).mono ?_; rintro e w ⟨rfl, rfl⟩))
  clear hcall hr1 hc hbw
  go_loopw [10] (fun x wr => ∃ p : Nat, 1 ≤ p ∧ p ≤ n ∧ x = .int .i64 (p : Int) ∧ Hid (Fil wr w.heap.size n p) ∧ Hid (Below w.heap.size w wr) ∧ Hid (w.heap.size < wr.heap.size)) (fun x _ => n - (intOf x).toNat)
  case atStart => exact ⟨1, Nat.le_refl _, hn1, rfl, HF1, HB1, Lib.hid (by rw [HS1.out]; omega)⟩
  case round =>
    clear HF1 HB1 HS1
    obtain ⟨p, hp1, hp, rfl, hF, hb, hsz⟩ := hrel
    by_cases hlt : p < n
    · have hpn : (p : Int) < (n : Int) := by omega
      have hp0 : (1 : Int) ≤ (p : Int) := by omega
      have hsl := slice_from (g := w.heap.size) hlt
      obtain ⟨c, hc⟩ : ∃ c, Nat.min p (n - p) = c := ⟨_, rfl⟩
      have hcle : p + c ≤ n := by
        have := Nat.min_le_right p (n - p)
        have e : Nat.min p (n - p) = min p (n - p) := rfl
        omega
      have hc1 : 1 ≤ c := by
        have e : Nat.min p (n - p) = min p (n - p) := rfl
        omega
      have hcp : c ≤ p := by
        have e : Nat.min p (n - p) = min p (n - p) := rfl
        omega
      obtain ⟨w2, hr2, hF2, hB2, hs2⟩ := fil_put (W := wr.drew) (a := ⟨w.heap.size, 0, none⟩) (sl := p) (sc := n) (dl := n - p) (dc := n - p) (c := c) (hF.out.drewN 1) hc.symm hcle
        (fun j hj => by
          rw [Addr.add_lit, Nat.zero_add]
          exact (hF.out.drewN 1).cell (by omega) hp) (below_drewN hb.out 1) (Nat.le_refl _)
      have HF2 := Lib.hid hF2
      have HB2 := Lib.hid hB2
      have HS2 : Hid (w.heap.size < w2.heap.size) := Lib.hid (by rw [hs2]; exact hsz.out)
      have hcn : (c : Int) ≤ 100 := by omega
      have hwk : IntKind.i64.wrap ((p : Int) + (c : Int)) = (p : Int) + (c : Int) := by rw [IntKind.wrap_i64]; omega
      have hmin : min (p : Int) (n : Int) = (p : Int) := by omega
      clear hF2 hB2 hs2 hF hb hsz hc
      go_wp2_with fail
      go_region_law (fail)
      simp only [List.getElem_toArray, List.getElem_cons_succ, List.getElem_cons_zero, Act.put, List.setIfInBounds_toArray, List.set_cons_succ, List.set_cons_zero]
      go_wp2_with fail
      go_roundw
      case rel => first | exact ⟨p + c, by omega, hcle, by go_num, HF2, HB2, HS2⟩ | ((repeat apply Exists.intro); exact ⟨⟨p + c, by omega, hcle, by go_num, HF2, HB2, HS2⟩, rfl⟩)
      case measure => simp [intOf]; omega
    · obtain rfl : n = p := by omega
      clear hlt
      go_wp2_with fail
      go_ret
      exact ⟨⟨_, rfl, hF.out.rd hsz.out⟩, hb.out⟩
theorem repeat_zero {b : Nat} {w : World} : Calls Tryd.prog 30 #[.slice (some ⟨b, 0, none⟩) 1 1, .int .i64 0] w fun e w' => (∃ g, e = .returned (.slice (some ⟨g, 0, none⟩) 0 0) ∧ Rd .u8 w' w'.heap.size (some ⟨g, 0, none⟩) 0 (List.replicate 0 2)) ∧ Below w.heap.size w w' := by
  have hb := (Below.refl w.heap.size w).alloc (Nat.le_refl _) (.cells #[] 5)
  go_enter Tryd.func30, Tryd.ntmps30
  go_wp2_with fail
  go_ret
  exact ⟨⟨_, rfl, Rd.nil _ _ _ _⟩, hb⟩
theorem Rd.srcAt {w : World} {B n : Nat} {a : Addr} {xs : List Int} (h : Rd .u8 w B (some a) n xs) : ∀ j v, (xs.map (Value.int .u8))[j]? = some v → w.cell? (a.add j) = some v := fun j v hv => by
  rw [List.getElem?_map] at hv
  obtain ⟨y, hy, rfl⟩ := Option.map_eq_some_iff.1 hv
  obtain ⟨hj, _⟩ := List.getElem?_eq_some_iff.1 hy
  obtain ⟨b', off', he, _, hc⟩ := h.cells j (by rw [← h.len]; exact hj)
  injection he with he
  subst he
  rw [hy] at hc
  rw [Addr.add_lit]
  exact hc
/-- append of the bits onto the dummies. -/
theorem fill_run {w : World} {g N d c : Nat} {A : Option Addr} {xs : List Int} (hD : Rd .u8 w w.heap.size (some ⟨g, 0, none⟩) N (List.replicate N 2)) (hI : Rd .u8 w w.heap.size A d xs) (hd : 1 ≤ d) (hN : N ≤ 100) (hdl : d ≤ 100000) :
    ∃ A2 c2 w2, (Builtin.append_ #[33, 33] 33 #[.slice (some ⟨g, 0, none⟩) N N, .slice A d c]).run Tryd.prog w = .ok (.slice A2 (N + d) c2) w2 ∧
      w2.ownsRow w.heap.size 5 1 (.slice A2 (N + d) c2) (N + d) ((fillI N xs).map (Value.int .u8)) ∧ Below w.heap.size w w2 := by
  obtain ⟨i0, hi, hz0, hz1, hz2⟩ := info_parts Tryd.info_u8
  obtain ⟨b, off, rfl, _, _⟩ := hI.cells 0 hd
  have hr := run_append_grow (P := Tryd.prog) w 33 33 5 i0 (.int .u8 0) Tryd.underlying33 hi hz0 ⟨g, 0, none⟩ N N ((List.replicate N (2 : Int)).map (Value.int .u8)) (by simp [hz1]) hD.srcAt ⟨b, off, none⟩ d c (xs.map (Value.int .u8)) (by simp [hz1, hI.len]) hI.srcAt (by omega) (by omega) (growslice_fits (by omega) (by rw [hz2]; omega))
  have hge := grownCap_ge w (N + d) N 5
  have hcm : grownCap w (N + d) N 5 ≤ maxLen := grownCap_le_maxLen w (N + d) N 5 (by unfold maxLen; omega)
  refine ⟨_, _, _, hr, ⟨by simp [fillI, hI.len], .inr ⟨w.heap.size, _, _, rfl, Nat.le_refl _, heap_alloc_new w.drew _, hge, hcm, ?_, ?_⟩⟩, ((Below.refl _ w).drew).alloc (Nat.le_refl _) _⟩
  · simp [size_zeroCells, Value.cells, hI.len]
    omega
  · rw [Array.toList_append, Array.toList_append, Nat.mul_one]
    unfold fillI
    rw [List.map_append]
    have e : N + d = ((List.replicate N (2 : Int)).map (Value.int .u8) ++ xs.map (Value.int .u8)).length := by simp [hI.len]
    conv => lhs; rw [e]
    exact List.take_left
theorem wpListIn_append_run {F : Fence} {n : Nat} {P : Program} {w w2 : World} {ops : Array Oper} {rest : List Oper} {o : Oper} {a : Act} {Q : Exit → Act → World → Prop}
    (hg : o.guard = none) (s x : Operand) (t : TypeId) (hop : o.op = Op.call { callee := Callee.builtin Builtin.append, args := #[s, x], argTypes := #[t, t] })
    (v1 v2 v' : Value) (hs : a.eval s = v1) (hx : a.eval x = v2) (hrun : (Builtin.append_ #[t, t] o.type #[v1, v2]).run P w = .ok v' w2)
    (hK : wpListIn F n P ops Q rest (a.put o.dst v') w2) : wpListIn F n P ops Q (o :: rest) a w := by
  refine wpListIn_plain hg fun K hK' => ?_
  unfold Oper.wpIn
  refine ⟨?_, ?_⟩
  · simp [Oper.about, hop, resolve, Target.leads, Sem.run_pure]
  · rw [Oper.semAt_plain F _ _ (by rw [hop]; intro c hc'; cases hc')]
    simp [execOp, hop, resolve, invoke, builtin, hs, hx, hrun, Result.andThen]
    exact hK' _ _ hK
end Go.Proofs.YtmehfegfkjhdcaaDoor
