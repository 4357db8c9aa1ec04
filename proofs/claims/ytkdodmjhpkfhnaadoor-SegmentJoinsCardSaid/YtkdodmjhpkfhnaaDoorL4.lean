/-
  The law SegmentJoins's walk.
-/
import Derived.Test.YtkdodmjhpkfhnaaDoorL3
import Derived.Test.YtkdodmjhpkfhnaaDoorJs
import Derived.Deep.RegionLaw
namespace Go.Proofs.YtkdodmjhpkfhnaaDoor
open Go.RowKit

theorem step_append_run {P : Program} {ops : Array Oper} {o : Oper} {a : Act} {w w2 : World} {v vs vx : Value} {K : Act → World → Prop} {Q : Exit → Act → World → Prop} {E : Prop}
    (hg : o.guard = none) (s x : Operand) (t : TypeId) (hop : o.op = Op.call { callee := Callee.builtin Builtin.append, args := #[s, x], argTypes := #[t, t] }) (hs : a.eval s = vs) (hx : a.eval x = vx)
    (hrun : (Builtin.append_ #[t, t] o.type #[vs, vx]).run P w = .ok v w2) (hK : K (a.put o.dst v) w2) :
    if Region.wanted o (yielded ops a.tmps) = true then Oper.wp P o a w K Q else E := by
  have hw : Region.wanted o (yielded ops a.tmps) = true := by simp [Region.wanted, hg]
  rw [if_pos hw]
  unfold Oper.wp
  simp [execOp, hop, resolve, invoke, builtin, hs, hx, hrun, Result.andThen]
  exact hK
theorem u8_wrap (y : Int) : 0 ≤ IntKind.u8.wrap y ∧ IntKind.u8.wrap y ≤ 255 := by
  simp only [IntKind.wrap, IntKind.signed, IntKind.bits]
  simp
  omega
theorem slice_rows_front {A : Option Addr} {n c m : Nat} (hm : m ≤ c) (u : World) : (Instr.slice 48 (.slice A n c) none (some (.int .i64 (m : Int))) none).run Tryd.prog u = .ok (.slice A m c) u := by
  rcases A with _ | a
  · simp [Instr.slice, Instr.sliceBounds, Instr.sliceBound, run_underlying Tryd.underlying48, asIntOf, go_sem, hm]
  · simp [Instr.slice, Instr.sliceBounds, Instr.sliceBound, run_underlying Tryd.underlying48, asIntOf, go_sem, hm]
theorem slice_rows_back {a : Addr} {n c m : Nat} (hm : m ≤ n) (u : World) : (Instr.slice 48 (.slice (some a) n c) (some (.int .i64 (m : Int))) none none).run Tryd.prog u = .ok (.slice (if c = m then some a else some (a.add m)) (n - m) (c - m)) u := by
  simp [Instr.slice, Instr.sliceBounds, Instr.sliceBound, run_underlying Tryd.underlying48, asIntOf, go_sem, hm]
theorem JnOk.step {w W W' : World} {A : Option Addr} {n : Nat} {rows : List BRow} (h : JnOk w W A n rows) (hb : Below W.heap.size W W') : JnOk w W' A n rows :=
  ⟨h.rds.step hb, h.below.trans (hb.mono h.below.size), h.few, h.byt, h.cap⟩
theorem both {w W : World} {A : Option Addr} {n : Nat} {rows : List BRow} (hK : Kinds w) (h : JnOk w W A n rows) (nb : Int) :
    ∃ (ys : List Int) (z : Int), (∀ c, Calls Tryd.prog 27 #[.int .i64 nb, .slice A n c] W (RetBytes 5 W (ys, z))) ∧
      ∀ c u, Below W.heap.size W u → Calls Tryd.prog 28 #[.int .i64 nb, .slice A n c] u (RetBytes 5 u (ys, z)) :=
  ⟨(joinS nb rows).1, (joinS nb rows).2, fun _ => Join_any (hK.step h.below) h.rds (by have := h.few; omega) h.byt h.cap, fun _ u hu => refJoin_any (h.step hu).rds (by have := h.few; omega) h.byt h.cap⟩
theorem byte_set {xs : List Int} {k : Nat} {v : Int} (h : Byte xs) (hv : 0 ≤ v ∧ v ≤ 255) : Byte (xs.set k v) := Byte.of_mem (fun x hx => by
  rcases List.mem_or_eq_of_mem_set hx with h1 | h1
  · exact h.mem x h1
  · subst h1; exact hv)
theorem byte_snoc {xs : List Int} {v : Int} (h : Byte xs) (hv : 0 ≤ v ∧ v ≤ 255) : Byte (xs ++ [v]) := Byte.of_mem (fun x hx => by
  rcases List.mem_append.1 hx with h1 | h1
  · exact h.mem x h1
  · rw [List.mem_singleton.1 h1]; exact hv)
theorem all_set {rows : List BRow} {k : Nat} {r' : BRow} {p : BRow → Prop} (h : ∀ r ∈ rows, p r) (hr : p r') : ∀ r ∈ rows.set k r', p r := fun r hm => by
  rcases List.mem_or_eq_of_mem_set hm with h1 | h1
  · exact h r h1
  · subst h1; exact hr
set_option maxRecDepth 100000 in
set_option maxHeartbeats 4000000 in
theorem joins_walk {a b p q nb blk pos y : Int} {out : Bool} {w : World} (hK : Kinds w) (hq : 0 ≤ q ∧ q ≤ 255) :
    Calls Tryd.prog 7 #[.agg #[.int .i64 a, .int .i64 b, .int .i64 p, .int .u8 q], .int .i64 nb, .int .i64 blk, .int .i64 pos, .int .i64 y, .bool out] w fun e w' => e = .returned (.bool true) ∧ Below w.heap.size w w' := by
  have hP := Lib.hid (fun (u : World) => patBits_any (a := a) (b := b) (p := p) (w := u) hq)
  have hW := Lib.hid (fun (u : World) (h : Below w.heap.size w u) => works_any (hK.step h))
  have hB := Lib.hid (fun (u : World) (A : Option Addr) (n : Nat) (rows : List BRow) (h : JnOk w u A n rows) => both hK h nb)
  go_enter Tryd.func7, Tryd.ntmps7
  go_wp2_with fail
  refine (hP.out _).mono ?_
  rintro e w1 ⟨A1, n, c1, xs, rfl, hn, ho1, hx, hb1⟩
  have hb00 := (Below.refl w.heap.size w).alloc (Nat.le_refl _) (.cells #[.int .i64 a, .int .i64 b, .int .i64 p, .int .u8 q] 45)
  replace hb1 := hb00.trans (hb1.mono hb00.size)
  clear hb00
  have hc1 := own_cap' ho1
  have hr1 := Rd.of_own ho1
  have hS := Lib.hid (refSplit_any (c := c1) hr1 hc1 hx)
  clear ho1
  go_wp2_with fail
  refine hS.out.mono ?_
  intro e w3 h3
  obtain ⟨⟨xss, z⟩, hz⟩ : ∃ r, splitS xs = r := ⟨_, rfl⟩
  rw [hz] at h3
  have hbyt := splitS_byte hx
  have hlen := splitS_len xs
  rw [hz] at hbyt hlen
  obtain ⟨m, hm⟩ : ∃ m, xss.length = m := ⟨_, rfl⟩
  obtain ⟨A3, c3, rows, rfl, hO3, hm3⟩ := h3.got hm
  simp only at hlen
  rw [hm] at hlen
  have hbr : ∀ r ∈ rows, Byte r.xs ∧ r.n ≤ 6144 := fun r hr => by
    have h1 := hbyt r.xs (by simp only; rw [← hm3]; exact List.mem_map_of_mem hr)
    have h2 : r.xs.length = r.n := by have := (hO3.row r hr).1; simpa using this
    exact ⟨h1.1, by omega⟩
  have hJ0 := hO3.jnOk hb1 (by omega) (fun r hr => ⟨(hbr r hr).1, by have := (hbr r hr).2; omega⟩)
  clear h3 hS hP hr1 hc1 hx hz hbyt hm hm3
  simp only
  have hcase : (blk < 0) ∨ (0 ≤ blk ∧ (m : Int) ≤ blk) ∨ (0 ≤ blk ∧ blk < (m : Int)) := by omega
  have hv := u8_wrap y
  rcases hcase with hc | ⟨hc, hc'⟩ | ⟨hc, hc'⟩
  case' inl =>
    have hJ5 := Lib.hid hJ0
    clear hJ0 hO3
    go_wp2_with fail
  case' inr.inl =>
    have hc2 : ¬ blk < (m : Int) := by omega
    have hJ5 := Lib.hid hJ0
    clear hJ0 hO3
    go_wp2_with fail
  case' inr.inr =>
    obtain ⟨k, rfl⟩ : ∃ k : Nat, blk = k := ⟨blk.toNat, by omega⟩
    have hkm : k < m := by omega
    obtain ⟨g0, off0, r, rfl, hg0, hr, hcr, hRr⟩ := hO3.rds.cells k hkm
    have hoff : off0 = 0 := by
      obtain ⟨g, cap, hv, _, _⟩ := hO3.own.form (by omega)
      injection hv with hv
      injection hv with hv
      injection hv
    subst hoff
    have hcm : m ≤ c3 := own_cap' hO3.own
    have hrm := List.mem_of_getElem? hr
    have hz := hO3.row r hrm
    have hrn := (hbr r hrm).2
    have hrb := (hbr r hrm).1
    have hr0 : r.n = 0 ∨ ∃ g, r.a = some ⟨g, 0, none⟩ := by
      rcases Nat.eq_zero_or_pos r.n with h | h
      · exact .inl h
      · obtain ⟨g, cap, hv, _, _⟩ := hz.form (by omega)
        unfold hdr at hv
        injection hv with hv
        exact .inr ⟨g, hv⟩
    rw [Nat.zero_add] at hcr
    have hk0 : (0 : Int) ≤ (k : Int) := by omega
    have hcap := hO3.cap
    cases out
    case' true =>
      have hs1 := slice_rows_front (A := some ⟨g0, 0, none⟩) (n := m) (c := c3) (m := k) (by omega)
      have hs2 := slice_rows_back (a := ⟨g0, 0, none⟩) (n := m) (c := c3) (m := k + 1) (by omega)
      obtain ⟨A6, c6, w6, run6, A7, c7, w7, run7, rds7, bel7⟩ := rows_cut (u := w3) hO3.rds (c := c3) (by omega) hkm hcm
      have hJ5 : Hid (JnOk w w7 A7 (m - 1) (rows.take k ++ rows.drop (k + 1))) := Lib.hid ⟨rds7, hJ0.below.trans (bel7.mono hJ0.below.size), by omega, fun r hr => hJ0.byt r (by
        rcases List.mem_append.1 hr with h | h
        · exact List.mem_of_mem_take h
        · exact List.mem_of_mem_drop h), fun r hr => hJ0.cap r (by
        rcases List.mem_append.1 hr with h | h
        · exact List.mem_of_mem_take h
        · exact List.mem_of_mem_drop h)⟩
      obtain ⟨A2, hA2⟩ : ∃ A2, (if c3 = k + 1 then some (⟨g0, 0, none⟩ : Addr) else some ((⟨g0, 0, none⟩ : Addr).add (k + 1))) = A2 := ⟨_, rfl⟩
      rw [hA2] at hs2 run7
      rw [show ((k + 1 : Nat) : Int) = (k : Int) + 1 by omega] at hs2
      have hwk : IntKind.i64.wrap ((k : Int) + 1) = (k : Int) + 1 := wrap_small (by omega) (by omega)
      have HR6 := Lib.hid run6
      have HR7 := Lib.hid run7
      clear hA2
      clear run6 run7 rds7 bel7 hr0 hz hcr hRr hrm hr hO3 hbr hcap hrb hJ0
      go_wp2_with fail
      go_region_law (first | (refine step_append_run rfl (.tmp 35) (.tmp 38) 48 rfl rfl rfl HR6.out ?_) | (refine step_append_run rfl (.tmp 39) (.tmp 43) 48 rfl rfl rfl HR7.out ?_))
      go_wp2_with fail
    case' false =>
      have hcase2 : (0 ≤ pos ∧ (r.n : Int) ≤ pos) ∨ (0 ≤ pos ∧ pos < (r.n : Int)) ∨ pos < 0 := by omega
      rcases hcase2 with ⟨hp, hp'⟩ | ⟨hp, hp'⟩ | hp
    case' false.inl =>
      have hJ5 := Lib.hid hJ0
      have hp2 : ¬ pos < (r.n : Int) := by omega
      have hp3 : ¬ pos < 0 := by omega
      clear hJ0 hO3 hbr hcap hr0 hz hrb hr hRr hrm
      go_wp2_with fail
    case' false.inr.inl =>
      obtain ⟨i, rfl⟩ : ∃ i : Nat, pos = i := ⟨pos.toNat, by omega⟩
      have hin : i < r.n := by omega
      obtain ⟨g, hg⟩ : ∃ g, r.a = some ⟨g, 0, none⟩ := by
        rcases hr0 with h | h
        · omega
        · exact h
      obtain ⟨rn, hrn'⟩ : ∃ rn, r.n = rn := ⟨_, rfl⟩
      obtain ⟨rc, hrc'⟩ : ∃ rc, r.c = rc := ⟨_, rfl⟩
      rw [hg, hrn', hrc'] at hcr
      obtain ⟨b9, off9, e9, hb9, hc9⟩ := hRr.cells i hin
      rw [hg] at e9
      injection e9 with e9
      injection e9 with e9 e10
      subst e9 e10
      rw [Nat.zero_add] at hc9
      have hfz : w3.frozen? ⟨g, i, none⟩ = false := by
        unfold ZOwn hdr at hz
        rw [hg] at hz
        exact World.ownsRow.frozenAt hz i
      have hJ5 : Hid (JnOk w (w3.setCell ⟨g, i, none⟩ (.int .u8 (IntKind.u8.wrap y))) (some ⟨g0, 0, none⟩) m (rows.set k ⟨r.a, r.n, r.c, r.xs.set i (IntKind.u8.wrap y)⟩)) :=
        Lib.hid ((hO3.stored hr hg).jnOk hb1 (by omega) (all_set hJ0.byt ⟨byte_set hrb hv, by show r.n ≤ 1000000; omega⟩))
      rw [hrn'] at hp' hin hrn
      have hi0 : (0 : Int) ≤ (i : Int) := by omega
      clear hJ0 hO3 hbr hcap hr0 hz hrb hr hRr hrm hrn' hrc' hg
      go_wp2_with fail
    case' false.inr.inr =>
      have hRr2 := hRr
      obtain ⟨A6, c6, w6, run6, own6, bel6⟩ := copy_run (c := r.c) hRr (by omega)
      obtain ⟨A7, c7, w7, run7, own7, bel7⟩ := bytes_app (x := IntKind.u8.wrap y) own6 bel6 (by omega)
      have hO7 := hO3.put (k := k) (r' := ⟨A7, r.n + 1, c7, r.xs ++ [IntKind.u8.wrap y]⟩) hkm bel7 own7
      have hJ5 : Hid (JnOk w (w7.setCell ⟨g0, k, none⟩ (.slice A7 (r.n + 1) c7)) (some ⟨g0, 0, none⟩) m (rows.set k ⟨A7, r.n + 1, c7, r.xs ++ [IntKind.u8.wrap y]⟩)) :=
        Lib.hid (hO7.jnOk hb1 (by omega) (all_set hJ0.byt ⟨byte_snoc hrb hv, by show r.n + 1 ≤ 1000000; omega⟩))
      have HR6 := Lib.hid run6
      have HR7 := Lib.hid run7
      have hc7 : w7.cell? ⟨g0, k, none⟩ = some (.slice r.a r.n r.c) := (bel7.cell (show g0 < w3.heap.size from hg0)).trans hcr
      have hf7 : w7.frozen? ⟨g0, k, none⟩ = false := (World.frozen?_of_block (bel7.block g0 hg0)).trans (hO3.own.frozenAt k)
      have hp2 : ¬ (0 : Int) ≤ pos := by omega
      clear hJ0 hO3 hbr hcap hr0 hz hrb hr hRr hRr2 hrm run6 run7 own6 own7 bel6 bel7 hO7
      go_wp2_with (at_builtin; first | (refine Lib.wpList_append_run _ rfl _ _ _ _ rfl _ _ rfl rfl _ _ HR6.out ?_) | (refine Lib.wpList_append_run _ rfl _ _ _ _ rfl _ _ rfl rfl _ _ HR7.out ?_))
  all_goals
    obtain ⟨ys, z2, hJa, hJb⟩ := hB.out _ _ _ _ hJ5.out
    have HJb := Lib.hid hJb
    have hbw := hJ5.out.below
    clear hJb hJ5 hB
    refine (hJa _).mono ?_
    intro e w5 h5
    obtain ⟨l5, hl5⟩ : ∃ l5, ys.length = l5 := ⟨_, rfl⟩
    obtain ⟨A5, c5, rfl, own5, hb5⟩ := h5.got hl5
    have hr5 := Rd.of_own own5
    clear hJa h5 own5
    go_wp2_with fail
    refine (HJb.out _ _ hb5).mono ?_
    intro e w6 h6
    obtain ⟨A6, c6, rfl, own6, hb6⟩ := h6.got hl5
    have hr6 := Rd.of_own own6
    have k1 := (hr5.step hb6).convert (P := Tryd.prog) Tryd.underlying46 Tryd.underlying5 c5 9 Tryd.underlying9
    have k2 := hr6.convert (P := Tryd.prog) Tryd.underlying46 Tryd.underlying5 c6 9 Tryd.underlying9
    generalize strOfNums ys = st at *
    have hbz := hbw.trans ((hb5.trans (hb6.mono hb5.size)).mono hbw.size)
    clear h6 own6 hr5 hr6 hb5 hb6 HJb hl5 hbw
    go_wp2_with (go_at_call 17; refine num_any.mono ?_; rintro e w7 ⟨rfl, rfl⟩)
    refine (hW.out _ hbz).mono ?_
    rintro e w9 ⟨rfl, hb9⟩
    replace hb9 := hbz.trans (hb9.mono hbz.size)
    go_wp2_with fail
    go_ret
    exact ⟨rfl, hb9⟩
end Go.Proofs.YtkdodmjhpkfhnaaDoor
