/-
  Split's closure: one block of the bits that are left.
-/
import Derived.Test.YtkdodmjhpkfhnaaDoorPb
namespace Go.Proofs.YtkdodmjhpkfhnaaDoor
open Go.RowKit

theorem slice_front3 {A : Option Addr} {n c m : Nat} (hm : m ≤ c) (u : World) : (Instr.slice 46 (.slice A n c) none (some (.int .i64 (m : Int))) (some (.int .i64 (m : Int)))).run Tryd.prog u = .ok (.slice A m m) u := by
  rcases A with _ | a
  · simp [Instr.slice, Instr.sliceBounds, Instr.sliceBound, run_underlying Tryd.underlying46, asIntOf, go_sem, hm]
  · simp [Instr.slice, Instr.sliceBounds, Instr.sliceBound, run_underlying Tryd.underlying46, asIntOf, go_sem, hm]
theorem slice_back {a : Addr} {n c m : Nat} (hm : m ≤ n) (u : World) : (Instr.slice 46 (.slice (some a) n c) (some (.int .i64 (m : Int))) none none).run Tryd.prog u = .ok (.slice (if c = m then some a else some (a.add m)) (n - m) (c - m)) u := by
  simp [Instr.slice, Instr.sliceBounds, Instr.sliceBound, run_underlying Tryd.underlying46, asIntOf, go_sem, hm]
/-- A row of the call's own. -/
def ZOwn (N0 : Nat) (W : World) (r : BRow) : Prop := W.ownsRow N0 5 1 (hdr r) r.n (r.xs.map (Value.int .u8))
theorem ZOwn.abides (N0 : Nat) : Abides (ZOwn N0) := fun W W' r h hb _ => by
  refine ⟨h.1, ?_⟩
  rcases h.2 with h2 | ⟨g, cap, cur, hv, hg, hh, rest⟩
  · exact .inl h2
  · refine .inr ⟨g, cap, cur, hv, hg, ?_, rest⟩
    unfold hdr at hv
    injection hv with hv _ _
    exact (hb _ hv).trans hh
/-- What Split's closure finds. -/
structure SpS (L R B0 : Nat) (l : Lay) (xs : List Int) (k : Nat) (W : World) : Prop where
  lay : LayAt W L 70 l
  ex : ∃ A m c, Boxed W R 46 (.slice A m c) ∧ m ≤ c ∧ Rd .u8 W B0 A m (xs.drop (l.off k))
theorem SpS.below {L R B0 N k : Nat} {l : Lay} {xs : List Int} {W W' : World} (h : SpS L R B0 l xs k W) (hb : Below N W W') (hL : L < N) (hR : R < N) (hB : B0 ≤ N) : SpS L R B0 l xs k W' := by
  obtain ⟨A, m, c, h1, h2, h3⟩ := h.ex
  exact ⟨h.lay.below hb hL, A, m, c, Boxed.below h1 hb hR, h2, h3.below' hb hB⟩
set_option maxRecDepth 100000 in
set_option maxHeartbeats 4000000 in
theorem split2_any {l : Lay} (hok : l.Ok) {xs : List Int} (hxl : xs.length = l.bits) (hxb : Bits xs) {L R B0 N0 k : Nat} (hLR : L ≠ R) (_hL : L < N0) (hR : R < N0) (_hB0 : B0 ≤ N0) (hRB : B0 ≤ R) (hR2 : 2 ≤ R) (hk : k < l.blocks) {w : World} (hK : Kinds w) (hN : N0 ≤ w.heap.size) (hS : SpS L R B0 l xs k w) :
    Calls Tryd.prog 41 #[.int .i64 (k : Int), .int .i64 (l.size k : Int), .pointer (some ⟨L, 0, none⟩), .pointer (some ⟨R, 0, none⟩)] w fun e w' => Save (fun i => i = R) w w' ∧
      ∃ r : BRow, e = .returned (hdr r) ∧ r.xs = l.block xs k ∧ SpS L R B0 l xs (k + 1) w' ∧ ZOwn N0 w' r ∧ (∀ a, r.a = some a → (∃ o, w'.heap[a.block]? = some o ∧ o.isCells = true) ∧ (w.heap.size ≤ a.block ∨ (a.block < N0 ∧ ¬ a.block = R))) := by
  obtain ⟨A, m, c, bR, hmc, hRd⟩ := hS.ex
  have hlay := hS.lay
  have hroom := hok.room hk
  have hoff := hok.off_le (i := k + 1) (by omega)
  rw [show l.off (k + 1) = l.off k + l.data k from rfl] at hoff
  have hm : m = l.bits - l.off k := by have := hRd.len; rw [List.length_drop, hxl] at this; omega
  have hsz := hok.size_le k
  have hfl := Lib.hid (fun (u : World) => layFiller_any (l := l) (i := k) (w := u))
  have hcs := Lib.hid (fun (u : World) (h : Below w.heap.size w u) => layChecksum_any (l := l) (hK.step h))
  obtain ⟨d, hd⟩ : ∃ d, l.data k = d := ⟨_, rfl⟩
  rw [hd] at hroom hoff
  have hdm : d ≤ m := by omega
  have hwr := Lib.hid (fun (u : World) (h : Kinds u) (hI : Rd .u8 u u.heap.size A d ((xs.drop (l.off k)).take d)) => wrap_any (c := d) (i := k) h hok.filler hI (fun x hx => hxb x (List.mem_of_mem_drop (List.mem_of_mem_take hx))) (by omega))
  have hs1 := slice_front3 (A := A) (n := m) (c := c) (m := d) (by omega)
  obtain ⟨b, off, rfl, hbB, _⟩ := hRd.cells 0 (by omega)
  have hs2 := slice_back (a := ⟨b, off, none⟩) (n := m) (c := c) hdm
  have hwe : wrapL l k ((xs.drop (l.off k)).take d) = l.block xs k := by rw [← hd]; rfl
  rw [hwe] at hwr
  have hp := hlay.all
  obtain ⟨p0, p1, p2, p3, p4, p5, p6⟩ := hp
  have hLlt := hlay.lt
  have hbd := (Below.refl w.heap.size w).drew
  obtain ⟨F, hF⟩ : ∃ F, l.fill k = F := ⟨_, rfl⟩
  obtain ⟨cs, hcse⟩ : ∃ cs, l.cs = cs := ⟨_, rfl⟩
  obtain ⟨sz, hsze⟩ : ∃ sz, l.size k = sz := ⟨_, rfl⟩
  rw [hF, hcse, hsze] at hroom
  rw [hF] at hfl
  rw [hcse] at hcs
  rw [hsze] at hsz ⊢
  have HD := Lib.hid hd
  clear hF hcse hsze hd hm
  unfold layV layA at hfl hcs
  go_enter Tryd.func41, Tryd.ntmps41
  go_wp2_with fail
  go_region_held3 (fun w' => w'.cell? ⟨L, 0, none⟩ = some (.int .i64 l.bits) ∧ w'.cell? ⟨L, 1, none⟩ = some (.int .i64 l.blocks) ∧ w'.cell? ⟨L, 2, none⟩ = some (.int .i64 l.long) ∧ w'.cell? ⟨L, 3, none⟩ = some (.int .i64 l.short) ∧ w'.cell? ⟨L, 4, none⟩ = some (.int .i64 l.longs) ∧ w'.cell? ⟨L, 5, none⟩ = some (.int .i64 l.shorts) ∧ w'.cell? ⟨L, 6, none⟩ = some (.int .i64 l.filler))
    (first
      | go_keep
      | exact ⟨(hb3.cell (Nat.lt_of_lt_of_le hLlt hbd2.size)).trans ((hb2.cell hLlt).trans p0), (hb3.cell (Nat.lt_of_lt_of_le hLlt hbd2.size)).trans ((hb2.cell hLlt).trans p1), (hb3.cell (Nat.lt_of_lt_of_le hLlt hbd2.size)).trans ((hb2.cell hLlt).trans p2), (hb3.cell (Nat.lt_of_lt_of_le hLlt hbd2.size)).trans ((hb2.cell hLlt).trans p3), (hb3.cell (Nat.lt_of_lt_of_le hLlt hbd2.size)).trans ((hb2.cell hLlt).trans p4), (hb3.cell (Nat.lt_of_lt_of_le hLlt hbd2.size)).trans ((hb2.cell hLlt).trans p5), (hb3.cell (Nat.lt_of_lt_of_le hLlt hbd2.size)).trans ((hb2.cell hLlt).trans p6)⟩
      | exact ⟨(hb2.cell hLlt).trans p0, (hb2.cell hLlt).trans p1, (hb2.cell hLlt).trans p2, (hb2.cell hLlt).trans p3, (hb2.cell hLlt).trans p4, (hb2.cell hLlt).trans p5, (hb2.cell hLlt).trans p6⟩)
    (first
      | (go_at_call 42; refine (hfl.out _).mono ?_; rintro e w2 ⟨rfl, hb2⟩; have hbd2 := hbd.trans hb2)
      | (go_at_call 43; refine (hcs.out _ hbd2).mono ?_; rintro e w3 ⟨rfl, hb3⟩))
  rename_i hHeld
  obtain ⟨y0, y1, y2, y3, y4, y5, y6⟩ := hHeld
  have hn : IntKind.i64.wrap (IntKind.i64.wrap ((sz : Int) - (F : Int)) - (cs : Int)) = (d : Int) := by
    rw [wrap_small (x := (sz : Int) - (F : Int)) (by omega) (by omega), wrap_small (by omega) (by omega)]; omega
  rw [hn]
  clear hn p0 p1 p2 p3 p4 p5 p6 hfl hcs hwe
  have hb3' := hbd2.trans (hb3.mono hbd2.size)
  have bR3 := Boxed.below bR hb3' bR.lt
  have hL3 := hlay.step hb3'
  have e0 := bR3.cell
  have e1 := bR3.frozen
  have hcut := Rd.cut hRd (lo := d) (hi := m) (cap := c) hdm (Nat.le_refl _) hmc
  rw [List.take_of_length_le (by rw [List.length_drop, hRd.len]; exact Nat.le_refl _), List.drop_drop] at hcut
  obtain ⟨A2, hA2⟩ : ∃ A2 : Option Addr, (if c = d then some (⟨b, off, none⟩ : Addr) else some ((⟨b, off, none⟩ : Addr).add d)) = A2 := ⟨_, rfl⟩
  rw [show (if c = d then some (⟨b, off, none⟩ : Addr) else Option.map (fun x => x.add d) (some (⟨b, off, none⟩ : Addr))) = A2 from hA2] at hcut
  rw [hA2] at hs2
  clear hA2
  have hLR' : ¬ R = L := fun e => hLR e.symm
  have bR4 := bR3.set (.slice A2 (m - d) (c - d))
  have hL4 := LayAt.other hL3 (p := ⟨R, 0, none⟩) hLR' (.slice A2 (m - d) (c - d))
  have hsv4 : Save (fun i => i = R) w (w3.setCell ⟨R, 0, none⟩ (.slice A2 (m - d) (c - d))) := (Save.of_below (X := fun i => i = R) hb3').setCell (p := ⟨R, 0, none⟩) (fun _ => rfl) _
  have hRlow : ∀ p : Addr, p.block < B0 → (w3.setCell ⟨R, 0, none⟩ (.slice A2 (m - d) (c - d))).cell? p = w.cell? p := fun p hp => (World.cell?_setCell_other _ _ _ _ (fun e => by subst e; simp only at hp; omega)).trans (hb3'.cell (by omega))
  have hRd4 := hcut.keep hRlow
  have hfirst : Rd .u8 w B0 (some ⟨b, off, none⟩) d ((xs.drop (l.off k)).take d) := by
    refine ⟨by rw [List.length_take, hRd.len]; omega, fun j hj => ?_⟩
    obtain ⟨b', off', e, hb', hc'⟩ := hRd.cells j (by omega)
    exact ⟨b', off', e, hb', by rw [hc', List.getElem?_take, if_pos hj]⟩
  have hK4 : Kinds (w3.setCell ⟨R, 0, none⟩ (.slice A2 (m - d) (c - d))) :=
    (hK.step hb3').keep (by simp [World.setCell]) (Below.heap_setCell _ _ _ _ (show 1 ≠ R by omega)) (Below.heap_setCell _ _ _ _ (show 0 ≠ R by omega))
  have hsz4 : w.heap.size ≤ (w3.setCell ⟨R, 0, none⟩ (.slice A2 (m - d) (c - d))).heap.size := hsv4.size
  have hw4 := Lib.hid (hwr.out _ hK4 ((hfirst.keep hRlow).more (by omega)))
  obtain ⟨x0, x1, x2, x3, x4, x5, x6⟩ := hL4.all
  unfold layV layA at hw4
  clear hwr hRd hcut hfirst
  go_wp2_with fail
  generalize hW4 : (w3.setCell ⟨R, 0, none⟩ (.slice A2 (m - d) (c - d))) = W4 at *
  refine hw4.out.mono ?_
  rintro e w5 ⟨A5, c5, rfl, ho5, hb5⟩
  have hsv5 : Save (fun i => i = R) w w5 := hsv4.trans (Save.of_below hb5)
  have bR5 := Boxed.below bR4 hb5 bR4.lt
  have hL5 := hL4.step hb5
  have hRd5 := hRd4.below' hb5 (by omega)
  clear x0 x1 x2 x3 x4 x5 x6 hw4 y0 y1 y2 y3 y4 y5 y6 e0 e1
  go_wp2_with fail
  go_ret
  refine ⟨hsv5, ⟨A5, (l.block xs k).length, c5, l.block xs k⟩, rfl, rfl, ⟨hL5, A2, m - d, c - d, bR5, by omega, by rw [show l.off (k + 1) = l.off k + l.data k from rfl, HD.out]; exact hRd5⟩, ho5.mono (by omega), fun a ha => ?_⟩
  rcases ho5.2 with ⟨hv, _⟩ | ⟨g, cap, cur, hv, hg, hh, _⟩
  · injection hv with hv _ _
    simp only at ha
    rw [hv] at ha
    cases ha
  · injection hv with hv _ _
    simp only at ha
    rw [hv] at ha
    injection ha with ha
    subst ha
    exact ⟨⟨_, hh, rfl⟩, .inl (by simp only; omega)⟩
end Go.Proofs.YtkdodmjhpkfhnaaDoor
