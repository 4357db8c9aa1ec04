/-
  Walk and its iterator.
-/
import Derived.Test.YtjehfdnkdfmmbaaR2
namespace Go.Proofs.Ytjehfdnkdfmmbaa
open Go.RowKit Go.Shelf BigFrame

attribute [local go_sem] Oper.semAt_some

theorem vlen_gt {xs : List Int} {k : Nat} (hk : k < xs.length) (h : ∀ j, j < k + 1 → xs[j]?.getD 0 ≤ 1) : k < vlen xs := by
  induction xs generalizing k with
  | nil => simp at hk
  | cons x xs ih =>
    have hx : x ≤ 1 := by simpa using h 0 (by omega)
    cases k with
    | zero => simp [vlen, hx]
    | succ k =>
      have := ih (k := k) (by simpa using hk) (fun j hj => by simpa using h (j + 1) (by omega))
      unfold vlen at this ⊢
      simp [hx]
      omega
set_option maxHeartbeats 1000000 in
theorem Walk_any {A : Option Addr} {n c : Nat} {xs : List Int} {w : World} (hI : Rd .u8 w w.heap.size A n xs) (hn : n ≤ 2199023255552) :
    Calls Try.prog 27 #[.slice A n c] w fun e w' => ∃ A2 c2 C, e = .returned (.func (.func 40) #[] #[.pointer (some ⟨C, 0, none⟩)]) ∧ Boxed w' C 36 (.slice A2 n c2) ∧ w.heap.size ≤ C ∧
      w'.ownsRow w.heap.size 5 1 (.slice A2 n c2) n (xs.map (Value.int .u8)) ∧ Below w.heap.size w w' := by
  have hC := Lib.hid (clone_any (c := c) hI hn)
  have hmf := makeFunc_run
  clear hI
  go_enter Try.func27, Try.ntmps27
  go_wp2_with fail
  refine hC.out.mono ?_
  rintro e w1 ⟨A2, c2, rfl, hO, hb⟩
  have bx := Boxed.new w1 36 (.slice A2 n c2)
  have hO2 := hO.alloc (.cells #[.slice A2 n c2] 36)
  have hb2 := hb.alloc hb.size (.cells #[.slice A2 n c2] 36)
  have hsz := hb.size
  clear hC hO hb
  go_wp2_with fail
  go_ret
  exact ⟨A2, c2, w1.heap.size, rfl, bx, hsz, hO2, hb2⟩
/-- Where Walk's iterator is. -/
structure WkI (B : Nat) (V V2 : Value) (xs : List Int) (J : Nat → World → Prop) (k : Nat) (W : World) : Prop where
  bits : ∀ j, j < k → xs[j]?.getD 0 ≤ 1
  ybox : Boxed W B 35 V
  sbox : Boxed W (B + 1) 36 V2
  inv : J k W
set_option maxRecDepth 100000 in
set_option maxHeartbeats 4000000 in
theorem walk_runs {n lp : Nat} (hn : 5 ≤ n) {xs : List Int} {A : Option Addr} {L c C Bx : Nat} {J : Nat → World → Prop} {Jx : World → Prop} {W : World} (hb : Byte xs) (hL : L ≤ 140737488355328)
    (hC : ∀ W1, J 0 W1 → W1.cell? ⟨C, 0, none⟩ = some (.slice A L c))
    (hR : ∀ k W1, J k W1 → Rd .u8 W1 Bx A L xs)
    (hJ : OwnFrom W.heap.size J) (hJx : OwnFrom W.heap.size (fun (_ : Unit) => Jx)) (hS : SpanFrom W.heap.size 5 J)
    (hY : ∀ k W1, k < vlen xs → J k W1 → W.heap.size + 5 ≤ W1.heap.size → YieldAt Fence.wide (n - 1) Try.prog lp #[.int .i64 (stK xs (k + 1) : Nat), .int .i64 (paK xs k)] W1 fun e W' =>
      (e = .returned (.bool true) ∧ J (k + 1) W' ∧ KeepsFrom W.heap.size W1 W' ∧ KeepsSpan W.heap.size 5 W1 W') ∨ (e = .returned (.bool false) ∧ Jx W' ∧ KeepsFrom W.heap.size W1 W'))
    (h0 : J 0 W) :
    CallsIn Fence.wide n Try.prog 40 #[.func (.yield lp) #[] #[], .pointer (some ⟨C, 0, none⟩)] W fun e W' =>
      (∃ v, e = .returned v) ∧ (J (vlen xs) W' ∨ Jx W') := by
  have hst := Lib.hid (fun (u : World) => steps_any (A := A) (n := L) (c := c) (w := u))
  refine callsIn_of_wp_marks Try.func40 rfl trivial ?_ rfl
  simp only [Try.ntmps40, List.size_toArray, List.length_cons, List.length_nil, Nat.reduceAdd, Nat.reduceSub, Array.replicate_succ, Array.replicate_zero, List.push_toArray, List.append_toArray, List.nil_append, List.cons_append]
  have bY := Boxed.new W 35 (.func (.yield lp) #[] #[])
  have j1 := hJ.alloc (.cells #[.func (.yield lp) #[] #[]] 35) h0
  have c1 := hC _ j1
  have hs1 : (W.alloc (.cells #[.func (.yield lp) #[] #[]] 35)).heap.size = W.heap.size + 1 := by simp
  gi_wp2
  refine wpIn_wide_scope ?_
  gi_wp2
  refine wpIn_label ?_
  generalize W.alloc (.cells #[.func (.yield lp) #[] #[]] 35) = W1 at *
  gi_wp2
  refine ⟨trivial, fun _ => by omega, ?_⟩
  refine (callsIn_wide.2 (hst.out _)).mono ?_
  rintro e w2 ⟨rfl, rfl⟩
  rw [hs1]
  have bY2 := bY.alloc (.cells #[.slice A L c] 36)
  have bS2 := Boxed.new W1 36 (.slice A L c)
  rw [hs1] at bS2
  have j2 := hJ.alloc (.cells #[.slice A L c] 36) j1
  have hs2 : (W1.alloc (.cells #[.slice A L c] 36)).heap.size = W.heap.size + 2 := by simp [hs1]
  generalize W1.alloc (.cells #[.slice A L c] 36) = W2 at *
  clear bY j1 c1 hs1 hst h0
  gi_wp2
  refine wpIn_steps (n := n) (xs := xs) (A := A) (L := L) (c := c) (C := W.heap.size + 1) (Bx := Bx) (by omega) hb hL rfl rfl
    (WkI W.heap.size (.func (.yield lp) #[] #[]) (.slice A L c) xs J) (fun cd W' => cd = .exit 0 ∧ (J (vlen xs) W' ∨ Jx W'))
    ?own1 ?own2 ?span (fun _ h => h.sbox.cell) (fun k W' h => hR k W' h.inv) ⟨fun j hj => absurd hj (Nat.not_lt_zero j), bY2, bS2, j2⟩
    (fun k => { tmps := #[.func (.yield lp) #[] #[], .pointer (some ⟨C, 0, none⟩), .pointer (some ⟨W.heap.size, 0, none⟩), .int .i64 (stK xs (k + 1) : Nat), .int .i64 (paK xs k), .slice A L c, .func (.func 42) #[] #[.pointer (some ⟨W.heap.size + 1, 0, none⟩)], .int .i64 (stK xs (k + 1) : Nat), .int .i64 (paK xs k), undef, undef, undef, undef, undef, undef, undef, undef, undef], defers := [] })
    ?assign ?body ?done ?stop
  case own1 =>
    intro k A' B' row h hg hr
    have hr' : ∀ r, row = some r → ∃ o : Obj, A'.heap[r]? = some o ∧ o.isCells = false := fun r e => (hr r e).2
    exact ⟨h.bits, (cells_kept h.ybox hg hr').trans h.ybox, (cells_kept h.sbox hg hr').trans h.sbox, (ownFrom_more hJ (show W.heap.size ≤ W2.heap.size by omega)) k A' B' row h.inv hg hr⟩
  case own2 =>
    rintro cd u A' B' row ⟨h1, h2⟩ hg hr
    exact ⟨h1, h2.imp (fun h => (ownFrom_more hJ (show W.heap.size ≤ W2.heap.size by omega)) _ A' B' row h hg hr) (fun h => (ownFrom_more hJx (show W.heap.size ≤ W2.heap.size by omega)) () A' B' row h hg hr)⟩
  case span =>
    rw [hs2]
    intro k A' B' r h hg hr1 hr2
    exact ⟨h.bits, (hg.block _ (Array.getElem?_eq_some_iff.1 h.ybox).1 (fun e => by injection e with e; omega)).trans h.ybox, (hg.block _ (Array.getElem?_eq_some_iff.1 h.sbox).1 (fun e => by injection e with e; omega)).trans h.sbox, hS k A' B' r h.inv hg (by omega) (by omega)⟩
  case assign =>
    intro l' j W' K hK
    gi_wp2
    exact hK
  case body =>
    intro l' k W' hk hI hbig
    rw [hs2] at hbig
    have hkl : k < xs.length := by rw [(hR k W' hI.inv).len]; exact hk
    have s8 := stK_lt hb k
    have hxk := hb k
    have hpa : paK xs k = goP (stK xs k) (xs[k]?.getD 0) := rfl
    have cY := hI.ybox.cell
    by_cases hx1 : xs[k]?.getD 0 ≤ 1
    · have hbits : ∀ j, j < k + 1 → xs[j]?.getD 0 ≤ 1 := fun j hj => by
        rcases Nat.lt_or_ge j k with h | h
        · exact hI.bits j h
        · obtain rfl : j = k := by omega
          exact hx1
      have e2 : paK xs k = ((parS7 (stK xs k) (xs[k]?.getD 0).toNat : Nat) : Int) := by rw [hpa]; unfold goP; rw [if_pos hx1]
      obtain ⟨fn, tmps, assign, body, hy, hRd⟩ := yield_any (l2 := l') (m' := n - 1 - 1 - 1) (hY k W' (vlen_gt hkl hbits) hI.inv (by omega))
      have HB := Lib.hid hbits
      have HY := Lib.hid hI.ybox
      have HS := Lib.hid hI.sbox
      rw [e2] at hy ⊢
      generalize parS7 (stK xs k) (xs[k]?.getD 0).toNat = p at *
      generalize stK xs (k + 1) = nx at *
      have hp1 : ((p : Int) == -1) = false := by simp
      clear hbits e2 hpa hx1 hxk s8 hb hI j2 bY2 bS2
      gi_wp2
      refine ⟨fun h => (by cases h), hRd.mono ?_⟩
      rintro e W3 (⟨rfl, hJ4, hk4, hsp⟩ | ⟨rfl, hJx4, hk4⟩)
      · have F := Lib.hid (And.intro (keepsFrom_more hk4 (show W.heap.size ≤ W2.heap.size by omega)) (And.intro (show W3.heap[W2.heap.size + 2]? = W'.heap[W2.heap.size + 2]? by rw [hs2]; exact hsp _ (by omega) (by omega)) (show WkI W.heap.size (.func (.yield lp) #[] #[]) (.slice A L c) xs J (k + 1) W3 from ⟨HB.out, (hsp _ (Nat.le_refl _) (by omega)).trans HY.out, (hsp _ (by omega) (by omega)).trans HS.out, hJ4⟩)))
        clear hJ4 hk4 hsp hy hRd
        gi_wp2
        exact F.out
      · have F := Lib.hid (And.intro (keepsFrom_more hk4 (show W.heap.size ≤ W2.heap.size by omega)) hJx4)
        clear hJx4 hk4 hy hRd
        gi_wp2
        exact ⟨F.out.1, rfl, .inr F.out.2⟩
    · obtain ⟨v1, _⟩ := vlen_bad hkl hI.bits hx1
      have e2 : paK xs k = -1 := by rw [hpa]; unfold goP; rw [if_neg hx1]
      have F : Hid (J (vlen xs) W') := Lib.hid (by rw [v1]; exact hI.inv)
      rw [e2]
      generalize stK xs (k + 1) = nx at *
      clear hI e2 hpa v1 hb hxk s8 j2 bY2 bS2
      gi_wp2
      refine ⟨fun _ h => (by cases h), ?_⟩
      gi_wp2
      exact ⟨KeepsFrom.refl _ _, rfl, .inl F.out⟩
  case done =>
    intro D W' hD hI hKD
    have hln := (hR L W' hI.inv).len
    obtain ⟨v1, _⟩ := vlen_all (xs := xs) (fun j hj => hI.bits j (by rw [← hln]; exact hj))
    have F : Hid (J (vlen xs) W') := Lib.hid (by rw [v1, hln]; exact hI.inv)
    clear hI
    gi_wp2
    exact leaves_one hKD ⟨_, results_none rfl _ _ _, ⟨_, rfl⟩, .inl ((ownFrom_more hJ (show W.heap.size ≤ W2.heap.size by omega)).putObj _ F.out (by rw [hD]; exact Nat.le_refl _) hKD rfl)⟩
  case stop =>
    rintro D cd W' hD ⟨rfl, hx⟩ hKD
    have F := Lib.hid hx
    clear hx
    gi_wp2
    exact leaves_one hKD ⟨_, results_none rfl _ _ _, ⟨_, rfl⟩, F.out.imp (fun h => (ownFrom_more hJ (show W.heap.size ≤ W2.heap.size by omega)).putObj _ h (by rw [hD]; exact Nat.le_refl _) hKD rfl) (fun h => (ownFrom_more hJx (show W.heap.size ≤ W2.heap.size by omega)).putObj (s := ()) _ h (by rw [hD]; exact Nat.le_refl _) hKD rfl)⟩
end Go.Proofs.Ytjehfdnkdfmmbaa
