/-
  Word.
-/
import Derived.Test.YtjehfdnkdfmmbaaT6
import Derived.Test.YtjehfdnkdfmmbaaT7
namespace Go.Proofs.Ytjehfdnkdfmmbaa
open Go.RowKit

def intsOf (l : List Nat) : List Int := l.map fun x : Nat => (x : Int)
theorem intsOf_length (l : List Nat) : (intsOf l).length = l.length := by simp [intsOf]
/-- The word of valid bits; Word's results. -/
def wordI (xs : List Int) : List Int := xs ++ (paL xs xs.length ++ (intsOf (tailU (stK xs xs.length)) ++ intsOf (tailZ (stK xs xs.length))))
def wordS (xs : List Int) : List Int × Int := if validB xs then (wordI xs, 0) else ([], 3)
theorem wordI_length (xs : List Int) : (wordI xs).length = 2 * xs.length + 6 := by
  unfold wordI tailZ
  simp only [List.length_append, paL_length, intsOf_length, parL_length]
  simp [tailU]
  omega
theorem slice_arr3 (B : Nat) (u : World) : (Instr.sliceAt 25 (.pointer (some ⟨B, 0, none⟩)) none none none).run Try.prog u = .ok (.slice (some ⟨B, 0, none⟩) 3 3) u := by kernel_rfl
theorem Three.rd {w : World} {B : Nat} {t : TypeId} {a b c : Nat} (h : Three w B t (.int .u8 (a : Int)) (.int .u8 (b : Int)) (.int .u8 (c : Int))) : Rd .u8 w w.heap.size (some ⟨B, 0, none⟩) 3 (intsOf [a, b, c]) := by
  refine ⟨rfl, fun k hk => ⟨B, 0, rfl, h.lt, ?_⟩⟩
  rw [Nat.zero_add]
  obtain rfl | rfl | rfl : k = 0 ∨ k = 1 ∨ k = 2 := by omega
  · exact h.cell0
  · exact h.cell1
  · exact h.cell2
set_option maxHeartbeats 4000000 in
theorem Word_ok {A : Option Addr} {n c : Nat} {xs : List Int} {w : World} (hI : Rd .u8 w w.heap.size A n xs) (hb : Byte xs) (hn : n ≤ 2199023255552) (hv : validB xs = true) :
    Calls Try.prog 19 #[.slice A n c] w (RetBytes 5 w (wordI xs, 0)) := by
  have hE := Lib.hid (Encode_any (c := c) hI hb hn)
  have hs8 := stK_lt hb xs.length
  have hT := Lib.hid (fun (u : World) => Tail_ok (w := u) hs8)
  have e1 : encR xs = paL xs n := by unfold encR; rw [if_pos hv, hI.len]
  have e2 : encN xs = stK xs xs.length := by unfold encN; rw [if_pos hv]
  have e3 : encE xs = 0 := by unfold encE; rw [if_pos hv]
  rw [e1, e2, e3] at hE
  have hWI : Hid (∀ U Z : List Nat, tailU (stK xs xs.length) = U → tailZ (stK xs xs.length) = Z → wordI xs = xs ++ (paL xs n ++ (intsOf U ++ intsOf Z))) := Lib.hid (fun U Z h1 h2 => by unfold wordI; rw [h1, h2, hI.len])
  obtain ⟨u0, u1, u2, hU⟩ : ∃ a b c, tailU (stK xs xs.length) = [a, b, c] := ⟨_, _, _, rfl⟩
  obtain ⟨z0, z1, z2, hZ⟩ : ∃ a b c, tailZ (stK xs xs.length) = [a, b, c] := ⟨_, _, _, rfl⟩
  have HW := Lib.hid (hWI.out _ _ hU hZ)
  rw [hU, hZ, b3_eq, b3_eq] at hT
  have hPL := Lib.hid (paL_length xs n)
  have HI := Lib.hid hI
  have HLn : Hid ((wordI xs).length = n + (n + 6)) := Lib.hid (by rw [wordI_length, hI.len]; omega)
  clear e1 e2 e3 hI hb hv hU hZ hWI
  generalize stK xs xs.length = s at *
  generalize paL xs n = ps at *
  have hsl := slice_arr3
  go_enter Try.func19, Try.ntmps19
  go_wp2_with fail
  refine hE.out.mono ?_
  rintro e w1 ⟨A1, c1, rfl, hO1, hb1⟩
  rw [hPL.out] at hO1 ⊢
  have R1 := Rd.of_own hO1
  have RI := HI.out.step hb1
  clear hE hO1 HI
  go_wp2_with fail
  refine (hT.out _).mono ?_
  rintro e w2 ⟨rfl, hb2⟩
  have R2 := R1.step hb2
  have RI2 := RI.step hb2
  have hb02 := hb1.trans (hb2.mono hb1.size)
  clear R1 RI hb1 hb2 hT
  have t1 := (Three.new w2 25 (.int .u8 (u0 : Int)) (.int .u8 (u1 : Int)) (.int .u8 (u2 : Int))).alloc (.cells #[.int .u8 (z0 : Int), .int .u8 (z1 : Int), .int .u8 (z2 : Int)] 25)
  have t2 := Three.new (w2.alloc (.cells #[.int .u8 (u0 : Int), .int .u8 (u1 : Int), .int .u8 (u2 : Int)] 25)) 25 (.int .u8 (z0 : Int)) (.int .u8 (z1 : Int)) (.int .u8 (z2 : Int))
  rw [World.size_alloc] at t2
  have hb22 : Below w2.heap.size w2 ((w2.alloc (.cells #[.int .u8 (u0 : Int), .int .u8 (u1 : Int), .int .u8 (u2 : Int)] 25)).alloc (.cells #[.int .u8 (z0 : Int), .int .u8 (z1 : Int), .int .u8 (z2 : Int)] 25)) := below_two _ _
  have hb03 := hb02.trans (hb22.mono hb02.size)
  have R3 := R2.step hb22
  have RI3 := RI2.step hb22
  clear R2 RI2 hb02 hb22
  go_wp2_with fail
  generalize hW3 : (w2.alloc (.cells #[.int .u8 (u0 : Int), .int .u8 (u1 : Int), .int .u8 (u2 : Int)] 25)).alloc (.cells #[.int .u8 (z0 : Int), .int .u8 (z1 : Int), .int .u8 (z2 : Int)] 25) = w3 at *
  go_still_tail 4, (by kernel_rfl)
  change wpList _ _ _ _ _ w3.drew
  have t1' := t1.drew.rd
  have t2' := t2.drew.rd
  have R4 := R3.drew
  have RI4 := RI3.drew
  have hb4 := hb03.drew
  have hd : w3.drew.heap.size = w3.heap.size := rfl
  rw [← hd] at R4 RI4
  generalize w3.drew = w4 at *
  clear t1 t2 R3 RI3 hb03 hW3 hd
  have hrow := World.alloc_heap_new w4 (.cells #[.slice A n c, .slice A1 n c1, .slice (some ⟨w2.heap.size, 0, none⟩) 3 3, .slice (some ⟨w2.heap.size + 1, 0, none⟩) 3 3] 36)
  have hRds : Rds (w4.alloc (.cells #[.slice A n c, .slice A1 n c1, .slice (some ⟨w2.heap.size, 0, none⟩) 3 3, .slice (some ⟨w2.heap.size + 1, 0, none⟩) 3 3] 36)) (w4.heap.size + 1) (some ⟨w4.heap.size, 0, none⟩) 4 [⟨A, n, c, xs⟩, ⟨A1, n, c1, ps⟩, ⟨some ⟨w2.heap.size, 0, none⟩, 3, 3, intsOf [u0, u1, u2]⟩, ⟨some ⟨w2.heap.size + 1, 0, none⟩, 3, 3, intsOf [z0, z1, z2]⟩] := by
    refine ⟨rfl, fun k hk => ?_⟩
    have hc : ∀ j v, (#[Value.slice A n c, .slice A1 n c1, .slice (some ⟨w2.heap.size, 0, none⟩) 3 3, .slice (some ⟨w2.heap.size + 1, 0, none⟩) 3 3] : Array Value)[j]? = some v → (w4.alloc (.cells #[.slice A n c, .slice A1 n c1, .slice (some ⟨w2.heap.size, 0, none⟩) 3 3, .slice (some ⟨w2.heap.size + 1, 0, none⟩) 3 3] 36)).cell? ⟨w4.heap.size, 0 + j, none⟩ = some v := fun j v hv => by
      rw [Nat.zero_add, cell_of_row _ _ j _ _ _ hrow]
      exact hv
    have more : ∀ {A : Option Addr} {m : Nat} {ys : List Int}, Rd .u8 w4 w4.heap.size A m ys → Rd .u8 (w4.alloc (.cells #[.slice A n c, .slice A1 n c1, .slice (some ⟨w2.heap.size, 0, none⟩) 3 3, .slice (some ⟨w2.heap.size + 1, 0, none⟩) 3 3] 36)) (w4.heap.size + 1) A m ys := fun h => (h.alloc (Nat.le_refl _) _).more (Nat.le_succ _)
    obtain rfl | rfl | rfl | rfl : k = 0 ∨ k = 1 ∨ k = 2 ∨ k = 3 := by omega
    · exact ⟨_, 0, _, rfl, Nat.lt_succ_self _, rfl, hc 0 _ rfl, (RI4.alloc (Nat.le_refl _) _).more (Nat.le_succ _)⟩
    · exact ⟨_, 0, _, rfl, Nat.lt_succ_self _, rfl, hc 1 _ rfl, (R4.alloc (Nat.le_refl _) _).more (Nat.le_succ _)⟩
    · exact ⟨_, 0, _, rfl, Nat.lt_succ_self _, rfl, hc 2 _ rfl, (t1'.alloc (Nat.le_refl _) _).more (Nat.le_succ _)⟩
    · exact ⟨_, 0, _, rfl, Nat.lt_succ_self _, rfl, hc 3 _ rfl, (t2'.alloc (Nat.le_refl _) _).more (Nat.le_succ _)⟩
  have hb5 := hb4.alloc hb4.size (.cells #[.slice A n c, .slice A1 n c1, .slice (some ⟨w2.heap.size, 0, none⟩) 3 3, .slice (some ⟨w2.heap.size + 1, 0, none⟩) 3 3] 36)
  have hs5 : (w4.alloc (.cells #[.slice A n c, .slice A1 n c1, .slice (some ⟨w2.heap.size, 0, none⟩) 3 3, .slice (some ⟨w2.heap.size + 1, 0, none⟩) 3 3] 36)).heap.size = w4.heap.size + 1 := by simp
  rw [← hs5] at hRds
  have hoff : offL [⟨A, n, c, xs⟩, ⟨A1, n, c1, ps⟩, ⟨some ⟨w2.heap.size, 0, none⟩, 3, 3, intsOf [u0, u1, u2]⟩, ⟨some ⟨w2.heap.size + 1, 0, none⟩, 3, 3, intsOf [z0, z1, z2]⟩] 4 = n + (n + (3 + (3 + 0))) := rfl
  have hjn : joinL [⟨A, n, c, xs⟩, ⟨A1, n, c1, ps⟩, ⟨some ⟨w2.heap.size, 0, none⟩, 3, 3, intsOf [u0, u1, u2]⟩, ⟨some ⟨w2.heap.size + 1, 0, none⟩, 3, 3, intsOf [z0, z1, z2]⟩] = xs ++ (ps ++ (intsOf [u0, u1, u2] ++ intsOf [z0, z1, z2])) := by simp [joinL]
  have hjoin := join_any (c := 4) hRds (by decide) (by rw [hoff]; omega)
  rw [hoff, hjn, ← HW.out] at hjoin
  have HJ := Lib.hid hjoin
  have HB5 := Lib.hid hb5
  clear hRds hrow t1' t2' R4 RI4 hb4 hb5 hs5 hoff hjn hjoin
  go_wp2_with fail
  refine HJ.out.mono ?_
  rintro e w6 ⟨g, rfl, hO6, hb6⟩
  have HO6 := Lib.hid hO6
  have HB6 := Lib.hid (HB5.out.trans (hb6.mono HB5.out.size))
  have HS := Lib.hid HB5.out.size
  clear HJ HB5 hO6 hb6
  go_wp2_with fail
  go_ret2
  exact RetBytes.mk_ (n := n + (n + 6)) HLn.out HO6.out HS.out HB6.out rfl
set_option maxHeartbeats 2000000 in
theorem Word_no {A : Option Addr} {n c : Nat} {xs : List Int} {w : World} (hI : Rd .u8 w w.heap.size A n xs) (hb : Byte xs) (hn : n ≤ 2199023255552) (hv : validB xs = false) :
    Calls Try.prog 19 #[.slice A n c] w (RetBytes 5 w ([], 3)) := by
  have hE := Lib.hid (Encode_any (c := c) hI hb hn)
  have e1 : encR xs = [] := by unfold encR; rw [hv]; rfl
  have e2 : encN xs = 0 := by unfold encN; rw [hv]; rfl
  have e3 : encE xs = 3 := by unfold encE; rw [hv]; rfl
  rw [e1, e2, e3] at hE
  clear e1 e2 e3 hI hb hv
  go_enter Try.func19, Try.ntmps19
  go_wp2_with fail
  refine hE.out.mono ?_
  rintro e w1 ⟨A1, c1, rfl, hO1, hb1⟩
  clear hE hO1
  go_wp2_with fail
  go_ret2
  exact RetBytes.nil_ hb1
theorem Word_any {A : Option Addr} {n c : Nat} {xs : List Int} {w : World} (hI : Rd .u8 w w.heap.size A n xs) (hb : Byte xs) (hn : n ≤ 2199023255552) :
    Calls Try.prog 19 #[.slice A n c] w (RetBytes 5 w (wordS xs)) := by
  unfold wordS
  by_cases h : validB xs = true
  · rw [if_pos h]; exact Word_ok hI hb hn h
  · rw [if_neg h]; exact Word_no hI hb hn (Bool.eq_false_iff.2 h)
end Go.Proofs.Ytjehfdnkdfmmbaa
