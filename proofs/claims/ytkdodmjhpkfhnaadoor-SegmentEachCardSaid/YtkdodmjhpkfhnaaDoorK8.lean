/-
  Attach, Check: what they return; what was there stays.
-/
import Derived.Test.YtkdodmjhpkfhnaaDoorK7
namespace Go.Proofs.YtkdodmjhpkfhnaaDoor
open Go.RowKit

theorem rds_two {w : World} {A A2 : Option Addr} {n c n2 c2 : Nat} {t : TypeId} {xs ys : List Int} (hI : Rd .u8 w w.heap.size A n xs) (hJ : Rd .u8 w w.heap.size A2 n2 ys) :
    Rds (w.alloc (.cells #[.slice A n c, .slice A2 n2 c2] t)) (w.heap.size + 1) (some ⟨w.heap.size, 0, none⟩) 2 [⟨A, n, c, xs⟩, ⟨A2, n2, c2, ys⟩] :=
  ⟨rfl, fun k hk => by
    have hT := Two.new w t (.slice A n c) (.slice A2 n2 c2)
    rcases k with _ | k
    · exact ⟨w.heap.size, 0, _, rfl, Nat.lt_succ_self _, rfl, hT.cell0, (hI.alloc (Nat.le_refl _) _).more (Nat.le_succ _)⟩
    · obtain rfl : k = 0 := by omega
      exact ⟨w.heap.size, 0, _, rfl, Nat.lt_succ_self _, rfl, hT.cell1, (hJ.alloc (Nat.le_refl _) _).more (Nat.le_succ _)⟩⟩
def attachS (k : Int) (xs : List Int) : List Int × Int := if (genN k).2 = 0 then ([], 2) else if validB xs = false then ([], 3) else (xs ++ crcI k xs, 0)
theorem attach_arg {A : Option Addr} {n c : Nat} {k : Int} {w : World} (hK : Kinds w) (h : (genN k).2 = 0) :
    Calls Tryd.prog 58 #[.int .i64 k, .slice A n c] w (RetBytes 5 w ([], 2)) := by
  have hf := Lib.hid (examine_arg (A := A) (n := n) (c := c) hK h)
  go_enter Tryd.func58, Tryd.ntmps58
  go_wp2_with fail
  refine hf.out.mono ?_
  rintro e w1 ⟨rfl, hb⟩
  unfold zeroV
  go_wp2_with fail
  go_ret2
  exact RetBytes.nil_ (hb.alloc hb.size _)
theorem attach_bit {A : Option Addr} {n c : Nat} {k : Int} {xs : List Int} {w : World} (hK : Kinds w) (hI : Rd .u8 w w.heap.size A n xs) (hn : n ≤ 900000) (h : (genN k).2 ≠ 0) (hv : validB xs = false) :
    Calls Tryd.prog 58 #[.int .i64 k, .slice A n c] w (RetBytes 5 w ([], 3)) := by
  have hf := Lib.hid (examine_bit (c := c) hK hI (by omega) h hv)
  clear h hv
  go_enter Tryd.func58, Tryd.ntmps58
  go_wp2_with fail
  refine hf.out.mono ?_
  rintro e w1 ⟨rfl, hb⟩
  unfold zeroV
  go_wp2_with fail
  go_ret2
  exact RetBytes.nil_ (hb.alloc hb.size _)
theorem attach_ok {A : Option Addr} {n c : Nat} {k : Int} {xs : List Int} {w : World} (hK : Kinds w) (hI : Rd .u8 w w.heap.size A n xs) (hn : n ≤ 900000) (h : (genN k).2 ≠ 0) (hv : validB xs = true) (hx : Bits xs) :
    Calls Tryd.prog 58 #[.int .i64 k, .slice A n c] w (RetBytes 5 w (xs ++ crcI k xs, 0)) := by
  have hf := Lib.hid (examine_ok (c := c) hK hI (by omega) h hv)
  have hs := Lib.hid (fun (u : World) (hb : Below w.heap.size w u) => checksum_any (c := c) h hx (by omega) (hI.step hb))
  have hl := Lib.hid (crcI_length k xs)
  have hlx := Lib.hid hI.len
  have hle := genN_le k
  clear h hv hK
  unfold kindV at *
  generalize crcI k xs = r at *
  generalize (((genN k).1 : Nat) : Int) = G at *
  generalize (genN k).2 = L at *
  go_enter Tryd.func58, Tryd.ntmps58
  go_wp2_with fail
  refine hf.out.mono ?_
  rintro e w1 ⟨rfl, hb⟩
  go_wp2_with fail
  refine (hs.out _ (hb.alloc hb.size _)).mono ?_
  rintro e w2 ⟨⟨A2, c2, rfl, hown⟩, hb2⟩
  rw [World.size_alloc] at hown hb2
  have hbb := (hb.alloc hb.size (.cells #[.int .i64 (L : Int), .int .u32 G] 95)).trans (hb2.mono (Nat.le_trans hb.size (Nat.le_succ _)))
  have hrds := rds_two (c := c) (c2 := c2) (t := 46) (hI.step hbb) (Rd.of_own hown)
  have hcat := Lib.hid (slicesConcat_any (c := 2) hrds (by simp) (by decide) (by simp [joined]; have := hl.out; have := hlx.out; omega))
  have hj : Hid (joined [⟨A, n, c, xs⟩, ⟨A2, L, c2, r⟩] = xs ++ r) := Lib.hid (by simp [joined])
  have hbb2 := hbb.alloc hbb.size (.cells #[.slice A n c, .slice A2 L c2] 46)
  rw [hj.out] at hcat
  clear hown hb2 hrds hj
  go_wp2_with fail
  refine hcat.out.mono ?_
  rintro e w3 ⟨A3, c3, rfl, hown3, hb3⟩
  rw [List.length_append] at hown3
  have hO := Lib.hid (hown3.mono hbb2.size)
  have hb4 := hbb2.trans (hb3.mono hbb2.size)
  clear hown3 hb3 hcat
  go_wp2_with fail
  go_ret2
  exact RetBytes.mk_ List.length_append hO.out (Nat.le_refl _) hb4 rfl
theorem attach_any {A : Option Addr} {n c : Nat} {k : Int} {xs : List Int} {w : World} (hK : Kinds w) (hI : Rd .u8 w w.heap.size A n xs) (hn : n ≤ 900000) (hx : Byte xs) :
    Calls Tryd.prog 58 #[.int .i64 k, .slice A n c] w (RetBytes 5 w (attachS k xs)) := by
  unfold attachS
  split
  · rename_i h; exact attach_arg hK h
  · rename_i h
    split
    · rename_i hv; exact attach_bit hK hI hn h hv
    · rename_i hv
      have hv' : validB xs = true := by simpa using hv
      exact attach_ok hK hI hn h hv' (validB_bits hx hv')
def checkS (k : Int) (xs : List Int) : List Int × Int := if (genN k).2 = 0 then ([], 2) else if validB xs = false then ([], 3) else if xs.length < (genN k).2 then ([], 5)
  else if crcI k (xs.take (xs.length - (genN k).2)) = xs.drop (xs.length - (genN k).2) then (xs.take (xs.length - (genN k).2), 0) else ([], 11)
theorem check_arg {A : Option Addr} {n c : Nat} {k : Int} {w : World} (hK : Kinds w) (h : (genN k).2 = 0) :
    Calls Tryd.prog 60 #[.int .i64 k, .slice A n c] w (RetBytes 5 w ([], 2)) := by
  have hf := Lib.hid (examine_arg (A := A) (n := n) (c := c) hK h)
  go_enter Tryd.func60, Tryd.ntmps60
  go_wp2_with fail
  refine hf.out.mono ?_
  rintro e w1 ⟨rfl, hb⟩
  unfold zeroV
  go_wp2_with fail
  go_ret2
  exact RetBytes.nil_ (hb.alloc hb.size _)
theorem check_bit {A : Option Addr} {n c : Nat} {k : Int} {xs : List Int} {w : World} (hK : Kinds w) (hI : Rd .u8 w w.heap.size A n xs) (hn : n ≤ 900000) (h : (genN k).2 ≠ 0) (hv : validB xs = false) :
    Calls Tryd.prog 60 #[.int .i64 k, .slice A n c] w (RetBytes 5 w ([], 3)) := by
  have hf := Lib.hid (examine_bit (c := c) hK hI (by omega) h hv)
  clear h hv
  go_enter Tryd.func60, Tryd.ntmps60
  go_wp2_with fail
  refine hf.out.mono ?_
  rintro e w1 ⟨rfl, hb⟩
  unfold zeroV
  go_wp2_with fail
  go_ret2
  exact RetBytes.nil_ (hb.alloc hb.size _)
theorem check_short {A : Option Addr} {n c : Nat} {k : Int} {xs : List Int} {w : World} (hK : Kinds w) (hI : Rd .u8 w w.heap.size A n xs) (hn : n ≤ 900000) (h : (genN k).2 ≠ 0) (hv : validB xs = true) (hs : n < (genN k).2) :
    Calls Tryd.prog 60 #[.int .i64 k, .slice A n c] w (RetBytes 5 w ([], 5)) := by
  have hf := Lib.hid (examine_ok (c := c) hK hI (by omega) h hv)
  have hle := genN_le k
  clear h hv hK
  unfold kindV at *
  generalize (((genN k).1 : Nat) : Int) = G at *
  generalize (genN k).2 = L at *
  have hd : decide ((n : Int) - (L : Int) < 0) = true := by simp; omega
  go_enter Tryd.func60, Tryd.ntmps60
  go_wp2_with fail
  refine hf.out.mono ?_
  rintro e w1 ⟨rfl, hb⟩
  go_wp2_with fail
  go_ret2
  exact RetBytes.nil_ (hb.alloc hb.size _)
def chkR (b : Bool) (q : List Int) : List Int × Int := match b with
  | true => (q, 0)
  | false => ([], 11)
theorem Bits.drop {xs : List Int} (hb : Bits xs) (k : Nat) : Bits (xs.drop k) := fun x hx => hb x (List.mem_of_mem_drop hx)
set_option maxRecDepth 100000 in
set_option maxHeartbeats 1000000 in
theorem check_ok {A : Option Addr} {n c : Nat} {k : Int} {xs : List Int} {w : World} (hK : Kinds w) (hI : Rd .u8 w w.heap.size A n xs) (hn : n ≤ 900000) (hc : n ≤ c) (h : (genN k).2 ≠ 0) (hv : validB xs = true) (hx : Bits xs) (m : Nat) (hm : n = m + (genN k).2) :
    Calls Tryd.prog 60 #[.int .i64 k, .slice A n c] w (RetBytes 5 w (chkR (decide (crcI k (xs.take m) = xs.drop m)) (xs.take m))) := by
  obtain ⟨bb, off, rfl, _, _⟩ := hI.cells 0 (by omega)
  have hf := Lib.hid (examine_ok (c := c) hK hI (by omega) h hv)
  have hlx := hI.len
  have hcut1 : Rd .u8 w w.heap.size (some ⟨bb, off, none⟩) m (xs.take m) := by
    have h0 := Rd.cut hI (lo := 0) (hi := m) (cap := n + 1) (Nat.zero_le _) (by omega) (by omega)
    rw [if_neg (by omega)] at h0
    simp only [List.drop_zero, Nat.sub_zero] at h0
    simpa [Addr.add] using h0
  have hcut2 := Rd.cut hI (lo := m) (hi := n) (cap := c) (by omega) (Nat.le_refl _) hc
  have hadr : (if c = m then (some ⟨bb, off, none⟩ : Option Addr) else (some ⟨bb, off, none⟩ : Option Addr).map (·.add m)) = some ⟨bb, off + m, none⟩ := by
    rw [if_neg (by omega)]
    by_cases h0 : m = 0 <;> simp [Addr.add, h0]
  rw [hadr] at hcut2
  have hs := Lib.hid (fun (u : World) (hb : Below w.heap.size w u) => checksum_any (c := c) (k := k) h (Bits.take hx m) (by omega) (hcut1.step hb))
  have hle := genN_le k
  have hr8 := Lib.hid (crcI_bits k (xs.take m)).byte
  have hd8 := Lib.hid (Bits.drop hx m).byte
  have hq8 := Lib.hid (show (xs.take m).length = m by rw [List.length_take]; omega)
  rw [List.take_of_length_le (show (xs.drop m).length ≤ n - m by rw [List.length_drop]; omega)] at hcut2
  have hL0 : 0 < (genN k).2 := by omega
  clear h hv hK hlx hadr
  unfold kindV at *
  generalize crcI k (xs.take m) = r at *
  generalize (((genN k).1 : Nat) : Int) = G at *
  generalize (genN k).2 = L at *
  subst hm
  generalize xs.take m = q at *
  generalize xs.drop m = d at *
  rw [Nat.add_sub_cancel_left] at hcut2
  have hcl := Lib.hid (fun (u : World) (hb : Below w.heap.size w u) => clone_any (c := c) (hcut1.step hb) (by omega))
  have hC2 := Lib.hid hcut2; clear hcut2
  have hi0 : (0 : Int) ≤ (m : Int) := by omega
  have hi1 : (m : Int) ≤ (c : Int) := by omega
  have hi2 : (m : Int) ≤ (m : Int) + (L : Int) := by omega
  have hi3 : m ≤ c := by omega
  have hi4 : m ≤ m + L := by omega
  have hi5 : ¬ c = m := by omega
  obtain ⟨b, hbd⟩ : ∃ b, decide (r = d) = b := ⟨_, rfl⟩
  rw [hbd]
  have HBD := Lib.hid hbd; clear hbd
  cases b
  all_goals
    unfold chkR
    go_enter Tryd.func60, Tryd.ntmps60
    go_wp2_with fail
    refine hf.out.mono ?_
    rintro e w1 ⟨rfl, hb⟩
    go_wp2_with fail
    have hbW := hb.alloc hb.size (.cells #[.int .i64 (L : Int), .int .u32 G] 95)
    have hT := Two.new w1 95 (.int .i64 (L : Int)) (.int .u32 G)
    have hPlt : w1.heap.size < (w1.alloc (.cells #[.int .i64 (L : Int), .int .u32 G] 95)).heap.size := hT.lt
    have p0 := hT.cell0
    have p1 := hT.cell1
    clear hT
    generalize (w1.alloc (.cells #[.int .i64 (L : Int), .int .u32 G] 95)) = W at *
    have hbWd : Below w.heap.size w W.drew := hbW.drew
    go_region_held3 (fun w' => w'.cell? ⟨w1.heap.size, 0, none⟩ = some (.int .i64 (L : Int)) ∧ w'.cell? ⟨w1.heap.size, 1, none⟩ = some (.int .u32 G))
      (first
        | go_keep
        | exact ⟨(hb2.cell (p := ⟨w1.heap.size, 0, none⟩) hPlt).trans p0, (hb2.cell (p := ⟨w1.heap.size, 1, none⟩) hPlt).trans p1⟩)
      (first
        | (go_at_call 66; refine (hs.out _ hbWd).mono ?_; rintro e w2 ⟨⟨A2, c2, rfl, hown⟩, hb2⟩)
        | (go_at_call 68; refine (bytesEqual_any (Rd.of_own hown) (hC2.out.below (hbWd.trans (hb2.mono hbWd.size))) hr8.out hd8.out).mono ?_; rintro e w3 ⟨rfl, rfl⟩))
    have hb3 := hbWd.trans (hb2.mono hbWd.size)
    rw [HBD.out]
    clear hown hb2 hbW p0 p1
  · go_wp2_with fail
    go_ret2
    exact RetBytes.nil_ hb3
  · go_wp2_with fail
    refine (hcl.out _ hb3).mono ?_
    rintro e w4 ⟨A3, c3, rfl, hown3, hb4⟩
    have hO := Lib.hid (hown3.mono hb3.size)
    have hb5 := hb3.trans (hb4.mono hb3.size)
    clear hown3 hb4
    go_wp2_with fail
    go_ret2
    exact RetBytes.mk_ hq8.out hO.out (Nat.le_refl _) hb5 rfl
theorem check_any {A : Option Addr} {n c : Nat} {k : Int} {xs : List Int} {w : World} (hK : Kinds w) (hI : Rd .u8 w w.heap.size A n xs) (hn : n ≤ 900000) (hc : n ≤ c) (hx : Byte xs) :
    Calls Tryd.prog 60 #[.int .i64 k, .slice A n c] w (RetBytes 5 w (checkS k xs)) := by
  have hl := hI.len
  unfold checkS
  split
  · rename_i h; exact check_arg hK h
  · rename_i h
    split
    · rename_i hv; exact check_bit hK hI hn h hv
    · rename_i hv
      have hv' : validB xs = true := by simpa using hv
      split
      · rename_i hs; exact check_short hK hI hn h hv' (by omega)
      · rename_i hs
        have h1 := check_ok (k := k) hK hI hn hc h hv' (validB_bits hx hv') (xs.length - (genN k).2) (by omega)
        by_cases he : crcI k (xs.take (xs.length - (genN k).2)) = xs.drop (xs.length - (genN k).2)
        · rw [if_pos he]; rw [decide_eq_true he] at h1; exact h1
        · rw [if_neg he]; rw [decide_eq_false he] at h1; exact h1
end Go.Proofs.YtkdodmjhpkfhnaaDoor
