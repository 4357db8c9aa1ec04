/-
  Mask: what it returns; what was there stays.
-/
import Derived.Test.YtekldonfmfnmpaaDoorK8
namespace Go.Proofs.YtekldonfmfnmpaaDoor
open Go.RowKit

/-- The elements with id's bits added to the last sixteen; the first k of these alone. -/
def maskP (xs : List Int) (v : Int) (m k : Nat) : List Int := (List.range xs.length).map fun p => if m ≤ p ∧ p < m + k then bits .xor .u8 (xs[p]?.getD 0) (v / 2 ^ (16 - 1 - (p - m)) % 2) else xs[p]?.getD 0
def maskL (xs : List Int) (v : Int) : List Int := maskP xs v (xs.length - 16) 16
def maskS (xs : List Int) (v : Int) : List Int × Int := if validB xs = false then ([], 3) else if xs.length < 16 then ([], 5) else (maskL xs v, 0)
theorem maskP_length (xs : List Int) (v : Int) (m k : Nat) : (maskP xs v m k).length = xs.length := by simp [maskP]
theorem maskP_zero (xs : List Int) (v : Int) (m : Nat) : maskP xs v m 0 = xs := by
  apply List.ext_getElem (maskP_length _ _ _ _)
  intro i h1 h2
  simp only [maskP, List.getElem_map, List.getElem_range]
  rw [if_neg (by omega), List.getElem?_eq_getElem h2]; rfl
theorem maskP_get {xs : List Int} {v : Int} {m k : Nat} : (maskP xs v m k)[m + k]?.getD 0 = xs[m + k]?.getD 0 := by
  by_cases h : m + k < xs.length <;> simp [maskP, h]
theorem maskP_succ {xs : List Int} {v : Int} {m k : Nat} : maskP xs v m (k + 1) = (maskP xs v m k).set (m + k) (bits .xor .u8 (xs[m + k]?.getD 0) (v / 2 ^ (16 - 1 - k) % 2)) := by
  apply List.ext_getElem (by simp [maskP])
  intro p h1 h2
  rw [List.getElem_set]
  simp only [maskP, List.getElem_map, List.getElem_range]
  by_cases hp : m + k = p
  · subst hp
    rw [if_pos rfl, if_pos (by omega), Nat.add_sub_cancel_left]
  · rw [if_neg hp]
    by_cases h3 : m ≤ p ∧ p < m + k
    · rw [if_pos h3, if_pos (by omega)]
    · rw [if_neg h3, if_neg (by omega)]
theorem own_low {w1 w2 : World} {t : TypeId} {A : Option Addr} {n c : Nat} {xs : List Value} (h : w2.ownsRow w1.heap.size t 1 (.slice A n c) n xs) (hn : 0 < n) : ∀ a, A = some a → w1.heap.size ≤ a.block ∧ a.block < w2.heap.size := by
  rintro a rfl
  obtain ⟨g, cap, h1, h2, h3⟩ := h.form hn
  injection h1 with h1
  injection h1 with h1
  subst h1
  exact ⟨h2, h3⟩
theorem mask_bit {A : Option Addr} {n c : Nat} {v : Int} {xs : List Int} {w : World} (hI : Rd .u8 w w.heap.size A n xs) (hn : n ≤ 900000) (hv : validB xs = false) :
    Calls Tryd.prog 22 #[.slice A n c, .int .u16 v] w (RetBytes 5 w ([], 3)) := by
  have hval := Lib.hid (valid_any (c := c) hI (by omega))
  have HV := Lib.hid hv; clear hv
  go_enter Tryd.func22, Tryd.ntmps22
  go_wp2_with fail
  refine hval.out.mono ?_
  rintro e w1 ⟨rfl, rfl⟩
  rw [HV.out]
  go_wp2_with fail
  go_ret2
  exact RetBytes.nil_ (Below.refl _ _)
theorem mask_short {A : Option Addr} {n c : Nat} {v : Int} {xs : List Int} {w : World} (hI : Rd .u8 w w.heap.size A n xs) (hn : n < 16) (hv : validB xs = true) :
    Calls Tryd.prog 22 #[.slice A n c, .int .u16 v] w (RetBytes 5 w ([], 5)) := by
  have hval := Lib.hid (valid_any (c := c) hI (by omega))
  have HV := Lib.hid hv; clear hv
  have hd : decide ((n : Int) - 16 < 0) = true := by simp; omega
  go_enter Tryd.func22, Tryd.ntmps22
  go_wp2_with fail
  refine hval.out.mono ?_
  rintro e w1 ⟨rfl, rfl⟩
  rw [HV.out]
  go_wp2_with fail
  go_ret2
  exact RetBytes.nil_ (Below.refl _ _)
set_option maxRecDepth 100000 in
set_option maxHeartbeats 1000000 in
theorem mask_ok {A : Option Addr} {n c m : Nat} {v : Int} {xs : List Int} {w : World} (hI : Rd .u8 w w.heap.size A n xs) (hn : n ≤ 900000) (hm : n = m + 16) (hv : validB xs = true) (hw : 0 ≤ v ∧ v < 65536) :
    Calls Tryd.prog 22 #[.slice A n c, .int .u16 v] w (RetBytes 5 w (maskP xs v m 16, 0)) := by
  have hval := Lib.hid (valid_any (c := c) hI (by omega))
  have HV := Lib.hid hv; clear hv
  have hl := Lib.hid hI.len
  have hcl := Lib.hid (clone_any (c := c) hI (by omega))
  have hbin := Lib.hid (fun u : World => binary_any (w := u) (v := v) (n := 16) ⟨hw.1, by omega⟩ (by decide))
  subst hm
  have hd : decide ((m : Int) + 16 - 16 < 0) = false := by simp
  have hwr : IntKind.u32.wrap v = v := by
    have : v % 4294967296 = v := by omega
    simpa [IntKind.wrap, IntKind.bits, IntKind.signed] using this
  go_enter Tryd.func22, Tryd.ntmps22
  go_wp2_with fail
  refine hval.out.mono ?_
  rintro e w1 ⟨rfl, rfl⟩
  rw [HV.out]
  go_wp2_with fail
  refine hcl.out.mono ?_
  rintro e w2 ⟨A2, c2, rfl, hown, hb⟩
  go_wp2_with fail
  refine (hbin.out _).mono ?_
  rintro e w3 ⟨A3, c3, rfl, hown3, hb3⟩
  obtain ⟨g, cap, hv2, hg1, hg2⟩ := hown.form (by omega)
  injection hv2 with e1 _ e3
  subst e1 e3
  have hown2 := ownsRow_save hown (Save.of_below (X := fun i => w2.heap.size ≤ i) hb3) (fun g' hg' => by injection hg' with hg'; subst hg'; exact Nat.not_le.2 hg2)
  have hbin3 := Rd.of_own hown3
  have hA3 : ∀ a, A3 = some a → a.block ≠ g := fun a ha => by
    have h1 := own_low hown3 (by decide) a ha
    omega
  have hb13 := hb.trans (hb3.mono hb.size)
  have hO2 := Lib.hid hown2
  clear hown hown2 hown3 hbin hcl hval
  go_wp2_with fail
  go_loopw [24] (fun s wr => ∃ k : Nat, k ≤ 16 ∧ s = .int .i64 k ∧ Hid (wr.ownsRow w.heap.size 5 1 (.slice (some ⟨g, 0, none⟩) (m + 16) c2) (m + 16) ((maskP xs v m k).map (Value.int .u8))) ∧ Save (· = g) w3 wr ∧ Below w.heap.size w wr)
    (fun s _ => 16 - (intOf s).toNat)
  case atStart => exact ⟨0, Nat.zero_le _, rfl, Lib.hid (by rw [maskP_zero]; exact hO2.out), Save.refl _ _, hb13⟩
  case round =>
    obtain ⟨k, hk, rfl, hO, hS, hB⟩ := hrel
    by_cases hlt : k < 16
    · have hR3 := hbin3.save hS (Nat.le_refl _) (fun a ha e => hA3 a ha e)
      obtain ⟨b3, off3, rfl, hb3', hc3⟩ := hR3.cells k hlt
      have hbv : (binL v 16)[k]?.getD 0 = v / 2 ^ (16 - 1 - k) % 2 := by simp [binL, hlt]
      rw [hbv] at hc3
      have hc0 : wr.cell? ⟨g, m + k, none⟩ = some (.int .u8 (xs[m + k]?.getD 0)) := by
        rw [hO.out.cellAt (m + k) (by omega)]
        have h1 : m + k < (maskP xs v m k).length := by rw [maskP_length, hl.out]; omega
        have h2 := maskP_get (xs := xs) (v := v) (m := m) (k := k)
        rw [List.getElem?_eq_getElem h1] at h2
        simp only [Option.getD_some] at h2
        rw [List.getElem?_map, List.getElem?_eq_getElem h1, Option.map_some, h2]
      have hf0 := hO.out.frozenAt (m + k)
      have hsu := Lib.hid (maskP_succ (xs := xs) (v := v) (m := m) (k := k))
      have hST := Lib.hid (hO.out.stored (m + k) (.int .u8 (bits .xor .u8 (xs[m + k]?.getD 0) (v / 2 ^ (16 - 1 - k) % 2))))
      generalize xs[m + k]?.getD 0 = x at *
      generalize v / 2 ^ (16 - 1 - k) % 2 = y at *
      have hk0 : (0 : Int) ≤ (m : Int) + (k : Int) := by omega
      have hk1 : (m : Int) + (k : Int) < (m : Int) + 16 := by omega
      have hk2 : IntKind.i64.wrap ((m : Int) + (k : Int)) = (m : Int) + (k : Int) := IntWalk.i64_in _ (by omega)
      have hk3 : ((m : Int) + (k : Int)).toNat = m + k := by omega
      clear hbv
      go_wp2_with fail
      go_roundw
      case rel =>
        refine ⟨k + 1, by omega, by go_num, Lib.hid ?_, hS.setCell (p := ⟨g, m + k, none⟩) (fun _ => rfl) _, hB.setCell (p := ⟨g, m + k, none⟩) hg1 _⟩
        rw [hsu.out, List.map_set]
        exact hST.out.1
      case measure => simp [intOf]; omega
    · obtain rfl : k = 16 := by omega
      clear hlt
      go_wp2_with fail
      go_ret2
      exact RetBytes.mk_ (by rw [maskP_length, hl.out]) hO.out (Nat.le_refl _) hB rfl
theorem mask_any {A : Option Addr} {n c : Nat} {v : Int} {xs : List Int} {w : World} (hI : Rd .u8 w w.heap.size A n xs) (hn : n ≤ 900000) (hw : 0 ≤ v ∧ v < 65536) :
    Calls Tryd.prog 22 #[.slice A n c, .int .u16 v] w (RetBytes 5 w (maskS xs v)) := by
  have hl := hI.len
  unfold maskS
  split
  · rename_i h; exact mask_bit hI hn h
  · rename_i h
    have hv' : validB xs = true := by simpa using h
    split
    · rename_i hs; exact mask_short hI (by omega) hv'
    · rename_i hs
      have := mask_ok (c := c) (m := xs.length - 16) (v := v) hI hn (by omega) hv' hw
      exact this
end Go.Proofs.YtekldonfmfnmpaaDoor
