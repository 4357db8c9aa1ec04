/-
  examine; Scramble and ScrambleSoft: the package's.
-/
import Derived.Test.YtofcjcmbbkiaaaaGb
import Derived.Test.YtofcjcmbbkiaaaaGi
namespace Go.Proofs.Ytofcjcmbbkiaaaa
open Go.RowKit

/-- The error whatever the elements are. -/
def exI (v : Nat) (n : Nat) : Int := if v < 2147483648 then (if 131072 < n then 4 else 0) else 2
theorem examine_any {x : Int} {v n : Nat} {w : World} (hvx : (v : Int) = x) (hv : v < 4294967296) :
    Calls Try.prog 30 #[.int .u32 x, .int .i64 (n : Int)] w fun e w' => e = .returned (.int .i64 (exI v n)) ∧ w' = w := by
  have b1 := fits_any (v := x) (w := w) (by omega)
  by_cases h1 : v < 2147483648
  · rw [decide_eq_true (show x < 2147483648 by omega)] at b1
    by_cases h2 : 131072 < n
    · have e : exI v n = 4 := by unfold exI; rw [if_pos h1, if_pos h2]
      rw [e]
      have h3 : 131072 < (n : Int) := by omega
      have hn : ∃ z : Int, z = (n : Int) := ⟨_, rfl⟩
      generalize (n : Int) = z at *
      clear e hvx hv h1 h2 hn
      go_enter Try.func30, Try.ntmps30
      go_wp2_with fail
      refine b1.mono ?_
      rintro e w1 ⟨rfl, rfl⟩
      clear b1
      go_wp2_with fail
      go_ret
      exact ⟨rfl, rfl⟩
    · have e : exI v n = 0 := by unfold exI; rw [if_pos h1, if_neg h2]
      rw [e]
      have h3 : (n : Int) ≤ 131072 := by omega
      generalize (n : Int) = z at *
      clear e hvx hv h1 h2
      go_enter Try.func30, Try.ntmps30
      go_wp2_with fail
      refine b1.mono ?_
      rintro e w1 ⟨rfl, rfl⟩
      clear b1
      go_wp2_with fail
      go_ret
      exact ⟨rfl, rfl⟩
  · rw [decide_eq_false (show ¬ x < 2147483648 by omega)] at b1
    have e : exI v n = 2 := by unfold exI; rw [if_neg h1]
    rw [e]
    generalize (n : Int) = z at *
    clear e hvx hv h1
    go_enter Try.func30, Try.ntmps30
    go_wp2_with fail
    refine b1.mono ?_
    rintro e w1 ⟨rfl, rfl⟩
    clear b1
    go_wp2_with fail
    go_ret
    exact ⟨rfl, rfl⟩
/-- What a function with a slice and a number returns: the slice is its own. -/
def RetQ (q : IntKind) (E : TypeId) (w : World) (p : List Int × Int) (e : Ending) (w' : World) : Prop :=
  ∃ A c, e = .returned (.tuple #[.slice A p.1.length c, .int .i64 p.2]) ∧ w'.ownsRow w.heap.size E 1 (.slice A p.1.length c) p.1.length (p.1.map (Value.int q)) ∧ Below w.heap.size w w'
theorem RetQ.got {q : IntKind} {E : TypeId} {w w' : World} {r : List Int} {k : Int} {e : Ending} {n : Nat} (h : RetQ q E w (r, k) e w') (hn : r.length = n) :
    ∃ A c, e = .returned (.tuple #[.slice A n c, .int .i64 k]) ∧ w'.ownsRow w.heap.size E 1 (.slice A n c) n (r.map (Value.int q)) ∧ Below w.heap.size w w' := by
  obtain ⟨A, c, h1, h2, h3⟩ := h
  subst hn
  exact ⟨A, c, h1, h2, h3⟩
theorem RetQ.mk_ {q : IntKind} {E : TypeId} {w w' : World} {r : List Int} {k : Int} {A : Option Addr} {n c : Nat} (hn : r.length = n) (h : w'.ownsRow w.heap.size E 1 (.slice A n c) n (r.map (Value.int q))) (hb : Below w.heap.size w w') :
    RetQ q E w (r, k) (.returned (.tuple #[.slice A n c, .int .i64 k])) w' := by
  subst hn
  exact ⟨A, c, rfl, h, hb⟩
theorem RetQ.nil_ {q : IntKind} {E : TypeId} {w w' : World} {k : Int} (hb : Below w.heap.size w w') : RetQ q E w ([], k) (.returned (.tuple #[.slice none 0 0, .int .i64 k])) w' :=
  ⟨none, 0, rfl, World.ownsRow_nil _ _ _ _, hb⟩
/-- What Scramble returns. -/
def scrbS (v : Nat) (xs : List Int) (n : Nat) : List Int × Int :=
  if exI v n ≠ 0 then ([], exI v n) else if xs.any badb then ([], 3) else (mapN (scrb v xs) n, 0)
theorem scrbS_err {v n : Nat} {xs : List Int} (h : exI v n ≠ 0) : scrbS v xs n = ([], exI v n) := if_pos h
theorem scrbS_bad {v n : Nat} {xs : List Int} (h : exI v n = 0) (hb : xs.any badb = true) : scrbS v xs n = ([], 3) := by unfold scrbS; rw [if_neg (by simp [h]), if_pos hb]
theorem scrbS_ok {v n : Nat} {xs : List Int} (h : exI v n = 0) (hb : xs.any badb = false) : scrbS v xs n = (mapN (scrb v xs) n, 0) := by unfold scrbS; rw [if_neg (by simp [h]), if_neg (by simp [hb])]
set_option maxHeartbeats 1000000 in
theorem scramblebErr_any {A : Option Addr} {n c v : Nat} {x : Int} {w : World} (hvx : (v : Int) = x) (hv : v < 4294967296) (he : exI v n ≠ 0) :
    Calls Try.prog 19 #[.int .u32 x, .slice A n c] w (RetQ .u8 5 w ([], exI v n)) := by
  have hex := Lib.hid (fun u : World => examine_any (n := n) (w := u) hvx hv)
  have he2 : (exI v n != 0) = true := by simpa using he
  generalize exI v n = er at *
  clear hvx hv he
  go_enter Try.func19, Try.ntmps19
  go_wp2_with fail
  refine (hex.out _).mono ?_
  rintro e w1 ⟨rfl, rfl⟩
  go_wp2_with fail
  go_ret2
  exact RetQ.nil_ (Below.refl _ _)
set_option maxHeartbeats 1000000 in
theorem topb_any {A : Option Addr} {n c v : Nat} {x : Int} {xs : List Int} {w : World} (hvx : (v : Int) = x) (hv : v < 4294967296) (hI : Rd .u8 w w.heap.size A n xs) (hn : n ≤ 1000000) (hr : ∀ x ∈ xs, 0 ≤ x ∧ x ≤ 255) :
    Calls Try.prog 19 #[.int .u32 x, .slice A n c] w (RetQ .u8 5 w (scrbS v xs n)) := by
  by_cases he : exI v n = 0
  · have hex := Lib.hid (fun u : World => examine_any (n := n) (w := u) hvx hv)
    rw [he] at hex
    have hct := Lib.hid (containsb_any (c := c) hI hn hr)
    have hvn : v < 2147483648 ∧ n ≤ 131072 := by
      unfold exI at he
      split at he
      · split at he
        · exact absurd he (by decide)
        · exact ⟨by assumption, by omega⟩
      · exact absurd he (by decide)
    cases hb : xs.any badb with
    | true =>
      rw [scrbS_bad he hb]
      rw [hb] at hct
      clear hvx hv hI hr he hb hn hvn
      go_enter Try.func19, Try.ntmps19
      go_wp2_with fail
      refine (hex.out _).mono ?_
      rintro e w1 ⟨rfl, rfl⟩
      go_wp2_with fail
      refine hct.out.mono ?_
      rintro e w2 ⟨rfl, rfl⟩
      go_wp2_with fail
      go_ret2
      exact RetQ.nil_ (Below.refl _ _)
    | false =>
      have hsc := Lib.hid (scrambleb_any (c := c) hvx hvn.1 hI hvn.2 hr hb)
      rw [scrbS_ok he hb]
      rw [hb] at hct
      have hlen := Lib.hid (mapN_length (scrb v xs) n)
      generalize mapN (scrb v xs) n = r at *
      clear hvx hv hI hr he hb hn hvn
      go_enter Try.func19, Try.ntmps19
      go_wp2_with fail
      refine (hex.out _).mono ?_
      rintro e w1 ⟨rfl, rfl⟩
      go_wp2_with fail
      refine hct.out.mono ?_
      rintro e w2 ⟨rfl, rfl⟩
      go_wp2_with fail
      refine hsc.out.mono ?_
      rintro e w3 ⟨⟨A3, c3, rfl, ho3⟩, hb3⟩
      have HO := Lib.hid ho3
      clear ho3 hsc
      go_wp2_with fail
      go_ret2
      exact RetQ.mk_ hlen.out HO.out hb3
  · rw [scrbS_err he]
    exact scramblebErr_any hvx hv he
/-- What ScrambleSoft returns. -/
def scriS (v : Nat) (xs : List Int) (n : Nat) : List Int × Int :=
  if exI v n ≠ 0 then ([], exI v n) else if xs.any badi then ([], 6) else (mapN (scri v xs) n, 0)
theorem scriS_err {v n : Nat} {xs : List Int} (h : exI v n ≠ 0) : scriS v xs n = ([], exI v n) := if_pos h
theorem scriS_bad {v n : Nat} {xs : List Int} (h : exI v n = 0) (hb : xs.any badi = true) : scriS v xs n = ([], 6) := by unfold scriS; rw [if_neg (by simp [h]), if_pos hb]
theorem scriS_ok {v n : Nat} {xs : List Int} (h : exI v n = 0) (hb : xs.any badi = false) : scriS v xs n = (mapN (scri v xs) n, 0) := by unfold scriS; rw [if_neg (by simp [h]), if_neg (by simp [hb])]
set_option maxHeartbeats 1000000 in
theorem scrambleiErr_any {A : Option Addr} {n c v : Nat} {x : Int} {w : World} (hvx : (v : Int) = x) (hv : v < 4294967296) (he : exI v n ≠ 0) :
    Calls Try.prog 21 #[.int .u32 x, .slice A n c] w (RetQ .i64 3 w ([], exI v n)) := by
  have hex := Lib.hid (fun u : World => examine_any (n := n) (w := u) hvx hv)
  have he2 : (exI v n != 0) = true := by simpa using he
  generalize exI v n = er at *
  clear hvx hv he
  go_enter Try.func21, Try.ntmps21
  go_wp2_with fail
  refine (hex.out _).mono ?_
  rintro e w1 ⟨rfl, rfl⟩
  go_wp2_with fail
  go_ret2
  exact RetQ.nil_ (Below.refl _ _)
set_option maxHeartbeats 1000000 in
theorem topi_any {A : Option Addr} {n c v : Nat} {x : Int} {xs : List Int} {w : World} (hvx : (v : Int) = x) (hv : v < 4294967296) (hI : Rd .i64 w w.heap.size A n xs) (hn : n ≤ 1000000) (hr : ∀ x ∈ xs, -9223372036854775808 ≤ x ∧ x ≤ 9223372036854775807) :
    Calls Try.prog 21 #[.int .u32 x, .slice A n c] w (RetQ .i64 3 w (scriS v xs n)) := by
  by_cases he : exI v n = 0
  · have hex := Lib.hid (fun u : World => examine_any (n := n) (w := u) hvx hv)
    rw [he] at hex
    have hct := Lib.hid (containsi_any (c := c) hI hn hr)
    have hvn : v < 2147483648 ∧ n ≤ 131072 := by
      unfold exI at he
      split at he
      · split at he
        · exact absurd he (by decide)
        · exact ⟨by assumption, by omega⟩
      · exact absurd he (by decide)
    cases hb : xs.any badi with
    | true =>
      rw [scriS_bad he hb]
      rw [hb] at hct
      clear hvx hv hI hr he hb hn hvn
      go_enter Try.func21, Try.ntmps21
      go_wp2_with fail
      refine (hex.out _).mono ?_
      rintro e w1 ⟨rfl, rfl⟩
      go_wp2_with fail
      refine hct.out.mono ?_
      rintro e w2 ⟨rfl, rfl⟩
      go_wp2_with fail
      go_ret2
      exact RetQ.nil_ (Below.refl _ _)
    | false =>
      have hsc := Lib.hid (scramblei_any (c := c) hvx hvn.1 hI hvn.2 hr hb)
      rw [scriS_ok he hb]
      rw [hb] at hct
      have hlen := Lib.hid (mapN_length (scri v xs) n)
      generalize mapN (scri v xs) n = r at *
      clear hvx hv hI hr he hb hn hvn
      go_enter Try.func21, Try.ntmps21
      go_wp2_with fail
      refine (hex.out _).mono ?_
      rintro e w1 ⟨rfl, rfl⟩
      go_wp2_with fail
      refine hct.out.mono ?_
      rintro e w2 ⟨rfl, rfl⟩
      go_wp2_with fail
      refine hsc.out.mono ?_
      rintro e w3 ⟨⟨A3, c3, rfl, ho3⟩, hb3⟩
      have HO := Lib.hid ho3
      clear ho3 hsc
      go_wp2_with fail
      go_ret2
      exact RetQ.mk_ hlen.out HO.out hb3
  · rw [scriS_err he]
    exact scrambleiErr_any hvx hv he
end Go.Proofs.Ytofcjcmbbkiaaaa
