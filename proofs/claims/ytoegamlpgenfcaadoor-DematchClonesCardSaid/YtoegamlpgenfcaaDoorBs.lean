/-
  The checks of arguments; the number of elements.
-/
import Derived.Test.YtoegamlpgenfcaaDoorGn
import Derived.Test.YtoegamlpgenfcaaDoorGm
import Derived.Test.YtoegamlpgenfcaaDoorSm
import Derived.Test.YtoegamlpgenfcaaDoorDmM
import Derived.Test.YtoegamlpgenfcaaDoorCq
import Derived.Test.YtoegamlpgenfcaaDoorRgR
namespace Go.Proofs.YtoegamlpgenfcaaDoor
open Go.RowKit Go.Shelf

set_option maxHeartbeats 1000000 in
theorem isBuffer_any {k f l : Int} {w : World} : Calls Tryd.prog 63 #[.int .i64 k, .int .i64 f, .int .i64 l] w fun e w' => e = .returned (.bool (okB k f l)) ∧ w' = w := by
  by_cases h1 : 40 ≤ k
  · by_cases h2 : k ≤ 6144
    · by_cases h3 : 0 ≤ f
      · by_cases h4 : f < k
        · by_cases h5 : 1 ≤ l
          · have hr : Hid (okB k f l = true) := Lib.hid (by simp [okB, h1, h2, h3, h4, h5])
            go_enter Tryd.func63, Tryd.ntmps63
            go_wp2_with fail
            go_ret
            exact ⟨ret_bool (by rw [hr.out]), rfl⟩
          · have hr : Hid (okB k f l = false) := Lib.hid (by simp [okB, h5])
            have h5' : l < 1 := by omega
            go_enter Tryd.func63, Tryd.ntmps63
            go_wp2_with fail
            go_ret
            exact ⟨ret_bool (by rw [hr.out]), rfl⟩
        · have hr : Hid (okB k f l = false) := Lib.hid (by simp [okB, h4])
          go_enter Tryd.func63, Tryd.ntmps63
          go_wp2_with fail
          go_ret
          exact ⟨ret_bool (by rw [hr.out]), rfl⟩
      · have hr : Hid (okB k f l = false) := Lib.hid (by simp [okB, h3])
        go_enter Tryd.func63, Tryd.ntmps63
        go_wp2_with fail
        go_ret
        exact ⟨ret_bool (by rw [hr.out]), rfl⟩
    · have hr : Hid (okB k f l = false) := Lib.hid (by simp [okB, h2])
      go_enter Tryd.func63, Tryd.ntmps63
      go_wp2_with fail
      go_ret
      exact ⟨ret_bool (by rw [hr.out]), rfl⟩
  · have hr : Hid (okB k f l = false) := Lib.hid (by simp [okB, h1])
    go_enter Tryd.func63, Tryd.ntmps63
    go_wp2_with fail
    go_ret
    exact ⟨ret_bool (by rw [hr.out]), rfl⟩
theorem isVersion_any {v : Int} {w : World} : Calls Tryd.prog 66 #[.int .i64 v] w fun e w' => e = .returned (.bool (okV v)) ∧ w' = w := by
  by_cases h1 : 0 ≤ v
  · by_cases h2 : v < 4
    · have hr : Hid (okV v = true) := Lib.hid (by simp [okV, h1, h2])
      go_enter Tryd.func66, Tryd.ntmps66
      go_wp2_with fail
      go_ret
      exact ⟨ret_bool (by rw [hr.out]), rfl⟩
    · have hr : Hid (okV v = false) := Lib.hid (by simp [okV, h2])
      go_enter Tryd.func66, Tryd.ntmps66
      go_wp2_with fail
      go_ret
      exact ⟨ret_bool (by rw [hr.out]), rfl⟩
  · have hr : Hid (okV v = false) := Lib.hid (by simp [okV, h1])
    go_enter Tryd.func66, Tryd.ntmps66
    go_wp2_with fail
    go_ret
    exact ⟨ret_bool (by rw [hr.out]), rfl⟩
set_option maxHeartbeats 1000000 in
theorem isSelection_any {k f l v x : Int} {w : World} : Calls Tryd.prog 47 #[.int .i64 k, .int .i64 f, .int .i64 l, .int .i64 v, .int .i64 x] w fun e w' => e = .returned (.bool (okB k f l && okV v && okE x)) ∧ w' = w := by
  have hB := Lib.hid (fun (u : World) => isBuffer_any (k := k) (f := f) (l := l) (w := u))
  have hV := Lib.hid (fun (u : World) => isVersion_any (v := v) (w := u))
  generalize okB k f l = b1 at *
  generalize okV v = b2 at *
  by_cases h1 : 0 ≤ x
  · by_cases h2 : x ≤ 131072
    · have hr : Hid (okE x = true) := Lib.hid (by simp [okE, h1, h2])
      cases b1
      · go_enter Tryd.func47, Tryd.ntmps47
        go_wp2_with (first | (go_at_call 63; refine (hB.out _).mono ?_; rintro e w ⟨rfl, rfl⟩) | (go_at_call 66; refine (hV.out _).mono ?_; rintro e w ⟨rfl, rfl⟩) | fail)
        go_ret
        exact ⟨ret_bool rfl, rfl⟩
      · cases b2
        · go_enter Tryd.func47, Tryd.ntmps47
          go_wp2_with (first | (go_at_call 63; refine (hB.out _).mono ?_; rintro e w ⟨rfl, rfl⟩) | (go_at_call 66; refine (hV.out _).mono ?_; rintro e w ⟨rfl, rfl⟩) | fail)
          go_ret
          exact ⟨ret_bool rfl, rfl⟩
        · go_enter Tryd.func47, Tryd.ntmps47
          go_wp2_with (first | (go_at_call 63; refine (hB.out _).mono ?_; rintro e w ⟨rfl, rfl⟩) | (go_at_call 66; refine (hV.out _).mono ?_; rintro e w ⟨rfl, rfl⟩) | fail)
          go_ret
          exact ⟨ret_bool (by rw [hr.out]; first | done | rfl | (simp; done) | (simp; omega)), rfl⟩
    · have hr : Hid (okE x = false) := Lib.hid (by simp [okE, h2])
      cases b1
      · go_enter Tryd.func47, Tryd.ntmps47
        go_wp2_with (first | (go_at_call 63; refine (hB.out _).mono ?_; rintro e w ⟨rfl, rfl⟩) | (go_at_call 66; refine (hV.out _).mono ?_; rintro e w ⟨rfl, rfl⟩) | fail)
        go_ret
        exact ⟨ret_bool rfl, rfl⟩
      · cases b2
        · go_enter Tryd.func47, Tryd.ntmps47
          go_wp2_with (first | (go_at_call 63; refine (hB.out _).mono ?_; rintro e w ⟨rfl, rfl⟩) | (go_at_call 66; refine (hV.out _).mono ?_; rintro e w ⟨rfl, rfl⟩) | fail)
          go_ret
          exact ⟨ret_bool rfl, rfl⟩
        · go_enter Tryd.func47, Tryd.ntmps47
          go_wp2_with (first | (go_at_call 63; refine (hB.out _).mono ?_; rintro e w ⟨rfl, rfl⟩) | (go_at_call 66; refine (hV.out _).mono ?_; rintro e w ⟨rfl, rfl⟩) | fail)
          go_ret
          exact ⟨ret_bool (by rw [hr.out]; first | done | rfl | (simp; done) | (simp; omega)), rfl⟩
  · have hr : Hid (okE x = false) := Lib.hid (by simp [okE, h1])
    cases b1
    · go_enter Tryd.func47, Tryd.ntmps47
      go_wp2_with (first | (go_at_call 63; refine (hB.out _).mono ?_; rintro e w ⟨rfl, rfl⟩) | (go_at_call 66; refine (hV.out _).mono ?_; rintro e w ⟨rfl, rfl⟩) | fail)
      go_ret
      exact ⟨ret_bool rfl, rfl⟩
    · cases b2
      · go_enter Tryd.func47, Tryd.ntmps47
        go_wp2_with (first | (go_at_call 63; refine (hB.out _).mono ?_; rintro e w ⟨rfl, rfl⟩) | (go_at_call 66; refine (hV.out _).mono ?_; rintro e w ⟨rfl, rfl⟩) | fail)
        go_ret
        exact ⟨ret_bool rfl, rfl⟩
      · go_enter Tryd.func47, Tryd.ntmps47
        go_wp2_with (first | (go_at_call 63; refine (hB.out _).mono ?_; rintro e w ⟨rfl, rfl⟩) | (go_at_call 66; refine (hV.out _).mono ?_; rintro e w ⟨rfl, rfl⟩) | fail)
        go_ret
        exact ⟨ret_bool (by rw [hr.out]; first | done | rfl | (simp; done) | (simp; omega)), rfl⟩
theorem rowsI_k {k : Nat} (h1 : 40 ≤ k) (h2 : k ≤ 6144) : rowsI ((k : Int) + 4) = ((rowsN (k + 4) : Nat) : Int) := by
  unfold rowsI
  rw [if_pos (by simp [okD]; omega)]
  congr 2
theorem size_rm {k l : Nat} {w : World} (h1 : 40 ≤ k) (h2 : k ≤ 6144) : Calls Tryd.prog 65 #[.int .i64 (k : Int), .int .i64 (l : Int)] w fun e w' => e = .returned (.int .i64 (sizN k l : Nat)) ∧ w' = w := by
  have hR := Lib.hid (fun (u : World) => Rows_any (d := (k : Int) + 4) (w := u))
  rw [rowsI_k h1 h2] at hR
  have hr := rows_k h1 h2
  have hs : Hid (sizN k l = min l (96 * rowsN (k + 4))) := Lib.hid rfl
  generalize rowsN (k + 4) = R at *
  obtain ⟨r1, r2⟩ := hr
  by_cases h : l ≤ 96 * R
  · have hm : min (l : Int) (96 * (R : Int)) = (l : Int) := by omega
    have he : sizN k l = l := by rw [hs.out]; omega
    have HE := Lib.hid he
    clear he h
    go_enter Tryd.func65, Tryd.ntmps65
    go_wp2_with (first | (go_at_call 70; refine (hR.out _).mono ?_; rintro e w ⟨rfl, rfl⟩) | fail)
    go_ret
    refine ⟨ret_int ?_, rfl⟩
    rw [HE.out]
  · have hm : min (l : Int) (96 * (R : Int)) = (96 * (R : Int)) := by omega
    have he : sizN k l = 96 * R := by rw [hs.out]; omega
    have HE := Lib.hid he
    have h' : ¬ ((l : Int) ≤ 96 * (R : Int)) := by omega
    clear he h
    go_enter Tryd.func65, Tryd.ntmps65
    go_wp2_with (first | (go_at_call 70; refine (hR.out _).mono ?_; rintro e w ⟨rfl, rfl⟩) | fail)
    go_ret
    refine ⟨ret_int ?_, rfl⟩
    rw [HE.out]
    push_cast
    rfl
set_option maxHeartbeats 1000000 in
theorem refValidR_any {k f l : Int} {w : World} : Calls Tryd.prog 24 #[.int .i64 k, .int .i64 f, .int .i64 l] w fun e w' => e = .returned (.bool (okB k f l)) ∧ w' = w := by
  by_cases h1 : 40 ≤ k
  · by_cases h2 : k ≤ 6144
    · by_cases h3 : 0 ≤ f
      · by_cases h4 : f < k
        · by_cases h5 : 1 ≤ l
          · have hr : Hid (okB k f l = true) := Lib.hid (by simp [okB, h1, h2, h3, h4, h5])
            go_enter Tryd.func24, Tryd.ntmps24
            go_wp2_with fail
            go_ret
            exact ⟨ret_bool (by rw [hr.out]), rfl⟩
          · have hr : Hid (okB k f l = false) := Lib.hid (by simp [okB, h5])
            have h5' : l < 1 := by omega
            go_enter Tryd.func24, Tryd.ntmps24
            go_wp2_with fail
            go_ret
            exact ⟨ret_bool (by rw [hr.out]), rfl⟩
        · have hr : Hid (okB k f l = false) := Lib.hid (by simp [okB, h4])
          go_enter Tryd.func24, Tryd.ntmps24
          go_wp2_with fail
          go_ret
          exact ⟨ret_bool (by rw [hr.out]), rfl⟩
      · have hr : Hid (okB k f l = false) := Lib.hid (by simp [okB, h3])
        go_enter Tryd.func24, Tryd.ntmps24
        go_wp2_with fail
        go_ret
        exact ⟨ret_bool (by rw [hr.out]), rfl⟩
    · have hr : Hid (okB k f l = false) := Lib.hid (by simp [okB, h2])
      go_enter Tryd.func24, Tryd.ntmps24
      go_wp2_with fail
      go_ret
      exact ⟨ret_bool (by rw [hr.out]), rfl⟩
  · have hr : Hid (okB k f l = false) := Lib.hid (by simp [okB, h1])
    go_enter Tryd.func24, Tryd.ntmps24
    go_wp2_with fail
    go_ret
    exact ⟨ret_bool (by rw [hr.out]), rfl⟩
set_option maxHeartbeats 1000000 in
theorem element_any {k f s : Nat} {i : Int} {w : World} (hk : k ≤ 6144) (hs : s ≤ 2) (hi : -1 ≤ i ∧ i ≤ 6148) : Calls Tryd.prog 83 #[.int .i64 (k : Int), .int .i64 (f : Int), .int .i64 (s : Int), .int .i64 i] w fun e w' => e = .returned (.int .i64 (elemI k f s i)) ∧ w' = w := by
  obtain ⟨hi1, hi2⟩ := hi
  have he : Hid (elemI k f s i = if i < 0 then -1 else if s < 2 ∧ i < (f : Int) then -1 else ((s * (k + 4) : Nat) : Int) + i) := Lib.hid rfl
  have hk' : (k : Int) ≤ 6144 := by omega
  have hk0 : (0 : Int) ≤ (k : Int) := by omega
  by_cases h1 : i < 0
  · go_enter Tryd.func83, Tryd.ntmps83
    go_wp2_with fail
    go_ret
    exact ⟨ret_int (by rw [he.out, if_pos h1]), rfl⟩
  · obtain rfl | rfl | rfl : s = 0 ∨ s = 1 ∨ s = 2 := by omega
    · by_cases h3 : i < (f : Int)
      · have hr : Hid (elemI k f 0 i = -1) := Lib.hid (by rw [he.out, if_neg h1, if_pos ⟨by decide, h3⟩])
        rw [show (((0 : Nat) : Int)) = 0 from rfl]
        go_enter Tryd.func83, Tryd.ntmps83
        go_wp2_with fail
        go_ret
        exact ⟨ret_int (by rw [hr.out]), rfl⟩
      · have hr : Hid (elemI k f 0 i = i) := Lib.hid (by rw [he.out, if_neg h1, if_neg (fun h => h3 h.2)]; omega)
        rw [show (((0 : Nat) : Int)) = 0 from rfl]
        go_enter Tryd.func83, Tryd.ntmps83
        go_wp2_with fail
        go_ret
        exact ⟨ret_int (by rw [hr.out]; first | done | omega), rfl⟩
    · by_cases h3 : i < (f : Int)
      · have hr : Hid (elemI k f 1 i = -1) := Lib.hid (by rw [he.out, if_neg h1, if_pos ⟨by decide, h3⟩])
        rw [show (((1 : Nat) : Int)) = 1 from rfl]
        go_enter Tryd.func83, Tryd.ntmps83
        go_wp2_with fail
        go_ret
        exact ⟨ret_int (by rw [hr.out]), rfl⟩
      · have hr : Hid (elemI k f 1 i = (k : Int) + 4 + i) := Lib.hid (by rw [he.out, if_neg h1, if_neg (fun h => h3 h.2)]; omega)
        rw [show (((1 : Nat) : Int)) = 1 from rfl]
        go_enter Tryd.func83, Tryd.ntmps83
        go_wp2_with fail
        go_ret
        exact ⟨ret_int (by rw [hr.out]; first | done | omega), rfl⟩
    · have hr : Hid (elemI k f 2 i = 2 * ((k : Int) + 4) + i) := Lib.hid (by rw [he.out, if_neg h1, if_neg (by omega)]; omega)
      rw [show (((2 : Nat) : Int)) = 2 from rfl]
      go_enter Tryd.func83, Tryd.ntmps83
      go_wp2_with fail
      go_ret
      exact ⟨ret_int (by rw [hr.out]; first | done | omega), rfl⟩
set_option maxHeartbeats 1000000 in
/-- The closure: whether an element is a filler bit. -/
theorem filler_any {f X : Nat} {s i : Int} {w : World} (hc : w.cell? ⟨X, 0, none⟩ = some (.int .i64 (f : Int))) : Calls Tryd.prog 78 #[.int .i64 s, .int .i64 i, .pointer (some ⟨X, 0, none⟩)] w fun e w' => e = .returned (.bool (decide (s < 2) && decide (i < (f : Int)))) ∧ w' = w := by
  by_cases h1 : s < 2
  · by_cases h2 : i < (f : Int)
    · go_enter Tryd.func78, Tryd.ntmps78
      go_wp2_with fail
      go_ret
      exact ⟨ret_bool (by simp [h1, h2]), rfl⟩
    · go_enter Tryd.func78, Tryd.ntmps78
      go_wp2_with fail
      go_ret
      exact ⟨ret_bool (by simp [h2]), rfl⟩
  · have hd : Hid (decide (s < 2) = false) := Lib.hid (decide_eq_false h1)
    go_enter Tryd.func78, Tryd.ntmps78
    go_wp2_with fail
    go_ret
    exact ⟨ret_bool (by rw [hd.out]; rfl), rfl⟩
end Go.Proofs.YtoegamlpgenfcaaDoor
