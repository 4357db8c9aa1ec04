/-
  Scale.
-/
import Derived.Test.YtkkombhpiagngaaDoorSu
namespace Go.Proofs.YtkkombhpiagngaaDoor
open Go.RowKit Go.Shelf

set_option maxRecDepth 100000 in
set_option maxHeartbeats 4000000 in
theorem Scale_main {A A' : Option Addr} {n c n' c' : Nat} {num den : Int} {f b1 b2 : Bool} {k : Int} {res : List Int} {w : World}
    (hV : ∀ u, Below w.heap.size w u → Calls Tryd.prog 37 #[.int .i64 2, .int .i64 num] u fun e w' => e = .returned (.bool b1) ∧ w' = u)
    (hV2 : ∀ u, Below w.heap.size w u → Calls Tryd.prog 37 #[.int .i64 3, .int .i64 den] u fun e w' => e = .returned (.bool b2) ∧ w' = u)
    (hE : ∀ u X, Below w.heap.size w u → RdB u (some ⟨X, 0, none⟩) 2 [b1, b2] → Calls Tryd.prog 33 #[.slice A n c, .slice (some ⟨X, 0, none⟩) 2 2] u fun e w' => e = .returned (.tuple #[.agg #[.slice A' n' c', .bool f], .int .i64 k]) ∧ Below u.heap.size u w')
    (hC : ∀ u, Below w.heap.size w u → u.cell? ⟨w.heap.size, 0, none⟩ = some (.int .i64 num) → u.cell? ⟨w.heap.size + 1, 0, none⟩ = some (.int .i64 den) → Calls Tryd.prog 34 #[.slice A' n' c', .func (.func 38) #[] #[.pointer (some ⟨w.heap.size, 0, none⟩), .pointer (some ⟨w.heap.size + 1, 0, none⟩)]] u (RetV .i64 3 u res)) :
    Calls Tryd.prog 21 #[.slice A n c, .int .i64 num, .int .i64 den] w (RetQ .i64 3 w (res, k)) := by
  have hbn := (Boxed.new w 3 (.int .i64 num)).alloc (.cells #[.int .i64 den] 3)
  have hbd := Boxed.new (w.alloc (.cells #[.int .i64 num] 3)) 3 (.int .i64 den)
  rw [World.size_alloc] at hbd
  have hbl := below_two (w := w) (.cells #[.int .i64 num] 3) (.cells #[.int .i64 den] 3)
  have hsz : ((w.alloc (.cells #[.int .i64 num] 3)).alloc (.cells #[.int .i64 den] 3)).heap.size = w.heap.size + 2 := by simp
  have HV := Lib.hid hV; have HV2 := Lib.hid hV2; have HE := Lib.hid hE; have HC := Lib.hid hC
  clear hV hV2 hE hC
  go_enter Tryd.func21, Tryd.ntmps21
  go_upto_region 1 with fail
  generalize (w.alloc (.cells #[.int .i64 num] 3)).alloc (.cells #[.int .i64 den] 3) = W at *
  have c0 := hbn.cell
  have c1 := hbd.cell
  have HBx : Hid (Boxed W w.heap.size 3 (.int .i64 num) ∧ Boxed W (w.heap.size + 1) 3 (.int .i64 den)) := Lib.hid ⟨hbn, hbd⟩
  have HBl := Lib.hid hbl
  have HSz := Lib.hid hsz
  clear hbn hbd hbl hsz
  have hle : w.heap.size ≤ W.heap.size := HBl.out.size
  have E1 := Lib.hid (HE.out (W.alloc (.cells #[.bool b1, .bool b2] 4)).drew W.heap.size (HBl.out.alloc hle _).drew (RdB.two W b1 b2 4).drew)
  have E2 := Lib.hid (HE.out ((W.alloc (.cells #[.slice none 0 0, .bool false] 66)).alloc (.cells #[.bool b1, .bool b2] 4)).drew (W.heap.size + 1) ((HBl.out.alloc hle _).alloc (by simp; omega) _).drew
    (by have := RdB.two (W.alloc (.cells #[.slice none 0 0, .bool false] 66)) b1 b2 4; rw [World.size_alloc] at this; exact this.drew))
  have E3 := Lib.hid (HE.out ((W.alloc (.cells #[.bool b1, .bool b2] 4)).alloc (.cells #[.slice none 0 0, .bool false] 66)).drew W.heap.size ((HBl.out.alloc hle _).alloc (by simp; omega) _).drew
    ((RdB.two W b1 b2 4).alloc _).drew)
  have L1 : Hid (Below w.heap.size w (W.alloc (.cells #[.bool b1, .bool b2] 4)).drew ∧ (Boxed (W.alloc (.cells #[.bool b1, .bool b2] 4)).drew w.heap.size 3 (.int .i64 num) ∧ Boxed (W.alloc (.cells #[.bool b1, .bool b2] 4)).drew (w.heap.size + 1) 3 (.int .i64 den))) := Lib.hid ⟨(HBl.out.alloc hle _).drew, HBx.out.1.alloc _, HBx.out.2.alloc _⟩
  have L2 : Hid (Below w.heap.size w ((W.alloc (.cells #[.slice none 0 0, .bool false] 66)).alloc (.cells #[.bool b1, .bool b2] 4)).drew ∧ (Boxed ((W.alloc (.cells #[.slice none 0 0, .bool false] 66)).alloc (.cells #[.bool b1, .bool b2] 4)).drew w.heap.size 3 (.int .i64 num) ∧ Boxed ((W.alloc (.cells #[.slice none 0 0, .bool false] 66)).alloc (.cells #[.bool b1, .bool b2] 4)).drew (w.heap.size + 1) 3 (.int .i64 den)) ∧ Two ((W.alloc (.cells #[.slice none 0 0, .bool false] 66)).alloc (.cells #[.bool b1, .bool b2] 4)).drew W.heap.size 66 (.slice none 0 0) (.bool false)) :=
    Lib.hid ⟨((HBl.out.alloc hle _).alloc (by simp; omega) _).drew, ⟨(HBx.out.1.alloc _).alloc _, (HBx.out.2.alloc _).alloc _⟩, (Two.new W 66 (.slice none 0 0) (.bool false)).alloc _⟩
  have L3 : Hid (Below w.heap.size w ((W.alloc (.cells #[.bool b1, .bool b2] 4)).alloc (.cells #[.slice none 0 0, .bool false] 66)).drew ∧ (Boxed ((W.alloc (.cells #[.bool b1, .bool b2] 4)).alloc (.cells #[.slice none 0 0, .bool false] 66)).drew w.heap.size 3 (.int .i64 num) ∧ Boxed ((W.alloc (.cells #[.bool b1, .bool b2] 4)).alloc (.cells #[.slice none 0 0, .bool false] 66)).drew (w.heap.size + 1) 3 (.int .i64 den)) ∧ Two ((W.alloc (.cells #[.bool b1, .bool b2] 4)).alloc (.cells #[.slice none 0 0, .bool false] 66)).drew (W.heap.size + 1) 66 (.slice none 0 0) (.bool false)) :=
    Lib.hid ⟨((HBl.out.alloc hle _).alloc (by simp; omega) _).drew, ⟨(HBx.out.1.alloc _).alloc _, (HBx.out.2.alloc _).alloc _⟩, by have := Two.new (W.alloc (.cells #[.bool b1, .bool b2] 4)) 66 (.slice none 0 0) (.bool false); rw [World.size_alloc] at this; exact this⟩
  clear HE
  go_region_held3 (fun w' => w'.cell? ⟨w.heap.size, 0, none⟩ = some (.int .i64 num) ∧ w'.cell? ⟨w.heap.size + 1, 0, none⟩ = some (.int .i64 den)) (first | go_keep | exact cB2 | exact cB3 _ _ | exact cB4 _ _ | fail) (first
    | (go_at_call 37; with_reducible refine (HV.out _ (by first | exact HBl.out.drew | exact (HBl.out.alloc (by have := HSz.out; omega) _).drew)).mono ?_; rintro e w2 ⟨rfl, rfl⟩)
    | (go_at_call 37; with_reducible refine (HV2.out _ (by first | exact HBl.out.drew | exact (HBl.out.alloc (by have := HSz.out; omega) _).drew)).mono ?_; rintro e w2 ⟨rfl, rfl⟩)
    | (go_at_call 33; with_reducible refine E1.out.mono ?_; rintro e w2 ⟨rfl, hb2⟩; have X2 := Boxed.below L1.out.2.1 hb2 L1.out.2.1.lt; have Y2 := Boxed.below L1.out.2.2 hb2 L1.out.2.2.lt; have cB2 := And.intro X2.cell Y2.cell; have HX2 := Lib.hid (And.intro X2 Y2); have HB2 := Lib.hid (L1.out.1.trans (hb2.mono L1.out.1.size)); clear hb2 X2 Y2)
    | (go_at_call 33; with_reducible refine E2.out.mono ?_; rintro e w2 ⟨rfl, hb2⟩; have X2 := Boxed.below L2.out.2.1.1 hb2 L2.out.2.1.1.lt; have Y2 := Boxed.below L2.out.2.1.2 hb2 L2.out.2.1.2.lt; have cB2 := And.intro X2.cell Y2.cell; have cB3 := fun (a b : Value) => And.intro (Boxed.put2 X2 (P := W.heap.size) (by have := HSz.out; omega) a b).cell (Boxed.put2 Y2 (P := W.heap.size) (by have := HSz.out; omega) a b).cell; have HXP := Lib.hid (fun (a b : Value) => And.intro (Boxed.put2 X2 (P := W.heap.size) (by have := HSz.out; omega) a b) (Boxed.put2 Y2 (P := W.heap.size) (by have := HSz.out; omega) a b)); have HBP := Lib.hid (fun (a b : Value) => Below.put2 (P := W.heap.size) (L2.out.1.trans (hb2.mono L2.out.1.size)) (by have := HSz.out; omega) a b); have HX2 := Lib.hid (And.intro X2 Y2); have T2 := Two.below L2.out.2.2 hb2 L2.out.2.2.lt; have p0 := T2.cell0; have p1 := T2.cell1; have q0 := T2.frozen 0; have q1 := T2.frozen 1; have HT2 := Lib.hid T2; have HB2 := Lib.hid (L2.out.1.trans (hb2.mono L2.out.1.size)); clear hb2 X2 Y2 T2)
    | (go_at_call 33; with_reducible refine E3.out.mono ?_; rintro e w2 ⟨rfl, hb2⟩; have X2 := Boxed.below L3.out.2.1.1 hb2 L3.out.2.1.1.lt; have Y2 := Boxed.below L3.out.2.1.2 hb2 L3.out.2.1.2.lt; have cB2 := And.intro X2.cell Y2.cell; have cB4 := fun (a b : Value) => And.intro (Boxed.put2 X2 (P := W.heap.size + 1) (by have := HSz.out; omega) a b).cell (Boxed.put2 Y2 (P := W.heap.size + 1) (by have := HSz.out; omega) a b).cell; have HXP := Lib.hid (fun (a b : Value) => And.intro (Boxed.put2 X2 (P := W.heap.size + 1) (by have := HSz.out; omega) a b) (Boxed.put2 Y2 (P := W.heap.size + 1) (by have := HSz.out; omega) a b)); have HBP := Lib.hid (fun (a b : Value) => Below.put2 (P := W.heap.size + 1) (L3.out.1.trans (hb2.mono L3.out.1.size)) (by have := HSz.out; omega) a b); have HX2 := Lib.hid (And.intro X2 Y2); have T2 := Two.below L3.out.2.2 hb2 L3.out.2.2.lt; have p0 := T2.cell0; have p1 := T2.cell1; have q0 := T2.frozen 0; have q1 := T2.frozen 1; have HT2 := Lib.hid T2; have HB2 := Lib.hid (L3.out.1.trans (hb2.mono L3.out.1.size)); clear hb2 X2 Y2 T2)
    | fail)
  all_goals
    first
    | (have T4 := HT2.out.put2 (.slice A' n' c') (.bool f)
       have X4 := HXP.out (.slice A' n' c') (.bool f)
       have B4 := HBP.out (.slice A' n' c') (.bool f))
    | (have T4 := Two.new w2 66 (.slice A' n' c') (.bool f)
       have X4 := And.intro (HX2.out.1.alloc (.cells #[.slice A' n' c', .bool f] 66)) (HX2.out.2.alloc (.cells #[.slice A' n' c', .bool f] 66))
       have B4 := HB2.out.alloc HB2.out.size (.cells #[.slice A' n' c', .bool f] 66))
    have hC4 := Lib.hid (HC.out _ B4 X4.1.cell X4.2.cell)
    have HB4 := Lib.hid B4
    have d0 := T4.cell0
    clear HC HV HV2 HBx HBl E1 E2 E3 L1 L2 L3 B4 X4 T4 HX2 HB2 cB2
    go_wp2_with (refine hC4.out.mono ?_; rintro e w5 ⟨A5, c5, rfl, hO5, hb5⟩)
    go_ret2
    exact ⟨A5, c5, rfl, hO5.mono HB4.out.size, HB4.out.trans (hb5.mono HB4.out.size)⟩
end Go.Proofs.YtkkombhpiagngaaDoor
