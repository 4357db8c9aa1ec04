/-
  Equality of arrays and structs.
-/
import Derived.Test.YtjehfdnkdfmmbaaApp
import Derived.Laws.StructEq
import Derived.KernelRfl
namespace Go.Proofs.Ytjehfdnkdfmmbaa
open Go.RowKit

theorem eq_arr3 (a b c d e f : Int) (w : World) : (Op.equalIn 10000 25 (.agg #[.int .u8 a, .int .u8 b, .int .u8 c]) (.agg #[.int .u8 d, .int .u8 e, .int .u8 f])).run Try.prog w = .ok (a == d && b == e && c == f) w := by
  have u3 := Try.underlying5
  have a3 := Try.isAgg5
  have z3 := Try.sizeOf5
  rw [show (10000 : Nat) = 9999 + 1 from rfl, Op.equalIn]
  simp only [Sem.run_bind, run_underlying Try.underlying25, Result.andThen_ok]
  simp only [Std.Legacy.Range.forIn_eq_forIn_range', Std.Legacy.Range.size, Nat.sub_zero, Nat.add_sub_cancel, Nat.div_one, List.range'_succ, List.range'_zero, List.forIn_cons, List.forIn_nil]
  go_simp
  by_cases h1 : a = d <;> by_cases h2 : b = e <;> by_cases h3 : c = f <;> simp [h1, h2, h3]
theorem eq_br (k : Nat) (a b c d a' b' c' d' : Int) (w : World) : (Op.equalIn (k + 2) 50 (.agg #[.int .i64 a, .int .i64 b, .int .i64 c, .int .i64 d]) (.agg #[.int .i64 a', .int .i64 b', .int .i64 c', .int .i64 d'])).run Try.prog w = .ok (a == a' && b == b' && c == c' && d == d') w := by
  have u3 := Try.underlying3
  have a3 := Try.isAgg3
  have z3 := Try.sizeOf3
  have hS : Try.prog.underlying 50 = some (.struct (Try.prog.fieldsOf 50)) := by kernel_rfl
  have hp : Try.prog.stoodInHeld 50 = false := by kernel_rfl
  rw [show k + 2 = (k + 1) + 1 from rfl, run_equalIn_agg w (k + 1) 50 _ _ hS hp]
  simp only [Program.fieldsOf, Try.underlying50]
  go_simp
  by_cases h1 : a = a' <;> by_cases h2 : b = b' <;> by_cases h3 : c = c' <;> by_cases h4 : d = d' <;> simp [h1, h2, h3, h4]
theorem eq_two (a b c d e f g h a' b' c' d' e' f' g' h' : Int) (w : World) : (Op.equalIn 10000 51 (.agg #[.int .i64 a, .int .i64 b, .int .i64 c, .int .i64 d, .int .i64 e, .int .i64 f, .int .i64 g, .int .i64 h]) (.agg #[.int .i64 a', .int .i64 b', .int .i64 c', .int .i64 d', .int .i64 e', .int .i64 f', .int .i64 g', .int .i64 h'])).run Try.prog w =
    .ok ((a == a' && b == b' && c == c' && d == d') && (e == e' && f == f' && g == g' && h == h')) w := by
  have u3 := Try.underlying50
  have a3 := Try.isAgg50
  have z3 := Try.sizeOf50
  have e1 : ∀ u, (Op.equalIn 9999 50 (.agg #[.int .i64 a, .int .i64 b, .int .i64 c, .int .i64 d]) (.agg #[.int .i64 a', .int .i64 b', .int .i64 c', .int .i64 d'])).run Try.prog u = .ok (a == a' && b == b' && c == c' && d == d') u := fun u => eq_br 9997 a b c d a' b' c' d' u
  have e2 : ∀ u, (Op.equalIn 9999 50 (.agg #[.int .i64 e, .int .i64 f, .int .i64 g, .int .i64 h]) (.agg #[.int .i64 e', .int .i64 f', .int .i64 g', .int .i64 h'])).run Try.prog u = .ok (e == e' && f == f' && g == g' && h == h') u := fun u => eq_br 9997 e f g h e' f' g' h' u
  have p0 : ∀ (x1 x2 x3 x4 x5 x6 x7 x8 : Value) (u : World), (part 50 #[x1, x2, x3, x4, x5, x6, x7, x8] 0).run Try.prog u = .ok (.agg #[x1, x2, x3, x4]) u := fun x1 x2 x3 x4 x5 x6 x7 x8 u => by
    simp [part, a3, z3, Result.andThen]
  have p4 : ∀ (x1 x2 x3 x4 x5 x6 x7 x8 : Value) (u : World), (part 50 #[x1, x2, x3, x4, x5, x6, x7, x8] 4).run Try.prog u = .ok (.agg #[x5, x6, x7, x8]) u := fun x1 x2 x3 x4 x5 x6 x7 x8 u => by
    simp [part, a3, z3, Result.andThen]
  rw [show (10000 : Nat) = 9999 + 1 from rfl, Op.equalIn]
  simp only [Sem.run_bind, run_underlying Try.underlying51, Result.andThen_ok]
  simp only [Std.Legacy.Range.forIn_eq_forIn_range', Std.Legacy.Range.size, Nat.sub_zero, Nat.add_sub_cancel, Nat.div_one, List.range'_succ, List.range'_zero, List.forIn_cons, List.forIn_nil]
  generalize (a == a' && b == b' && c == c' && d == d') = r1 at *
  generalize (e == e' && f == f' && g == g' && h == h') = r2 at *
  simp only [z3, Result.andThen_ok, Nat.zero_mul, Nat.zero_add, Nat.one_mul, Sem.run_bind, p0, e1]
  cases r1 <;> cases r2 <;> simp [p4, e2, Result.andThen]
end Go.Proofs.Ytjehfdnkdfmmbaa
