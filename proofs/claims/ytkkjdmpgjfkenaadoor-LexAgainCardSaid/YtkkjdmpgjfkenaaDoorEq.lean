/-
  When two places are equal, and two words.
-/
import Derived.Test.YtkkjdmpgjfkenaaDoorLeaf
import Derived.Laws.StructEq
import Derived.KernelRfl
namespace Go.Proofs.YtkkjdmpgjfkenaaDoor
open Go.RowKit

theorem structPos : Tryd.prog.underlying 25 = some (.struct (Tryd.prog.fieldsOf 25)) := by kernel_rfl
theorem structTok : Tryd.prog.underlying 40 = some (.struct (Tryd.prog.fieldsOf 40)) := by kernel_rfl
theorem stoodPos : Tryd.prog.stoodInHeld 25 = false := by kernel_rfl
theorem stoodTok : Tryd.prog.stoodInHeld 40 = false := by kernel_rfl
theorem eqPos : Tryd.prog.eqGuardType Tryd.prog.depth 25 = false := by kernel_rfl
theorem eqTok : Tryd.prog.eqGuardType Tryd.prog.depth 40 = false := by kernel_rfl

theorem posIn (n : Nat) (a b c d : Int) (w : World) : (Op.equalIn (n + 2) 25 (.agg #[.int .i64 a, .int .i64 b]) (.agg #[.int .i64 c, .int .i64 d])).run Tryd.prog w = .ok (a == c && b == d) w := by
  have u3 := Tryd.underlying3
  have a3 := Tryd.isAgg3
  have z3 := Tryd.sizeOf3
  rw [run_equalIn_agg w (n + 1) 25 _ _ structPos stoodPos]
  simp only [Program.fieldsOf, Tryd.underlying25]
  go_simp
  by_cases h1 : a = c <;> by_cases h2 : b = d <;> simp [h1, h2]
theorem posEq (a b c d : Int) (w : World) : (binOp .eql 25 (.agg #[.int .i64 a, .int .i64 b]) (.agg #[.int .i64 c, .int .i64 d])).run Tryd.prog w = .ok (.bool (a == c && b == d)) w := by
  rw [run_eql_struct, posIn 9998]
  rfl
theorem tokIn (k k' : Int) (u u' : ByteArray) (n n' a b c d : Int) (w : World) : (Op.equalIn 10000 40 (.agg #[.int .i64 k, .string u, .int .i64 n, .int .i64 a, .int .i64 b]) (.agg #[.int .i64 k', .string u', .int .i64 n', .int .i64 c, .int .i64 d])).run Tryd.prog w =
    .ok (k == k' && (u.toList == u'.toList && (n == n' && (a == c && b == d)))) w := by
  have u3 := Tryd.underlying38; have u9 := Tryd.underlying9; have u2 := Tryd.underlying2
  have a3 := Tryd.isAgg38; have a9 := Tryd.isAgg9; have a2 := Tryd.isAgg2; have a25 := Tryd.isAgg25
  have z3 := Tryd.sizeOf38; have z9 := Tryd.sizeOf9; have z2 := Tryd.sizeOf2; have z25 := Tryd.sizeOf25
  have hp := fun w => posIn 9997 a b c d w
  rw [show (10000 : Nat) = 9999 + 1 from rfl, run_equalIn_agg w 9999 40 _ _ structTok stoodTok]
  simp only [Program.fieldsOf, Tryd.underlying40]
  go_simp
  by_cases h1 : k = k' <;> by_cases h2 : u.toList = u'.toList <;> by_cases h3 : n = n' <;> by_cases h4 : a = c <;> by_cases h5 : b = d <;> simp [h1, h2, h3, h4, h5]
theorem tokEq (k k' : Int) (u u' : ByteArray) (n n' a b c d : Int) (w : World) : (binOp .eql 40 (.agg #[.int .i64 k, .string u, .int .i64 n, .int .i64 a, .int .i64 b]) (.agg #[.int .i64 k', .string u', .int .i64 n', .int .i64 c, .int .i64 d])).run Tryd.prog w =
    .ok (.bool (k == k' && (u.toList == u'.toList && (n == n' && (a == c && b == d))))) w := by
  rw [run_eql_struct, tokIn]
  rfl
theorem tokNe (k k' : Int) (u u' : ByteArray) (n n' a b c d : Int) (w : World) : (binOp .neq 40 (.agg #[.int .i64 k, .string u, .int .i64 n, .int .i64 a, .int .i64 b]) (.agg #[.int .i64 k', .string u', .int .i64 n', .int .i64 c, .int .i64 d])).run Tryd.prog w =
    .ok (.bool (!(k == k' && (u.toList == u'.toList && (n == n' && (a == c && b == d)))))) w := by
  rw [run_neq_struct, tokIn]
  rfl
end Go.Proofs.YtkkjdmpgjfkenaaDoor
