/- Go's == on sets (four words) and on runs (two ints), as the walk meets it. -/
import Derived.Test.YthloafbgfjhicaaF
import Derived.Test.YthloafbgfjhicaaR
import Derived.ChangeKeysEq
namespace Go.Proofs.Ythloafbgfjhicaa
open Go.RowKit
/-- Are two sets the same, word by word? -/
def eqS (f g : Nat → Int) : Bool := (f 0 == g 0) && ((f 1 == g 1) && ((f 2 == g 2) && (f 3 == g 3)))
theorem guard24 : Try.prog.eqGuardType Try.prog.depth 24 = false := by kernel_rfl
theorem guard39 : Try.prog.eqGuardType Try.prog.depth 39 = false := by kernel_rfl
theorem info22 : (Try.prog.info? 22).map (fun i => (i.zero, i.size, i.bytes)) = some (some (.int .u64 0), 1, 8) := by kernel_rfl
theorem cells22 : Try.prog.cellsOf 22 = 1 := by kernel_rfl
theorem cells3 : Try.prog.cellsOf 3 = 1 := by kernel_rfl
theorem eql24 (f g : Nat → Int) (w : World) : Sem.run Try.prog (binOp .eql 24 (SV f) (SV g)) w = .ok (.bool (eqS f g)) w := by
  obtain ⟨i0, hi, _, _, _⟩ := info_parts info22
  rw [run_eql_struct, run_equalIn_array w 9999 _ _ Try.underlying24 hi, cells22]
  have h0 : ∀ w, (part 22 (row4 f) 0).run Try.prog w = .ok (.int .u64 (f 0)) w := fun _ => by kernel_rfl
  have h1 : ∀ w, (part 22 (row4 f) 1).run Try.prog w = .ok (.int .u64 (f 1)) w := fun _ => by kernel_rfl
  have h2 : ∀ w, (part 22 (row4 f) 2).run Try.prog w = .ok (.int .u64 (f 2)) w := fun _ => by kernel_rfl
  have h3 : ∀ w, (part 22 (row4 f) 3).run Try.prog w = .ok (.int .u64 (f 3)) w := fun _ => by kernel_rfl
  have k0 : ∀ w, (part 22 (row4 g) 0).run Try.prog w = .ok (.int .u64 (g 0)) w := fun _ => by kernel_rfl
  have k1 : ∀ w, (part 22 (row4 g) 1).run Try.prog w = .ok (.int .u64 (g 1)) w := fun _ => by kernel_rfl
  have k2 : ∀ w, (part 22 (row4 g) 2).run Try.prog w = .ok (.int .u64 (g 2)) w := fun _ => by kernel_rfl
  have k3 : ∀ w, (part 22 (row4 g) 3).run Try.prog w = .ok (.int .u64 (g 3)) w := fun _ => by kernel_rfl
  have e0 : ∀ (a b : Int) w, (Op.equalIn 9999 22 (.int .u64 a) (.int .u64 b)).run Try.prog w = .ok (a == b) w := fun a b w => run_equalIn_int w 9998 22 .u64 .u64 a b Try.underlying22
  have hr : List.range 4 = [0, 1, 2, 3] := rfl
  rw [hr]
  show (Sem.run Try.prog (Op.eqItems 9999 22 1 (row4 f) (row4 g) [0, 1, 2, 3]) w).andThen _ = _
  clear hi
  by_cases p0 : f 0 = g 0 <;> by_cases p1 : f 1 = g 1 <;> by_cases p2 : f 2 = g 2 <;> by_cases p3 : f 3 = g 3 <;> simp [Op.eqItems, eqS, *]
theorem eql39 (a b c d : Int) (w : World) : Sem.run Try.prog (binOp .eql 39 (.agg #[.int .i64 a, .int .i64 b]) (.agg #[.int .i64 c, .int .i64 d])) w = .ok (.bool ((a == c) && (b == d))) w := by
  obtain ⟨i0, hi, _, _, _⟩ := info_parts info3
  rw [run_eql_struct, run_equalIn_array w 9999 _ _ Try.underlying39 hi, cells3]
  have h0 : ∀ (x y : Int) w, (part 3 #[.int .i64 x, .int .i64 y] 0).run Try.prog w = .ok (.int .i64 x) w := fun _ _ _ => by kernel_rfl
  have h1 : ∀ (x y : Int) w, (part 3 #[.int .i64 x, .int .i64 y] 1).run Try.prog w = .ok (.int .i64 y) w := fun _ _ _ => by kernel_rfl
  have e0 : ∀ (a b : Int) w, (Op.equalIn 9999 3 (.int .i64 a) (.int .i64 b)).run Try.prog w = .ok (a == b) w := fun a b w => run_equalIn_int w 9998 3 .i64 .i64 a b Try.underlying3
  have hr : List.range 2 = [0, 1] := rfl
  rw [hr]
  show (Sem.run Try.prog (Op.eqItems 9999 3 1 _ _ [0, 1]) w).andThen _ = _
  clear hi
  by_cases p0 : a = c <;> by_cases p1 : b = d <;> simp [Op.eqItems, *]
end Go.Proofs.Ythloafbgfjhicaa
