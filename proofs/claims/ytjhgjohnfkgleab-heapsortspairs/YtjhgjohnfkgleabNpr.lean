import Derived.Test.YtjhgjohnfkgleabStp2
namespace Go.Proofs.Ytjhgjohnfkgleab
open Go.RowKit Go.Maps
set_option maxRecDepth 20000

theorem eqPair (W : World) (s : ByteArray) (n : Int) : (Op.equalIn 10000 52 (.agg #[.string s, .int .i64 n]) (.agg #[.string s, .int .i64 n])).run Try.prog W = .ok true W := by
  have ht : Try.prog.underlying 52 = some (.struct (Try.prog.fieldsOf 52)) := by kernel_rfl
  have hp : Try.prog.stoodInHeld 52 = false := by kernel_rfl
  rw [run_equalIn_agg W 9999 52 _ _ ht hp]
  clear ht hp
  simp only [Program.fieldsOf, Try.underlying52]
  simp [Op.eqFields, go_sem]

theorem guardPair (W : World) (op : BinOp) (x y : Operand) (xs ys : Array Value) : (eqGuard op 52 x y (.agg xs) (.agg ys)).run Try.prog W = .ok () W :=
  run_eqGuard_agg W op 52 x y xs ys (by kernel_rfl)

end Go.Proofs.Ytjhgjohnfkgleab
