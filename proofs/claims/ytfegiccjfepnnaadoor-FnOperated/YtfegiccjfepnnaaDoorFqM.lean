/- Whether a function is nil. -/
import Derived.Test.YtfegiccjfepnnaaDoorTmM
namespace Go.Proofs.YtfegiccjfepnnaaDoor
open Go.RowKit
set_option linter.unusedVariables false
theorem eqFnN (V : World) (d : Nat) : (Op.equalIn (d + 1) 66 .nilFunc .nilFunc).run Tryd.prog V = .ok true V := by
  unfold Op.equalIn
  simp [run_underlying Tryd.underlying66, Result.andThen]
theorem eqFnS (f : Fn) (x y : Array Value) (V : World) (d : Nat) : (Op.equalIn (d + 1) 66 (.func f x y) .nilFunc).run Tryd.prog V = .ok false V := by
  unfold Op.equalIn
  simp [run_underlying Tryd.underlying66, Result.andThen]
theorem nil_fn (V : World) : (binOp .eql 66 .nilFunc .nilFunc).run Tryd.prog V = .ok (.bool true) V := by
  have h' : (Op.equalIn Op.maxDepth 66 .nilFunc .nilFunc).run Tryd.prog V = .ok true V := eqFnN V 9999
  simp [binOp, Op.equal, h', Result.andThen]
theorem some_fn (f : Fn) (x y : Array Value) (V : World) : (binOp .eql 66 (.func f x y) .nilFunc).run Tryd.prog V = .ok (.bool false) V := by
  have h' : (Op.equalIn Op.maxDepth 66 (.func f x y) .nilFunc).run Tryd.prog V = .ok false V := eqFnS f x y V 9999
  simp [binOp, Op.equal, h', Result.andThen]
end Go.Proofs.YtfegiccjfepnnaaDoor
