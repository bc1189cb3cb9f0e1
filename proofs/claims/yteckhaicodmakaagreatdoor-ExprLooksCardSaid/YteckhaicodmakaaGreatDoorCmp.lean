/-
  Contracts of value.Compare, of the document's own Compare, and of '==' between two values.
-/
import Derived.Test.YteckhaicodmakaaGreatDoorVal
import Derived.Laws.StructEq
import Derived.Lib.Hide
namespace Go.Proofs.YteckhaicodmakaaGreatDoor
open Go.RowKit

theorem run_eqV (k n : Int) (s : ByteArray) (k' n' : Int) (s' : ByteArray) (w : World) :
    (binOp .eql 23 (VV k n s) (VV k' n' s')).run Tryz.prog w = .ok (.bool (eqV k n s k' n' s')) w := by
  have u3 := Tryz.underlying3
  have a3 := Tryz.isAgg3
  have z3 := Tryz.sizeOf3
  have u9 := Tryz.underlying9
  have a9 := Tryz.isAgg9
  have z9 := Tryz.sizeOf9
  have hS : Tryz.prog.underlying 23 = some (.struct (Tryz.prog.fieldsOf 23)) := by kernel_rfl
  have hp : Tryz.prog.stoodInHeld 23 = false := by kernel_rfl
  rw [run_eql_struct, show (10000 : Nat) = 9999 + 1 from rfl, run_equalIn_agg w 9999 23 _ _ hS hp]
  simp only [Program.fieldsOf, Tryz.underlying23]
  go_simp
  unfold eqV
  by_cases h1 : k = k' <;> by_cases h2 : n = n' <;> by_cases h3 : s.toList = s'.toList <;> simp [h1, h2, h3]

end Go.Proofs.YteckhaicodmakaaGreatDoor
