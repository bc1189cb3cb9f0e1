/-
  Package ledger: Open, Close, Take and Give of no ledger.
-/
import Derived.Test.YtdjhoiamongdaaaLdc
namespace Go.Proofs.Ytdjhoiamongdaaa
open Go.RowKit Go.Maps

theorem open_nil (u g : Int) (w : World) :
    Calls Try.prog 50 #[.pointer none, .int .i64 u, .int .i64 g] w fun e w' => e = .returned (.tuple #[.int .i64 0, .int .i64 6]) ∧ w = w' := by
  have HC := Lib.hid (closed_nil w)
  go_enter Try.func50, Try.ntmps50
  go_wp2_with fail
  refine HC.out.mono ?_
  rintro e w1 ⟨rfl, rfl⟩
  go_wp2_with fail
  go_ret2
  exact ⟨rfl, rfl⟩
theorem close_nil (n : Int) (w : World) :
    Calls Try.prog 51 #[.pointer none, .int .i64 n] w fun e w' => e = .returned (.int .i64 6) ∧ w = w' := by
  have HC := Lib.hid (closed_nil w)
  go_enter Try.func51, Try.ntmps51
  go_wp2_with fail
  refine HC.out.mono ?_
  rintro e w1 ⟨rfl, rfl⟩
  go_wp2_with fail
  go_ret
  exact ⟨rfl, rfl⟩
theorem take_nil (n p : Int) (w : World) :
    Calls Try.prog 52 #[.pointer none, .int .i64 n, .int .i64 p] w fun e w' => e = .returned (.int .i64 6) ∧ w = w' := by
  have HC := Lib.hid (closed_nil w)
  go_enter Try.func52, Try.ntmps52
  go_wp2_with fail
  refine HC.out.mono ?_
  rintro e w1 ⟨rfl, rfl⟩
  go_wp2_with fail
  go_ret
  exact ⟨rfl, rfl⟩
theorem give_nil (n p : Int) (w : World) :
    Calls Try.prog 53 #[.pointer none, .int .i64 n, .int .i64 p] w fun e w' => e = .returned (.int .i64 6) ∧ w = w' := by
  have HC := Lib.hid (closed_nil w)
  go_enter Try.func53, Try.ntmps53
  go_wp2_with fail
  refine HC.out.mono ?_
  rintro e w1 ⟨rfl, rfl⟩
  go_wp2_with fail
  go_ret
  exact ⟨rfl, rfl⟩
end Go.Proofs.Ytdjhoiamongdaaa
