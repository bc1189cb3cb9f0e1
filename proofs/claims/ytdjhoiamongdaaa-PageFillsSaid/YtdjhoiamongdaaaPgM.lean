/-
  Contracts of the document's own May.
-/
import Derived.Test.YtdjhoiamongdaaaPgD
import Derived.Test.YtdjhoiamongdaaaRRPut
import Derived.Test.YtdjhoiamongdaaaRChk
namespace Go.Proofs.Ytdjhoiamongdaaa
open Go.RowKit Go.Shelf

def mayI (r : List Va) : Int := if okR r = true then if 253 < 1 + sumV r then 3 else 0 else 20

set_option maxRecDepth 100000 in
set_option maxHeartbeats 400000 in
theorem may_any (A : Option Addr) (c : Nat) (r : List Va) (w : World) (h : RowAt w A r) (hf : Fine r) (hl : r.length ≤ 9223372036854775807) :
    Calls Try.prog 19 #[.slice A r.length c] w fun e w' => e = .returned (.int .i64 (mayI r)) ∧ Below w.heap.size w w' := by
  have HC := Lib.hid (refRowCheck_any A c r w h hf hl)
  have HR := Lib.hid h
  clear h
  by_cases hok : okR r = true
  · have hs : sumV r ≤ 65536 := by
      obtain ⟨h32, hall⟩ := okR_parts hok
      have := sumV_le r hall
      omega
    rw [hok] at HC
    by_cases hw : 253 < 1 + sumV r
    · have HM := Lib.hid (show mayI r = 3 by simp [mayI, hok, hw])
      go_enter Try.func19, Try.ntmps19
      go_wp2_with fail
      refine HC.out.mono ?_
      rintro e w1 ⟨rfl, hb⟩
      have HP := Lib.hid (refPut_any A c r w1 (HR.out.kept hb) hok)
      have HB := Lib.hid hb
      clear hb
      go_wp2_with fail
      refine HP.out.mono ?_
      rintro e w2 ⟨g, cap, rfl, _, hb2⟩
      go_wp2_with fail
      go_ret
      exact ⟨by rw [HM.out]; rfl, bt HB.out hb2⟩
    · have HM := Lib.hid (show mayI r = 0 by simp [mayI, hok, hw])
      go_enter Try.func19, Try.ntmps19
      go_wp2_with fail
      refine HC.out.mono ?_
      rintro e w1 ⟨rfl, hb⟩
      have HP := Lib.hid (refPut_any A c r w1 (HR.out.kept hb) hok)
      have HB := Lib.hid hb
      clear hb
      go_wp2_with fail
      refine HP.out.mono ?_
      rintro e w2 ⟨g, cap, rfl, _, hb2⟩
      go_wp2_with fail
      go_ret
      exact ⟨by rw [HM.out]; rfl, bt HB.out hb2⟩
  · have HM := Lib.hid (show mayI r = 20 by simp [mayI, hok])
    rw [show okR r = false by simpa using hok] at HC
    go_enter Try.func19, Try.ntmps19
    go_wp2_with fail
    refine HC.out.mono ?_
    rintro e w1 ⟨rfl, hb⟩
    go_wp2_with fail
    go_ret
    exact ⟨by rw [HM.out]; rfl, hb⟩
end Go.Proofs.Ytdjhoiamongdaaa
