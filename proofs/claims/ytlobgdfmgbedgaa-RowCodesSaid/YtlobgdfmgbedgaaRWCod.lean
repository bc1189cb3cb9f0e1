/-
  The walk of RowCodes: rows too long, and rows that may not be. (A row that may be: not yet: its last region draws its order.)
-/
import Derived.Test.YtlobgdfmgbedgaaRLiv
import Derived.Test.YtlobgdfmgbedgaaRLarge
import Derived.Test.YtlobgdfmgbedgaaRRPut
import Derived.Test.YtlobgdfmgbedgaaRCod0
namespace Go.Proofs.Ytlobgdfmgbedgaa
open Go.RowKit Go.Shelf

set_option maxRecDepth 100000 in
set_option maxHeartbeats 1000000 in
theorem codes_large (A M : Option Addr) (c cm : Nat) (r : List Va) (more : List Int) (w : World) (h : RowAt w A r) (hf : Fine r) (hl : r.length ≤ 9223372036854775807) (hlm : more.length ≤ 9223372036854775807) (hbig : largeV r = true ∨ 1000 < more.length) :
    Calls Try.prog 3 #[.slice A r.length c, .slice M more.length cm] w fun e w' => e = .returned (.bool true) ∧ Below w.heap.size w w' := by
  have HG := Lib.hid hbig
  clear hbig
  go_enter Try.func3, Try.ntmps3
  go_wp2_with fail
  refine (large_B A c r w h hf hl).mono ?_
  rintro e w1 ⟨rfl, hb1⟩
  have HB := Lib.hid hb1
  clear hb1
  cases hla : largeV r
  · have hc1 : (1000 : Int) < more.length := by
      rcases HG.out with hx | hx
      · rw [hla] at hx; cases hx
      · omega
    go_wp2_with fail
    refine (lives_yes _).mono ?_
    rintro e w3 ⟨rfl, hb3⟩
    go_wp2_with fail
    go_ret
    exact ⟨rfl, bt HB.out hb3⟩
  · go_wp2_with fail
    refine (lives_yes _).mono ?_
    rintro e w3 ⟨rfl, hb3⟩
    go_wp2_with fail
    go_ret
    exact ⟨rfl, bt HB.out hb3⟩

set_option maxRecDepth 100000 in
set_option maxHeartbeats 1000000 in
theorem codes_no (A M : Option Addr) (c cm : Nat) (r : List Va) (more : List Int) (w : World) (h : RowAt w A r) (hf : Fine r) (hla : largeV r = false) (hm : more.length ≤ 1000) (hok : okR r = false) :
    Calls Try.prog 3 #[.slice A r.length c, .slice M more.length cm] w fun e w' => e = .returned (.bool true) ∧ Below w.heap.size w w' := by
  have hl := (large_len hla).1
  have hm1 : ¬ (1000 : Int) < more.length := by omega
  have HR := Lib.hid h
  have HO := Lib.hid hok
  clear h hok
  go_enter Try.func3, Try.ntmps3
  go_wp2_with fail
  refine (large_B A c r w HR.out hf (by omega)).mono ?_
  rintro e w1 ⟨rfl, hb1⟩
  have HB := Lib.hid hb1
  clear hb1
  rw [hla]
  go_wp2_with fail
  refine (put_no A c r _ (HR.out.kept HB.out) hf (by omega) HO.out).mono ?_
  rintro e w2 ⟨rfl, hb2⟩
  have HB := Lib.hid (bt HB.out hb2)
  clear hb2
  go_wp2_with fail
  refine (lives_yes _).mono ?_
  rintro e w3 ⟨rfl, hb3⟩
  have HB := Lib.hid (bt HB.out hb3)
  clear hb3
  go_wp2_with fail
  refine (refRowCheck_any A c r _ (HR.out.kept HB.out) hf (by omega)).mono ?_
  rw [HO.out]
  rintro e w4 ⟨rfl, hb4⟩
  have HB := Lib.hid (bt HB.out hb4)
  clear hb4
  go_wp2_with fail
  refine (rowCheck_b false A c r _ (HR.out.kept HB.out) hf (by omega) HO.out).mono ?_
  rintro e w5 ⟨rfl, hb5⟩
  have HB := Lib.hid (bt HB.out hb5)
  clear hb5
  go_wp2_with fail
  refine (size_no A c r _ (HR.out.kept HB.out) hf (by omega) HO.out).mono ?_
  rintro e w6 ⟨rfl, hb6⟩
  have HB := Lib.hid (bt HB.out hb6)
  clear hb6
  go_wp2_with fail
  go_ret
  exact ⟨by simp, HB.out⟩

end Go.Proofs.Ytlobgdfmgbedgaa
