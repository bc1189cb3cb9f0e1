/-
  The walk of RowGets.
-/
import Derived.Test.YtlobgdfmgbedgaaRLiv
import Derived.Test.YtlobgdfmgbedgaaRRGet
import Derived.Test.YtlobgdfmgbedgaaRGts0
import Derived.Test.YtlobgdfmgbedgaaSam
import Derived.Deep.QuietTactic
import Derived.BigQuiet
namespace Go.Proofs.Ytlobgdfmgbedgaa
open Go.RowKit Go.Shelf

set_option maxRecDepth 100000 in
set_option maxHeartbeats 1000000 in
theorem gets_large (M : Option Addr) (cm : Nat) (bs : List Int) (w : World) (hbig : (5000 : Int) < bs.length) :
    Calls Try.prog 4 #[.slice M bs.length cm] w fun e w' => e = .returned (.bool true) ∧ Below w.heap.size w w' := by
  go_enter Try.func4, Try.ntmps4
  go_wp2_with fail
  refine (lives_yes _).mono ?_
  rintro e w3 ⟨rfl, hb3⟩
  go_wp2_with fail
  go_ret
  exact ⟨rfl, hb3⟩

set_option maxRecDepth 100000 in
set_option maxHeartbeats 2000000 in
theorem gets_none (M : Option Addr) (cm : Nat) (bs : List Int) (w : World) (hM : BytesAt w M bs) (hsm : ¬ (5000 : Int) < bs.length) (hlm : bs.length ≤ 9223372036854775807) (hcm : bs.length ≤ cm) (hg : getRow bs = none) :
    Calls Try.prog 4 #[.slice M bs.length cm] w fun e w' => e = .returned (.bool true) ∧ Below w.heap.size w w' := by
  have HM := Lib.hid hM
  have HG := Lib.hid hg
  clear hM hg
  go_enter Try.func4, Try.ntmps4
  go_wp2_with fail
  refine (get_any M bs.length cm bs w HM.out rfl hcm hlm).mono ?_
  rw [HG.out]
  rintro e w1 ⟨hb1, rfl⟩
  have HB := Lib.hid hb1
  clear hb1
  go_wp2_with fail
  refine (refGet_any M bs.length cm bs w1 (HM.out.kept HB.out) rfl hcm hlm).mono ?_
  rw [HG.out]
  rintro e w2 ⟨hb2, rfl⟩
  have HB := Lib.hid (bt HB.out hb2)
  clear hb2
  go_wp2_with fail
  refine (lives_yes _).mono ?_
  rintro e w3 ⟨rfl, hb3⟩
  have HB := Lib.hid (bt HB.out hb3)
  clear hb3
  go_wp2_with fail
  refine (refSame_self none none 0 0 [] _ (.inl rfl) (.inl rfl) (by simp)).mono ?_
  rintro e w4 ⟨rfl, hb4⟩
  have HB := Lib.hid (bt HB.out hb4)
  clear hb4
  go_wp2_with fail
  go_ret
  exact ⟨rfl, HB.out⟩

set_option maxRecDepth 100000 in
set_option maxHeartbeats 2000000 in
theorem gets_some (M : Option Addr) (cm : Nat) (bs : List Int) (w : World) (hM : BytesAt w M bs) (hsm : ¬ (5000 : Int) < bs.length) (hlm : bs.length ≤ 9223372036854775807) (hcm : bs.length ≤ cm) (r : List Va) (n : Nat) (hg : getRow bs = some (r, n)) :
    Calls Try.prog 4 #[.slice M bs.length cm] w fun e w' => e = .returned (.bool true) ∧ Below w.heap.size w w' := by
  obtain ⟨hok, hput, hn, hn1⟩ := getRow_some hM.2 hg
  have hf : Fine r := fun v hv => by have := ok_text ((okR_parts hok).2 v hv); omega
  have hrl := (okR_parts hok).1
  have HM := Lib.hid hM
  have HG := Lib.hid hg
  have HO := Lib.hid hok
  have HP := Lib.hid hput
  have HL := Lib.hid (putR_length r)
  clear hM hg hok hput
  go_enter Try.func4, Try.ntmps4
  go_wp2_with fail
  refine (get_any M bs.length cm bs w HM.out rfl hcm hlm).mono ?_
  rw [HG.out]
  rintro e w1 ⟨hb1, A1, c1, rfl, hr1⟩
  have HB := Lib.hid hb1
  have HR := Lib.hid hr1
  clear hb1 hr1
  go_wp2_with fail
  refine (refGet_any M bs.length cm bs w1 (HM.out.kept HB.out) rfl hcm hlm).mono ?_
  rw [HG.out]
  rintro e w2 ⟨hb2, A2, c2, rfl, hr2, _⟩
  have HB := Lib.hid (bt HB.out hb2)
  have HR := Lib.hid (HR.out.kept hb2)
  have HX := Lib.hid hr2
  clear hb2 hr2
  go_wp2_with fail
  refine (lives_yes _).mono ?_
  rintro e w3 ⟨rfl, hb3⟩
  have HB := Lib.hid (bt HB.out hb3)
  have HR := Lib.hid (HR.out.kept hb3)
  have HX := Lib.hid (HX.out.kept hb3)
  clear hb3
  go_wp2_with fail
  refine (refSame_self A1 A2 c1 c2 r _ HR.out HX.out (by omega)).mono ?_
  rintro e w4 ⟨rfl, hb4⟩
  have HB := Lib.hid (bt HB.out hb4)
  have HR := Lib.hid (HR.out.kept hb4)
  clear hb4 HX
  go_wp2_with fail
  refine (put_ok A1 c1 r _ HR.out hf HO.out).mono ?_
  rintro e w5 ⟨g, rfl, hbuf, hb5⟩
  have HB := Lib.hid (bt HB.out hb5)
  have HF := Lib.hid (hbuf.bytes (putR_byte r HO.out))
  have hnn : 1 + sumV r = n := by rw [← HL.out, HP.out]; simp; omega
  rw [hnn]
  clear hb5 hbuf hnn
  have HMk := Lib.hid ((HM.out.kept HB.out).take n)
  have hcv1 := fun q => str_atc (BytesAt.heap' (w' := w5.drewN q) HF.out rfl) (show (putR r).length = n by rw [HP.out]; simp; omega) n
  have hcv2 := fun q => str_atc (BytesAt.heap' (w' := w5.drewN q) HMk.out rfl) (show (bs.take n).length = n by simp; omega) cm
  rw [HP.out] at hcv1
  generalize strOfNums (bs.take n) = X at hcv1 hcv2
  have hn0 : (0 : Int) ≤ (n : Int) := Int.natCast_nonneg _
  have hn2 : (n : Int) ≤ (bs.length : Int) := by omega
  have hn3 : (n : Int) ≤ (cm : Int) := by omega
  go_wp2_with fail
  go_quiet (fail)
  go_wp2_with fail
  go_ret
  exact ⟨rfl, HB.out.os, HB.out.tape, HB.out.output, HB.out.size, HB.out.block⟩

theorem rowGets_walk (M : Option Addr) (cm : Nat) (bs : List Int) (w : World) (hM : BytesAt w M bs) (hlm : bs.length ≤ 9223372036854775807) (hcm : bs.length ≤ cm) :
    Calls Try.prog 4 #[.slice M bs.length cm] w fun e w' => e = .returned (.bool true) ∧ Below w.heap.size w w' := by
  by_cases h1 : (5000 : Int) < bs.length
  · exact gets_large M cm bs w h1
  · cases hg : getRow bs with
    | none => exact gets_none M cm bs w hM h1 hlm hcm hg
    | some p => exact gets_some M cm bs w hM h1 hlm hcm p.1 p.2 hg
end Go.Proofs.Ytlobgdfmgbedgaa
