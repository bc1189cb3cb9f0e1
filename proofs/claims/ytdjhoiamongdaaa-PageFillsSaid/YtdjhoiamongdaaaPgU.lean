/-
  The contract of the document's own Used.
-/
import Derived.Test.YtdjhoiamongdaaaPgM
import Derived.Test.YtdjhoiamongdaaaPgA0
import Derived.Test.YtdjhoiamongdaaaSam
namespace Go.Proofs.Ytdjhoiamongdaaa
open Go.RowKit Go.Shelf

theorem lenP_take_succ (rs : List (List Va)) (j : Nat) (h : j < rs.length) : lenP (rs.take (j + 1)) = lenP (rs.take j) + (1 + sumV rs[j]) := by
  rw [List.take_succ_eq_append_getElem h, lenP_snoc]
  rfl

set_option maxRecDepth 100000 in
set_option maxHeartbeats 1000000 in
theorem used_any (A : Option Addr) (c L : Nat) (rs : List (List Va)) (w : World) (h : RowsAt w A rs) (hL : rs.length = L) (hok : ∀ r ∈ rs, okR r = true) (hl : L ≤ 65536) :
    Calls Try.prog 20 #[.slice A L c] w fun e w' => e = .returned (.int .i64 ((1 + lenP rs + 2 * L : Nat) : Int)) ∧ Below w.heap.size w w' := by
  have HR := Lib.hid h
  have HK := Lib.hid hok
  have HL := Lib.hid hL
  clear h hok hL
  go_enter Try.func20, Try.ntmps20
  go_wp2_with fail
  go_loopw [3, 4] (fun s i wr => ∃ j S : Nat, j ≤ L ∧ i = .int .i64 j ∧ s = .int .i64 S ∧ Hid (S = 1 + lenP (rs.take j) + 2 * j) ∧ S ≤ 1 + 2200 * j ∧ Hid (Below w.heap.size w wr)) (fun _ i _ => L - (intOf i).toNat)
  case atStart => exact ⟨0, 1, by omega, rfl, rfl, Lib.hid rfl, by omega, Lib.hid (Below.refl _ _)⟩
  case round =>
    obtain ⟨j, S, hj, rfl, rfl, HS, hS, HB⟩ := hrel
    by_cases hlt : j < L
    · have hlt' : j < rs.length := by rw [HL.out]; exact hlt
      obtain ⟨b, off, rfl, A', c', c0, hr⟩ := (HR.out.kept HB.out).cellAt hlt'
      have hokj := HK.out rs[j] (List.getElem_mem hlt')
      have HN := Lib.hid (lenP_take_succ rs j hlt')
      have hs : sumV rs[j] ≤ 2112 := by
        obtain ⟨h32, hall⟩ := okR_parts hokj
        have := sumV_le _ hall
        omega
      generalize rs[j] = r at c0 hr hokj HN hs
      have HRj := Lib.hid hr
      clear hr
      go_wp2_with fail
      refine (refPut_any A' c' r _ HRj.out hokj).mono ?_
      rintro e w2 ⟨g, cap, rfl, _, hb2⟩
      have HB2 := Lib.hid (bt HB.out hb2)
      clear hb2 HRj c0
      go_wp2_with fail
      go_roundw
      case rel => exact ⟨j + 1, S + (1 + sumV r) + 2, by omega, by go_num, by go_num, Lib.hid (by have h1 := HN.out; have h2 := HS.out; omega), by omega, HB2⟩
      case measure => simp [intOf]; omega
    · have HE := Lib.hid (show S = 1 + lenP rs + 2 * L by rw [HS.out, List.take_of_length_le (by rw [HL.out]; omega), show j = L by omega])
      go_wp2_with fail
      go_ret
      exact ⟨congrArg (fun x : Int => Ending.returned (.int .i64 x)) (show (S : Int) = _ by have := HE.out; omega), HB.out⟩
end Go.Proofs.Ytdjhoiamongdaaa
