/-
  Names.
-/
import Derived.Test.YteckhaicodmakaaGreatDoorLxa
namespace Go.Proofs.YteckhaicodmakaaGreatDoor
open Go.RowKit Go.Shelf

def isName (s : ByteArray) : Bool := match Lx.cut (bs s) with
  | some (t, z) => decide (t.k = 1) && decide (z = s.size)
  | none => false
set_option maxHeartbeats 1000000 in
theorem name_any (s : ByteArray) (w : World) (hs : s.size ≤ 16384) (hT : Tabs w) :
    Calls Tryz.prog 78 #[.string s] w fun e w' => e = .returned (.bool (isName s)) ∧ Below w.heap.size w w' := by
  have HT := Lib.hid hT
  clear hT
  go_enter Tryz.func78, Tryz.ntmps78
  go_wp2_with fail
  refine (cut_any s _ hs HT.out).mono ?_
  rintro e w2 ⟨v, rfl, hv, hb⟩
  have HB := Lib.hid hb
  clear hb
  cases hc : Lx.cut (bs s) with
  | none =>
    rw [hc] at hv
    obtain rfl : v = noTok := hv
    have HN := Lib.hid (show isName s = false by rw [isName, hc])
    go_wp2_with fail
    go_ret
    rw [HN.out]
    exact ⟨rfl, bt HB.out (ba w2 _)⟩
  | some x =>
    obtain ⟨t, z⟩ := x
    rw [hc] at hv
    obtain ⟨hz, b, hbs, rfl⟩ := hv
    have HN := Lib.hid (show isName s = (decide (t.k = 1) && decide (z = s.size)) by rw [isName, hc])
    clear hbs hc
    by_cases h1 : t.k = 1
    · have H1 := Lib.hid h1
      have h1' : (t.k : Int) = 1 := by omega
      clear h1
      by_cases h2 : z = s.size
      · subst h2
        go_wp2_with fail
        go_ret
        rw [HN.out, H1.out]
        exact ⟨ret_b (by simp), bt HB.out (ba w2 _)⟩
      · have h2' : ¬ (z : Int) = s.size := by omega
        go_wp2_with fail
        go_ret
        rw [HN.out, H1.out]
        exact ⟨ret_b (by simp [h2]; exact h2'), bt HB.out (ba w2 _)⟩
    · have h1' : ¬ (t.k : Int) = 1 := by omega
      go_wp2_with fail
      go_ret
      rw [HN.out]
      exact ⟨ret_b (by simp [h1]), bt HB.out (ba w2 _)⟩
end Go.Proofs.YteckhaicodmakaaGreatDoor
