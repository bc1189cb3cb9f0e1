/-
  Tokens shown, one by one.
-/
import Derived.Test.YtbjkencaebeleaaDoorLxd
namespace Go.Proofs.YtbjkencaebeleaaDoor
open Go.RowKit Go.Shelf

theorem rep_dbl : ∀ s : Lx.B, Lib.replaceK [39] [39, 39] (Lib.count s [39]) s = Lx.dbl s
  | [] => rfl
  | c :: r => by
    have ih := rep_dbl r
    by_cases hc : c = 39
    · subst hc
      rw [Lib.count_cons_eq, Nat.add_comm, Lib.replaceK_hit _ _ _ _ 0 (by simp [Lib.index, List.isPrefixOf])]
      show [39, 39] ++ Lib.replaceK [39] [39, 39] (Lib.count r [39]) r = _
      rw [ih]; rfl
    · rw [Lib.count_cons_ne _ _ _ hc]
      have e : Lx.dbl (c :: r) = c :: Lx.dbl r := by simp [Lx.dbl, hc]
      rw [e, ← ih]
      cases hk : Lib.count r [39] with
      | zero => rfl
      | succ k =>
        obtain ⟨i, hi⟩ := Lib.index_of_count (s := r) (old := [39]) (by omega)
        rw [Lib.replaceK_hit _ _ _ r i hi, Lib.replaceK_hit _ _ _ (c :: r) (i + 1) (by
          simp only [Lib.index, List.isPrefixOf, hi]
          simp [Ne.symm hc]
          try omega)]
        simp
theorem dbl_len (s : Lx.B) : (Lx.dbl s).length ≤ 2 * s.length := by
  induction s with
  | nil => simp [Lx.dbl]
  | cons c r ih =>
    have e : Lx.dbl (c :: r) = (if c = 39 then [39, 39] else [c]) ++ Lx.dbl r := by simp [Lx.dbl]
    rw [e, List.length_append, List.length_cons]
    split <;> simp <;> omega
set_option maxHeartbeats 1000000 in
theorem show_any (x : TkA) (w : World) (hs : x.1.s.length ≤ 16384) (hT : Tabs w) :
    Calls Tryd.prog 15 #[tokV x.1.k ⟨x.1.s.toArray⟩ x.1.n x.2] w fun e w' => e = .returned (.string ⟨(Lx.show1 x.1).toArray⟩) ∧ Below w.heap.size w w' := by
  have HT := Lib.hid hT
  clear hT
  have hsz : (⟨x.1.s.toArray⟩ : ByteArray).size = x.1.s.length := by rw [← bs_len]
  by_cases h4 : x.1.k = 4
  · have HS := Lib.hid (show Lx.show1 x.1 = 39 :: (Lx.dbl x.1.s ++ [39]) by simp [Lx.show1, h4])
    have h4' : (x.1.k : Int) = 4 := by omega
    have HR := Lib.hid (show Lib.replaceAll (⟨x.1.s.toArray⟩ : ByteArray).data.toList [39] [39, 39] = Lx.dbl x.1.s by
      rw [Lib.replaceAll, Lib.replace, if_neg (by decide), Lib.replaceNum, if_pos (by left; decide)]
      exact rep_dbl _)
    have hd := dbl_len x.1.s
    have hc := Lib.count_le x.1.s [39]
    go_enter Tryd.func15, Tryd.ntmps15
    go_wp2_with fail
    obtain ⟨m, hm⟩ := (HT.out.kept (ba w (.cells #[.int .i64 4, .string ⟨x.1.s.toArray⟩, .int .i64 x.1.n, .int .i64 x.2] 32))).m
    refine (Tryd.strings_ReplaceAll _ _ _ m _ (by rw [hsz]; omega) hm (by decide) (by
      rw [hsz]
      show _ + Lib.count x.1.s [39] * 2 ≤ _
      omega)).mono ?_
    rintro e w1 ⟨rfl, hb⟩
    have HB := Lib.hid (bt (ba w _) hb)
    rw [show Lib.replaceAll (⟨x.1.s.toArray⟩ : ByteArray).data.toList (⟨#[39]⟩ : ByteArray).data.toList (⟨#[39, 39]⟩ : ByteArray).data.toList = Lx.dbl x.1.s from HR.out]
    have hds : (⟨(Lx.dbl x.1.s).toArray⟩ : ByteArray).size ≤ 40000 := by rw [← bs_len]; show (Lx.dbl x.1.s).length ≤ _; omega
    go_wp2_with fail
    go_ret
    refine ⟨?_, HB.out⟩
    rw [HS.out]
    refine congrArg (fun b => Ending.returned (.string b)) (ByteArray.ext ?_)
    simp
  · have h4' : ¬ (x.1.k : Int) = 4 := by omega
    by_cases h6 : x.1.k = 6
    · have HS := Lib.hid (show Lx.show1 x.1 = [] by simp [Lx.show1, h6])
      have h6' : (x.1.k : Int) = 6 := by omega
      go_enter Tryd.func15, Tryd.ntmps15
      go_wp2_with fail
      go_ret
      rw [HS.out]
      exact ⟨rfl, ba w _⟩
    · have HS := Lib.hid (show Lx.show1 x.1 = x.1.s by simp [Lx.show1, h4, h6])
      have h6' : ¬ (x.1.k : Int) = 6 := by omega
      go_enter Tryd.func15, Tryd.ntmps15
      go_wp2_with fail
      go_ret
      rw [HS.out]
      exact ⟨rfl, ba w _⟩
end Go.Proofs.YtbjkencaebeleaaDoor
