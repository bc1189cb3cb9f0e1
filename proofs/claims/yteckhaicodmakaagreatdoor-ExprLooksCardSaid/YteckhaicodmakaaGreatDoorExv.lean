/-
  The contract of value.Show, over the library's ReplaceAll and Itoa.
-/
import Derived.Test.YteckhaicodmakaaGreatDoorExn
import Derived.Test.YteckhaicodmakaaGreatDoorVal
import Derived.Test.YteckhaicodmakaaGreatDoorShelf
import Derived.Test.YteckhaicodmakaaGreatDoorDbl
import Derived.Sort.Grow
import Derived.WalkSmall
namespace Go.Proofs.YteckhaicodmakaaGreatDoor
open Go.RowKit Go.Shelf Go.Sort

abbrev qt : ByteArray := ⟨#[39]⟩
abbrev qt2 : ByteArray := ⟨#[39, 39]⟩

/-- The text of a value. -/
def showL (k n : Int) (s : ByteArray) : List UInt8 :=
  if okV k n s = true then
    (if k = 1 then (if n = 1 then [84, 82, 85, 69] else [70, 65, 76, 83, 69])
     else if k = 2 then Lib.itoa n else if k = 3 then 39 :: (dbl s.data.toList ++ [39]) else [78, 85, 76, 76])
  else [63]
/-- A text out of its bytes. -/
def bstr (l : List UInt8) : ByteArray := ⟨l.toArray⟩

theorem quoted (l : List UInt8) : qt ++ ⟨l.toArray⟩ ++ qt = bstr (39 :: (l ++ [39])) := by
  apply ByteArray.ext
  simp [bstr]
theorem grow_below (w : World) (k : Nat) (os : Array Obj) : Below w.heap.size w (grow (w.drewN k) os) :=
  ⟨rfl, rfl, rfl, by simp [grow, World.drewN], fun i hi => by simp [grow, World.drewN, Array.getElem?_append, hi]⟩

/-- Go's table of the powers of ten, and what else the texts of values lean on. -/
def Pows (w : World) : Prop := Lib.TabIs Tryz.prog w "internal/strconv.uint64pow10" .u64 Lib.pow10Tab
theorem Pows.kept {w w' : World} (h : Pows w) (hb : Below w.heap.size w w') : Pows w' := by
  have hg : Tryz.prog.globalNamed "internal/strconv.uint64pow10" = some 2 := by kernel_rfl
  have hc := Lib.TabIs.cell h hg 0 (by simp [Lib.pow10Tab])
  exact var?_below hb hg (lt_of_cell hc) h

theorem ret_str {a b : ByteArray} (h : a = b) : Ending.returned (.string a) = .returned (.string b) := by rw [h]

set_option maxHeartbeats 1000000 in
theorem show_any (k n : Int) (s : ByteArray) (w : World) (hs : s.size ≤ 9223372036854775807) (hT : Tabs w) (hP : Pows w) :
    Calls Tryz.prog 57 #[VV k n s] w fun e w' => e = .returned (.string (bstr (showL k n s))) ∧ Below w.heap.size w w' := by
  cases hok : okV k n s
  · have HF := Lib.hid (show showL k n s = [63] by simp [showL, hok])
    have HK := Lib.hid hok
    clear hok hT hP
    go_enter Tryz.func57, Tryz.ntmps57
    go_wp2_with fail
    refine (mayBe_no _ _ _ _ hs HK.out).mono ?_
    rintro e w1 ⟨rfl, hb1⟩
    go_wp2_with fail
    go_ret
    exact ⟨ret_str (by rw [HF.out]; rfl), bt (ba _ _) hb1⟩
  · have HK := Lib.hid hok
    have HT := Lib.hid hT
    have HP := Lib.hid hP
    clear hT hP
    by_cases h1 : k = 1
    · subst h1
      have h01 : n = 0 ∨ n = 1 := by simp [okV] at hok; exact hok.1
      rcases h01 with h | h
      · subst h
        have HF := Lib.hid (show showL 1 0 s = [70, 65, 76, 83, 69] by simp [showL, hok])
        clear hok
        go_enter Tryz.func57, Tryz.ntmps57
        go_wp2_with fail
        refine (mayBe_yes _ _ _ _ hs HK.out).mono ?_
        rintro e w1 ⟨rfl, hb1⟩
        obtain ⟨c0, c1, c2⟩ := box1 hb1
        go_wp2_with fail
        go_ret
        exact ⟨ret_str (by rw [HF.out]; rfl), bt (ba _ _) hb1⟩
      · subst h
        have HF := Lib.hid (show showL 1 1 s = [84, 82, 85, 69] by simp [showL, hok])
        clear hok
        go_enter Tryz.func57, Tryz.ntmps57
        go_wp2_with fail
        refine (mayBe_yes _ _ _ _ hs HK.out).mono ?_
        rintro e w1 ⟨rfl, hb1⟩
        obtain ⟨c0, c1, c2⟩ := box1 hb1
        go_wp2_with fail
        go_ret
        exact ⟨ret_str (by rw [HF.out]; rfl), bt (ba _ _) hb1⟩
    · by_cases h2 : k = 2
      · subst h2
        have hb : -9007199254740991 ≤ n ∧ n ≤ 9007199254740991 := by simp [okV] at hok; exact hok.1
        have HF := Lib.hid (show showL 2 n s = Lib.itoa n by simp [showL, hok])
        clear hok h1
        go_enter Tryz.func57, Tryz.ntmps57
        go_wp2_with fail
        refine (mayBe_yes _ _ _ _ hs HK.out).mono ?_
        rintro e w1 ⟨rfl, hb1⟩
        obtain ⟨c0, c1, c2⟩ := box1 hb1
        have hB1 := bt (ba _ _) hb1
        go_wp2_with fail
        refine (Tryz.strconv_Itoa _ (by omega) (by omega) _ (HP.out.kept hB1)).mono ?_
        rintro e w2 ⟨rfl, kk, os, hw2⟩
        have HW := Lib.hid hw2
        clear hw2
        go_wp2_with fail
        go_ret
        exact ⟨ret_str (by rw [HF.out]; rfl), bt hB1 (by rw [HW.out]; exact grow_below _ _ _)⟩
      · by_cases h3 : k = 3
        · subst h3
          have h0 : n = 0 ∧ s.size ≤ 64 := by simp [okV] at hok; exact hok
          obtain ⟨rfl, h64⟩ := h0
          have HF := Lib.hid (show showL 3 0 s = 39 :: (dbl s.data.toList ++ [39]) by simp [showL, hok])
          have hd := dbl_le s.data.toList
          have hsz : s.data.toList.length = s.size := by simp
          have hcnt : Lib.countB s qt ≤ s.size := by
            show Lib.count s.data.toList [39] ≤ s.size
            rw [Lib.count_one, ← hsz]; exact List.count_le_length
          have hr := Lib.hid (replaceAll_dbl s.data.toList)
          have hdl : (dbl s.data.toList).length ≤ 128 := by omega
          have hlen : s.size + Lib.countB s qt * qt2.size ≤ 140737488355328 := by
            have : qt2.size = 2 := rfl
            rw [this]; omega
          have HL := Lib.hid hlen
          clear hok h1 h2 hd hsz hcnt hlen
          obtain ⟨m, hm⟩ := HT.out.m
          have HM := Lib.hid hm
          clear hm
          go_enter Tryz.func57, Tryz.ntmps57
          go_wp2_with fail
          refine (mayBe_yes _ _ _ _ hs HK.out).mono ?_
          rintro e w1 ⟨rfl, hb1⟩
          obtain ⟨c0, c1, c2⟩ := box1 hb1
          have hB1 := bt (ba _ _) hb1
          go_wp2_with fail
          refine (Tryz.strings_ReplaceAll s qt qt2 m _ (by omega) (cell_kept hB1 HM.out) (by decide) HL.out).mono ?_
          rw [show (Lib.replaceAll s.data.toList qt.data.toList qt2.data.toList) = dbl s.data.toList from hr.out]
          generalize hdd : dbl s.data.toList = D at hdl HF ⊢
          have HD := Lib.hid hdd
          clear hdd
          rintro e w2 ⟨rfl, hb2⟩
          go_wp2_with fail
          go_ret
          exact ⟨ret_str (by rw [HF.out]; exact quoted D), bt hB1 hb2⟩
        · have h0 : k = 0 := by
            by_cases h0 : k = 0
            · exact h0
            · simp [okV, h0, h1, h2, h3] at hok
          subst h0
          have HF := Lib.hid (show showL 0 n s = [78, 85, 76, 76] by simp [showL, hok])
          clear hok h1 h2 h3
          go_enter Tryz.func57, Tryz.ntmps57
          go_wp2_with fail
          refine (mayBe_yes _ _ _ _ hs HK.out).mono ?_
          rintro e w1 ⟨rfl, hb1⟩
          obtain ⟨c0, c1, c2⟩ := box1 hb1
          go_wp2_with fail
          go_ret
          exact ⟨ret_str (by rw [HF.out]; rfl), bt (ba _ _) hb1⟩

end Go.Proofs.YteckhaicodmakaaGreatDoor
