/-
  Contract of the document's own Put.
-/
import Derived.Test.YtdjhoiamongdaaaRGrw
namespace Go.Proofs.Ytdjhoiamongdaaa
open Go.RowKit Go.Shelf

def RefPutEnd (w : World) (r : List Va) (e : Ending) (w' : World) : Prop :=
  ∃ g cap, e = .returned (.slice (some ⟨g, 0, none⟩) (1 + sumV r) cap) ∧ Buf w' w.heap.size g cap (1 + sumV r) (putR r) ∧ Below w.heap.size w w'

theorem buf_new (w : World) (n : Nat) (hn : w.heap.size = n) (b : Int) : Buf (w.alloc (.cells #[.int .u8 b] 5)) n n 1 1 [b] := by
  subst hn
  exact ⟨rfl, rfl, .inr ⟨w.heap.size, 1, #[.int .u8 b], rfl, Nat.le_refl _, heap_alloc_new w _, Nat.le_refl _, by simp [maxLen], rfl, rfl⟩⟩
theorem putV_0 (n : Int) (s : ByteArray) : putV ⟨0, n, s⟩ = [0] := by simp [putV]
theorem putV_1 (n : Int) (s : ByteArray) : putV ⟨1, n, s⟩ = [1] ++ [n] := by simp [putV]
theorem putV_2 (n : Int) (s : ByteArray) : putV ⟨2, n, s⟩ = [2] ++ seven (n + 9007199254740992) := by simp [putV]
theorem putV_3 (n : Int) (s : ByteArray) : putV ⟨3, n, s⟩ = [3] ++ [(s.size : Int)] ++ strB s := by simp [putV]
theorem size_putV (v : Va) : (putV v).length = sizeV v := rfl

set_option maxRecDepth 100000 in
set_option maxHeartbeats 1000000 in
theorem refPut_any (A : Option Addr) (c : Nat) (r : List Va) (w : World) (h : RowAt w A r) (hok : okR r = true) :
    Calls Try.prog 67 #[.slice A r.length c] w (RefPutEnd w r) := by
  obtain ⟨h32, hall⟩ := okR_parts hok
  have HA := Lib.hid hall
  clear hall hok
  go_enter Try.func67, Try.ntmps67
  go_wp2_with fail
  have hbuf := buf_new w _ rfl (r.length : Int)
  have hB0 := ba w (.cells #[.int .u8 (r.length : Int)] 5)
  generalize w.alloc (.cells #[.int .u8 (r.length : Int)] 5) = W at hbuf hB0 ⊢
  go_loopw [3, 4] (fun v i wr => ∃ j g cap N : Nat, j ≤ r.length ∧ i = .int .i64 j ∧ v = .slice (some ⟨g, 0, none⟩) N cap ∧ N ≤ 66 * j + 1 ∧ 0 < N ∧ Hid (N = 1 + sumV (r.take j)) ∧ Hid (Buf wr w.heap.size g cap N ((r.length : Int) :: bodyR (r.take j))) ∧ Below w.heap.size w wr) (fun _ i _ => r.length - (intOf i).toNat)
  case atStart => exact ⟨0, w.heap.size, 1, 1, Nat.zero_le _, rfl, rfl, by omega, by omega, Lib.hid (by simp [sumV]), Lib.hid (by simpa [bodyR] using hbuf), hB0⟩
  case round =>
    obtain ⟨j, g, cap, N, hj, rfl, rfl, hN, hN0, HN, HBj, hB⟩ := hrel
    have hr := h.kept hB
    clear hbuf hB0
    by_cases hlt : j < r.length
    · obtain ⟨b, off, rfl, hb, c0, c1, c2⟩ := hr.at hlt
      have HV := Lib.hid (HA.out r[j] (List.getElem_mem hlt))
      have HX := Lib.hid (bodyR_succ r j hlt)
      have HX2 := Lib.hid (sumV_succ r j hlt)
      have hsv := sizeV_le HV.out
      have hne : wr.heap.size ≠ g := ne_box HBj.out
      have hbl : w.heap.size ≤ wr.heap.size := hB.size
      have hji : (j : Int) < (r.length : Int) := by omega
      generalize r[j] = v at c0 c1 c2 HV HX HX2 hsv
      clear hr
      obtain ⟨k, n, s⟩ := v
      have ht := ok_text HV.out
      have hk := ok_kind HV.out
      simp only at ht hk c0 c1 c2
      rcases hk with rfl | rfl | rfl | rfl
      · go_wp2_with (at_builtin; refine wpList_grow1 rfl (.tmp 22) (.tmp 26) rfl w.heap.size g cap N _ 0 _ rfl (HBj.out.alloc _) _ rfl (World.size_alloc _ _) ?c1 ?_)
        case c1 => omega
        intro g1 cap1 w1 hb1 hg1 he1 hB1
        have e0 := he1 ⟨wr.heap.size, 0, none⟩ (.int .i64 0) (by simp) hne
        have HB1 := Lib.hid hb1
        have HW1 := Lib.hid ((hB.alloc hbl _).trans hB1)
        clear hb1 he1 hB1
        go_wp2_with fail
        go_roundw
        case rel => exact ⟨j + 1, g1, cap1, N + 1, by omega, by go_num, rfl, by omega, by omega, Lib.hid (by rw [HX2.out, HN.out, ← size_putV, putV_0]; simp; omega), Lib.hid (by rw [HX.out, putV_0]; simpa using HB1.out), HW1.out⟩
        case measure => simp [intOf]; omega
      · have hn : n = 0 ∨ n = 1 := by
          have := HV.out
          unfold Va.ok okV at this
          simp at this
          omega
        go_wp2_with (at_builtin; refine wpList_grow1 rfl (.tmp 22) (.tmp 26) rfl w.heap.size g cap N _ 1 _ rfl (HBj.out.alloc _) _ rfl (World.size_alloc _ _) ?c1 ?_)
        case c1 => omega
        intro g1 cap1 w1 hb1 hg1 he1 hB1
        have e0 := he1 ⟨wr.heap.size, 0, none⟩ (.int .i64 1) (by simp) hne
        have e1 := he1 ⟨wr.heap.size, 1, none⟩ (.int .i64 n) (by simp) hne
        have e2 := he1 ⟨wr.heap.size, 2, none⟩ (.string s) (by simp) hne
        have hlt1 : wr.heap.size ≠ g1 := by omega
        have HB1 := Lib.hid hb1
        have HW1 := Lib.hid ((hB.alloc hbl _).trans hB1)
        clear hb1 he1 hB1
        rcases hn with rfl | rfl
        all_goals
          go_wp2_with (at_builtin; refine wpList_grow1 rfl (.tmp 32) (.tmp 36) rfl w.heap.size g1 cap1 (N + 1) _ _ _ rfl HB1.out _ rfl rfl ?c2 ?_)
          case c2 => omega
          intro g2 cap2 w2 hb2 hg2 he2 hB2
          have HB2 := Lib.hid hb2
          have HW2 := Lib.hid (HW1.out.trans hB2)
          clear hb2 he2 hB2
          go_wp2_with fail
          go_roundw
          case rel => exact ⟨j + 1, g2, cap2, N + 1 + 1, by omega, by go_num, rfl, by omega, by omega, Lib.hid (by rw [HX2.out, HN.out, ← size_putV, putV_1]; simp; omega), Lib.hid (by rw [HX.out, putV_1]; simpa using HB2.out), HW2.out⟩
          case measure => simp [intOf]; omega
      · have hn : -9007199254740991 ≤ n ∧ n ≤ 9007199254740991 := by
          have := HV.out
          unfold Va.ok okV at this
          simp at this
          omega
        obtain ⟨hn1, hn2⟩ := hn
        go_wp2_with (at_builtin; refine wpList_grow1 rfl (.tmp 22) (.tmp 26) rfl w.heap.size g cap N _ 2 _ rfl (HBj.out.alloc _) _ rfl (World.size_alloc _ _) ?c1 ?_)
        case c1 => omega
        intro g1 cap1 w1 hb1 hg1 he1 hB1
        have e0 := he1 ⟨wr.heap.size, 0, none⟩ (.int .i64 2) (by simp) hne
        have e1 := he1 ⟨wr.heap.size, 1, none⟩ (.int .i64 n) (by simp) hne
        have e2 := he1 ⟨wr.heap.size, 2, none⟩ (.string s) (by simp) hne
        have hlt1 : wr.heap.size ≠ g1 := by omega
        have HB1 := Lib.hid hb1
        have HW1 := Lib.hid ((hB.alloc hbl _).trans hB1)
        clear hb1 he1 hB1
        go_wp2_with fail
        generalize hm : n + 9007199254740992 = m
        have hm1 : 1 ≤ m := by omega
        have hm2 : m ≤ 18014398509481983 := by omega
        have HM := Lib.hid hm
        clear hm
        go_loopw [3, 7] (fun v i wq => ∃ q g2 cap2 : Nat, q ≤ 7 ∧ i = .int .i64 (6 - (q : Int)) ∧ v = .slice (some ⟨g2, 0, none⟩) (N + 1 + q) cap2 ∧ Hid (Buf wq w.heap.size g2 cap2 (N + 1 + q) ((r.length : Int) :: bodyR (r.take j) ++ [2] ++ (seven m).take q)) ∧ Hid (Below w.heap.size w wq)) (fun _ i _ => (intOf i + 1).toNat)
        case atStart => exact ⟨0, g1, cap1, by omega, rfl, rfl, Lib.hid (by simpa using HB1.out), HW1⟩
        case round =>
          obtain ⟨q, g2, cap2, hq, rfl, rfl, HBq, HWq⟩ := hrel
          by_cases hlq : q < 7
          · have hi0 : (0 : Int) ≤ 8 * (6 - (q : Int)) := by omega
            have hi1 : 8 * (6 - (q : Int)) < 64 := by omega
            go_wp2_with (at_builtin; refine wpList_grow1 rfl (.tmp 47) (.tmp 53) rfl w.heap.size g2 cap2 (N + 1 + q) _ _ _ rfl HBq.out _ rfl rfl ?c2 ?_)
            case c2 => omega
            intro g3 cap3 w3 hb3 hg3 he3 hB3
            have HB3 := Lib.hid hb3
            have HW3 := Lib.hid (HWq.out.trans hB3)
            clear hb3 he3 hB3
            go_wp2_with fail
            refine ⟨⟨q + 1, g3, cap3, by omega, ?_, rfl, ?_, HW3⟩, ?_⟩
            · congr 1; omega
            · refine Lib.hid ?_
              have := HB3.out
              rw [seven_take m q hlq, show N + 1 + (q + 1) = N + 1 + q + 1 by omega]
              simpa using this
            · simp [intOf]; omega
          · obtain rfl : q = 7 := by omega
            have e7 : n + 9007199254740992 = m := HM.out
            go_wp2_with fail
            go_roundw
            case rel => exact ⟨j + 1, g2, cap2, N + 1 + 7, by omega, by go_num, rfl, by omega, by omega, Lib.hid (by rw [HX2.out, HN.out, ← size_putV, putV_2]; simp [seven]; omega), Lib.hid (by rw [HX.out, putV_2, e7]; simpa [seven] using HBq.out), HWq.out⟩
            case measure => simp [intOf]; omega
      · go_wp2_with (at_builtin; refine wpList_grow1 rfl (.tmp 22) (.tmp 26) rfl w.heap.size g cap N _ 3 _ rfl (HBj.out.alloc _) _ rfl (World.size_alloc _ _) ?c1 ?_)
        case c1 => omega
        intro g1 cap1 w1 hb1 hg1 he1 hB1
        have e0 := he1 ⟨wr.heap.size, 0, none⟩ (.int .i64 3) (by simp) hne
        have e1 := he1 ⟨wr.heap.size, 1, none⟩ (.int .i64 n) (by simp) hne
        have e2 := he1 ⟨wr.heap.size, 2, none⟩ (.string s) (by simp) hne
        have hlt1 : wr.heap.size ≠ g1 := by omega
        have HB1 := Lib.hid hb1
        have HW1 := Lib.hid ((hB.alloc hbl _).trans hB1)
        clear hb1 he1 hB1
        go_wp2_with (at_builtin; refine wpList_grow1 rfl (.tmp 57) (.tmp 62) rfl w.heap.size g1 cap1 (N + 1) _ (s.size : Int) _ rfl HB1.out _ rfl rfl ?c2 ?_)
        case c2 => omega
        intro g2 cap2 w2 hb2 hg2 he2 hB2
        have d2 := he2 ⟨wr.heap.size, 2, none⟩ (.string s) e2 hlt1
        have HB2 := Lib.hid hb2
        have HW2 := Lib.hid (HW1.out.trans hB2)
        clear hb2 he2 hB2 e0 e1 e2
        go_wp2_with (at_builtin; refine wpList_growS rfl (.tmp 64) (.tmp 66) rfl w.heap.size g2 cap2 (N + 1 + 1) _ s _ rfl HB2.out rfl ?c3 ?c4 ?_)
        case c3 => omega
        case c4 => omega
        intro g3 cap3 w3 hb3 hB3
        have HB3 := Lib.hid hb3
        have HW3 := Lib.hid (HW2.out.trans hB3)
        clear hb3 hB3
        go_wp2_with fail
        go_roundw
        case rel => exact ⟨j + 1, g3, cap3, N + 1 + 1 + s.size, by omega, by go_num, rfl, by omega, by omega, Lib.hid (by rw [HX2.out, HN.out, ← size_putV, putV_3]; simp [strB]; omega), Lib.hid (by rw [HX.out, putV_3]; simpa using HB3.out), HW3.out⟩
        case measure => simp [intOf]; omega
    · obtain rfl : j = r.length := by omega
      have eN : N = 1 + sumV r := by rw [HN.out, List.take_length]
      have hbj := HBj.out
      rw [List.take_length, eN] at hbj
      have HF := Lib.hid hbj
      clear hbj
      go_wp2_with fail
      go_ret
      exact ⟨g, cap, by simp [eN], HF.out, hB⟩

end Go.Proofs.Ytdjhoiamongdaaa
