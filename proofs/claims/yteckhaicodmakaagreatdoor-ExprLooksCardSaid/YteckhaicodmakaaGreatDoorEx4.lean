/-
  copyAll, copyOf; Lit, Column, Op, Agg.
-/
import Derived.Test.YteckhaicodmakaaGreatDoorEx3
namespace Go.Proofs.YteckhaicodmakaaGreatDoor
open Go.RowKit Go.Shelf

mutual
/-- How many expressions stand in one, in a list. -/
def cnt : Ex → Nat
  | .mk _ l => 1 + cntL l
def cntL : List Ex → Nat
  | [] => 0
  | x :: r => cnt x + cntL r
end
theorem cnt_mk (h : Hd) (l : List Ex) : cnt (.mk h l) = 1 + cntL l := by rw [cnt]
theorem cnt_pos (x : Ex) : 1 ≤ cnt x := by cases x; rw [cnt]; omega
theorem cntL_len : ∀ l : List Ex, l.length ≤ cntL l
  | [] => by simp
  | x :: r => by have := cntL_len r; have := cnt_pos x; rw [cntL, List.length_cons]; omega
theorem cntL_mem : ∀ {l : List Ex} {i : Nat} {x : Ex}, l[i]? = some x → cnt x ≤ cntL l
  | [], i, x, h => by simp at h
  | y :: r, 0, x, h => by
    obtain rfl : y = x := by simpa using h
    rw [cntL]; omega
  | y :: r, i + 1, x, h => by
    have := cntL_mem (l := r) (i := i) (x := x) (by simpa using h)
    rw [cntL]; omega

set_option maxHeartbeats 4000000 in
theorem copyAll_n : ∀ (n : Nat) (l : List Ex), cntL l ≤ n → n ≤ 1000000 → ∀ (w : World) (A : Option Addr) (cap : Nat), XsAt w.heap.size w l A →
    Calls Tryz.prog 45 #[.slice A l.length cap] w (CopyL w l) := by
  intro n
  induction n with
  | zero =>
    intro l hl _ w A cap hX
    have h0 := cntL_len l
    obtain rfl : l = [] := List.eq_nil_of_length_eq_zero (by omega)
    clear hX hl h0
    go_enter Tryz.func45, Tryz.ntmps45
    go_wp2_with fail
    go_loopw [8, 3] (fun i v W => i = .int .i64 0 ∧ v = .slice none 0 0 ∧ W = w) (fun _ _ _ => 0)
    case atStart => exact ⟨rfl, rfl, rfl⟩
    case round =>
      obtain ⟨rfl, rfl, rfl⟩ := hrel
      go_wp2_with fail
      go_ret
      exact ⟨none, 0, rfl, Nat.le_refl _, by rw [XsB]; trivial, Below.refl _ _⟩
  | succ n ih =>
    intro l hl hn w A cap hX
    obtain ⟨i0, hi, hz0, hz1, hz2⟩ := infoE_parts info_expr
    have hlen := cntL_len l
    have HI := Lib.hid ih
    have HXs := Lib.hid hX
    have HL := Lib.hid hl
    clear ih hX hl
    have hll : l.length ≤ 1000000 := by have := HL.out; omega
    go_enter Tryz.func45, Tryz.ntmps45
    go_wp2_with fail
    go_loopw [8, 3] (fun i v W => ∃ k : Nat, k ≤ l.length ∧ i = .int .i64 k ∧ Hid (Xown w.heap.size w W v (l.take k))) (fun i _ _ => l.length - (intOf i).toNat)
    case atStart => exact ⟨0, Nat.zero_le _, rfl, Lib.hid (by rw [List.take_zero]; exact Xown.nil _)⟩
    case round =>
      obtain ⟨k, hk, rfl, HW⟩ := hrel
      have hkl : (l.take k).length = k := by rw [List.length_take]; omega
      obtain ⟨AS, capS, hv⟩ := HW.out.slice
      rw [hkl] at hv
      subst hv
      by_cases hkn : k < l.length
      · obtain ⟨x, hx⟩ : ∃ x, l[k]? = some x := ⟨_, List.getElem?_eq_getElem hkn⟩
        obtain ⟨h, l'⟩ := x
        have HT := Lib.hid (show l.take (k + 1) = l.take k ++ [.mk h l'] by rw [List.take_add_one, hx]; rfl)
        have hc := cntL_mem hx
        rw [cnt_mk] at hc
        obtain ⟨g, off, A', cap', rfl, hg, hX, hle', hl'⟩ := HXs.out.at hx
        have hXr := hX.of (HW.out.bel.block g hg)
        have hgr : g < wr.heap.size := Nat.lt_of_lt_of_le hg HW.out.bel.size
        obtain ⟨c0, c1, c2, c3, c4, c5, c6, c7⟩ := hXr
        have HC := Lib.hid (copyOf_of h l' (wr.alloc (xbox h A' l'.length cap')) A' cap' (fun w1 hb1 => HI.out l' (by have := HL.out; omega) (by omega) w1 A' cap' (by
          have hb := HW.out.bel.trans ((ba wr (xbox h A' l'.length cap')).mono HW.out.bel.size |>.trans (hb1.mono (by rw [World.size_alloc]; have := HW.out.bel.size; omega)))
          exact XsB.go (fun k hk => hb.block k hk) (fun k hk => Nat.lt_of_lt_of_le hk hb.size) _ _ hl')))
        clear hX hl' hx hc hg
        go_wp2_with fail
        refine HC.out.mono ?_
        rintro e w3 ⟨A3, cap3, rfl, hle3, hx3, hb3⟩
        have hb13 := bt (ba wr (xbox h A' l'.length cap')) hb3
        have H3 := HW.out.below hb13
        obtain ⟨q, hq⟩ := H3.row
        have hq2 := hq.2
        rw [hkl] at hq2
        have hxr : XR (Ot w.heap.size w3 (.slice AS k capS)) w3 (.mk h l') (h, A3, l'.length, cap3) := by
          refine ⟨rfl, rfl, hle3, XsB.go (fun _ _ => rfl) (fun j hj => ⟨?_, hj.2, fun e => ?_⟩) _ _ hx3⟩
          · have := hj.1; rw [World.size_alloc] at this; have := HW.out.bel.size; omega
          · obtain ⟨q0, hq0⟩ := HW.out.row
            have := (hq0.2.lt j e).2
            have h2 := hj.1; rw [World.size_alloc] at h2; omega
        have HQ2 := Lib.hid hq2
        have HH3 := Lib.hid (show ∀ o v' w', w'.ownsRow w.heap.size 26 8 v' (k + 1) (xcells q ++ xcell (h, A3, l'.length, cap3)) → (w3.alloc o).grownBy w' (Value.ownBlock (.slice AS k capS)) →
            (v'.ownBlock = Value.ownBlock (.slice AS k capS) ∨ v'.ownBlock = some (w3.heap.size + 1)) → Xown w.heap.size w w' v' (l.take (k + 1)) from fun o v' w' ho hg hat => by
          rw [HT.out]
          exact H3.grow hq hxr (by rw [hkl]; exact ho) hg (by rw [World.size_alloc]; exact hat))
        have HLE := Lib.hid H3.le
        clear hq2 hxr hq H3 hb13 hb3 hx3 hle3 c0 c1 c2 c3 c4 c5 c6 c7
        go_wp2_with (at_builtin; refine wpList_append_own_at _ rfl _ _ 24 rfl w.heap.size 26 i0 _ 8 104 Tryz.underlying24 hi hz0 hz1 hz2 rfl (by decide) _ _ _ rfl (HQ2.out.alloc _) ⟨w3.heap.size, 0, none⟩ 1 1 (xcell (h, A3, l'.length, cap3)) rfl rfl (xnews _ _ _) (xcell_one _) ?c3 ?c4 ?c5 ?_)
        case c3 => unfold maxLen; omega
        case c4 => omega
        case c5 => have := HLE.out; simp; omega
        intro v' w4 hown' hg4 _ hat
        have HG := Lib.hid (HH3.out _ _ _ hown' hg4 hat)
        clear hown' hg4 hat
        go_wp2_with fail
        go_roundw
        case rel => exact ⟨k + 1, by omega, by go_num, HG⟩
        case measure => simp [intOf]; omega
      · obtain rfl : k = l.length := by omega
        obtain ⟨A2, cap2, hv2, hle2, hx2⟩ := HW.out.xsB
        rw [List.take_length] at hv2 hle2 hx2
        have HE := Lib.hid hx2
        have HB := Lib.hid HW.out.bel
        obtain ⟨rfl, _, rfl⟩ := Value.slice.inj hv2
        clear hx2 hv2
        go_wp2_with fail
        go_ret
        exact ⟨AS, capS, rfl, hle2, HE.out, HB.out⟩
theorem copyAll_any (l : List Ex) (w : World) (A : Option Addr) (cap : Nat) (hc : cntL l ≤ 1000000) (hX : XsAt w.heap.size w l A) :
    Calls Tryz.prog 45 #[.slice A l.length cap] w (CopyL w l) := copyAll_n _ l hc (Nat.le_refl _) w A cap hX
theorem copyOf_any (h : Hd) (l : List Ex) (w : World) (A : Option Addr) (cap : Nat) (hc : cntL l ≤ 1000000) (hX : XsAt w.heap.size w l A) :
    Calls Tryz.prog 54 #[XV h A l.length cap] w (CopyE w (.mk h l)) :=
  copyOf_of h l w A cap fun w1 hb => copyAll_any l w1 A cap hc (XsB.go (fun k hk => hb.block k hk) (fun _ hk => Nat.lt_of_lt_of_le hk hb.size) _ _ hX)
/-! Made. -/
abbrev hdL (k n : Int) (s : ByteArray) : Hd := ⟨1, 0, k, n, s, ⟨#[]⟩, ⟨#[]⟩⟩
abbrev hdC (t c : ByteArray) : Hd := ⟨2, 0, 0, 0, ⟨#[]⟩, t, c⟩
abbrev hdO (n : Int) : Hd := ⟨3, n, 0, 0, ⟨#[]⟩, ⟨#[]⟩, ⟨#[]⟩⟩
abbrev hdA (n : Int) : Hd := ⟨4, n, 0, 0, ⟨#[]⟩, ⟨#[]⟩, ⟨#[]⟩⟩
theorem lit_any (k n : Int) (s : ByteArray) (w : World) :
    Calls Tryz.prog 18 #[VV k n s] w fun e w' => e = .returned (XV (hdL k n s) none 0 0) ∧ Below w.heap.size w w' := by
  go_enter Tryz.func18, Tryz.ntmps18
  go_wp2
  refine bodyPost_ret (v := XV (hdL k n s) none 0 0) (by simp [results, Tryz.results18, go_sem]) rfl ⟨rfl, ?_⟩
  exact ba2 w _ _
theorem refLit_any (k n : Int) (s : ByteArray) (w : World) :
    Calls Tryz.prog 19 #[VV k n s] w fun e w' => e = .returned (XV (hdL k n s) none 0 0) ∧ Below w.heap.size w w' := by
  go_enter Tryz.func19, Tryz.ntmps19
  go_wp2
  refine bodyPost_ret (v := XV (hdL k n s) none 0 0) (by simp [results, Tryz.results19, go_sem]) rfl ⟨rfl, ?_⟩
  exact ba2 w _ _
theorem column_any (t c : ByteArray) (w : World) :
    Calls Tryz.prog 20 #[.string t, .string c] w fun e w' => e = .returned (XV (hdC t c) none 0 0) ∧ Below w.heap.size w w' := by
  go_enter Tryz.func20, Tryz.ntmps20
  go_wp2
  refine bodyPost_ret (v := XV (hdC t c) none 0 0) (by simp [results, Tryz.results20, go_sem]) rfl ⟨rfl, ?_⟩
  exact ba w _
theorem refColumn_any (t c : ByteArray) (w : World) :
    Calls Tryz.prog 21 #[.string t, .string c] w fun e w' => e = .returned (XV (hdC t c) none 0 0) ∧ Below w.heap.size w w' := by
  go_enter Tryz.func21, Tryz.ntmps21
  go_wp2
  refine bodyPost_ret (v := XV (hdC t c) none 0 0) (by simp [results, Tryz.results21, go_sem]) rfl ⟨rfl, ?_⟩
  exact ba w _
theorem refOp_any (n : Int) (A : Option Addr) (len cap : Nat) (w : World) :
    Calls Tryz.prog 23 #[.int .i64 n, .slice A len cap] w fun e w' => e = .returned (XV (hdO n) A len cap) ∧ Below w.heap.size w w' := by
  go_enter Tryz.func23, Tryz.ntmps23
  go_wp2
  refine bodyPost_ret (v := XV (hdO n) A len cap) (by simp [results, Tryz.results23, go_sem]) rfl ⟨rfl, ?_⟩
  exact ba w _
set_option maxHeartbeats 1000000 in
theorem op_any (n : Int) (l : List Ex) (w : World) (A : Option Addr) (cap : Nat) (hc : cntL l ≤ 1000000) (hX : XsAt w.heap.size w l A) :
    Calls Tryz.prog 22 #[.int .i64 n, .slice A l.length cap] w (CopyE w (.mk (hdO n) l)) := by
  have HC := Lib.hid (copyAll_any l (w.alloc x0) A cap hc (hX.next (ba w x0)))
  have HX1 := Lib.hid ((MapKept.heap_alloc w x0).1)
  clear hX
  go_enter Tryz.func22, Tryz.ntmps22
  go_wp2_with fail
  refine HC.out.mono ?_
  rintro e w3 ⟨A3, cap3, rfl, hle3, hx3, hb3⟩
  have hX1 := (hb3.block w.heap.size (by rw [World.size_alloc]; omega)).trans HX1.out
  have HB := Lib.hid (bt (ba w x0) hb3)
  have HXB := Lib.hid hx3
  obtain ⟨⟨c0, c1, c2, c3, c4, c5, c6, c7⟩, f0, f1, f2, f3, f4, f5, f6, f7⟩ := cell8 hX1
  have HZ := Lib.hid (set8_box hX1 (.int .i64 (hdO n).k) (.int .i64 n) (.int .i64 0) (.int .i64 0) (.string ⟨#[]⟩) (.string ⟨#[]⟩) (.string ⟨#[]⟩) (.slice A3 l.length cap3))
  clear hX1 hb3 hx3 HC HX1
  go_wp2_with fail
  obtain ⟨⟨q0, q1, q2, q3, q4, q5, q6, q7⟩, _⟩ := cell8 HZ.out
  refine bodyPost_ret (v := XV (hdO n) A3 l.length cap3) (by simp [results, Tryz.results22, go_sem, q0, q1, q2, q3, q4, q5, q6, q7]) rfl ⟨A3, cap3, rfl, hle3, ?_, ?_⟩
  · refine XsB.go (fun k hk => set8_other (by have := hk.1; rw [World.size_alloc] at this; omega) _ _ _ _ _ _ _ _) (fun k hk => ⟨by have := hk.1; rw [World.size_alloc] at this; omega, ?_⟩) _ _ HXB.out
    rw [set8_size]; exact hk.2
  · exact set8_below HB.out (Nat.le_refl _) _ _ _ _ _ _ _ _
set_option maxHeartbeats 1000000 in
theorem agg_any (n : Int) (l : List Ex) (w : World) (A : Option Addr) (cap : Nat) (hc : cntL l ≤ 1000000) (hX : XsAt w.heap.size w l A) :
    Calls Tryz.prog 24 #[.int .i64 n, .slice A l.length cap] w (CopyE w (.mk (hdA n) l)) := by
  have HC := Lib.hid (copyAll_any l (w.alloc x0) A cap hc (hX.next (ba w x0)))
  have HX1 := Lib.hid ((MapKept.heap_alloc w x0).1)
  clear hX
  go_enter Tryz.func24, Tryz.ntmps24
  go_wp2_with fail
  refine HC.out.mono ?_
  rintro e w3 ⟨A3, cap3, rfl, hle3, hx3, hb3⟩
  have hX1 := (hb3.block w.heap.size (by rw [World.size_alloc]; omega)).trans HX1.out
  have HB := Lib.hid (bt (ba w x0) hb3)
  have HXB := Lib.hid hx3
  obtain ⟨⟨c0, c1, c2, c3, c4, c5, c6, c7⟩, f0, f1, f2, f3, f4, f5, f6, f7⟩ := cell8 hX1
  have HZ := Lib.hid (set8_box hX1 (.int .i64 (hdA n).k) (.int .i64 n) (.int .i64 0) (.int .i64 0) (.string ⟨#[]⟩) (.string ⟨#[]⟩) (.string ⟨#[]⟩) (.slice A3 l.length cap3))
  clear hX1 hb3 hx3 HC HX1
  go_wp2_with fail
  obtain ⟨⟨q0, q1, q2, q3, q4, q5, q6, q7⟩, _⟩ := cell8 HZ.out
  refine bodyPost_ret (v := XV (hdA n) A3 l.length cap3) (by simp [results, Tryz.results24, go_sem, q0, q1, q2, q3, q4, q5, q6, q7]) rfl ⟨A3, cap3, rfl, hle3, ?_, ?_⟩
  · refine XsB.go (fun k hk => set8_other (by have := hk.1; rw [World.size_alloc] at this; omega) _ _ _ _ _ _ _ _) (fun k hk => ⟨by have := hk.1; rw [World.size_alloc] at this; omega, ?_⟩) _ _ HXB.out
    rw [set8_size]; exact hk.2
  · exact set8_below HB.out (Nat.le_refl _) _ _ _ _ _ _ _ _
end Go.Proofs.YteckhaicodmakaaGreatDoor
