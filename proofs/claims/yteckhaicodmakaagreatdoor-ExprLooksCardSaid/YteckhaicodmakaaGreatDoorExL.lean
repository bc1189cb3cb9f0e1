/-
  All.
  What must come of every program: expr's lives.
-/
import Derived.Test.YteckhaicodmakaaGreatDoorExI
import Derived.Test.YteckhaicodmakaaGreatDoorExf
namespace Go.Proofs.YteckhaicodmakaaGreatDoor
section
open Go.RowKit Go.Shelf
attribute [local go_sem] Oper.semAt_some

def andX (a b : Ex) : Ex := .mk (hdO 2) [a, b]
def accX (x : Ex) (r : List Ex) (j : Nat) : Ex := (r.take j).foldl andX x
def allX : List Ex → Ex
  | [] => .mk (hdL 1 1 ⟨#[]⟩) []
  | x :: r => r.foldl andX x
theorem accX_next {x : Ex} {r : List Ex} {j : Nat} {y : Ex} (h : r[j]? = some y) : accX x r (j + 1) = andX (accX x r j) y := by
  unfold accX
  rw [List.take_add_one, h, Option.toList_some, List.foldl_append]
  rfl
theorem accX_all (x : Ex) (r : List Ex) : accX x r r.length = allX (x :: r) := by
  unfold accX
  rw [List.take_length]
  rfl
/-- An expression that is told, in whatever memory. -/
def EBack (w : World) (x : Ex) (e : Ending) (w' : World) : Prop :=
  ∃ A cap, e = .returned (XV x.hd A x.kids.length cap) ∧ x.kids.length ≤ cap ∧ XsAt w'.heap.size w' x.kids A ∧ Below w.heap.size w w'
theorem bool_yes (w : World) :
    Calls Tryz.prog 53 #[.bool true] w fun e w' => e = .returned (VV 1 1 ⟨#[]⟩) ∧ Below w.heap.size w w' := by
  go_enter Tryz.func53, Tryz.ntmps53
  go_wp2
  refine bodyPost_ret (v := VV 1 1 ⟨#[]⟩) (by simp [results, Tryz.results53, go_sem]) rfl ⟨rfl, ?_⟩
  exact ba w _
theorem xall_nil (A : Option Addr) (cap : Nat) (w : World) :
    Calls Tryz.prog 39 #[.slice A 0 cap] w (EBack w (allX [])) := by
  have HBo := Lib.hid (bool_yes (w.alloc x0))
  have HL := Lib.hid (fun w1 => lit_any 1 1 ⟨#[]⟩ w1)
  have HX := Lib.hid (MapKept.heap_alloc w x0).1
  go_enter Tryz.func39, Tryz.ntmps39
  go_wp2_with fail
  refine HBo.out.mono ?_
  rintro e w1 ⟨rfl, hb1⟩
  have HB1 := Lib.hid (bt (ba w x0) hb1)
  have HX1 := Lib.hid ((hb1.block w.heap.size (by rw [World.size_alloc]; omega)).trans HX.out)
  clear hb1
  go_wp2_with fail
  refine (HL.out _).mono ?_
  rintro e w2 ⟨rfl, hb2⟩
  have HB2 := Lib.hid (bt HB1.out hb2)
  have hx2 := (hb2.block w.heap.size (by have := (Array.getElem?_eq_some_iff.1 HX1.out).1; omega)).trans HX1.out
  clear hb2
  obtain ⟨⟨c0, c1, c2, c3, c4, c5, c6, c7⟩, f0, f1, f2, f3, f4, f5, f6, f7⟩ := cell8 hx2
  have HZ := Lib.hid (set8_box hx2 (.int .i64 1) (.int .i64 0) (.int .i64 1) (.int .i64 1) (.string ⟨#[]⟩) (.string ⟨#[]⟩) (.string ⟨#[]⟩) (.slice none 0 0))
  clear hx2
  go_wp2_with fail
  obtain ⟨⟨q0, q1, q2, q3, q4, q5, q6, q7⟩, _⟩ := cell8 HZ.out
  refine bodyPost_ret (v := XV (hdL 1 1 ⟨#[]⟩) none 0 0) (by simp [results, Tryz.results39, go_sem, q0, q1, q2, q3, q4, q5, q6, q7]) rfl ⟨none, 0, rfl, Nat.le_refl _, ?_, ?_⟩
  · rw [XsAt]; show XsB _ _ [] _; rw [XsB]; trivial
  · exact set8_below HB2.out (Nat.le_refl _) _ _ _ _ _ _ _ _
/-- Where the parts of what is put together lie: in blocks of the call's own, none of its two boxes. -/
abbrev Apt (n u2 u3 : Nat) (W : World) (k : Nat) : Prop := n ≤ k ∧ k < W.heap.size ∧ k ≠ u2 ∧ k ≠ u3
theorem Apt.next {n u2 u3 : Nat} {W W' : World} {l : List Ex} {A : Option Addr} (hb : Bel W W') (h : XsB (Apt n u2 u3 W) W l A) : XsB (Apt n u2 u3 W') W' l A :=
  XsB.go (fun k hk => hb.block k hk.2.1) (fun _ hk => ⟨hk.1, Nat.lt_of_lt_of_le hk.2.1 hb.size, hk.2.2⟩) _ _ h
def AV (n u2 u3 : Nat) (l : List Ex) (len : Nat) (v : Value) (w : World) : Prop := ∃ A cap, v = .slice A len cap ∧ len ≤ cap ∧ XsB (Apt n u2 u3 w) w l A
def AE (n u2 u3 : Nat) (h : Hd) (l : List Ex) (len : Nat) (v : Value) (w : World) : Prop := ∃ A cap, v = XV h A len cap ∧ len ≤ cap ∧ XsB (Apt n u2 u3 w) w l A
theorem AV.keeps (n u2 u3 : Nat) (l : List Ex) (len : Nat) : Keeps Bel (AV n u2 u3 l len) := fun _ _ _ hb ⟨A, cap, e, hl, hx⟩ => ⟨A, cap, e, hl, Apt.next hb hx⟩
theorem AE.keeps (n u2 u3 : Nat) (h : Hd) (l : List Ex) (len : Nat) : Keeps Bel (AE n u2 u3 h l len) := fun _ _ _ hb ⟨A, cap, e, hl, hx⟩ => ⟨A, cap, e, hl, Apt.next hb hx⟩
theorem pair_at {n u2 u3 : Nat} {w : World} {a : Ex} {h' : Hd} {l' : List Ex} {A A3 : Option Addr} {cap cap3 : Nat} (hn : n ≤ w.heap.size) (h2 : u2 < w.heap.size) (h3 : u3 < w.heap.size) (hl : a.kids.length ≤ cap) (hl3 : l'.length ≤ cap3)
    (hA : XsB (Apt n u2 u3 w) w a.kids A) (hA3 : XsB (Apt n u2 u3 w) w l' A3) :
    AV n u2 u3 [a, .mk h' l'] 2 (.slice (some ⟨w.heap.size, 0, none⟩) 2 2) (w.alloc (.cells (xcell (a.hd, A, a.kids.length, cap) ++ xcell (h', A3, l'.length, cap3)).toArray 26)) := by
  have hb := ba w (.cells (xcell (a.hd, A, a.kids.length, cap) ++ xcell (h', A3, l'.length, cap3)).toArray 26)
  have hzb := (MapKept.heap_alloc w (.cells (xcell (a.hd, A, a.kids.length, cap) ++ xcell (h', A3, l'.length, cap3)).toArray 26)).1
  refine ⟨_, _, rfl, Nat.le_refl _, ?_⟩
  refine XRs.xsB (q := [(a.hd, A, a.kids.length, cap), (h', A3, l'.length, cap3)]) ⟨hn, by rw [World.size_alloc]; omega, by omega, by omega⟩ (.cons ⟨rfl, rfl, hl, Apt.next hb hA⟩ (.cons ⟨rfl, rfl, hl3, Apt.next hb hA3⟩ .nil)) fun j u hj => ?_
  rw [Nat.zero_add]
  simp only [World.cell?, hzb, List.getElem?_toArray]
  simpa [xcells] using hj
theorem run_mkO {o : Oper} {a : Act} {w : World} {x : Operand} (ho : o.op = .build 26 #[(0, .const (.int .i64 3)), (1, .const (.int .i64 2)), (5, x)]) {A : Option Addr} {n c : Nat} (hx : a.eval x = .slice A n c) :
    (execOp a.eval o).run Tryz.prog w = .ok (.value (XV (hdO 2) A n c)) w := by
  have h : (Instr.build 26 #[(0, .int .i64 3), (1, .int .i64 2), (5, .slice A n c)]).run Tryz.prog w = .ok (XV (hdO 2) A n c) w := by
    go_simp
  have e1 : a.eval (.const (.int .i64 3)) = .int .i64 3 := rfl
  have e2 : a.eval (.const (.int .i64 2)) = .int .i64 2 := rfl
  unfold execOp
  simp only [ho, List.map_toArray, List.map_cons, List.map_nil, hx, e1, e2]
  rw [Sem.run_bind, h]
  rfl
/-- What holds from round to round. -/
def RdAll (w : World) (u2 u3 : Nat) (x : Ex) (wr : World) : Prop :=
  ∃ A4 cap4, x.kids.length ≤ cap4 ∧ wr.heap[u3]? = some (xbox x.hd A4 x.kids.length cap4) ∧ XsB (Apt u2 u2 u3 wr) wr x.kids A4 ∧ wr.heap[u2]? = some x0 ∧ Below w.heap.size w wr
theorem round_end {w We w1 : World} {u2 u3 : Nat} {x : Ex} {h' : Hd} {l' : List Ex} {z : Option Addr} {c4 len3 cap3 : Nat} {h3 : Hd} {A3 : Option Addr} (H : w.heap.size = u2 ∧ u2 < u3 ∧ u3 < We.heap.size ∧ We.heap[u2]? = some x0 ∧ Below w.heap.size w We) (hB : Below We.drew.heap.size We.drew w1)
    (hU : w1.heap[u3]? = some (xbox h3 A3 len3 cap3)) (hl : 2 ≤ c4) (hx : XsB (Apt u2 u2 u3 w1) w1 [x, .mk h' l'] z) : Hid (RdAll w u2 u3 (andX x (.mk h' l')) (put8 w1 u3 0 (hdO 2, z, 2, c4))) := by
  obtain ⟨h1, h2, h4, h5, h6⟩ := H
  have hbe : (put8 w1 u3 0 (hdO 2, z, 2, c4)).heap[u3]? = some (xbox (hdO 2) z 2 c4) := by
    rw [put8_box (o := 0) hU (hdO 2, z, 2, c4)]
    simp
  have hb2 : (put8 w1 u3 0 (hdO 2, z, 2, c4)).heap[u2]? = some x0 := (put8_other (by omega) _).trans ((hB.block u2 (show u2 < We.heap.size by omega)).trans h5)
  have hxk : XsB (Apt u2 u2 u3 (put8 w1 u3 0 (hdO 2, z, 2, c4))) (put8 w1 u3 0 (hdO 2, z, 2, c4)) [x, .mk h' l'] z :=
    XsB.go (fun k hk => put8_other (by have := hk.2.2.2; omega) _) (fun k hk => ⟨hk.1, by rw [put8_size]; exact hk.2.1, hk.2.2⟩) _ _ hx
  have hs : We.heap.size ≤ w1.heap.size := hB.size
  refine Lib.hid ⟨z, c4, hl, hbe, hxk, hb2, ?_⟩
  have h7 : Below w.heap.size w w1 := bt h6 (bt (Below.drew (Below.refl _ _)) hB)
  exact ⟨(put8_os ..).trans h7.os, (put8_tape ..).trans h7.tape, (put8_output ..).trans h7.output, by rw [put8_size]; exact h7.size, fun k hk => (put8_other (by omega) _).trans (h7.block k hk)⟩
set_option maxRecDepth 100000 in
set_option maxHeartbeats 8000000 in
theorem xall_any (x : Ex) (r : List Ex) (A : Option Addr) (cap : Nat) (w : World) (hX : XsAt w.heap.size w (x :: r) A) (hcap : r.length + 1 ≤ cap) (hr : 1 ≤ r.length) (hc : cntL (x :: r) ≤ 1000000) :
    Calls Tryz.prog 39 #[.slice A (r.length + 1) cap] w (EBack w (allX (x :: r))) := by
  obtain ⟨g, o, A', cap', rfl, hg, hxc, hle', hx'⟩ := XsAt.one hX
  have HR := Lib.hid (show XsAt w.heap.size w r (some ⟨g, o + 8, none⟩) by have := XsB.drop hX 1; simpa using this)
  obtain ⟨h, l⟩ := x
  have hba := ba w x0
  have hc1 : cntL l + 1 + cntL r ≤ 1000000 := by rw [cntL, cnt_mk] at hc; omega
  have hrl := cntL_len r
  have HC := Lib.hid (copyOf_any h l (w.alloc x0) A' cap' (by omega) (XsAt.next hx' hba))
  obtain ⟨c0, c1, c2, c3, c4, c5, c6, c7⟩ := hxc.of (hba.block g hg)
  have HBa := Lib.hid hba
  have HX0 := Lib.hid (MapKept.heap_alloc w x0).1
  have HE := Lib.hid (accX_all (.mk h l) r)
  have Hg := Lib.hid hg
  clear hX hxc hx' hba hc hg
  simp only [Ex.hd, Ex.kids] at c0 c1 c2 c3 c4 c5 c6 c7
  go_enter Tryz.func39, Tryz.ntmps39
  go_wp2_with fail
  refine HC.out.mono ?_
  rintro e w1 ⟨A1, cap1, rfl, hle1, hx1, hb1⟩
  simp only [Ex.hd, Ex.kids] at hle1 hx1 ⊢
  have hbx := ba w1 (xbox h A1 l.length cap1)
  have hB1 := bt HBa.out hb1
  have hX2 := (hb1.block w.heap.size (by rw [World.size_alloc]; omega)).trans HX0.out
  have hs1 : w.heap.size + 1 ≤ w1.heap.size := by have := hb1.size; rw [World.size_alloc] at this; omega
  have HZ := Lib.hid (MapKept.heap_alloc w1 (xbox h A1 l.length cap1)).1
  have HBs := Lib.hid (bt hB1 hbx)
  have HO2 := Lib.hid ((hbx.block w.heap.size (by omega)).trans hX2)
  have HK := Lib.hid (show XsB (Apt w.heap.size w.heap.size w1.heap.size (w1.alloc (xbox h A1 l.length cap1))) (w1.alloc (xbox h A1 l.length cap1)) l A1 from
    XsB.go (fun k hk => hbx.block k hk.2) (fun k hk => ⟨by have := hk.1; rw [World.size_alloc] at this; omega, by rw [World.size_alloc]; have := hk.2; omega, by have := hk.1; rw [World.size_alloc] at this; omega, by have := hk.2; omega⟩) _ _ hx1)
  have HS2 := Lib.hid (show w1.heap.size < (w1.alloc (xbox h A1 l.length cap1)).heap.size by rw [World.size_alloc]; omega)
  clear HX0 hx1 hb1 hB1 hX2 c0 c1 c2 c3 c4 c5 c6 c7 hbx
  go_upto_region 4 with fail
  obtain ⟨W1, hW1⟩ : ∃ W1, w1.alloc (xbox h A1 l.length cap1) = W1 := ⟨_, rfl⟩
  rw [hW1] at HZ HBs HO2 HK HS2 ⊢
  clear hW1
  obtain ⟨u3, hu3⟩ : ∃ u, w1.heap.size = u := ⟨_, rfl⟩
  rw [hu3] at HZ HK HS2 hs1 ⊢
  obtain ⟨u2, hu2⟩ : ∃ u, w.heap.size = u := ⟨_, rfl⟩
  have Hu2 := Lib.hid hu2
  have Hu3 := Lib.hid hs1
  rw [hu2] at HO2 HK Hu3 ⊢
  clear hu3 hu2 hs1
  have hcr : (1 : Int) ≤ (cap : Int) := by omega
  go_wp2_with fail
  go_loopw [18] (fun i wr => ∃ j : Nat, j ≤ r.length ∧ i = .int .i64 j ∧ Hid (RdAll w u2 u3 (accX (.mk h l) r j) wr)) (fun i _ => r.length - (intOf i).toNat)
  case atStart => exact ⟨0, Nat.zero_le _, rfl, Lib.hid ⟨A1, cap1, hle1, HZ.out, HK.out, HO2.out, HBs.out⟩⟩
  case round =>
    obtain ⟨j, hj, rfl, HW⟩ := hrel
    obtain ⟨A4, cap4, hle4, hb3, hk4, hb2, hB⟩ := HW.out
    clear HZ HK HO2 HBs HS2 HW
    have h32 := (Array.getElem?_eq_some_iff.1 hb3).1
    by_cases hjr : j < r.length
    · obtain ⟨h', l', g2, o2, A2, cap2, hx, e2, hg2, ⟨a0, a1, a2, a3, a4, a5, a6, a7⟩, hle2, hx2⟩ := kid_at HR.out hB hjr
      simp only [Option.some.injEq, Addr.mk.injEq] at e2
      obtain ⟨rfl, rfl, _⟩ := e2
      have hcm := cntL_mem hx
      rw [cnt_mk] at hcm
      have hbe := ba wr (xbox h' A2 l'.length cap2)
      have HAc := Lib.hid (accX_next (x := .mk h l) hx)
      have HCp := Lib.hid (show ∀ Wc, Below (wr.alloc (xbox h' A2 l'.length cap2)).heap.size (wr.alloc (xbox h' A2 l'.length cap2)) Wc → Calls Tryz.prog 54 #[XV h' A2 l'.length cap2] Wc (CopyE Wc (.mk h' l')) from
        fun Wc hc => copyOf_any h' l' Wc A2 cap2 (by omega) (XsAt.next (XsAt.next hx2 hbe) hc))
      have HbU := Lib.hid ((hbe.block u3 h32).trans hb3)
      have HxB := Lib.hid (MapKept.heap_alloc wr (xbox h' A2 l'.length cap2)).1
      have HU3 := Lib.hid (show u3 < (wr.alloc (xbox h' A2 l'.length cap2)).heap.size by rw [World.size_alloc]; omega)
      have HU2 := Lib.hid (show u2 < (wr.alloc (xbox h' A2 l'.length cap2)).heap.size by rw [World.size_alloc]; have := Hu3.out; omega)
      have HU5 := Lib.hid (show wr.heap.size < (wr.alloc (xbox h' A2 l'.length cap2)).heap.size by rw [World.size_alloc]; omega)
      have HLe := Lib.hid hle4
      have HK4 := Lib.hid (Apt.next (bt hbe (Below.drew (Below.refl _ _))) hk4)
      have HW2 := Lib.hid (show w.heap.size = u2 ∧ u2 < u3 ∧ u3 < (wr.alloc (xbox h' A2 l'.length cap2)).heap.size ∧ (wr.alloc (xbox h' A2 l'.length cap2)).heap[u2]? = some x0 ∧ Below w.heap.size w (wr.alloc (xbox h' A2 l'.length cap2)) from
        ⟨Hu2.out, by have := Hu3.out; omega, HU3.out, (hbe.block u2 (by have := Hu3.out; omega)).trans hb2, bt hB hbe⟩)
      clear hb3 hk4 hb2 hB hx hx2 hbe hcm hle4 h32
      go_upto_region 7 with fail
      obtain ⟨We, hWe⟩ : ∃ W, wr.alloc (xbox h' A2 l'.length cap2) = W := ⟨_, rfl⟩
      obtain ⟨u5, hu5⟩ : ∃ u, wr.heap.size = u := ⟨_, rfl⟩
      rw [hWe] at HbU HxB HU3 HU2 HU5 HK4 HW2 HCp ⊢
      rw [hu5] at HxB HU5 ⊢
      clear hWe hu5 a0 a1 a2 a3 a4 a5 a6 a7
      refine wp_region_inv (n := 5) (ds := [some 22, some 23, some 24, some 25, some 26, none]) (need := [[], [], [1], [0, 2], [3]]) (R := Bel) (Gs := [
          (fun v _ => v = XV (accX (.mk h l) r j).hd A4 (accX (.mk h l) r j).kids.length cap4),
          (fun v _ => v = XV h' A2 l'.length cap2),
          (AE u2 u2 u3 h' l' l'.length),
          (AV u2 u2 u3 [(accX (.mk h l) r j), .mk h' l'] 2),
          (AE u2 u2 u3 (hdO 2) [(accX (.mk h l) r j), .mk h' l'] 2)])
        (by kernel_rfl) (by kernel_rfl) (by decide) (by kernel_rfl) (by kernel_rfl) (by kernel_rfl) (fun x => Below.refl _ x) (fun _ _ _ h k => bt h k) ?_ ?_
      · refine Each.cons rfl (Keeps.const _) (StepOk.plain (g := (fun v _ => v = XV (accX (.mk h l) r j).hd A4 (accX (.mk h l) r j).kids.length cap4)) rfl rfl rfl (fun a w hs hR hr pre => ?_)) ?_
        · have ep : a.eval (.tmp 3) = .pointer (some ⟨u3, 0, none⟩) := hr 3 (by decide)
          exact wp_pure (run_ldE rfl ep (XC.ofBox ((hR.block u3 HU3.out).trans HbU.out))) rfl
        refine Each.cons rfl (Keeps.const _) (StepOk.plain (g := (fun v _ => v = XV h' A2 l'.length cap2)) rfl rfl rfl (fun a w hs hR hr pre => ?_)) ?_
        · have ep : a.eval (.tmp 5) = .pointer (some ⟨u5, 0, none⟩) := hr 5 (by decide)
          exact wp_pure (run_ldE rfl ep (XC.ofBox ((hR.block u5 HU5.out).trans HxB.out))) rfl
        refine Each.cons rfl (AE.keeps _ _ _ _ _ _) (StepOk.plain (g := (AE u2 u2 u3 h' l' l'.length)) rfl rfl rfl (fun a w hs hR hr pre => ?_)) ?_
        · have e23 : a.eval (.tmp 23) = XV h' A2 l'.length cap2 := pre 1 (by decide)
          refine wp_fn (vs := #[XV h' A2 l'.length cap2]) rfl Tryz.func54 (by kernel_rfl) (by kernel_rfl) (by simp only [List.map_toArray, List.map_cons, List.map_nil, e23]) ((HCp.out w (bt (Below.drew (Below.refl _ _)) hR)).mono ?_)
          rintro e w2 ⟨A3, cap3, rfl, hle3, hx3, hb⟩
          exact ⟨_, rfl, hb, A3, cap3, rfl, hle3, XsB.go (fun _ _ => rfl) (fun k hk => by have h0 : We.heap.size ≤ w.heap.size := hR.size; have h2 := hk.1; have h3 := HU3.out; have h4 := HU2.out; exact ⟨by omega, hk.2, by omega, by omega⟩) _ _ hx3⟩
        refine Each.cons rfl (AV.keeps _ _ _ _ _) (StepOk.plain (g := (AV u2 u2 u3 [(accX (.mk h l) r j), .mk h' l'] 2)) rfl rfl rfl (fun a w hs hR hr pre => ?_)) ?_
        · have e22 : a.eval (.tmp 22) = XV (accX (.mk h l) r j).hd A4 (accX (.mk h l) r j).kids.length cap4 := pre 0 (by decide)
          obtain ⟨A3, cap3, e24, hl3, hx3⟩ : AE u2 u2 u3 h' l' l'.length (a.eval (.tmp 24)) w := pre 2 (by decide)
          have h0 : We.heap.size ≤ w.heap.size := hR.size
          exact wp_made (run_bs2 rfl e22 e24) (pair_at (by have := HU2.out; omega) (by have := HU2.out; omega) (by have := HU3.out; omega) HLe.out hl3 (Apt.next hR HK4.out) hx3)
        refine Each.cons rfl (AE.keeps _ _ _ _ _ _) (StepOk.plain (g := (AE u2 u2 u3 (hdO 2) [(accX (.mk h l) r j), .mk h' l'] 2)) rfl rfl rfl (fun a w hs hR hr pre => ?_)) ?_
        · obtain ⟨A3, cap3, e25, hl3, hx3⟩ : AV u2 u2 u3 [(accX (.mk h l) r j), .mk h' l'] 2 (a.eval (.tmp 25)) w := pre 3 (by decide)
          exact wp_pure (run_mkO rfl e25) ⟨A3, cap3, rfl, hl3, hx3⟩
        exact Each.nil
      · intro v w1 hB hG
        obtain ⟨z, c4, e4, hl4, hx4⟩ : AE u2 u2 u3 (hdO 2) [(accX (.mk h l) r j), .mk h' l'] 2 (v 4) w1 := hG 4 (by decide)
        clear hG
        simp only [List.take_succ_cons, List.take_zero, puts, Act.put, List.setIfInBounds_toArray, List.set_cons_zero, List.set_cons_succ, Nat.reduceAdd, e4]
        have hU3 : w1.heap[u3]? = _ := (hB.block u3 HU3.out).trans HbU.out
        obtain ⟨⟨k0, k1, k2, k3, k4, k5, k6, k7⟩, _⟩ := cell8 hU3
        refine wpAny_last (by rfl) (by kernel_rfl) (by kernel_rfl) rfl rfl ?_
        refine wp_put8 (.tmp 3) (.tmp 26) rfl u3 0 (hdO 2, z, 2, c4) (by rfl) (by rfl) (fun i hi => ?_) (fun o => by simp only [World.frozen?, hU3]; rfl) ?_
        · rcases (show i = 0 ∨ i = 1 ∨ i = 2 ∨ i = 3 ∨ i = 4 ∨ i = 5 ∨ i = 6 ∨ i = 7 by omega) with rfl | rfl | rfl | rfl | rfl | rfl | rfl | rfl
          · exact ⟨_, k0⟩
          · exact ⟨_, k1⟩
          · exact ⟨_, k2⟩
          · exact ⟨_, k3⟩
          · exact ⟨_, k4⟩
          · exact ⟨_, k5⟩
          · exact ⟨_, k6⟩
          · exact ⟨_, k7⟩
        have HEN := Lib.hid (round_end (x := accX (.mk h l) r j) HW2.out hB hU3 hl4 hx4)
        rw [← HAc.out] at HEN
        obtain ⟨F, hF⟩ : ∃ F, put8 w1 u3 0 (hdO 2, z, 2, c4) = F := ⟨_, rfl⟩
        rw [hF] at HEN ⊢
        clear hF hU3 k0 k1 k2 k3 k4 k5 k6 k7 hB hx4
        simp only [Act.put]
        go_wp2_with fail
        go_roundw
        case rel => exact ⟨j + 1, by omega, by go_num, HEN⟩
        case measure => simp [intOf]; omega
    · have hjj : j = r.length := by omega
      rw [hjj, HE.out] at hle4 hb3 hk4
      clear hjj
      obtain ⟨⟨d0, d1, d2, d3, d4, d5, d6, d7⟩, _⟩ := cell8 hb3
      obtain ⟨⟨e0, e1, e2, e3, e4, e5, e6, e7⟩, g0, g1, g2, g3, g4, g5, g6, g7⟩ := cell8 hb2
      obtain ⟨Y, hY⟩ : ∃ Y, allX (.mk h l :: r) = Y := ⟨_, rfl⟩
      rw [hY] at hle4 hb3 hk4 d0 d1 d2 d3 d4 d5 d6 d7 ⊢
      have HZ2 := Lib.hid (set8_box hb2 (.int .i64 Y.hd.k) (.int .i64 Y.hd.n) (.int .i64 Y.hd.vk) (.int .i64 Y.hd.vn) (.string Y.hd.vs) (.string Y.hd.tab) (.string Y.hd.col) (.slice A4 Y.kids.length cap4))
      have HB2 := Lib.hid hB
      have HK2 := Lib.hid hk4
      have HY := Lib.hid hY
      clear hb3 hb2 hB hk4 HE hY
      go_wp2_with fail
      obtain ⟨⟨q0, q1, q2, q3, q4, q5, q6, q7⟩, _⟩ := cell8 HZ2.out
      refine bodyPost_ret (v := XV Y.hd A4 Y.kids.length cap4) (by simp [results, Tryz.results39, go_sem, q0, q1, q2, q3, q4, q5, q6, q7]) rfl ?_
      rw [HY.out]
      refine ⟨A4, cap4, rfl, hle4, ?_, ?_⟩
      · exact XsB.go (fun k hk => set8_other (by have := hk.2.2.1; omega) _ _ _ _ _ _ _ _) (fun k hk => by rw [set8_size]; exact hk.2.1) _ _ HK2.out
      · exact set8_below HB2.out (by have := Hu2.out; omega) _ _ _ _ _ _ _ _
end
section
open Go.RowKit Go.Shelf
attribute [local go_sem] Oper.semAt_some

abbrev eA : Ex := .mk (hdC ⟨#[]⟩ ⟨#[97]⟩) []
abbrev eOne : Ex := .mk (hdL 2 1 ⟨#[]⟩) []
abbrev eB : Ex := .mk (hdC ⟨#[116]⟩ ⟨#[98]⟩) []
abbrev eAdd : Ex := .mk (hdO 10) [eA, eOne]
abbrev eLt : Ex := .mk (hdO 6) [eAdd, eB]
abbrev eNull : Ex := .mk (hdO 16) [eA]
abbrev eAnd : Ex := .mk (hdO 2) [eLt, eNull]
abbrev eRows : Ex := .mk (hdA 1) []
abbrev eSum : Ex := .mk (hdA 3) [eA]
abbrev eZero : Ex := .mk ⟨0, 0, 0, 0, ⟨#[]⟩, ⟨#[]⟩, ⟨#[]⟩⟩ []
abbrev eTrue : Ex := .mk (hdL 1 1 ⟨#[]⟩) []
theorem sm_all : AllSm eAnd ∧ AllSm eRows ∧ AllSm eSum ∧ AllSm eZero ∧ AllSm eTrue := by
  simp only [AllSm, AllSmL, and_true]
  refine ⟨⟨?_, ⟨?_, ⟨?_, ?_, ?_⟩, ?_⟩, ?_, ?_⟩, ?_, ⟨?_, ?_⟩, ?_, ?_⟩ <;> exact ⟨by decide, by decide, by decide⟩
theorem ok_and : okX eAnd = true := by kernel_rfl
theorem ok_sum : okX eSum = true := by kernel_rfl
theorem cnt_and : cnt eAnd = 8 := by kernel_rfl
theorem chk_and : chkI eAnd = 0 := by kernel_rfl
theorem siz_and : sizI eAnd = 8 := by kernel_rfl
theorem dep_and : depI eAnd = 4 := by kernel_rfl
theorem safe_and : safeB eAnd = false := by kernel_rfl
abbrev txtAnd : List UInt8 := [40, 40, 40, 97, 32, 43, 32, 49, 41, 32, 60, 32, 116, 46, 98, 41, 32, 65, 78, 68, 32, 40, 97, 32, 73, 83, 32, 78, 85, 76, 76, 41, 41]
theorem sho_and : shoX eAnd = txtAnd := by kernel_rfl
theorem sho_rows : shoX eRows = [67, 79, 85, 78, 84, 40, 42, 41] := by kernel_rfl
theorem sho_true : shoX eTrue = [84, 82, 85, 69] := by kernel_rfl
theorem chk_zero : chkI eZero = 100 := by kernel_rfl
theorem len_cols : (if okX eAnd = true then kndX 2 eAnd else []).length = 3 := by kernel_rfl
theorem len_aggs : (if okX eSum = true then kndX 4 eSum else []).length = 1 := by kernel_rfl
theorem prt_and : (if okX eAnd = true then prtX eAnd else []) = [eLt, eNull] := by kernel_rfl
theorem all_prt : allX [eLt, eNull] = eAnd := by rfl
theorem same_and : sameX eAnd eAnd = true := by kernel_rfl
mutual
def nzX : Ex → Bool
  | .mk h l => h.k != 0 && nzXs l
def nzXs : List Ex → Bool
  | [] => true
  | x :: r => nzX x && nzXs r
end
theorem XsB.off {B : Nat → Prop} {w : World} {u : Nat} (hu : w.heap[u]? = some x0) : ∀ (l : List Ex) (A : Option Addr), nzXs l = true → XsB B w l A → XsB (fun k => B k ∧ k ≠ u) w l A
  | [], _, _, _ => by rw [XsB]; trivial
  | .mk h l :: r, A, hz, H => by
    rw [nzXs, nzX] at hz
    simp only [Bool.and_eq_true, bne_iff_ne] at hz
    rw [XsB] at H ⊢
    obtain ⟨g, o, e, hg, ⟨A', cap, hc, hl, h1⟩, h2⟩ := H
    refine ⟨g, o, e, ⟨hg, fun e2 => ?_⟩, ⟨A', cap, hc, hl, XsB.off hu l A' hz.1.2 h1⟩, XsB.off hu r _ hz.2 h2⟩
    subst e2
    have h0 := hc.c0
    have h7 := hc.c7
    simp only [World.cell?, hu] at h0 h7
    have ho : o = 0 := by
      rcases Nat.eq_zero_or_pos o with h | h
      · exact h
      · rw [Array.getElem?_eq_none (by simp; omega)] at h7; cases h7
    subst ho
    simp at h0
    exact hz.1.1 h0.symm
theorem ev_all {x : Ex} {r : List Ex} {v : Value} {w : World} (h : LV (x :: r) v w) (hr : 1 ≤ r.length) (hc : cntL (x :: r) ≤ 1000000) {y : Ex} (e : allX (x :: r) = y) :
    Calls Tryz.prog 39 #[v] w fun e w' => ∃ u, e = .returned u ∧ Bel w w' ∧ EV y u w' := by
  obtain ⟨A, cap, rfl, hl, hx⟩ := h
  refine (xall_any x r A cap w hx hl hr hc).mono ?_
  rintro _ w' ⟨A', cap', rfl, hl', hx', hb⟩
  rw [e] at hl' hx' ⊢
  exact ⟨_, rfl, hb, A', cap', rfl, hl', hx'⟩
theorem ev_all_nil {w : World} :
    Calls Tryz.prog 39 #[.slice none 0 0] w fun e w' => ∃ u, e = .returned u ∧ Bel w w' ∧ EV eTrue u w' := by
  refine (xall_nil none 0 w).mono ?_
  rintro _ w' ⟨A', cap', rfl, hl', hx', hb⟩
  exact ⟨_, rfl, hb, A', cap', rfl, hl', hx'⟩
theorem put8_bel {w w1 : World} {u o : Nat} {x : XQ} (h : Below w.heap.size w w1) (hu : w.heap.size ≤ u) : Below w.heap.size w (put8 w1 u o x) :=
  ⟨(put8_os ..).trans h.os, (put8_tape ..).trans h.tape, (put8_output ..).trans h.output, by rw [put8_size]; exact h.size, fun k hk => (put8_other (by omega) _).trans (h.block k hk)⟩
set_option maxRecDepth 100000 in
set_option maxHeartbeats 8000000 in
theorem lives_yes (w : World) (hT : TbX w) : Calls Tryz.prog 8 #[] w fun e w' => e = .returned (.bool true) ∧ Below w.heap.size w w' := by
  have HT := Lib.hid hT
  clear hT
  go_enter Tryz.func8, Tryz.ntmps8
  go_wp2_with fail
  refine (ev_column).mono ?_
  rintro e w1 ⟨_, rfl, hb, rfl⟩
  have HB := Lib.hid hb
  clear hb
  go_wp2_with fail
  refine (refInt_any 1 _).mono ?_
  rintro e w2 ⟨rfl, hb⟩
  have HB2 := Lib.hid (bt HB.out hb)
  clear hb HB
  go_wp2_with fail
  refine (ev_lit).mono ?_
  rintro e w3 ⟨_, rfl, hb, rfl⟩
  have HB3 := Lib.hid (bt HB2.out hb)
  clear hb HB2
  go_upto_region 2 with fail
  obtain ⟨W1, hW1⟩ : ∃ W1, (w3.alloc (.cells #[.int .i64 2, .int .i64 0, .int .i64 0, .int .i64 0, .string ⟨#[]⟩, .string ⟨#[]⟩, .string ⟨#[97]⟩, .slice none 0 0] 26)).alloc (.cells #[.int .i64 1, .int .i64 0, .int .i64 2, .int .i64 1, .string ⟨#[]⟩, .string ⟨#[]⟩, .string ⟨#[]⟩, .slice none 0 0] 26) = W1 := ⟨_, rfl⟩
  have hba1 := ba w3 (.cells #[.int .i64 2, .int .i64 0, .int .i64 0, .int .i64 0, .string ⟨#[]⟩, .string ⟨#[]⟩, .string ⟨#[97]⟩, .slice none 0 0] 26)
  have hb1 := (MapKept.heap_alloc w3 (.cells #[.int .i64 2, .int .i64 0, .int .i64 0, .int .i64 0, .string ⟨#[]⟩, .string ⟨#[]⟩, .string ⟨#[97]⟩, .slice none 0 0] 26)).1
  obtain ⟨V1, hV1⟩ : ∃ V1, w3.alloc (.cells #[.int .i64 2, .int .i64 0, .int .i64 0, .int .i64 0, .string ⟨#[]⟩, .string ⟨#[]⟩, .string ⟨#[97]⟩, .slice none 0 0] 26) = V1 := ⟨_, rfl⟩
  have hsz : V1.heap.size = w3.heap.size + 1 := by rw [← hV1]; simp
  rw [hV1] at hba1 hb1 hW1
  have hba2 := ba V1 (.cells #[.int .i64 1, .int .i64 0, .int .i64 2, .int .i64 1, .string ⟨#[]⟩, .string ⟨#[]⟩, .string ⟨#[]⟩, .slice none 0 0] 26)
  have hb2 := (MapKept.heap_alloc V1 (.cells #[.int .i64 1, .int .i64 0, .int .i64 2, .int .i64 1, .string ⟨#[]⟩, .string ⟨#[]⟩, .string ⟨#[]⟩, .slice none 0 0] 26)).1
  rw [hV1, hW1]
  rw [hW1] at hba2 hb2
  have HX1 := Lib.hid ((hba2.block w3.heap.size (by omega)).trans hb1)
  rw [hsz] at hb2
  have HX2 := Lib.hid hb2
  have HU1 := Lib.hid (show w3.heap.size < W1.heap.size by have := hba2.size; omega)
  have HU2 := Lib.hid (show w3.heap.size + 1 < W1.heap.size by have := (Array.getElem?_eq_some_iff.1 hb2).1; omega)
  have HBW := Lib.hid (bt HB3.out (bt hba1 hba2))
  obtain ⟨u1, hu1⟩ : ∃ u, w3.heap.size = u := ⟨_, rfl⟩
  obtain ⟨u2, hu2⟩ : ∃ u, w3.heap.size + 1 = u := ⟨_, rfl⟩
  rw [hu2] at HX2 HU2
  rw [hu1] at HX1 HU1
  try rw [hu2]
  try rw [hu1]
  replace HX1 : Hid (W1.heap[u1]? = some (xbox (hdC ⟨#[]⟩ ⟨#[97]⟩) none 0 0)) := HX1
  replace HX2 : Hid (W1.heap[u2]? = some (xbox (hdL 2 1 ⟨#[]⟩) none 0 0)) := HX2
  clear hu1 hu2 hba1 hba2 hb1 hb2 hW1 hV1 hsz HB3
  refine wp_region_inv (n := 13) (ds := [some 7, some 8, some 9, some 10, some 11, some 12, some 13, some 14, some 15, some 16, some 17, some 18, some 3, none]) (need := [[], [], [0, 1], [2], [3], [3, 4], [4, 5], [], [7], [6, 8], [6, 9], [9, 10], []]) (R := Bel) (Gs := [
      (EV eA),
      (EV eOne),
      (LV [eA, eOne]),
      (EV eAdd),
      (EV eB),
      (LV [eAdd, eB]),
      (EV eLt),
      (EV eA),
      (LV [eA]),
      (EV eNull),
      (LV [eLt, eNull]),
      (EV eAnd),
      (fun v w => ∃ u, v = .pointer (some ⟨u, 0, none⟩) ∧ W1.heap.size ≤ u ∧ w.heap[u]? = some x0)])
    (by kernel_rfl) (by kernel_rfl) (by decide) (by kernel_rfl) (by kernel_rfl) (by kernel_rfl) (fun x => Below.refl _ x) (fun _ _ _ h k => bt h k) ?_ ?_
  · refine Each.cons rfl (EV.keeps _) (StepOk.plain (g := (EV eA)) rfl rfl rfl (fun a w hs hR hr pre => ?_)) ?_
    · have ep : a.eval (.tmp 1) = .pointer (some ⟨u1, 0, none⟩) := hr 1 (by decide)
      exact wp_pure (run_ldE rfl ep (XC.ofBox ((hR.block u1 HU1.out).trans HX1.out))) (EV.leaf _ _)
    refine Each.cons rfl (EV.keeps _) (StepOk.plain (g := (EV eOne)) rfl rfl rfl (fun a w hs hR hr pre => ?_)) ?_
    · have ep : a.eval (.tmp 2) = .pointer (some ⟨u2, 0, none⟩) := hr 2 (by decide)
      exact wp_pure (run_ldE rfl ep (XC.ofBox ((hR.block u2 HU2.out).trans HX2.out))) (EV.leaf _ _)
    refine Each.cons rfl (LV.keeps _) (StepOk.plain (g := (LV [eA, eOne])) rfl rfl rfl (fun a w hs hR hr pre => ?_)) ?_
    · have h7 : EV eA (a.eval (.tmp 7)) w := pre 0 (by decide)
      have h8 : EV eOne (a.eval (.tmp 8)) w := pre 1 (by decide)
      exact wp_bs2 rfl h7 h8
    refine Each.cons rfl (EV.keeps _) (StepOk.plain (g := (EV eAdd)) rfl rfl rfl (fun a w hs hR hr pre => ?_)) ?_
    · have h9 : LV [eA, eOne] (a.eval (.tmp 9)) w := pre 2 (by decide)
      exact wp_fn (vs := #[.int .i64 10, a.eval (.tmp 9)]) rfl Tryz.func22 (by kernel_rfl) (by kernel_rfl) (by simp only [List.map_toArray, List.map_cons, List.map_nil, eval_const]) (ev_op h9 (by simp [cntL, cnt]))
    refine Each.cons rfl (EV.keeps _) (StepOk.plain (g := (EV eB)) rfl rfl rfl (fun a w hs hR hr pre => ?_)) ?_
    · exact wp_fn (vs := #[.string ⟨#[116]⟩, .string ⟨#[98]⟩]) rfl Tryz.func20 (by kernel_rfl) (by kernel_rfl) (by simp only [List.map_toArray, List.map_cons, List.map_nil, eval_const]) ((ev_column).mono fun _ _ ⟨u, h1, h2, h3⟩ => ⟨u, h1, h2, by rw [h3]; exact EV.leaf _ _⟩)
    refine Each.cons rfl (LV.keeps _) (StepOk.plain (g := (LV [eAdd, eB])) rfl rfl rfl (fun a w hs hR hr pre => ?_)) ?_
    · have h10 : EV eAdd (a.eval (.tmp 10)) w := pre 3 (by decide)
      have h11 : EV eB (a.eval (.tmp 11)) w := pre 4 (by decide)
      exact wp_bs2 rfl h10 h11
    refine Each.cons rfl (EV.keeps _) (StepOk.plain (g := (EV eLt)) rfl rfl rfl (fun a w hs hR hr pre => ?_)) ?_
    · have h12 : LV [eAdd, eB] (a.eval (.tmp 12)) w := pre 5 (by decide)
      exact wp_fn (vs := #[.int .i64 6, a.eval (.tmp 12)]) rfl Tryz.func22 (by kernel_rfl) (by kernel_rfl) (by simp only [List.map_toArray, List.map_cons, List.map_nil, eval_const]) (ev_op h12 (by simp [cntL, cnt]))
    refine Each.cons rfl (EV.keeps _) (StepOk.plain (g := (EV eA)) rfl rfl rfl (fun a w hs hR hr pre => ?_)) ?_
    · have ep : a.eval (.tmp 1) = .pointer (some ⟨u1, 0, none⟩) := hr 1 (by decide)
      exact wp_pure (run_ldE rfl ep (XC.ofBox ((hR.block u1 HU1.out).trans HX1.out))) (EV.leaf _ _)
    refine Each.cons rfl (LV.keeps _) (StepOk.plain (g := (LV [eA])) rfl rfl rfl (fun a w hs hR hr pre => ?_)) ?_
    · have h14 : EV eA (a.eval (.tmp 14)) w := pre 7 (by decide)
      exact wp_bs1 rfl h14
    refine Each.cons rfl (EV.keeps _) (StepOk.plain (g := (EV eNull)) rfl rfl rfl (fun a w hs hR hr pre => ?_)) ?_
    · have h15 : LV [eA] (a.eval (.tmp 15)) w := pre 8 (by decide)
      exact wp_fn (vs := #[.int .i64 16, a.eval (.tmp 15)]) rfl Tryz.func22 (by kernel_rfl) (by kernel_rfl) (by simp only [List.map_toArray, List.map_cons, List.map_nil, eval_const]) (ev_op h15 (by simp [cntL, cnt]))
    refine Each.cons rfl (LV.keeps _) (StepOk.plain (g := (LV [eLt, eNull])) rfl rfl rfl (fun a w hs hR hr pre => ?_)) ?_
    · have h13 : EV eLt (a.eval (.tmp 13)) w := pre 6 (by decide)
      have h16 : EV eNull (a.eval (.tmp 16)) w := pre 9 (by decide)
      exact wp_bs2 rfl h13 h16
    refine Each.cons rfl (EV.keeps _) (StepOk.plain (g := (EV eAnd)) rfl rfl rfl (fun a w hs hR hr pre => ?_)) ?_
    · have h17 : LV [eLt, eNull] (a.eval (.tmp 17)) w := pre 10 (by decide)
      exact wp_fn (vs := #[.int .i64 2, a.eval (.tmp 17)]) rfl Tryz.func22 (by kernel_rfl) (by kernel_rfl) (by simp only [List.map_toArray, List.map_cons, List.map_nil, eval_const]) (ev_op h17 (by simp [cntL, cnt]))
    refine Each.cons rfl (fun _ _ _ hb ⟨u, h1, h2, h3⟩ => ⟨u, h1, h2, (hb.block u (Array.getElem?_eq_some_iff.1 h3).1).trans h3⟩) (StepOk.plain (g := (fun v w => ∃ u, v = .pointer (some ⟨u, 0, none⟩) ∧ W1.heap.size ≤ u ∧ w.heap[u]? = some x0)) rfl rfl rfl (fun a w hs hR hr pre => ?_)) ?_
    · exact wp_made (run_alloc8 rfl) ⟨_, rfl, hR.size, (MapKept.heap_alloc w x0).1⟩
    exact Each.nil
  · intro v w1 hB hG
    obtain ⟨u3, e3, hu3, hx3⟩ : ∃ u, v 12 = .pointer (some ⟨u, 0, none⟩) ∧ W1.heap.size ≤ u ∧ w1.heap[u]? = some x0 := hG 12 (by decide)
    obtain ⟨A3, cap3, e11, hl3, hx11⟩ : EV eAnd (v 11) w1 := hG 11 (by decide)
    clear hG
    simp only [Ex.hd, Ex.kids] at e11 hl3 hx11
    simp only [List.take_succ_cons, List.take_zero, puts, Act.put, List.setIfInBounds_toArray, List.set_cons_zero, List.set_cons_succ, Nat.reduceAdd, e3, e11]
    have hx11' := XsB.off hx3 _ _ (by kernel_rfl) hx11
    obtain ⟨⟨k0, k1, k2, k3, k4, k5, k6, k7⟩, _⟩ := cell8 hx3
    have hu13 : u1 ≠ u3 := by have := HU1.out; omega
    refine wpAny_last (by rfl) (by kernel_rfl) (by kernel_rfl) rfl rfl ?_
    refine wp_put8 (.tmp 3) (.tmp 18) rfl u3 0 (hdO 2, A3, 2, cap3) (by rfl) (by rfl) (fun i hi => ?_) (fun o => by simp only [World.frozen?, hx3]; rfl) ?_
    · rcases (show i = 0 ∨ i = 1 ∨ i = 2 ∨ i = 3 ∨ i = 4 ∨ i = 5 ∨ i = 6 ∨ i = 7 by omega) with rfl | rfl | rfl | rfl | rfl | rfl | rfl | rfl
      · exact ⟨_, k0⟩
      · exact ⟨_, k1⟩
      · exact ⟨_, k2⟩
      · exact ⟨_, k3⟩
      · exact ⟨_, k4⟩
      · exact ⟨_, k5⟩
      · exact ⟨_, k6⟩
      · exact ⟨_, k7⟩
    have HB4 := Lib.hid (put8_bel (o := 0) (x := (hdO 2, A3, 2, cap3)) (bt (Below.drew (Below.refl _ _)) hB) hu3)
    have HX3 := Lib.hid (show (put8 w1 u3 0 (hdO 2, A3, 2, cap3)).heap[u3]? = some (xbox (hdO 2) A3 2 cap3) by rw [put8_box (o := 0) hx3 (hdO 2, A3, 2, cap3)]; simp)
    have HX1' := Lib.hid ((put8_other (o := 0) hu13 (hdO 2, A3, 2, cap3)).trans ((hB.block u1 HU1.out).trans HX1.out))
    have HE3 := Lib.hid (show EV eAnd (XV (hdO 2) A3 2 cap3) (put8 w1 u3 0 (hdO 2, A3, 2, cap3)) from ⟨A3, cap3, rfl, hl3, XsB.go (fun k hk => put8_other hk.2 _) (fun k hk => by rw [put8_size]; exact hk.1) _ _ hx11'⟩)
    obtain ⟨F, hF⟩ : ∃ F, put8 w1 u3 0 (hdO 2, A3, 2, cap3) = F := ⟨_, rfl⟩
    rw [hF] at HB4 HX3 HX1' HE3 ⊢
    have HT3 := Lib.hid (HT.out.kept (bt HBW.out (bt HB4.out (Below.drew (Below.refl F.heap.size F)))))
    have HBF := Lib.hid (bt HBW.out HB4.out)
    have HU3 := Lib.hid ((Array.getElem?_eq_some_iff.1 HX3.out).1)
    have HU1' := Lib.hid ((Array.getElem?_eq_some_iff.1 HX1'.out).1)
    clear hF hx3 hu3 hB hx11 hx11' hl3 k0 k1 k2 k3 k4 k5 k6 k7 e3 e11 hu13 HX1 HX2 HU1 HU2 HB4
    simp only [Act.put]
    go_upto_region 3 with fail
    refine wp_region_inv (n := 70) (ds := [some 19, some 20, some 21, some 22, some 23, some 24, some 25, some 26, some 27, some 28, some 29, some 30, some 31, some 32, some 33, some 34, some 35, some 36, some 37, some 38, some 39, some 40, some 41, some 42, some 43, some 44, some 45, some 46, some 47, some 48, some 49, some 50, some 51, some 52, some 53, some 54, some 55, some 56, some 57, some 58, some 59, some 60, some 61, some 62, some 63, some 64, some 65, some 66, some 67, some 68, some 69, some 70, some 71, some 72, some 73, some 74, some 75, some 76, some 77, some 78, some 79, some 80, some 81, some 82, some 83, some 84, some 85, some 86, some 87, some 0]) (need := [[], [0], [1], [1, 2], [3], [3, 4], [3, 5], [3, 6], [5, 7], [8], [8, 9], [8, 10], [8, 11], [10, 12], [13], [13, 14], [13, 15], [13, 16], [15, 17], [18], [18, 19], [18, 20], [18, 21], [18, 22], [20, 23], [24], [24, 25], [24, 26], [24, 27], [26, 28], [29], [29, 30], [29, 31], [29, 32], [29, 33], [31, 34], [35], [35, 36], [35, 37], [35], [35, 38, 39], [35, 40], [40, 41], [42], [42, 43], [42, 44], [42, 45], [44, 46], [47], [47, 48], [47, 49], [47, 50], [47, 51], [47, 52], [47, 53], [51, 54], [55], [55, 56], [55, 57], [55, 58], [57, 59], [60], [60, 61], [60, 62], [61, 63], [64], [64, 65], [64, 66], [64, 67], [0, 1, 2, 3, 4, 5, 6, 7, 8, 9, 10, 11, 12, 13, 14, 15, 16, 17, 18, 19, 20, 21, 22, 23, 24, 25, 26, 27, 28, 29, 30, 31, 32, 33, 34, 35, 36, 37, 38, 39, 40, 41, 42, 43, 44, 45, 46, 47, 48, 49, 50, 51, 52, 53, 54, 55, 56, 57, 58, 59, 60, 61, 62, 63, 64, 65, 66, 67, 68]]) (R := Bel) (Gs := [
        (EV eAnd),
        (fun v _ => v = .int .i64 0),
        (fun v _ => v = .bool true),
        (fun v _ => v = .bool true),
        (EV eAnd),
        (fun v _ => v = .int .i64 8),
        (fun v _ => v = .bool true),
        (fun v _ => v = .bool true),
        (fun v _ => v = .bool true),
        (EV eAnd),
        (fun v _ => v = .int .i64 4),
        (fun v _ => v = .bool true),
        (fun v _ => v = .bool true),
        (fun v _ => v = .bool true),
        (EV eAnd),
        (fun v _ => v = .string (bstr txtAnd)),
        (fun v _ => v = .bool true),
        (fun v _ => v = .bool true),
        (fun v _ => v = .bool true),
        (EV eAnd),
        (LV (if okX eAnd = true then kndX 2 eAnd else [])),
        (fun v _ => v = .int .i64 3),
        (fun v _ => v = .bool true),
        (fun v _ => v = .bool true),
        (fun v _ => v = .bool true),
        (EV eAnd),
        (fun v _ => v = .bool false),
        (fun v _ => v = .bool true),
        (fun v _ => v = .bool true),
        (fun v _ => v = .bool true),
        (EV eAnd),
        (LV (if okX eAnd = true then prtX eAnd else [])),
        (fun v _ => v = .int .i64 2),
        (fun v _ => v = .bool true),
        (fun v _ => v = .bool true),
        (fun v _ => v = .bool true),
        (EV eAnd),
        (LV (if okX eAnd = true then prtX eAnd else [])),
        (EV eAnd),
        (EV eAnd),
        (fun v _ => v = .bool true),
        (fun v _ => v = .bool true),
        (fun v _ => v = .bool true),
        (EV eRows),
        (fun v _ => v = .string (bstr [67, 79, 85, 78, 84, 40, 42, 41])),
        (fun v _ => v = .bool true),
        (fun v _ => v = .bool true),
        (fun v _ => v = .bool true),
        (EV eA),
        (LV [eA]),
        (EV eSum),
        (LV (if okX eSum = true then kndX 4 eSum else [])),
        (fun v _ => v = .int .i64 1),
        (fun v _ => v = .bool true),
        (fun v _ => v = .bool true),
        (fun v _ => v = .bool true),
        (EV eZero),
        (fun v _ => v = .int .i64 100),
        (fun v _ => v = .bool true),
        (fun v _ => v = .bool true),
        (fun v _ => v = .bool true),
        (fun v _ => v = .int .i64 1),
        (fun v _ => v = .bool true),
        (fun v _ => v = .bool true),
        (fun v _ => v = .bool true),
        (EV eTrue),
        (fun v _ => v = .string (bstr [84, 82, 85, 69])),
        (fun v _ => v = .bool true),
        (fun v _ => v = .bool true),
        (fun v _ => v = .bool true)])
      (by kernel_rfl) (by kernel_rfl) (by decide) (by kernel_rfl) (by kernel_rfl) (by kernel_rfl) (fun x => Below.refl _ x) (fun _ _ _ h k => bt h k) ?_ ?_
    · refine Each.cons rfl (EV.keeps _) (StepOk.plain (g := (EV eAnd)) rfl rfl rfl (fun a w hs hR hr pre => ?_)) ?_
      · have ep : a.eval (.tmp 3) = .pointer (some ⟨u3, 0, none⟩) := hr 3 (by decide)
        exact wp_pure (run_ldE rfl ep (XC.ofBox ((hR.block u3 HU3.out).trans HX3.out))) (EV.next (bt (Below.drew (Below.refl _ _)) hR) HE3.out)
      refine Each.cons rfl (Keeps.const _) (StepOk.plain (g := (fun v _ => v = .int .i64 0)) rfl rfl rfl (fun a w hs hR hr pre => ?_)) ?_
      · have h19 : EV eAnd (a.eval (.tmp 19)) w := pre 0 (by decide)
        exact wp_fn (vs := #[a.eval (.tmp 19)]) rfl Tryz.func10 (by kernel_rfl) (by kernel_rfl) (by simp only [List.map_toArray, List.map_cons, List.map_nil]) (ev_check h19 sm_all.1 (by decide) (HT3.out.kept hR).t chk_and)
      refine Each.cons rfl (Keeps.const _) (StepOk.plain (g := (fun v _ => v = .bool true)) rfl rfl rfl (fun a w hs hR hr pre => ?_)) ?_
      · have e20 : a.eval (.tmp 20) = .int .i64 0 := pre 1 (by decide)
        exact wp_pure (run_eqI rfl e20 rfl) (by rfl)
      refine Each.cons rfl (Keeps.const _) (StepOk.plain (g := (fun v _ => v = .bool true)) rfl rfl rfl (fun a w hs hR hr pre => ?_)) ?_
      · have e21 : a.eval (.tmp 21) = .bool true := pre 2 (by decide)
        exact wp_pure (run_move rfl) e21
      refine Each.cons rfl (EV.keeps _) (StepOk.guarded 3 22 true (g := (EV eAnd)) rfl rfl rfl rfl (fun a w hs hR hr pre => ⟨pre 3 (by decide), ?_⟩)) ?_
      · have ep : a.eval (.tmp 3) = .pointer (some ⟨u3, 0, none⟩) := hr 3 (by decide)
        exact wp_pure (run_ldE rfl ep (XC.ofBox ((hR.block u3 HU3.out).trans HX3.out))) (EV.next (bt (Below.drew (Below.refl _ _)) hR) HE3.out)
      refine Each.cons rfl (Keeps.const _) (StepOk.guarded 3 22 true (g := (fun v _ => v = .int .i64 8)) rfl rfl rfl rfl (fun a w hs hR hr pre => ⟨pre 3 (by decide), ?_⟩)) ?_
      · have h23 : EV eAnd (a.eval (.tmp 23)) w := pre 4 (by decide)
        exact wp_fn (vs := #[a.eval (.tmp 23)]) rfl Tryz.func11 (by kernel_rfl) (by kernel_rfl) (by simp only [List.map_toArray, List.map_cons, List.map_nil]) (ev_size h23 sm_all.1 (by decide) (HT3.out.kept hR).t siz_and)
      refine Each.cons rfl (Keeps.const _) (StepOk.guarded 3 22 true (g := (fun v _ => v = .bool true)) rfl rfl rfl rfl (fun a w hs hR hr pre => ⟨pre 3 (by decide), ?_⟩)) ?_
      · have e24 : a.eval (.tmp 24) = .int .i64 8 := pre 5 (by decide)
        exact wp_pure (run_eqI rfl e24 rfl) (by rfl)
      refine Each.cons rfl (Keeps.const _) (StepOk.plain (g := (fun v _ => v = .bool true)) rfl rfl rfl (fun a w hs hR hr pre => ?_)) ?_
      · have e22 : a.eval (.tmp 22) = .bool true := pre 3 (by decide)
        have e25 : a.eval (.tmp 25) = .bool true := pre 6 (by decide)
        exact wp_pure (run_pick rfl true e22) (by simpa using e25)
      refine Each.cons rfl (Keeps.const _) (StepOk.plain (g := (fun v _ => v = .bool true)) rfl rfl rfl (fun a w hs hR hr pre => ?_)) ?_
      · have e26 : a.eval (.tmp 26) = .bool true := pre 7 (by decide)
        exact wp_pure (run_move rfl) e26
      refine Each.cons rfl (EV.keeps _) (StepOk.guarded 8 27 true (g := (EV eAnd)) rfl rfl rfl rfl (fun a w hs hR hr pre => ⟨pre 8 (by decide), ?_⟩)) ?_
      · have ep : a.eval (.tmp 3) = .pointer (some ⟨u3, 0, none⟩) := hr 3 (by decide)
        exact wp_pure (run_ldE rfl ep (XC.ofBox ((hR.block u3 HU3.out).trans HX3.out))) (EV.next (bt (Below.drew (Below.refl _ _)) hR) HE3.out)
      refine Each.cons rfl (Keeps.const _) (StepOk.guarded 8 27 true (g := (fun v _ => v = .int .i64 4)) rfl rfl rfl rfl (fun a w hs hR hr pre => ⟨pre 8 (by decide), ?_⟩)) ?_
      · have h28 : EV eAnd (a.eval (.tmp 28)) w := pre 9 (by decide)
        exact wp_fn (vs := #[a.eval (.tmp 28)]) rfl Tryz.func12 (by kernel_rfl) (by kernel_rfl) (by simp only [List.map_toArray, List.map_cons, List.map_nil]) (ev_depth h28 sm_all.1 (by decide) (HT3.out.kept hR).t dep_and)
      refine Each.cons rfl (Keeps.const _) (StepOk.guarded 8 27 true (g := (fun v _ => v = .bool true)) rfl rfl rfl rfl (fun a w hs hR hr pre => ⟨pre 8 (by decide), ?_⟩)) ?_
      · have e29 : a.eval (.tmp 29) = .int .i64 4 := pre 10 (by decide)
        exact wp_pure (run_eqI rfl e29 rfl) (by rfl)
      refine Each.cons rfl (Keeps.const _) (StepOk.plain (g := (fun v _ => v = .bool true)) rfl rfl rfl (fun a w hs hR hr pre => ?_)) ?_
      · have e27 : a.eval (.tmp 27) = .bool true := pre 8 (by decide)
        have e30 : a.eval (.tmp 30) = .bool true := pre 11 (by decide)
        exact wp_pure (run_pick rfl true e27) (by simpa using e30)
      refine Each.cons rfl (Keeps.const _) (StepOk.plain (g := (fun v _ => v = .bool true)) rfl rfl rfl (fun a w hs hR hr pre => ?_)) ?_
      · have e31 : a.eval (.tmp 31) = .bool true := pre 12 (by decide)
        exact wp_pure (run_move rfl) e31
      refine Each.cons rfl (EV.keeps _) (StepOk.guarded 13 32 true (g := (EV eAnd)) rfl rfl rfl rfl (fun a w hs hR hr pre => ⟨pre 13 (by decide), ?_⟩)) ?_
      · have ep : a.eval (.tmp 3) = .pointer (some ⟨u3, 0, none⟩) := hr 3 (by decide)
        exact wp_pure (run_ldE rfl ep (XC.ofBox ((hR.block u3 HU3.out).trans HX3.out))) (EV.next (bt (Below.drew (Below.refl _ _)) hR) HE3.out)
      refine Each.cons rfl (Keeps.const _) (StepOk.guarded 13 32 true (g := (fun v _ => v = .string (bstr txtAnd))) rfl rfl rfl rfl (fun a w hs hR hr pre => ⟨pre 13 (by decide), ?_⟩)) ?_
      · have h33 : EV eAnd (a.eval (.tmp 33)) w := pre 14 (by decide)
        exact wp_fn (vs := #[a.eval (.tmp 33)]) rfl Tryz.func13 (by kernel_rfl) (by kernel_rfl) (by simp only [List.map_toArray, List.map_cons, List.map_nil]) (ev_show h33 sm_all.1 (by decide) (HT3.out.kept hR) sho_and)
      refine Each.cons rfl (Keeps.const _) (StepOk.guarded 13 32 true (g := (fun v _ => v = .bool true)) rfl rfl rfl rfl (fun a w hs hR hr pre => ⟨pre 13 (by decide), ?_⟩)) ?_
      · have e34 : a.eval (.tmp 34) = .string (bstr txtAnd) := pre 15 (by decide)
        exact wp_pure (run_eqS rfl e34 rfl) (congrArg Value.bool (by decide +kernel))
      refine Each.cons rfl (Keeps.const _) (StepOk.plain (g := (fun v _ => v = .bool true)) rfl rfl rfl (fun a w hs hR hr pre => ?_)) ?_
      · have e32 : a.eval (.tmp 32) = .bool true := pre 13 (by decide)
        have e35 : a.eval (.tmp 35) = .bool true := pre 16 (by decide)
        exact wp_pure (run_pick rfl true e32) (by simpa using e35)
      refine Each.cons rfl (Keeps.const _) (StepOk.plain (g := (fun v _ => v = .bool true)) rfl rfl rfl (fun a w hs hR hr pre => ?_)) ?_
      · have e36 : a.eval (.tmp 36) = .bool true := pre 17 (by decide)
        exact wp_pure (run_move rfl) e36
      refine Each.cons rfl (EV.keeps _) (StepOk.guarded 18 37 true (g := (EV eAnd)) rfl rfl rfl rfl (fun a w hs hR hr pre => ⟨pre 18 (by decide), ?_⟩)) ?_
      · have ep : a.eval (.tmp 3) = .pointer (some ⟨u3, 0, none⟩) := hr 3 (by decide)
        exact wp_pure (run_ldE rfl ep (XC.ofBox ((hR.block u3 HU3.out).trans HX3.out))) (EV.next (bt (Below.drew (Below.refl _ _)) hR) HE3.out)
      refine Each.cons rfl (LV.keeps _) (StepOk.guarded 18 37 true (g := (LV (if okX eAnd = true then kndX 2 eAnd else []))) rfl rfl rfl rfl (fun a w hs hR hr pre => ⟨pre 18 (by decide), ?_⟩)) ?_
      · have h38 : EV eAnd (a.eval (.tmp 38)) w := pre 19 (by decide)
        exact wp_fn (vs := #[a.eval (.tmp 38)]) rfl Tryz.func28 (by kernel_rfl) (by kernel_rfl) (by simp only [List.map_toArray, List.map_cons, List.map_nil]) (ev_columns h38 sm_all.1 (by decide) (HT3.out.kept hR).t)
      refine Each.cons rfl (Keeps.const _) (StepOk.guarded 18 37 true (g := (fun v _ => v = .int .i64 3)) rfl rfl rfl rfl (fun a w hs hR hr pre => ⟨pre 18 (by decide), ?_⟩)) ?_
      · obtain ⟨A, c, e39, _, _⟩ : LV (if okX eAnd = true then kndX 2 eAnd else []) (a.eval (.tmp 39)) w := pre 20 (by decide)
        exact wp_pure (run_len rfl Tryz.underlying24 e39) (by rw [len_cols]; rfl)
      refine Each.cons rfl (Keeps.const _) (StepOk.guarded 18 37 true (g := (fun v _ => v = .bool true)) rfl rfl rfl rfl (fun a w hs hR hr pre => ⟨pre 18 (by decide), ?_⟩)) ?_
      · have e40 : a.eval (.tmp 40) = .int .i64 3 := pre 21 (by decide)
        exact wp_pure (run_eqI rfl e40 rfl) (by rfl)
      refine Each.cons rfl (Keeps.const _) (StepOk.plain (g := (fun v _ => v = .bool true)) rfl rfl rfl (fun a w hs hR hr pre => ?_)) ?_
      · have e37 : a.eval (.tmp 37) = .bool true := pre 18 (by decide)
        have e41 : a.eval (.tmp 41) = .bool true := pre 22 (by decide)
        exact wp_pure (run_pick rfl true e37) (by simpa using e41)
      refine Each.cons rfl (Keeps.const _) (StepOk.plain (g := (fun v _ => v = .bool true)) rfl rfl rfl (fun a w hs hR hr pre => ?_)) ?_
      · have e42 : a.eval (.tmp 42) = .bool true := pre 23 (by decide)
        exact wp_pure (run_move rfl) e42
      refine Each.cons rfl (EV.keeps _) (StepOk.guarded 24 43 true (g := (EV eAnd)) rfl rfl rfl rfl (fun a w hs hR hr pre => ⟨pre 24 (by decide), ?_⟩)) ?_
      · have ep : a.eval (.tmp 3) = .pointer (some ⟨u3, 0, none⟩) := hr 3 (by decide)
        exact wp_pure (run_ldE rfl ep (XC.ofBox ((hR.block u3 HU3.out).trans HX3.out))) (EV.next (bt (Below.drew (Below.refl _ _)) hR) HE3.out)
      refine Each.cons rfl (Keeps.const _) (StepOk.guarded 24 43 true (g := (fun v _ => v = .bool false)) rfl rfl rfl rfl (fun a w hs hR hr pre => ⟨pre 24 (by decide), ?_⟩)) ?_
      · have h44 : EV eAnd (a.eval (.tmp 44)) w := pre 25 (by decide)
        exact wp_fn (vs := #[a.eval (.tmp 44)]) rfl Tryz.func31 (by kernel_rfl) (by kernel_rfl) (by simp only [List.map_toArray, List.map_cons, List.map_nil]) (ev_safe h44 sm_all.1 (by decide) (HT3.out.kept hR).t safe_and)
      refine Each.cons rfl (Keeps.const _) (StepOk.guarded 24 43 true (g := (fun v _ => v = .bool true)) rfl rfl rfl rfl (fun a w hs hR hr pre => ⟨pre 24 (by decide), ?_⟩)) ?_
      · have e45 : a.eval (.tmp 45) = .bool false := pre 26 (by decide)
        exact wp_pure (run_not rfl e45) rfl
      refine Each.cons rfl (Keeps.const _) (StepOk.plain (g := (fun v _ => v = .bool true)) rfl rfl rfl (fun a w hs hR hr pre => ?_)) ?_
      · have e43 : a.eval (.tmp 43) = .bool true := pre 24 (by decide)
        have e46 : a.eval (.tmp 46) = .bool true := pre 27 (by decide)
        exact wp_pure (run_pick rfl true e43) (by simpa using e46)
      refine Each.cons rfl (Keeps.const _) (StepOk.plain (g := (fun v _ => v = .bool true)) rfl rfl rfl (fun a w hs hR hr pre => ?_)) ?_
      · have e47 : a.eval (.tmp 47) = .bool true := pre 28 (by decide)
        exact wp_pure (run_move rfl) e47
      refine Each.cons rfl (EV.keeps _) (StepOk.guarded 29 48 true (g := (EV eAnd)) rfl rfl rfl rfl (fun a w hs hR hr pre => ⟨pre 29 (by decide), ?_⟩)) ?_
      · have ep : a.eval (.tmp 3) = .pointer (some ⟨u3, 0, none⟩) := hr 3 (by decide)
        exact wp_pure (run_ldE rfl ep (XC.ofBox ((hR.block u3 HU3.out).trans HX3.out))) (EV.next (bt (Below.drew (Below.refl _ _)) hR) HE3.out)
      refine Each.cons rfl (LV.keeps _) (StepOk.guarded 29 48 true (g := (LV (if okX eAnd = true then prtX eAnd else []))) rfl rfl rfl rfl (fun a w hs hR hr pre => ⟨pre 29 (by decide), ?_⟩)) ?_
      · have h49 : EV eAnd (a.eval (.tmp 49)) w := pre 30 (by decide)
        exact wp_fn (vs := #[a.eval (.tmp 49)]) rfl Tryz.func30 (by kernel_rfl) (by kernel_rfl) (by simp only [List.map_toArray, List.map_cons, List.map_nil]) (ev_parts h49 sm_all.1 (by decide) (HT3.out.kept hR).t)
      refine Each.cons rfl (Keeps.const _) (StepOk.guarded 29 48 true (g := (fun v _ => v = .int .i64 2)) rfl rfl rfl rfl (fun a w hs hR hr pre => ⟨pre 29 (by decide), ?_⟩)) ?_
      · obtain ⟨A, c, e50, _, _⟩ : LV (if okX eAnd = true then prtX eAnd else []) (a.eval (.tmp 50)) w := pre 31 (by decide)
        exact wp_pure (run_len rfl Tryz.underlying24 e50) (by rw [prt_and]; rfl)
      refine Each.cons rfl (Keeps.const _) (StepOk.guarded 29 48 true (g := (fun v _ => v = .bool true)) rfl rfl rfl rfl (fun a w hs hR hr pre => ⟨pre 29 (by decide), ?_⟩)) ?_
      · have e51 : a.eval (.tmp 51) = .int .i64 2 := pre 32 (by decide)
        exact wp_pure (run_eqI rfl e51 rfl) (by rfl)
      refine Each.cons rfl (Keeps.const _) (StepOk.plain (g := (fun v _ => v = .bool true)) rfl rfl rfl (fun a w hs hR hr pre => ?_)) ?_
      · have e48 : a.eval (.tmp 48) = .bool true := pre 29 (by decide)
        have e52 : a.eval (.tmp 52) = .bool true := pre 33 (by decide)
        exact wp_pure (run_pick rfl true e48) (by simpa using e52)
      refine Each.cons rfl (Keeps.const _) (StepOk.plain (g := (fun v _ => v = .bool true)) rfl rfl rfl (fun a w hs hR hr pre => ?_)) ?_
      · have e53 : a.eval (.tmp 53) = .bool true := pre 34 (by decide)
        exact wp_pure (run_move rfl) e53
      refine Each.cons rfl (EV.keeps _) (StepOk.guarded 35 54 true (g := (EV eAnd)) rfl rfl rfl rfl (fun a w hs hR hr pre => ⟨pre 35 (by decide), ?_⟩)) ?_
      · have ep : a.eval (.tmp 3) = .pointer (some ⟨u3, 0, none⟩) := hr 3 (by decide)
        exact wp_pure (run_ldE rfl ep (XC.ofBox ((hR.block u3 HU3.out).trans HX3.out))) (EV.next (bt (Below.drew (Below.refl _ _)) hR) HE3.out)
      refine Each.cons rfl (LV.keeps _) (StepOk.guarded 35 54 true (g := (LV (if okX eAnd = true then prtX eAnd else []))) rfl rfl rfl rfl (fun a w hs hR hr pre => ⟨pre 35 (by decide), ?_⟩)) ?_
      · have h55 : EV eAnd (a.eval (.tmp 55)) w := pre 36 (by decide)
        exact wp_fn (vs := #[a.eval (.tmp 55)]) rfl Tryz.func30 (by kernel_rfl) (by kernel_rfl) (by simp only [List.map_toArray, List.map_cons, List.map_nil]) (ev_parts h55 sm_all.1 (by decide) (HT3.out.kept hR).t)
      refine Each.cons rfl (EV.keeps _) (StepOk.guarded 35 54 true (g := (EV eAnd)) rfl rfl rfl rfl (fun a w hs hR hr pre => ⟨pre 35 (by decide), ?_⟩)) ?_
      · have h56 : LV (if okX eAnd = true then prtX eAnd else []) (a.eval (.tmp 56)) w := pre 37 (by decide)
        exact wp_fn (vs := #[a.eval (.tmp 56)]) rfl Tryz.func39 (by kernel_rfl) (by kernel_rfl) (by simp only [List.map_toArray, List.map_cons, List.map_nil]) (ev_all (by rw [← prt_and]; exact h56) (by decide) (by decide) all_prt)
      refine Each.cons rfl (EV.keeps _) (StepOk.guarded 35 54 true (g := (EV eAnd)) rfl rfl rfl rfl (fun a w hs hR hr pre => ⟨pre 35 (by decide), ?_⟩)) ?_
      · have ep : a.eval (.tmp 3) = .pointer (some ⟨u3, 0, none⟩) := hr 3 (by decide)
        exact wp_pure (run_ldE rfl ep (XC.ofBox ((hR.block u3 HU3.out).trans HX3.out))) (EV.next (bt (Below.drew (Below.refl _ _)) hR) HE3.out)
      refine Each.cons rfl (Keeps.const _) (StepOk.guarded 35 54 true (g := (fun v _ => v = .bool true)) rfl rfl rfl rfl (fun a w hs hR hr pre => ⟨pre 35 (by decide), ?_⟩)) ?_
      · have h57 : EV eAnd (a.eval (.tmp 57)) w := pre 38 (by decide)
        have h58 : EV eAnd (a.eval (.tmp 58)) w := pre 39 (by decide)
        exact wp_fn (vs := #[a.eval (.tmp 57), a.eval (.tmp 58)]) rfl Tryz.func25 (by kernel_rfl) (by kernel_rfl) (by simp only [List.map_toArray, List.map_cons, List.map_nil]) (ev_same h57 h58 (by decide) (by decide) same_and)
      refine Each.cons rfl (Keeps.const _) (StepOk.plain (g := (fun v _ => v = .bool true)) rfl rfl rfl (fun a w hs hR hr pre => ?_)) ?_
      · have e54 : a.eval (.tmp 54) = .bool true := pre 35 (by decide)
        have e59 : a.eval (.tmp 59) = .bool true := pre 40 (by decide)
        exact wp_pure (run_pick rfl true e54) (by simpa using e59)
      refine Each.cons rfl (Keeps.const _) (StepOk.plain (g := (fun v _ => v = .bool true)) rfl rfl rfl (fun a w hs hR hr pre => ?_)) ?_
      · have e60 : a.eval (.tmp 60) = .bool true := pre 41 (by decide)
        exact wp_pure (run_move rfl) e60
      refine Each.cons rfl (EV.keeps _) (StepOk.guarded 42 61 true (g := (EV eRows)) rfl rfl rfl rfl (fun a w hs hR hr pre => ⟨pre 42 (by decide), ?_⟩)) ?_
      · exact wp_fn (vs := #[.int .i64 1, .slice none 0 0]) rfl Tryz.func24 (by kernel_rfl) (by kernel_rfl) (by simp only [List.map_toArray, List.map_cons, List.map_nil, eval_const]) (ev_agg (LV.nil _) (by decide))
      refine Each.cons rfl (Keeps.const _) (StepOk.guarded 42 61 true (g := (fun v _ => v = .string (bstr [67, 79, 85, 78, 84, 40, 42, 41]))) rfl rfl rfl rfl (fun a w hs hR hr pre => ⟨pre 42 (by decide), ?_⟩)) ?_
      · have h62 : EV eRows (a.eval (.tmp 62)) w := pre 43 (by decide)
        exact wp_fn (vs := #[a.eval (.tmp 62)]) rfl Tryz.func13 (by kernel_rfl) (by kernel_rfl) (by simp only [List.map_toArray, List.map_cons, List.map_nil]) (ev_show h62 sm_all.2.1 (by decide) (HT3.out.kept hR) sho_rows)
      refine Each.cons rfl (Keeps.const _) (StepOk.guarded 42 61 true (g := (fun v _ => v = .bool true)) rfl rfl rfl rfl (fun a w hs hR hr pre => ⟨pre 42 (by decide), ?_⟩)) ?_
      · have e63 : a.eval (.tmp 63) = .string (bstr [67, 79, 85, 78, 84, 40, 42, 41]) := pre 44 (by decide)
        exact wp_pure (run_eqS rfl e63 rfl) (congrArg Value.bool (by decide +kernel))
      refine Each.cons rfl (Keeps.const _) (StepOk.plain (g := (fun v _ => v = .bool true)) rfl rfl rfl (fun a w hs hR hr pre => ?_)) ?_
      · have e61 : a.eval (.tmp 61) = .bool true := pre 42 (by decide)
        have e64 : a.eval (.tmp 64) = .bool true := pre 45 (by decide)
        exact wp_pure (run_pick rfl true e61) (by simpa using e64)
      refine Each.cons rfl (Keeps.const _) (StepOk.plain (g := (fun v _ => v = .bool true)) rfl rfl rfl (fun a w hs hR hr pre => ?_)) ?_
      · have e65 : a.eval (.tmp 65) = .bool true := pre 46 (by decide)
        exact wp_pure (run_move rfl) e65
      refine Each.cons rfl (EV.keeps _) (StepOk.guarded 47 66 true (g := (EV eA)) rfl rfl rfl rfl (fun a w hs hR hr pre => ⟨pre 47 (by decide), ?_⟩)) ?_
      · have ep : a.eval (.tmp 1) = .pointer (some ⟨u1, 0, none⟩) := hr 1 (by decide)
        exact wp_pure (run_ldE rfl ep (XC.ofBox ((hR.block u1 HU1'.out).trans HX1'.out))) (EV.leaf _ _)
      refine Each.cons rfl (LV.keeps _) (StepOk.guarded 47 66 true (g := (LV [eA])) rfl rfl rfl rfl (fun a w hs hR hr pre => ⟨pre 47 (by decide), ?_⟩)) ?_
      · have h67 : EV eA (a.eval (.tmp 67)) w := pre 48 (by decide)
        exact wp_bs1 rfl h67
      refine Each.cons rfl (EV.keeps _) (StepOk.guarded 47 66 true (g := (EV eSum)) rfl rfl rfl rfl (fun a w hs hR hr pre => ⟨pre 47 (by decide), ?_⟩)) ?_
      · have h68 : LV [eA] (a.eval (.tmp 68)) w := pre 49 (by decide)
        exact wp_fn (vs := #[.int .i64 3, a.eval (.tmp 68)]) rfl Tryz.func24 (by kernel_rfl) (by kernel_rfl) (by simp only [List.map_toArray, List.map_cons, List.map_nil, eval_const]) (ev_agg h68 (by decide))
      refine Each.cons rfl (LV.keeps _) (StepOk.guarded 47 66 true (g := (LV (if okX eSum = true then kndX 4 eSum else []))) rfl rfl rfl rfl (fun a w hs hR hr pre => ⟨pre 47 (by decide), ?_⟩)) ?_
      · have h69 : EV eSum (a.eval (.tmp 69)) w := pre 50 (by decide)
        exact wp_fn (vs := #[a.eval (.tmp 69)]) rfl Tryz.func29 (by kernel_rfl) (by kernel_rfl) (by simp only [List.map_toArray, List.map_cons, List.map_nil]) (ev_aggs h69 sm_all.2.2.1 (by decide) (HT3.out.kept hR).t)
      refine Each.cons rfl (Keeps.const _) (StepOk.guarded 47 66 true (g := (fun v _ => v = .int .i64 1)) rfl rfl rfl rfl (fun a w hs hR hr pre => ⟨pre 47 (by decide), ?_⟩)) ?_
      · obtain ⟨A, c, e70, _, _⟩ : LV (if okX eSum = true then kndX 4 eSum else []) (a.eval (.tmp 70)) w := pre 51 (by decide)
        exact wp_pure (run_len rfl Tryz.underlying24 e70) (by rw [len_aggs]; rfl)
      refine Each.cons rfl (Keeps.const _) (StepOk.guarded 47 66 true (g := (fun v _ => v = .bool true)) rfl rfl rfl rfl (fun a w hs hR hr pre => ⟨pre 47 (by decide), ?_⟩)) ?_
      · have e71 : a.eval (.tmp 71) = .int .i64 1 := pre 52 (by decide)
        exact wp_pure (run_eqI rfl e71 rfl) (by rfl)
      refine Each.cons rfl (Keeps.const _) (StepOk.plain (g := (fun v _ => v = .bool true)) rfl rfl rfl (fun a w hs hR hr pre => ?_)) ?_
      · have e66 : a.eval (.tmp 66) = .bool true := pre 47 (by decide)
        have e72 : a.eval (.tmp 72) = .bool true := pre 53 (by decide)
        exact wp_pure (run_pick rfl true e66) (by simpa using e72)
      refine Each.cons rfl (Keeps.const _) (StepOk.plain (g := (fun v _ => v = .bool true)) rfl rfl rfl (fun a w hs hR hr pre => ?_)) ?_
      · have e73 : a.eval (.tmp 73) = .bool true := pre 54 (by decide)
        exact wp_pure (run_move rfl) e73
      refine Each.cons rfl (EV.keeps _) (StepOk.guarded 55 74 true (g := (EV eZero)) rfl rfl rfl rfl (fun a w hs hR hr pre => ⟨pre 55 (by decide), ?_⟩)) ?_
      · exact wp_pure (run_zeroE rfl) (EV.leaf _ _)
      refine Each.cons rfl (Keeps.const _) (StepOk.guarded 55 74 true (g := (fun v _ => v = .int .i64 100)) rfl rfl rfl rfl (fun a w hs hR hr pre => ⟨pre 55 (by decide), ?_⟩)) ?_
      · have h75 : EV eZero (a.eval (.tmp 75)) w := pre 56 (by decide)
        exact wp_fn (vs := #[a.eval (.tmp 75)]) rfl Tryz.func10 (by kernel_rfl) (by kernel_rfl) (by simp only [List.map_toArray, List.map_cons, List.map_nil]) (ev_check h75 sm_all.2.2.2.1 (by decide) (HT3.out.kept hR).t chk_zero)
      refine Each.cons rfl (Keeps.const _) (StepOk.guarded 55 74 true (g := (fun v _ => v = .bool true)) rfl rfl rfl rfl (fun a w hs hR hr pre => ⟨pre 55 (by decide), ?_⟩)) ?_
      · have e76 : a.eval (.tmp 76) = .int .i64 100 := pre 57 (by decide)
        exact wp_pure (run_eqI rfl e76 rfl) (by rfl)
      refine Each.cons rfl (Keeps.const _) (StepOk.plain (g := (fun v _ => v = .bool true)) rfl rfl rfl (fun a w hs hR hr pre => ?_)) ?_
      · have e74 : a.eval (.tmp 74) = .bool true := pre 55 (by decide)
        have e77 : a.eval (.tmp 77) = .bool true := pre 58 (by decide)
        exact wp_pure (run_pick rfl true e74) (by simpa using e77)
      refine Each.cons rfl (Keeps.const _) (StepOk.plain (g := (fun v _ => v = .bool true)) rfl rfl rfl (fun a w hs hR hr pre => ?_)) ?_
      · have e78 : a.eval (.tmp 78) = .bool true := pre 59 (by decide)
        exact wp_pure (run_move rfl) e78
      refine Each.cons rfl (Keeps.const _) (StepOk.guarded 60 79 true (g := (fun v _ => v = .int .i64 1)) rfl rfl rfl rfl (fun a w hs hR hr pre => ⟨pre 60 (by decide), ?_⟩)) ?_
      · exact wp_fn (vs := #[.int .i64 15]) rfl Tryz.func26 (by kernel_rfl) (by kernel_rfl) (by simp only [List.map_toArray, List.map_cons, List.map_nil, eval_const]) (ev_arity (by decide))
      refine Each.cons rfl (Keeps.const _) (StepOk.guarded 60 79 true (g := (fun v _ => v = .bool true)) rfl rfl rfl rfl (fun a w hs hR hr pre => ⟨pre 60 (by decide), ?_⟩)) ?_
      · have e80 : a.eval (.tmp 80) = .int .i64 1 := pre 61 (by decide)
        exact wp_pure (run_eqI rfl e80 rfl) (by rfl)
      refine Each.cons rfl (Keeps.const _) (StepOk.plain (g := (fun v _ => v = .bool true)) rfl rfl rfl (fun a w hs hR hr pre => ?_)) ?_
      · have e79 : a.eval (.tmp 79) = .bool true := pre 60 (by decide)
        have e81 : a.eval (.tmp 81) = .bool true := pre 62 (by decide)
        exact wp_pure (run_pick rfl true e79) (by simpa using e81)
      refine Each.cons rfl (Keeps.const _) (StepOk.plain (g := (fun v _ => v = .bool true)) rfl rfl rfl (fun a w hs hR hr pre => ?_)) ?_
      · have e82 : a.eval (.tmp 82) = .bool true := pre 63 (by decide)
        exact wp_pure (run_move rfl) e82
      refine Each.cons rfl (EV.keeps _) (StepOk.guarded 64 83 true (g := (EV eTrue)) rfl rfl rfl rfl (fun a w hs hR hr pre => ⟨pre 64 (by decide), ?_⟩)) ?_
      · exact wp_fn (vs := #[.slice none 0 0]) rfl Tryz.func39 (by kernel_rfl) (by kernel_rfl) (by simp only [List.map_toArray, List.map_cons, List.map_nil, eval_const]) ev_all_nil
      refine Each.cons rfl (Keeps.const _) (StepOk.guarded 64 83 true (g := (fun v _ => v = .string (bstr [84, 82, 85, 69]))) rfl rfl rfl rfl (fun a w hs hR hr pre => ⟨pre 64 (by decide), ?_⟩)) ?_
      · have h84 : EV eTrue (a.eval (.tmp 84)) w := pre 65 (by decide)
        exact wp_fn (vs := #[a.eval (.tmp 84)]) rfl Tryz.func13 (by kernel_rfl) (by kernel_rfl) (by simp only [List.map_toArray, List.map_cons, List.map_nil]) (ev_show h84 sm_all.2.2.2.2 (by decide) (HT3.out.kept hR) sho_true)
      refine Each.cons rfl (Keeps.const _) (StepOk.guarded 64 83 true (g := (fun v _ => v = .bool true)) rfl rfl rfl rfl (fun a w hs hR hr pre => ⟨pre 64 (by decide), ?_⟩)) ?_
      · have e85 : a.eval (.tmp 85) = .string (bstr [84, 82, 85, 69]) := pre 66 (by decide)
        exact wp_pure (run_eqS rfl e85 rfl) (congrArg Value.bool (by decide +kernel))
      refine Each.cons rfl (Keeps.const _) (StepOk.plain (g := (fun v _ => v = .bool true)) rfl rfl rfl (fun a w hs hR hr pre => ?_)) ?_
      · have e83 : a.eval (.tmp 83) = .bool true := pre 64 (by decide)
        have e86 : a.eval (.tmp 86) = .bool true := pre 67 (by decide)
        exact wp_pure (run_pick rfl true e83) (by simpa using e86)
      refine Each.cons rfl (Keeps.const _) (StepOk.plain (g := (fun v _ => v = .bool true)) rfl rfl rfl (fun a w hs hR hr pre => ?_)) ?_
      · have e87 : a.eval (.tmp 87) = .bool true := pre 68 (by decide)
        exact wp_pure (run_assign rfl) e87
      exact Each.nil
    · intro v w1 hB hG
      have e69 : v 69 = .bool true := hG 69 (by decide)
      clear hG
      simp only [List.take_succ_cons, List.take_zero, puts, Act.put, List.setIfInBounds_toArray, List.set_cons_zero, List.set_cons_succ, Nat.reduceAdd, e69]
      refine wpAny_done (by kernel_rfl) ?_ _
      have HB9 := Lib.hid (bt HBF.out (bt (Below.drew (Below.refl _ _)) hB))
      clear hB
      go_wp2_with fail
      go_ret
      exact ⟨rfl, HB9.out⟩
end
end Go.Proofs.YteckhaicodmakaaGreatDoor
