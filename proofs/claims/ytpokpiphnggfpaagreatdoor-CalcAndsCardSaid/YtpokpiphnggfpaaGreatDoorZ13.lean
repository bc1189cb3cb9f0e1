/-
  The law's own maker op.
The library's IndexFunc and ContainsFunc over values, with isNull and with isWrong; the closure of Fold.
fold of two values, as the law's example has it.
slices.Clone of a row of values.
slices.DeleteFunc of three values, the middle one null.
Fold of three values of which the middle one is null, added up.
Row: the values of expressions that all come to some.
-/
import Derived.Test.YtpokpiphnggfpaaGreatDoorZ12
import Derived.Lib.LazyBuf
import Derived.Laws.AppendOwnNone
import Derived.WalkSpells
import Derived.Lib.SliceRun
import Derived.Deep.AppendLies
import Derived.Laws.OwnMore
section
namespace Go.Proofs.YtpokpiphnggfpaaGreatDoor
open Go.RowKit Go.Shelf
attribute [local go_sem] Oper.semAt_some

set_option maxHeartbeats 4000000 in
theorem op_ev {n : Int} {a b : Ex} {v u : Value} {w : World} (ha : EV a v w) (hb : EV b u w) :
    Calls Tryz.prog 13 #[.int .i64 n, v, u] w fun e w' => ∃ z, e = .returned z ∧ Bel w w' ∧ EV (.mk (hdO n) [a, b]) z w' := by
  obtain ⟨h, l⟩ := a
  obtain ⟨h', l'⟩ := b
  obtain ⟨A, cap, rfl, hl, hx⟩ := ha
  obtain ⟨A', cap', rfl, hl', hx'⟩ := hb
  simp only [Ex.hd, Ex.kids] at hl hx hl' hx' ⊢
  have hb1 := ba w (xbox h A l.length cap)
  have hb2 := ba (w.alloc (xbox h A l.length cap)) (xbox h' A' l'.length cap')
  have hb3 := ba ((w.alloc (xbox h A l.length cap)).alloc (xbox h' A' l'.length cap')) x0
  have HX1 := Lib.hid ((hb3.block w.heap.size (by simp; omega)).trans ((hb2.block w.heap.size (by simp)).trans (MapKept.heap_alloc w (xbox h A l.length cap)).1))
  have h7 := (hb3.block (w.heap.size + 1) (by simp)).trans (show ((w.alloc (xbox h A l.length cap)).alloc (xbox h' A' l'.length cap')).heap[w.heap.size + 1]? = some (xbox h' A' l'.length cap') by
    have := (MapKept.heap_alloc (w.alloc (xbox h A l.length cap)) (xbox h' A' l'.length cap')).1
    rwa [World.size_alloc] at this)
  have HX2 := Lib.hid h7
  have HX3 := Lib.hid (show (((w.alloc (xbox h A l.length cap)).alloc (xbox h' A' l'.length cap')).alloc x0).heap[w.heap.size + 1 + 1]? = some x0 by
    have := (MapKept.heap_alloc ((w.alloc (xbox h A l.length cap)).alloc (xbox h' A' l'.length cap')) x0).1
    rwa [World.size_alloc, World.size_alloc] at this)
  have HB := Lib.hid (bt hb1 (bt hb2 hb3))
  have HY := Lib.hid (XsB.go (B' := fun k => k < w.heap.size) (fun k hk => (bt hb1 (bt hb2 hb3)).block k hk) (fun _ h => h) _ _ hx)
  have HY' := Lib.hid (XsB.go (B' := fun k => k < w.heap.size) (fun k hk => (bt hb1 (bt hb2 hb3)).block k hk) (fun _ h => h) _ _ hx')
  have HSz := Lib.hid (show (((w.alloc (xbox h A l.length cap)).alloc (xbox h' A' l'.length cap')).alloc x0).heap.size = w.heap.size + 1 + 1 + 1 by simp)
  clear hb1 hb2 hb3 h7 hx hx'
  go_enter Tryz.func13, Tryz.ntmps13
  go_upto_region 1 with fail
  generalize ((w.alloc (.cells #[.int .i64 h.k, .int .i64 h.n, .int .i64 h.vk, .int .i64 h.vn, .string h.vs, .string h.tab, .string h.col, .slice A l.length cap] 30)).alloc (.cells #[.int .i64 h'.k, .int .i64 h'.n, .int .i64 h'.vk, .int .i64 h'.vn, .string h'.vs, .string h'.tab, .string h'.col, .slice A' l'.length cap'] 30)).alloc (.cells #[.int .i64 0, .int .i64 0, .int .i64 0, .int .i64 0, .string ⟨#[]⟩, .string ⟨#[]⟩, .string ⟨#[]⟩, .slice none 0 0] 30) = W at HX1 HX2 HX3 HB HY HY' HSz ⊢
  obtain ⟨⟨y0, y1, y2, y3, y4, y5, y6, y7⟩, _⟩ := cell8 HX1.out
  obtain ⟨⟨z0, z1, z2, z3, z4, z5, z6, z7⟩, _⟩ := cell8 HX2.out
  go_wp2_with fail
  have HL : Hid (XsB (fun k => k < w.heap.size ∨ k = W.heap.size) (W.alloc (.cells #[.int .i64 h.k, .int .i64 h.n, .int .i64 h.vk, .int .i64 h.vn, .string h.vs, .string h.tab, .string h.col, .slice A l.length cap, .int .i64 h'.k, .int .i64 h'.n, .int .i64 h'.vk, .int .i64 h'.vn, .string h'.vs, .string h'.tab, .string h'.col, .slice A' l'.length cap'] 30)) [.mk h l, .mk h' l'] (some ⟨W.heap.size, 0, none⟩)) := by
    have hba := ba W (.cells #[.int .i64 h.k, .int .i64 h.n, .int .i64 h.vk, .int .i64 h.vn, .string h.vs, .string h.tab, .string h.col, .slice A l.length cap, .int .i64 h'.k, .int .i64 h'.n, .int .i64 h'.vk, .int .i64 h'.vn, .string h'.vs, .string h'.tab, .string h'.col, .slice A' l'.length cap'] 30)
    have hn := (MapKept.heap_alloc W (.cells #[.int .i64 h.k, .int .i64 h.n, .int .i64 h.vk, .int .i64 h.vn, .string h.vs, .string h.tab, .string h.col, .slice A l.length cap, .int .i64 h'.k, .int .i64 h'.n, .int .i64 h'.vk, .int .i64 h'.vn, .string h'.vs, .string h'.tab, .string h'.col, .slice A' l'.length cap'] 30)).1
    have hsz := HSz.out
    have hy := XsB.go (B' := fun k => k < w.heap.size ∨ k = W.heap.size) (fun k hk => hba.block k (by omega)) (fun _ h => .inl h) _ _ HY.out
    have hy' := XsB.go (B' := fun k => k < w.heap.size ∨ k = W.heap.size) (fun k hk => hba.block k (by omega)) (fun _ h => .inl h) _ _ HY'.out
    have hq : XRs (fun k => k < w.heap.size ∨ k = W.heap.size) (W.alloc (.cells #[.int .i64 h.k, .int .i64 h.n, .int .i64 h.vk, .int .i64 h.vn, .string h.vs, .string h.tab, .string h.col, .slice A l.length cap, .int .i64 h'.k, .int .i64 h'.n, .int .i64 h'.vk, .int .i64 h'.vn, .string h'.vs, .string h'.tab, .string h'.col, .slice A' l'.length cap'] 30)) [.mk h l, .mk h' l'] [(h, A, l.length, cap), (h', A', l'.length, cap')] := .cons ⟨rfl, rfl, hl, hy⟩ (.cons ⟨rfl, rfl, hl', hy'⟩ .nil)
    refine Lib.hid (hq.xsB (.inr rfl) fun j u hj => ?_)
    rw [Nat.zero_add]
    unfold World.cell?
    rw [hn]
    simpa [xcells, xcell] using hj
  have HBa := Lib.hid (ba W (.cells #[.int .i64 h.k, .int .i64 h.n, .int .i64 h.vk, .int .i64 h.vn, .string h.vs, .string h.tab, .string h.col, .slice A l.length cap, .int .i64 h'.k, .int .i64 h'.n, .int .i64 h'.vk, .int .i64 h'.vn, .string h'.vs, .string h'.tab, .string h'.col, .slice A' l'.length cap'] 30))
  have HX := Lib.hid ((HBa.out.block _ (Array.getElem?_eq_some_iff.1 HX3.out).1).trans HX3.out)
  have HS2 := Lib.hid (show (W.alloc (.cells #[.int .i64 h.k, .int .i64 h.n, .int .i64 h.vk, .int .i64 h.vn, .string h.vs, .string h.tab, .string h.col, .slice A l.length cap, .int .i64 h'.k, .int .i64 h'.n, .int .i64 h'.vk, .int .i64 h'.vn, .string h'.vs, .string h'.tab, .string h'.col, .slice A' l'.length cap'] 30)).heap.size = W.heap.size + 1 by simp)
  clear y0 y1 y2 y3 y4 y5 y6 y7 z0 z1 z2 z3 z4 z5 z6 z7
  generalize W.alloc (.cells #[.int .i64 h.k, .int .i64 h.n, .int .i64 h.vk, .int .i64 h.vn, .string h.vs, .string h.tab, .string h.col, .slice A l.length cap, .int .i64 h'.k, .int .i64 h'.n, .int .i64 h'.vk, .int .i64 h'.vn, .string h'.vs, .string h'.tab, .string h'.col, .slice A' l'.length cap'] 30) = W2 at HL HBa HX HS2 ⊢
  have HB := Lib.hid (bt HB.out HBa.out)
  obtain ⟨g2, hg2⟩ : ∃ g2, W.heap.size = g2 := ⟨_, rfl⟩
  have HG := Lib.hid (show g2 = w.heap.size + 1 + 1 + 1 by rw [← hg2]; exact HSz.out)
  rw [hg2] at HL HS2 ⊢
  clear hg2 HBa
  refine (refOp_any n _ 2 2 W2).mono ?_
  rintro e W3 ⟨rfl, hb⟩
  have HX := Lib.hid ((hb.block _ (Array.getElem?_eq_some_iff.1 HX.out).1).trans HX.out)
  have HB := Lib.hid (bt HB.out hb)
  have HL := Lib.hid (XsB.go (B' := fun k => k < w.heap.size ∨ k = g2) (fun k hk => hb.block k (by have := HS2.out; have := HG.out; omega)) (fun _ h => h) _ _ HL.out)
  have HS3 := Lib.hid (show g2 < W3.heap.size by have := hb.size; have := HS2.out; omega)
  clear hb
  obtain ⟨⟨x0, x1, x2, x3, x4, x5, x6, x7⟩, f0, f1, f2, f3, f4, f5, f6, f7⟩ := cell8 HX.out
  go_wp2_with fail
  have HQ := Lib.hid (set8_box HX.out (.int .i64 3) (.int .i64 n) (.int .i64 0) (.int .i64 0) (.string ⟨#[]⟩) (.string ⟨#[]⟩) (.string ⟨#[]⟩) (.slice (some ⟨g2, 0, none⟩) 2 2))
  refine bodyPost_ret (v := XV (hdO n) (some ⟨g2, 0, none⟩) 2 2) (by simp [results, Tryz.results13, go_sem, x0, x1, x2, x3, x4, x5, x6, x7]) rfl ⟨_, rfl, set8_below HB.out (by omega) .., some ⟨g2, 0, none⟩, 2, rfl, Nat.le_refl _, ?_⟩
  refine XsB.go (fun k hk => set8_other (by have := HG.out; omega) ..) (fun k hk => ?_) _ _ HL.out
  rw [set8_size]
  have := HS3.out; have := HB.out.size; omega
end Go.Proofs.YtpokpiphnggfpaaGreatDoor
end
section
namespace Go.Proofs.YtpokpiphnggfpaaGreatDoor
open Go.RowKit Go.Shelf
attribute [local go_sem] Oper.semAt_some

def nullP (v : Va) : Bool := v.k == 0
theorem isNull_p (v : Va) (w : World) (_ : v.s.size ≤ 9223372036854775807) {b : Bool} (h : nullP v = b) :
    Calls Tryz.prog 29 #[VV v.k v.n v.s] w fun e w' => e = .returned (.bool b) ∧ Below w.heap.size w w' := by
  rw [← h]; exact isNull_any v.k v.n v.s w
theorem isWrong_p (v : Va) (w : World) (hs : v.s.size ≤ 9223372036854775807) {b : Bool} (h : wrongA v = b) :
    Calls Tryz.prog 32 #[VV v.k v.n v.s] w fun e w' => e = .returned (.bool b) ∧ Below w.heap.size w w' := isWrong_any _ _ _ _ hs h
/-- The first place at which it is so, or none. -/
def IdxP (p : Va → Bool) (r : List Va) (w : World) (e : Ending) (w' : World) : Prop :=
  ∃ i : Int, e = .returned (.int .i64 i) ∧ Below w.heap.size w w' ∧ ((i = -1 ∧ r.any p = false) ∨ ∃ j : Nat, ∃ hj : j < r.length, i = j ∧ p r[j] = true ∧ (r.take j).any p = false)
set_option maxHeartbeats 1000000 in
theorem indexNull_any (A : Option Addr) (c : Nat) (r : List Va) (w : World) (h : RowAt w A r) (hf : Fine r) (hl : r.length ≤ 9223372036854775807) :
    Calls Tryz.prog 49 #[.slice A r.length c, .func (.func 29) #[] #[]] w (IdxP nullP r w) := by
  have eg := enters_of Tryz.func29 (by kernel_rfl) rfl
  unfold Enters at eg
  go_enter Tryz.func49, Tryz.ntmps49
  go_wp2_with fail
  go_loopw [8] (fun i wr => ∃ j : Nat, j ≤ r.length ∧ i = .int .i64 j ∧ Below w.heap.size w wr ∧ Hid ((r.take j).any nullP = false)) (fun i _ => r.length - (intOf i).toNat)
  case atStart => exact ⟨0, Nat.zero_le _, rfl, Below.refl _ _, Lib.hid (by simp)⟩
  case round =>
    obtain ⟨j, hj, rfl, hB, HN⟩ := hrel
    have hr := h.kept hB
    have HR := Lib.hid h
    clear h
    by_cases hlt : j < r.length
    · obtain ⟨b, off, rfl, hb, c0, c1, c2⟩ := hr.at hlt
      have hz := hf.at hlt
      have HS := Lib.hid (any_take_succ nullP r j hlt)
      obtain ⟨v, hv⟩ : ∃ v, r[j] = v := ⟨_, rfl⟩
      have HV := Lib.hid hv
      rw [hv] at c0 c1 c2 hz HS
      clear hr hv
      cases hbd : nullP v
      · have HD := Lib.hid hbd
        have HE := Lib.hid (show (r.take (j + 1)).any nullP = false by rw [HS.out, HN.out, hbd]; rfl)
        clear hbd
        go_wp2_with fail
        refine (isNull_p v _ hz HD.out).mono ?_
        rintro e w1 ⟨rfl, hb1⟩
        go_wp2_with fail
        go_roundw
        case rel => exact ⟨j + 1, by omega, by go_num, bt hB hb1, HE⟩
        case measure => simp [intOf]; omega
      · have HD := Lib.hid hbd
        clear hbd
        go_wp2_with fail
        refine (isNull_p v _ hz HD.out).mono ?_
        rintro e w1 ⟨rfl, hb1⟩
        go_wp2_with fail
        go_ret
        exact ⟨j, rfl, bt hB hb1, .inr ⟨j, hlt, rfl, by rw [HV.out]; exact HD.out, HN.out⟩⟩
    · have HE := Lib.hid (show r.any nullP = false by rw [← HN.out, List.take_of_length_le (by omega)])
      go_wp2_with fail
      go_ret
      exact ⟨-1, rfl, hB, .inl ⟨rfl, HE.out⟩⟩
set_option maxHeartbeats 1000000 in
theorem indexWrong_any (A : Option Addr) (c : Nat) (r : List Va) (w : World) (h : RowAt w A r) (hf : Fine r) (hl : r.length ≤ 9223372036854775807) :
    Calls Tryz.prog 49 #[.slice A r.length c, .func (.func 32) #[] #[]] w (IdxP wrongA r w) := by
  have eg := enters_of Tryz.func32 (by kernel_rfl) rfl
  unfold Enters at eg
  go_enter Tryz.func49, Tryz.ntmps49
  go_wp2_with fail
  go_loopw [8] (fun i wr => ∃ j : Nat, j ≤ r.length ∧ i = .int .i64 j ∧ Below w.heap.size w wr ∧ Hid ((r.take j).any wrongA = false)) (fun i _ => r.length - (intOf i).toNat)
  case atStart => exact ⟨0, Nat.zero_le _, rfl, Below.refl _ _, Lib.hid (by simp)⟩
  case round =>
    obtain ⟨j, hj, rfl, hB, HN⟩ := hrel
    have hr := h.kept hB
    have HR := Lib.hid h
    clear h
    by_cases hlt : j < r.length
    · obtain ⟨b, off, rfl, hb, c0, c1, c2⟩ := hr.at hlt
      have hz := hf.at hlt
      have HS := Lib.hid (any_take_succ wrongA r j hlt)
      obtain ⟨v, hv⟩ : ∃ v, r[j] = v := ⟨_, rfl⟩
      have HV := Lib.hid hv
      rw [hv] at c0 c1 c2 hz HS
      clear hr hv
      cases hbd : wrongA v
      · have HD := Lib.hid hbd
        have HE := Lib.hid (show (r.take (j + 1)).any wrongA = false by rw [HS.out, HN.out, hbd]; rfl)
        clear hbd
        go_wp2_with fail
        refine (isWrong_p v _ hz HD.out).mono ?_
        rintro e w1 ⟨rfl, hb1⟩
        go_wp2_with fail
        go_roundw
        case rel => exact ⟨j + 1, by omega, by go_num, bt hB hb1, HE⟩
        case measure => simp [intOf]; omega
      · have HD := Lib.hid hbd
        clear hbd
        go_wp2_with fail
        refine (isWrong_p v _ hz HD.out).mono ?_
        rintro e w1 ⟨rfl, hb1⟩
        go_wp2_with fail
        go_ret
        exact ⟨j, rfl, bt hB hb1, .inr ⟨j, hlt, rfl, by rw [HV.out]; exact HD.out, HN.out⟩⟩
    · have HE := Lib.hid (show r.any wrongA = false by rw [← HN.out, List.take_of_length_le (by omega)])
      go_wp2_with fail
      go_ret
      exact ⟨-1, rfl, hB, .inl ⟨rfl, HE.out⟩⟩
set_option maxHeartbeats 1000000 in
theorem containsWrong_any (A : Option Addr) (c : Nat) (r : List Va) (w : World) (h : RowAt w A r) (hf : Fine r) (hl : r.length ≤ 9223372036854775807) :
    Calls Tryz.prog 31 #[.slice A r.length c, .func (.func 32) #[] #[]] w fun e w' => e = .returned (.bool (r.any wrongA)) ∧ Below w.heap.size w w' := by
  have HI := Lib.hid (indexWrong_any A c r w h hf hl)
  clear h hf
  go_enter Tryz.func31, Tryz.ntmps31
  go_wp2_with fail
  refine HI.out.mono ?_
  rintro e w1 ⟨i, rfl, hb1, hi⟩
  have HB := Lib.hid hb1
  rcases hi with ⟨rfl, ha⟩ | ⟨j, hj, rfl, hp, _⟩
  · have HA := Lib.hid ha
    clear hb1 ha
    go_wp2_with fail
    go_ret
    exact ⟨ret_bool (by rw [HA.out]), HB.out⟩
  · have HA := Lib.hid (show r.any wrongA = true from List.any_eq_true.2 ⟨_, List.getElem_mem hj, hp⟩)
    clear hb1 hp
    go_wp2_with fail
    go_ret
    exact ⟨ret_bool (by rw [HA.out]), HB.out⟩
set_option maxHeartbeats 4000000 in
theorem fold1_any (a b : Va) (w0 : World) (ha : a.s.size ≤ 9223372036854775807) (hb' : b.s.size ≤ 9223372036854775807) :
    Calls Tryz.prog 34 #[VV a.k a.n a.s, VV b.k b.n b.s] w0 fun e w' => e = .returned (rk2 (reckA sumI a b)) ∧ Below w0.heap.size w0 w' := by
  have HS := fun w => reckon_any 36 sumI (fun a b W h1 h2 => sum_any a b W h1 h2) (enters_of Tryz.func36 (by kernel_rfl) rfl) a b w ha hb'
  obtain ⟨k, n, s⟩ := a
  obtain ⟨k', n', s'⟩ := b
  have H3 := three w0 k n k' n' s s'
  have HA := Lib.hid H3.1
  have HB := Lib.hid H3.2.1
  have HR := Lib.hid H3.2.2.1
  have HW := Lib.hid H3.2.2.2
  obtain ⟨K, N, S2, E, hE⟩ := rk2_form (reckA sumI ⟨k, n, s⟩ ⟨k', n', s'⟩)
  rw [hE] at HS ⊢
  have HC := Lib.hid HS
  clear H3 ha hb' HS hE
  go_enter Tryz.func34, Tryz.ntmps34
  go_upto_region 1 with fail
  generalize ((w0.alloc (.cells #[.int .i64 k, .int .i64 n, .string s] 28)).alloc (.cells #[.int .i64 k', .int .i64 n', .string s'] 28)).alloc (.cells #[.int .i64 0, .int .i64 0, .string ⟨#[]⟩] 28) = W at HA HB HR HW ⊢
  obtain ⟨a0, a1, a2, _, _, _⟩ := HA.out
  obtain ⟨b0, b1, b2, _, _, _⟩ := HB.out
  go_wp2_with fail
  refine (HC.out _).mono ?_
  rintro e W ⟨rfl, hb⟩
  have HW := Lib.hid (bt HW.out hb)
  have HR := Lib.hid (HR.out.kept hb)
  clear hb
  obtain ⟨r0, r1, r2, f0, f1, f2⟩ := HR.out
  go_wp2_with fail
  exact bodyPost_ret (v := .tuple #[VV K N S2, .int .i64 E]) (by simp [results, Tryz.results34, go_sem, r0, r1, r2]) rfl ⟨rfl, below_set3 HW.out (by omega)⟩
end Go.Proofs.YtpokpiphnggfpaaGreatDoor
end
section
namespace Go.Proofs.YtpokpiphnggfpaaGreatDoor
open Go.RowKit Go.Shelf
attribute [local go_sem] Oper.semAt_some

theorem Bx.put {W : World} {u : Nat} {k n k' n' : Int} {s s' : ByteArray} (h : Bx W u k n s) : Bx (((W.setCell ⟨u, 0, none⟩ (.int .i64 k')).setCell ⟨u, 1, none⟩ (.int .i64 n')).setCell ⟨u, 2, none⟩ (.string s')) u k' n' s' := by
  obtain ⟨c0, c1, c2, f0, f1, f2⟩ := h
  refine ⟨?_, ?_, ?_, ?_, ?_, ?_⟩
  all_goals simp [go_sem, c0, c1, c2, f0, f1, f2]
theorem Bx.other {W : World} {u m : Nat} {k n k' n' : Int} {s s' : ByteArray} (h : Bx W u k n s) (hm : u ≠ m) : Bx (((W.setCell ⟨m, 0, none⟩ (.int .i64 k')).setCell ⟨m, 1, none⟩ (.int .i64 n')).setCell ⟨m, 2, none⟩ (.string s')) u k n s := by
  have e : (((W.setCell ⟨m, 0, none⟩ (.int .i64 k')).setCell ⟨m, 1, none⟩ (.int .i64 n')).setCell ⟨m, 2, none⟩ (.string s')).heap[u]? = W.heap[u]? := by rw [setc_other hm, setc_other hm, setc_other hm]
  have c : ∀ o, (((W.setCell ⟨m, 0, none⟩ (.int .i64 k')).setCell ⟨m, 1, none⟩ (.int .i64 n')).setCell ⟨m, 2, none⟩ (.string s')).cell? ⟨u, o, none⟩ = W.cell? ⟨u, o, none⟩ := fun o => World.cell?_of_block e
  have f : ∀ o, (((W.setCell ⟨m, 0, none⟩ (.int .i64 k')).setCell ⟨m, 1, none⟩ (.int .i64 n')).setCell ⟨m, 2, none⟩ (.string s')).frozen? ⟨u, o, none⟩ = W.frozen? ⟨u, o, none⟩ := fun o => by simp only [World.frozen?, e]
  exact ⟨(c 0).trans h.c0, (c 1).trans h.c1, (c 2).trans h.c2, (f 0).trans h.f0, (f 1).trans h.f1, (f 2).trans h.f2⟩
set_option maxRecDepth 100000 in
set_option maxHeartbeats 4000000 in
theorem fold_two (a b v : Va) (A : Option Addr) (cap : Nat) (w0 : World) (hR : RowAt w0 A [a, b]) (hcap : 2 ≤ cap) (ha : a.s.size ≤ 9223372036854775807) (hb : b.s.size ≤ 9223372036854775807) (hv : reckA sumI a b = some v) :
    Calls Tryz.prog 33 #[.slice A 2 cap, .func (.func 34) #[] #[]] w0 fun e w' => e = .returned (.tuple #[VV v.k v.n v.s, .int .i64 0]) ∧ Below w0.heap.size w0 w' := by
  have eg := enters_of Tryz.func34 (by kernel_rfl) rfl
  unfold Enters at eg
  have HC := fun w => fold1_any a b w ha hb
  rw [hv] at HC
  have HC := Lib.hid (show ∀ w, Calls Tryz.prog 34 #[VV a.k a.n a.s, VV b.k b.n b.s] w fun e w' => e = .returned (.tuple #[VV v.k v.n v.s, .int .i64 0]) ∧ Below w.heap.size w w' from HC)
  obtain ⟨g, off, rfl, hg, a0, a1, a2⟩ := hR.at (i := 0) (by simp)
  obtain ⟨g', off', hA, _, b0, b1, b2⟩ := hR.at (i := 1) (by simp)
  simp only [Option.some.injEq, Addr.mk.injEq] at hA
  obtain ⟨rfl, rfl, _⟩ := hA
  simp only [List.getElem_cons_zero, List.getElem_cons_succ, Nat.zero_mul, Nat.add_zero, Nat.one_mul] at a0 a1 a2 b0 b1 b2
  have HA := Lib.hid (And.intro a0 (And.intro a1 a2))
  have HB := Lib.hid (And.intro b0 (And.intro b1 b2))
  have HG := Lib.hid hg
  have HR := Lib.hid (Bx.new w0 0 0 ⟨#[]⟩)
  have HW := Lib.hid (ba w0 (vbox 0 0 ⟨#[]⟩))
  have HS := Lib.hid (show (w0.alloc (vbox 0 0 ⟨#[]⟩)).heap.size = w0.heap.size + 1 by simp)
  obtain ⟨ak, an, at1⟩ := a
  obtain ⟨bk, bn, bt1⟩ := b
  obtain ⟨k, n, s⟩ := v
  simp only at HA HB HC ⊢
  clear hR hv a0 a1 a2 b0 b1 b2 ha hb hg
  have kp : ∀ (W : World), Below w0.heap.size w0 W → ∀ o, W.cell? ⟨g, o, none⟩ = w0.cell? ⟨g, o, none⟩ := fun W h o => h.cell (p := ⟨g, o, none⟩) HG.out
  have HK := Lib.hid kp
  clear kp
  go_enter Tryz.func33, Tryz.ntmps33
  go_upto_region 1 with fail
  generalize w0.alloc (.cells #[.int .i64 0, .int .i64 0, .string ⟨#[]⟩] 28) = W at HR HW HS ⊢
  have a0 := (HK.out W HW.out off).trans HA.out.1
  have a1 := (HK.out W HW.out (off + 1)).trans HA.out.2.1
  have a2 := (HK.out W HW.out (off + 2)).trans HA.out.2.2
  have HR2 := Lib.hid (HR.out.kept (ba W (vbox ak an at1)))
  have HM := Lib.hid (show Bx (W.alloc (vbox ak an at1)) (w0.heap.size + 1) ak an at1 by rw [← HS.out]; exact Bx.new W ak an at1)
  have HW2 := Lib.hid (bt HW.out (ba W (vbox ak an at1)))
  go_wp2_with fail
  clear HR HW
  generalize W.alloc _ = W1 at HR2 HM HW2 ⊢
  obtain ⟨M, hM⟩ : ∃ M, W.heap.size = M := ⟨_, rfl⟩
  have HMs := Lib.hid (show M = w0.heap.size + 1 by rw [← hM]; exact HS.out)
  rw [← HMs.out] at HM
  rw [hM]
  clear hM a0 a1 a2 HS
  go_loopw [21] (fun i wr => ∃ j : Int, (j = 0 ∨ j = 1) ∧ i = .int .i64 j ∧ Hid (Below w0.heap.size w0 wr) ∧ Hid (Bx wr w0.heap.size 0 0 ⟨#[]⟩) ∧ Hid (j = 0 → Bx wr M ak an at1) ∧ Hid (j = 1 → Bx wr M k n s)) (fun i _ => 2 - (intOf i).toNat)
  case atStart => exact ⟨0, .inl rfl, rfl, HW2, HR2, Lib.hid (fun _ => HM.out), Lib.hid (fun h => absurd h (by decide))⟩
  case round =>
    obtain ⟨j, hj, rfl, HW, HR, H0, H1⟩ := hrel
    clear HW2 HR2 HM
    rcases hj with rfl | rfl
    · have HM := Lib.hid (H0.out rfl)
      clear H0 H1
      have b0 := (HK.out wr HW.out (off + 3)).trans HB.out.1
      have b1 := (HK.out wr HW.out (off + 3 + 1)).trans HB.out.2.1
      have b2 := (HK.out wr HW.out (off + 3 + 2)).trans HB.out.2.2
      have HM2 := Lib.hid (HM.out.kept (ba wr (vbox bk bn bt1)))
      have HR2 := Lib.hid (HR.out.kept (ba wr (vbox bk bn bt1)))
      have HW2 := Lib.hid (bt HW.out (ba wr (vbox bk bn bt1)))
      obtain ⟨m0, m1, m2, _, _, _⟩ := HM2.out
      go_wp2_with fail
      refine (HC.out _).mono ?_
      rintro e W2 ⟨rfl, hb⟩
      have HM3 := Lib.hid ((HM2.out.kept hb).kept (ba W2 (vbox k n s)))
      have HR3 := Lib.hid ((HR2.out.kept hb).kept (ba W2 (vbox k n s)))
      have HW3 := Lib.hid (bt (bt HW2.out hb) (ba W2 (vbox k n s)))
      clear hb m0 m1 m2 b0 b1 b2
      obtain ⟨m0, m1, m2, f0, f1, f2⟩ := HM3.out
      go_wp2_with fail
      refine ⟨⟨1, .inr rfl, rfl, Lib.hid (below_set3 HW3.out (by rw [HMs.out]; omega)), Lib.hid (HR3.out.other (by rw [HMs.out]; omega)), Lib.hid (fun h => absurd h (by decide)), Lib.hid (fun _ => HM3.out.put)⟩, by simp [intOf]⟩
    · have HM := Lib.hid (H1.out rfl)
      clear H0 H1
      obtain ⟨m0, m1, m2, _, _, _⟩ := HM.out
      obtain ⟨r0, r1, r2, f0, f1, f2⟩ := HR.out
      go_wp2_with fail
      exact bodyPost_ret (v := .tuple #[VV k n s, .int .i64 0]) (by simp [results, Tryz.results33, go_sem, r0, r1, r2]) rfl ⟨rfl, below_set3 HW.out (by omega)⟩
end Go.Proofs.YtpokpiphnggfpaaGreatDoor
end
section
namespace Go.Proofs.YtpokpiphnggfpaaGreatDoor
open Go.RowKit Go.Shelf
attribute [local go_sem] Oper.semAt_some

def rcells (l : List Va) : List Value := l.flatMap fun v => [.int .i64 v.k, .int .i64 v.n, .string v.s]
theorem rcells_len (l : List Va) : (rcells l).length = l.length * 3 := by
  induction l with
  | nil => rfl
  | cons v l ih => show ([_, _, _] ++ rcells l).length = _; rw [List.length_append, ih]; simp; omega
theorem rcells_one (l : List Va) : ∀ u ∈ rcells l, u.oneCell' = true := by
  intro u hu
  obtain ⟨v, _, hv⟩ := List.mem_flatMap.1 hu
  simp at hv
  rcases hv with rfl | rfl | rfl <;> rfl
theorem rcells_at : ∀ (l : List Va) (W : World) (g o : Nat), (∀ (i : Nat) (v : Va), l[i]? = some v → W.cell? ⟨g, o + i * 3, none⟩ = some (.int .i64 v.k) ∧ W.cell? ⟨g, o + i * 3 + 1, none⟩ = some (.int .i64 v.n) ∧ W.cell? ⟨g, o + i * 3 + 2, none⟩ = some (.string v.s)) →
    ∀ (j : Nat) (u : Value), (rcells l)[j]? = some u → W.cell? ⟨g, o + j, none⟩ = some u
  | [], _, _, _, _, j, u, hj => by simp [rcells] at hj
  | v :: l, W, g, o, h, j, u, hj => by
    have e : rcells (v :: l) = [.int .i64 v.k, .int .i64 v.n, .string v.s] ++ rcells l := rfl
    rw [e] at hj
    obtain ⟨h0, h1, h2⟩ := h 0 v rfl
    match j, hj with
    | 0, hj => obtain rfl := Option.some.inj hj; simpa using h0
    | 1, hj => obtain rfl := Option.some.inj hj; simpa using h1
    | 2, hj => obtain rfl := Option.some.inj hj; simpa using h2
    | j + 3, hj =>
      have := rcells_at l W g (o + 3) (fun i v hv => by
        have := h (i + 1) v (by simpa using hv)
        rw [show o + (i + 1) * 3 = o + 3 + i * 3 by omega] at this
        exact this) j u (by simpa using hj)
      rwa [show o + 3 + j = o + (j + 3) by omega] at this
theorem info_value : (Tryz.prog.info? 28).map (fun i => (i.zero, i.size, i.bytes)) = some (some (VV 0 0 ⟨#[]⟩), 3, 32) := by kernel_rfl
theorem info_valueP : ∃ i, Tryz.prog.info? 28 = some i ∧ i.zero = some (VV 0 0 ⟨#[]⟩) ∧ i.size = 3 ∧ i.bytes = 32 := by
  have h := info_value
  cases hi : Tryz.prog.info? 28 with
  | none => rw [hi] at h; cases h
  | some i => rw [hi] at h; simp at h; exact ⟨i, rfl, h.1, h.2.1, h.2.2⟩
theorem below_grownV {W w' : World} {base n size : Nat} {v : Value} {e : TypeId} {xs : List Value} (hown : W.ownsRow base e size v n xs) (hbase : base ≤ W.heap.size) (hg : W.grownBy w' v.ownBlock) : Below base W w' :=
  (Below.refl base W).grown hg hbase (fun k hk => by
    rcases hown.2 with ⟨rfl, _⟩ | ⟨g, cap, cur, rfl, hb, _⟩
    · simp [Value.ownBlock] at hk
    · simp [Value.ownBlock] at hk; omega)
theorem owns_emptyV (w : World) (T : TypeId) (size : Nat) : (w.alloc (.cells #[] T)).ownsRow w.heap.size T size (.slice (some ⟨w.heap.size, 0, none⟩) 0 0) 0 [] :=
  ⟨by simp, .inr ⟨w.heap.size, 0, #[], rfl, Nat.le_refl _, (MapKept.heap_alloc w _).1, Nat.le_refl _, Nat.zero_le _, by simp, by simp⟩⟩
set_option maxRecDepth 100000 in
set_option maxHeartbeats 2000000 in
theorem clone_any {w : World} {A : Option Addr} {c : Nat} {r : List Va} (h : RowAt w A r) (h1 : 1 ≤ r.length) (h2 : r.length ≤ 64) :
    Calls Tryz.prog 28 #[.slice A r.length c] w fun e w' => ∃ v, e = .returned v ∧ w'.ownsRow w.heap.size 28 3 v r.length (rcells r) ∧ Below w.heap.size w w' := by
  obtain ⟨b, off, rfl, hlt, hc⟩ : ∃ b off : Nat, A = some ⟨b, off, none⟩ ∧ b < w.heap.size ∧ ∀ (i : Nat) (v : Va), r[i]? = some v →
      w.cell? ⟨b, off + i * 3, none⟩ = some (.int .i64 v.k) ∧ w.cell? ⟨b, off + i * 3 + 1, none⟩ = some (.int .i64 v.n) ∧ w.cell? ⟨b, off + i * 3 + 2, none⟩ = some (.string v.s) := by
    rcases h with h | h
    · subst h; simp at h1
    · exact h
  have hcs := rcells_at r w b off hc
  obtain ⟨i0, hi, hz0, hz1, hz2⟩ := info_valueP
  have hq := fun w : World => Lib.run_eql_slice_nil (P := Tryz.prog) w 23 28 (some ⟨b, off, none⟩) r.length c 0 0 Tryz.underlying23
  have hb0 := ba w (.cells #[] 28)
  have HN := Lib.hid (show ∀ j u, (rcells r)[j]? = some u → (w.alloc (.cells #[] 28)).cell? ((⟨b, off, none⟩ : Addr).add j) = some u from fun j u hu => by
    have := (hb0.cell (p := ⟨b, off + j, none⟩) hlt).trans (hcs j u hu)
    by_cases h0 : j = 0
    · subst h0; simpa [Addr.add] using this
    · simpa [Addr.add, h0] using this)
  have HO := Lib.hid (rcells_one r)
  have HL := Lib.hid (rcells_len r)
  have HB := Lib.hid hb0
  have HW := Lib.hid (owns_emptyV w 28 3)
  obtain ⟨xs, hxs⟩ : ∃ xs, rcells r = xs := ⟨_, rfl⟩
  obtain ⟨n, hn⟩ : ∃ n, r.length = n := ⟨_, rfl⟩
  rw [hxs, hn] at HL
  rw [hxs] at HN HO ⊢
  rw [hn] at hq h1 h2 ⊢
  clear h hc hb0 hcs hn hxs
  go_enter Tryz.func28, Tryz.ntmps28
  go_wp2_with (at_builtin; refine wpList_append_own _ rfl _ _ 23 rfl w.heap.size 28 i0 _ 3 32 Tryz.underlying23 hi hz0 hz1 hz2 rfl (by decide) _ 0 [] rfl HW.out ⟨b, off, none⟩ n c xs rfl ?c0 HN.out HO.out ?c3 ?c4 ?c5 ?_)
  case c0 => rw [HL.out]
  case c3 => simp [maxLen]; omega
  case c4 => omega
  case c5 => simp
  intro v' w1 hown1 hgrow1 _
  have HB1 := Lib.hid (HB.out.trans (below_grownV HW.out (by simp) hgrow1))
  have HO1 := Lib.hid hown1
  clear hown1 hgrow1
  go_wp2_with fail
  go_ret
  refine ⟨_, rfl, ?_, HB1.out⟩
  simpa using HO1.out
end Go.Proofs.YtpokpiphnggfpaaGreatDoor
end
section
namespace Go.Proofs.YtpokpiphnggfpaaGreatDoor
open Go.RowKit Go.Shelf
attribute [local go_sem] Oper.semAt_some

/-- Three values in a block of one's own. -/
structure R3 (W : World) (g : Nat) (a b c : Va) : Prop where
  a0 : W.cell? ⟨g, 0, none⟩ = some (.int .i64 a.k)
  a1 : W.cell? ⟨g, 1, none⟩ = some (.int .i64 a.n)
  a2 : W.cell? ⟨g, 2, none⟩ = some (.string a.s)
  b0 : W.cell? ⟨g, 3, none⟩ = some (.int .i64 b.k)
  b1 : W.cell? ⟨g, 4, none⟩ = some (.int .i64 b.n)
  b2 : W.cell? ⟨g, 5, none⟩ = some (.string b.s)
  c0 : W.cell? ⟨g, 6, none⟩ = some (.int .i64 c.k)
  c1 : W.cell? ⟨g, 7, none⟩ = some (.int .i64 c.n)
  c2 : W.cell? ⟨g, 8, none⟩ = some (.string c.s)
  f : ∀ o, W.frozen? ⟨g, o, none⟩ = false
theorem R3.kept {W W' : World} {g : Nat} {a b c : Va} (h : R3 W g a b c) (hb : Below W.heap.size W W') : R3 W' g a b c :=
  have hl := ltV_of_cell h.a0
  ⟨cellV_kept hb h.a0, cellV_kept hb h.a1, cellV_kept hb h.a2, cellV_kept hb h.b0, cellV_kept hb h.b1, cellV_kept hb h.b2, cellV_kept hb h.c0, cellV_kept hb h.c1, cellV_kept hb h.c2, fun o => (hb.frozen (p := ⟨g, o, none⟩) hl).trans (h.f o)⟩
theorem R3.put {W : World} {g : Nat} {a b c : Va} (h : R3 W g a b c) (d : Va) : R3 (((W.setCell ⟨g, 3, none⟩ (.int .i64 d.k)).setCell ⟨g, 4, none⟩ (.int .i64 d.n)).setCell ⟨g, 5, none⟩ (.string d.s)) g a d c := by
  obtain ⟨a0, a1, a2, b0, b1, b2, c0, c1, c2, f⟩ := h
  refine ⟨?_, ?_, ?_, ?_, ?_, ?_, ?_, ?_, ?_, ?_⟩
  all_goals simp [go_sem, a0, a1, a2, b0, b1, b2, c0, c1, c2, f]
theorem R3.put2 {W : World} {g : Nat} {a b c : Va} (h : R3 W g a b c) (d : Va) : R3 (((W.setCell ⟨g, 6, none⟩ (.int .i64 d.k)).setCell ⟨g, 7, none⟩ (.int .i64 d.n)).setCell ⟨g, 8, none⟩ (.string d.s)) g a b d := by
  obtain ⟨a0, a1, a2, b0, b1, b2, c0, c1, c2, f⟩ := h
  refine ⟨?_, ?_, ?_, ?_, ?_, ?_, ?_, ?_, ?_, ?_⟩
  all_goals simp [go_sem, a0, a1, a2, b0, b1, b2, c0, c1, c2, f]
theorem R3.row {W : World} {g : Nat} {a b c : Va} (h : R3 W g a b c) : RowAt W (some ⟨g, 0, none⟩) [a, b, c] := by
  refine .inr ⟨g, 0, rfl, ltV_of_cell h.a0, fun i v hv => ?_⟩
  match i, hv with
  | 0, hv => obtain rfl := Option.some.inj hv; exact ⟨h.a0, h.a1, h.a2⟩
  | 1, hv => obtain rfl := Option.some.inj hv; exact ⟨h.b0, h.b1, h.b2⟩
  | 2, hv => obtain rfl := Option.some.inj hv; exact ⟨h.c0, h.c1, h.c2⟩
  | i + 3, hv => simp at hv
theorem R3.two {W : World} {g : Nat} {a b c : Va} (h : R3 W g a b c) : RowAt W (some ⟨g, 0, none⟩) [a, b] := by
  refine .inr ⟨g, 0, rfl, ltV_of_cell h.a0, fun i v hv => ?_⟩
  match i, hv with
  | 0, hv => obtain rfl := Option.some.inj hv; exact ⟨h.a0, h.a1, h.a2⟩
  | 1, hv => obtain rfl := Option.some.inj hv; exact ⟨h.b0, h.b1, h.b2⟩
  | i + 2, hv => simp at hv
theorem zeroV_run (w : World) : (zeroValue 28).run Tryz.prog w = .ok (VV 0 0 ⟨#[]⟩) w := by kernel_rfl
theorem clear_one {w : World} {g : Nat} {a b c : Va} (h : R3 w g a b c) (ty : TypeId) (cap : Nat) :
    (Builtin.clear_ #[23] ty #[.slice (some ⟨g, 6, none⟩) 1 cap]).run Tryz.prog w = .ok (.tuple #[]) (((w.setCell ⟨g, 6, none⟩ (.int .i64 0)).setCell ⟨g, 7, none⟩ (.int .i64 0)).setCell ⟨g, 8, none⟩ (.string ⟨#[]⟩)) := by
  have hzc : (Builtin.zeroCells (VV 0 0 ⟨#[]⟩).cells 1).toList = [.int .i64 0, .int .i64 0, .string ⟨#[]⟩] := by kernel_rfl
  have hst := run_storeCells_cells (P := Tryz.prog) g 6 [.int .i64 0, .int .i64 0, .string ⟨#[]⟩] 0 w
    (fun j hj => by
      have : j = 0 ∨ j = 1 ∨ j = 2 := by simp at hj; omega
      rcases this with rfl | rfl | rfl
      · rw [h.c0]; rfl
      · rw [h.c1]; rfl
      · rw [h.c2]; rfl)
    (fun j _ => h.f _)
    (by intro v hv; simp at hv; rcases hv with rfl | rfl | rfl <;> rfl)
  have e : w.setCells g (6 + 0) [.int .i64 0, .int .i64 0, .string ⟨#[]⟩] = ((w.setCell ⟨g, 6, none⟩ (.int .i64 0)).setCell ⟨g, 7, none⟩ (.int .i64 0)).setCell ⟨g, 8, none⟩ (.string ⟨#[]⟩) := rfl
  rw [e] at hst
  simp [Builtin.clear_, run_underlying Tryz.underlying23, hzc, hst]
theorem below_put {n u o : Nat} {w W : World} {x y z : Value} (h : Below n w W) (hu : n ≤ u) : Below n w (((W.setCell ⟨u, o, none⟩ x).setCell ⟨u, o + 1, none⟩ y).setCell ⟨u, o + 2, none⟩ z) :=
  ((h.setCell hu _).setCell hu _).setCell hu _
set_option maxRecDepth 100000 in
set_option maxHeartbeats 4000000 in
theorem delete_mid (a b : Va) (g cap : Nat) (w : World) (hcap : 3 ≤ cap) (ha : a.s.size ≤ 9223372036854775807) (hb : b.s.size ≤ 9223372036854775807) (hna : nullP a = false) (hnb : nullP b = false)
    (hR : R3 w g a nullA b) :
    Calls Tryz.prog 27 #[.slice (some ⟨g, 0, none⟩) 3 cap, .func (.func 29) #[] #[]] w fun e w' => e = .returned (.slice (some ⟨g, 0, none⟩) 2 cap) ∧ Below g w w' ∧ R3 w' g a b nullA := by
  have eg := enters_of Tryz.func29 (by kernel_rfl) rfl
  unfold Enters at eg
  have hfine : Fine [a, nullA, b] := by
    intro v hv
    simp only [List.mem_cons, List.mem_nil_iff, or_false] at hv
    rcases hv with rfl | rfl | rfl
    · exact ha
    · decide
    · exact hb
  have HI := Lib.hid (indexNull_any (some ⟨g, 0, none⟩) cap [a, nullA, b] w hR.row hfine (by simp))
  have HRw := Lib.hid hR
  have HN := Lib.hid (And.intro hna hnb)
  have HG := Lib.hid (show g ≤ w.heap.size from Nat.le_of_lt (ltV_of_cell hR.a0))
  have HC := Lib.hid (fun w => isNull_p b w hb hnb)
  clear hfine hR hna hnb
  go_enter Tryz.func27, Tryz.ntmps27
  go_wp2_with fail
  refine HI.out.mono ?_
  rintro e w1 ⟨i, rfl, hb1, hi⟩
  have hi1 : i = 1 := by
    rcases hi with ⟨_, h⟩ | ⟨j, hj, rfl, h1, h2⟩
    · exact absurd h (by simp [nullP, nullA])
    · have : j = 0 ∨ j = 1 ∨ j = 2 := by simp at hj; omega
      rcases this with rfl | rfl | rfl
      · exact absurd h1 (by simp [HN.out.1])
      · rfl
      · exact absurd h2 (by simp [nullP, nullA])
  subst hi1
  have HB := Lib.hid (hb1.mono HG.out)
  have HR1 := Lib.hid (HRw.out.kept hb1)
  clear hb1 hi HI HRw
  go_wp2_with fail
  go_loopw [5, 6] (fun i j wr => ∃ k : Int, (k = 2 ∨ k = 3) ∧ i = .int .i64 (k - 1) ∧ j = .int .i64 k ∧ Hid (Below g w wr) ∧ Hid (k = 2 → R3 wr g a nullA b) ∧ Hid (k = 3 → R3 wr g a b b)) (fun _ j _ => 3 - (intOf j).toNat)
  case atStart => exact ⟨2, .inl rfl, rfl, rfl, HB, Lib.hid (fun _ => HR1.out), Lib.hid (fun h => absurd h (by decide))⟩
  case round =>
    obtain ⟨k, hk, rfl, rfl, HW, H0, H1⟩ := hrel
    clear HB HR1
    rcases hk with rfl | rfl
    · have HR := Lib.hid (H0.out rfl)
      clear H0 H1
      obtain ⟨_, _, _, _, _, _, q0, q1, q2, _⟩ := HR.out
      have HM := Lib.hid (Bx.new wr b.k b.n b.s)
      have HR2 := Lib.hid (HR.out.kept (ba wr (vbox b.k b.n b.s)))
      have HW2 := Lib.hid (HW.out.trans ((ba wr (vbox b.k b.n b.s)).mono (Nat.le_of_lt (show g < wr.heap.size from ltV_of_cell HR.out.a0))))
      obtain ⟨m0, m1, m2, _, _, _⟩ := HM.out
      go_wp2_with fail
      refine (HC.out _).mono ?_
      rintro e w2 ⟨rfl, hb2⟩
      have HM3 := Lib.hid (HM.out.kept hb2)
      have HR3 := Lib.hid (HR2.out.kept hb2)
      have HW3 := Lib.hid (HW2.out.trans (hb2.mono (Nat.le_of_lt (show g < (wr.alloc (vbox b.k b.n b.s)).heap.size from ltV_of_cell HR2.out.a0))))
      clear hb2 m0 m1 m2 q0 q1 q2
      obtain ⟨m0, m1, m2, _, _, _⟩ := HM3.out
      obtain ⟨_, _, _, n0, n1, n2, _, _, _, f⟩ := HR3.out
      have f3 := f 3
      have f4 := f 4
      have f5 := f 5
      clear f
      go_wp2_with fail
      go_roundw
      case rel => exact ⟨3, .inr rfl, rfl, rfl, Lib.hid (below_put HW3.out (Nat.le_refl _)), Lib.hid (fun h => absurd h (by decide)), Lib.hid (fun _ => HR3.out.put b)⟩
      case measure => simp [intOf]
    · have HR := Lib.hid (H1.out rfl)
      clear H0 H1
      have hcl := fun ty => clear_one HR.out ty (cap - 2)
      go_wp2_with (simp only [hcl])
      go_ret
      exact ⟨rfl, below_put HW.out (Nat.le_refl _), HR.out.put2 nullA⟩
end Go.Proofs.YtpokpiphnggfpaaGreatDoor
end
section
namespace Go.Proofs.YtpokpiphnggfpaaGreatDoor
open Go.RowKit Go.Shelf
attribute [local go_sem] Oper.semAt_some

theorem owns_three {W : World} {base : Nat} {v : Value} {a b c : Va} (h : W.ownsRow base 28 3 v 3 (rcells [a, b, c])) : ∃ g cap, v = .slice (some ⟨g, 0, none⟩) 3 cap ∧ base ≤ g ∧ 3 ≤ cap ∧ R3 W g a b c := by
  have hc : ∀ g cap, v = .slice (some ⟨g, 0, none⟩) 3 cap → 3 ≤ cap := by
    rintro g cap rfl
    rcases h.2 with ⟨h', _⟩ | ⟨g', cap', cur, h', _, hg, hnc, _⟩
    · simp at h'
    · simp only [Value.slice.injEq, Option.some.injEq, Addr.mk.injEq, and_true, true_and] at h'
      obtain ⟨rfl, rfl⟩ := h'
      exact hnc
  obtain ⟨g, cap, rfl, hb, _⟩ := h.form (by decide)
  exact ⟨g, cap, rfl, hb, hc _ _ rfl, h.cellAt 0 (by decide), h.cellAt 1 (by decide), h.cellAt 2 (by decide), h.cellAt 3 (by decide), h.cellAt 4 (by decide), h.cellAt 5 (by decide), h.cellAt 6 (by decide), h.cellAt 7 (by decide), h.cellAt 8 (by decide), fun o => h.frozenAt o⟩
theorem Bx.keptB {W W' : World} {n u : Nat} {k m : Int} {s : ByteArray} (h : Bx W u k m s) (hb : Below n W W') (hu : u < n) : Bx W' u k m s :=
  ⟨(hb.cell (p := ⟨u, 0, none⟩) hu).trans h.c0, (hb.cell (p := ⟨u, 1, none⟩) hu).trans h.c1, (hb.cell (p := ⟨u, 2, none⟩) hu).trans h.c2, (hb.frozen (p := ⟨u, 0, none⟩) hu).trans h.f0, (hb.frozen (p := ⟨u, 1, none⟩) hu).trans h.f1, (hb.frozen (p := ⟨u, 2, none⟩) hu).trans h.f2⟩
set_option maxRecDepth 100000 in
set_option maxHeartbeats 4000000 in
theorem fold_three (a b v : Va) (A : Option Addr) (c : Nat) (w : World) (hR : RowAt w A [a, nullA, b]) (ha : a.s.size ≤ 9223372036854775807) (hb : b.s.size ≤ 9223372036854775807) (hna : nullP a = false) (hnb : nullP b = false) (hwa : wrongA a = false) (hwb : wrongA b = false) (hv : reckA sumI a b = some v) :
    Calls Tryz.prog 15 #[.int .i64 3, .slice A 3 c] w fun e w' => e = .returned (.tuple #[VV v.k v.n v.s, .int .i64 0]) ∧ Below w.heap.size w w' := by
  have hf : Fine [a, b] := by
    intro v hv
    simp only [List.mem_cons, List.mem_nil_iff, or_false] at hv
    rcases hv with rfl | rfl
    · exact ha
    · exact hb
  have egn := enters_of Tryz.func29 (by kernel_rfl) rfl
  unfold Enters at egn
  have HRb := Lib.hid (Bx.new w 0 0 ⟨#[]⟩)
  have HB := Lib.hid (ba w (vbox 0 0 ⟨#[]⟩))
  have HC := Lib.hid (clone_any (c := c) (hR.kept (ba w (vbox 0 0 ⟨#[]⟩))) (by simp) (by simp))
  have HN := Lib.hid (show [a, b].any wrongA = false by simp [hwa, hwb])
  have HF := Lib.hid (fun g cap w (hR : RowAt w (some ⟨g, 0, none⟩) [a, b]) hcap => fold_two a b v (some ⟨g, 0, none⟩) cap w hR hcap ha hb hv)
  have HD := Lib.hid (fun g cap w hcap hR => delete_mid a b g cap w hcap ha hb hna hnb hR)
  have HW := Lib.hid (fun g cap w (hR : RowAt w (some ⟨g, 0, none⟩) [a, b]) => containsWrong_any (some ⟨g, 0, none⟩) cap [a, b] w hR hf (by simp))
  obtain ⟨vk, vn, vs⟩ := v
  clear hR hwa hwb hv hf
  go_enter Tryz.func15, Tryz.ntmps15
  go_upto_region 1 with fail
  have HWs := Lib.hid (show w.heap.size < (w.alloc (vbox 0 0 ⟨#[]⟩)).heap.size by simp)
  generalize hW : w.alloc (.cells #[.int .i64 0, .int .i64 0, .string ⟨#[]⟩] 28) = W at HRb HB HC HWs ⊢
  clear hW
  go_wp2_with fail
  refine HC.out.mono ?_
  rintro e w1 ⟨x, rfl, hown, hb1⟩
  obtain ⟨g, cap, rfl, hg, hcap, hr3⟩ := owns_three hown
  have HR1 := Lib.hid hr3
  have HG := Lib.hid hg
  have HRb1 := Lib.hid (HRb.out.kept hb1)
  have HB1 := Lib.hid (bt HB.out hb1)
  clear hb1 hown hr3 hg HC HRb HB
  go_wp2_with fail
  refine (HD.out g cap _ hcap HR1.out).mono ?_
  rintro e w2 ⟨rfl, hb2, hr3⟩
  have HR2 := Lib.hid hr3.two
  have HB2 := Lib.hid (HB1.out.trans (hb2.mono (Nat.le_trans (Nat.le_of_lt HWs.out) HG.out)))
  have HRb2 := Lib.hid (HRb1.out.keptB hb2 (Nat.lt_of_lt_of_le HWs.out HG.out))
  clear hb2 hr3 HR1 HB1 HRb1
  go_wp2_with fail
  refine (HW.out g cap _ HR2.out).mono ?_
  rintro e w3 ⟨rfl, hb3⟩
  rw [HN.out]
  have HR3 := Lib.hid (HR2.out.kept hb3)
  have HB3 := Lib.hid (bt HB2.out hb3)
  have HRb3 := Lib.hid (HRb2.out.kept hb3)
  clear hb3 HR2 HB2 HRb2
  go_wp2_with fail
  refine (HF.out g cap _ HR3.out (by omega)).mono ?_
  rintro e w4 ⟨rfl, hb4⟩
  have HB4 := Lib.hid (bt HB3.out hb4)
  have HRb4 := Lib.hid (HRb3.out.kept hb4)
  clear hb4 HR3 HB3 HRb3
  obtain ⟨r0, r1, r2, f0, f1, f2⟩ := HRb4.out
  go_wp2_with fail
  exact bodyPost_ret (v := .tuple #[VV vk vn vs, .int .i64 0]) (by simp [results, Tryz.results15, go_sem, r0, r1, r2]) rfl ⟨rfl, below_set3 HB4.out (by omega)⟩
end Go.Proofs.YtpokpiphnggfpaaGreatDoor
end
section
namespace Go.Proofs.YtpokpiphnggfpaaGreatDoor
open Go.RowKit Go.Shelf
attribute [local go_sem] Oper.semAt_some

theorem owns_bel {W W' : World} {base : Nat} {e : TypeId} {size n : Nat} {v : Value} {xs : List Value} (h : W.ownsRow base e size v n xs) (hb : Below W.heap.size W W') : W'.ownsRow base e size v n xs := by
  obtain ⟨h1, h2⟩ := h
  refine ⟨h1, ?_⟩
  rcases h2 with h | ⟨g, cap, cur, e1, hle, hg, h3⟩
  · exact .inl h
  · exact .inr ⟨g, cap, cur, e1, hle, (hb.block g (Array.getElem?_eq_some_iff.1 hg).1).trans hg, h3⟩
/-- What Row knows from round to round. -/
structure Rw (w W : World) (Ar : Option Addr) (r : List Va) (v : Value) (j : Nat) (xs : List Value) : Prop where
  bel : Below w.heap.size w W
  tab : TabV W
  tabs : Tabs W
  row : RowAt W Ar r
  own : W.ownsRow w.heap.size 28 3 v j xs
theorem Rw.next {w W W' : World} {Ar : Option Addr} {r : List Va} {v : Value} {j : Nat} {xs : List Value} (H : Rw w W Ar r v j xs) (hb : Below W.heap.size W W') : Rw w W' Ar r v j xs :=
  ⟨bt H.bel hb, H.tab.kept hb, H.tabs.kept hb, H.row.kept hb, owns_bel H.own hb⟩
theorem Rw.grow {w W W' : World} {Ar : Option Addr} {r : List Va} {v v' : Value} {j : Nat} {xs xs' : List Value} (H : Rw w W Ar r v j xs) (ho : W'.ownsRow w.heap.size 28 3 v' (j + 1) xs') (hg : W.grownBy W' v.ownBlock) (hT : ∀ W', Below w.heap.size w W' → TabV W' ∧ Tabs W' ∧ RowAt W' Ar r) : Rw w W' Ar r v' (j + 1) xs' :=
  have hb := H.bel.trans (below_grownV H.own H.bel.size hg)
  ⟨hb, (hT _ hb).1, (hT _ hb).2.1, (hT _ hb).2.2, ho⟩
theorem rcells_take {vs : List Va} {j : Nat} {v : Va} (h : vs[j]? = some v) : rcells (vs.take (j + 1)) = rcells (vs.take j) ++ [.int .i64 v.k, .int .i64 v.n, .string v.s] := by
  obtain ⟨hj, rfl⟩ := List.getElem?_eq_some_iff.1 h
  rw [List.take_succ_eq_append_getElem hj]
  unfold rcells
  rw [List.flatMap_append]
  rfl
set_option maxRecDepth 100000 in
set_option maxHeartbeats 4000000 in
theorem row_all (r : List Va) (Ar : Option Addr) (rc : Nat) (hrl : r.length ≤ 9223372036854775807) (hfine : Fine r) (l : List Ex) (vs : List Va) (A : Option Addr) (cap : Nat) (w : World) (hX : XsAt w.heap.size w l A) (hl : l.length ≤ 1000) (hvl : vs.length = l.length)
    (hs : ∀ (i : Nat) x, l[i]? = some x → AllSm x ∧ cnt x ≤ 999999) (hv : ∀ (i : Nat) x v, l[i]? = some x → vs[i]? = some v → ev2 r x = .tuple #[VV v.k v.n v.s, .int .i64 0])
    (hR : RowAt w Ar r) (hV : TabV w) (hT : Tabs w) :
    Calls Tryz.prog 16 #[.slice A l.length cap, .slice Ar r.length rc] w fun e w' => ∃ v, e = .returned (.tuple #[v, .int .i64 0]) ∧ w'.ownsRow w.heap.size 28 3 v l.length (rcells vs) ∧ Below w.heap.size w w' := by
  obtain ⟨i0, hi, hz0, hz1, hz2⟩ := info_valueP
  have HX := Lib.hid hX
  have HTT := Lib.hid (fun W' (hb : Below w.heap.size w W') => And.intro (hV.kept hb) (And.intro (hT.kept hb) (hR.kept hb)))
  have HI := Lib.hid (fun (i : Nat) (hh : Hd) (ll : List Ex) (v : Va) (hi : l[i]? = some (.mk hh ll)) (hv' : vs[i]? = some v) w1 A1 cap1 hx hle hr ht ht2 => by
    have := eval_any r Ar rc hrl hfine hh ll A1 cap1 w1 hx hle (hs i _ hi).1 (hs i _ hi).2 hr ht ht2
    rw [hv i _ _ hi hv'] at this
    exact this)
  have H0 := Lib.hid (show Rw w w Ar r (.slice none 0 0) 0 (rcells (vs.take 0)) from ⟨Below.refl _ _, hV, hT, hR, World.ownsRow_nil _ _ _ _⟩)
  have HN := Lib.hid hvl
  clear hX hR hV hT hs hv hvl
  go_enter Tryz.func16, Tryz.ntmps16
  go_wp2_with fail
  go_loopw [13, 6] (fun i v wr => ∃ j : Nat, j ≤ l.length ∧ i = .int .i64 j ∧ Hid (Rw w wr Ar r v j (rcells (vs.take j)))) (fun i _ _ => l.length - (intOf i).toNat)
  case atStart => exact ⟨0, Nat.zero_le _, rfl, H0⟩
  case round =>
    obtain ⟨j, hj, rfl, HS⟩ := hrel
    clear H0
    by_cases hlt : j < l.length
    · obtain ⟨x, hx⟩ : ∃ x, l[j]? = some x := ⟨_, List.getElem?_eq_getElem hlt⟩
      obtain ⟨hh, ll⟩ := x
      obtain ⟨y, hy⟩ : ∃ y, vs[j]? = some y := ⟨_, List.getElem?_eq_getElem (by rw [HN.out]; exact hlt)⟩
      obtain ⟨g, o, A1, c1, rfl, hg, hXc, hle, hx2⟩ := HX.out.at hx
      obtain ⟨a0, a1, a2, a3, a4, a5, a6, a7⟩ := hXc.of (HS.out.bel.block g hg)
      obtain ⟨yk, yn, ys⟩ := y
      have HC := Lib.hid (fun w1 (hb : Below w.heap.size w w1) => HI.out j hh ll _ hx hy w1 A1 c1 (XsAt.next hx2 hb) hle (HTT.out w1 hb).2.2 (HTT.out w1 hb).1 (HTT.out w1 hb).2.1)
      have HTk := Lib.hid (rcells_take hy)
      have HX8 := Lib.hid (MapKept.heap_alloc wr (xbox hh A1 ll.length c1)).1
      have HS1 := Lib.hid (HS.out.next (ba wr (xbox hh A1 ll.length c1)))
      clear hXc hx hx2 hy hg
      obtain ⟨⟨x0, x1, x2, x3, x4, x5, x6, x7⟩, _⟩ := cell8 HX8.out
      go_wp2_with fail
      refine (HC.out _ HS1.out.bel).mono ?_
      rintro e w2 ⟨rfl, hb⟩
      have HS2 := Lib.hid ((HS1.out.next hb).next (ba w2 (vbox yk yn ys)))
      have HBx := Lib.hid (Bx.new w2 yk yn ys)
      clear hb x0 x1 x2 x3 x4 x5 x6 x7 a0 a1 a2 a3 a4 a5 a6 a7
      obtain ⟨q0, q1, q2, _, _, _⟩ := HBx.out
      go_wp2_with (at_builtin; refine wpList_append_own _ rfl _ _ 23 rfl w.heap.size 28 i0 _ 3 32 Tryz.underlying23 hi hz0 hz1 hz2 rfl (by decide) _ j (rcells (vs.take j)) rfl (HS2.out.own.alloc _) ⟨w2.heap.size + 1, 0, none⟩ 1 1 [.int .i64 yk, .int .i64 yn, .string ys] rfl rfl ?c1 ?c2 ?c3 ?c4 ?c5 ?_)
      case c1 =>
        intro i u hu
        match i, hu with
        | 0, hu => simp at hu; subst hu; simp [Addr.add]
        | 1, hu => simp at hu; subst hu; simp [Addr.add]
        | 2, hu => simp at hu; subst hu; simp [Addr.add]
      case c2 => intro u hu; simp at hu; rcases hu with rfl | rfl | rfl <;> rfl
      case c3 => unfold maxLen; omega
      case c4 => omega
      case c5 => have := HS2.out.bel.size; simp at this ⊢; omega
      intro v' w3 hown' hg _
      rw [← HTk.out] at hown'
      have HS3 := Lib.hid ((HS2.out.next (ba _ _)).grow hown' hg HTT.out)
      clear hown' hg
      go_wp2_with fail
      go_roundw
      case rel => exact ⟨j + 1, by omega, by go_num, HS3⟩
      case measure => simp [intOf]; omega
    · have HE := Lib.hid (show vs.take j = vs from List.take_of_length_le (by rw [HN.out]; omega))
      have hjl : j = l.length := by omega
      subst hjl
      go_wp2_with fail
      have hown := HS.out.own
      rw [HE.out] at hown
      exact bodyPost_ret (v := .tuple #[_, .int .i64 0]) (by simp [results, Tryz.results16, go_sem]) rfl ⟨_, rfl, hown, HS.out.bel⟩
end Go.Proofs.YtpokpiphnggfpaaGreatDoor
end
