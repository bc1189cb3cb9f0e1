/-
  Rules of expressions: a row of operators whose parts the rule 'not' reads.
-/
import Derived.Test.YtfjimoccliejdaaGreatDoorE8
import Derived.StillTailTactics
import Derived.OrdersHeld
import Derived.Deep.RegionHeld3
section
namespace Go.Proofs.YtfjimoccliejdaaGreatDoor
open Go.RowKit Go.Shelf

set_option maxRecDepth 100000 in
set_option maxHeartbeats 2000000 in
theorem qnow_any (m : Nat) (s : Pa.Ps) (w : World) (h : RP m w s) :
  Calls Tryz.prog 22 #[.pointer (some ⟨m, 0, none⟩)] w fun e w' => (∃ x : TkA, s.tk = x.1 ∧ s.at = x.2 ∧ e = .returned (tkv x)) ∧ Below w.heap.size w w' := by
 have hb := ba w (.cells #[.int .i64 0, .string ⟨#[]⟩, .int .i64 0, .int .i64 0] 66)
 have HU := Lib.hid (show BxU _ _ _ _ from (MapKept.heap_alloc w (.cells #[.int .i64 0, .string ⟨#[]⟩, .int .i64 0, .int .i64 0] 66)).1)
 have HUl := Lib.hid (show w.heap.size < (w.alloc (.cells #[.int .i64 0, .string ⟨#[]⟩, .int .i64 0, .int .i64 0] 66)).heap.size by rw [World.size_alloc]; exact Nat.lt_succ_self _)
 have h' := h.next hb
 have HB := Lib.hid hb
 obtain ⟨x, g, off, c, n, k, c0, c1, c2, hk, hn, h1, h2, h3, c3, c4, c5, c6⟩ := h'.head
 have HE := Lib.hid (And.intro h1 h2)
 have hkI : (k : Int) < (n : Int) := by omega
 clear h h' hb h1 h2 h3 c2
 go_enter Tryz.func22, Tryz.ntmps22
 go_upto_region 1 with fail
 generalize w.alloc (.cells #[.int .i64 0, .string ⟨#[]⟩, .int .i64 0, .int .i64 0] 66) = W1 at HB HU HUl c0 c1 c3 c4 c5 c6 ⊢
 obtain ⟨U, hU⟩ : ∃ U, w.heap.size = U := ⟨_, rfl⟩
 rw [hU] at HU HUl ⊢
 have HUe := Lib.hid hU
 clear hU
 go_still_tail 10, (by kernel_rfl)
 change wpList _ _ _ _ _ W1.drew
 have HBd := Lib.hid (show Below w.heap.size w W1.drew from Below.drew HB.out)
 have HUd := Lib.hid (show BxU W1.drew U _ _ from HU.out)
 clear HB HU HUl c0 c1 c3 c4 c5 c6 hkI hk hn
 generalize W1.drew = W2 at HBd HUd ⊢
 have f0 := HUd.out.frozen 0
 have f1 := HUd.out.frozen 1
 have f2 := HUd.out.frozen 2
 have f3 := HUd.out.frozen 3
 have u0 : W2.cell? ⟨U, 0, none⟩ = some (.int .i64 0) := HUd.out.cell 0
 have u1 : W2.cell? ⟨U, 1, none⟩ = some (.string ⟨#[]⟩) := HUd.out.cell 1
 have u2 : W2.cell? ⟨U, 2, none⟩ = some (.int .i64 0) := HUd.out.cell 2
 have u3 : W2.cell? ⟨U, 3, none⟩ = some (.int .i64 0) := HUd.out.cell 3
 go_wp2_with fail
 refine bodyPost_ret (v := tkv x) (by simp [results, Tryz.results22, go_sem, u0, u1, u2, u3]) rfl ⟨⟨x, HE.out.1, HE.out.2, rfl⟩, onu_low (OnU.refl _ _).set.set.set.set (Nat.le_of_eq HUe.out) HBd.out⟩
set_option maxRecDepth 100000 in
set_option maxHeartbeats 2000000 in
theorem qis_any (m : Nat) (s : Pa.Ps) (b : ByteArray) (w : World) (h : RP m w s) :
  Calls Tryz.prog 95 #[.pointer (some ⟨m, 0, none⟩), .string b] w fun e w' => e = .returned (.bool (!s.bad && Pa.isW (bs b) s.tk)) ∧ Below w.heap.size w w' := by
 have HN := Lib.hid (qnow_any m s w h)
 have HP := Lib.hid h
 clear h
 go_enter Tryz.func95, Tryz.ntmps95
 go_wp2_with fail
 refine HN.out.mono ?_
 rintro e W1 ⟨⟨x, htk, _, rfl⟩, hb⟩
 have hb2 := ba W1 (.cells #[.int .i64 x.1.k, .string ⟨x.1.s.toArray⟩, .int .i64 x.1.n, .int .i64 x.2] 66)
 have c2 := ((HP.out.next hb).next hb2).c2
 have HB := Lib.hid (bt hb hb2)
 have HBt := Lib.hid (fun (o : Obj) => bt hb (ba W1 o))
 have HX := Lib.hid (show Pa.isW (bs b) s.tk = ((x.1.s == b.toList) && (x.1.k == 2 || x.1.k == 5)) by rw [htk, isW_eq])
 clear hb hb2 htk
 cases hbad : s.bad with
 | true =>
  rw [hbad] at c2
  go_wp2_with fail
  exact bodyPost_ret (v := .bool false) (by simp [results, Tryz.results95, go_sem]) rfl ⟨by rw [hbad]; simp, HB.out⟩
 | false =>
  rw [hbad] at c2
  go_wp2_with fail
  ·rename_i h1
   refine bodyPost_ret (v := .bool (x.1.s == b.toList)) (by simp [results, Tryz.results95, go_sem]) rfl ⟨?_, HBt.out _⟩
   rw [HX.out, hbad, show x.1.k = 2 by omega]; simp
  ·rename_i h1
   refine bodyPost_ret (v := .bool (x.1.s == b.toList)) (by simp [results, Tryz.results95, go_sem]) rfl ⟨?_, HBt.out _⟩
   rw [HX.out, hbad, show x.1.k = 5 by omega]; simp
  ·rename_i h1
   refine bodyPost_ret (v := .bool false) (by simp [results, Tryz.results95, go_sem]) rfl ⟨?_, HBt.out _⟩
   rw [HX.out, hbad, beq_eq_false_iff_ne.2 (show x.1.k ≠ 2 by omega), beq_eq_false_iff_ne.2 (show x.1.k ≠ 5 by omega)]; simp
def QkE (m : Nat) (w : World) (t : Bool) (s' : Pa.Ps) (e : Ending) (w' : World) : Prop := e = .returned (.bool t) ∧ RP m w' s' ∧ ButM m w w'
set_option maxRecDepth 100000 in
set_option maxHeartbeats 2000000 in
theorem qtake_any (m : Nat) (s : Pa.Ps) (b : Lx.B) (w : World) (h : RP m w s) :
  Calls Tryz.prog 51 #[.pointer (some ⟨m, 0, none⟩), .string ⟨b.toArray⟩] w (QkE m w (Pa.takeW b s).1 (Pa.takeW b s).2) := by
 have HI := Lib.hid (qis_any m s ⟨b.toArray⟩ w h)
 rw [bs_arr] at HI
 have HP := Lib.hid h
 have hE : Pa.takeW b s = if (!s.bad && Pa.isW b s.tk) = true then (true, ⟨s.ts.tail, false⟩) else (false, s) := rfl
 rw [hE]
 obtain ⟨t, ht⟩ : ∃ t, (!s.bad && Pa.isW b s.tk) = t := ⟨_, rfl⟩
 rw [ht] at HI ⊢
 clear h hE
 cases t with
 | false =>
  clear ht
  rw [if_neg (by simp)]
  go_enter Tryz.func51, Tryz.ntmps51
  go_wp2_with fail
  refine HI.out.mono ?_
  rintro e w1 ⟨rfl, hb⟩
  have HE := Lib.hid (show RP m w1 s ∧ ButM m w w1 from ⟨HP.out.next hb, ButM.of hb⟩)
  clear hb
  go_wp2_with fail
  exact bodyPost_ret (v := .bool false) (by simp [results, Tryz.results51, go_sem]) rfl ⟨rfl, HE.out.1, HE.out.2⟩
 | true =>
  rw [if_pos rfl]
  rw [Bool.and_eq_true, Bool.not_eq_true'] at ht
  have HK := Lib.hid (Pa.isW_k ht.2)
  have HBd := Lib.hid ht.1
  clear ht
  go_enter Tryz.func51, Tryz.ntmps51
  go_wp2_with fail
  refine HI.out.mono ?_
  rintro e w1 ⟨rfl, hb⟩
  have HP1 := Lib.hid (HP.out.next hb)
  have HB := Lib.hid hb
  clear hb
  obtain ⟨x, g, off, c, n, k, c0, c1, c2, hk, hn, _⟩ := HP1.out.head
  have hk5 : (k : Int) < 5000 := by omega
  have HT := Lib.hid (HP1.out.took HK.out c1)
  have f1 := HP1.out.frozen 1
  clear c0 c2 hk hn
  go_wp2_with fail
  have hT := HT.out
  rw [HBd.out] at hT
  exact bodyPost_ret (v := .bool true) (by simp [results, Tryz.results51, go_sem]) rfl ⟨rfl, hT.1, (ButM.of HB.out).trans hT.2⟩
def QuE (m : Nat) (w : World) (s' : Pa.Ps) (e : Ending) (w' : World) : Prop := e = .returned (.tuple #[]) ∧ RP m w' s' ∧ ButM m w w'
set_option maxRecDepth 100000 in
set_option maxHeartbeats 2000000 in
theorem qmust_any (m : Nat) (s : Pa.Ps) (b : Lx.B) (w : World) (h : RP m w s) :
  Calls Tryz.prog 52 #[.pointer (some ⟨m, 0, none⟩), .string ⟨b.toArray⟩] w (QuE m w (Pa.mustW b s)) := by
 have HT := Lib.hid (qtake_any m s b w h)
 have hno := (Pa.takeW_le b h.fin).2.2
 have hE : Pa.mustW b s = if (Pa.takeW b s).1 then (Pa.takeW b s).2 else ⟨s.ts, true⟩ := rfl
 rw [hE]
 obtain ⟨t, ht⟩ : ∃ t, (Pa.takeW b s).1 = t := ⟨_, rfl⟩
 obtain ⟨s', hs'⟩ : ∃ s', (Pa.takeW b s).2 = s' := ⟨_, rfl⟩
 rw [ht, hs'] at HT hno ⊢
 clear hE ht hs' h
 cases t with
 | true =>
  rw [if_pos rfl]
  clear hno
  go_enter Tryz.func52, Tryz.ntmps52
  go_wp2_with fail
  refine HT.out.mono ?_
  rintro e w' ⟨rfl, hR, hM⟩
  have HE := Lib.hid (And.intro hR hM)
  clear hR hM
  go_wp2_with fail
  exact bodyPost_ret (v := .tuple #[]) (by simp [results, Tryz.results52, go_sem]) rfl ⟨rfl, HE.out.1, HE.out.2⟩
 | false =>
  rw [if_neg (by simp)]
  obtain rfl := hno rfl
  clear hno
  go_enter Tryz.func52, Tryz.ntmps52
  go_wp2_with fail
  refine HT.out.mono ?_
  rintro e w' ⟨rfl, hR, hM⟩
  have HE := Lib.hid (show RP m (w'.setCell ⟨m, 2, none⟩ (.bool true)) ⟨s'.ts, true⟩ ∧ ButM m w (w'.setCell ⟨m, 2, none⟩ (.bool true)) from ⟨hR.stuck.1, hM.trans hR.stuck.2⟩)
  have c2 := hR.c2
  have f2 := hR.frozen 2
  clear hR hM
  go_wp2_with fail
  exact bodyPost_ret (v := .tuple #[]) (by simp [results, Tryz.results52, go_sem]) rfl ⟨rfl, HE.out.1, HE.out.2⟩
end Go.Proofs.YtfjimoccliejdaaGreatDoor
end
section
namespace Go.Proofs.YtfjimoccliejdaaGreatDoor
open Go.RowKit Go.Shelf

theorem mustK_cases (k : Nat) (s : Pa.Ps) : Pa.mustK k s = if (!s.bad && s.tk.k == k) = true then (s.tk, ⟨s.ts.tail, false⟩) else (Pa.noTok, ⟨s.ts, true⟩) := by
 unfold Pa.mustK Pa.takeK
 split <;> rename_i h <;> split at h <;> simp_all
abbrev zcs4 : Array Value := #[.int .i64 0, .string ⟨#[]⟩, .int .i64 0, .int .i64 0]
set_option maxRecDepth 100000 in
set_option maxHeartbeats 4000000 in
theorem qkind_any (m : Nat) (s : Pa.Ps) (k : Nat) (hk : k ≠ 6) (w : World) (h : RP m w s) :
  Calls Tryz.prog 32 #[.pointer (some ⟨m, 0, none⟩), .int .i64 k] w fun e w' => (∃ y : TkA, e = .returned (tkv y) ∧ y.1 = (Pa.mustK k s).1) ∧ RP m w' (Pa.mustK k s).2 ∧ ButM m w w' := by
 have hb0 := ba w (.cells zcs4 66)
 have HU := Lib.hid (show BxU _ w.heap.size zcs4 66 from (MapKept.heap_alloc w (.cells zcs4 66)).1)
 have HB := Lib.hid hb0
 have HP := Lib.hid (h.next hb0)
 have HmU := Lib.hid h.lt
 have HSz := Lib.hid (show (w.alloc (.cells zcs4 66)).heap.size = w.heap.size + 1 from World.size_alloc _ _)
 obtain ⟨Z, hZ⟩ : ∃ Z, Pa.mustK k s = Z := ⟨_, rfl⟩
 rw [hZ]
 have HZ := Lib.hid (hZ.symm.trans (mustK_cases k s))
 clear h hb0 hZ
 go_enter Tryz.func32, Tryz.ntmps32
 go_wp2_with fail
 generalize w.alloc (.cells #[.int .i64 0, .string ⟨#[]⟩, .int .i64 0, .int .i64 0] 66) = W1 at HB HU HP HSz ⊢
 obtain ⟨U, hU⟩ : ∃ U, w.heap.size = U := ⟨_, rfl⟩
 rw [hU] at HU HmU HSz ⊢
 have HUe := Lib.hid hU
 clear hU
 refine (qnow_any m s W1 HP.out).mono ?_
 rintro e W2 ⟨⟨x, htk, _, rfl⟩, hb⟩
 have hb2 := ba W2 (.cells #[.int .i64 x.1.k, .string ⟨x.1.s.toArray⟩, .int .i64 x.1.n, .int .i64 x.2] 66)
 have HP2 := Lib.hid ((HP.out.next hb).next hb2)
 have HM2 := Lib.hid (show ButM m w (W2.alloc (.cells #[.int .i64 x.1.k, .string ⟨x.1.s.toArray⟩, .int .i64 x.1.n, .int .i64 x.2] 66)) from ButM.of (bt HB.out (bt hb hb2)))
 have HU2 := Lib.hid ((HU.out.next hb).next hb2)
 have HV2 := Lib.hid (show BxU _ W2.heap.size #[.int .i64 x.1.k, .string ⟨x.1.s.toArray⟩, .int .i64 x.1.n, .int .i64 x.2] 66 from (MapKept.heap_alloc W2 (.cells #[.int .i64 x.1.k, .string ⟨x.1.s.toArray⟩, .int .i64 x.1.n, .int .i64 x.2] 66)).1)
 have HVm := Lib.hid (show W2.heap.size ≠ m by have := hb.size; have := HSz.out; have := HmU.out; omega)
 have HVU := Lib.hid (show W2.heap.size ≠ U by have := hb.size; have := HSz.out; omega)
 have HX := Lib.hid htk
 clear hb hb2 htk
 go_upto_region 2 with fail
 generalize W2.alloc (.cells #[.int .i64 x.1.k, .string ⟨x.1.s.toArray⟩, .int .i64 x.1.n, .int .i64 x.2] 66) = W3 at HP2 HM2 HU2 HV2 ⊢
 generalize W2.heap.size = V at HV2 HVm HVU ⊢
 obtain ⟨y, g, off, c, n, kk, c0, c1, c2, hkn, hn, _⟩ := HP2.out.head
 have hk5 : (kk : Int) < 5000 := by omega
 have f1 := HP2.out.frozen 1
 have f2 := HP2.out.frozen 2
 have v0 : W3.cell? ⟨V, 0, none⟩ = some (.int .i64 x.1.k) := HV2.out.cell 0
 have v1 : W3.cell? ⟨V, 1, none⟩ = some (.string ⟨x.1.s.toArray⟩) := HV2.out.cell 1
 have v2 : W3.cell? ⟨V, 2, none⟩ = some (.int .i64 x.1.n) := HV2.out.cell 2
 have v3 : W3.cell? ⟨V, 3, none⟩ = some (.int .i64 x.2) := HV2.out.cell 3
 have u0 : W3.cell? ⟨U, 0, none⟩ = some (.int .i64 0) := HU2.out.cell 0
 have u1 : W3.cell? ⟨U, 1, none⟩ = some (.string ⟨#[]⟩) := HU2.out.cell 1
 have u2 : W3.cell? ⟨U, 2, none⟩ = some (.int .i64 0) := HU2.out.cell 2
 have u3 : W3.cell? ⟨U, 3, none⟩ = some (.int .i64 0) := HU2.out.cell 3
 have fu0 := HU2.out.frozen 0
 have fu1 := HU2.out.frozen 1
 have fu2 := HU2.out.frozen 2
 have fu3 := HU2.out.frozen 3
 have hmU : m ≠ U := Nat.ne_of_lt HmU.out
 have hUm : U ≠ m := fun e => hmU e.symm
 have hVm := HVm.out
 have hVU := HVU.out
 have hneq : ((x.1.k : Int) != (k : Int)) = !(x.1.k == k) := by unfold bne; rw [int_k]
 cases hbd : s.bad with
 | true =>
  rw [hbd] at c2
  have HZe := Lib.hid (show Z = (Pa.noTok, ⟨s.ts, true⟩) by rw [HZ.out, if_neg (by rw [hbd]; simp)])
  clear c0 c1 hkn hn hk5 hneq
  go_wp2_with fail
  have hS := HP2.out.stuck
  exact bodyPost_ret (v := .agg zcs4) (by simp [results, Tryz.results32, go_sem, u0, u1, u2, u3]) rfl (by rw [HZe.out]; exact ⟨⟨(Pa.noTok, 0), rfl, rfl⟩, (OnU.refl _ _).set.set.set.set.rp HmU.out hS.1, (OnU.refl _ _).set.set.set.set.but (Nat.le_of_eq HUe.out) (HM2.out.trans hS.2)⟩)
 | false =>
  rw [hbd] at c2
  cases hq : (x.1.k == k) with
  | false =>
   have HZe := Lib.hid (show Z = (Pa.noTok, ⟨s.ts, true⟩) by rw [HZ.out, if_neg (by rw [HX.out, hq]; simp)])
   rw [hq] at hneq
   simp only [Bool.not_false] at hneq
   clear c0 c1 hkn hn hk5
   go_wp2_with fail
   have hS := HP2.out.stuck
   exact bodyPost_ret (v := .agg zcs4) (by simp [results, Tryz.results32, go_sem, u0, u1, u2, u3]) rfl (by rw [HZe.out]; exact ⟨⟨(Pa.noTok, 0), rfl, rfl⟩, (OnU.refl _ _).set.set.set.set.rp HmU.out hS.1, (OnU.refl _ _).set.set.set.set.but (Nat.le_of_eq HUe.out) (HM2.out.trans hS.2)⟩)
  | true =>
   have HZe := Lib.hid (show Z = (x.1, ⟨s.ts.tail, false⟩) by rw [HZ.out, if_pos (by rw [hbd, HX.out, hq]; rfl), HX.out])
   rw [hq] at hneq
   simp only [Bool.not_true] at hneq
   have HT := Lib.hid (HP2.out.took (by rw [HX.out, beq_iff_eq.1 hq]; exact hk) c1)
   have HBd := Lib.hid hbd
   have HN := Lib.hid hn
   clear c0 hkn hn hq hbd
   go_wp2_with fail
   have hT := HT.out
   rw [HBd.out] at hT
   exact bodyPost_ret (v := tkv x) (by simp [results, Tryz.results32, go_sem, u0, u1, u2, u3]) rfl (by rw [HZe.out]; exact ⟨⟨x, rfl, rfl⟩, (OnU.refl _ _).set.set.set.set.rp HmU.out hT.1, (OnU.refl _ _).set.set.set.set.but (Nat.le_of_eq HUe.out) (HM2.out.trans hT.2)⟩)
end Go.Proofs.YtfjimoccliejdaaGreatDoor
end
section
namespace Go.Proofs.YtfjimoccliejdaaGreatDoor
open Go.RowKit Go.Shelf

abbrev Bt (a b : Nat) (k : Nat) : Prop := a ≤ k ∧ k < b
theorem OnU.lay {α : Type} {P : Lay α} {sz : Nat} (ok : LayOk P sz) {U a b : Nat} {w w' : World} {x : α} {c : List Value} (h : OnU U w w') (hU : U < a ∨ b ≤ U) (hx : P (Bt a b) w x c) : P (Bt a b) w' x c :=
 ok.go (fun k hk => h.block k (by have := hk.1; have := hk.2; omega)) (fun _ hk => hk) hx
theorem LayOk.wide {α : Type} {P : Lay α} {sz : Nat} (ok : LayOk P sz) {a b a' b' : Nat} {w : World} {x : α} {c : List Value} (ha : a' ≤ a) (hb : b ≤ b') (h : P (Bt a b) w x c) : P (Bt a' b') w x c :=
 ok.go (fun _ _ => rfl) (fun _ hk => ⟨Nat.le_trans ha hk.1, Nat.lt_of_lt_of_le hk.2 hb⟩) h
theorem LayOk.keep {α : Type} {P : Lay α} {sz : Nat} (ok : LayOk P sz) {a b : Nat} {w w' : World} {x : α} {c : List Value} (hb : Below w.heap.size w w') (hs : b ≤ w.heap.size) (h : P (Bt a b) w x c) : P (Bt a b) w' x c :=
 ok.go (fun k hk => hb.block k (Nat.lt_of_lt_of_le hk.2 hs)) (fun _ hk => hk) h
theorem LayOk.keepM {α : Type} {P : Lay α} {sz : Nat} (ok : LayOk P sz) {m a b : Nat} {w w' : World} {x : α} {c : List Value} (hb : ButM m w w') (hm : m < a) (hs : b ≤ w.heap.size) (h : P (Bt a b) w x c) : P (Bt a b) w' x c :=
 ok.go (fun k hk => hb.block k (Nat.lt_of_lt_of_le hk.2 hs) (by have := hk.1; omega)) (fun _ hk => hk) h
theorem RuE.fin {α : Type} {P : Lay α} {sz : Nat} (ok : LayOk P sz) {m U : Nat} {w Wn W' : World} {x : α} {s' : Pa.Ps} {c : List Value} (hU : w.heap.size = U) (hm : m < U) (hM : ButM m w Wn) (hS : RS m Wn s') (hX : P (Bt (U + 1) Wn.heap.size) Wn x c) (hO : OnU U Wn W') :
  RuE P m w x s' (.returned (.agg c.toArray)) W' :=
 ⟨c, rfl, ok.wide (by omega) (by rw [hO.size]; exact Nat.le_refl _) (hO.lay ok (.inl (Nat.lt_succ_self _)) hX), hO.rs hm hS, hO.but (by omega) hM⟩
abbrev cs8 : Array Value := #[.int .i64 0, .int .i64 0, .int .i64 0, .int .i64 0, .string ⟨#[]⟩, .string ⟨#[]⟩, .string ⟨#[]⟩, .slice none 0 0]
set_option maxRecDepth 100000 in
theorem pmade_any (k n : Int) (A : Option Addr) (len cap : Nat) (w : World) :
  Calls Tryz.prog 112 #[.int .i64 k, .int .i64 n, .slice A len cap] w fun e w' => e = .returned (XV ⟨k, n, 0, 0, ⟨#[]⟩, ⟨#[]⟩, ⟨#[]⟩⟩ A len cap) ∧ Below w.heap.size w w' := by
 go_enter Tryz.func112, Tryz.ntmps112
 go_wp2_with fail
 exact bodyPost_ret (v := XV ⟨k, n, 0, 0, ⟨#[]⟩, ⟨#[]⟩, ⟨#[]⟩⟩ A len cap) (by simp [results, Tryz.results112, go_sem]) rfl ⟨rfl, ba w _⟩
set_option maxRecDepth 100000 in
theorem pnull_any (m : Nat) (s : Pa.Ps) (w : World) (h : RS m w s) :
  Calls Tryz.prog 138 #[.pointer (some ⟨m, 0, none⟩)] w fun e w' => e = .returned (.int .i64 ((Pa.nullP s).1 : Nat)) ∧ RS m w' (Pa.nullP s).2 ∧ ButM m w w' := by
 have HT := Lib.hid (take_any m s Pa.wNOT w h)
 have hE : Pa.nullP s = (if (Pa.takeW Pa.wNOT s).1 then 17 else 16, Pa.mustW Pa.wNULL (Pa.takeW Pa.wNOT s).2) := rfl
 rw [hE]
 obtain ⟨t, ht⟩ : ∃ t, (Pa.takeW Pa.wNOT s).1 = t := ⟨_, rfl⟩
 obtain ⟨s', hs'⟩ : ∃ s', (Pa.takeW Pa.wNOT s).2 = s' := ⟨_, rfl⟩
 rw [ht, hs'] at HT ⊢
 clear hE ht hs' h
 cases t with
 | true =>
  go_enter Tryz.func138, Tryz.ntmps138
  go_wp2_with fail
  refine HT.out.mono ?_
  rintro e w1 ⟨rfl, hR, hM⟩
  have HM := Lib.hid hM
  have HN := Lib.hid (must_any m s' Pa.wNULL w1 hR)
  clear hR hM
  go_wp2_with fail
  refine HN.out.mono ?_
  rintro e w2 ⟨rfl, hR, hM⟩
  have HE := Lib.hid (And.intro hR (HM.out.trans hM))
  clear hR hM
  go_wp2_with fail
  exact bodyPost_ret (v := .int .i64 17) (by simp [results, Tryz.results138, go_sem]) rfl ⟨rfl, HE.out⟩
 | false =>
  go_enter Tryz.func138, Tryz.ntmps138
  go_wp2_with fail
  refine HT.out.mono ?_
  rintro e w1 ⟨rfl, hR, hM⟩
  have HM := Lib.hid hM
  have HN := Lib.hid (must_any m s' Pa.wNULL w1 hR)
  clear hR hM
  go_wp2_with fail
  refine HN.out.mono ?_
  rintro e w2 ⟨rfl, hR, hM⟩
  have HE := Lib.hid (And.intro hR (HM.out.trans hM))
  clear hR hM
  go_wp2_with fail
  exact bodyPost_ret (v := .int .i64 16) (by simp [results, Tryz.results138, go_sem]) rfl ⟨rfl, HE.out⟩
theorem colP_eq (s : Pa.Ps) : Pa.colP s = if (Pa.takeW [46] (Pa.nameP s).2).1 then (Pa.exCol (Pa.nameP s).1 (Pa.nameP (Pa.takeW [46] (Pa.nameP s).2).2).1, (Pa.nameP (Pa.takeW [46] (Pa.nameP s).2).2).2) else (Pa.exCol [] (Pa.nameP s).1, (Pa.nameP s).2) := rfl
set_option maxRecDepth 100000 in
theorem pcol_any (m : Nat) (s : Pa.Ps) (w : World) (h : RS m w s) :
  Calls Tryz.prog 81 #[.pointer (some ⟨m, 0, none⟩)] w (RuE exC m w (Pa.colP s).1 (Pa.colP s).2) := by
 have HB := Lib.hid (ba w (.cells #[.int .i64 0, .int .i64 0, .int .i64 0, .int .i64 0, .string ⟨#[]⟩, .string ⟨#[]⟩, .string ⟨#[]⟩, .slice none 0 0] 37))
 have HU := Lib.hid (show BxU _ _ #[.int .i64 0, .int .i64 0, .int .i64 0, .int .i64 0, .string ⟨#[]⟩, .string ⟨#[]⟩, .string ⟨#[]⟩, .slice none 0 0] 37 from (MapKept.heap_alloc w (.cells #[.int .i64 0, .int .i64 0, .int .i64 0, .int .i64 0, .string ⟨#[]⟩, .string ⟨#[]⟩, .string ⟨#[]⟩, .slice none 0 0] 37)).1)
 have H1 := Lib.hid (h.next HB.out)
 have hmU := h.lt
 have HFin := Lib.hid h.fin
 obtain ⟨U, hU⟩ : ∃ U, w.heap.size = U := ⟨_, rfl⟩
 have HUl := Lib.hid hU
 rw [hU] at HU hmU
 have HmU := Lib.hid hmU
 obtain ⟨X, hX⟩ : ∃ X, Pa.colP s = X := ⟨_, rfl⟩
 rw [hX]
 have HX := Lib.hid hX
 clear h hX hmU
 go_enter Tryz.func81, Tryz.ntmps81
 go_wp2_with fail
 generalize w.alloc (.cells #[.int .i64 0, .int .i64 0, .int .i64 0, .int .i64 0, .string ⟨#[]⟩, .string ⟨#[]⟩, .string ⟨#[]⟩, .slice none 0 0] 37) = W1 at HB HU H1 ⊢
 clear hU
 have HM1 := Lib.hid (show ButM m w W1 from ButM.of HB.out)
 have HT1 := Lib.hid (pname_any m s W1 H1.out)
 obtain ⟨⟨b1, s1⟩, hs1⟩ : ∃ q, Pa.nameP s = q := ⟨_, rfl⟩
 rw [hs1] at HT1
 have HK1 := Lib.hid hs1
 clear hs1
 simp only at HT1
 go_wp2_with fail
 refine HT1.out.mono ?_
 rintro e v1 ⟨rfl, hR, hM⟩
 have HMn1 := Lib.hid (HM1.out.trans hM)
 have HUn1 := Lib.hid (HU.out.but HmU.out hM)
 have HRn1 := Lib.hid hR
 clear hR hM
 have HT2 := Lib.hid (take_any m s1 [46] v1 HRn1.out)
 obtain ⟨t2, ht⟩ : ∃ t, (Pa.takeW [46] s1).1 = t := ⟨_, rfl⟩
 obtain ⟨s2, hs⟩ : ∃ s, (Pa.takeW [46] s1).2 = s := ⟨_, rfl⟩
 have hno2 := (Pa.takeW_le [46] HRn1.out.fin).2.2
 rw [ht, hs] at HT2 hno2
 have HK2 := Lib.hid (show Pa.takeW [46] s1 = (t2, s2) by rw [← ht, ← hs])
 clear ht hs
 cases t2 with
 | true =>
  clear hno2
  go_wp2_with fail
  refine HT2.out.mono ?_
  rintro e v2 ⟨rfl, hR, hM⟩
  have HMn2 := Lib.hid (HMn1.out.trans hM)
  have HUn2 := Lib.hid (HUn1.out.but HmU.out hM)
  have HRn2 := Lib.hid hR
  clear hR hM
  have HT3 := Lib.hid (pname_any m s2 v2 HRn2.out)
  obtain ⟨⟨b3, s3⟩, hs3⟩ : ∃ q, Pa.nameP s2 = q := ⟨_, rfl⟩
  rw [hs3] at HT3
  have HK3 := Lib.hid hs3
  clear hs3
  simp only at HT3
  go_wp2_with fail
  refine HT3.out.mono ?_
  rintro e v3 ⟨rfl, hR, hM⟩
  have HMn3 := Lib.hid (HMn2.out.trans hM)
  have HUn3 := Lib.hid (HUn2.out.but HmU.out hM)
  have HRn3 := Lib.hid hR
  clear hR hM
  go_wp2_with fail
  refine (ev_column (t := ⟨b1.toArray⟩) (c := ⟨b3.toArray⟩) (w := v3)).mono ?_
  rintro e w4 ⟨u, rfl, hb, rfl⟩
  have HM4 := Lib.hid (HMn3.out.trans (ButM.of hb))
  have hU4 := HUn3.out.next hb
  have HR4 := Lib.hid (HRn3.out.next hb)
  obtain ⟨c0, c1, c2, c3, c4, c5, c6, c7⟩ := cl8 (w := w4) (hU4)
  have fc0 := (hU4).frozen 0
  have fc1 := (hU4).frozen 1
  have fc2 := (hU4).frozen 2
  have fc3 := (hU4).frozen 3
  have fc4 := (hU4).frozen 4
  have fc5 := (hU4).frozen 5
  have fc6 := (hU4).frozen 6
  have fc7 := (hU4).frozen 7
  have HXe := Lib.hid (show X = (Pa.exCol b1 b3, s3) by rw [← HX.out]; simp only [colP_eq, HK1.out, HK2.out, HK3.out, if_true])
  clear hb hU4
  go_wp2_with fail
  exact bodyPost_ret (v := XV (hdC ⟨b1.toArray⟩ ⟨b3.toArray⟩) none 0 0) (by simp [results, Tryz.results81, go_sem, c0, c1, c2, c3, c4, c5, c6, c7]) rfl (by rw [HXe.out]; exact RuE.fin (c := xcell (hdC ⟨b1.toArray⟩ ⟨b3.toArray⟩, none, 0, 0)) exC_ok HUl.out HmU.out HM4.out HR4.out (exC_leaf _ _ _) (OnU.refl _ _).set.set.set.set.set.set.set.set)
 | false =>
  obtain rfl := hno2 rfl
  clear hno2
  go_wp2_with fail
  refine HT2.out.mono ?_
  rintro e v2 ⟨rfl, hR, hM⟩
  have HMn2 := Lib.hid (HMn1.out.trans hM)
  have HUn2 := Lib.hid (HUn1.out.but HmU.out hM)
  have HRn2 := Lib.hid hR
  clear hR hM
  go_wp2_with fail
  refine (ev_column (t := ⟨#[]⟩) (c := ⟨b1.toArray⟩) (w := v2)).mono ?_
  rintro e w4 ⟨u, rfl, hb, rfl⟩
  have HM4 := Lib.hid (HMn2.out.trans (ButM.of hb))
  have hU4 := HUn2.out.next hb
  have HR4 := Lib.hid (HRn2.out.next hb)
  obtain ⟨c0, c1, c2, c3, c4, c5, c6, c7⟩ := cl8 (w := w4) (hU4)
  have fc0 := (hU4).frozen 0
  have fc1 := (hU4).frozen 1
  have fc2 := (hU4).frozen 2
  have fc3 := (hU4).frozen 3
  have fc4 := (hU4).frozen 4
  have fc5 := (hU4).frozen 5
  have fc6 := (hU4).frozen 6
  have fc7 := (hU4).frozen 7
  have HXe := Lib.hid (show X = (Pa.exCol [] b1, s2) by rw [← HX.out]; simp only [colP_eq, HK1.out, HK2.out, Bool.false_eq_true, if_false])
  clear hb hU4
  go_wp2_with fail
  exact bodyPost_ret (v := XV (hdC ⟨#[]⟩ ⟨b1.toArray⟩) none 0 0) (by simp [results, Tryz.results81, go_sem, c0, c1, c2, c3, c4, c5, c6, c7]) rfl (by rw [HXe.out]; exact RuE.fin (c := xcell (hdC ⟨#[]⟩ ⟨b1.toArray⟩, none, 0, 0)) exC_ok HUl.out HmU.out HM4.out HR4.out (exC_leaf _ _ _) (OnU.refl _ _).set.set.set.set.set.set.set.set)
end Go.Proofs.YtfjimoccliejdaaGreatDoor
end
section
namespace Go.Proofs.YtfjimoccliejdaaGreatDoor
open Go.RowKit Go.Shelf

theorem operP_at {ops : List Nat} {k op : Nat} (h : ops[k]? = some op) (s : Pa.Ps) : Pa.operP (ops.drop k) s = if (Pa.takeW (Pa.begins op) s).1 then (if op = 16 then Pa.nullP (Pa.takeW (Pa.begins op) s).2 else (op, (Pa.takeW (Pa.begins op) s).2)) else Pa.operP (ops.drop (k + 1)) s := by
 obtain ⟨hk, rfl⟩ := List.getElem?_eq_some_iff.1 h
 rw [List.drop_eq_getElem_cons hk, Pa.operP]
set_option maxRecDepth 100000 in
set_option maxHeartbeats 1000000 in
theorem oper_any (m : Nat) (s : Pa.Ps) (ops : List Nat) (g c : Nat) (w : World) (h : RS m w s) (hops : ∀ op ∈ ops, op < 17) (hO : ∀ (j op : Nat), ops[j]? = some op → w.cell? ⟨g, j, none⟩ = some (.int .i64 op)) (hgm : m < g) (hl : ops.length ≤ 100) :
  Calls Tryz.prog 110 #[.pointer (some ⟨m, 0, none⟩), .slice (some ⟨g, 0, none⟩) ops.length c] w fun e w' => e = .returned (.int .i64 ((Pa.operP ops s).1 : Nat)) ∧ RS m w' (Pa.operP ops s).2 ∧ ButM m w w' := by
 obtain ⟨X, hX⟩ : ∃ X, Pa.operP ops s = X := ⟨_, rfl⟩
 rw [hX]
 have HX := Lib.hid hX
 have H1 := Lib.hid h
 have HOps := Lib.hid hops
 have HO := Lib.hid hO
 clear h hX hops hO
 go_enter Tryz.func110, Tryz.ntmps110
 go_wp2_with fail
 go_loopw [9] (fun i W => ∃ k : Nat, k ≤ ops.length ∧ i = .int .i64 k ∧ Hid (RS m W s) ∧ Hid (ButM m w W) ∧ Hid (Pa.operP (ops.drop k) s = X)) (fun i _ => ops.length - (intOf i).toNat)
 case atStart => exact ⟨0, Nat.zero_le _, rfl, H1, Lib.hid (ButM.refl _ _), Lib.hid (by rw [List.drop_zero]; exact HX.out)⟩
 case round =>
  obtain ⟨k, hk, rfl, HR, HM, HA⟩ := hrel
  by_cases hlt : k < ops.length
  ·obtain ⟨op, hop⟩ : ∃ op, ops[k]? = some op := ⟨ops[k], List.getElem?_eq_getElem hlt⟩
   have ho17 := HOps.out op (List.mem_of_getElem? hop)
   have hc := HM.out.cell (Nat.ne_of_gt hgm) (HO.out k op hop)
   have ht := HR.out.tab op ho17
   have HT := Lib.hid (take_any m s (Pa.begins op) wr HR.out)
   have hA := HA.out
   rw [operP_at hop] at hA
   have hno := (Pa.takeW_le (Pa.begins op) HR.out.fin).2.2
   obtain ⟨t, hte⟩ : ∃ t, (Pa.takeW (Pa.begins op) s).1 = t := ⟨_, rfl⟩
   obtain ⟨s1, hs1⟩ : ∃ s1, (Pa.takeW (Pa.begins op) s).2 = s1 := ⟨_, rfl⟩
   rw [hte, hs1] at HT hA hno
   have hoI : (op : Int) < 17 := by omega
   have ho0 : (0 : Int) ≤ (op : Int) := by omega
   have hA' := Lib.hid hA
   clear hop hte hs1 hA HA
   cases t with
   | true =>
    have hA2 := hA'.out
    rw [if_pos rfl] at hA2
    by_cases h16 : op = 16
    ·subst h16
     rw [if_pos rfl] at hA2
     have HA3 := Lib.hid hA2
     clear hno hA2 hA'
     go_wp2_with fail
     refine HT.out.mono ?_
     rintro e w1 ⟨rfl, hR, hM⟩
     have HM1 := Lib.hid (HM.out.trans hM)
     have HN := Lib.hid (pnull_any m s1 w1 hR)
     rw [HA3.out] at HN
     clear hR hM
     go_wp2_with fail
     refine HN.out.mono ?_
     rintro e w2 ⟨rfl, hR, hM⟩
     have HE := Lib.hid (And.intro hR (HM1.out.trans hM))
     clear hR hM
     go_wp2_with fail
     exact bodyPost_ret (v := .int .i64 (X.1 : Nat)) (by simp [results, Tryz.results110, go_sem]) rfl ⟨rfl, HE.out⟩
    ·rw [if_neg h16] at hA2
     have HA3 := Lib.hid hA2
     have h16I : ¬ ((op : Int) = 16) := by omega
     clear hno hA2 hA' h16
     go_wp2_with fail
     refine HT.out.mono ?_
     rintro e w1 ⟨rfl, hR, hM⟩
     have HE := Lib.hid (And.intro hR (HM.out.trans hM))
     clear hR hM
     go_wp2_with fail
     exact bodyPost_ret (v := .int .i64 (op : Nat)) (by simp [results, Tryz.results110, go_sem]) rfl ⟨by rw [← HA3.out], by rw [← HA3.out]; exact HE.out⟩
   | false =>
    have hA2 := hA'.out
    rw [if_neg (by simp)] at hA2
    obtain rfl := hno rfl
    have HA3 := Lib.hid hA2
    clear hno hA2 hA'
    go_wp2_with fail
    refine HT.out.mono ?_
    rintro e w1 ⟨rfl, hR, hM⟩
    have HM1 := Lib.hid (HM.out.trans hM)
    have HR1 := Lib.hid hR
    clear hR hM
    go_wp2_with fail
    go_roundw
    case rel => exact ⟨k + 1, by omega, by go_num, HR1, HM1, HA3⟩
    case measure => simp [intOf]; omega
  ·obtain rfl : k = ops.length := by omega
   have HA3 := Lib.hid (show X = (0, s) by rw [← HA.out, List.drop_length, Pa.operP])
   go_wp2_with fail
   exact bodyPost_ret (v := .int .i64 0) (by simp [results, Tryz.results110, go_sem]) rfl ⟨by rw [HA3.out]; rfl, by rw [HA3.out]; exact ⟨HR.out, HM.out⟩⟩
end Go.Proofs.YtfjimoccliejdaaGreatDoor
end
section
namespace Go.Proofs.YtfjimoccliejdaaGreatDoor
open Go.RowKit Go.Shelf

def Ok (fn : FuncId) (f : Pa.Ps → Ex × Pa.Ps) (m N : Nat) : Prop := ∀ (s : Pa.Ps) (w : World), RS m w s → s.ts.length ≤ N → Calls Tryz.prog fn #[.pointer (some ⟨m, 0, none⟩)] w (RuE exC m w (f s).1 (f s).2)
def lenR (m : Nat) (w : World) : Nat := match w.heap[m]? with | some (Obj.cells cs _ _) => (match cs[0]? with | some (Value.slice _ n _) => n | _ => 0) | _ => 0
theorem RS.len {m : Nat} {w : World} {s : Pa.Ps} (h : RS m w s) : lenR m w = s.ts.length := by
 obtain ⟨A, c, h1, _⟩ := h.rd
 simp only [lenR, h1]
 rfl
theorem exC_form {B : Nat → Prop} {w : World} {e : Ex} {c : List Value} (h : exC B w e c) : ∃ A cap, c = xcell (e.hd, A, e.kids.length, cap) ∧ e.kids.length ≤ cap ∧ XsB B w e.kids A := by
 obtain ⟨⟨h1, A, n, cap⟩, rfl, e1, e2, e3, e4⟩ := h
 simp only at e1 e2 e3 e4
 subst e1 e2
 exact ⟨A, cap, rfl, e3, e4⟩
theorem exC_one {B B' : Nat → Prop} {w : World} {x : Ex} {c : List Value} (hd : Hd) (hx : exC B w x c) (hB : ∀ k, B k → k < w.heap.size ∧ B' k) (hn : B' w.heap.size) (T : TypeId) :
  exC B' (w.alloc (.cells c.toArray T)) (.mk hd [x]) (xcell (hd, some ⟨w.heap.size, 0, none⟩, 1, 1)) := by
 refine ⟨_, rfl, rfl, rfl, Nat.le_refl _, ?_⟩
 have hk := ba w (.cells c.toArray T)
 obtain ⟨q, rfl, hq⟩ := hx
 have hq' : XR B' (w.alloc (.cells (xcell q).toArray T)) x q := hq.go (fun k hk' => hk.block k (hB k hk').1) (fun k hk' => (hB k hk').2)
 refine XRs.xsB (B := B') hn (.cons hq' .nil) (fun j u hj => ?_)
 have e2 : (xcells [q]) = xcell q := by simp [xcells]
 rw [e2] at hj
 simp only [World.cell?, (MapKept.heap_alloc w (.cells (xcell q).toArray T)).1, Nat.zero_add]
 simpa using hj
theorem exC_two {B B' : Nat → Prop} {w : World} {x y : Ex} {c d : List Value} (hd : Hd) (hx : exC B w x c) (hy : exC B w y d) (hB : ∀ k, B k → k < w.heap.size ∧ B' k) (hn : B' w.heap.size) (T : TypeId) :
  exC B' (w.alloc (.cells (c ++ d).toArray T)) (.mk hd [x, y]) (xcell (hd, some ⟨w.heap.size, 0, none⟩, 2, 2)) := by
 refine ⟨_, rfl, rfl, rfl, Nat.le_refl _, ?_⟩
 have hk := ba w (.cells (c ++ d).toArray T)
 obtain ⟨q, rfl, hq⟩ := hx
 obtain ⟨p, rfl, hp⟩ := hy
 have hq' : XR B' (w.alloc (.cells (xcell q ++ xcell p).toArray T)) x q := hq.go (fun k hk' => hk.block k (hB k hk').1) (fun k hk' => (hB k hk').2)
 have hp' : XR B' (w.alloc (.cells (xcell q ++ xcell p).toArray T)) y p := hp.go (fun k hk' => hk.block k (hB k hk').1) (fun k hk' => (hB k hk').2)
 refine XRs.xsB (B := B') hn (.cons hq' (.cons hp' .nil)) (fun j u hj => ?_)
 have e2 : (xcells [q, p]) = xcell q ++ xcell p := by simp [xcells]
 rw [e2] at hj
 simp only [World.cell?, (MapKept.heap_alloc w (.cells (xcell q ++ xcell p).toArray T)).1, Nat.zero_add]
 simpa using hj
abbrev Bv (U V n : Nat) (k : Nat) : Prop := U < k ∧ k < n ∧ k ≠ V
theorem operP_lt : ∀ (ops : List Nat) (s : Pa.Ps), (∀ op ∈ ops, op < 17) → (Pa.operP ops s).1 ≤ 17
 | [], _, _ => by rw [Pa.operP]; exact Nat.zero_le _
 | op :: r, s, h => by
  rw [Pa.operP]
  split
  ·split
   ·unfold Pa.nullP; simp only; split <;> omega
   ·have := h op (List.mem_cons_self ..); simp only; omega
  ·exact operP_lt r s fun o ho => h o (List.mem_cons_of_mem _ ho)
theorem rowP_one {part : Pa.Ps → Ex × Pa.Ps} {ops : List Nat} {n : Nat} {e : Ex} {s : Pa.Ps} (h : (Pa.operP ops s).1 ≠ 0) (h1 : Pa.isOne (Pa.operP ops s).1 = true) : Pa.rowP part ops (n + 1) e s = Pa.rowP part ops n (Pa.mkOp (Pa.operP ops s).1 [e]) (Pa.operP ops s).2 := by
 rw [Pa.rowP, if_neg h, if_pos h1]
theorem rowP_two {part : Pa.Ps → Ex × Pa.Ps} {ops : List Nat} {n : Nat} {e : Ex} {s : Pa.Ps} (h : (Pa.operP ops s).1 ≠ 0) (h1 : Pa.isOne (Pa.operP ops s).1 = false) : Pa.rowP part ops (n + 1) e s = Pa.rowP part ops n (Pa.mkOp (Pa.operP ops s).1 [e, (part (Pa.operP ops s).2).1]) (part (Pa.operP ops s).2).2 := by
 rw [Pa.rowP, if_neg h, if_neg (by simp [h1])]
structure RowS (part : Pa.Ps → Ex × Pa.Ps) (ops : List Nat) (m N U V : Nat) (w : World) (X : Ex × Pa.Ps) (x : Ex) (s1 : Pa.Ps) (nn : Nat) (A : Option Addr) (cap : Nat) (W : World) : Prop where
 len : s1.ts.length ≤ nn
 most : s1.ts.length ≤ N
 rs : RS m W s1
 but : ButM m w W
 bu : BxU W U cs8 37
 bv : BxU W V #[.int .i64 x.hd.k, .int .i64 x.hd.n, .int .i64 x.hd.vk, .int .i64 x.hd.vn, .string x.hd.vs, .string x.hd.tab, .string x.hd.col, .slice A x.kids.length cap] 37
 ex : exC (Bv U V W.heap.size) W x (xcell (x.hd, A, x.kids.length, cap))
 eq : Pa.rowP part ops nn x s1 = X
theorem isOne_ar {op : Nat} (h : op ≤ 17) : arI (op : Int) = if Pa.isOne op then 1 else if op = 0 then 0 else 2 := by
 have : ∀ k : Fin 18, arI ((k : Nat) : Int) = if Pa.isOne (k : Nat) then 1 else if (k : Nat) = 0 then 0 else 2 := by decide
 exact this ⟨op, by omega⟩
theorem RuE.ev {m : Nat} {w : World} {x : Ex} {s' : Pa.Ps} {e : Ending} {w' : World} (h : RuE exC m w x s' e w') : ∃ A cap, e = .returned (XV x.hd A x.kids.length cap) ∧ exC (Bt w.heap.size w'.heap.size) w' x (xcell (x.hd, A, x.kids.length, cap)) ∧ RS m w' s' ∧ ButM m w w' := by
 obtain ⟨c, rfl, hC, hR, hM⟩ := h
 obtain ⟨A, cap, rfl, _, _⟩ := exC_form hC
 exact ⟨A, cap, rfl, hC, hR, hM⟩
theorem box8_set {w : World} {V : Nat} {T : TypeId} {a0 a1 a2 a3 a4 a5 a6 a7 : Value} (h : BxU w V #[a0, a1, a2, a3, a4, a5, a6, a7] T) (b0 b1 b2 b3 b4 b5 b6 b7 : Value) :
  BxU ((((((((w.setCell ⟨V, 0, none⟩ b0).setCell ⟨V, 1, none⟩ b1).setCell ⟨V, 2, none⟩ b2).setCell ⟨V, 3, none⟩ b3).setCell ⟨V, 4, none⟩ b4).setCell ⟨V, 5, none⟩ b5).setCell ⟨V, 6, none⟩ b6).setCell ⟨V, 7, none⟩ b7) V #[b0, b1, b2, b3, b4, b5, b6, b7] T := by
 unfold BxU at h ⊢
 simp [World.setCell, Array.getElem?_modify, h]
theorem RowS.step {part : Pa.Ps → Ex × Pa.Ps} {ops : List Nat} {m N U V : Nat} {w : World} {X : Ex × Pa.Ps} {h : Hd} {l : List Ex} {s1 : Pa.Ps} {nn : Nat} {A : Option Addr} {n cap : Nat} {W W' : World} (hn : n = l.length)
  (h1 : s1.ts.length ≤ nn) (h2 : s1.ts.length ≤ N) (hm : m < U) (hUV : U < V) (hwU : w.heap.size ≤ U) (hR : RS m W s1) (hM : ButM m w W) (hU : BxU W U cs8 37) (hE : exC (Bv U V W.heap.size) W (.mk h l) (xcell (h, A, n, cap))) (hX : Pa.rowP part ops nn (.mk h l) s1 = X)
  (hO : OnU V W W') (hV : BxU W' V #[.int .i64 h.k, .int .i64 h.n, .int .i64 h.vk, .int .i64 h.vn, .string h.vs, .string h.tab, .string h.col, .slice A n cap] 37) : RowS part ops m N U V w X (.mk h l) s1 nn A cap W' := by
 subst hn
 refine ⟨h1, h2, hO.rs (by omega) hR, hO.but (by omega) hM, ?_, hV, exC_ok.go (fun k hk => hO.block k hk.2.2) (fun k hk => ⟨hk.1, by rw [hO.size]; exact hk.2.1, hk.2.2⟩) hE, hX⟩
 unfold BxU at hU ⊢
 exact (hO.block U (Nat.ne_of_lt hUV)).trans hU
def V8 (W : World) (V : Nat) (hd : Hd) (A : Option Addr) (n c : Nat) : Prop :=
 W.cell? ⟨V, 0, none⟩ = some (.int .i64 hd.k) ∧ W.cell? ⟨V, 1, none⟩ = some (.int .i64 hd.n) ∧ W.cell? ⟨V, 2, none⟩ = some (.int .i64 hd.vk) ∧ W.cell? ⟨V, 3, none⟩ = some (.int .i64 hd.vn) ∧
 W.cell? ⟨V, 4, none⟩ = some (.string hd.vs) ∧ W.cell? ⟨V, 5, none⟩ = some (.string hd.tab) ∧ W.cell? ⟨V, 6, none⟩ = some (.string hd.col) ∧ W.cell? ⟨V, 7, none⟩ = some (.slice A n c) ∧
 W.frozen? ⟨V, 0, none⟩ = false ∧ W.frozen? ⟨V, 1, none⟩ = false ∧ W.frozen? ⟨V, 2, none⟩ = false ∧ W.frozen? ⟨V, 3, none⟩ = false ∧ W.frozen? ⟨V, 4, none⟩ = false ∧ W.frozen? ⟨V, 5, none⟩ = false ∧ W.frozen? ⟨V, 6, none⟩ = false ∧ W.frozen? ⟨V, 7, none⟩ = false
theorem v8_of {W : World} {V : Nat} {hd : Hd} {A : Option Addr} {n c : Nat} (h : BxU W V #[.int .i64 hd.k, .int .i64 hd.n, .int .i64 hd.vk, .int .i64 hd.vn, .string hd.vs, .string hd.tab, .string hd.col, .slice A n c] 37) : V8 W V hd A n c :=
 ⟨h.cell 0, h.cell 1, h.cell 2, h.cell 3, h.cell 4, h.cell 5, h.cell 6, h.cell 7, h.frozen 0, h.frozen 1, h.frozen 2, h.frozen 3, h.frozen 4, h.frozen 5, h.frozen 6, h.frozen 7⟩
structure PartS (m N U V : Nat) (w : World) (x : Ex) (hd : Hd) (A : Option Addr) (n c : Nat) (y : Ex) (s4 : Pa.Ps) (A4 : Option Addr) (cap4 : Nat) (W : World) : Prop where
 rs : RS m W s4
 but : ButM m w W
 bu : BxU W U cs8 37
 bv : BxU W V #[.int .i64 hd.k, .int .i64 hd.n, .int .i64 hd.vk, .int .i64 hd.vn, .string hd.vs, .string hd.tab, .string hd.col, .slice A n c] 37
 ex : exC (Bv U V W.heap.size) W x (xcell (hd, A, n, c))
 ey : exC (Bv U V W.heap.size) W y (xcell (y.hd, A4, y.kids.length, cap4))
structure MadeS (m U V : Nat) (w : World) (z : Ex) (hz : Hd) (s4 : Pa.Ps) (A4 : Option Addr) (n4 c4 : Nat) (hd : Hd) (A : Option Addr) (n c : Nat) (W : World) : Prop where
 rs : RS m W s4
 but : ButM m w W
 bu : BxU W U cs8 37
 bv : BxU W V #[.int .i64 hd.k, .int .i64 hd.n, .int .i64 hd.vk, .int .i64 hd.vn, .string hd.vs, .string hd.tab, .string hd.col, .slice A n c] 37
 ez : exC (Bv U V W.heap.size) W z (xcell (hz, A4, n4, c4))
theorem made_two {m N U V : Nat} {w : World} {x y : Ex} {hd : Hd} {A : Option Addr} {n c o : Nat} {s4 : Pa.Ps} {A4 : Option Addr} {cap4 : Nat} {w4 W w5 : World} (h : PartS m N U V w x hd A n c y s4 A4 cap4 w4)
  (hW : W.heap = (w4.alloc (.cells (xcell (hd, A, n, c) ++ xcell (y.hd, A4, y.kids.length, cap4)).toArray 37)).heap) (hb : Below w4.heap.size w4 W) (hb5 : Below W.heap.size W w5) :
  Hid (MadeS m U V w (Pa.mkOp o [x, y]) (hdO (o : Int)) s4 (some ⟨w4.heap.size, 0, none⟩) 2 2 hd A n c w5) ∧ V8 w5 V hd A n c := by
 have hbv := (h.bv.next hb).next hb5
 refine ⟨Lib.hid ⟨(h.rs.next hb).next hb5, (h.but.trans (ButM.of hb)).trans (ButM.of hb5), (h.bu.next hb).next hb5, hbv, ?_⟩, v8_of hbv⟩
 have h2 := exC_two (B' := Bv U V (w4.heap.size + 1)) (hdO (o : Int)) h.ex h.ey (fun k hk => ⟨hk.2.1, hk.1, Nat.lt_succ_of_lt hk.2.1, hk.2.2⟩) ⟨h.bu.lt, Nat.lt_succ_self _, Nat.ne_of_gt h.bv.lt⟩ 37
 have hsz : W.heap.size = w4.heap.size + 1 := by rw [hW, World.size_alloc]
 refine exC_ok.go (fun k hk => (hb5.block k (by rw [hsz]; exact hk.2.1)).trans (by rw [hW])) (fun k hk => ⟨hk.1, by have := hk.2.1; have := hb5.size; omega, hk.2.2⟩) h2
end Go.Proofs.YtfjimoccliejdaaGreatDoor
end
section
namespace Go.Proofs.YtfjimoccliejdaaGreatDoor
open Go.RowKit Go.Shelf

theorem RyE.fin {α : Type} {P : Lay α} {sz : Nat} (ok : LayOk P sz) {m U : Nat} {w Wn W' : World} {x y : α} {s' : Pa.Ps} {c : List Value} (hU : w.heap.size = U) (hm : m < U) (hM : ButM m w Wn) (hS : RP m Wn s') (hX : P (Bt (U + 1) Wn.heap.size) Wn y c) (hy : s'.bad = false → y = x) (hO : OnU U Wn W') :
  RyE P m w x s' (.returned (.agg c.toArray)) W' :=
 ⟨c, y, rfl, ok.wide (by omega) (by rw [hO.size]; exact Nat.le_refl _) (hO.lay ok (.inl (Nat.lt_succ_self _)) hX), hy, hO.rp hm hS, hO.but (by omega) hM⟩
theorem RyE.ev {m : Nat} {w : World} {x : Ex} {s' : Pa.Ps} {e : Ending} {w' : World} (h : RyE exC m w x s' e w') : ∃ (y : Ex) (A : Option Addr) (cap : Nat), e = .returned (XV y.hd A y.kids.length cap) ∧ exC (Bt w.heap.size w'.heap.size) w' y (xcell (y.hd, A, y.kids.length, cap)) ∧ (s'.bad = false → y = x) ∧ RP m w' s' ∧ ButM m w w' := by
 obtain ⟨c, y, rfl, hC, hy, hR, hM⟩ := h
 obtain ⟨A, cap, rfl, _, _⟩ := exC_form hC
 exact ⟨y, A, cap, rfl, hC, hy, hR, hM⟩
def OkQ (fn : FuncId) (f : Pa.Ps → Ex × Pa.Ps) (m N : Nat) : Prop := ∀ (s : Pa.Ps) (w : World), RP m w s → s.ts.length ≤ N → Calls Tryz.prog fn #[.pointer (some ⟨m, 0, none⟩)] w (RyE exC m w (f s).1 (f s).2)
def lenQ (m : Nat) (w : World) : Nat := match w.heap[m]? with | some (Obj.cells cs _ _) => (match cs[0]?, cs[1]? with | some (Value.slice _ n _), some (Value.int _ k) => n - k.toNat | _, _ => 0) | _ => 0
theorem RP.len {m : Nat} {w : World} {s : Pa.Ps} (h : RP m w s) : lenQ m w = s.ts.length := by
 obtain ⟨g, off, c, l, k, h1, _, h3, _⟩ := h.ex
 simp only [lenQ, h1]
 rw [h3, List.length_drop]
 rfl
def whichP : List (Lx.B × Nat) → Pa.Ps → Nat × Pa.Ps
 | [], s => (0, s)
 | x :: r, s => if (Pa.takeW x.1 s).1 then (x.2, (Pa.takeW x.1 s).2) else whichP r s
theorem which_at {l : List (Lx.B × Nat)} {k : Nat} {x : Lx.B × Nat} (h : l[k]? = some x) (s : Pa.Ps) : whichP (l.drop k) s = if (Pa.takeW x.1 s).1 then (x.2, (Pa.takeW x.1 s).2) else whichP (l.drop (k + 1)) s := by
 obtain ⟨hk, rfl⟩ := List.getElem?_eq_some_iff.1 h
 rw [List.drop_eq_getElem_cons hk, whichP]
theorem which_le : ∀ (l : List (Lx.B × Nat)) {s : Pa.Ps}, Pa.Fin s.ts → (∀ x ∈ l, x.2 ≠ 0) → Pa.Le s (whichP l s).2 ∧ ((whichP l s).1 ≠ 0 → s.bad = false ∧ (whichP l s).2.ts.length + 1 ≤ s.ts.length) ∧ ((whichP l s).1 = 0 → (whichP l s).2 = s)
 | [], s, h, _ => ⟨Pa.Le.refl h, (fun e => absurd rfl e), fun _ => rfl⟩
 | x :: r, s, h, hn => by
  rw [whichP]
  obtain ⟨h1, h2, h3⟩ := Pa.takeW_le x.1 h
  cases hb : (Pa.takeW x.1 s).1 with
  | true =>
   obtain ⟨hs, _, hl⟩ := h2 hb
   rw [if_pos rfl]
   exact ⟨h1, (fun _ => ⟨hs, by simp only; omega⟩), fun e => absurd e (hn x (List.mem_cons_self ..))⟩
  | false =>
   rw [if_neg (by simp)]
   exact which_le r h fun y hy => hn y (List.mem_cons_of_mem _ hy)
theorem which_oper : ∀ (ops : List Nat) (s : Pa.Ps), (∀ o ∈ ops, o ≠ 16) → Pa.operP ops s = whichP (ops.map fun o => (Pa.begins o, o)) s
 | [], _, _ => rfl
 | o :: r, s, h => by
  rw [Pa.operP, List.map_cons, whichP, if_neg (h o (List.mem_cons_self ..)), which_oper r s fun y hy => h y (List.mem_cons_of_mem _ hy)]
theorem oper_cmp (ops : List Nat) (s : Pa.Ps) (h : ∀ o ∈ ops, o ≠ 16 ∧ o ≠ 0) : Pa.operP (ops ++ [16]) s = if (whichP (ops.map fun o => (Pa.begins o, o)) s).1 ≠ 0 then whichP (ops.map fun o => (Pa.begins o, o)) s else Pa.operP [16] s := by
 induction ops with
 | nil => simp [whichP]
 | cons o r ih =>
  have ho := h o (List.mem_cons_self ..)
  rw [List.cons_append, Pa.operP, List.map_cons, whichP]
  split
  ·rw [if_neg ho.1, if_pos ho.2]
  ·exact ih fun y hy => h y (List.mem_cons_of_mem _ hy)
set_option maxRecDepth 100000 in
set_option maxHeartbeats 2000000 in
theorem qwhich_any (m : Nat) (s : Pa.Ps) (l : List (Lx.B × Nat)) (g g2 c c2 : Nat) (w : World) (h : RP m w s) (hl : l.length ≤ 100) (hm : m < g) (hm2 : m < g2)
  (hO : ∀ (j : Nat) x, l[j]? = some x → w.cell? ⟨g, j, none⟩ = some (.string ⟨x.1.toArray⟩) ∧ w.cell? ⟨g2, j, none⟩ = some (.int .i64 x.2)) :
  Calls Tryz.prog 133 #[.pointer (some ⟨m, 0, none⟩), .slice (some ⟨g, 0, none⟩) l.length c, .slice (some ⟨g2, 0, none⟩) l.length c2] w fun e w' => e = .returned (.int .i64 ((whichP l s).1 : Nat)) ∧ RP m w' (whichP l s).2 ∧ ButM m w w' := by
 obtain ⟨X, hX⟩ : ∃ X, whichP l s = X := ⟨_, rfl⟩
 rw [hX]
 have HX := Lib.hid hX
 have H1 := Lib.hid h
 have HO := Lib.hid hO
 clear h hX hO
 go_enter Tryz.func133, Tryz.ntmps133
 go_wp2_with fail
 go_loopw [7] (fun i W => ∃ k : Nat, k ≤ l.length ∧ i = .int .i64 k ∧ Hid (RP m W s) ∧ Hid (ButM m w W) ∧ Hid (whichP (l.drop k) s = X)) (fun i _ => l.length - (intOf i).toNat)
 case atStart => exact ⟨0, Nat.zero_le _, rfl, H1, Lib.hid (ButM.refl _ _), Lib.hid (by rw [List.drop_zero]; exact HX.out)⟩
 case round =>
  obtain ⟨k, hk, rfl, HR, HM, HA⟩ := hrel
  by_cases hlt : k < l.length
  ·obtain ⟨x, hx⟩ : ∃ x, l[k]? = some x := ⟨l[k], List.getElem?_eq_getElem hlt⟩
   have hc := HM.out.cell (Nat.ne_of_gt hm) (HO.out k x hx).1
   have HC2 := Lib.hid (show ∀ W, ButM m w W → W.cell? ⟨g2, k, none⟩ = some (.int .i64 x.2) from fun W hW => hW.cell (Nat.ne_of_gt hm2) (HO.out k x hx).2)
   have HT := Lib.hid (qtake_any m s x.1 wr HR.out)
   have hA := HA.out
   rw [which_at hx] at hA
   have hno := (Pa.takeW_le x.1 HR.out.fin).2.2
   obtain ⟨t, hte⟩ : ∃ t, (Pa.takeW x.1 s).1 = t := ⟨_, rfl⟩
   obtain ⟨s1, hs1⟩ : ∃ s1, (Pa.takeW x.1 s).2 = s1 := ⟨_, rfl⟩
   rw [hte, hs1] at HT hA hno
   clear hx hte hs1 HA
   cases t with
   | true =>
    rw [if_pos rfl] at hA
    have HA2 := Lib.hid hA
    clear hno hA
    go_wp2_with fail
    refine HT.out.mono ?_
    rintro e w1 ⟨rfl, hR, hM⟩
    have HE := Lib.hid (And.intro hR (HM.out.trans hM))
    have hc2 := HC2.out w1 HE.out.2
    clear hR hM hc
    go_wp2_with fail
    exact bodyPost_ret (v := .int .i64 (x.2 : Nat)) (by simp [results, Tryz.results133, go_sem]) rfl ⟨by rw [← HA2.out], by rw [← HA2.out]; exact HE.out⟩
   | false =>
    obtain rfl := hno rfl
    rw [if_neg (by simp)] at hA
    have HA2 := Lib.hid hA
    clear hno hA
    go_wp2_with fail
    refine HT.out.mono ?_
    rintro e w1 ⟨rfl, hR, hM⟩
    have HR1 := Lib.hid hR
    have HM1 := Lib.hid (HM.out.trans hM)
    clear hR hM hc
    go_wp2_with fail
    go_roundw
    case rel => exact ⟨k + 1, by omega, by go_num, HR1, HM1, HA2⟩
    case measure => simp [intOf]; omega
  ·have HE := Lib.hid (show X = (0, s) by rw [← HA.out, List.drop_eq_nil_iff.2 (by omega), whichP])
   go_wp2_with fail
   exact bodyPost_ret (v := .int .i64 0) (by simp [results, Tryz.results133, go_sem]) rfl ⟨by rw [HE.out]; rfl, by rw [HE.out]; exact ⟨HR.out, HM.out⟩⟩
end Go.Proofs.YtfjimoccliejdaaGreatDoor
end
section
namespace Go.Proofs.YtfjimoccliejdaaGreatDoor
open Go.RowKit Go.Shelf

set_option maxRecDepth 100000 in
set_option maxHeartbeats 4000000 in
theorem row_and (part : Pa.Ps → Ex × Pa.Ps) (hle : ∀ s, Pa.Fin s.ts → Pa.Le s (part s).2) (m N : Nat) (HP : Ok 61 part m N) (ops : List Nat) (hops : ∀ op ∈ ops, op < 17) (hnz : ∀ op ∈ ops, op ≠ 0) (hl : ops.length ≤ 100) (s : Pa.Ps) (g c : Nat) (w : World) (h : RS m w s) (hN : s.ts.length ≤ N) (hgm : m < g) (hO : ∀ (j op : Nat), ops[j]? = some op → w.cell? ⟨g, j, none⟩ = some (.int .i64 op)) :
  Calls Tryz.prog 60 #[.pointer (some ⟨m, 0, none⟩), .func (.func 61) #[.pointer (some ⟨m, 0, none⟩)] #[], .slice (some ⟨g, 0, none⟩) ops.length c] w (RuE exC m w (Pa.rowP part ops (part s).2.ts.length (part s).1 (part s).2).1 (Pa.rowP part ops (part s).2.ts.length (part s).1 (part s).2).2) := by
 have HPp := Lib.hid HP
 have HO := Lib.hid hO
 have HOps := Lib.hid (And.intro hops hnz)
 have Hle := Lib.hid hle
 clear HP hO hops hnz hle
 have HB := Lib.hid (ba w (.cells #[.int .i64 0, .int .i64 0, .int .i64 0, .int .i64 0, .string ⟨#[]⟩, .string ⟨#[]⟩, .string ⟨#[]⟩, .slice none 0 0] 37))
 have HU := Lib.hid (show BxU _ _ #[.int .i64 0, .int .i64 0, .int .i64 0, .int .i64 0, .string ⟨#[]⟩, .string ⟨#[]⟩, .string ⟨#[]⟩, .slice none 0 0] 37 from (MapKept.heap_alloc w (.cells #[.int .i64 0, .int .i64 0, .int .i64 0, .int .i64 0, .string ⟨#[]⟩, .string ⟨#[]⟩, .string ⟨#[]⟩, .slice none 0 0] 37)).1)
 have H1 := Lib.hid (h.next HB.out)
 have hmU := h.lt
 have HFin := Lib.hid h.fin
 obtain ⟨U, hU⟩ : ∃ U, w.heap.size = U := ⟨_, rfl⟩
 have HUl := Lib.hid hU
 rw [hU] at HU hmU
 have HmU := Lib.hid hmU
 obtain ⟨X, hX⟩ : ∃ X, Pa.rowP part ops (part s).2.ts.length (part s).1 (part s).2 = X := ⟨_, rfl⟩
 rw [hX]
 have HX := Lib.hid hX
 clear h hX hmU
 go_enter Tryz.func60, Tryz.ntmps60
 go_wp2_with fail
 generalize w.alloc (.cells #[.int .i64 0, .int .i64 0, .int .i64 0, .int .i64 0, .string ⟨#[]⟩, .string ⟨#[]⟩, .string ⟨#[]⟩, .slice none 0 0] 37) = W1 at HB HU H1 ⊢
 clear hU
 have HM1 := Lib.hid (show ButM m w W1 from ButM.of HB.out)
 have HT1 := Lib.hid (HPp.out s W1 H1.out hN)
 obtain ⟨⟨x1, s1⟩, hs1⟩ : ∃ q, part s = q := ⟨_, rfl⟩
 rw [hs1] at HT1
 have HK1 := Lib.hid hs1
 clear hs1
 simp only at HT1
 go_wp2_with fail
 refine HT1.out.mono ?_
 intro e v1 hE
 obtain ⟨A1, cap1, rfl, hC, hR, hM⟩ := RuE.ev hE
 clear hE
 have hs1 : s1.ts.length ≤ N := by have := (Hle.out s HFin.out).len; rw [HK1.out] at this; simp only at this; omega
 have HX1 := Lib.hid (show Pa.rowP part ops s1.ts.length x1 s1 = X by rw [← HX.out, HK1.out])
 obtain ⟨hd1, l1⟩ := x1
 simp only [Ex.hd, Ex.kids] at hC ⊢
 have hbv := ba v1 (xbox hd1 A1 l1.length cap1)
 have hVn := (MapKept.heap_alloc v1 (xbox hd1 A1 l1.length cap1)).1
 obtain ⟨V, hV⟩ : ∃ V, v1.heap.size = V := ⟨_, rfl⟩
 rw [hV] at hVn
 have hUW := HU.out.lt
 have hUV : U < V := by have := hM.size; omega
 have HS1 := Lib.hid (show RowS part ops m N U V w X (.mk hd1 l1) s1 s1.ts.length A1 cap1 (v1.alloc (xbox hd1 A1 l1.length cap1)) from ⟨Nat.le_refl _, hs1, hR.next hbv, (HM1.out.trans hM).trans (ButM.of hbv), (HU.out.but HmU.out hM).next hbv, hVn, exC_ok.go (fun k hk => hbv.block k hk.2) (fun k hk => ⟨by have := hk.1; omega, by have := hk.2; have := hbv.size; omega, by have := hk.2; omega⟩) hC, HX1.out⟩)
 have HV := Lib.hid hV
 have HUV := Lib.hid hUV
 clear hR hM hC hN hbv hVn hUW hs1 hUV
 go_wp2_with fail
 clear hV
 go_loopw [8] (fun _ W => ∃ (x : Ex) (s1 : Pa.Ps) (nn : Nat) (A : Option Addr) (cap : Nat), Hid (RowS part ops m N U V w X x s1 nn A cap W)) (fun _ W => lenR m W)
 case atStart => exact ⟨_, _, _, _, _, HS1⟩
 case round =>
  obtain ⟨x, s2, nn, A, cap, HS⟩ := hrel
  have hOw : ∀ (j op : Nat), ops[j]? = some op → wr.cell? ⟨g, j, none⟩ = some (.int .i64 op) := fun j op hj => HS.out.but.cell (Nat.ne_of_gt hgm) (HO.out j op hj)
  have HT := Lib.hid (oper_any m s2 ops g c wr HS.out.rs HOps.out.1 hOw hgm hl)
  obtain ⟨hle2, hnz2, hz2⟩ := Pa.operP_le ops HS.out.rs.fin HOps.out.2
  have hlt := operP_lt ops s2 HOps.out.1
  obtain ⟨o, ho⟩ : ∃ o, (Pa.operP ops s2).1 = o := ⟨_, rfl⟩
  obtain ⟨s3, hs3⟩ : ∃ s3, (Pa.operP ops s2).2 = s3 := ⟨_, rfl⟩
  rw [ho, hs3] at HT hnz2 hz2
  rw [ho] at hlt
  rw [hs3] at hle2
  have HK := Lib.hid (show Pa.operP ops s2 = (o, s3) by rw [← ho, ← hs3])
  have HLE := Lib.hid hle2
  have HNZ := Lib.hid hnz2
  have HZ := Lib.hid hz2
  clear hOw hle2 hnz2 hz2 ho hs3
  go_wp2_with fail
  refine HT.out.mono ?_
  rintro e w1 ⟨rfl, hR, hM⟩
  have HR1 := Lib.hid hR
  have HB1 := Lib.hid (HS.out.but.trans hM)
  have HU1 := Lib.hid (HS.out.bu.but HmU.out hM)
  have hmV : m < V := Nat.lt_trans HmU.out HUV.out
  have HV1 := Lib.hid (HS.out.bv.but hmV hM)
  have HE1 := Lib.hid (show exC (Bv U V w1.heap.size) w1 x (xcell (x.hd, A, x.kids.length, cap)) from exC_ok.go (fun k hk => hM.block k hk.2.1 (by have := hk.1; have := HmU.out; omega)) (fun k hk => ⟨hk.1, Nat.lt_of_lt_of_le hk.2.1 hM.size, hk.2.2⟩) HS.out.ex)
  have HmV := Lib.hid hmV
  have hUltV := HUV.out
  have hUneV : U ≠ V := Nat.ne_of_lt hUltV
  have hVneU : V ≠ U := Nat.ne_of_gt hUltV
  clear hR hM hmV hUltV
  obtain ⟨hd, l⟩ := x
  simp only [Ex.hd, Ex.kids] at HV1 HE1
  obtain ⟨d0, d1, d2, d3, d4, d5, d6, d7⟩ := cl8 (w := w1) (HV1.out)
  have fd0 := (HV1.out).frozen 0
  have fd1 := (HV1.out).frozen 1
  have fd2 := (HV1.out).frozen 2
  have fd3 := (HV1.out).frozen 3
  have fd4 := (HV1.out).frozen 4
  have fd5 := (HV1.out).frozen 5
  have fd6 := (HV1.out).frozen 6
  have fd7 := (HV1.out).frozen 7
  by_cases hz : o = 0
  ·subst hz
   obtain rfl := HZ.out rfl
   have HXe := Lib.hid (show X = (.mk hd l, s3) by rw [← HS.out.eq, Pa.rowP_stop (by rw [HK.out])])
   obtain ⟨c0, c1, c2, c3, c4, c5, c6, c7⟩ := cl8 (w := w1) (HU1.out)
   have fc0 := (HU1.out).frozen 0
   have fc1 := (HU1.out).frozen 1
   have fc2 := (HU1.out).frozen 2
   have fc3 := (HU1.out).frozen 3
   have fc4 := (HU1.out).frozen 4
   have fc5 := (HU1.out).frozen 5
   have fc6 := (HU1.out).frozen 6
   have fc7 := (HU1.out).frozen 7
   go_wp2_with fail
   exact bodyPost_ret (v := XV hd A l.length cap) (by simp [results, Tryz.results60, go_sem, c0, c1, c2, c3, c4, c5, c6, c7]) rfl (by rw [HXe.out]; exact RuE.fin (c := xcell (hd, A, l.length, cap)) exC_ok HUl.out HmU.out HB1.out HR1.out (exC_ok.go (fun _ _ => rfl) (fun k hk => ⟨hk.1, hk.2.1⟩) HE1.out) (OnU.refl _ _).set.set.set.set.set.set.set.set)
  ·have hzI : ¬ ((o : Int) = 0) := by omega
   have har := isOne_ar hlt
   obtain ⟨nn, rfl⟩ : ∃ k, nn = k + 1 := ⟨nn - 1, by have := (HNZ.out hz).2; have := HS.out.len; omega⟩
   cases hone : Pa.isOne o with
   | true =>
    rw [if_pos hone] at har
    have HX2 := Lib.hid (show Pa.rowP part ops nn (Pa.mkOp o [.mk hd l]) s3 = X by rw [← HS.out.eq, rowP_one (by rw [HK.out]; exact hz) (by rw [HK.out]; exact hone), HK.out])
    have HLs := Lib.hid (show s3.ts.length + 1 ≤ s2.ts.length from (HNZ.out hz).2)
    have HAr := Lib.hid (ev_arity (n := (o : Int)) (w := w1) har)
    clear hone har hz
    go_wp2_with fail
    refine HAr.out.mono ?_
    rintro e w2 ⟨u, rfl, hb, rfl⟩
    have HR2 := Lib.hid (HR1.out.next hb)
    have HB2 := Lib.hid (HB1.out.trans (ButM.of hb))
    have HU2 := Lib.hid (HU1.out.next hb)
    have HV2 := Lib.hid (HV1.out.next hb)
    have HE2 := Lib.hid (show exC (Bv U V w2.heap.size) w2 (.mk hd l) (xcell (hd, A, l.length, cap)) from exC_ok.go (fun k hk => hb.block k hk.2.1) (fun k hk => ⟨hk.1, Nat.lt_of_lt_of_le hk.2.1 hb.size, hk.2.2⟩) HE1.out)
    clear hb d0 fd0 d1 fd1 d2 fd2 d3 fd3 d4 fd4 d5 fd5 d6 fd6 d7 fd7
    obtain ⟨d0, d1, d2, d3, d4, d5, d6, d7⟩ := cl8 (w := w2) (HV2.out)
    have fd0 := (HV2.out).frozen 0
    have fd1 := (HV2.out).frozen 1
    have fd2 := (HV2.out).frozen 2
    have fd3 := (HV2.out).frozen 3
    have fd4 := (HV2.out).frozen 4
    have fd5 := (HV2.out).frozen 5
    have fd6 := (HV2.out).frozen 6
    have fd7 := (HV2.out).frozen 7
    have hE3 := exC_one (B' := Bv U V (w2.heap.size + 1)) (hdO (o : Int)) HE2.out (fun k hk => ⟨hk.2.1, hk.1, Nat.lt_succ_of_lt hk.2.1, hk.2.2⟩) ⟨HU2.out.lt, Nat.lt_succ_self _, Nat.ne_of_gt HV2.out.lt⟩ 37
    have hbx := ba w2 (xbox hd A l.length cap)
    have HE3 := Lib.hid hE3
    have HBx := Lib.hid hbx
    have HR3 := Lib.hid (HR2.out.next hbx)
    have HU3 := Lib.hid (HU2.out.next hbx)
    have HV3 := Lib.hid (HV2.out.next hbx)
    go_wp2_with fail
    refine (pmade_any 3 o (some ⟨w2.heap.size, 0, none⟩) 1 1 _).mono ?_
    rintro e w3 ⟨rfl, hb⟩
    have HR4 := Lib.hid (HR3.out.next hb)
    have HB4 := Lib.hid (HB2.out.trans ((ButM.of hbx).trans (ButM.of hb)))
    have HU4 := Lib.hid (HU3.out.next hb)
    have HV4 := Lib.hid (HV3.out.next hb)
    have HE4 := Lib.hid (show exC (Bv U V w3.heap.size) w3 (Pa.mkOp o [.mk hd l]) (xcell (hdO (o : Int), some ⟨w2.heap.size, 0, none⟩, 1, 1)) from exC_ok.go (fun k hk => hb.block k (by rw [World.size_alloc]; exact hk.2.1)) (fun k hk => ⟨hk.1, by have := hk.2.1; have := hb.size; rw [World.size_alloc] at this; omega, hk.2.2⟩) hE3)
    clear hb hbx hE3 d0 fd0 d1 fd1 d2 fd2 d3 fd3 d4 fd4 d5 fd5 d6 fd6 d7 fd7
    obtain ⟨d0, d1, d2, d3, d4, d5, d6, d7⟩ := cl8 (w := w3) (HV4.out)
    have fd0 := (HV4.out).frozen 0
    have fd1 := (HV4.out).frozen 1
    have fd2 := (HV4.out).frozen 2
    have fd3 := (HV4.out).frozen 3
    have fd4 := (HV4.out).frozen 4
    have fd5 := (HV4.out).frozen 5
    have fd6 := (HV4.out).frozen 6
    have fd7 := (HV4.out).frozen 7
    have HSn := Lib.hid (RowS.step (part := part) (ops := ops) (N := N) (nn := nn) (n := 1) rfl (by have := HLs.out; have := HS.out.len; omega) (by have := HLs.out; have := HS.out.most; omega) HmU.out HUV.out (Nat.le_of_eq HUl.out) HR4.out HB4.out HU4.out HE4.out HX2.out ((OnU.refl V w3).set.set.set.set.set.set.set.set) (box8_set HV4.out _ _ _ _ _ _ _ _))
    go_wp2_with fail
    go_roundw
    case rel => exact ⟨_, _, _, _, _, HSn⟩
    case measure => rw [HSn.out.rs.len, HS.out.rs.len]; have := HLs.out; omega
   | false =>
    rw [if_neg (by simp [hone]), if_neg hz] at har
    have HLs := Lib.hid (show s3.ts.length + 1 ≤ s2.ts.length from (HNZ.out hz).2)
    have hs3N : s3.ts.length ≤ N := by have := HLs.out; have := HS.out.most; omega
    obtain ⟨⟨y, s4⟩, hy⟩ : ∃ q, part s3 = q := ⟨_, rfl⟩
    have HY := Lib.hid hy
    have HX2 := Lib.hid (show Pa.rowP part ops nn (Pa.mkOp o [.mk hd l, y]) s4 = X by rw [← HS.out.eq, rowP_two (by rw [HK.out]; exact hz) (by rw [HK.out]; exact hone), HK.out, HY.out])
    have HLe4 := Lib.hid (show s4.ts.length ≤ s3.ts.length by have := (Hle.out s3 HR1.out.fin).len; rw [HY.out] at this; exact this)
    have HAr := Lib.hid (ev_arity (n := (o : Int)) (w := w1) har)
    clear hone har hz hy
    go_wp2_with fail
    refine HAr.out.mono ?_
    rintro e w2 ⟨u, rfl, hb, rfl⟩
    have HR2 := Lib.hid (HR1.out.next hb)
    have HB2 := Lib.hid (HB1.out.trans (ButM.of hb))
    have HU2 := Lib.hid (HU1.out.next hb)
    have HV2 := Lib.hid (HV1.out.next hb)
    have HE2 := Lib.hid (show exC (Bv U V w2.heap.size) w2 (.mk hd l) (xcell (hd, A, l.length, cap)) from exC_ok.go (fun k hk => hb.block k hk.2.1) (fun k hk => ⟨hk.1, Nat.lt_of_lt_of_le hk.2.1 hb.size, hk.2.2⟩) HE1.out)
    have HPx := Lib.hid (show ∀ W, Below w2.heap.size w2 W → Calls Tryz.prog 61 #[.pointer (some ⟨m, 0, none⟩)] W (fun e w4 => ∃ A4 cap4, e = .returned (XV y.hd A4 y.kids.length cap4) ∧ Hid (PartS m N U V w (.mk hd l) hd A l.length cap y s4 A4 cap4 w4) ∧ V8 w4 V hd A l.length cap) from fun W hW => (HPp.out s3 W (HR2.out.next hW) hs3N).mono (fun e w4 hE => by
     rw [HY.out] at hE
     obtain ⟨A4, cap4, rfl, hC, hR, hM⟩ := RuE.ev hE
     have hV := (HV2.out.next hW).but HmV.out hM
     exact ⟨A4, cap4, rfl, Lib.hid ⟨hR, (HB2.out.trans (ButM.of hW)).trans hM, (HU2.out.next hW).but HmU.out hM, hV, exC_ok.go (fun k hk => (hM.block k (Nat.lt_of_lt_of_le hk.2.1 hW.size) (by have := hk.1; have := HmU.out; omega)).trans (hW.block k hk.2.1)) (fun k hk => ⟨hk.1, by have := hk.2.1; have := hW.size; have := hM.size; omega, hk.2.2⟩) HE2.out, exC_ok.go (fun _ _ => rfl) (fun k hk => ⟨by have := hk.1; have := hW.size; have := HU2.out.lt; omega, hk.2, by have := hk.1; have := hW.size; have := HV2.out.lt; omega⟩) hC⟩, v8_of hV⟩))
    have HMd := Lib.hid (show ∀ (A4 : Option Addr) (cap4 : Nat) (w4 W : World) (_ : Hid (PartS m N U V w (.mk hd l) hd A l.length cap y s4 A4 cap4 w4)) (_ : W.heap = (w4.alloc (.cells (xcell (hd, A, l.length, cap) ++ xcell (y.hd, A4, y.kids.length, cap4)).toArray 37)).heap) (_ : Below w4.heap.size w4 W),
      Calls Tryz.prog 112 #[.int .i64 3, .int .i64 o, .slice (some ⟨w4.heap.size, 0, none⟩) 2 2] W (fun e w5 => e = .returned (XV (hdO (o : Int)) (some ⟨w4.heap.size, 0, none⟩) 2 2) ∧ Hid (MadeS m U V w (Pa.mkOp o [.mk hd l, y]) (hdO (o : Int)) s4 (some ⟨w4.heap.size, 0, none⟩) 2 2 hd A l.length cap w5) ∧ V8 w5 V hd A l.length cap) from fun A4 cap4 w4 W hP hW hb => (pmade_any 3 o (some ⟨w4.heap.size, 0, none⟩) 2 2 W).mono (fun e w5 hE => by
     obtain ⟨rfl, hb5⟩ := hE
     exact ⟨rfl, made_two hP.out hW hb hb5⟩))
    clear hb hs3N d0 fd0 d1 fd1 d2 fd2 d3 fd3 d4 fd4 d5 fd5 d6 fd6 d7 fd7
    obtain ⟨d0, d1, d2, d3, d4, d5, d6, d7⟩ := cl8 (w := w2) (HV2.out)
    have fd0 := (HV2.out).frozen 0
    have fd1 := (HV2.out).frozen 1
    have fd2 := (HV2.out).frozen 2
    have fd3 := (HV2.out).frozen 3
    have fd4 := (HV2.out).frozen 4
    have fd5 := (HV2.out).frozen 5
    have fd6 := (HV2.out).frozen 6
    have fd7 := (HV2.out).frozen 7
    go_wp2_with fail
    go_region_with (first
     | (refine (HPx.out _ (by repeat (first | exact Below.refl _ _ | refine Below.drew ?_))).mono ?_; rintro e w4 ⟨A4, cap4, rfl, HP4, d0, d1, d2, d3, d4, d5, d6, d7, fd0, fd1, fd2, fd3, fd4, fd5, fd6, fd7⟩)
     | (refine (HMd.out _ _ _ _ HP4 rfl (by repeat (first | exact Below.refl _ _ | refine Below.drew ?_ | refine Below.alloc ?_ (Nat.le_refl _) _))).mono ?_; rintro e w5 ⟨rfl, HP5, d0, d1, d2, d3, d4, d5, d6, d7, fd0, fd1, fd2, fd3, fd4, fd5, fd6, fd7⟩))
    all_goals
     have HSn := Lib.hid (RowS.step (part := part) (ops := ops) (N := N) (nn := nn) (n := 2) rfl (by have := HLs.out; have := HS.out.len; have := HLe4.out; omega) (by have := HLs.out; have := HS.out.most; have := HLe4.out; omega) HmU.out HUV.out (Nat.le_of_eq HUl.out) HP5.out.rs HP5.out.but HP5.out.bu HP5.out.ez HX2.out ((OnU.refl V w5).set.set.set.set.set.set.set.set) (box8_set HP5.out.bv _ _ _ _ _ _ _ _))
     go_wp2_with fail
     go_roundw
     case rel => exact ⟨_, _, _, _, _, HSn⟩
     case measure => rw [HSn.out.rs.len, HS.out.rs.len]; have := HLs.out; have := HLe4.out; omega
end Go.Proofs.YtfjimoccliejdaaGreatDoor
end
section
namespace Go.Proofs.YtfjimoccliejdaaGreatDoor
open Go.RowKit Go.Shelf

set_option maxRecDepth 100000 in
set_option maxHeartbeats 4000000 in
theorem row_not (part : Pa.Ps → Ex × Pa.Ps) (hle : ∀ s, Pa.Fin s.ts → Pa.Le s (part s).2) (m N : Nat) (HP : Ok 113 part m N) (ops : List Nat) (hops : ∀ op ∈ ops, op < 17) (hnz : ∀ op ∈ ops, op ≠ 0) (hl : ops.length ≤ 100) (s : Pa.Ps) (g c : Nat) (w : World) (h : RS m w s) (hN : s.ts.length ≤ N) (hgm : m < g) (hO : ∀ (j op : Nat), ops[j]? = some op → w.cell? ⟨g, j, none⟩ = some (.int .i64 op)) :
  Calls Tryz.prog 60 #[.pointer (some ⟨m, 0, none⟩), .func (.func 113) #[.pointer (some ⟨m, 0, none⟩)] #[], .slice (some ⟨g, 0, none⟩) ops.length c] w (RuE exC m w (Pa.rowP part ops (part s).2.ts.length (part s).1 (part s).2).1 (Pa.rowP part ops (part s).2.ts.length (part s).1 (part s).2).2) := by
 have HPp := Lib.hid HP
 have HO := Lib.hid hO
 have HOps := Lib.hid (And.intro hops hnz)
 have Hle := Lib.hid hle
 clear HP hO hops hnz hle
 have HB := Lib.hid (ba w (.cells #[.int .i64 0, .int .i64 0, .int .i64 0, .int .i64 0, .string ⟨#[]⟩, .string ⟨#[]⟩, .string ⟨#[]⟩, .slice none 0 0] 37))
 have HU := Lib.hid (show BxU _ _ #[.int .i64 0, .int .i64 0, .int .i64 0, .int .i64 0, .string ⟨#[]⟩, .string ⟨#[]⟩, .string ⟨#[]⟩, .slice none 0 0] 37 from (MapKept.heap_alloc w (.cells #[.int .i64 0, .int .i64 0, .int .i64 0, .int .i64 0, .string ⟨#[]⟩, .string ⟨#[]⟩, .string ⟨#[]⟩, .slice none 0 0] 37)).1)
 have H1 := Lib.hid (h.next HB.out)
 have hmU := h.lt
 have HFin := Lib.hid h.fin
 obtain ⟨U, hU⟩ : ∃ U, w.heap.size = U := ⟨_, rfl⟩
 have HUl := Lib.hid hU
 rw [hU] at HU hmU
 have HmU := Lib.hid hmU
 obtain ⟨X, hX⟩ : ∃ X, Pa.rowP part ops (part s).2.ts.length (part s).1 (part s).2 = X := ⟨_, rfl⟩
 rw [hX]
 have HX := Lib.hid hX
 clear h hX hmU
 go_enter Tryz.func60, Tryz.ntmps60
 go_wp2_with fail
 generalize w.alloc (.cells #[.int .i64 0, .int .i64 0, .int .i64 0, .int .i64 0, .string ⟨#[]⟩, .string ⟨#[]⟩, .string ⟨#[]⟩, .slice none 0 0] 37) = W1 at HB HU H1 ⊢
 clear hU
 have HM1 := Lib.hid (show ButM m w W1 from ButM.of HB.out)
 have HT1 := Lib.hid (HPp.out s W1 H1.out hN)
 obtain ⟨⟨x1, s1⟩, hs1⟩ : ∃ q, part s = q := ⟨_, rfl⟩
 rw [hs1] at HT1
 have HK1 := Lib.hid hs1
 clear hs1
 simp only at HT1
 go_wp2_with fail
 refine HT1.out.mono ?_
 intro e v1 hE
 obtain ⟨A1, cap1, rfl, hC, hR, hM⟩ := RuE.ev hE
 clear hE
 have hs1 : s1.ts.length ≤ N := by have := (Hle.out s HFin.out).len; rw [HK1.out] at this; simp only at this; omega
 have HX1 := Lib.hid (show Pa.rowP part ops s1.ts.length x1 s1 = X by rw [← HX.out, HK1.out])
 obtain ⟨hd1, l1⟩ := x1
 simp only [Ex.hd, Ex.kids] at hC ⊢
 have hbv := ba v1 (xbox hd1 A1 l1.length cap1)
 have hVn := (MapKept.heap_alloc v1 (xbox hd1 A1 l1.length cap1)).1
 obtain ⟨V, hV⟩ : ∃ V, v1.heap.size = V := ⟨_, rfl⟩
 rw [hV] at hVn
 have hUW := HU.out.lt
 have hUV : U < V := by have := hM.size; omega
 have HS1 := Lib.hid (show RowS part ops m N U V w X (.mk hd1 l1) s1 s1.ts.length A1 cap1 (v1.alloc (xbox hd1 A1 l1.length cap1)) from ⟨Nat.le_refl _, hs1, hR.next hbv, (HM1.out.trans hM).trans (ButM.of hbv), (HU.out.but HmU.out hM).next hbv, hVn, exC_ok.go (fun k hk => hbv.block k hk.2) (fun k hk => ⟨by have := hk.1; omega, by have := hk.2; have := hbv.size; omega, by have := hk.2; omega⟩) hC, HX1.out⟩)
 have HV := Lib.hid hV
 have HUV := Lib.hid hUV
 clear hR hM hC hN hbv hVn hUW hs1 hUV
 go_wp2_with fail
 clear hV
 go_loopw [8] (fun _ W => ∃ (x : Ex) (s1 : Pa.Ps) (nn : Nat) (A : Option Addr) (cap : Nat), Hid (RowS part ops m N U V w X x s1 nn A cap W)) (fun _ W => lenR m W)
 case atStart => exact ⟨_, _, _, _, _, HS1⟩
 case round =>
  obtain ⟨x, s2, nn, A, cap, HS⟩ := hrel
  have hOw : ∀ (j op : Nat), ops[j]? = some op → wr.cell? ⟨g, j, none⟩ = some (.int .i64 op) := fun j op hj => HS.out.but.cell (Nat.ne_of_gt hgm) (HO.out j op hj)
  have HT := Lib.hid (oper_any m s2 ops g c wr HS.out.rs HOps.out.1 hOw hgm hl)
  obtain ⟨hle2, hnz2, hz2⟩ := Pa.operP_le ops HS.out.rs.fin HOps.out.2
  have hlt := operP_lt ops s2 HOps.out.1
  obtain ⟨o, ho⟩ : ∃ o, (Pa.operP ops s2).1 = o := ⟨_, rfl⟩
  obtain ⟨s3, hs3⟩ : ∃ s3, (Pa.operP ops s2).2 = s3 := ⟨_, rfl⟩
  rw [ho, hs3] at HT hnz2 hz2
  rw [ho] at hlt
  rw [hs3] at hle2
  have HK := Lib.hid (show Pa.operP ops s2 = (o, s3) by rw [← ho, ← hs3])
  have HLE := Lib.hid hle2
  have HNZ := Lib.hid hnz2
  have HZ := Lib.hid hz2
  clear hOw hle2 hnz2 hz2 ho hs3
  go_wp2_with fail
  refine HT.out.mono ?_
  rintro e w1 ⟨rfl, hR, hM⟩
  have HR1 := Lib.hid hR
  have HB1 := Lib.hid (HS.out.but.trans hM)
  have HU1 := Lib.hid (HS.out.bu.but HmU.out hM)
  have hmV : m < V := Nat.lt_trans HmU.out HUV.out
  have HV1 := Lib.hid (HS.out.bv.but hmV hM)
  have HE1 := Lib.hid (show exC (Bv U V w1.heap.size) w1 x (xcell (x.hd, A, x.kids.length, cap)) from exC_ok.go (fun k hk => hM.block k hk.2.1 (by have := hk.1; have := HmU.out; omega)) (fun k hk => ⟨hk.1, Nat.lt_of_lt_of_le hk.2.1 hM.size, hk.2.2⟩) HS.out.ex)
  have HmV := Lib.hid hmV
  have hUltV := HUV.out
  have hUneV : U ≠ V := Nat.ne_of_lt hUltV
  have hVneU : V ≠ U := Nat.ne_of_gt hUltV
  clear hR hM hmV hUltV
  obtain ⟨hd, l⟩ := x
  simp only [Ex.hd, Ex.kids] at HV1 HE1
  obtain ⟨d0, d1, d2, d3, d4, d5, d6, d7⟩ := cl8 (w := w1) (HV1.out)
  have fd0 := (HV1.out).frozen 0
  have fd1 := (HV1.out).frozen 1
  have fd2 := (HV1.out).frozen 2
  have fd3 := (HV1.out).frozen 3
  have fd4 := (HV1.out).frozen 4
  have fd5 := (HV1.out).frozen 5
  have fd6 := (HV1.out).frozen 6
  have fd7 := (HV1.out).frozen 7
  by_cases hz : o = 0
  ·subst hz
   obtain rfl := HZ.out rfl
   have HXe := Lib.hid (show X = (.mk hd l, s3) by rw [← HS.out.eq, Pa.rowP_stop (by rw [HK.out])])
   obtain ⟨c0, c1, c2, c3, c4, c5, c6, c7⟩ := cl8 (w := w1) (HU1.out)
   have fc0 := (HU1.out).frozen 0
   have fc1 := (HU1.out).frozen 1
   have fc2 := (HU1.out).frozen 2
   have fc3 := (HU1.out).frozen 3
   have fc4 := (HU1.out).frozen 4
   have fc5 := (HU1.out).frozen 5
   have fc6 := (HU1.out).frozen 6
   have fc7 := (HU1.out).frozen 7
   go_wp2_with fail
   exact bodyPost_ret (v := XV hd A l.length cap) (by simp [results, Tryz.results60, go_sem, c0, c1, c2, c3, c4, c5, c6, c7]) rfl (by rw [HXe.out]; exact RuE.fin (c := xcell (hd, A, l.length, cap)) exC_ok HUl.out HmU.out HB1.out HR1.out (exC_ok.go (fun _ _ => rfl) (fun k hk => ⟨hk.1, hk.2.1⟩) HE1.out) (OnU.refl _ _).set.set.set.set.set.set.set.set)
  ·have hzI : ¬ ((o : Int) = 0) := by omega
   have har := isOne_ar hlt
   obtain ⟨nn, rfl⟩ : ∃ k, nn = k + 1 := ⟨nn - 1, by have := (HNZ.out hz).2; have := HS.out.len; omega⟩
   cases hone : Pa.isOne o with
   | true =>
    rw [if_pos hone] at har
    have HX2 := Lib.hid (show Pa.rowP part ops nn (Pa.mkOp o [.mk hd l]) s3 = X by rw [← HS.out.eq, rowP_one (by rw [HK.out]; exact hz) (by rw [HK.out]; exact hone), HK.out])
    have HLs := Lib.hid (show s3.ts.length + 1 ≤ s2.ts.length from (HNZ.out hz).2)
    have HAr := Lib.hid (ev_arity (n := (o : Int)) (w := w1) har)
    clear hone har hz
    go_wp2_with fail
    refine HAr.out.mono ?_
    rintro e w2 ⟨u, rfl, hb, rfl⟩
    have HR2 := Lib.hid (HR1.out.next hb)
    have HB2 := Lib.hid (HB1.out.trans (ButM.of hb))
    have HU2 := Lib.hid (HU1.out.next hb)
    have HV2 := Lib.hid (HV1.out.next hb)
    have HE2 := Lib.hid (show exC (Bv U V w2.heap.size) w2 (.mk hd l) (xcell (hd, A, l.length, cap)) from exC_ok.go (fun k hk => hb.block k hk.2.1) (fun k hk => ⟨hk.1, Nat.lt_of_lt_of_le hk.2.1 hb.size, hk.2.2⟩) HE1.out)
    clear hb d0 fd0 d1 fd1 d2 fd2 d3 fd3 d4 fd4 d5 fd5 d6 fd6 d7 fd7
    obtain ⟨d0, d1, d2, d3, d4, d5, d6, d7⟩ := cl8 (w := w2) (HV2.out)
    have fd0 := (HV2.out).frozen 0
    have fd1 := (HV2.out).frozen 1
    have fd2 := (HV2.out).frozen 2
    have fd3 := (HV2.out).frozen 3
    have fd4 := (HV2.out).frozen 4
    have fd5 := (HV2.out).frozen 5
    have fd6 := (HV2.out).frozen 6
    have fd7 := (HV2.out).frozen 7
    have hE3 := exC_one (B' := Bv U V (w2.heap.size + 1)) (hdO (o : Int)) HE2.out (fun k hk => ⟨hk.2.1, hk.1, Nat.lt_succ_of_lt hk.2.1, hk.2.2⟩) ⟨HU2.out.lt, Nat.lt_succ_self _, Nat.ne_of_gt HV2.out.lt⟩ 37
    have hbx := ba w2 (xbox hd A l.length cap)
    have HE3 := Lib.hid hE3
    have HBx := Lib.hid hbx
    have HR3 := Lib.hid (HR2.out.next hbx)
    have HU3 := Lib.hid (HU2.out.next hbx)
    have HV3 := Lib.hid (HV2.out.next hbx)
    go_wp2_with fail
    refine (pmade_any 3 o (some ⟨w2.heap.size, 0, none⟩) 1 1 _).mono ?_
    rintro e w3 ⟨rfl, hb⟩
    have HR4 := Lib.hid (HR3.out.next hb)
    have HB4 := Lib.hid (HB2.out.trans ((ButM.of hbx).trans (ButM.of hb)))
    have HU4 := Lib.hid (HU3.out.next hb)
    have HV4 := Lib.hid (HV3.out.next hb)
    have HE4 := Lib.hid (show exC (Bv U V w3.heap.size) w3 (Pa.mkOp o [.mk hd l]) (xcell (hdO (o : Int), some ⟨w2.heap.size, 0, none⟩, 1, 1)) from exC_ok.go (fun k hk => hb.block k (by rw [World.size_alloc]; exact hk.2.1)) (fun k hk => ⟨hk.1, by have := hk.2.1; have := hb.size; rw [World.size_alloc] at this; omega, hk.2.2⟩) hE3)
    clear hb hbx hE3 d0 fd0 d1 fd1 d2 fd2 d3 fd3 d4 fd4 d5 fd5 d6 fd6 d7 fd7
    obtain ⟨d0, d1, d2, d3, d4, d5, d6, d7⟩ := cl8 (w := w3) (HV4.out)
    have fd0 := (HV4.out).frozen 0
    have fd1 := (HV4.out).frozen 1
    have fd2 := (HV4.out).frozen 2
    have fd3 := (HV4.out).frozen 3
    have fd4 := (HV4.out).frozen 4
    have fd5 := (HV4.out).frozen 5
    have fd6 := (HV4.out).frozen 6
    have fd7 := (HV4.out).frozen 7
    have HSn := Lib.hid (RowS.step (part := part) (ops := ops) (N := N) (nn := nn) (n := 1) rfl (by have := HLs.out; have := HS.out.len; omega) (by have := HLs.out; have := HS.out.most; omega) HmU.out HUV.out (Nat.le_of_eq HUl.out) HR4.out HB4.out HU4.out HE4.out HX2.out ((OnU.refl V w3).set.set.set.set.set.set.set.set) (box8_set HV4.out _ _ _ _ _ _ _ _))
    go_wp2_with fail
    go_roundw
    case rel => exact ⟨_, _, _, _, _, HSn⟩
    case measure => rw [HSn.out.rs.len, HS.out.rs.len]; have := HLs.out; omega
   | false =>
    rw [if_neg (by simp [hone]), if_neg hz] at har
    have HLs := Lib.hid (show s3.ts.length + 1 ≤ s2.ts.length from (HNZ.out hz).2)
    have hs3N : s3.ts.length ≤ N := by have := HLs.out; have := HS.out.most; omega
    obtain ⟨⟨y, s4⟩, hy⟩ : ∃ q, part s3 = q := ⟨_, rfl⟩
    have HY := Lib.hid hy
    have HX2 := Lib.hid (show Pa.rowP part ops nn (Pa.mkOp o [.mk hd l, y]) s4 = X by rw [← HS.out.eq, rowP_two (by rw [HK.out]; exact hz) (by rw [HK.out]; exact hone), HK.out, HY.out])
    have HLe4 := Lib.hid (show s4.ts.length ≤ s3.ts.length by have := (Hle.out s3 HR1.out.fin).len; rw [HY.out] at this; exact this)
    have HAr := Lib.hid (ev_arity (n := (o : Int)) (w := w1) har)
    clear hone har hz hy
    go_wp2_with fail
    refine HAr.out.mono ?_
    rintro e w2 ⟨u, rfl, hb, rfl⟩
    have HR2 := Lib.hid (HR1.out.next hb)
    have HB2 := Lib.hid (HB1.out.trans (ButM.of hb))
    have HU2 := Lib.hid (HU1.out.next hb)
    have HV2 := Lib.hid (HV1.out.next hb)
    have HE2 := Lib.hid (show exC (Bv U V w2.heap.size) w2 (.mk hd l) (xcell (hd, A, l.length, cap)) from exC_ok.go (fun k hk => hb.block k hk.2.1) (fun k hk => ⟨hk.1, Nat.lt_of_lt_of_le hk.2.1 hb.size, hk.2.2⟩) HE1.out)
    have HPx := Lib.hid (show ∀ W, Below w2.heap.size w2 W → Calls Tryz.prog 113 #[.pointer (some ⟨m, 0, none⟩)] W (fun e w4 => ∃ A4 cap4, e = .returned (XV y.hd A4 y.kids.length cap4) ∧ Hid (PartS m N U V w (.mk hd l) hd A l.length cap y s4 A4 cap4 w4) ∧ V8 w4 V hd A l.length cap) from fun W hW => (HPp.out s3 W (HR2.out.next hW) hs3N).mono (fun e w4 hE => by
     rw [HY.out] at hE
     obtain ⟨A4, cap4, rfl, hC, hR, hM⟩ := RuE.ev hE
     have hV := (HV2.out.next hW).but HmV.out hM
     exact ⟨A4, cap4, rfl, Lib.hid ⟨hR, (HB2.out.trans (ButM.of hW)).trans hM, (HU2.out.next hW).but HmU.out hM, hV, exC_ok.go (fun k hk => (hM.block k (Nat.lt_of_lt_of_le hk.2.1 hW.size) (by have := hk.1; have := HmU.out; omega)).trans (hW.block k hk.2.1)) (fun k hk => ⟨hk.1, by have := hk.2.1; have := hW.size; have := hM.size; omega, hk.2.2⟩) HE2.out, exC_ok.go (fun _ _ => rfl) (fun k hk => ⟨by have := hk.1; have := hW.size; have := HU2.out.lt; omega, hk.2, by have := hk.1; have := hW.size; have := HV2.out.lt; omega⟩) hC⟩, v8_of hV⟩))
    have HMd := Lib.hid (show ∀ (A4 : Option Addr) (cap4 : Nat) (w4 W : World) (_ : Hid (PartS m N U V w (.mk hd l) hd A l.length cap y s4 A4 cap4 w4)) (_ : W.heap = (w4.alloc (.cells (xcell (hd, A, l.length, cap) ++ xcell (y.hd, A4, y.kids.length, cap4)).toArray 37)).heap) (_ : Below w4.heap.size w4 W),
      Calls Tryz.prog 112 #[.int .i64 3, .int .i64 o, .slice (some ⟨w4.heap.size, 0, none⟩) 2 2] W (fun e w5 => e = .returned (XV (hdO (o : Int)) (some ⟨w4.heap.size, 0, none⟩) 2 2) ∧ Hid (MadeS m U V w (Pa.mkOp o [.mk hd l, y]) (hdO (o : Int)) s4 (some ⟨w4.heap.size, 0, none⟩) 2 2 hd A l.length cap w5) ∧ V8 w5 V hd A l.length cap) from fun A4 cap4 w4 W hP hW hb => (pmade_any 3 o (some ⟨w4.heap.size, 0, none⟩) 2 2 W).mono (fun e w5 hE => by
     obtain ⟨rfl, hb5⟩ := hE
     exact ⟨rfl, made_two hP.out hW hb hb5⟩))
    clear hb hs3N d0 fd0 d1 fd1 d2 fd2 d3 fd3 d4 fd4 d5 fd5 d6 fd6 d7 fd7
    obtain ⟨d0, d1, d2, d3, d4, d5, d6, d7⟩ := cl8 (w := w2) (HV2.out)
    have fd0 := (HV2.out).frozen 0
    have fd1 := (HV2.out).frozen 1
    have fd2 := (HV2.out).frozen 2
    have fd3 := (HV2.out).frozen 3
    have fd4 := (HV2.out).frozen 4
    have fd5 := (HV2.out).frozen 5
    have fd6 := (HV2.out).frozen 6
    have fd7 := (HV2.out).frozen 7
    go_wp2_with fail
    go_region_with (first
     | (refine (HPx.out _ (by repeat (first | exact Below.refl _ _ | refine Below.drew ?_))).mono ?_; rintro e w4 ⟨A4, cap4, rfl, HP4, d0, d1, d2, d3, d4, d5, d6, d7, fd0, fd1, fd2, fd3, fd4, fd5, fd6, fd7⟩)
     | (refine (HMd.out _ _ _ _ HP4 rfl (by repeat (first | exact Below.refl _ _ | refine Below.drew ?_ | refine Below.alloc ?_ (Nat.le_refl _) _))).mono ?_; rintro e w5 ⟨rfl, HP5, d0, d1, d2, d3, d4, d5, d6, d7, fd0, fd1, fd2, fd3, fd4, fd5, fd6, fd7⟩))
    all_goals
     have HSn := Lib.hid (RowS.step (part := part) (ops := ops) (N := N) (nn := nn) (n := 2) rfl (by have := HLs.out; have := HS.out.len; have := HLe4.out; omega) (by have := HLs.out; have := HS.out.most; have := HLe4.out; omega) HmU.out HUV.out (Nat.le_of_eq HUl.out) HP5.out.rs HP5.out.but HP5.out.bu HP5.out.ez HX2.out ((OnU.refl V w5).set.set.set.set.set.set.set.set) (box8_set HP5.out.bv _ _ _ _ _ _ _ _))
     go_wp2_with fail
     go_roundw
     case rel => exact ⟨_, _, _, _, _, HSn⟩
     case measure => rw [HSn.out.rs.len, HS.out.rs.len]; have := HLs.out; have := HLe4.out; omega
end Go.Proofs.YtfjimoccliejdaaGreatDoor
end
