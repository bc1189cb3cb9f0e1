/-
  Queries that are read of tokens, plainly: whatever is read is small.
-/
import Derived.Test.YtfjimoccliejdaaGreatDoorE15
import Derived.Deep.RegionHeld3
import Derived.Deep.RegionWith
section
namespace Go.Proofs.YtfjimoccliejdaaGreatDoor
open Go.RowKit Go.Shelf

abbrev cs3 : Array Value := #[.slice none 0 0, .slice none 0 0, .int .i64 0]
structure QuS (m U V : Nat) (w : World) (parts : List Pa.Sel) (pA : Option Addr) (pc : Nat) (order : List Pa.Ky) (oA : Option Addr) (oc : Nat) (lim : Int) (s1 : Pa.Ps) (W : World) : Prop where
 rs : RS m W s1
 but : ButM m w W
 bu : BxU W U cs3 26
 bv : BxU W V #[.slice pA parts.length pc, .slice oA order.length oc, .int .i64 lim] 26
 lp : parts.length ≤ pc ∧ Ls slC (Bv U V W.heap.size) W parts pA
 lo : order.length ≤ oc ∧ Ls kyC (Bv U V W.heap.size) W order oA
theorem QuS.go {m U V : Nat} {w : World} {parts : List Pa.Sel} {pA : Option Addr} {pc : Nat} {order : List Pa.Ky} {oA : Option Addr} {oc : Nat} {lim : Int} {s1 : Pa.Ps} {W W' : World} {s2 : Pa.Ps} (h : QuS m U V w parts pA pc order oA oc lim s1 W) (hR : RS m W' s2) (hM : ButM m w W') (hU : BxU W' U cs3 26) (hV : BxU W' V #[.slice pA parts.length pc, .slice oA order.length oc, .int .i64 lim] 26) (hk : ∀ k, Bv U V W.heap.size k → W'.heap[k]? = W.heap[k]?) (hs : W.heap.size ≤ W'.heap.size) : QuS m U V w parts pA pc order oA oc lim s2 W' := by
 have hB : ∀ k, Bv U V W.heap.size k → Bv U V W'.heap.size k := fun k hk => ⟨hk.1, Nat.lt_of_lt_of_le hk.2.1 hs, hk.2.2⟩
 exact ⟨hR, hM, hU, hV, ⟨h.lp.1, h.lp.2.go slC_ok hk hB⟩, ⟨h.lo.1, h.lo.2.go kyC_ok hk hB⟩⟩
theorem QuS.next {m U V : Nat} {w : World} {parts : List Pa.Sel} {pA : Option Addr} {pc : Nat} {order : List Pa.Ky} {oA : Option Addr} {oc : Nat} {lim : Int} {s1 : Pa.Ps} {W W' : World} (h : QuS m U V w parts pA pc order oA oc lim s1 W) (hb : Below W.heap.size W W') : QuS m U V w parts pA pc order oA oc lim s1 W' :=
 h.go (h.rs.next hb) (h.but.trans (ButM.of hb)) (h.bu.next hb) (h.bv.next hb) (fun k hk => hb.block k hk.2.1) hb.size
theorem QuS.step {m U V : Nat} {w : World} {parts : List Pa.Sel} {pA : Option Addr} {pc : Nat} {order : List Pa.Ky} {oA : Option Addr} {oc : Nat} {lim : Int} {s1 : Pa.Ps} {W W' : World} {s2 : Pa.Ps} (h : QuS m U V w parts pA pc order oA oc lim s1 W) (hm : m < U) (hUV : U < V) (hM : ButM m W W') (hR : RS m W' s2) : QuS m U V w parts pA pc order oA oc lim s2 W' :=
 h.go hR (h.but.trans hM) (h.bu.but hm hM) (h.bv.but (by omega) hM) (fun k hk => hM.block k hk.2.1 (by have := hk.1; omega)) hM.size
theorem QuS.keys {m U V : Nat} {w : World} {parts : List Pa.Sel} {pA : Option Addr} {pc : Nat} {order : List Pa.Ky} {oA : Option Addr} {oc : Nat} {lim : Int} {s1 : Pa.Ps} {W : World} (h : QuS m U V w parts pA pc order oA oc lim s1 W) (hm : m < U) (hUV : U < V) (hw : w.heap.size ≤ U) {v : Value} {l : List Pa.Ky} {b : Nat} (ho : Ow kyC 54 2 b W v l) (hb : V < b) :
  ∃ A9 c9, v = .slice A9 l.length c9 ∧ QuS m U V w parts pA pc l A9 c9 lim s1 (W.setCell ⟨V, 1, none⟩ (.slice A9 l.length c9)) := by
 obtain ⟨A9, c9, rfl, hl9, hL⟩ := ho.read kyC_ok
 have hO : OnU V W (W.setCell ⟨V, 1, none⟩ (.slice A9 l.length c9)) := (OnU.refl V W).set
 have hk : ∀ k, Bv U V W.heap.size k → (W.setCell ⟨V, 1, none⟩ (.slice A9 l.length c9)).heap[k]? = W.heap[k]? := fun k hk => hO.block k hk.2.2
 have hB : ∀ k, Bv U V W.heap.size k → Bv U V (W.setCell ⟨V, 1, none⟩ (.slice A9 l.length c9)).heap.size k := fun k hk => ⟨hk.1, by rw [hO.size]; exact hk.2.1, hk.2.2⟩
 have hB9 : ∀ k, Bn b W k → Bv U V (W.setCell ⟨V, 1, none⟩ (.slice A9 l.length c9)).heap.size k := fun k hk => ⟨by have := hk.1; omega, by rw [hO.size]; exact hk.2, by have := hk.1; omega⟩
 exact ⟨A9, c9, rfl, hO.rs (by omega) h.rs, hO.but (by omega) h.but, h.bu.off (Nat.ne_of_lt hUV) hO, h.bv.set1 1 _, ⟨h.lp.1, h.lp.2.go slC_ok hk hB⟩, ⟨hl9, hL.go kyC_ok (fun k hk => hO.block k (hB9 k hk).2.2) hB9⟩⟩
theorem QuS.limit {m U V : Nat} {w : World} {parts : List Pa.Sel} {pA : Option Addr} {pc : Nat} {order : List Pa.Ky} {oA : Option Addr} {oc : Nat} {lim : Int} {s1 : Pa.Ps} {W : World} (h : QuS m U V w parts pA pc order oA oc lim s1 W) (hm : m < U) (hUV : U < V) (hw : w.heap.size ≤ U) (n : Int) : QuS m U V w parts pA pc order oA oc n s1 (W.setCell ⟨V, 2, none⟩ (.int .i64 n)) := by
 have hO : OnU V W (W.setCell ⟨V, 2, none⟩ (.int .i64 n)) := (OnU.refl V W).set
 have hk : ∀ k, Bv U V W.heap.size k → (W.setCell ⟨V, 2, none⟩ (.int .i64 n)).heap[k]? = W.heap[k]? := fun k hk => hO.block k hk.2.2
 have hB : ∀ k, Bv U V W.heap.size k → Bv U V (W.setCell ⟨V, 2, none⟩ (.int .i64 n)).heap.size k := fun k hk => ⟨hk.1, by rw [hO.size]; exact hk.2.1, hk.2.2⟩
 exact ⟨hO.rs (by omega) h.rs, hO.but (by omega) h.but, h.bu.off (Nat.ne_of_lt hUV) hO, h.bv.set1 2 _, ⟨h.lp.1, h.lp.2.go slC_ok hk hB⟩, ⟨h.lo.1, h.lo.2.go kyC_ok hk hB⟩⟩
theorem QuS.told {m U V : Nat} {w : World} {parts : List Pa.Sel} {pA : Option Addr} {pc : Nat} {order : List Pa.Ky} {oA : Option Addr} {oc : Nat} {lim : Int} {s1 : Pa.Ps} {W : World} (h : QuS m U V w parts pA pc order oA oc lim s1 W) : quC (Bt (U + 1) W.heap.size) W (⟨parts, order, lim⟩ : Pa.Qu) [.slice pA parts.length pc, .slice oA order.length oc, .int .i64 lim] := by
 have hB : ∀ k, Bv U V W.heap.size k → Bt (U + 1) W.heap.size k := fun k hk => ⟨hk.1, hk.2.1⟩
 exact ⟨pA, oA, pc, oc, rfl, ⟨h.lp.1, h.lo.1⟩, h.lp.2.go slC_ok (fun _ _ => rfl) hB, h.lo.2.go kyC_ok (fun _ _ => rfl) hB⟩
theorem quC_ok : LayOk quC 3 :=
 ⟨fun hb hB h => quC_go hb hB h, fun ⟨_, _, _, _, hc, _⟩ => by rw [hc]; rfl, fun ⟨_, _, _, _, hc, _⟩ => by
  rw [hc]
  intro u hu
  simp at hu
  rcases hu with rfl | rfl | rfl <;> rfl⟩
set_option maxRecDepth 100000 in
set_option maxHeartbeats 4000000 in
theorem pquery_any (F m N : Nat) (hN5 : N ≤ 5000) (HO : Ok 29 (Pa.lev F 0) m N) : OkP quC 19 (Pa.queryP (Pa.lev F 0)) m N := by
 intro s w h hN
 have HPa := Lib.hid (ppart_any F m N hN5 HO)
 have HKe := Lib.hid (show OkP kyC 45 Pa.keyP m N from fun s w h _ => pkey_any m s w h)
 clear HO
 have HB := Lib.hid (ba w (.cells #[.slice none 0 0, .slice none 0 0, .int .i64 0] 26))
 have HU := Lib.hid (show BxU _ _ #[.slice none 0 0, .slice none 0 0, .int .i64 0] 26 from (MapKept.heap_alloc w (.cells #[.slice none 0 0, .slice none 0 0, .int .i64 0] 26)).1)
 have H1 := Lib.hid (h.next HB.out)
 have hmU := h.lt
 have HFin := Lib.hid h.fin
 obtain ⟨U, hU⟩ : ∃ U, w.heap.size = U := ⟨_, rfl⟩
 have HUl := Lib.hid hU
 have HSz := Lib.hid (show (w.alloc (.cells #[.slice none 0 0, .slice none 0 0, .int .i64 0] 26)).heap.size = U + 1 by rw [World.size_alloc, hU])
 rw [hU] at HU hmU
 have HmU := Lib.hid hmU
 obtain ⟨X, hX⟩ : ∃ X, Pa.queryP (Pa.lev F 0) s = X := ⟨_, rfl⟩
 rw [hX]
 have HX := Lib.hid hX
 clear h hX hmU
 go_enter Tryz.func19, Tryz.ntmps19
 go_wp2_with fail
 generalize w.alloc (.cells #[.slice none 0 0, .slice none 0 0, .int .i64 0] 26) = W1 at HB HU H1 HSz ⊢
 clear hU
 have HM1 := Lib.hid (show ButM m w W1 from ButM.of HB.out)
 have hbg := ba W1 (.cells #[st Pa.wUNION, st Pa.wALL] 9)
 have hgg : BxU (W1.alloc (.cells #[st Pa.wUNION, st Pa.wALL] 9)) (U + 1) #[st Pa.wUNION, st Pa.wALL] 9 := by have := (MapKept.heap_alloc W1 (.cells #[st Pa.wUNION, st Pa.wALL] 9)).1; rw [HSz.out] at this; exact this
 have hp := fun (s : Pa.Ps) (hs : Pa.Fin s.ts) => Pa.partP_le (fun s hs => Pa.lev_le F 0 s hs) hs
 have HTl := Lib.hid (listL_any (Pa.partP (Pa.lev F 0)) hp m N hN5 HPa.out s Pa.wUNION Pa.wALL (U + 1) _ (H1.out.next hbg) hN (by have := HmU.out; omega) (hgg.cell 0) (hgg.cell 1))
 obtain ⟨⟨parts, sp⟩, hl⟩ : ∃ q, Pa.listP (Pa.partP (Pa.lev F 0)) Pa.wUNION [Pa.wALL] s = q := ⟨_, rfl⟩
 have hll := Pa.listP_le (w := Pa.wUNION) (ws := [Pa.wALL]) hp HFin.out
 rw [hl] at HTl hll
 have HKl := Lib.hid hl
 simp only at HTl
 have HNp := Lib.hid (show sp.ts.length ≤ N from Nat.le_trans (show sp.ts.length ≤ _ from hll.len) hN)
 have HSg := Lib.hid (show U < (W1.alloc (.cells #[st Pa.wUNION, st Pa.wALL] 9)).heap.size by rw [World.size_alloc, HSz.out]; omega)
 have HMg := Lib.hid (HM1.out.trans (ButM.of hbg))
 have HUg := Lib.hid (HU.out.next hbg)
 have HwU := Lib.hid (show w.heap.size ≤ U by rw [HUl.out]; exact Nat.le_refl _)
 clear hbg hgg hp hl hll hN
 go_wp2_with fail
 refine HTl.out.mono ?_
 rintro e v2 ⟨vp, rfl, hO, hR, hM⟩
 obtain ⟨pA, pc, rfl, hpc, hL⟩ := hO.read slC_ok
 have hbv := ba v2 (.cells #[.slice pA parts.length pc, .slice none 0 0, .int .i64 (-1)] 26)
 have hVv := (MapKept.heap_alloc v2 (.cells #[.slice pA parts.length pc, .slice none 0 0, .int .i64 (-1)] 26)).1
 obtain ⟨V, hV⟩ : ∃ V, v2.heap.size = V := ⟨_, rfl⟩
 rw [hV] at hVv
 have HUV := Lib.hid (show U < V by rw [← hV]; exact (HUg.out.but HmU.out hM).lt)
 have HS3 := Lib.hid (show QuS m U V w parts pA pc [] none 0 (-1) sp (v2.alloc (.cells #[.slice pA parts.length pc, .slice none 0 0, .int .i64 (-1)] 26)) from ⟨hR.next hbv, (HMg.out.trans hM).trans (ButM.of hbv), (HUg.out.but HmU.out hM).next hbv, hVv, ⟨hpc, hL.go slC_ok (fun k hk => hbv.block k hk.2) (fun k hk => ⟨by have := hk.1; have := HSg.out; omega, Nat.lt_of_lt_of_le hk.2 hbv.size, by have := hk.2; omega⟩)⟩, ⟨Nat.le_refl _, Ls.nil _ _ _ _⟩⟩)
 have HmV3 := Lib.hid hR.lt
 clear hO hR hM hL hbv hVv
 have HSz3 := Lib.hid (show (v2.alloc (.cells #[.slice pA parts.length pc, .slice none 0 0, .int .i64 (-1)] 26)).heap.size = V + 1 by rw [World.size_alloc, hV])
 have hbo := ba (v2.alloc (.cells #[.slice pA parts.length pc, .slice none 0 0, .int .i64 (-1)] 26)) (.cells #[st Pa.wORDER, st Pa.wBY] 9)
 have hgo : BxU ((v2.alloc (.cells #[.slice pA parts.length pc, .slice none 0 0, .int .i64 (-1)] 26)).alloc (.cells #[st Pa.wORDER, st Pa.wBY] 9)) (V + 1) #[st Pa.wORDER, st Pa.wBY] 9 := by have := (MapKept.heap_alloc (v2.alloc (.cells #[.slice pA parts.length pc, .slice none 0 0, .int .i64 (-1)] 26)) (.cells #[st Pa.wORDER, st Pa.wBY] 9)).1; rw [HSz3.out] at this; exact this
 have HS4 := Lib.hid (HS3.out.next hbo)
 have HTo := Lib.hid (takeAll2_any m sp Pa.wORDER Pa.wBY (V + 1) _ HS4.out.rs (by have := HmU.out; have := HUV.out; omega) (hgo.cell 0) (hgo.cell 1))
 have hng := Pa.takeAll_le Pa.wORDER [Pa.wBY] HS3.out.rs.fin
 obtain ⟨to, ht⟩ : ∃ z, (Pa.takeAll Pa.wORDER [Pa.wBY] sp).1 = z := ⟨_, rfl⟩
 obtain ⟨so, hs⟩ : ∃ z, (Pa.takeAll Pa.wORDER [Pa.wBY] sp).2 = z := ⟨_, rfl⟩
 rw [ht, hs] at HTo
 rw [ht, hs] at hng
 have HKo := Lib.hid (show Pa.takeAll Pa.wORDER [Pa.wBY] sp = (to, so) by rw [← ht, ← hs])
 have HNo := Lib.hid (show so.ts.length ≤ N by have := hng.1.len; have := HNp.out; omega)
 have hno := hng.2.2
 clear ht hs hng hbo hgo
 go_wp2_with fail
 clear hV
 refine HTo.out.mono ?_
 rintro e v4 ⟨rfl, hR, hM⟩
 have HS5 := Lib.hid (HS4.out.step HmU.out HUV.out hM hR)
 clear hR hM
 cases to with
 | true =>
  clear hno
  have hbg := ba v4 (.cells #[st [44]] 9)
  have hgg : BxU (v4.alloc (.cells #[st [44]] 9)) v4.heap.size #[st [44]] 9 := (MapKept.heap_alloc v4 (.cells #[st [44]] 9)).1
  have HS6 := Lib.hid (HS5.out.next hbg)
  have HTk := Lib.hid (listK_any Pa.keyP (fun s hs => Pa.keyP_le hs) m N hN5 HKe.out so [44] v4.heap.size _ HS6.out.rs HNo.out HS5.out.rs.lt (hgg.cell 0))
  obtain ⟨⟨order, sk⟩, hk⟩ : ∃ q, Pa.listP Pa.keyP [44] [] so = q := ⟨_, rfl⟩
  rw [hk] at HTk
  have HKk0 := Lib.hid hk
  simp only at HTk
  have HVs := Lib.hid (show V < (v4.alloc (.cells #[st [44]] 9)).heap.size from HS6.out.bv.lt)
  clear hk hbg hgg
  go_wp2_with fail
  refine HTk.out.mono ?_
  rintro e v5 ⟨vk, rfl, hO, hR, hM⟩
  obtain ⟨oA, oc, rfl, hS9⟩ := (HS6.out.step HmU.out HUV.out hM hR).keys HmU.out HUV.out HwU.out hO HVs.out
  have HSx := Lib.hid (HS6.out.step HmU.out HUV.out hM hR)
  have d1 : v5.cell? ⟨V, 1, none⟩ = some (.slice none 0 0) := HSx.out.bv.cell 1
  have fd1 := HSx.out.bv.frozen 1
  have HS9k := Lib.hid hS9
  clear hO hR hM hS9
  go_wp2_with fail
  generalize v5.setCell ⟨V, 1, none⟩ (.slice oA order.length oc) = W6 at HS9k ⊢
  clear d1 fd1
  have HTm := Lib.hid (take_any m sk Pa.wLIMIT W6 HS9k.out.rs)
  have hnl := Pa.takeW_le Pa.wLIMIT HS9k.out.rs.fin
  obtain ⟨tl, ht⟩ : ∃ z, (Pa.takeW Pa.wLIMIT sk).1 = z := ⟨_, rfl⟩
  obtain ⟨sl, hs⟩ : ∃ z, (Pa.takeW Pa.wLIMIT sk).2 = z := ⟨_, rfl⟩
  rw [ht, hs] at HTm
  rw [ht, hs] at hnl
  have HKm := Lib.hid (show Pa.takeW Pa.wLIMIT sk = (tl, sl) by rw [← ht, ← hs])
  have hno2 := hnl.2.2
  clear ht hs hnl
  skip
  refine HTm.out.mono ?_
  rintro e v7 ⟨rfl, hR, hM⟩
  have HS7 := Lib.hid (HS9k.out.step HmU.out HUV.out hM hR)
  clear hR hM
  cases tl with
  | true =>
   clear hno2
   have HTk := Lib.hid (mustK_any m sl 3 (by decide) v7 HS7.out.rs)
   obtain ⟨⟨tk, sk⟩, hk⟩ : ∃ q, Pa.mustK 3 sl = q := ⟨_, rfl⟩
   rw [hk] at HTk
   have HKk := Lib.hid hk
   simp only at HTk
   clear hk
   go_wp2_with fail
   refine HTk.out.mono ?_
   rintro e v8 ⟨⟨y8, rfl, hy⟩, hR, hM⟩
   have HS8 := Lib.hid (HS7.out.step HmU.out HUV.out hM hR)
   have hfd := field_tokN y8.1.k ⟨y8.1.s.toArray⟩ y8.1.n y8.2 v8
   have HY := Lib.hid hy
   clear hR hM hy
   have HS9 := Lib.hid (HS8.out.limit HmU.out HUV.out HwU.out (y8.1.n : Int))
   have hUneV : U ≠ V := Nat.ne_of_lt HUV.out
   have hVneU := hUneV.symm
   have d0 : v8.cell? ⟨V, 0, none⟩ = some (.slice pA parts.length pc) := HS8.out.bv.cell 0
   have d1 : v8.cell? ⟨V, 1, none⟩ = some (.slice oA order.length oc) := HS8.out.bv.cell 1
   have d2 : v8.cell? ⟨V, 2, none⟩ = some (.int .i64 (-1)) := HS8.out.bv.cell 2
   have fd2 := HS8.out.bv.frozen 2
   have HXe := Lib.hid (show X = (⟨parts, order, (y8.1.n : Int)⟩, sk) by rw [← HX.out]; simp only [Pa.queryP, HKl.out, Pa.orderP, HKo.out, if_true, HKk0.out, Pa.limitP, HKm.out, if_true, HKk.out, HY.out])
   have c0 : ((v8.setCell ⟨V, 2, none⟩ (.int .i64 (y8.1.n : Int)))).cell? ⟨U, 0, none⟩ = some (.slice none 0 0) := (HS9.out.bu).cell 0
   have c1 : ((v8.setCell ⟨V, 2, none⟩ (.int .i64 (y8.1.n : Int)))).cell? ⟨U, 1, none⟩ = some (.slice none 0 0) := (HS9.out.bu).cell 1
   have c2 : ((v8.setCell ⟨V, 2, none⟩ (.int .i64 (y8.1.n : Int)))).cell? ⟨U, 2, none⟩ = some (.int .i64 0) := (HS9.out.bu).cell 2
   have fc0 := (HS9.out.bu).frozen 0
   have fc1 := (HS9.out.bu).frozen 1
   have fc2 := (HS9.out.bu).frozen 2
   go_wp2_with fail
   exact bodyPost_ret (v := .agg #[.slice pA parts.length pc, .slice oA order.length oc, .int .i64 (y8.1.n : Int)]) (by simp [results, Tryz.results19, go_sem, c0, c1, c2]) rfl (by rw [HXe.out]; exact RuE.fin (c := [.slice pA parts.length pc, .slice oA order.length oc, .int .i64 (y8.1.n : Int)]) quC_ok HUl.out HmU.out HS9.out.but HS9.out.rs HS9.out.told (OnU.refl _ _).set.set.set)
  | false =>
   obtain rfl := hno2 rfl
   clear hno2
   have hUneV : U ≠ V := Nat.ne_of_lt HUV.out
   have hVneU := hUneV.symm
   have d0 : v7.cell? ⟨V, 0, none⟩ = some (.slice pA parts.length pc) := HS7.out.bv.cell 0
   have d1 : v7.cell? ⟨V, 1, none⟩ = some (.slice oA order.length oc) := HS7.out.bv.cell 1
   have d2 : v7.cell? ⟨V, 2, none⟩ = some (.int .i64 (-1)) := HS7.out.bv.cell 2
   have HXe := Lib.hid (show X = (⟨parts, order, -1⟩, sl) by rw [← HX.out]; simp only [Pa.queryP, HKl.out, Pa.orderP, HKo.out, if_true, HKk0.out, Pa.limitP, HKm.out, Bool.false_eq_true, if_false])
   have c0 : (v7).cell? ⟨U, 0, none⟩ = some (.slice none 0 0) := (HS7.out.bu).cell 0
   have c1 : (v7).cell? ⟨U, 1, none⟩ = some (.slice none 0 0) := (HS7.out.bu).cell 1
   have c2 : (v7).cell? ⟨U, 2, none⟩ = some (.int .i64 0) := (HS7.out.bu).cell 2
   have fc0 := (HS7.out.bu).frozen 0
   have fc1 := (HS7.out.bu).frozen 1
   have fc2 := (HS7.out.bu).frozen 2
   go_wp2_with fail
   exact bodyPost_ret (v := .agg #[.slice pA parts.length pc, .slice oA order.length oc, .int .i64 (-1)]) (by simp [results, Tryz.results19, go_sem, c0, c1, c2]) rfl (by rw [HXe.out]; exact RuE.fin (c := [.slice pA parts.length pc, .slice oA order.length oc, .int .i64 (-1)]) quC_ok HUl.out HmU.out HS7.out.but HS7.out.rs HS7.out.told (OnU.refl _ _).set.set.set)
 | false =>
  obtain rfl := hno rfl
  clear hno
  have HTm := Lib.hid (take_any m so Pa.wLIMIT v4 HS5.out.rs)
  have hnl := Pa.takeW_le Pa.wLIMIT HS5.out.rs.fin
  obtain ⟨tl, ht⟩ : ∃ z, (Pa.takeW Pa.wLIMIT so).1 = z := ⟨_, rfl⟩
  obtain ⟨sl, hs⟩ : ∃ z, (Pa.takeW Pa.wLIMIT so).2 = z := ⟨_, rfl⟩
  rw [ht, hs] at HTm
  rw [ht, hs] at hnl
  have HKm := Lib.hid (show Pa.takeW Pa.wLIMIT so = (tl, sl) by rw [← ht, ← hs])
  have hno2 := hnl.2.2
  clear ht hs hnl
  go_wp2_with fail
  refine HTm.out.mono ?_
  rintro e v7 ⟨rfl, hR, hM⟩
  have HS7 := Lib.hid (HS5.out.step HmU.out HUV.out hM hR)
  clear hR hM
  cases tl with
  | true =>
   clear hno2
   have HTk := Lib.hid (mustK_any m sl 3 (by decide) v7 HS7.out.rs)
   obtain ⟨⟨tk, sk⟩, hk⟩ : ∃ q, Pa.mustK 3 sl = q := ⟨_, rfl⟩
   rw [hk] at HTk
   have HKk := Lib.hid hk
   simp only at HTk
   clear hk
   go_wp2_with fail
   refine HTk.out.mono ?_
   rintro e v8 ⟨⟨y8, rfl, hy⟩, hR, hM⟩
   have HS8 := Lib.hid (HS7.out.step HmU.out HUV.out hM hR)
   have hfd := field_tokN y8.1.k ⟨y8.1.s.toArray⟩ y8.1.n y8.2 v8
   have HY := Lib.hid hy
   clear hR hM hy
   have HS9 := Lib.hid (HS8.out.limit HmU.out HUV.out HwU.out (y8.1.n : Int))
   have hUneV : U ≠ V := Nat.ne_of_lt HUV.out
   have hVneU := hUneV.symm
   have d0 : v8.cell? ⟨V, 0, none⟩ = some (.slice pA parts.length pc) := HS8.out.bv.cell 0
   have d1 : v8.cell? ⟨V, 1, none⟩ = some (.slice none ([] : List Pa.Ky).length 0) := HS8.out.bv.cell 1
   have d2 : v8.cell? ⟨V, 2, none⟩ = some (.int .i64 (-1)) := HS8.out.bv.cell 2
   have fd2 := HS8.out.bv.frozen 2
   have HXe := Lib.hid (show X = (⟨parts, ([] : List Pa.Ky), (y8.1.n : Int)⟩, sk) by rw [← HX.out]; simp only [Pa.queryP, HKl.out, Pa.orderP, HKo.out, Bool.false_eq_true, if_false, Pa.limitP, HKm.out, if_true, HKk.out, HY.out])
   have c0 : ((v8.setCell ⟨V, 2, none⟩ (.int .i64 (y8.1.n : Int)))).cell? ⟨U, 0, none⟩ = some (.slice none 0 0) := (HS9.out.bu).cell 0
   have c1 : ((v8.setCell ⟨V, 2, none⟩ (.int .i64 (y8.1.n : Int)))).cell? ⟨U, 1, none⟩ = some (.slice none 0 0) := (HS9.out.bu).cell 1
   have c2 : ((v8.setCell ⟨V, 2, none⟩ (.int .i64 (y8.1.n : Int)))).cell? ⟨U, 2, none⟩ = some (.int .i64 0) := (HS9.out.bu).cell 2
   have fc0 := (HS9.out.bu).frozen 0
   have fc1 := (HS9.out.bu).frozen 1
   have fc2 := (HS9.out.bu).frozen 2
   go_wp2_with fail
   exact bodyPost_ret (v := .agg #[.slice pA parts.length pc, .slice none ([] : List Pa.Ky).length 0, .int .i64 (y8.1.n : Int)]) (by simp [results, Tryz.results19, go_sem, c0, c1, c2]) rfl (by rw [HXe.out]; exact RuE.fin (c := [.slice pA parts.length pc, .slice none ([] : List Pa.Ky).length 0, .int .i64 (y8.1.n : Int)]) quC_ok HUl.out HmU.out HS9.out.but HS9.out.rs HS9.out.told (OnU.refl _ _).set.set.set)
  | false =>
   obtain rfl := hno2 rfl
   clear hno2
   have hUneV : U ≠ V := Nat.ne_of_lt HUV.out
   have hVneU := hUneV.symm
   have d0 : v7.cell? ⟨V, 0, none⟩ = some (.slice pA parts.length pc) := HS7.out.bv.cell 0
   have d1 : v7.cell? ⟨V, 1, none⟩ = some (.slice none ([] : List Pa.Ky).length 0) := HS7.out.bv.cell 1
   have d2 : v7.cell? ⟨V, 2, none⟩ = some (.int .i64 (-1)) := HS7.out.bv.cell 2
   have HXe := Lib.hid (show X = (⟨parts, ([] : List Pa.Ky), -1⟩, sl) by rw [← HX.out]; simp only [Pa.queryP, HKl.out, Pa.orderP, HKo.out, Bool.false_eq_true, if_false, Pa.limitP, HKm.out])
   have c0 : (v7).cell? ⟨U, 0, none⟩ = some (.slice none 0 0) := (HS7.out.bu).cell 0
   have c1 : (v7).cell? ⟨U, 1, none⟩ = some (.slice none 0 0) := (HS7.out.bu).cell 1
   have c2 : (v7).cell? ⟨U, 2, none⟩ = some (.int .i64 0) := (HS7.out.bu).cell 2
   have fc0 := (HS7.out.bu).frozen 0
   have fc1 := (HS7.out.bu).frozen 1
   have fc2 := (HS7.out.bu).frozen 2
   go_wp2_with fail
   exact bodyPost_ret (v := .agg #[.slice pA parts.length pc, .slice none ([] : List Pa.Ky).length 0, .int .i64 (-1)]) (by simp [results, Tryz.results19, go_sem, c0, c1, c2]) rfl (by rw [HXe.out]; exact RuE.fin (c := [.slice pA parts.length pc, .slice none ([] : List Pa.Ky).length 0, .int .i64 (-1)]) quC_ok HUl.out HmU.out HS7.out.but HS7.out.rs HS7.out.told (OnU.refl _ _).set.set.set)
end Go.Proofs.YtfjimoccliejdaaGreatDoor
end
section
namespace Go.Proofs.YtfjimoccliejdaaGreatDoor
open Go.RowKit Go.Shelf

theorem kid_at {W : World} {w : World} {l : List Ex} {A : Option Addr} {j : Nat} (hX : XsAt w.heap.size w l A) (hb : Below w.heap.size w W) (hj : j < l.length) :
  ∃ h' l' g o A' cap', l[j]? = some (.mk h' l') ∧ A = some ⟨g, o, none⟩ ∧ g < W.heap.size ∧ XC W g (o + j * 8) h' A' l'.length cap' ∧ l'.length ≤ cap' ∧ XsAt W.heap.size W l' A' := by
 obtain ⟨x, hx⟩ : ∃ x, l[j]? = some x := ⟨_, List.getElem?_eq_getElem hj⟩
 obtain ⟨h', l'⟩ := x
 obtain ⟨g, o, A', cap', e, hg, hc, hl, hx2⟩ := hX.at hx
 exact ⟨h', l', g, o, A', cap', hx, e, Nat.lt_of_lt_of_le hg hb.size, hc.of (hb.block g hg), hl, XsAt.next hx2 hb⟩
end Go.Proofs.YtfjimoccliejdaaGreatDoor
end
section
namespace Go.Proofs.YtfjimoccliejdaaGreatDoor
section
open Go.RowKit Go.Shelf
attribute [local go_sem] Oper.semAt_some

abbrev Apt (n u2 u3 : Nat) (W : World) (k : Nat) : Prop := n ≤ k ∧ k < W.heap.size ∧ k ≠ u2 ∧ k ≠ u3
theorem Apt.next {n u2 u3 : Nat} {W W' : World} {l : List Ex} {A : Option Addr} (hb : Bel W W') (h : XsB (Apt n u2 u3 W) W l A) : XsB (Apt n u2 u3 W') W' l A :=
 XsB.go (fun k hk => hb.block k hk.2.1) (fun _ hk => ⟨hk.1, Nat.lt_of_lt_of_le hk.2.1 hb.size, hk.2.2⟩) _ _ h
end
section
open Go.RowKit Go.Shelf
attribute [local go_sem] Oper.semAt_some

abbrev eA : Ex := .mk (hdC ⟨#[]⟩ ⟨#[97]⟩) []
mutual
def nzX : Ex → Bool
 | .mk h l => h.k != 0 && nzXs l
def nzXs : List Ex → Bool
 | [] => true
 | x :: r => nzX x && nzXs r
end
theorem XsB.off {B : Nat → Prop} {w : World} {u : Nat} (hu : w.heap[u]? = some x0) : ∀ (l : List Ex) (A : Option Addr), nzXs l = true → XsB B w l A → XsB (fun k => B k ∧ k ≠ u) w l A
 | [], _, _, _ => by rw [XsB]; trivial
 | .mk h l :: r, A, hz, H => by
  rw [nzXs, nzX] at hz
  simp only [Bool.and_eq_true, bne_iff_ne] at hz
  rw [XsB] at H ⊢
  obtain ⟨g, o, e, hg, ⟨A', cap, hc, hl, h1⟩, h2⟩ := H
  refine ⟨g, o, e, ⟨hg, fun e2 => ?_⟩, ⟨A', cap, hc, hl, XsB.off hu l A' hz.1.2 h1⟩, XsB.off hu r _ hz.2 h2⟩
  subst e2
  have h0 := hc.c0
  have h7 := hc.c7
  simp only [World.cell?, hu] at h0 h7
  have ho : o = 0 := by
   rcases Nat.eq_zero_or_pos o with h | h
   ·exact h
   ·rw [Array.getElem?_eq_none (by simp; omega)] at h7; cases h7
  subst ho
  simp at h0
  exact hz.1.1 h0.symm
end
end Go.Proofs.YtfjimoccliejdaaGreatDoor
end
section
namespace Go.Proofs.YtfjimoccliejdaaGreatDoor
open Go.RowKit Go.Shelf

theorem one_any (h : Hd) (A : Option Addr) (len cap : Nat) (ag : Bool) (w : World) (hs : Sm h) (hl : len ≤ 9223372036854775807) :
  Calls Tryz.prog 117 #[XV h A len cap, .bool ag] w fun e w' => e = .returned (.bool (oneB h len ag)) ∧ Below w.heap.size w w' := by
 by_cases h1 : h.k = 1
 ·exact one_1 h A len cap ag w hs h1
 by_cases h2 : h.k = 2
 ·exact one_2 h A len cap ag w hs h2
 by_cases h3 : h.k = 3
 ·exact one_3 h A len cap ag w hs hl h3
 by_cases h4 : h.k = 4
 ·exact one_4 h A len cap ag w hs hl h4
 have HF := Lib.hid (show oneB h len ag = false by unfold oneB fitsB; rw [if_neg h1, if_neg h2, if_neg h3, if_neg h4, Bool.and_false])
 obtain ⟨k, n, vk, vn, vs, tab, col⟩ := h
 simp only at h1 h2 h3 h4
 go_enter Tryz.func117, Tryz.ntmps117
 go_wp2_with fail
 go_ret
 exact ⟨ret_bool HF.out.symm, ba2 w _ _⟩
def walkV (x : Ex) (d : Nat) (ag : Bool) : Value := if goodB x d ag = true ∧ cnt x ≤ 512 then .tuple #[.int .i64 (cnt x), .bool true] else .tuple #[.int .i64 0, .bool false]
theorem goodB_one (h : Hd) (l : List Ex) (d : Nat) (ag : Bool) : goodB (.mk h l) d ag = (decide (d ≤ 32) && oneB h l.length ag && goodBs l (d + 1) (ag || h.k == 4)) := by
 rw [goodB_mk, oneB]
 cases decide (d ≤ 32) <;> cases (h.k == 4 && ag) <;> cases fitsB h l.length <;> rfl
theorem goodBs_at {l : List Ex} {j : Nat} {x : Ex} {d : Nat} {ag : Bool} (h : l[j]? = some x) (hg : goodB x d ag = false) : goodBs l d ag = false := by
 refine goodBs_no (k := j + 1) ?_
 rw [goodBs_take h, hg, Bool.and_false]
set_option maxRecDepth 100000 in
set_option maxHeartbeats 16000000 in
theorem walk_n : ∀ (N : Nat) (h : Hd) (l : List Ex), cnt (.mk h l) ≤ N → N ≤ 1000000 → AllSm (.mk h l) → ∀ (w : World) (A : Option Addr) (cap d : Nat) (ag : Bool), XsAt w.heap.size w l A → d ≤ 33 →
    Calls Tryz.prog 65 #[XV h A l.length cap, .int .i64 d, .bool ag] w fun e w' => e = .returned (walkV (.mk h l) d ag) ∧ Below w.heap.size w w' := by
  intro N
  induction N with
  | zero => intro h l hc; have := cnt_pos (.mk h l); omega
  | succ N ih =>
    intro h l hc hN hsm w A cap d ag hX hd
    have HCn := Lib.hid (cnt_mk h l)
    rw [cnt_mk] at hc
    rw [AllSm] at hsm
    have hlen := cntL_len l
    have hba := ba w (xbox h A l.length cap)
    have HX0 := Lib.hid (MapKept.heap_alloc w (xbox h A l.length cap)).1
    have HBa := Lib.hid hba
    have HXl := Lib.hid hX
    have HSm := Lib.hid hsm.2
    have HI := Lib.hid (show ∀ (h' : Hd) (l' : List Ex), cnt (.mk h' l') ≤ N → AllSm (.mk h' l') → ∀ (w1 : World) (A' : Option Addr) (cap' : Nat) (ag' : Bool), XsAt w1.heap.size w1 l' A' → d ≤ 32 →
        Calls Tryz.prog 65 #[XV h' A' l'.length cap', .int .i64 ((d : Int) + 1), .bool ag'] w1 fun e w' => e = .returned (walkV (.mk h' l') (d + 1) ag') ∧ Below w1.heap.size w1 w' from fun h' l' hc' hs' w1 A' cap' ag' hx hd' => ih h' l' hc' (by omega) hs' w1 A' cap' (d + 1) ag' hx (by omega))
    have HG := Lib.hid (goodB_one h l d ag)
    have HO := Lib.hid (fun w1 => one_any h A l.length cap ag w1 hsm.1 (by omega))
    obtain ⟨bo, hbo⟩ : ∃ b, oneB h l.length ag = b := ⟨_, rfl⟩
    rw [hbo] at HO HG
    have hl6 : l.length ≤ 1000000 := by omega
    clear hX ih hba hbo hsm
    obtain ⟨W0, hW0⟩ : ∃ W0, w.alloc (xbox h A l.length cap) = W0 := ⟨_, rfl⟩
    have HW0 := Lib.hid hW0
    have hsz0 : W0.heap.size = w.heap.size + 1 := by rw [← hW0, World.size_alloc]
    clear hW0
    by_cases hd32 : 32 < d
    · have y : (32 : Int) < (d : Int) := by omega
      have HV := Lib.hid (show walkV (.mk h l) d ag = .tuple #[.int .i64 0, .bool false] by rw [walkV, HG.out, decide_eq_false (by omega)]; simp)
      go_enter Tryz.func65, Tryz.ntmps65
      go_wp2_with fail
      refine bodyPost_ret (v := .tuple #[.int .i64 0, .bool false]) (by simp [results, Tryz.results65, go_sem]) rfl ⟨by rw [HV.out], HBa.out⟩
    · have y : ¬ (32 : Int) < (d : Int) := by omega
      cases bo
      · have HV := Lib.hid (show walkV (.mk h l) d ag = .tuple #[.int .i64 0, .bool false] by rw [walkV, HG.out]; simp)
        go_enter Tryz.func65, Tryz.ntmps65
        go_wp2_with fail
        refine (HO.out _).mono ?_
        rintro e w1 ⟨rfl, hb1⟩
        have HB1 := Lib.hid (bt HBa.out hb1)
        clear hb1
        go_wp2_with fail
        refine bodyPost_ret (v := .tuple #[.int .i64 0, .bool false]) (by simp [results, Tryz.results65, go_sem]) rfl ⟨by rw [HV.out], HB1.out⟩
      · have HGd := Lib.hid (show goodB (.mk h l) d ag = goodBs l (d + 1) (ag || h.k == 4) by rw [HG.out, decide_eq_true (by omega)]; rfl)
        obtain ⟨b4, hb4⟩ : ∃ b, (h.k == 4) = b := ⟨_, rfl⟩
        rw [hb4] at HGd
        go_enter Tryz.func65, Tryz.ntmps65
        go_wp2_with fail
        refine (HO.out _).mono ?_
        rintro e w1 ⟨rfl, hb1⟩
        have HB1 := Lib.hid (bt HBa.out hb1)
        have HX1 := Lib.hid ((hb1.block w.heap.size (by rw [World.size_alloc]; omega)).trans HX0.out)
        have hsz1 : w.heap.size + 1 ≤ w1.heap.size := by have := hb1.size; rw [World.size_alloc] at this; exact this
        clear hb1
        go_wp2_with fail
        go_loopw [9, 8, 10, 11] (fun i n _ _ W => ∃ j : Nat, j ≤ l.length ∧ i = .int .i64 j ∧ n = .int .i64 (1 + cntL (l.take j) : Nat) ∧ Hid (Below w1.heap.size w1 W) ∧ Hid (goodBs (l.take j) (d + 1) (ag || b4) = true) ∧ 1 + cntL (l.take j) ≤ 512) (fun i _ _ _ _ => l.length - (intOf i).toNat)
        case atStart => exact ⟨0, Nat.zero_le _, rfl, by simp [cntL], Lib.hid (Below.refl _ _), Lib.hid (by simp [goodBs]), by simp [cntL]⟩
        case round =>
          obtain ⟨j, hj, rfl, rfl, HW, HS, hcj⟩ := hrel
          obtain ⟨⟨p0, _, _, _, _, _, _, p7⟩, _⟩ := cell8 ((HW.out.block w.heap.size (by omega)).trans HX1.out)
          have hbw := bt HB1.out HW.out
          have hsw : w.heap.size < wr.heap.size := by have := HW.out.size; omega
          by_cases hkl : j < l.length
          · obtain ⟨h', l', g, o, A', cap', hx, rfl, hg, ⟨a0, a1, a2, a3, a4, a5, a6, a7⟩, hle, hx2⟩ := kid_at HXl.out hbw hkl
            have hcm := cntL_mem hx
            have HT := Lib.hid (goodBs_take hx (d + 1) (ag || b4))
            have HCt := Lib.hid (cntL_take hx)
            have HC := Lib.hid (fun w2 (hb2 : Below wr.heap.size wr w2) => HI.out h' l' (by omega) (HSm.out.at hx) w2 A' cap' (ag || b4) (XsAt.next hx2 hb2) (by omega))
            have HNo := Lib.hid (fun hf => goodBs_at (l := l) (d := d + 1) (ag := (ag || b4)) hx hf)
            have HBw := Lib.hid hbw
            have hBd := Below.drew (Below.refl wr.heap.size wr)
            have hct := cntL_take_le l (j + 1)
            rw [HCt.out] at hct
            clear hx hx2 hbw
            have hwd : IntKind.i64.wrap ((d : Int) + 1) = (d : Int) + 1 := by rw [IntKind.wrap_i64]; omega
            have hwj : IntKind.i64.wrap (j : Int) = (j : Int) := by rw [IntKind.wrap_i64]; omega
            obtain ⟨m, hm⟩ : ∃ m, cnt (.mk h' l') = m := ⟨_, rfl⟩
            obtain ⟨t, ht⟩ : ∃ t, cntL (l.take j) = t := ⟨_, rfl⟩
            rw [ht] at HCt hct hcj ⊢
            rw [hm] at HCt hct hcm
            have HM := Lib.hid hm
            clear hm ht
            obtain ⟨kk, ok, hkv⟩ : ∃ (kk : Nat) (ok : Bool), walkV (.mk h' l') (d + 1) (ag || b4) = .tuple #[.int .i64 kk, .bool ok] ∧ ((goodB (.mk h' l') (d + 1) (ag || b4) = true ∧ m ≤ 512 ∧ kk = m ∧ ok = true) ∨ (¬ (goodB (.mk h' l') (d + 1) (ag || b4) = true ∧ m ≤ 512) ∧ kk = 0 ∧ ok = false)) := by
              by_cases hgood : goodB (.mk h' l') (d + 1) (ag || b4) = true ∧ m ≤ 512
              · exact ⟨m, true, by rw [walkV, HM.out, if_pos hgood], .inl ⟨hgood.1, hgood.2, rfl, rfl⟩⟩
              · exact ⟨0, false, by rw [walkV, HM.out, if_neg hgood]; rfl, .inr ⟨hgood, rfl, rfl⟩⟩
            have HK := Lib.hid hkv.2
            rw [hkv.1] at HC
            clear hkv
            have HVb := Lib.hid (show 512 < 1 + t + m → walkV (.mk h l) d ag = .tuple #[.int .i64 0, .bool false] from fun hb => by rw [walkV, if_neg (by rw [HCn.out]; omega)])
            have HVn := Lib.hid (show ¬ (goodB (.mk h' l') (d + 1) (ag || b4) = true ∧ m ≤ 512) → walkV (.mk h l) d ag = .tuple #[.int .i64 0, .bool false] from fun hgood => by
              rw [walkV, HGd.out]
              refine if_neg fun e => hgood ⟨?_, ?_⟩
              · cases hq : goodB (.mk h' l') (d + 1) (ag || b4) with
                | true => rfl
                | false => rw [HNo.out hq] at e; cases e.1
              · have := e.2; rw [HCn.out] at this; omega)
            have HTS := Lib.hid (show goodB (.mk h' l') (d + 1) (ag || b4) = true → goodBs (l.take (j + 1)) (d + 1) (ag || b4) = true from fun e => by rw [HT.out, HS.out, e]; rfl)
            cases ag
            case' false =>
              simp only [Bool.false_or] at HC
              go_wp2_with fail
              go_region_held3 (fun w' => Below wr.heap.size wr w' ∧ w'.cell? ⟨w.heap.size, 0, none⟩ = some (.int .i64 h.k) ∧ w'.cell? ⟨w.heap.size, 7, none⟩ = some (.slice (some ⟨g, o, none⟩) l.length cap) ∧
                  w'.cell? ⟨g, o + j * 8, none⟩ = some (.int .i64 h'.k) ∧ w'.cell? ⟨g, o + j * 8 + 1, none⟩ = some (.int .i64 h'.n) ∧ w'.cell? ⟨g, o + j * 8 + 2, none⟩ = some (.int .i64 h'.vk) ∧ w'.cell? ⟨g, o + j * 8 + 3, none⟩ = some (.int .i64 h'.vn) ∧
                  w'.cell? ⟨g, o + j * 8 + 4, none⟩ = some (.string h'.vs) ∧ w'.cell? ⟨g, o + j * 8 + 5, none⟩ = some (.string h'.tab) ∧ w'.cell? ⟨g, o + j * 8 + 6, none⟩ = some (.string h'.col) ∧ w'.cell? ⟨g, o + j * 8 + 7, none⟩ = some (.slice A' l'.length cap'))
                (first
                  | exact ⟨hBd, p0, p7, a0, a1, a2, a3, a4, a5, a6, a7⟩
                  | ((try go_split_ands)
                     refine ⟨?_, ?_, ?_, ?_, ?_, ?_, ?_, ?_, ?_, ?_, ?_⟩
                     all_goals first | assumption | (exact Below.drew (by assumption)) | (exact bt (by assumption) hb) | (exact cell_kept hb (by assumption)) | go_keep))
                (first
                  | (go_at_call 65; refine (HC.out _ (by first | assumption | exact Below.drew (by assumption))).mono ?_; rintro e w' ⟨rfl, hb⟩))
              rename_i hold
              have HHo := Lib.hid hold.1
              clear hold
            case' true =>
              simp only [Bool.true_or] at HC
              go_wp2_with fail
              refine wp_region_noPanic ?_
              refine wp_region_held_drew (S := fun Wd => Below wr.heap.size wr Wd) (by kernel_rfl) hBd (fun hHeld => ?_)
              refine wpAnyH_take (i := 0) (oi := { dst := some 28, op := Go.Op.fieldAddr 37 (Go.Operand.tmp 3) 5, type := 0, pos := "ref.go:56", after := #[], guard := none }) (v := ?_) rfl (by kernel_rfl) (by kernel_rfl) (by kernel_rfl) (fun _ _ _ h => h) (Or.inl ⟨by rfl, ?_⟩) hHeld ?_
              rotate_left 1
              · (intro w0 hSw); go_simp <;> with_reducible rfl
              (try simp only [Act.put, List.setIfInBounds_toArray, List.set_cons_zero, List.set_cons_succ])
              refine wpAnyH_take (i := 1) (oi := { dst := some 29, op := Go.Op.load 35 (Go.Operand.tmp 28), type := 35, pos := "ref.go:56", after := #[{ on := 0, ground := Go.Ground.data }], guard := none }) (v := ?_) rfl (by kernel_rfl) (by kernel_rfl) (by kernel_rfl) (fun _ _ _ h => h) (Or.inl ⟨by rfl, ?_⟩) hHeld ?_
              rotate_left 1
              · (intro w0 hSw); (try dsimp only at hSw); have s7 := cell_kept hSw p7; have t0 := cell_kept hSw a0; have t1 := cell_kept hSw a1; have t2 := cell_kept hSw a2; have t3 := cell_kept hSw a3; have t4 := cell_kept hSw a4; have t5 := cell_kept hSw a5; have t6 := cell_kept hSw a6; have t7 := cell_kept hSw a7; go_simp <;> with_reducible rfl
              (try simp only [Act.put, List.setIfInBounds_toArray, List.set_cons_zero, List.set_cons_succ])
              refine wpAnyH_take (i := 2) (oi := { dst := some 30, op := Go.Op.move (Go.Operand.tmp 9), type := 3, pos := "ref.go:56", after := #[], guard := none }) (v := ?_) rfl (by kernel_rfl) (by kernel_rfl) (by kernel_rfl) (fun _ _ _ h => h) (Or.inl ⟨by rfl, ?_⟩) hHeld ?_
              rotate_left 1
              · (intro w0 hSw); go_simp <;> with_reducible rfl
              (try simp only [Act.put, List.setIfInBounds_toArray, List.set_cons_zero, List.set_cons_succ])
              refine wpAnyH_take (i := 3) (oi := { dst := some 31, op := Go.Op.indexAddr 35 (Go.Operand.tmp 29) (Go.Operand.tmp 30), type := 0, pos := "ref.go:56", after := #[{ on := 1, ground := Go.Ground.data }, { on := 2, ground := Go.Ground.data }], guard := none }) (v := ?_) rfl (by kernel_rfl) (by kernel_rfl) (by kernel_rfl) (fun _ _ _ h => h) (Or.inl ⟨by rfl, ?_⟩) hHeld ?_
              rotate_left 1
              · (intro w0 hSw); go_simp <;> with_reducible rfl
              (try simp only [Act.put, List.setIfInBounds_toArray, List.set_cons_zero, List.set_cons_succ])
              refine wpAnyH_take (i := 4) (oi := { dst := some 32, op := Go.Op.load 37 (Go.Operand.tmp 31), type := 37, pos := "ref.go:56", after := #[{ on := 3, ground := Go.Ground.data }], guard := none }) (v := ?_) rfl (by kernel_rfl) (by kernel_rfl) (by kernel_rfl) (fun _ _ _ h => h) (Or.inl ⟨by rfl, ?_⟩) hHeld ?_
              rotate_left 1
              · (intro w0 hSw); (try dsimp only at hSw); have s7 := cell_kept hSw p7; have t0 := cell_kept hSw a0; have t1 := cell_kept hSw a1; have t2 := cell_kept hSw a2; have t3 := cell_kept hSw a3; have t4 := cell_kept hSw a4; have t5 := cell_kept hSw a5; have t6 := cell_kept hSw a6; have t7 := cell_kept hSw a7; go_simp <;> with_reducible rfl
              (try simp only [Act.put, List.setIfInBounds_toArray, List.set_cons_zero, List.set_cons_succ])
              refine wpAnyH_take (i := 5) (oi := { dst := some 33, op := Go.Op.move (Go.Operand.tmp 1), type := 3, pos := "ref.go:56", after := #[], guard := none }) (v := ?_) rfl (by kernel_rfl) (by kernel_rfl) (by kernel_rfl) (fun _ _ _ h => h) (Or.inl ⟨by rfl, ?_⟩) hHeld ?_
              rotate_left 1
              · (intro w0 hSw); go_simp <;> with_reducible rfl
              (try simp only [Act.put, List.setIfInBounds_toArray, List.set_cons_zero, List.set_cons_succ])
              refine wpAnyH_take (i := 6) (oi := { dst := some 34, op := Go.Op.binOp Go.BinOp.add 3 (Go.Operand.tmp 33) (Go.Operand.const (Go.Value.int Go.IntKind.i64 1)) 3, type := 3, pos := "ref.go:56", after := #[{ on := 5, ground := Go.Ground.data }], guard := none }) (v := ?_) rfl (by kernel_rfl) (by kernel_rfl) (by kernel_rfl) (fun _ _ _ h => h) (Or.inl ⟨by rfl, ?_⟩) hHeld ?_
              rotate_left 1
              · (intro w0 hSw); go_simp <;> with_reducible rfl
              (try simp only [Act.put, List.setIfInBounds_toArray, List.set_cons_zero, List.set_cons_succ])
              refine wpAnyH_take (i := 7) (oi := { dst := some 35, op := Go.Op.move (Go.Operand.tmp 2), type := 4, pos := "ref.go:56", after := #[], guard := none }) (v := ?_) rfl (by kernel_rfl) (by kernel_rfl) (by kernel_rfl) (fun _ _ _ h => h) (Or.inl ⟨by rfl, ?_⟩) hHeld ?_
              rotate_left 1
              · (intro w0 hSw); go_simp <;> with_reducible rfl
              (try simp only [Act.put, List.setIfInBounds_toArray, List.set_cons_zero, List.set_cons_succ])
              refine wpAnyH_take (i := 8) (oi := { dst := some 36, op := Go.Op.move (Go.Operand.tmp 35), type := 4, pos := "ref.go:56", after := #[{ on := 7, ground := Go.Ground.data }], guard := none }) (v := ?_) rfl (by kernel_rfl) (by kernel_rfl) (by kernel_rfl) (fun _ _ _ h => h) (Or.inl ⟨by rfl, ?_⟩) hHeld ?_
              rotate_left 1
              · (intro w0 hSw); go_simp <;> with_reducible rfl
              (try simp only [Act.put, List.setIfInBounds_toArray, List.set_cons_zero, List.set_cons_succ])
              refine wpAnyH_take (i := 9) (oi := { dst := some 37, op := Go.Op.fieldAddr 37 (Go.Operand.tmp 3) 0, type := 0, pos := "ref.go:56", after := #[{ on := 8, ground := Go.Ground.guard }], guard := some (8, false) }) (v := undef) rfl (by kernel_rfl) (by kernel_rfl) (by kernel_rfl) (fun _ _ _ h => h) (Or.inr ⟨by rfl, rfl⟩) hHeld ?_
              (try simp only [Act.put, List.setIfInBounds_toArray, List.set_cons_zero, List.set_cons_succ])
              refine wpAnyH_take (i := 10) (oi := { dst := some 38, op := Go.Op.load 3 (Go.Operand.tmp 37), type := 3, pos := "ref.go:56", after := #[{ on := 9, ground := Go.Ground.data }, { on := 8, ground := Go.Ground.guard }], guard := some (8, false) }) (v := undef) rfl (by kernel_rfl) (by kernel_rfl) (by kernel_rfl) (fun _ _ _ h => h) (Or.inr ⟨by rfl, rfl⟩) hHeld ?_
              (try simp only [Act.put, List.setIfInBounds_toArray, List.set_cons_zero, List.set_cons_succ])
              refine wpAnyH_take (i := 11) (oi := { dst := some 39, op := Go.Op.binOp Go.BinOp.eql 3 (Go.Operand.tmp 38) (Go.Operand.const (Go.Value.int Go.IntKind.i64 4)) 3, type := 4, pos := "ref.go:56", after := #[{ on := 10, ground := Go.Ground.data }, { on := 8, ground := Go.Ground.guard }], guard := some (8, false) }) (v := undef) rfl (by kernel_rfl) (by kernel_rfl) (by kernel_rfl) (fun _ _ _ h => h) (Or.inr ⟨by rfl, rfl⟩) hHeld ?_
              (try simp only [Act.put, List.setIfInBounds_toArray, List.set_cons_zero, List.set_cons_succ])
              refine wpAnyH_take (i := 12) (oi := { dst := some 40, op := Go.Op.pick (Go.Operand.tmp 36) (Go.Operand.const (Go.Value.bool true)) (Go.Operand.tmp 39), type := 4, pos := "ref.go:56", after := #[{ on := 8, ground := Go.Ground.data }, { on := 11, ground := Go.Ground.data }], guard := none }) (v := ?_) rfl (by kernel_rfl) (by kernel_rfl) (by kernel_rfl) (fun _ _ _ h => h) (Or.inl ⟨by rfl, ?_⟩) hHeld ?_
              rotate_left 1
              · (intro w0 hSw); go_simp <;> with_reducible rfl
              (try simp only [Act.put, List.setIfInBounds_toArray, List.set_cons_zero, List.set_cons_succ])
              refine wpAnyH_ready (rs := [13]) (by kernel_rfl) (by simp) ?_
              refine AllReadyH.cons (o := { dst := some 41, op := Go.Op.call { callee := Go.Callee.value (Go.Operand.func 65), args := #[Go.Operand.tmp 32, Go.Operand.tmp 34, Go.Operand.tmp 40], argTypes := #[37, 3, 4] }, type := 104, pos := "ref.go:56", after := #[{ on := 4, ground := Go.Ground.data }, { on := 6, ground := Go.Ground.data }, { on := 12, ground := Go.Ground.data }, { on := 8, ground := Go.Ground.chain }], guard := none }) rfl (fun K hK => ?_) AllReadyH.nil
              rw [if_pos (by rfl)]
              go_simp
              refine (HC.out _ hBd).mono ?_
              rintro e w' ⟨rfl, hb⟩
              have HHo := Lib.hid (bt hBd hb)
              clear hb hHeld
              go_wp2_with fail
              refine hK.out _ _ HHo.out (fun hHeld => ?_)
              clear hK K
              (try simp only [Act.put, List.setIfInBounds_toArray, List.set_cons_zero, List.set_cons_succ])
              refine wpAnyH_take (i := 14) (oi := { dst := some 27, op := Go.Op.move (Go.Operand.tmp 41), type := 104, pos := "ref.go:56", after := #[{ on := 13, ground := Go.Ground.data }], guard := none }) (v := ?_) rfl (by kernel_rfl) (by kernel_rfl) (by kernel_rfl) (fun _ _ _ h => h) (Or.inl ⟨by rfl, ?_⟩) hHeld ?_
              rotate_left 1
              · (intro w0 hSw); go_simp <;> with_reducible rfl
              (try simp only [Act.put, List.setIfInBounds_toArray, List.set_cons_zero, List.set_cons_succ])
              refine wpAnyH_take (i := 15) (oi := { dst := some 42, op := Go.Op.extract (Go.Operand.tmp 27) 0, type := 3, pos := "ref.go:56", after := #[{ on := 14, ground := Go.Ground.data }], guard := none }) (v := ?_) rfl (by kernel_rfl) (by kernel_rfl) (by kernel_rfl) (fun _ _ _ h => h) (Or.inl ⟨by rfl, ?_⟩) hHeld ?_
              rotate_left 1
              · (intro w0 hSw); go_simp <;> with_reducible rfl
              (try simp only [Act.put, List.setIfInBounds_toArray, List.set_cons_zero, List.set_cons_succ])
              refine wpAnyH_take (i := 16) (oi := { dst := some 43, op := Go.Op.extract (Go.Operand.tmp 27) 1, type := 4, pos := "ref.go:56", after := #[{ on := 14, ground := Go.Ground.data }, { on := 17, ground := Go.Ground.gcOnly Go.Departure.lateStores }], guard := none }) (v := ?_) rfl (by kernel_rfl) (by kernel_rfl) (by kernel_rfl) (fun _ _ _ h => h) (Or.inl ⟨by rfl, ?_⟩) hHeld ?_
              rotate_left 1
              · (intro w0 hSw); go_simp <;> with_reducible rfl
              (try simp only [Act.put, List.setIfInBounds_toArray, List.set_cons_zero, List.set_cons_succ])
              refine wpAnyH_take (i := 17) (oi := { dst := some 10, op := Go.Op.assign (Go.Operand.tmp 42), type := 3, pos := "ref.go:56", after := #[{ on := 15, ground := Go.Ground.data }, { on := 13, ground := Go.Ground.chain }, { on := 0, ground := Go.Ground.phase }, { on := 1, ground := Go.Ground.phase }, { on := 2, ground := Go.Ground.phase }, { on := 3, ground := Go.Ground.phase }, { on := 4, ground := Go.Ground.phase }, { on := 5, ground := Go.Ground.phase }, { on := 6, ground := Go.Ground.phase }, { on := 7, ground := Go.Ground.phase }, { on := 8, ground := Go.Ground.phase }, { on := 9, ground := Go.Ground.phase }, { on := 10, ground := Go.Ground.phase }, { on := 11, ground := Go.Ground.phase }, { on := 12, ground := Go.Ground.phase }, { on := 13, ground := Go.Ground.phase }, { on := 14, ground := Go.Ground.phase }, { on := 15, ground := Go.Ground.phase }, { on := 16, ground := Go.Ground.textOnly Go.Departure.lateStores }], guard := none }) (v := ?_) rfl (by kernel_rfl) (by kernel_rfl) (by kernel_rfl) (fun _ _ _ h => h) (Or.inl ⟨by rfl, ?_⟩) hHeld ?_
              rotate_left 1
              · (intro w0 hSw); go_simp <;> with_reducible rfl
              (try simp only [Act.put, List.setIfInBounds_toArray, List.set_cons_zero, List.set_cons_succ])
              refine wpAnyH_take (i := 18) (oi := { dst := some 11, op := Go.Op.assign (Go.Operand.tmp 43), type := 4, pos := "ref.go:56", after := #[{ on := 16, ground := Go.Ground.data }, { on := 17, ground := Go.Ground.chain }, { on := 0, ground := Go.Ground.phase }, { on := 1, ground := Go.Ground.phase }, { on := 2, ground := Go.Ground.phase }, { on := 3, ground := Go.Ground.phase }, { on := 4, ground := Go.Ground.phase }, { on := 5, ground := Go.Ground.phase }, { on := 6, ground := Go.Ground.phase }, { on := 7, ground := Go.Ground.phase }, { on := 8, ground := Go.Ground.phase }, { on := 9, ground := Go.Ground.phase }, { on := 10, ground := Go.Ground.phase }, { on := 11, ground := Go.Ground.phase }, { on := 12, ground := Go.Ground.phase }, { on := 13, ground := Go.Ground.phase }, { on := 14, ground := Go.Ground.phase }, { on := 15, ground := Go.Ground.phase }, { on := 16, ground := Go.Ground.phase }, { on := 17, ground := Go.Ground.phase }], guard := none }) (v := ?_) rfl (by kernel_rfl) (by kernel_rfl) (by kernel_rfl) (fun _ _ _ h => h) (Or.inl ⟨by rfl, ?_⟩) hHeld ?_
              rotate_left 1
              · (intro w0 hSw); go_simp <;> with_reducible rfl
              (try simp only [Act.put, List.setIfInBounds_toArray, List.set_cons_zero, List.set_cons_succ])
              refine wpAnyH_done (by kernel_rfl) ?_ _
              refine NoPanic.normal ?_
              clear hHeld
            all_goals
              rcases HK.out with ⟨hg1, hm5, rfl, rfl⟩ | ⟨hg1, rfl, rfl⟩
              · by_cases hbig : 512 < 1 + t + kk
                · have hbig' : (512 : Int) < ((1 + t : Nat) : Int) + (kk : Int) := by push_cast; omega
                  have HV := Lib.hid (HVb.out hbig)
                  push_cast at hbig'
                  go_wp2_with fail
                  refine bodyPost_ret (v := .tuple #[.int .i64 0, .bool false]) (by simp [results, Tryz.results65, go_sem]) rfl ⟨by rw [HV.out], bt HBw.out HHo.out⟩
                · have hbig' : ¬ (512 : Int) < ((1 + t : Nat) : Int) + (kk : Int) := by push_cast; omega
                  push_cast at hbig'
                  have HGo := Lib.hid (HTS.out hg1)
                  go_wp2_with fail
                  go_roundw
                  case rel =>
                    first
                      | exact ⟨j + 1, by omega, by go_num, by rw [HCt.out]; push_cast; go_num, Lib.hid (HW.out.trans (HHo.out.mono HW.out.size)), HGo, by rw [HCt.out]; omega⟩
                      | ((repeat apply Exists.intro); exact ⟨⟨j + 1, by omega, by go_num, by rw [HCt.out]; push_cast; go_num, Lib.hid (HW.out.trans (HHo.out.mono HW.out.size)), HGo, by rw [HCt.out]; omega⟩, rfl⟩)
                  case measure => simp [intOf]; omega
              · have HV := Lib.hid (HVn.out hg1)
                go_wp2_with fail
                refine bodyPost_ret (v := .tuple #[.int .i64 0, .bool false]) (by simp [results, Tryz.results65, go_sem]) rfl ⟨by rw [HV.out], bt HBw.out HHo.out⟩
          · have hkk : j = l.length := by omega
            have HE := Lib.hid (show l.take j = l by rw [hkk, List.take_length])
            rw [HE.out] at HS hcj ⊢
            have HV := Lib.hid (show walkV (.mk h l) d ag = .tuple #[.int .i64 (1 + cntL l : Nat), .bool true] by rw [walkV, HGd.out, HS.out, HCn.out, if_pos ⟨rfl, hcj⟩])
            have HBw := Lib.hid hbw
            clear hbw hkk
            go_wp2_with fail
            refine bodyPost_ret (v := .tuple #[.int .i64 (1 + cntL l : Nat), .bool true]) (by simp [results, Tryz.results65, go_sem]) rfl ⟨by rw [HV.out], HBw.out⟩
end Go.Proofs.YtfjimoccliejdaaGreatDoor
end
section
namespace Go.Proofs.YtfjimoccliejdaaGreatDoor
open Go.RowKit Go.Shelf



theorem ba_eqx {a b : ByteArray} (h : bs a = bs b) : a = b := by
 apply ByteArray.ext
 exact Array.toList_inj.1 h



theorem hd_ext {h h' : Hd} (e1 : h.k = h'.k) (e2 : h.n = h'.n) (e3 : h.vk = h'.vk) (e4 : h.vn = h'.vn) (e5 : h.vs = h'.vs) (e6 : h.tab = h'.tab) (e7 : h.col = h'.col) : h = h' := by
 cases h; cases h'; simp_all
theorem hdEq_iff (h h' : Hd) : hdEq h h' = true ↔ h = h' := by
 constructor
 ·intro e
  simp only [hdEq, eqV, Bool.and_eq_true, beq_iff_eq, ByteArray.toList_eq] at e
  obtain ⟨⟨⟨⟨a, b⟩, ⟨c, d⟩, f⟩, g⟩, i⟩ := e
  exact hd_ext a b c d (ba_eqx f) (ba_eqx g) (ba_eqx i)
 ·rintro rfl; simp [hdEq, eqV]
mutual
theorem sameX_iff : ∀ x y : Ex, sameX x y = true ↔ x = y
 | .mk h l, .mk h' l' => by
  rw [sameX, Bool.and_eq_true, hdEq_iff, sameXs_iff l l', Ex.mk.injEq]
theorem sameXs_iff : ∀ l l' : List Ex, sameXs l l' = true ↔ l = l'
 | [], [] => by simp [sameXs]
 | [], _ :: _ => by simp [sameXs]
 | _ :: _, [] => by simp [sameXs]
 | x :: r, y :: r' => by rw [sameXs, Bool.and_eq_true, sameX_iff x y, sameXs_iff r r', List.cons.injEq]
end
end Go.Proofs.YtfjimoccliejdaaGreatDoor
end
section
namespace Go.Proofs.YtfjimoccliejdaaGreatDoor
open Go.RowKit Go.Shelf

theorem walkV_1 (x : Ex) : walkV x 1 false = if okX x = true then .tuple #[.int .i64 (cnt x), .bool true] else .tuple #[.int .i64 0, .bool false] := by
 unfold walkV okX
 by_cases h : goodB x 1 false = true ∧ cnt x ≤ 512
 ·rw [if_pos h, if_pos (by simp [h.1, h.2])]
 ·rw [if_neg h, if_neg (by simpa using h)]
theorem refCheck10_any (h : Hd) (l : List Ex) (w : World) (A : Option Addr) (cap : Nat) (hc : cnt (.mk h l) ≤ 1000000) (hs : AllSm (.mk h l)) (hX : XsAt w.heap.size w l A) :
  Calls Tryz.prog 33 #[XV h A l.length cap] w fun e w' => e = .returned (.bool (okX (.mk h l))) ∧ Below w.heap.size w w' := by
 have hba := ba w (xbox h A l.length cap)
 have HBa := Lib.hid hba
 obtain ⟨⟨x0, x1, x2, x3, x4, x5, x6, x7⟩, _⟩ := cell8 (MapKept.heap_alloc w (xbox h A l.length cap)).1
 have HC := Lib.hid (walk_n _ h l hc (Nat.le_refl _) hs (w.alloc (xbox h A l.length cap)) A cap 1 false (XsAt.next hX hba) (by omega))
 rw [walkV_1] at HC
 clear hX hs hba
 cases ho : okX (.mk h l)
 all_goals
  rw [ho] at HC
  clear ho
  simp only [if_true, Bool.false_eq_true, if_false] at HC
  go_enter Tryz.func33, Tryz.ntmps33
  go_wp2_with fail
  refine (show Calls Tryz.prog 65 #[XV h A l.length cap, .int .i64 1, .bool false] _ _ from HC.out).mono ?_
  rintro e w1 ⟨rfl, hb⟩
  have HB1 := Lib.hid (bt HBa.out hb)
  clear hb
  go_wp2_with fail
  go_ret
  exact ⟨rfl, HB1.out⟩
theorem refSame_any (h h' : Hd) (l l' : List Ex) (w : World) (A : Option Addr) (cap : Nat) (B : Option Addr) (cap' : Nat) (hX : XsAt w.heap.size w l A) (hcap : l.length ≤ cap) (hY : XsAt w.heap.size w l' B) (hcap' : l'.length ≤ cap') (hc : cnt (.mk h l) ≤ 1000000) (hc' : cnt (.mk h' l') ≤ 1000000) :
  Calls Tryz.prog 13 #[XV h A l.length cap, XV h' B l'.length cap'] w fun e w' => e = .returned (.bool (sameX (.mk h l) (.mk h' l'))) ∧ Below w.heap.size w w' :=
 refSame_n _ h h' l l' hc (Nat.le_refl _) hc' w A cap B cap' hX hcap hY hcap'
end Go.Proofs.YtfjimoccliejdaaGreatDoor
end
section
namespace Go.Proofs.YtfjimoccliejdaaGreatDoor
section
open Go.RowKit Go.Shelf

def bigH (h : Hd) : Prop := 200 < h.tab.size ∨ 200 < h.col.size ∨ 500 < h.vs.size
instance (h : Hd) : Decidable (bigH h) := by unfold bigH; exact inferInstance
end
section
open Go.RowKit Go.Shelf

theorem rv_check {x : Ex} {v : Value} {w : World} (h : EV x v w) (hsm : AllSm x) (hc : cnt x ≤ 1000000) {c : Bool} (e : okX x = c) :
  Calls Tryz.prog 33 #[v] w fun e w' => ∃ u, e = .returned u ∧ Bel w w' ∧ u = .bool c := by
 obtain ⟨hd, l⟩ := x
 obtain ⟨A, cap, rfl, hl, hx⟩ := h
 refine (refCheck10_any hd l w A cap hc hsm hx).mono ?_
 rintro _ w' ⟨rfl, hb⟩
 exact ⟨_, rfl, hb, by rw [← e]⟩
theorem rv_show {x : Ex} {v : Value} {w : World} (h : EV x v w) (hsm : AllSm x) (hc : cnt x ≤ 512) (hf : FitX x) {c : List UInt8} (e : shwX x = c) :
  Calls Tryz.prog 16 #[v] w fun e w' => ∃ u, e = .returned u ∧ Bel w w' ∧ u = .string (bstr c) := by
 obtain ⟨hd, l⟩ := x
 obtain ⟨A, cap, rfl, hl, hx⟩ := h
 refine (refShow_n 512 hd l hc (Nat.le_refl _) hsm hf w A cap hx hl).mono ?_
 rintro _ w' ⟨rfl, hb⟩
 exact ⟨_, rfl, hb, by rw [← e]⟩
theorem rv_same {x y : Ex} {v u : Value} {w : World} (h : EV x v w) (h' : EV y u w) (hc : cnt x ≤ 1000000) (hc' : cnt y ≤ 1000000) {c : Bool} (e : sameX x y = c) :
  Calls Tryz.prog 13 #[v, u] w fun e w' => ∃ u, e = .returned u ∧ Bel w w' ∧ u = .bool c := by
 obtain ⟨hd, l⟩ := x
 obtain ⟨hd', l'⟩ := y
 obtain ⟨A, cap, rfl, hl, hx⟩ := h
 obtain ⟨A', cap', rfl, hl', hx'⟩ := h'
 refine (refSame_any hd hd' l l' w A cap A' cap' hx hl hx' hl' hc hc').mono ?_
 rintro _ w' ⟨rfl, hb⟩
 exact ⟨_, rfl, hb, by rw [e]⟩
theorem chk_of {x : Ex} : chkI x = if okX x = true then 0 else 100 := by rw [chkI, meas_some]
theorem same_self (x : Ex) : sameX x x = true := (sameX_iff x x).2 rfl
end
end Go.Proofs.YtfjimoccliejdaaGreatDoor
end
section
namespace Go.Proofs.YtfjimoccliejdaaGreatDoor
open Go.RowKit Go.Shelf

structure Gd (x : Ex) : Prop where
 sm : AllSm x
 cnt : cnt x ≤ 6000
def placed (y : Ex) : Bool := y.hd.n != 0
def isExB (x : Ex) : Bool := okX x && !(kndX 2 x).any placed
def isNoB (x : Ex) : Bool := sameX x Pa.exZ
def isCoB (x : Ex) : Bool := isExB x && (kndX 4 x).isEmpty
def isGrB (x : Ex) : Bool := (x.hd.k == 2) && isExB x
theorem LV.at {l : List Ex} {A : Option Addr} {w : World} (h : XsAt w.heap.size w l A) {i : Nat} (hi : i < l.length) : ∃ g o A' cp, A = some ⟨g, o, none⟩ ∧ XC w g (o + i * 8) l[i].hd A' l[i].kids.length cp ∧ EV l[i] (XV l[i].hd A' l[i].kids.length cp) w := by
 obtain ⟨h', l', hx⟩ : ∃ h' l', l[i] = .mk h' l' := by cases l[i]; exact ⟨_, _, rfl⟩
 obtain ⟨g, o, A', cp, hA, _, hc, hl, hX⟩ := XsB.at h (i := i) (by rw [List.getElem?_eq_getElem hi, hx])
 rw [hx]
 exact ⟨g, o, A', cp, hA, hc, A', cp, rfl, hl, hX⟩
theorem any_take_x (p : Ex → Bool) (r : List Ex) (j : Nat) (hj : j < r.length) : (r.take (j + 1)).any p = ((r.take j).any p || p r[j]) := by
 rw [List.take_add_one, List.getElem?_eq_getElem hj, List.any_append]
 simp
set_option maxRecDepth 100000 in
theorem placed_any (h : Hd) (A : Option Addr) (n c : Nat) (w : World) :
  Calls Tryz.prog 150 #[XV h A n c] w fun e w' => e = .returned (.bool (h.n != 0)) ∧ Below w.heap.size w w' := by
 go_enter Tryz.func150, Tryz.ntmps150
 go_wp2_with fail
 exact bodyPost_ret (v := .bool (h.n != 0)) (by simp [results, Tryz.results150, go_sem]) rfl ⟨rfl, ba w _⟩
set_option maxRecDepth 100000 in
set_option maxHeartbeats 2000000 in
theorem index_any (r : List Ex) (A : Option Addr) (c : Nat) (w : World) (h : XsAt w.heap.size w r A) (hl : r.length ≤ 1000000) :
  Calls Tryz.prog 158 #[.slice A r.length c, .func (.func 150) #[] #[]] w fun e w' => (∃ i : Int, e = .returned (.int .i64 i) ∧ (decide (0 ≤ i) = r.any placed)) ∧ Below w.heap.size w w' := by
 have H0 := Lib.hid h
 clear h
 go_enter Tryz.func158, Tryz.ntmps158
 go_wp2_with fail
 go_loopw [8] (fun i wr => ∃ j : Nat, j ≤ r.length ∧ i = .int .i64 j ∧ Hid (Below w.heap.size w wr) ∧ Hid ((r.take j).any placed = false)) (fun i _ => r.length - (intOf i).toNat)
 case atStart => exact ⟨0, Nat.zero_le _, rfl, Lib.hid (Below.refl _ _), Lib.hid (by simp)⟩
 case round =>
  obtain ⟨j, hj, rfl, HB, HN⟩ := hrel
  by_cases hlt : j < r.length
  ·obtain ⟨g, o, A', cp, rfl, ⟨c0, c1, c2, c3, c4, c5, c6, c7⟩, _⟩ := LV.at (H0.out.next HB.out) hlt
   have HS := Lib.hid (any_take_x placed r j hlt)
   obtain ⟨x, hx⟩ : ∃ x, r[j] = x := ⟨_, rfl⟩
   rw [hx] at c0 c1 c2 c3 c4 c5 c6 c7 HS
   have HXx := Lib.hid hx
   clear hx
   obtain ⟨b, hb⟩ : ∃ b, (x.hd.n != 0) = b := ⟨_, rfl⟩
   have HP := Lib.hid (placed_any x.hd A' x.kids.length cp wr)
   rw [hb] at HP
   have HBb := Lib.hid hb
   clear hb
   cases b
   ·have HE := Lib.hid (show (r.take (j + 1)).any placed = false by rw [HS.out, HN.out, Bool.false_or]; exact HBb.out)
    go_wp2_with fail
    refine HP.out.mono ?_
    rintro e w1 ⟨rfl, hb1⟩
    have HB1 := Lib.hid (bt HB.out hb1)
    clear hb1
    go_wp2_with fail
    go_roundw
    case rel => exact ⟨j + 1, by omega, by go_num, HB1, HE⟩
    case measure => simp [intOf]; omega
   ·have HE := Lib.hid (show r.any placed = true from List.any_eq_true.2 ⟨x, by rw [← HXx.out]; exact List.getElem_mem hlt, HBb.out⟩)
    go_wp2_with fail
    refine HP.out.mono ?_
    rintro e w1 ⟨rfl, hb1⟩
    have HB1 := Lib.hid (bt HB.out hb1)
    clear hb1
    go_wp2_with fail
    exact bodyPost_ret (v := .int .i64 j) (by simp [results, Tryz.results158, go_sem]) rfl ⟨⟨j, rfl, by rw [HE.out]; simp⟩, HB1.out⟩
  ·have HE := Lib.hid (show r.any placed = false by rw [← HN.out, List.take_of_length_le (by omega)])
   go_wp2_with fail
   exact bodyPost_ret (v := .int .i64 (-1)) (by simp [results, Tryz.results158, go_sem]) rfl ⟨⟨-1, rfl, by rw [HE.out]; rfl⟩, HB.out⟩
set_option maxRecDepth 100000 in
theorem contains_any (r : List Ex) (A : Option Addr) (c : Nat) (w : World) (h : XsAt w.heap.size w r A) (hl : r.length ≤ 1000000) {b : Bool} (hb : r.any placed = b) :
  Calls Tryz.prog 151 #[.slice A r.length c, .func (.func 150) #[] #[]] w fun e w' => e = .returned (.bool b) ∧ Below w.heap.size w w' := by
 have HI := Lib.hid (index_any r A c w h hl)
 have HBb := Lib.hid hb
 clear h hb
 go_enter Tryz.func151, Tryz.ntmps151
 go_wp2_with fail
 refine HI.out.mono ?_
 rintro e w1 ⟨⟨i, rfl, hi⟩, hb1⟩
 have HE := Lib.hid (show decide (0 ≤ i) = b by rw [hi, HBb.out])
 have HB1 := Lib.hid hb1
 clear hi hb1
 go_wp2_with fail
 exact bodyPost_ret (v := .bool (decide (0 ≤ i))) (by simp [results, Tryz.results151, go_sem]) rfl ⟨by rw [HE.out], HB1.out⟩
mutual
theorem kndx_len (c : Int) : ∀ x : Ex, (kndX c x).length ≤ cnt x
 | .mk h l => by
  have := kndxs_len c l
  rw [kndX, cnt, List.length_append]
  split <;> simp <;> omega
theorem kndxs_len (c : Int) : ∀ l : List Ex, (kndXs c l).length ≤ cntL l
 | [] => by simp [kndXs]
 | x :: r => by
  have := kndx_len c x
  have := kndxs_len c r
  rw [kndXs, cntL, List.length_append]; omega
end
set_option maxRecDepth 100000 in
set_option maxHeartbeats 2000000 in
theorem isEx_any {x : Ex} {v : Value} {w : World} (h : EV x v w) (hg : Gd x) (hT : Tabs w) {b : Bool} (hbx : isExB x = b) :
  Calls Tryz.prog 136 #[v] w fun e w' => e = .returned (.bool b) ∧ Below w.heap.size w w' := by
 obtain ⟨hd, l⟩ := x
 obtain ⟨A, cp, rfl, hl, hx⟩ := h
 simp only [Ex.hd, Ex.kids] at hl hx ⊢
 have HE := Lib.hid (show EV (.mk hd l) (XV hd A l.length cp) w from ⟨A, cp, rfl, hl, hx⟩)
 have HG := Lib.hid hg
 have HT := Lib.hid hT
 clear hl hx hg hT
 have hb0 := ba w (xbox hd A l.length cp)
 have HB0 := Lib.hid hb0
 have HU0 := Lib.hid (show BxU (w.alloc (xbox hd A l.length cp)) w.heap.size #[.int .i64 hd.k, .int .i64 hd.n, .int .i64 hd.vk, .int .i64 hd.vn, .string hd.vs, .string hd.tab, .string hd.col, .slice A l.length cp] 37 from (MapKept.heap_alloc w (xbox hd A l.length cp)).1)
 clear hb0
 have HX := Lib.hid hbx
 clear hbx
 cases hok : okX (.mk hd l)
 case false =>
  have hck : chkI (.mk hd l) = 100 := by rw [chk_of, hok]; rfl
  have HK := Lib.hid hok
  have HC := Lib.hid (ev_check (HE.out.next HB0.out) HG.out.sm (Nat.le_trans HG.out.cnt (by decide)) (HT.out.kept HB0.out) hck)
  clear hok hck
  go_enter Tryz.func136, Tryz.ntmps136
  go_wp2_with fail
  refine HC.out.mono ?_
  rintro e v1 ⟨u, rfl, hb, rfl⟩
  have HB1 := Lib.hid (bt HB0.out hb)
  clear hb
  go_wp2_with fail
  have HXe := Lib.hid (show b = false by rw [← HX.out, isExB, HK.out]; rfl)
  exact bodyPost_ret (v := .bool false) (by simp [results, Tryz.results136, go_sem]) rfl ⟨by rw [HXe.out], HB1.out⟩
 case true =>
  have hck : chkI (.mk hd l) = 0 := by rw [chk_of, hok]; rfl
  have HK := Lib.hid hok
  have HC := Lib.hid (ev_check (HE.out.next HB0.out) HG.out.sm (Nat.le_trans HG.out.cnt (by decide)) (HT.out.kept HB0.out) hck)
  clear hok hck
  go_enter Tryz.func136, Tryz.ntmps136
  go_wp2_with fail
  refine HC.out.mono ?_
  rintro e v1 ⟨u, rfl, hb, rfl⟩
  have HB1 := Lib.hid (bt HB0.out hb)
  have HU1 := Lib.hid (HU0.out.next hb)
  have HE1 := Lib.hid ((HE.out.next HB0.out).next hb)
  have HT1 := Lib.hid ((HT.out.kept HB0.out).kept hb)
  clear hb
  obtain ⟨b0, b1, b2, b3, b4, b5, b6, b7⟩ := cl8 (w := v1) HU1.out
  go_wp2_with fail
  refine (ev_columns HE1.out HG.out.sm (Nat.le_trans HG.out.cnt (by decide)) HT1.out).mono ?_
  rintro e v2 ⟨u, rfl, hb, A2, cp2, rfl, hl2, hX2⟩
  rw [if_pos HK.out] at hl2 hX2 ⊢
  have HB2 := Lib.hid (bt HB1.out hb)
  obtain ⟨t, ht⟩ : ∃ t, (kndX 2 (.mk hd l)).any placed = t := ⟨_, rfl⟩
  have HCo := Lib.hid (contains_any _ A2 cp2 v2 hX2 (Nat.le_trans (kndx_len 2 _) (Nat.le_trans HG.out.cnt (by decide))) ht)
  have HTt := Lib.hid ht
  clear hb hl2 hX2 ht b0 b1 b2 b3 b4 b5 b6 b7
  obtain ⟨k2, hk2⟩ : ∃ k, (kndX 2 (.mk hd l)).length = k := ⟨_, rfl⟩
  rw [hk2] at HCo ⊢
  clear hk2
  go_wp2_with fail
  refine HCo.out.mono ?_
  rintro e v3 ⟨rfl, hb⟩
  have HB3 := Lib.hid (bt HB2.out hb)
  clear hb
  go_wp2_with fail
  have HXe := Lib.hid (show b = (!t) by rw [← HX.out, isExB, HK.out, HTt.out]; rfl)
  exact bodyPost_ret (v := .bool (!t)) (by simp [results, Tryz.results136, go_sem]) rfl ⟨by rw [HXe.out], HB3.out⟩
set_option maxRecDepth 100000 in
set_option maxHeartbeats 2000000 in
theorem isNo_any {x : Ex} {v : Value} {w : World} (h : EV x v w) (hg : Gd x) {b : Bool} (hbx : isNoB x = b) :
  Calls Tryz.prog 105 #[v] w fun e w' => e = .returned (.bool b) ∧ Below w.heap.size w w' := by
 obtain ⟨hd, l⟩ := x
 obtain ⟨A, cp, rfl, hl, hx⟩ := h
 simp only [Ex.hd, Ex.kids] at hl hx ⊢
 have HE := Lib.hid (show EV (.mk hd l) (XV hd A l.length cp) w from ⟨A, cp, rfl, hl, hx⟩)
 have HG := Lib.hid hg
 clear hl hx hg
 have hb0 := ba w (xbox hd A l.length cp)
 have HB0 := Lib.hid hb0
 have HC := Lib.hid (ev_same (HE.out.next hb0) (EV.leaf ⟨0, 0, 0, 0, ⟨#[]⟩, ⟨#[]⟩, ⟨#[]⟩⟩ _) (Nat.le_trans HG.out.cnt (by decide)) (by decide) (c := b) hbx)
 clear hb0 hbx
 go_enter Tryz.func105, Tryz.ntmps105
 go_wp2_with fail
 refine HC.out.mono ?_
 rintro e v1 ⟨u, rfl, hb, rfl⟩
 have HB1 := Lib.hid (bt HB0.out hb)
 clear hb
 go_wp2_with fail
 exact bodyPost_ret (v := .bool b) (by simp [results, Tryz.results105, go_sem]) rfl ⟨rfl, HB1.out⟩
set_option maxRecDepth 100000 in
set_option maxHeartbeats 2000000 in
theorem isCo_any {x : Ex} {v : Value} {w : World} (h : EV x v w) (hg : Gd x) (hT : Tabs w) {b : Bool} (hbx : isCoB x = b) :
  Calls Tryz.prog 106 #[v] w fun e w' => e = .returned (.bool b) ∧ Below w.heap.size w w' := by
 obtain ⟨hd, l⟩ := x
 obtain ⟨A, cp, rfl, hl, hx⟩ := h
 simp only [Ex.hd, Ex.kids] at hl hx ⊢
 have HE := Lib.hid (show EV (.mk hd l) (XV hd A l.length cp) w from ⟨A, cp, rfl, hl, hx⟩)
 have HG := Lib.hid hg
 have HT := Lib.hid hT
 clear hl hx hg hT
 have hb0 := ba w (xbox hd A l.length cp)
 have HB0 := Lib.hid hb0
 have HU0 := Lib.hid (show BxU (w.alloc (xbox hd A l.length cp)) w.heap.size #[.int .i64 hd.k, .int .i64 hd.n, .int .i64 hd.vk, .int .i64 hd.vn, .string hd.vs, .string hd.tab, .string hd.col, .slice A l.length cp] 37 from (MapKept.heap_alloc w (xbox hd A l.length cp)).1)
 clear hb0
 have HX := Lib.hid hbx
 clear hbx
 obtain ⟨t, ht⟩ : ∃ t, isExB (.mk hd l) = t := ⟨_, rfl⟩
 have HC := Lib.hid (isEx_any (HE.out.next HB0.out) HG.out (HT.out.kept HB0.out) ht)
 have HTt := Lib.hid ht
 clear ht
 cases t
 case false =>
  go_enter Tryz.func106, Tryz.ntmps106
  go_wp2_with fail
  refine HC.out.mono ?_
  rintro e v1 ⟨rfl, hb⟩
  have HB1 := Lib.hid (bt HB0.out hb)
  clear hb
  go_wp2_with fail
  have HXe := Lib.hid (show b = false by rw [← HX.out, isCoB, HTt.out]; rfl)
  exact bodyPost_ret (v := .bool false) (by simp [results, Tryz.results106, go_sem]) rfl ⟨by rw [HXe.out], HB1.out⟩
 case true =>
  have HK := Lib.hid (show okX (.mk hd l) = true by have h := HTt.out; rw [isExB, Bool.and_eq_true] at h; exact h.1)
  go_enter Tryz.func106, Tryz.ntmps106
  go_wp2_with fail
  refine HC.out.mono ?_
  rintro e v1 ⟨rfl, hb⟩
  have HB1 := Lib.hid (bt HB0.out hb)
  have HU1 := Lib.hid (HU0.out.next hb)
  have HE1 := Lib.hid ((HE.out.next HB0.out).next hb)
  have HT1 := Lib.hid ((HT.out.kept HB0.out).kept hb)
  clear hb
  obtain ⟨b0, b1, b2, b3, b4, b5, b6, b7⟩ := cl8 (w := v1) HU1.out
  go_wp2_with fail
  refine (ev_aggs HE1.out HG.out.sm (Nat.le_trans HG.out.cnt (by decide)) HT1.out).mono ?_
  rintro e v2 ⟨u, rfl, hb, A2, cp2, rfl, _, _⟩
  rw [if_pos HK.out]
  have HB2 := Lib.hid (bt HB1.out hb)
  obtain ⟨k2, hk2⟩ : ∃ k, (kndX 4 (.mk hd l)).length = k := ⟨_, rfl⟩
  rw [hk2]
  have HXe := Lib.hid (show b = ((k2 : Int) == 0) by
   rw [← HX.out, isCoB, HTt.out, Bool.true_and, ← hk2]
   cases kndX 4 (.mk hd l) with
   | nil => rfl
   | cons a r => simp; omega)
  clear hb hk2 b0 b1 b2 b3 b4 b5 b6 b7
  go_wp2_with fail
  exact bodyPost_ret (v := .bool ((k2 : Int) == 0)) (by simp [results, Tryz.results106, go_sem]) rfl ⟨by rw [HXe.out], HB2.out⟩
set_option maxRecDepth 100000 in
set_option maxHeartbeats 2000000 in
theorem isGr_any {x : Ex} {v : Value} {w : World} (h : EV x v w) (hg : Gd x) (hT : Tabs w) {b : Bool} (hbx : isGrB x = b) :
  Calls Tryz.prog 108 #[v] w fun e w' => e = .returned (.bool b) ∧ Below w.heap.size w w' := by
 obtain ⟨hd, l⟩ := x
 obtain ⟨A, cp, rfl, hl, hx⟩ := h
 simp only [Ex.hd, Ex.kids] at hl hx ⊢
 have HE := Lib.hid (show EV (.mk hd l) (XV hd A l.length cp) w from ⟨A, cp, rfl, hl, hx⟩)
 have HG := Lib.hid hg
 have HT := Lib.hid hT
 clear hl hx hg hT
 have hb0 := ba w (xbox hd A l.length cp)
 have HB0 := Lib.hid hb0
 clear hb0
 have HX := Lib.hid hbx
 clear hbx
 by_cases hk : hd.k = 2
 ·have HK := Lib.hid hk
  have hkb : (hd.k == 2) = true := by rw [hk]; rfl
  clear hk
  obtain ⟨t, ht⟩ : ∃ t, isExB (.mk hd l) = t := ⟨_, rfl⟩
  have HC := Lib.hid (isEx_any (HE.out.next HB0.out) HG.out (HT.out.kept HB0.out) ht)
  have HTt := Lib.hid ht
  clear ht
  go_enter Tryz.func108, Tryz.ntmps108
  go_wp2_with fail
  refine HC.out.mono ?_
  rintro e v1 ⟨rfl, hb⟩
  have HB1 := Lib.hid (bt HB0.out hb)
  clear hb
  go_wp2_with fail
  have HXe := Lib.hid (show b = t by rw [← HX.out, isGrB, HTt.out, show (Ex.mk hd l).hd.k = 2 from HK.out]; rfl)
  exact bodyPost_ret (v := .bool t) (by simp [results, Tryz.results108, go_sem]) rfl ⟨by rw [HXe.out], HB1.out⟩
 ·have HK := Lib.hid hk
  have hkb : (hd.k == 2) = false := beq_eq_false_iff_ne.2 hk
  clear hk
  go_enter Tryz.func108, Tryz.ntmps108
  go_wp2_with fail
  have HXe := Lib.hid (show b = false by rw [← HX.out, isGrB, beq_eq_false_iff_ne.2 (show (Ex.mk hd l).hd.k ≠ 2 from HK.out)]; rfl)
  exact bodyPost_ret (v := .bool false) (by simp [results, Tryz.results108, go_sem]) rfl ⟨by rw [HXe.out], HB0.out⟩
end Go.Proofs.YtfjimoccliejdaaGreatDoor
end
section
namespace Go.Proofs.YtfjimoccliejdaaGreatDoor
open Go.RowKit Go.Shelf

abbrev Ab (w : World) (k : Nat) : Prop := k < w.heap.size
theorem Ls.nxt {α : Type} {P : Lay α} {sz : Nat} (ok : LayOk P sz) {w w' : World} {l : List α} {A : Option Addr} (h : Ls P (Ab w) w l A) (hb : Below w.heap.size w w') : Ls P (Ab w') w' l A :=
 h.go ok (fun k hk => hb.block k hk) (fun _ hk => Nat.lt_of_lt_of_le hk hb.size)
theorem LayOk.ab {α : Type} {P : Lay α} {sz : Nat} (ok : LayOk P sz) {w w' : World} {x : α} {c : List Value} (hb : Below w.heap.size w w') (h : P (Ab w) w x c) : P (Ab w') w' x c :=
 ok.go (fun k hk => hb.block k hk) (fun _ hk => Nat.lt_of_lt_of_le hk hb.size) h
def OkB {α : Type} (P : Lay α) (fn : FuncId) (G : α → Prop) (p : α → Bool) : Prop := ∀ (x : α) (c : List Value) (w : World), P (Ab w) w x c → G x → Tabs w → Calls Tryz.prog fn #[.agg c.toArray] w fun e w' => e = .returned (.bool (p x)) ∧ Below w.heap.size w w'
def lsB {α : Type} (least most : Nat) (p : α → Bool) (l : List α) : Bool := decide (least ≤ l.length) && decide (l.length ≤ most) && l.all p
theorem all_take_s {α : Type} (p : α → Bool) (r : List α) (j : Nat) (hj : j < r.length) : (r.take (j + 1)).all p = ((r.take j).all p && p r[j]) := by
 rw [List.take_add_one, List.getElem?_eq_getElem hj, List.all_append]
 simp
def nmB (b : Lx.B) : Bool := isName ⟨b.toArray⟩
structure GdI (i : Pa.Itm) : Prop where
 e : Gd i.e
 nm : i.nm.length ≤ 1000
structure GdS (s : Pa.Src) : Prop where
 on : Gd s.on
 tb : s.tb.length ≤ 1000
 nm : s.nm.length ≤ 1000
structure GdK (k : Pa.Ky) : Prop where
 nm : k.nm.length ≤ 1000
structure GdL (s : Pa.Sel) : Prop where
 its : ∀ i ∈ s.its, GdI i
 frs : ∀ f ∈ s.frs, GdS f
 wh : Gd s.wh
 grp : ∀ g ∈ s.grp, Gd g
def isItB (i : Pa.Itm) : Bool := if i.star then isNoB i.e && i.nm.isEmpty else isExB i.e && (i.nm.isEmpty || nmB i.nm)
def isSoB (s : Pa.Src) : Bool := nmB s.tb && nmB s.nm
def isFiB (s : Pa.Src) : Bool := (s.join == 0) && isNoB s.on
def isJoB (s : Pa.Src) : Bool := (decide (1 ≤ s.join) && decide (s.join ≤ 4)) && isCoB s.on
def isKyB (k : Pa.Ky) : Bool := nmB k.nm
def isPaB (s : Pa.Sel) : Bool := lsB 1 16 isItB s.its && lsB 1 6 isSoB s.frs && (match s.frs with | f :: r => isFiB f && lsB 0 6 isJoB r | [] => false) && (isNoB s.wh || isCoB s.wh) && lsB 0 8 isGrB s.grp
def isQuB (q : Pa.Qu) : Bool := lsB 1 8 isPaB q.parts && lsB 0 8 isKyB q.order && decide (-1 ≤ q.lim) && decide (q.lim ≤ 9007199254740991)
theorem exC_ev {w : World} {x : Ex} {c : List Value} (h : exC (Ab w) w x c) : EV x (.agg c.toArray) w := by
 obtain ⟨A, cap, rfl, h1, h2⟩ := exC_form h
 exact ⟨A, cap, rfl, h1, h2⟩
theorem exC_of_ev {w : World} {x : Ex} {h : Hd} {A : Option Addr} {n cp : Nat} (hx : exC (Ab w) w x (xcell (h, A, n, cp))) : EV x (XV h A n cp) w := exC_ev hx
theorem itC_ex {B : Nat → Prop} {w : World} {i : Pa.Itm} {c : List Value} (h : itC B w i c) : ∃ hd A n cp, c = .bool i.star :: (xcell (hd, A, n, cp) ++ [st i.nm]) ∧ exC B w i.e (xcell (hd, A, n, cp)) := by
 obtain ⟨⟨hd, A, n, cp⟩, rfl, hx⟩ := h
 exact ⟨hd, A, n, cp, rfl, _, rfl, hx⟩
theorem srC_ex {B : Nat → Prop} {w : World} {s : Pa.Src} {c : List Value} (h : srC B w s c) : ∃ hd A n cp, c = st s.tb :: st s.nm :: .int .i64 s.join :: xcell (hd, A, n, cp) ∧ exC B w s.on (xcell (hd, A, n, cp)) := by
 obtain ⟨⟨hd, A, n, cp⟩, rfl, hx⟩ := h
 exact ⟨hd, A, n, cp, rfl, _, rfl, hx⟩
theorem slC_ex {B : Nat → Prop} {w : World} {s : Pa.Sel} {c : List Value} (h : slC B w s c) : ∃ iA fA gA ic fc gc hd A n cp, c = .bool s.dist :: .slice iA s.its.length ic :: .slice fA s.frs.length fc :: (xcell (hd, A, n, cp) ++ [.slice gA s.grp.length gc]) ∧
  (s.its.length ≤ ic ∧ s.frs.length ≤ fc ∧ s.grp.length ≤ gc) ∧ Ls itC B w s.its iA ∧ Ls srC B w s.frs fA ∧ exC B w s.wh (xcell (hd, A, n, cp)) ∧ XsB B w s.grp gA := by
 obtain ⟨iA, fA, gA, ic, fc, gc, ⟨hd, A, n, cp⟩, rfl, h1, h2, h3, h4, h5⟩ := h
 exact ⟨iA, fA, gA, ic, fc, gc, hd, A, n, cp, rfl, h1, h2, h3, ⟨_, rfl, h4⟩, h5⟩
theorem xs_ls {B : Nat → Prop} {w : World} : ∀ {l : List Ex} {A : Option Addr}, XsB B w l A → Ls exC B w l A
 | [], A, _ => Ls.nil _ _ _ _
 | .mk h l :: r, A, H => by
  rw [XsB] at H
  obtain ⟨g, o, rfl, hg, ⟨A', cap, hc, hl, h1⟩, h2⟩ := H
  obtain ⟨q, hq, hr⟩ := xs_ls h2
  refine ⟨xcell (h, A', l.length, cap) :: q, .cons ⟨_, rfl, rfl, rfl, hl, h1⟩ hq, .inr ⟨g, o, rfl, hg, fun j u hj => ?_⟩⟩
  rcases Nat.lt_or_ge j 8 with h8 | h8
  ·rw [List.flatten_cons, List.getElem?_append_left (by show j < 8; exact h8)] at hj
   have hj8 : j = 0 ∨ j = 1 ∨ j = 2 ∨ j = 3 ∨ j = 4 ∨ j = 5 ∨ j = 6 ∨ j = 7 := by omega
   rcases hj8 with rfl | rfl | rfl | rfl | rfl | rfl | rfl | rfl
   ·cases hj; exact hc.c0
   ·cases hj; exact hc.c1
   ·cases hj; exact hc.c2
   ·cases hj; exact hc.c3
   ·cases hj; exact hc.c4
   ·cases hj; exact hc.c5
   ·cases hj; exact hc.c6
   ·cases hj; exact hc.c7
  ·rw [List.flatten_cons, List.getElem?_append_right (by show 8 ≤ j; exact h8)] at hj
   rcases hr with rfl | ⟨g', o', hA, _, hr⟩
   ·cases hq; simp at hj
   ·simp only [Option.some.injEq, Addr.mk.injEq] at hA
    obtain ⟨rfl, rfl, _⟩ := hA
    have := hr (j - 8) u hj
    rwa [show o + 8 + (j - 8) = o + j by omega] at this
end Go.Proofs.YtfjimoccliejdaaGreatDoor
end
section
namespace Go.Proofs.YtfjimoccliejdaaGreatDoor
open Go.RowKit Go.Shelf

structure Tt (s : Pa.Ps) : Prop where
 fin : Pa.Fin s.ts
 sm : Pa.SmT s
 len : s.ts.length ≤ 5000
theorem Tt.le {s s' : Pa.Ps} (h : Tt s) (l : Pa.Le s s') : Tt s' := ⟨l.fin, h.sm.le l, Nat.le_trans l.len h.len⟩
theorem sz_gd {e : Ex} {s s' : Pa.Ps} (h : Tt s) (z : Pa.Sz e s s') : Gd e := ⟨z.sm, by have := z.n; have := h.len; have : Pa.bN s'.bad ≤ 1 := by { unfold Pa.bN; split <;> omega }; omega⟩
theorem lev_gd (F k : Nat) {s : Pa.Ps} (h : Tt s) : Gd (Pa.lev F k s).1 := sz_gd h (Pa.lev_sz F k s h.fin h.sm)
theorem col_gd {s : Pa.Ps} (h : Tt s) : Gd (Pa.colP s).1 := sz_gd h (Pa.col_sz h.fin h.sm)
theorem exZ_gd : Gd Pa.exZ := ⟨Pa.sm_mk (Pa.sm0 0 0) Pa.smL0, by rw [Pa.exZ, Pa.cnt1]; decide⟩
theorem name_sm {s : Pa.Ps} (h : Tt s) : (Pa.nameP s).1.length ≤ 1000 := Nat.le_trans (Pa.mustK_sz h.fin h.sm).1 (by decide)
theorem as_sm {d : Lx.B} (hd : d.length ≤ 1000) {s : Pa.Ps} (h : Tt s) : (Pa.asP d s).1.length ≤ 1000 := by
 unfold Pa.asP
 split
 ·exact name_sm (h.le (Pa.takeW_le _ h.fin).1)
 ·exact hd
section
variable (F : Nat)
theorem item_gd {s : Pa.Ps} (h : Tt s) : GdI (Pa.itemP (Pa.lev F 0) s).1 := by
 unfold Pa.itemP
 split
 ·exact ⟨exZ_gd, Nat.zero_le _⟩
 ·exact ⟨lev_gd F 0 h, as_sm (Nat.zero_le _) (h.le (Pa.lev_le F 0 s h.fin))⟩
theorem source_gd {s : Pa.Ps} (h : Tt s) : GdS (Pa.sourceP s).1 := ⟨exZ_gd, name_sm h, as_sm (name_sm h) (h.le (Pa.nameP_le h.fin))⟩
theorem joined_gd (k : Nat) {s : Pa.Ps} (h : Tt s) : GdS (Pa.joinedP (Pa.lev F 0) k s).1 := by
 have h1 := h.le (Pa.sourceP_le h.fin)
 have h2 := h1.le (Pa.mustW_le Pa.wON h1.fin)
 have hs := source_gd h
 exact ⟨lev_gd F 0 h2, hs.tb, hs.nm⟩
theorem key_gd {s : Pa.Ps} (h : Tt s) : GdK (Pa.keyP s).1 := ⟨name_sm h⟩
theorem more_gd {α : Type} {G : α → Prop} {thing : Pa.Ps → α × Pa.Ps} {w : Lx.B} {ws : List Lx.B} (hl : ∀ s, Pa.Fin s.ts → Pa.Le s (thing s).2) (hg : ∀ s, Tt s → G (thing s).1) : ∀ (n : Nat) (l : List α) (s : Pa.Ps), Tt s → (∀ x ∈ l, G x) → ∀ x ∈ (Pa.moreP thing w ws n l s).1, G x
 | 0, _, _, _, h => h
 | n + 1, l, s, ht, h => by
  rw [Pa.moreP]
  split
  ·have h1 := ht.le (Pa.takeAll_le w ws ht.fin).1
   refine more_gd hl hg n _ _ (h1.le (hl _ h1.fin)) fun x hx => ?_
   rcases List.mem_append.1 hx with hx | hx
   ·exact h x hx
   ·obtain rfl := List.mem_singleton.1 hx; exact hg _ h1
  ·exact h
theorem list_gd {α : Type} {G : α → Prop} {thing : Pa.Ps → α × Pa.Ps} {w : Lx.B} {ws : List Lx.B} (hl : ∀ s, Pa.Fin s.ts → Pa.Le s (thing s).2) (hg : ∀ s, Tt s → G (thing s).1) {s : Pa.Ps} (h : Tt s) : ∀ x ∈ (Pa.listP thing w ws s).1, G x :=
 more_gd hl hg _ _ _ (h.le (hl s h.fin)) fun x hx => by obtain rfl := List.mem_singleton.1 hx; exact hg s h
theorem sources_gd : ∀ (n : Nat) (l : List Pa.Src) (s : Pa.Ps), Tt s → (∀ x ∈ l, GdS x) → ∀ x ∈ (Pa.sourcesP (Pa.lev F 0) n l s).1, GdS x
 | 0, _, _, _, h => h
 | n + 1, l, s, ht, h => by
  rw [Pa.sourcesP]
  split
  ·exact h
  ·have h1 := ht.le (Pa.joinP_le ht.fin).1
   refine sources_gd n _ _ (h1.le (Pa.joinedP_le (fun s hs => Pa.lev_le F 0 s hs) _ h1.fin)) fun x hx => ?_
   rcases List.mem_append.1 hx with hx | hx
   ·exact h x hx
   ·obtain rfl := List.mem_singleton.1 hx; exact joined_gd F _ h1
theorem more_len {α : Type} {thing : Pa.Ps → α × Pa.Ps} {w : Lx.B} {ws : List Lx.B} (hl : ∀ s, Pa.Fin s.ts → Pa.Le s (thing s).2) : ∀ (n : Nat) (l : List α) (s : Pa.Ps), Pa.Fin s.ts → (Pa.moreP thing w ws n l s).1.length ≤ l.length + s.ts.length
 | 0, l, s, _ => by rw [Pa.moreP]; show l.length ≤ _; omega
 | n + 1, l, s, hf => by
  rw [Pa.moreP]
  split
  ·rename_i ht
   obtain ⟨h1, h2, _⟩ := Pa.takeAll_le w ws hf
   have h3 := hl _ h1.fin
   have h4 := more_len (w := w) (ws := ws) hl n (l ++ [(thing (Pa.takeAll w ws s).2).1]) _ h3.fin
   have := (h2 ht).2
   have := h3.len
   simp only [List.length_append, List.length_singleton] at h4
   omega
  ·simp only; omega
theorem list_len {α : Type} {thing : Pa.Ps → α × Pa.Ps} {w : Lx.B} {ws : List Lx.B} (hl : ∀ s, Pa.Fin s.ts → Pa.Le s (thing s).2) {s : Pa.Ps} (h : Tt s) : (Pa.listP thing w ws s).1.length ≤ 1000000 := by
 have h1 := hl s h.fin
 have h2 := more_len (w := w) (ws := ws) hl (thing s).2.ts.length [(thing s).1] _ h1.fin
 have := h1.len
 have := h.len
 simp only [List.length_singleton] at h2
 unfold Pa.listP
 omega
theorem sources_len : ∀ (n : Nat) (l : List Pa.Src) (s : Pa.Ps), Pa.Fin s.ts → (Pa.sourcesP (Pa.lev F 0) n l s).1.length ≤ l.length + s.ts.length
 | 0, l, s, _ => by rw [Pa.sourcesP]; show l.length ≤ _; omega
 | n + 1, l, s, hf => by
  rw [Pa.sourcesP]
  split
  ·simp only; omega
  ·rename_i hz
   obtain ⟨h1, h2, _⟩ := Pa.joinP_le hf
   have h3 := Pa.joinedP_le (fun s hs => Pa.lev_le F 0 s hs) (Pa.joinP s).1 h1.fin
   have h4 := sources_len n (l ++ [(Pa.joinedP (Pa.lev F 0) (Pa.joinP s).1 (Pa.joinP s).2).1]) _ h3.fin
   have := (h2 hz).2
   have := h3.len
   simp only [List.length_append, List.length_singleton] at h4
   omega
def GdL2 (s : Pa.Sel) : Prop := GdL s ∧ s.its.length ≤ 1000000 ∧ s.frs.length ≤ 1000000 ∧ s.grp.length ≤ 1000000
theorem item_le' (s : Pa.Ps) (h : Pa.Fin s.ts) : Pa.Le s (Pa.itemP (Pa.lev F 0) s).2 := Pa.itemP_le (fun s hs => Pa.lev_le F 0 s hs) h
theorem part_le' (s : Pa.Ps) (h : Pa.Fin s.ts) : Pa.Le s (Pa.partP (Pa.lev F 0) s).2 := Pa.partP_le (fun s hs => Pa.lev_le F 0 s hs) h
theorem part_gd {s : Pa.Ps} (h : Tt s) : GdL2 (Pa.partP (Pa.lev F 0) s).1 := by
 have h1 := h.le (Pa.mustW_le Pa.wSELECT h.fin)
 have h2 := h1.le (Pa.takeW_le Pa.wDISTINCT h1.fin).1
 have h3 := h2.le (Pa.listP_le (w := [44]) (ws := []) (item_le' F) h2.fin)
 have h4 := h3.le (Pa.mustW_le Pa.wFROM h3.fin)
 have h5 := h4.le (Pa.fromP_le (fun s hs => Pa.lev_le F 0 s hs) h4.fin)
 have h6 := h5.le (Pa.whereP_le (fun s hs => Pa.lev_le F 0 s hs) h5.fin)
 have hs4 := h4.le (Pa.sourceP_le h4.fin)
 refine ⟨⟨list_gd (item_le' F) (fun s hs => item_gd F hs) h2, ?_, ?_, ?_⟩, list_len (item_le' F) h2, ?_, ?_⟩
 ·exact sources_gd F _ _ _ hs4 fun x hx => by obtain rfl := List.mem_singleton.1 hx; exact source_gd h4
 ·show Gd (Pa.whereP (Pa.lev F 0) _).1
  unfold Pa.whereP
  split
  ·exact lev_gd F 0 (h5.le (Pa.takeW_le _ h5.fin).1)
  ·exact exZ_gd
 ·show ∀ g ∈ (Pa.groupP _).1, Gd g
  unfold Pa.groupP
  split
  ·exact list_gd (fun s hs => Pa.colP_le hs) (fun s hs => col_gd hs) (h6.le (Pa.takeAll_le _ _ h6.fin).1)
  ·intro g hg; cases hg
 ·have := sources_len F (Pa.sourceP (Pa.mustW Pa.wFROM (Pa.listP (Pa.itemP (Pa.lev F 0)) [44] [] (Pa.takeW Pa.wDISTINCT (Pa.mustW Pa.wSELECT s)).2).2)).2.ts.length [(Pa.sourceP (Pa.mustW Pa.wFROM (Pa.listP (Pa.itemP (Pa.lev F 0)) [44] [] (Pa.takeW Pa.wDISTINCT (Pa.mustW Pa.wSELECT s)).2).2)).1] _ hs4.fin
  have := hs4.len
  simp only [List.length_singleton] at *
  show (Pa.fromP (Pa.lev F 0) _).1.length ≤ _
  unfold Pa.fromP
  omega
 ·show (Pa.groupP _).1.length ≤ _
  unfold Pa.groupP
  split
  ·exact list_len (fun s hs => Pa.colP_le hs) (h6.le (Pa.takeAll_le _ _ h6.fin).1)
  ·exact Nat.zero_le _
def GdQ2 (q : Pa.Qu) : Prop := (∀ s ∈ q.parts, GdL2 s) ∧ (∀ k ∈ q.order, GdK k) ∧ q.parts.length ≤ 1000000 ∧ q.order.length ≤ 1000000
theorem query_gd {s : Pa.Ps} (h : Tt s) : GdQ2 (Pa.queryP (Pa.lev F 0) s).1 := by
 have h1 := h.le (Pa.listP_le (w := Pa.wUNION) (ws := [Pa.wALL]) (part_le' F) h.fin)
 refine ⟨list_gd (part_le' F) (fun s hs => part_gd F hs) h, ?_, list_len (part_le' F) h, ?_⟩
 ·show ∀ k ∈ (Pa.orderP _).1, GdK k
  unfold Pa.orderP
  split
  ·exact list_gd (fun s hs => Pa.keyP_le hs) (fun s hs => key_gd hs) (h1.le (Pa.takeAll_le _ _ h1.fin).1)
  ·intro k hk; cases hk
 ·show (Pa.orderP _).1.length ≤ _
  unfold Pa.orderP
  split
  ·exact list_len (fun s hs => Pa.keyP_le hs) (h1.le (Pa.takeAll_le _ _ h1.fin).1)
  ·exact Nat.zero_le _
end
end Go.Proofs.YtfjimoccliejdaaGreatDoor
end
