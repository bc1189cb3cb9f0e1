/-
  The law's own comparison of two queries.
What is read of tokens does not hang on their places: plain.
The law's remark: has a text two strokes in a row?
A text spaced anew has the same tokens, but for their places: plain.
A text spaced anew says the same.
The law's spaced: a text with blanks and remarks in place of its blanks.
The walk of ParseBlanks.
Plain: what a law's row asks of the end of its walk, for whatever arguments: true is told, and each argument reads as it did. Of whatever program.
-/
import Derived.Test.YtfjimoccliejdaaGreatDoorY16
import Derived.StillTailTactics
import Derived.Deep.CutRange
import Derived.Lib.AppendStr
import Derived.WalkKit
import Derived.ProofKit
import Derived.Carry
import Derived.OpenShut
import Derived.Deep.DeepHandedRow
section
namespace Go.Proofs.YtfjimoccliejdaaGreatDoor
open Go.RowKit Go.Shelf

/-- Two boxes that were made and filled. -/
theorem two_bx (w : World) (c d : Array Value) (T : TypeId) : Below w.heap.size w ((w.alloc (.cells c T)).alloc (.cells d T)).drew ∧ BxU ((w.alloc (.cells c T)).alloc (.cells d T)).drew w.heap.size c T ∧ BxU ((w.alloc (.cells c T)).alloc (.cells d T)).drew (w.heap.size + 1) d T := by
  have h1 := ba w (.cells c T)
  have h2 := ba (w.alloc (.cells c T)) (.cells d T)
  refine ⟨Below.drew (bt h1 h2), ?_, ?_⟩
  · exact (h2.block w.heap.size (by rw [World.size_alloc]; omega)).trans (MapKept.heap_alloc w (.cells c T)).1
  · have := (MapKept.heap_alloc (w.alloc (.cells c T)) (.cells d T)).1
    rw [World.size_alloc] at this
    exact this

set_option maxRecDepth 100000 in
set_option maxHeartbeats 8000000 in
theorem lawSame_any (q : Pa.Qu) (c c' : List Value) (w : World) (h : quC (Ab w) w q c) (h' : quC (Ab w) w q c') (hG : GdQ2 q) (hGc : ∀ s ∈ q.parts, cntL s.grp ≤ 1000000) :
    Calls Tryz.prog 9 #[.agg c.toArray, .agg c'.toArray] w fun e w' => e = .returned (.bool true) ∧ Below w.heap.size w w' := by
  obtain ⟨pA, oA, pc, oc, rfl, _, hP, hO⟩ := h
  obtain ⟨qA, rA, qc, rc, rfl, _, hP', hO'⟩ := h'
  have HP := Lib.hid hP
  have HO := Lib.hid hO
  have HP' := Lib.hid hP'
  have HO' := Lib.hid hO'
  have HG := Lib.hid hG
  have HGc := Lib.hid hGc
  have hb1 := ba w (.cells #[.slice pA q.parts.length pc, .slice oA q.order.length oc, .int .i64 q.lim] 26)
  have hb2 := ba (w.alloc (.cells #[.slice pA q.parts.length pc, .slice oA q.order.length oc, .int .i64 q.lim] 26)) (.cells #[.slice qA q.parts.length qc, .slice rA q.order.length rc, .int .i64 q.lim] 26)
  have HB := Lib.hid (bt hb1 hb2)
  obtain ⟨U, hU⟩ : ∃ U, w.heap.size = U := ⟨_, rfl⟩
  have hN0 := (MapKept.heap_alloc (w.alloc (.cells #[.slice pA q.parts.length pc, .slice oA q.order.length oc, .int .i64 q.lim] 26)) (.cells #[.slice qA q.parts.length qc, .slice rA q.order.length rc, .int .i64 q.lim] 26)).1
  rw [World.size_alloc, hU] at hN0
  have HN := Lib.hid (show BxU _ (U + 1) #[.slice qA q.parts.length qc, .slice rA q.order.length rc, .int .i64 q.lim] 26 from hN0)
  have hU0 := (hb2.block w.heap.size (by rw [World.size_alloc]; omega)).trans (MapKept.heap_alloc w (.cells #[.slice pA q.parts.length pc, .slice oA q.order.length oc, .int .i64 q.lim] 26)).1
  rw [hU] at hU0
  have HU := Lib.hid (show BxU _ U #[.slice pA q.parts.length pc, .slice oA q.order.length oc, .int .i64 q.lim] 26 from hU0)
  have HUl := Lib.hid hU
  have hl : q.parts.length ≤ 1000000 := hG.2.2.1
  have hlo : q.order.length ≤ 1000000 := hG.2.2.2
  clear hP hO hP' hO' hG hGc hb1 hb2 hN0 hU0
  go_enter Tryz.func9, Tryz.ntmps9
  go_wp2_with fail
  generalize (w.alloc (.cells #[.slice pA q.parts.length pc, .slice oA q.order.length oc, .int .i64 q.lim] 26)).alloc (.cells #[.slice qA q.parts.length qc, .slice rA q.order.length rc, .int .i64 q.lim] 26) = W2 at HB HN HU ⊢
  clear hU
  go_loopw [5] (fun i wr => ∃ j : Nat, j ≤ q.parts.length ∧ i = .int .i64 j ∧ Hid (Below w.heap.size w wr) ∧ Hid (BxU wr U #[.slice pA q.parts.length pc, .slice oA q.order.length oc, .int .i64 q.lim] 26) ∧ Hid (BxU wr (U + 1) #[.slice qA q.parts.length qc, .slice rA q.order.length rc, .int .i64 q.lim] 26)) (fun i _ => q.parts.length - (intOf i).toNat)
  case atStart => exact ⟨0, Nat.zero_le _, rfl, HB, HU, HN⟩
  case round =>
    clear HB HU HN
    obtain ⟨j, hj, rfl, HB, HU, HN⟩ := hrel
    have v0 : wr.cell? ⟨U, 0, none⟩ = some (.slice pA q.parts.length pc) := HU.out.cell 0
    have n0 : wr.cell? ⟨U + 1, 0, none⟩ = some (.slice qA q.parts.length qc) := HN.out.cell 0
    by_cases hlt : j < q.parts.length
    · obtain ⟨x, hx⟩ : ∃ x, q.parts[j]? = some x := ⟨_, List.getElem?_eq_getElem hlt⟩
      obtain ⟨g, o, cc, rfl, _, hp, hc⟩ := (HP.out.nxt slC_ok HB.out).at slC_ok hx
      obtain ⟨iA, fA, gA, ic, fc, gc, hd, A9, n, cp, rfl, ⟨_, _, hlg⟩, hI, hF, hW, hGr⟩ := slC_ex hp
      obtain ⟨g', o', cc', rfl, _, hp', hc'⟩ := (HP'.out.nxt slC_ok HB.out).at slC_ok hx
      obtain ⟨jA, kA, mA, jc, kc, mc, hq, A7, nq, cq, rfl, ⟨_, _, hlm⟩, hI', hF', hW', hGr'⟩ := slC_ex hp'
      have b0 : wr.cell? ⟨g, o + j * 12, none⟩ = some (.bool x.dist) := hc 0 _ rfl
      have b1 : wr.cell? ⟨g, o + j * 12 + 1, none⟩ = some (.slice iA x.its.length ic) := hc 1 _ rfl
      have b2 : wr.cell? ⟨g, o + j * 12 + 2, none⟩ = some (.slice fA x.frs.length fc) := hc 2 _ rfl
      have b3 : wr.cell? ⟨g, o + j * 12 + 3, none⟩ = some (.int .i64 hd.k) := hc 3 _ rfl
      have b4 : wr.cell? ⟨g, o + j * 12 + 4, none⟩ = some (.int .i64 hd.n) := hc 4 _ rfl
      have b5 : wr.cell? ⟨g, o + j * 12 + 5, none⟩ = some (.int .i64 hd.vk) := hc 5 _ rfl
      have b6 : wr.cell? ⟨g, o + j * 12 + 6, none⟩ = some (.int .i64 hd.vn) := hc 6 _ rfl
      have b7 : wr.cell? ⟨g, o + j * 12 + 7, none⟩ = some (.string hd.vs) := hc 7 _ rfl
      have b8 : wr.cell? ⟨g, o + j * 12 + 8, none⟩ = some (.string hd.tab) := hc 8 _ rfl
      have b9 : wr.cell? ⟨g, o + j * 12 + 9, none⟩ = some (.string hd.col) := hc 9 _ rfl
      have b10 : wr.cell? ⟨g, o + j * 12 + 10, none⟩ = some (.slice A9 n cp) := hc 10 _ rfl
      have b11 : wr.cell? ⟨g, o + j * 12 + 11, none⟩ = some (.slice gA x.grp.length gc) := hc 11 _ rfl
      have d0 : wr.cell? ⟨g', o' + j * 12, none⟩ = some (.bool x.dist) := hc' 0 _ rfl
      have d1 : wr.cell? ⟨g', o' + j * 12 + 1, none⟩ = some (.slice jA x.its.length jc) := hc' 1 _ rfl
      have d2 : wr.cell? ⟨g', o' + j * 12 + 2, none⟩ = some (.slice kA x.frs.length kc) := hc' 2 _ rfl
      have d3 : wr.cell? ⟨g', o' + j * 12 + 3, none⟩ = some (.int .i64 hq.k) := hc' 3 _ rfl
      have d4 : wr.cell? ⟨g', o' + j * 12 + 4, none⟩ = some (.int .i64 hq.n) := hc' 4 _ rfl
      have d5 : wr.cell? ⟨g', o' + j * 12 + 5, none⟩ = some (.int .i64 hq.vk) := hc' 5 _ rfl
      have d6 : wr.cell? ⟨g', o' + j * 12 + 6, none⟩ = some (.int .i64 hq.vn) := hc' 6 _ rfl
      have d7 : wr.cell? ⟨g', o' + j * 12 + 7, none⟩ = some (.string hq.vs) := hc' 7 _ rfl
      have d8 : wr.cell? ⟨g', o' + j * 12 + 8, none⟩ = some (.string hq.tab) := hc' 8 _ rfl
      have d9 : wr.cell? ⟨g', o' + j * 12 + 9, none⟩ = some (.string hq.col) := hc' 9 _ rfl
      have d10 : wr.cell? ⟨g', o' + j * 12 + 10, none⟩ = some (.slice A7 nq cq) := hc' 10 _ rfl
      have d11 : wr.cell? ⟨g', o' + j * 12 + 11, none⟩ = some (.slice mA x.grp.length mc) := hc' 11 _ rfl
      have HI := Lib.hid hI
      have HF := Lib.hid hF
      have HE := Lib.hid (exC_of_ev hW)
      have HGr := Lib.hid hGr
      have HI' := Lib.hid hI'
      have HF' := Lib.hid hF'
      have HE' := Lib.hid (exC_of_ev hW')
      have HGr' := Lib.hid hGr'
      have HGx := Lib.hid (HG.out.1 x (List.mem_of_getElem? hx))
      have HGy := Lib.hid (HGc.out x (List.mem_of_getElem? hx))
      have HLg := Lib.hid hlg
      have HLm := Lib.hid hlm
      clear hc hc' hp hp' hI hF hW hGr hI' hF' hW' hGr' hx hlg hlm
      go_upto_region 6 with fail
      go_cut [6, 7] from 32 to 85 (fun p r W => ∃ a b : Nat, p = .pointer (some ⟨a, 0, none⟩) ∧ r = .pointer (some ⟨b, 0, none⟩) ∧ Hid (Below wr.heap.size wr W) ∧ Hid (BxU W a #[.bool x.dist, .slice iA x.its.length ic, .slice fA x.frs.length fc, .int .i64 hd.k, .int .i64 hd.n, .int .i64 hd.vk, .int .i64 hd.vn, .string hd.vs, .string hd.tab, .string hd.col, .slice A9 n cp, .slice gA x.grp.length gc] 47) ∧ Hid (BxU W b #[.bool x.dist, .slice jA x.its.length jc, .slice kA x.frs.length kc, .int .i64 hq.k, .int .i64 hq.n, .int .i64 hq.vk, .int .i64 hq.vn, .string hq.vs, .string hq.tab, .string hq.col, .slice A7 nq cq, .slice mA x.grp.length mc] 47))
      case first =>
        have hdr : wr.drew.heap = wr.heap := rfl
        go_region_held3 (fun w' => w'.cell? ⟨U, 0, none⟩ = some (.slice (some ⟨g, o, none⟩) q.parts.length pc) ∧ w'.cell? ⟨U + 1, 0, none⟩ = some (.slice (some ⟨g', o', none⟩) q.parts.length qc) ∧ w'.cell? ⟨g, o + j * 12, none⟩ = some (.bool x.dist) ∧ w'.cell? ⟨g, o + j * 12 + 1, none⟩ = some (.slice iA x.its.length ic) ∧ w'.cell? ⟨g, o + j * 12 + 2, none⟩ = some (.slice fA x.frs.length fc) ∧ w'.cell? ⟨g, o + j * 12 + 3, none⟩ = some (.int .i64 hd.k) ∧ w'.cell? ⟨g, o + j * 12 + 4, none⟩ = some (.int .i64 hd.n) ∧ w'.cell? ⟨g, o + j * 12 + 5, none⟩ = some (.int .i64 hd.vk) ∧ w'.cell? ⟨g, o + j * 12 + 6, none⟩ = some (.int .i64 hd.vn) ∧ w'.cell? ⟨g, o + j * 12 + 7, none⟩ = some (.string hd.vs) ∧ w'.cell? ⟨g, o + j * 12 + 8, none⟩ = some (.string hd.tab) ∧ w'.cell? ⟨g, o + j * 12 + 9, none⟩ = some (.string hd.col) ∧ w'.cell? ⟨g, o + j * 12 + 10, none⟩ = some (.slice A9 n cp) ∧ w'.cell? ⟨g, o + j * 12 + 11, none⟩ = some (.slice gA x.grp.length gc) ∧ w'.cell? ⟨g', o' + j * 12, none⟩ = some (.bool x.dist) ∧ w'.cell? ⟨g', o' + j * 12 + 1, none⟩ = some (.slice jA x.its.length jc) ∧ w'.cell? ⟨g', o' + j * 12 + 2, none⟩ = some (.slice kA x.frs.length kc) ∧ w'.cell? ⟨g', o' + j * 12 + 3, none⟩ = some (.int .i64 hq.k) ∧ w'.cell? ⟨g', o' + j * 12 + 4, none⟩ = some (.int .i64 hq.n) ∧ w'.cell? ⟨g', o' + j * 12 + 5, none⟩ = some (.int .i64 hq.vk) ∧ w'.cell? ⟨g', o' + j * 12 + 6, none⟩ = some (.int .i64 hq.vn) ∧ w'.cell? ⟨g', o' + j * 12 + 7, none⟩ = some (.string hq.vs) ∧ w'.cell? ⟨g', o' + j * 12 + 8, none⟩ = some (.string hq.tab) ∧ w'.cell? ⟨g', o' + j * 12 + 9, none⟩ = some (.string hq.col) ∧ w'.cell? ⟨g', o' + j * 12 + 10, none⟩ = some (.slice A7 nq cq) ∧ w'.cell? ⟨g', o' + j * 12 + 11, none⟩ = some (.slice mA x.grp.length mc))
          (first
            | exact ⟨v0, n0, b0, b1, b2, b3, b4, b5, b6, b7, b8, b9, b10, b11, d0, d1, d2, d3, d4, d5, d6, d7, d8, d9, d10, d11⟩
            | ((try go_split_ands)
               refine ⟨?_, ?_, ?_, ?_, ?_, ?_, ?_, ?_, ?_, ?_, ?_, ?_, ?_, ?_, ?_, ?_, ?_, ?_, ?_, ?_, ?_, ?_, ?_, ?_, ?_, ?_⟩
               all_goals first | assumption | go_keep))
          (first
            | fail)
        all_goals
          clear v0 n0 b0 b1 b2 b3 b4 b5 b6 b7 b8 b9 b10 b11 d0 d1 d2 d3 d4 d5 d6 d7 d8 d9 d10 d11 hdr
          go_wp2_with fail
          go_meet
          case rel => first
            | exact ⟨_, _, rfl, rfl, Lib.hid (two_bx wr _ _ _).1, Lib.hid (two_bx wr _ _ _).2.1, Lib.hid (two_bx wr _ _ _).2.2⟩
            | exact ⟨_, _, rfl, rfl, Lib.hid (two_bx wr _ _ _).1, Lib.hid (two_bx wr _ _ _).2.2, Lib.hid (two_bx wr _ _ _).2.1⟩
      case rest =>
        obtain ⟨a, b, rfl, rfl, HB2, HX, HY⟩ := hcut
        clear v0 n0 b0 b1 b2 b3 b4 b5 b6 b7 b8 b9 b10 b11 d0 d1 d2 d3 d4 d5 d6 d7 d8 d9 d10 d11
        have HB0 := Lib.hid (bt HB.out HB2.out)
        have HU0 := Lib.hid (HU.out.next HB2.out)
        have HN0 := Lib.hid (HN.out.next HB2.out)
        have a0 : wc.cell? ⟨a, 0, none⟩ = some (.bool x.dist) := HX.out.cell 0
        have b0 : wc.cell? ⟨b, 0, none⟩ = some (.bool x.dist) := HY.out.cell 0
        have a1 : wc.cell? ⟨a, 1, none⟩ = some (.slice iA x.its.length ic) := HX.out.cell 1
        have b1 : wc.cell? ⟨b, 1, none⟩ = some (.slice jA x.its.length jc) := HY.out.cell 1
        have HT1 := Lib.hid (sameItems_any x.its iA jA ic jc wc (HI.out.nxt itC_ok HB2.out) (HI'.out.nxt itC_ok HB2.out) (fun i hi => Nat.le_trans (HGx.out.1.its i hi).e.cnt (by decide)) HGx.out.2.1)
        go_wp2_with fail
        refine HT1.out.mono ?_
        rintro e w3 ⟨rfl, hb3⟩
        have HB3 := Lib.hid (bt HB2.out hb3)
        have HX3 := Lib.hid (HX.out.next hb3)
        have HY3 := Lib.hid (HY.out.next hb3)
        clear hb3 a0 b0 a1 b1
        have a2 : w3.cell? ⟨a, 2, none⟩ = some (.slice fA x.frs.length fc) := HX3.out.cell 2
        have b2 : w3.cell? ⟨b, 2, none⟩ = some (.slice kA x.frs.length kc) := HY3.out.cell 2
        have HT2 := Lib.hid (sameSources_any x.frs fA kA fc kc w3 (HF.out.nxt srC_ok HB3.out) (HF'.out.nxt srC_ok HB3.out) (fun i hi => Nat.le_trans (HGx.out.1.frs i hi).on.cnt (by decide)) HGx.out.2.2.1)
        go_wp2_with fail
        refine HT2.out.mono ?_
        rintro e w4 ⟨rfl, hb4⟩
        have HB4 := Lib.hid (bt HB3.out hb4)
        have HX4 := Lib.hid (HX3.out.next hb4)
        have HY4 := Lib.hid (HY3.out.next hb4)
        clear hb4 a2 b2
        have a3 : w4.cell? ⟨a, 3, none⟩ = some (.int .i64 hd.k) := HX4.out.cell 3
        have b3 : w4.cell? ⟨b, 3, none⟩ = some (.int .i64 hq.k) := HY4.out.cell 3
        have a4 : w4.cell? ⟨a, 4, none⟩ = some (.int .i64 hd.n) := HX4.out.cell 4
        have b4 : w4.cell? ⟨b, 4, none⟩ = some (.int .i64 hq.n) := HY4.out.cell 4
        have a5 : w4.cell? ⟨a, 5, none⟩ = some (.int .i64 hd.vk) := HX4.out.cell 5
        have b5 : w4.cell? ⟨b, 5, none⟩ = some (.int .i64 hq.vk) := HY4.out.cell 5
        have a6 : w4.cell? ⟨a, 6, none⟩ = some (.int .i64 hd.vn) := HX4.out.cell 6
        have b6 : w4.cell? ⟨b, 6, none⟩ = some (.int .i64 hq.vn) := HY4.out.cell 6
        have a7 : w4.cell? ⟨a, 7, none⟩ = some (.string hd.vs) := HX4.out.cell 7
        have b7 : w4.cell? ⟨b, 7, none⟩ = some (.string hq.vs) := HY4.out.cell 7
        have a8 : w4.cell? ⟨a, 8, none⟩ = some (.string hd.tab) := HX4.out.cell 8
        have b8 : w4.cell? ⟨b, 8, none⟩ = some (.string hq.tab) := HY4.out.cell 8
        have a9 : w4.cell? ⟨a, 9, none⟩ = some (.string hd.col) := HX4.out.cell 9
        have b9 : w4.cell? ⟨b, 9, none⟩ = some (.string hq.col) := HY4.out.cell 9
        have a10 : w4.cell? ⟨a, 10, none⟩ = some (.slice A9 n cp) := HX4.out.cell 10
        have b10 : w4.cell? ⟨b, 10, none⟩ = some (.slice A7 nq cq) := HY4.out.cell 10
        have HT3 := Lib.hid ((rv_same (HE.out.next HB4.out) (HE'.out.next HB4.out) (Nat.le_trans HGx.out.1.wh.cnt (by decide)) (Nat.le_trans HGx.out.1.wh.cnt (by decide)) (same_self _)).mono (R' := fun e w5 => e = .returned (.bool true) ∧ Below w4.heap.size w4 w5) (fun e w5 hE => by obtain ⟨u, rfl, hb, rfl⟩ := hE; exact ⟨rfl, hb⟩))
        go_wp2_with fail
        refine HT3.out.mono ?_
        rintro e w5 ⟨rfl, hb5⟩
        have HB5 := Lib.hid (bt HB4.out hb5)
        have HX5 := Lib.hid (HX4.out.next hb5)
        have HY5 := Lib.hid (HY4.out.next hb5)
        clear hb5 a3 b3 a4 b4 a5 b5 a6 b6 a7 b7 a8 b8 a9 b9 a10 b10
        have a11 : w5.cell? ⟨a, 11, none⟩ = some (.slice gA x.grp.length gc) := HX5.out.cell 11
        have b11 : w5.cell? ⟨b, 11, none⟩ = some (.slice mA x.grp.length mc) := HY5.out.cell 11
        have HT4 := Lib.hid ((rv_list (l := x.grp) (v := .slice gA x.grp.length gc) (u := .slice mA x.grp.length mc) (w := w5) ⟨_, _, rfl, HLg.out, XsB.go (fun k hk => HB5.out.block k hk) (fun k hk => Nat.lt_of_lt_of_le hk HB5.out.size) _ _ HGr.out⟩ ⟨_, _, rfl, HLm.out, XsB.go (fun k hk => HB5.out.block k hk) (fun k hk => Nat.lt_of_lt_of_le hk HB5.out.size) _ _ HGr'.out⟩ HGy.out).mono (R' := fun e w6 => e = .returned (.bool true) ∧ Below w5.heap.size w5 w6) (fun e w6 hE => by obtain ⟨u, rfl, hb, rfl⟩ := hE; exact ⟨rfl, hb⟩))
        go_wp2_with fail
        refine HT4.out.mono ?_
        rintro e w6 ⟨rfl, hb6⟩
        have HB6 := Lib.hid (bt HB.out (bt HB5.out hb6))
        have HU6 := Lib.hid (HU.out.next (bt HB5.out hb6))
        have HN6 := Lib.hid (HN.out.next (bt HB5.out hb6))
        clear hb6 a11 b11
        go_wp2_with fail
        go_roundw
        case rel =>
          first
            | exact ⟨j + 1, by omega, by go_num, HB6, HU6, HN6⟩
            | ((repeat apply Exists.intro); exact ⟨⟨j + 1, by omega, by go_num, HB6, HU6, HN6⟩, rfl⟩)
        case measure => simp [intOf]; omega
    · go_wp2_with fail
      clear v0 n0
      have HBs := Lib.hid HB.out
      have HUs := Lib.hid HU.out
      have HNs := Lib.hid HN.out
      go_loopw [8] (fun i ws => ∃ j : Nat, j ≤ q.order.length ∧ i = .int .i64 j ∧ Hid (Below w.heap.size w ws) ∧ Hid (BxU ws U #[.slice pA q.parts.length pc, .slice oA q.order.length oc, .int .i64 q.lim] 26) ∧ Hid (BxU ws (U + 1) #[.slice qA q.parts.length qc, .slice rA q.order.length rc, .int .i64 q.lim] 26)) (fun i _ => q.order.length - (intOf i).toNat)
      case atStart => exact ⟨0, Nat.zero_le _, rfl, HBs, HUs, HNs⟩
      case round =>
        clear HB HU HN HBs HUs HNs
        obtain ⟨j, hj, rfl, HB, HU, HN⟩ := hrel
        have v1 : wr.cell? ⟨U, 1, none⟩ = some (.slice oA q.order.length oc) := HU.out.cell 1
        have n1 : wr.cell? ⟨U + 1, 1, none⟩ = some (.slice rA q.order.length rc) := HN.out.cell 1
        have v2 : wr.cell? ⟨U, 2, none⟩ = some (.int .i64 q.lim) := HU.out.cell 2
        by_cases hlt : j < q.order.length
        · obtain ⟨x, hx⟩ : ∃ x, q.order[j]? = some x := ⟨_, List.getElem?_eq_getElem hlt⟩
          obtain ⟨g, o, cc, rfl, _, hp, hc⟩ := (HO.out.nxt kyC_ok HB.out).at kyC_ok hx
          have hp9 : _ = _ := hp
          subst hp9
          obtain ⟨g', o', cc', rfl, _, hp', hc'⟩ := (HO'.out.nxt kyC_ok HB.out).at kyC_ok hx
          have hp8 : _ = _ := hp'
          subst hp8
          have b0 : wr.cell? ⟨g, o + j * 2, none⟩ = some (st x.nm) := hc 0 _ rfl
          have b1 : wr.cell? ⟨g, o + j * 2 + 1, none⟩ = some (.bool x.down) := hc 1 _ rfl
          have d0 : wr.cell? ⟨g', o' + j * 2, none⟩ = some (st x.nm) := hc' 0 _ rfl
          have d1 : wr.cell? ⟨g', o' + j * 2 + 1, none⟩ = some (.bool x.down) := hc' 1 _ rfl
          clear hc hc' hp hp' hx v2
          go_upto_region 12 with fail
          go_quiet (fail)
          have HB4 := Lib.hid (show Below w.heap.size w (wr.drewN nq) from ⟨HB.out.os, HB.out.tape, HB.out.output, HB.out.size, HB.out.block⟩)
          have HU4 := Lib.hid (show BxU (wr.drewN nq) U _ _ from HU.out)
          have HN4 := Lib.hid (show BxU (wr.drewN nq) (U + 1) _ _ from HN.out)
          clear b0 b1 d0 d1 v1 n1
          generalize wr.drewN nq = W1 at HB4 HU4 HN4 ⊢
          go_wp2_with fail
          go_roundw
          case rel =>
            first
              | exact ⟨j + 1, by omega, by go_num, HB4, HU4, HN4⟩
              | ((repeat apply Exists.intro); exact ⟨⟨j + 1, by omega, by go_num, HB4, HU4, HN4⟩, rfl⟩)
          case measure => simp [intOf]; omega
        · go_wp2_with fail
          exact bodyPost_ret (v := .bool true) (by simp [results, Tryz.results9, go_sem]) rfl ⟨rfl, HB.out⟩
end Go.Proofs.YtfjimoccliejdaaGreatDoor
end
section
namespace Go.Proofs.YtfjimoccliejdaaGreatDoor.Pa
open Lx (B Tok)

/-- All places 0. -/
def nz (s : Ps) : Ps := ⟨s.ts.map fun x => (x.1, 0), s.bad⟩
def NZ {α : Type} (f : Ps → α × Ps) : Prop := ∀ s, f (nz s) = ((f s).1, nz (f s).2)
theorem nz_tk (s : Ps) : (nz s).tk = s.tk := by
  obtain ⟨ts, b⟩ := s
  cases ts with
  | nil => rfl
  | cons x r => rfl
theorem nz_tail (s : Ps) (b : Bool) : (⟨(nz s).ts.tail, b⟩ : Ps) = nz ⟨s.ts.tail, b⟩ := by
  obtain ⟨ts, _⟩ := s
  cases ts <;> rfl
theorem nz_len (s : Ps) : (nz s).ts.length = s.ts.length := List.length_map ..
theorem nz_takeW (w : B) : NZ (takeW w) := fun s => by
  unfold takeW
  rw [nz_tk, show (nz s).bad = s.bad from rfl]
  split
  · rw [nz_tail]
  · rfl
theorem nz_mustW (w : B) (s : Ps) : mustW w (nz s) = nz (mustW w s) := by
  unfold mustW
  rw [nz_takeW]
  split <;> rfl
theorem nz_takeK (k : Nat) : NZ (takeK k) := fun s => by
  unfold takeK
  rw [nz_tk, show (nz s).bad = s.bad from rfl]
  split
  · rw [nz_tail]
  · rfl
theorem nz_mustK (k : Nat) : NZ (mustK k) := fun s => by
  unfold mustK
  rw [nz_takeK]
  cases h : takeK k s with
  | mk o s1 => cases o <;> rfl
theorem nz_null : NZ nullP := fun s => by
  unfold nullP
  rw [nz_takeW, nz_mustW]
theorem nz_oper : ∀ ops, NZ (operP ops)
  | [], s => rfl
  | op :: r, s => by
    rw [operP, operP, nz_takeW]
    split
    · split
      · exact nz_null _
      · rfl
    · exact nz_oper r s
theorem nz_row {part : Ps → Ex × Ps} (hp : NZ part) (ops : List Nat) : ∀ (n : Nat) (e : Ex), NZ (rowP part ops n e)
  | 0, e, s => rfl
  | n + 1, e, s => by
    rw [rowP, rowP, nz_oper ops s]
    split
    · rfl
    split
    · exact nz_row hp ops n _ _
    · rw [hp]; exact nz_row hp ops n _ _
theorem nz_col : NZ colP := fun s => by
  unfold colP
  rw [nz_mustK, nz_takeW, nz_mustK]
  split <;> rfl
section
variable {or : Ps → Ex × Ps} (ho : NZ or)
include ho
theorem nz_encl : NZ (enclP or) := fun s => by unfold enclP; rw [ho, nz_mustW]
theorem nz_agg (n : Nat) : NZ (aggP or n) := fun s => by unfold aggP; rw [nz_mustW, nz_encl ho]
theorem nz_count : NZ (countP or) := fun s => by
  unfold countP
  rw [nz_mustW, nz_takeW, nz_mustW]
  split
  · rfl
  · exact nz_agg ho 2 s
theorem nz_first : NZ (firstP or) := fun s => by
  unfold firstP
  rw [nz_takeK, nz_takeK]
  cases h3 : (takeK 3 s).1 with
  | some t => rfl
  | none =>
    cases h4 : (takeK 4 s).1 with
    | some t => rfl
    | none =>
      simp only [nz_takeW wTRUE s, nz_takeW wFALSE s, nz_takeW wNULL s, nz_takeW [40] s, nz_takeW wCOUNT s, nz_takeW wSUM s, nz_takeW wMIN s, nz_takeW wMAX s]
      split
      · rfl
      split
      · rfl
      split
      · rfl
      split
      · exact nz_encl ho _
      split
      · exact nz_count ho _
      split
      · exact nz_agg ho _ _
      split
      · exact nz_agg ho _ _
      split
      · exact nz_agg ho _ _
      · exact nz_col s
end
theorem nz_lev : ∀ (f k : Nat), NZ (lev f k)
  | 0, k, s => rfl
  | f + 1, k, s => by
    rw [lev, lev]
    split
    · rw [nz_takeW]
      split
      · rw [nz_lev f 2]
      · exact nz_lev f 3 s
    split
    · rw [nz_takeW]
      split
      · rw [nz_lev f 6]
      · exact nz_lev f 7 s
    split
    · exact nz_first (nz_lev f 0) s
    · rw [nz_lev f (k + 1) s]
      simp only [nz_len]
      exact nz_row (nz_lev f (k + 1)) _ _ _ _
theorem nz_musts : ∀ (ws : List B) (s : Ps), ws.foldl (fun s w => mustW w s) (nz s) = nz (ws.foldl (fun s w => mustW w s) s)
  | [], _ => rfl
  | w :: ws, s => by rw [List.foldl_cons, List.foldl_cons, nz_mustW, nz_musts ws]
theorem nz_takeAll (w : B) (ws : List B) : NZ (takeAll w ws) := fun s => by
  unfold takeAll
  rw [nz_takeW]
  split
  · rw [nz_musts]
  · rfl
theorem nz_more {α : Type} {thing : Ps → α × Ps} (ht : NZ thing) (w : B) (ws : List B) : ∀ (n : Nat) (l : List α), NZ (moreP thing w ws n l)
  | 0, _, _ => rfl
  | n + 1, l, s => by
    rw [moreP, moreP, nz_takeAll]
    split
    · rw [ht]; exact nz_more ht w ws n _ _
    · rfl
theorem nz_list {α : Type} {thing : Ps → α × Ps} (ht : NZ thing) (w : B) (ws : List B) : NZ (listP thing w ws) := fun s => by
  unfold listP
  rw [ht]
  simp only [nz_len]
  exact nz_more ht w ws _ _ _
theorem nz_name : NZ nameP := fun s => by unfold nameP; rw [nz_mustK]
theorem nz_as (d : B) : NZ (asP d) := fun s => by
  unfold asP
  rw [nz_takeW]
  split
  · exact nz_name _
  · rfl
theorem nz_source : NZ sourceP := fun s => by unfold sourceP; rw [nz_name]; simp only; rw [nz_as]
theorem nz_join : NZ joinP := fun s => by
  unfold joinP
  rw [nz_takeW, nz_takeAll, nz_takeAll, nz_takeAll]
  split
  · rfl
  split
  · rfl
  split
  · rfl
  split <;> rfl
theorem nz_key : NZ keyP := fun s => by unfold keyP; rw [nz_name]; simp only; rw [nz_takeW]
theorem nz_limit : NZ limitP := fun s => by
  unfold limitP
  rw [nz_takeW]
  split
  · rw [nz_mustK]
  · rfl
theorem nz_group : NZ groupP := fun s => by
  unfold groupP
  rw [nz_takeAll]
  split
  · exact nz_list nz_col _ _ _
  · rfl
theorem nz_order : NZ orderP := fun s => by
  unfold orderP
  rw [nz_takeAll]
  split
  · exact nz_list nz_key _ _ _
  · rfl
section
variable {or : Ps → Ex × Ps} (ho : NZ or)
include ho
theorem nz_item : NZ (itemP or) := fun s => by
  unfold itemP
  rw [nz_takeW, ho, nz_as]
  split <;> rfl
theorem nz_joined (k : Nat) : NZ (joinedP or k) := fun s => by
  unfold joinedP
  rw [nz_source]
  simp only
  rw [nz_mustW, ho]
theorem nz_sources : ∀ (n : Nat) (l : List Src), NZ (sourcesP or n l)
  | 0, _, _ => rfl
  | n + 1, l, s => by
    rw [sourcesP, sourcesP, nz_join]
    split
    · rfl
    · rw [nz_joined ho]; exact nz_sources n _ _
theorem nz_from : NZ (fromP or) := fun s => by
  unfold fromP
  rw [nz_source]
  simp only [nz_len]
  exact nz_sources ho _ _ _
theorem nz_where : NZ (whereP or) := fun s => by
  unfold whereP
  rw [nz_takeW]
  split
  · exact ho _
  · rfl
theorem nz_part : NZ (partP or) := fun s => by
  unfold partP
  simp only
  rw [nz_mustW, nz_takeW]
  simp only
  rw [nz_list (nz_item ho)]
  simp only
  rw [nz_mustW, nz_from ho]
  simp only
  rw [nz_where ho]
  simp only
  rw [nz_group]
theorem nz_query : NZ (queryP or) := fun s => by
  unfold queryP
  simp only
  rw [nz_list (nz_part ho)]
  simp only
  rw [nz_order]
  simp only
  rw [nz_limit]
end
/-- Two states of the same tokens. -/
theorem nz_same {ts us : List TkA} (h : us.map (·.1) = ts.map (·.1)) : nz ⟨us, false⟩ = nz ⟨ts, false⟩ := by
  unfold nz
  have e : ∀ l : List TkA, l.map (fun x => (x.1, 0)) = (l.map (·.1)).map (fun t => (t, 0)) := fun l => by rw [List.map_map]; rfl
  simp only [e, h]
theorem nz_of {α : Type} {f : Ps → α × Ps} (hf : NZ f) {ts us : List TkA} (h : us.map (·.1) = ts.map (·.1)) : (f ⟨us, false⟩).1 = (f ⟨ts, false⟩).1 ∧ (f ⟨us, false⟩).2.bad = (f ⟨ts, false⟩).2.bad ∧ (f ⟨us, false⟩).2.tk = (f ⟨ts, false⟩).2.tk := by
  have h1 := hf ⟨us, false⟩
  have h2 := hf ⟨ts, false⟩
  rw [nz_same h, h2] at h1
  have e1 := congrArg (·.1) h1
  have e2 := congrArg (·.2) h1
  simp only at e1 e2
  exact ⟨e1.symm, (congrArg Ps.bad e2).symm, by rw [← nz_tk, ← e2, nz_tk]⟩
end Go.Proofs.YtfjimoccliejdaaGreatDoor.Pa
end
section
namespace Go.Proofs.YtfjimoccliejdaaGreatDoor
open Go.RowKit Go.Shelf

/-- No two strokes in a row. -/
def NoRem (l : List UInt8) : Prop := ∀ j : Nat, l[j]? = some (45 : UInt8) → l[j + 1]? = some (45 : UInt8) → False
theorem sz_ne (c : UInt8) (n : Nat) (h : c ≠ UInt8.ofNat n) : ((c.toNat : Int) == (n : Int)) = false := by
  rw [beq_eq_false_iff_ne]
  intro e
  apply h
  have : c.toNat = n := by omega
  rw [← this]; simp
def RemE (l : List UInt8) (e : Ending) : Prop := ∃ b, e = .returned (.bool b) ∧ (b = false → NoRem l)
set_option maxHeartbeats 2000000 in
theorem remark_any (s : ByteArray) (w : World) (hs : s.size ≤ 100000) :
    Calls Tryz.prog 14 #[.string s] w fun e w' => RemE (bs s) e ∧ Below w.heap.size w w' := by
  have hL : (bs s).length = s.size := bs_len s
  have HL := Lib.hid hL
  clear hL
  go_enter Tryz.func14, Tryz.ntmps14
  go_wp2_with fail
  go_loop [3] (fun i => ∃ k : Nat, k ≤ s.size ∧ i = .int .i64 (k + 1) ∧ Hid (∀ j, j < k → (bs s)[j]? = some 45 → (bs s)[j + 1]? = some 45 → False)) (fun i => s.size + 1 - (intOf i).toNat)
  case atStart => exact ⟨0, Nat.zero_le _, rfl, Lib.hid (fun j h => absurd h (by omega))⟩
  case round =>
    obtain ⟨k, hk, rfl, HA⟩ := hrel
    by_cases hlt : k + 1 < s.size
    · have hlI : (k : Int) + 1 < (s.size : Int) := by omega
      have hk0 : k < s.size := by omega
      have hsub : (k : Int) + 1 - 1 = (k : Int) := by omega
      have G1 := Lib.hid (bs_get s k hk0)
      have G2 := Lib.hid (bs_get s (k + 1) hlt)
      have step : (s[k] = 45 → s[k + 1] = 45 → False) → Hid (∀ j, j < k + 1 → (bs s)[j]? = some 45 → (bs s)[j + 1]? = some 45 → False) := fun h => Lib.hid (fun j hj h1 h2 => by
        by_cases e : j = k
        · subst e
          rw [G1.out] at h1
          rw [G2.out] at h2
          exact h (Option.some.inj h1) (Option.some.inj h2)
        · exact HA.out j (by omega) h1 h2)
      have HS := Lib.hid step
      clear step
      by_cases h1 : s[k] = 45
      · have z1 : (s[k].toNat : Int) = 45 := by rw [h1]; rfl
        by_cases h2 : s[k + 1] = 45
        · have z2 : (s[k + 1].toNat : Int) = 45 := by rw [h2]; rfl
          clear h1 h2
          go_wp2_with fail
          go_ret
          exact ⟨⟨true, rfl, fun h => by cases h⟩, Below.refl _ _⟩
        · have z2 : ((s[k + 1].toNat : Int) == 45) = false := sz_ne _ 45 h2
          have HE := HS.out fun _ h => h2 h
          clear h1 h2
          go_wp2_with fail
          go_round
          case rel => exact ⟨k + 1, by omega, by go_num, HE⟩
          case measure => simp [intOf]; omega
      · have z1 : ((s[k].toNat : Int) == 45) = false := sz_ne _ 45 h1
        have HE := HS.out fun h _ => h1 h
        clear h1
        go_wp2_with fail
        go_round
        case rel => exact ⟨k + 1, by omega, by go_num, HE⟩
        case measure => simp [intOf]; omega
    · have hlI : ¬ (k : Int) + 1 < (s.size : Int) := by omega
      go_wp2_with fail
      go_ret
      refine ⟨⟨false, rfl, fun _ j h1 h2 => ?_⟩, Below.refl _ _⟩
      have := (List.getElem?_eq_some_iff.1 h2).1
      exact HA.out j (by rw [HL.out] at this; omega) h1 h2
end Go.Proofs.YtfjimoccliejdaaGreatDoor
end
section
namespace Go.Proofs.YtfjimoccliejdaaGreatDoor.Lx

/-- What stands for a blank. -/
def gapV (v : Int) : B := if v = 1 then [32, 32] else if v = 2 then [32, 45, 45, 32, 105, 116, 10] else if v = 3 then [9, 10] else [32]
def spL (L : List Int) : Bool → Nat → B → B
  | _, _, [] => []
  | q, n, c :: r =>
    if c = 32 ∧ q = false ∧ L ≠ [] then gapV (L.getD (n % L.length) 0) ++ spL L q (n + 1) r
    else c :: spL L (if c = 39 then !q else q) n r
theorem gap_len (v : Int) : (gapV v).length ≤ 7 := by
  unfold gapV
  split
  · decide
  split
  · decide
  split <;> decide
theorem sp_len (L : List Int) : ∀ (l : B) (q : Bool) (n : Nat), (spL L q n l).length ≤ 7 * l.length
  | [], _, _ => by simp [spL]
  | c :: r, q, n => by
    rw [spL]
    split
    · have := sp_len L r q (n + 1)
      have := gap_len (L.getD (n % L.length) 0)
      simp only [List.length_append, List.length_cons]
      omega
    · have := sp_len L r (if c = 39 then !q else q) n
      simp only [List.length_cons]
      omega
theorem nr_drop {l : B} (h : NoRem l) (k : Nat) : NoRem (l.drop k) := fun j h1 h2 => by
  rw [List.getElem?_drop] at h1 h2
  exact h (k + j) h1 (by rw [← h2]; rfl)
theorem nr_sk : ∀ {l : B}, NoRem l → ∀ x ∈ l.take (sk false l), blank x = true
  | [], _ => by intro x hx; simp at hx
  | c :: r, h => by
    rw [sk]
    split
    · rename_i hb
      intro x hx
      rw [List.take_succ_cons, List.mem_cons] at hx
      rcases hx with rfl | hx
      · exact hb
      · exact nr_sk (nr_drop h 1) x hx
    split
    · rename_i hc
      exact absurd (h 0 (by rw [hc.1]; rfl) (by cases r with | nil => simp at hc | cons y r => simpa using hc.2)) (by simp)
    · intro x hx; simp at hx
theorem gap_sk (v : Int) (x : B) : sk false (gapV v ++ x) = (gapV v).length + sk false x := by
  unfold gapV
  split
  · simp [sk, blank]; omega
  split
  · simp [sk, blank]; omega
  split
  · simp [sk, blank]; omega
  · simp [sk, blank]; omega
theorem sp_blanks (L : List Int) : ∀ (b : B), (∀ x ∈ b, blank x = true) → ∀ (n : Nat) (r : B), ∃ b' n', spL L false n (b ++ r) = b' ++ spL L false n' r ∧ ∀ x, sk false (b' ++ x) = b'.length + sk false x
  | [], _, n, r => ⟨[], n, rfl, fun x => by simp⟩
  | c :: b, h, n, r => by
    have hc : blank c = true := h c (List.mem_cons_self ..)
    have h39 : c ≠ 39 := by rintro rfl; exact absurd hc (by decide)
    rw [List.cons_append, spL, if_neg h39]
    split
    · obtain ⟨b', n', e, hs⟩ := sp_blanks L b (fun x hx => h x (List.mem_cons_of_mem _ hx)) (n + 1) r
      refine ⟨gapV (L.getD (n % L.length) 0) ++ b', n', by rw [e, List.append_assoc], fun x => ?_⟩
      rw [List.append_assoc, gap_sk, hs, List.length_append]
      omega
    · obtain ⟨b', n', e, hs⟩ := sp_blanks L b (fun x hx => h x (List.mem_cons_of_mem _ hx)) n r
      refine ⟨c :: b', n', by rw [e, List.cons_append], fun x => ?_⟩
      rw [List.cons_append, sk, if_pos hc, hs, List.length_cons]
      omega
theorem sp_keep (L : List Int) (n : Nat) (r : B) : ∀ (w : B), (∀ x ∈ w, x ≠ 32 ∧ x ≠ 39) → spL L false n (w ++ r) = w ++ spL L false n r
  | [], _ => rfl
  | c :: w, h => by
    have hc := h c (List.mem_cons_self ..)
    rw [List.cons_append, spL, if_neg (fun e => hc.1 e.1), if_neg hc.2, sp_keep L n r w fun x hx => h x (List.mem_cons_of_mem _ hx), List.cons_append]
theorem sp_text (L : List Int) (n : Nat) (r : B) : ∀ (s : B), spL L true n (dbl s ++ 39 :: r) = dbl s ++ 39 :: spL L false n r
  | [] => by
    simp only [dbl, List.flatMap_nil, List.nil_append]
    rw [spL, if_neg (by simp), if_pos rfl]; rfl
  | c :: s => by
    have ih := sp_text L n r s
    by_cases hc : c = 39
    · subst hc
      simp only [dbl, List.flatMap_cons, if_true, List.cons_append, List.nil_append] at *
      rw [spL, if_neg (by simp), if_pos rfl, Bool.not_true, spL, if_neg (by simp), if_pos rfl, Bool.not_false, ih]
    · simp only [dbl, List.flatMap_cons, if_neg hc, List.cons_append, List.nil_append] at *
      rw [spL, if_neg (by simp), if_neg hc, ih]
theorem sp_tok (L : List Int) (n : Nat) (r : B) {w : B} {t : Tok} (h : TokOf w t) : spL L false n (w ++ r) = w ++ spL L false n r := by
  cases h with
  | word hw hl ha hn => exact sp_keep L n r w fun x hx => ⟨by rintro rfl; exact absurd (ha _ hx) (by decide), by rintro rfl; exact absurd (ha _ hx) (by decide)⟩
  | num hw ha hn => exact sp_keep L n r w fun x hx => ⟨by rintro rfl; exact absurd (ha _ hx) (by decide), by rintro rfl; exact absurd (ha _ hx) (by decide)⟩
  | @text s hs =>
    have := sp_text L n r s
    rw [show (39 :: (dbl s ++ [39])) ++ r = 39 :: (dbl s ++ 39 :: r) by simp, spL, if_neg (by simp), if_pos rfl, Bool.not_false, this]
    simp
  | sign hs =>
    have : ∀ w ∈ signs, ∀ x ∈ w, x ≠ (32 : UInt8) ∧ x ≠ 39 := by decide
    exact sp_keep L n r w (this w hs)
theorem sp_head (L : List Int) (n : Nat) (r : B) : (spL L false n r).head? = r.head? ∨ (r.head? = some 32 ∧ ((spL L false n r).head? = some 32 ∨ (spL L false n r).head? = some 9)) := by
  cases r with
  | nil => exact .inl rfl
  | cons c r =>
    rw [spL]
    split
    · rename_i h
      refine .inr ⟨by rw [h.1]; rfl, ?_⟩
      unfold gapV
      split
      · exact .inl rfl
      split
      · exact .inl rfl
      split
      · exact .inr rfl
      · exact .inl rfl
    · exact .inl rfl
theorem foll_gap {w : B} {x : UInt8} (h : x = 32 ∨ x = 9) : Foll w (some x) := by
  intro y hy
  obtain rfl : x = y := by simpa using hy
  rcases h with rfl | rfl <;> exact ⟨fun _ => by decide, fun _ => by decide, fun _ => by decide, fun _ => by decide⟩
theorem sk_w {w R : B} {t : Tok} (h : TokOf w t) (hR : w = [45] → R.head? ≠ some 45) : sk false (w ++ R) = 0 := by
  obtain ⟨c, w', rfl, hb, hc⟩ := tok_ne h
  rw [List.cons_append, sk, if_neg (by simp [hb]), if_neg]
  rintro ⟨rfl, hd⟩
  obtain rfl : w' = [] := by simpa using hc rfl
  exact hR rfl hd
theorem sp_toks (L : List Int) {l : B} {a : Nat} {ts : List (Tok × Nat)} {n : Nat} (h : Toks l a ts n) : NoRem l → ∀ k a', ∃ us m, Toks (spL L false k l) a' us m ∧ us.map (·.1) = ts.map (·.1) := by
  induction h with
  | @fin l a hs =>
    intro hn k a'
    have hb := nr_sk hn
    rw [hs, List.take_length] at hb
    obtain ⟨b', n', e, h1⟩ := sp_blanks L l hb k []
    rw [List.append_nil] at e
    have e2 : spL L false k l = b' := by rw [e]; simp [spL]
    rw [e2]
    have h2 := h1 []
    rw [List.append_nil] at h2
    exact ⟨_, _, .fin (by rw [h2]; simp [sk]), rfl⟩
  | @tok l w r a t ts n hd ht hf hr ih =>
    intro hn k a'
    have hnw : NoRem (w ++ r) := by rw [← hd]; exact nr_drop hn _
    have hnr : NoRem r := by have := nr_drop hnw w.length; rwa [List.drop_left] at this
    have hl : l = l.take (sk false l) ++ (w ++ r) := by rw [← hd, List.take_append_drop]
    obtain ⟨b', n', e, h1⟩ := sp_blanks L (l.take (sk false l)) (nr_sk hn) k (w ++ r)
    rw [← hl, sp_tok L n' r ht] at e
    obtain ⟨us, m, h2, h3⟩ := ih hnr n' (a' + b'.length + w.length)
    have h45 : w = [45] → (spL L false n' r).head? ≠ some 45 := by
      rintro rfl h
      rcases sp_head L n' r with e | ⟨_, e | e⟩
      · rw [e] at h
        exact hnw 0 rfl (by cases r with | nil => simp at h | cons y r => simpa using h)
      · rw [e] at h; exact absurd h (by decide)
      · rw [e] at h; exact absurd h (by decide)
    have hs : sk false (spL L false k l) = b'.length := by rw [e, h1, sk_w ht h45, Nat.add_zero]
    refine ⟨(t, a' + b'.length) :: us, m, ?_, by rw [List.map_cons, List.map_cons, h3]⟩
    rw [← hs]
    refine .tok (w := w) (r := spL L false n' r) ?_ ht ?_ (by rw [hs]; exact h2)
    · rw [hs, e, List.drop_left]
    · rcases sp_head L n' r with e | ⟨_, e | e⟩
      · rw [e]; exact hf
      · rw [e]; exact foll_gap (.inl rfl)
      · rw [e]; exact foll_gap (.inr rfl)
end Go.Proofs.YtfjimoccliejdaaGreatDoor.Lx
end
section
namespace Go.Proofs.YtfjimoccliejdaaGreatDoor

theorem sp_whR {α : Type} {f : Pa.Ps → α × Pa.Ps} (hf : Pa.NZ f) (chk : α → Bool) {l : Lx.B} {x : α} (L : List Int) (hn : NoRem l) (h : whR f chk l = .ok x) : whR f chk (Lx.spL L false 0 l) = .ok x := by
  unfold whR at h ⊢
  cases hl : Lx.lx (l.length + 1) l 0 0 with
  | bad n k => rw [hl] at h; cases h
  | ok ts n =>
    rw [hl] at h
    obtain ⟨h1, h2⟩ := Lx.toks_of _ _ _ _ _ _ (by omega) hl
    obtain ⟨us, m, h3, h4⟩ := Lx.sp_toks L h1 hn 0 0
    have hlen : us.length = ts.length := by have := congrArg List.length h4; simpa using this
    rw [Lx.toks_lx h3 _ 0 (by omega) (by omega)]
    obtain ⟨e1, e2, e3⟩ := Pa.nz_of hf h4
    simp only at h ⊢
    rw [e1, e2, e3]
    split at h
    · cases h
    · rename_i hc
      rw [if_neg hc]
      split at h
      · rename_i hk; rw [if_pos hk]; exact h
      · cases h
end Go.Proofs.YtfjimoccliejdaaGreatDoor
end
section
namespace Go.Proofs.YtfjimoccliejdaaGreatDoor
open Go.RowKit Go.Shelf

/-- Ints in memory. -/
def InP (w : World) (A : Option Addr) (l : List Int) : Prop := l = [] ∨ ∃ g o, A = some ⟨g, o, none⟩ ∧ g < w.heap.size ∧ ∀ (j : Nat) v, l[j]? = some v → w.cell? ⟨g, o + j, none⟩ = some (.int .i64 v)
theorem Said.more {base : Nat} {W1 W : World} {v : Value} {said : Lx.B} (h : Said base W1 W v said) (t : Lx.B) {v' : Value} {w' : World} (ho : w'.ownsRow base 5 1 v' (said.length + t.length) (u8s said ++ u8s t)) (hg : W.grownBy w' v.ownBlock) : Said base W1 w' v' (said ++ t) := by
  have hle := h.le
  have hs := hg.size
  refine ⟨by simpa using ho, h.bel.trans ((Below.refl base W).grown hg hle (fun k hk => (h.own.lt k hk).1)), by omega⟩
theorem Said.more1 {base : Nat} {W1 W : World} {v : Value} {said : Lx.B} (h : Said base W1 W v said) (t : Lx.B) {o : Obj} {v' : Value} {w' : World} (ho : w'.ownsRow base 5 1 v' (said.length + t.length) (u8s said ++ u8s t)) (hg : (W.alloc o).grownBy w' v.ownBlock) : Said base W1 w' v' (said ++ t) := by
  have hle := h.le
  have hs := hg.size
  rw [World.size_alloc] at hs
  refine ⟨by simpa using ho, h.bel.trans (((Below.refl base W).alloc hle _).trans ((Below.refl base (W.alloc o)).grown hg (by rw [World.size_alloc]; omega) (fun k hk => (h.own.lt k hk).1))), by omega⟩
theorem sp_keep1 (L : List Int) {q : Bool} {n : Nat} {c : UInt8} {r : Lx.B} (h : c ≠ 32 ∨ q = true ∨ L = []) (h39 : c ≠ 39) : Lx.spL L q n (c :: r) = c :: Lx.spL L q n r := by
  rw [Lx.spL, if_neg (fun e => by
    rcases h with h | h | h
    · exact h e.1
    · rw [h] at e; cases e.2.1
    · exact e.2.2 h), if_neg h39]
theorem sp_quote (L : List Int) {q : Bool} {n : Nat} {r : Lx.B} : Lx.spL L q n (39 :: r) = 39 :: Lx.spL L (!q) n r := by rw [Lx.spL, if_neg (by simp), if_pos rfl]
theorem sp_gap (L : List Int) {n : Nat} {r : Lx.B} (hL : L ≠ []) {v : Int} (hv : L.getD (n % L.length) 0 = v) : Lx.spL L false n (32 :: r) = Lx.gapV v ++ Lx.spL L false (n + 1) r := by rw [Lx.spL, if_pos ⟨rfl, rfl, hL⟩, hv]
set_option maxRecDepth 100000 in
set_option maxHeartbeats 4000000 in
theorem spaced_any (s : ByteArray) (L : List Int) (A : Option Addr) (c : Nat) (w : World) (hL : InP w A L) (hs : s.size ≤ 2000) (hn : L.length ≤ 50) :
    Calls Tryz.prog 15 #[.string s, .slice A L.length c] w fun e w' => e = .returned (.string ⟨(Lx.spL L false 0 (bs s)).toArray⟩) ∧ Below w.heap.size w w' := by
  obtain ⟨i0, hi, hz0, hz1, hz2⟩ := infoX_parts info_byte
  obtain ⟨R, hR⟩ : ∃ R, Lx.spL L false 0 (bs s) = R := ⟨_, rfl⟩
  rw [hR]
  have HR := Lib.hid hR
  have HL := Lib.hid hL
  clear hR hL
  go_enter Tryz.func15, Tryz.ntmps15
  go_wp2_with fail
  go_loopw [8, 5, 6, 7] (fun i v qv nv W => ∃ (k n : Nat) (q : Bool) (said : Lx.B), k ≤ s.size ∧ n ≤ k ∧ said.length ≤ 7 * k ∧ i = .int .i64 k ∧ nv = .int .i64 n ∧ qv = .bool q ∧ Hid (Said w.heap.size w W v said) ∧ Hid (said ++ Lx.spL L q n ((bs s).drop k) = R)) (fun i _ _ _ _ => s.size - (intOf i).toNat)
  case atStart => exact ⟨0, 0, false, [], Nat.zero_le _, Nat.le_refl _, by simp, rfl, rfl, rfl, Lib.hid ⟨World.ownsRow_nil _ _ _ _, Below.refl _ _, Nat.le_refl _⟩, Lib.hid (by rw [List.nil_append, List.drop_zero]; exact HR.out)⟩
  case round =>
    obtain ⟨k, n, q, said, hk, hnk, hl, rfl, rfl, rfl, HS, HQ⟩ := hrel
    obtain ⟨A', cap, hv⟩ := HS.out.slice
    subst hv
    by_cases hkn : k < s.size
    · have hD := bs_drop s k hkn
      have hkI : (k : Int) < (s.size : Int) := by omega
      by_cases h39 : s[k] = 39
      · have hc39 : ((s[k].toNat : Int) == 39) = true := by rw [h39]; rfl
        have hc32 : ((s[k].toNat : Int) != 32) = true := by rw [h39]; rfl
        have HN := Lib.hid (show (said ++ [s[k]]) ++ Lx.spL L (!q) n ((bs s).drop (k + 1)) = R by rw [← HQ.out, hD, h39, sp_quote]; simp)
        clear hD h39
        go_wp2_with (at_builtin; refine wpList_append_own _ rfl _ _ 78 rfl w.heap.size 5 i0 (.int .u8 0) 1 1 Tryz.underlying78 hi hz0 hz1 hz2 rfl (by decide) _ _ _ rfl (HS.out.own.alloc _) ⟨wr.heap.size, 0, none⟩ 1 1 [.int .u8 (s[k].toNat : Int)] rfl rfl ?c1 ?c2 ?c3 ?c4 ?c5 ?_)
        case c1 =>
          intro j u hj
          match j, hj with
          | 0, hj => simp at hj; subst hj; simp [Addr.add]
        case c2 => intro u hu; simp at hu; subst hu; rfl
        case c3 => unfold maxLen; omega
        case c4 => omega
        case c5 => have := HS.out.le; simp; omega
        intro v' w1 hown' hg _
        have HG := Lib.hid (HS.out.more1 [s[k]] hown' hg)
        clear hown' hg
        go_wp2_with fail
        go_roundw
        case rel =>
          first
            | exact ⟨k + 1, n, (!q), said ++ [s[k]], by omega, by omega, by simp; omega, by go_num, rfl, rfl, HG, HN⟩
            | ((repeat apply Exists.intro); exact ⟨⟨k + 1, n, (!q), said ++ [s[k]], by omega, by omega, by simp; omega, by go_num, rfl, rfl, HG, HN⟩, rfl⟩)
        case measure => simp [intOf]; omega
      have hc39 : ((s[k].toNat : Int) == 39) = false := sz_ne _ 39 h39
      by_cases h32 : s[k] = 32
      · have hc32 : ((s[k].toNat : Int) != 32) = false := by rw [h32]; rfl
        cases q with
        | true =>
          have HN := Lib.hid (show (said ++ [s[k]]) ++ Lx.spL L true n ((bs s).drop (k + 1)) = R by rw [← HQ.out, hD, sp_keep1 L (.inr (.inl rfl)) h39]; simp)
          clear hD h39 h32
          go_wp2_with (at_builtin; refine wpList_append_own _ rfl _ _ 78 rfl w.heap.size 5 i0 (.int .u8 0) 1 1 Tryz.underlying78 hi hz0 hz1 hz2 rfl (by decide) _ _ _ rfl (HS.out.own.alloc _) ⟨wr.heap.size, 0, none⟩ 1 1 [.int .u8 (s[k].toNat : Int)] rfl rfl ?c1 ?c2 ?c3 ?c4 ?c5 ?_)
          case c1 =>
            intro j u hj
            match j, hj with
            | 0, hj => simp at hj; subst hj; simp [Addr.add]
          case c2 => intro u hu; simp at hu; subst hu; rfl
          case c3 => unfold maxLen; omega
          case c4 => omega
          case c5 => have := HS.out.le; simp; omega
          intro v' w1 hown' hg _
          have HG := Lib.hid (HS.out.more1 [s[k]] hown' hg)
          clear hown' hg
          go_wp2_with fail
          go_roundw
          case rel =>
            first
              | exact ⟨k + 1, n, true, said ++ [s[k]], by omega, by omega, by simp; omega, by go_num, rfl, rfl, HG, HN⟩
              | ((repeat apply Exists.intro); exact ⟨⟨k + 1, n, true, said ++ [s[k]], by omega, by omega, by simp; omega, by go_num, rfl, rfl, HG, HN⟩, rfl⟩)
          case measure => simp [intOf]; omega
        | false =>
          by_cases hL0 : L = []
          · have hl0 : ((L.length : Int) == 0) = true := by rw [hL0]; rfl
            have HN := Lib.hid (show (said ++ [s[k]]) ++ Lx.spL L false n ((bs s).drop (k + 1)) = R by rw [← HQ.out, hD, sp_keep1 L (.inr (.inr hL0)) h39]; simp)
            clear hD h39 h32 hL0
            go_wp2_with (at_builtin; refine wpList_append_own _ rfl _ _ 78 rfl w.heap.size 5 i0 (.int .u8 0) 1 1 Tryz.underlying78 hi hz0 hz1 hz2 rfl (by decide) _ _ _ rfl (HS.out.own.alloc _) ⟨wr.heap.size, 0, none⟩ 1 1 [.int .u8 (s[k].toNat : Int)] rfl rfl ?c1 ?c2 ?c3 ?c4 ?c5 ?_)
            case c1 =>
              intro j u hj
              match j, hj with
              | 0, hj => simp at hj; subst hj; simp [Addr.add]
            case c2 => intro u hu; simp at hu; subst hu; rfl
            case c3 => unfold maxLen; omega
            case c4 => omega
            case c5 => have := HS.out.le; simp; omega
            intro v' w1 hown' hg _
            have HG := Lib.hid (HS.out.more1 [s[k]] hown' hg)
            clear hown' hg
            go_wp2_with fail
            go_roundw
            case rel =>
              first
                | exact ⟨k + 1, n, false, said ++ [s[k]], by omega, by omega, by simp; omega, by go_num, rfl, rfl, HG, HN⟩
                | ((repeat apply Exists.intro); exact ⟨⟨k + 1, n, false, said ++ [s[k]], by omega, by omega, by simp; omega, by go_num, rfl, rfl, HG, HN⟩, rfl⟩)
            case measure => simp [intOf]; omega
          have hl0 : ((L.length : Int) == 0) = false := by cases L with | nil => exact absurd rfl hL0 | cons x r => rw [List.length_cons, beq_eq_false_iff_ne]; omega
          have hlp : 0 < L.length := List.length_pos_iff.2 hL0
          have hmod : (n : Int).tmod (L.length : Int) = ((n % L.length : Nat) : Int) := by rw [Int.tmod_eq_emod_of_nonneg (by omega)]; rfl
          have hml := Nat.mod_lt n hlp
          obtain ⟨m, hm⟩ : ∃ m, n % L.length = m := ⟨_, rfl⟩
          obtain ⟨v, hv⟩ : ∃ v, L.getD (n % L.length) 0 = v := ⟨_, rfl⟩
          rw [hm] at hmod hml
          have HV := Lib.hid hv
          obtain ⟨g, o, rfl, hvc⟩ : ∃ g o, A = some ⟨g, o, none⟩ ∧ wr.cell? ⟨g, o + m, none⟩ = some (.int .i64 v) := by
            rcases HL.out with h | ⟨g, o, rfl, hg, hc⟩
            · exact absurd h hL0
            · refine ⟨g, o, rfl, (World.cell?_of_block (HS.out.bel.block g hg)).trans (hc m v ?_)⟩
              rw [← hv, hm, List.getD_eq_getElem?_getD, List.getElem?_eq_getElem hml]; rfl
          have hmlI : (m : Int) < (L.length : Int) := by omega
          have HL0 := Lib.hid hL0
          have hnz : ((L.length : Int)) ≠ 0 := by omega
          by_cases hv1 : v = 1
          · have hvb : (v == 1) = true := by rw [hv1]; rfl
            have HN := Lib.hid (show (said ++ [32, 32]) ++ Lx.spL L false (n + 1) ((bs s).drop (k + 1)) = R by rw [← HQ.out, hD, h32, sp_gap L HL0.out HV.out, show Lx.gapV v = [32, 32] by unfold Lx.gapV;  rw [if_pos hv1]]; simp)
            clear hD h39 h32 hv hm hL0
            clear hv1
            go_wp2_with (at_builtin; refine Lib.wpList_append_own_string _ rfl _ _ 78 9 rfl w.heap.size 5 i0 Tryz.underlying78 Tryz.underlying9 hi hz0 hz1 hz2 _ _ _ rfl HS.out.own ⟨#[32, 32]⟩ rfl ?c3 ?c4 ?c5 ?_)
            case c3 => unfold maxLen; simp [ByteArray.size]; omega
            case c4 => simp [ByteArray.size]; omega
            case c5 => exact HS.out.le
            intro v' w1 hown' hg _
            have HG := Lib.hid (HS.out.more [32, 32] hown' hg)
            clear hown' hg
            go_wp2_with fail
            go_roundw
            case rel =>
              first
                | exact ⟨k + 1, (n + 1), false, said ++ [32, 32], by omega, by omega, by simp; omega, by go_num, by go_num, rfl, HG, HN⟩
                | ((repeat apply Exists.intro); exact ⟨⟨k + 1, (n + 1), false, said ++ [32, 32], by omega, by omega, by simp; omega, by go_num, by go_num, rfl, HG, HN⟩, rfl⟩)
            case measure => simp [intOf]; omega
          by_cases hv2 : v = 2
          · have hvb : (v == 2) = true := by rw [hv2]; rfl
            have hvn1 : (v == 1) = false := beq_eq_false_iff_ne.2 hv1
            have HN := Lib.hid (show (said ++ [32, 45, 45, 32, 105, 116, 10]) ++ Lx.spL L false (n + 1) ((bs s).drop (k + 1)) = R by rw [← HQ.out, hD, h32, sp_gap L HL0.out HV.out, show Lx.gapV v = [32, 45, 45, 32, 105, 116, 10] by unfold Lx.gapV; rw [if_neg hv1]; rw [if_pos hv2]]; simp)
            clear hD h39 h32 hv hm hL0
            clear hv1 hv2
            go_wp2_with (at_builtin; refine Lib.wpList_append_own_string _ rfl _ _ 78 9 rfl w.heap.size 5 i0 Tryz.underlying78 Tryz.underlying9 hi hz0 hz1 hz2 _ _ _ rfl HS.out.own ⟨#[32, 45, 45, 32, 105, 116, 10]⟩ rfl ?c3 ?c4 ?c5 ?_)
            case c3 => unfold maxLen; simp [ByteArray.size]; omega
            case c4 => simp [ByteArray.size]; omega
            case c5 => exact HS.out.le
            intro v' w1 hown' hg _
            have HG := Lib.hid (HS.out.more [32, 45, 45, 32, 105, 116, 10] hown' hg)
            clear hown' hg
            go_wp2_with fail
            go_roundw
            case rel =>
              first
                | exact ⟨k + 1, (n + 1), false, said ++ [32, 45, 45, 32, 105, 116, 10], by omega, by omega, by simp; omega, by go_num, by go_num, rfl, HG, HN⟩
                | ((repeat apply Exists.intro); exact ⟨⟨k + 1, (n + 1), false, said ++ [32, 45, 45, 32, 105, 116, 10], by omega, by omega, by simp; omega, by go_num, by go_num, rfl, HG, HN⟩, rfl⟩)
            case measure => simp [intOf]; omega
          by_cases hv3 : v = 3
          · have hvb : (v == 3) = true := by rw [hv3]; rfl
            have hvn1 : (v == 1) = false := beq_eq_false_iff_ne.2 hv1
            have hvn2 : (v == 2) = false := beq_eq_false_iff_ne.2 hv2
            have HN := Lib.hid (show (said ++ [9, 10]) ++ Lx.spL L false (n + 1) ((bs s).drop (k + 1)) = R by rw [← HQ.out, hD, h32, sp_gap L HL0.out HV.out, show Lx.gapV v = [9, 10] by unfold Lx.gapV; rw [if_neg hv1]; rw [if_neg hv2]; rw [if_pos hv3]]; simp)
            clear hD h39 h32 hv hm hL0
            clear hv1 hv2 hv3
            go_wp2_with (at_builtin; refine wpList_append_own _ rfl _ _ 78 rfl w.heap.size 5 i0 (.int .u8 0) 1 1 Tryz.underlying78 hi hz0 hz1 hz2 rfl (by decide) _ _ _ rfl (HS.out.own.alloc _) ⟨wr.heap.size, 0, none⟩ 2 2 [.int .u8 9, .int .u8 10] rfl rfl ?c1 ?c2 ?c3 ?c4 ?c5 ?_)
            case c1 =>
              intro j u hj
              match j, hj with
              | 0, hj => simp at hj; subst hj; simp [Addr.add]
              | 1, hj => simp at hj; subst hj; simp [Addr.add]
              | j + 2, hj => simp at hj
            case c2 => intro u hu; simp at hu; rcases hu with rfl | rfl <;> rfl
            case c3 => unfold maxLen; omega
            case c4 => omega
            case c5 => have := HS.out.le; simp; omega
            intro v' w1 hown' hg _
            have HG := Lib.hid (HS.out.more1 [9, 10] hown' hg)
            clear hown' hg
            go_wp2_with fail
            go_roundw
            case rel =>
              first
                | exact ⟨k + 1, (n + 1), false, said ++ [9, 10], by omega, by omega, by simp; omega, by go_num, by go_num, rfl, HG, HN⟩
                | ((repeat apply Exists.intro); exact ⟨⟨k + 1, (n + 1), false, said ++ [9, 10], by omega, by omega, by simp; omega, by go_num, by go_num, rfl, HG, HN⟩, rfl⟩)
            case measure => simp [intOf]; omega
          have hvn1 : (v == 1) = false := beq_eq_false_iff_ne.2 hv1
          have hvn2 : (v == 2) = false := beq_eq_false_iff_ne.2 hv2
          have hvn3 : (v == 3) = false := beq_eq_false_iff_ne.2 hv3
          have HN := Lib.hid (show (said ++ [32]) ++ Lx.spL L false (n + 1) ((bs s).drop (k + 1)) = R by rw [← HQ.out, hD, h32, sp_gap L HL0.out HV.out, show Lx.gapV v = [32] by unfold Lx.gapV; rw [if_neg hv1, if_neg hv2, if_neg hv3]]; simp)
          clear hD h39 h32 hv hm hL0
          clear hv1 hv2 hv3
          go_wp2_with (at_builtin; refine wpList_append_own _ rfl _ _ 78 rfl w.heap.size 5 i0 (.int .u8 0) 1 1 Tryz.underlying78 hi hz0 hz1 hz2 rfl (by decide) _ _ _ rfl (HS.out.own.alloc _) ⟨wr.heap.size, 0, none⟩ 1 1 [.int .u8 32] rfl rfl ?c1 ?c2 ?c3 ?c4 ?c5 ?_)
          case c1 =>
            intro j u hj
            match j, hj with
            | 0, hj => simp at hj; subst hj; simp [Addr.add]
          case c2 => intro u hu; simp at hu; subst hu; rfl
          case c3 => unfold maxLen; omega
          case c4 => omega
          case c5 => have := HS.out.le; simp; omega
          intro v' w1 hown' hg _
          have HG := Lib.hid (HS.out.more1 [32] hown' hg)
          clear hown' hg
          go_wp2_with fail
          go_roundw
          case rel =>
            first
              | exact ⟨k + 1, (n + 1), false, said ++ [32], by omega, by omega, by simp; omega, by go_num, by go_num, rfl, HG, HN⟩
              | ((repeat apply Exists.intro); exact ⟨⟨k + 1, (n + 1), false, said ++ [32], by omega, by omega, by simp; omega, by go_num, by go_num, rfl, HG, HN⟩, rfl⟩)
          case measure => simp [intOf]; omega
      have hc32 : ((s[k].toNat : Int) != 32) = true := by
        have hq : ((s[k].toNat : Int) == 32) = false := sz_ne _ 32 h32
        unfold bne; rw [hq]; rfl
      have HN := Lib.hid (show (said ++ [s[k]]) ++ Lx.spL L q n ((bs s).drop (k + 1)) = R by rw [← HQ.out, hD, sp_keep1 L (.inl h32) h39]; simp)
      clear hD h39
      go_wp2_with (at_builtin; refine wpList_append_own _ rfl _ _ 78 rfl w.heap.size 5 i0 (.int .u8 0) 1 1 Tryz.underlying78 hi hz0 hz1 hz2 rfl (by decide) _ _ _ rfl (HS.out.own.alloc _) ⟨wr.heap.size, 0, none⟩ 1 1 [.int .u8 (s[k].toNat : Int)] rfl rfl ?c1 ?c2 ?c3 ?c4 ?c5 ?_)
      case c1 =>
        intro j u hj
        match j, hj with
        | 0, hj => simp at hj; subst hj; simp [Addr.add]
      case c2 => intro u hu; simp at hu; subst hu; rfl
      case c3 => unfold maxLen; omega
      case c4 => omega
      case c5 => have := HS.out.le; simp; omega
      intro v' w1 hown' hg _
      have HG := Lib.hid (HS.out.more1 [s[k]] hown' hg)
      clear hown' hg
      go_wp2_with fail
      go_roundw
      case rel =>
        first
          | exact ⟨k + 1, n, q, said ++ [s[k]], by omega, by omega, by simp; omega, by go_num, rfl, rfl, HG, HN⟩
          | ((repeat apply Exists.intro); exact ⟨⟨k + 1, n, q, said ++ [s[k]], by omega, by omega, by simp; omega, by go_num, rfl, rfl, HG, HN⟩, rfl⟩)
      case measure => simp [intOf]; omega
    · have hkI : ¬ (k : Int) < (s.size : Int) := by omega
      have HE := Lib.hid (show said = R by rw [← HQ.out, List.drop_eq_nil_iff.2 (by rw [bs_len]; omega), Lx.spL, List.append_nil])
      have hstr := HS.out.str
      go_wp2_with fail
      go_ret
      exact ⟨by rw [HE.out]; rfl, HS.out.bel⟩
end Go.Proofs.YtfjimoccliejdaaGreatDoor
end
section
namespace Go.Proofs.YtfjimoccliejdaaGreatDoor
open Go.RowKit Go.Shelf

theorem InP.kept {w w' : World} {A : Option Addr} {l : List Int} (h : InP w A l) (hb : Below w.heap.size w w') : InP w' A l := by
  rcases h with h | ⟨g, o, rfl, hg, h⟩
  · exact .inl h
  · exact .inr ⟨g, o, rfl, Nat.lt_of_lt_of_le hg hb.size, fun j v hv => (World.cell?_of_block (hb.block g hg)).trans (h j v hv)⟩
theorem quC_nxt {w w' : World} {x : Pa.Qu} {c : List Value} (h : quC (Ab w) w x c) (hb : Below w.heap.size w w') : quC (Ab w') w' x c :=
  quC_go (fun k hk => hb.block k hk) (fun _ hk => Nat.lt_of_lt_of_le hk hb.size) h
/-- What the program's Parse answers, told for callers. -/
theorem parse_ok {s : ByteArray} {W : World} (hs : s.size ≤ 16384) (hT : LvT W) {q : Pa.Qu} (hq : whR (Pa.queryP (Pa.lev 40008 0)) isQuB (bs s) = .ok q) :
    Calls Tryz.prog 7 #[.string s] W fun e w' => ∃ (pA oA : Option Addr) (pc oc : Nat), e = .returned (.tuple #[.agg #[.slice pA q.parts.length pc, .slice oA q.order.length oc, .int .i64 q.lim], .int .i64 0, .int .i64 0]) ∧ quC (Ab w') w' q [.slice pA q.parts.length pc, .slice oA q.order.length oc, .int .i64 q.lim] ∧ Below W.heap.size W w' := by
  have h := pparse_any s W hs hT.t hT.o
  rw [hq] at h
  refine h.mono fun e w' hE => ?_
  obtain ⟨c, rfl, hC, hb⟩ := hE
  have hC2 := quC_go (B' := Ab w') (fun _ _ => rfl) (fun k hk => hk.2) hC
  obtain ⟨pA, oA, pc, oc, rfl, hl, _⟩ := hC
  exact ⟨pA, oA, pc, oc, rfl, hC2, hb⟩
theorem parse_bad {s : ByteArray} {W : World} (hs : s.size ≤ 16384) (hT : LvT W) {n k : Nat} (hq : whR (Pa.queryP (Pa.lev 40008 0)) isQuB (bs s) = .bad n k) :
    Calls Tryz.prog 7 #[.string s] W fun e w' => e = .returned (.tuple #[.agg #[.slice none 0 0, .slice none 0 0, .int .i64 0], .int .i64 n, .int .i64 k]) ∧ Below W.heap.size W w' := by
  have h := pparse_any s W hs hT.t hT.o
  rw [hq] at h
  exact h
/-- An error is no 0. -/
theorem whR_bad_k {α : Type} {f : Pa.Ps → α × Pa.Ps} {chk : α → Bool} {l : Lx.B} {n k : Nat} (h : whR f chk l = .bad n k) : k ≠ 0 := by
  unfold whR at h
  cases hl : Lx.lx (l.length + 1) l 0 0 with
  | bad n' k' =>
    rw [hl] at h
    cases h
    rcases lx_bad_k _ _ _ _ _ _ (Nat.lt_succ_self _) hl with h | h <;> omega
  | ok ts n' =>
    rw [hl] at h
    simp only at h
    split at h
    · cases h; decide
    · split at h
      · cases h
      · cases h; decide
set_option maxRecDepth 100000 in
set_option maxHeartbeats 8000000 in
theorem blanks_walk (s : ByteArray) (L : List Int) (A : Option Addr) (c : Nat) (w : World) (hL : InP w A L) (hT : LvT w) :
    Calls Tryz.prog 5 #[.string s, .slice A L.length c] w fun e w' => e = .returned (.bool true) ∧ Below w.heap.size w w' := by
  have HLv := Lib.hid (fun W (hb : Below w.heap.size w W) => lives11_yes W (hT.kept hb))
  have HR := Lib.hid (Below.refl w.heap.size w)
  have HI := Lib.hid hL
  have HT := Lib.hid hT
  clear hL hT
  by_cases h1 : (2000 : Int) < (s.size : Int)
  · go_enter Tryz.func5, Tryz.ntmps5
    go_wp2_with fail
    refine (HLv.out _ HR.out).mono ?_
    rintro e w9 ⟨rfl, hB⟩
    have HB9 := Lib.hid (bt HR.out hB)
    clear hB
    go_wp2_with fail
    go_ret
    exact ⟨rfl, HB9.out⟩
  by_cases h2 : (50 : Int) < (L.length : Int)
  · go_enter Tryz.func5, Tryz.ntmps5
    go_wp2_with fail
    refine (HLv.out _ HR.out).mono ?_
    rintro e w9 ⟨rfl, hB⟩
    have HB9 := Lib.hid (bt HR.out hB)
    clear hB
    go_wp2_with fail
    go_ret
    exact ⟨rfl, HB9.out⟩
  have HM := Lib.hid (remark_any s w (by omega))
  go_enter Tryz.func5, Tryz.ntmps5
  go_wp2_with fail
  refine HM.out.mono ?_
  rintro e w1 ⟨⟨b, rfl, hb⟩, hB⟩
  have HB1 := Lib.hid hB
  have HN := Lib.hid hb
  clear hB hb
  cases b with
  | true =>
    go_wp2_with fail
    refine (HLv.out _ HB1.out).mono ?_
    rintro e w9 ⟨rfl, hB⟩
    have HB9 := Lib.hid (bt HB1.out hB)
    clear hB
    go_wp2_with fail
    go_ret
    exact ⟨rfl, HB9.out⟩
  | false =>
  have HT1 := Lib.hid (HT.out.kept HB1.out)
  have HNr := Lib.hid (HN.out rfl)
  have HS := Lib.hid (show s.size ≤ 2000 by omega)
  have HL50 := Lib.hid (show L.length ≤ 50 by omega)
  cases hq : whR (Pa.queryP (Pa.lev 40008 0)) isQuB (bs s) with
  | bad n k =>
    have HP := Lib.hid (parse_bad (W := w1) (Nat.le_trans HS.out (by decide)) HT1.out hq)
    have hk : ((k : Int) != 0) = true := by
      have := whR_bad_k hq
      rw [bne_iff_ne]; omega
    clear hq
    go_wp2_with fail
    refine HP.out.mono ?_
    rintro e w2 ⟨rfl, hB⟩
    have HB2 := Lib.hid (bt HB1.out (bt hB (ba w2 (.cells #[.slice none 0 0, .slice none 0 0, .int .i64 0] 26))))
    clear hB
    go_wp2_with fail
    refine (HLv.out _ HB2.out).mono ?_
    rintro e w3 ⟨rfl, hB⟩
    have HB3 := Lib.hid (bt HB2.out hB)
    clear hB
    go_wp2_with fail
    refine (HLv.out _ HB3.out).mono ?_
    rintro e w9 ⟨rfl, hB⟩
    have HB9 := Lib.hid (bt HB3.out hB)
    clear hB
    go_wp2_with fail
    go_ret
    exact ⟨rfl, HB9.out⟩
  | ok q =>
    have HP := Lib.hid (parse_ok (W := w1) (Nat.le_trans HS.out (by decide)) HT1.out hq)
    have HG := Lib.hid (whR_gd hq)
    have HQ2 := Lib.hid (show whR (Pa.queryP (Pa.lev 40008 0)) isQuB (bs ⟨(Lx.spL L false 0 (bs s)).toArray⟩) = .ok q by rw [bs_arr]; exact sp_whR (Pa.nz_query (Pa.nz_lev 40008 0)) isQuB L HNr.out hq)
    have HS2 := Lib.hid (show (⟨(Lx.spL L false 0 (bs s)).toArray⟩ : ByteArray).size ≤ 16384 by
      have h := Lx.sp_len L (bs s) false 0
      rw [bs_len] at h
      have h2 := HS.out
      have h3 : (⟨(Lx.spL L false 0 (bs s)).toArray⟩ : ByteArray).size = (Lx.spL L false 0 (bs s)).length := by rw [← bs_len, bs_arr]
      omega)
    clear hq
    go_wp2_with fail
    refine HP.out.mono ?_
    rintro e w2 ⟨p1, o1, pc1, oc1, rfl, hC, hB⟩
    have hbx := ba w2 (.cells #[.slice p1 q.parts.length pc1, .slice o1 q.order.length oc1, .int .i64 q.lim] 26)
    have HU := Lib.hid (show BxU _ w2.heap.size #[.slice p1 q.parts.length pc1, .slice o1 q.order.length oc1, .int .i64 q.lim] 26 from (MapKept.heap_alloc w2 (.cells #[.slice p1 q.parts.length pc1, .slice o1 q.order.length oc1, .int .i64 q.lim] 26)).1)
    have HB2 := Lib.hid (bt HB1.out (bt hB hbx))
    have HC := Lib.hid (quC_nxt hC hbx)
    clear hB hC hbx
    go_upto_region 4 with fail
    generalize w2.alloc (.cells #[.slice p1 q.parts.length pc1, .slice o1 q.order.length oc1, .int .i64 q.lim] 26) = W2 at HU HB2 HC ⊢
    generalize w2.heap.size = U at HU ⊢
    go_wp2_with fail
    refine (HLv.out _ HB2.out).mono ?_
    rintro e w3 ⟨rfl, hB⟩
    have HB3 := Lib.hid (bt HB2.out hB)
    have HU3 := Lib.hid (HU.out.next hB)
    have HC3 := Lib.hid (quC_nxt HC.out hB)
    have HSp := Lib.hid (spaced_any s L A c w3 (HI.out.kept HB3.out) HS.out HL50.out)
    clear hB
    go_wp2_with fail
    refine HSp.out.mono ?_
    rintro e w4 ⟨rfl, hB⟩
    have HB4 := Lib.hid (bt HB3.out hB)
    have HU4 := Lib.hid (HU3.out.next hB)
    have HC4 := Lib.hid (quC_nxt HC3.out hB)
    have HP4 := Lib.hid (parse_ok HS2.out (HT.out.kept HB4.out) HQ2.out)
    clear hB
    go_wp2_with fail
    refine HP4.out.mono ?_
    rintro e w5 ⟨p2, o2, pc2, oc2, rfl, hC, hB⟩
    have hbx := ba w5 (.cells #[.slice p2 q.parts.length pc2, .slice o2 q.order.length oc2, .int .i64 q.lim] 26)
    have HV := Lib.hid (show BxU _ w5.heap.size #[.slice p2 q.parts.length pc2, .slice o2 q.order.length oc2, .int .i64 q.lim] 26 from (MapKept.heap_alloc w5 (.cells #[.slice p2 q.parts.length pc2, .slice o2 q.order.length oc2, .int .i64 q.lim] 26)).1)
    have HB5 := Lib.hid (bt HB4.out (bt hB hbx))
    have HU5 := Lib.hid (HU4.out.next (bt hB hbx))
    have HC5 := Lib.hid (quC_nxt HC4.out (bt hB hbx))
    have HD5 := Lib.hid (quC_nxt hC hbx)
    clear hB hC hbx
    go_upto_region 7 with fail
    generalize w5.alloc (.cells #[.slice p2 q.parts.length pc2, .slice o2 q.order.length oc2, .int .i64 q.lim] 26) = W5 at HV HB5 HU5 HC5 HD5 ⊢
    generalize w5.heap.size = V at HV ⊢
    have u0 : W5.cell? ⟨U, 0, none⟩ = some (.slice p1 q.parts.length pc1) := HU5.out.cell 0
    have u1 : W5.cell? ⟨U, 1, none⟩ = some (.slice o1 q.order.length oc1) := HU5.out.cell 1
    have u2 : W5.cell? ⟨U, 2, none⟩ = some (.int .i64 q.lim) := HU5.out.cell 2
    have v0 : W5.cell? ⟨V, 0, none⟩ = some (.slice p2 q.parts.length pc2) := HV.out.cell 0
    have v1 : W5.cell? ⟨V, 1, none⟩ = some (.slice o2 q.order.length oc2) := HV.out.cell 1
    have v2 : W5.cell? ⟨V, 2, none⟩ = some (.int .i64 q.lim) := HV.out.cell 2
    go_wp2_with fail
    refine (lawSame_any q _ _ W5 HC5.out HD5.out HG.out.1 HG.out.2).mono ?_
    rintro e w6 ⟨rfl, hB⟩
    have HB6 := Lib.hid (bt HB5.out hB)
    clear hB
    go_wp2_with fail
    go_ret
    exact ⟨rfl, HB6.out⟩
end Go.Proofs.YtfjimoccliejdaaGreatDoor
end
section
namespace Go.Proofs.YtfjimoccliejdaaGreatDoor
open Go.ChangeShapes Go.WideShapes Go.ChangeAt Go.RowKit

section
variable {H : Type} {enc : TypeId × Value → H} {P : Program}

theorem belowAll (hl : laidOutB P = true) {W W' : World} (hb : Below W.heap.size W W') :
    ∀ {ts : List TypeId} {vs : List Value} {ds : List (DataW H)} {ps : List MemPlace}, (ts.all fun t => P.readableRec t && decide (t < P.types.size)) = true →
      DataW.TrodAll enc P W 0 (fun _ => true) true ts vs ds ps → (∀ x ∈ ps, x.block < W.heap.size) → DataW.TrodAll enc P W' 0 (fun b => decide (b < W.heap.size)) true ts vs ds ps
  | [], [], [], _, _, h, _ => h
  | [], [], _ :: _, _, _, h, _ => h.elim
  | [], _ :: _, _, _, _, h, _ => h.elim
  | _ :: _, [], _, _, _, h, _ => h.elim
  | _ :: _, _ :: _, [], _, _, h, _ => h.elim
  | t :: ts, v :: vs, d :: ds, ps, hr, h, hlt => by
    obtain ⟨p, q, h1, h2, rfl⟩ := h
    simp only [List.all_cons, Bool.and_eq_true, decide_eq_true_eq] at hr
    exact ⟨p, q, Below.trod hl hr.1.1 hr.1.2 h1 hb (fun x hx => hlt x (by simp [hx])), belowAll hl hb (by simpa using hr.2) h2 (fun x hx => hlt x (by simp [hx])), rfl⟩

/-- THE END OF A LAW's WALK IS ALL THAT ITS ROW ASKS. -/
theorem law_post {f : Func} {s : ChangeSpec} {W W' : World} {args : Array Value} {ds gs : List (DataW H)} {before : List MemPlace} {tb : TypeId} (hl : laidOutB P = true)
    (hts : (f.params.toList.all fun t => P.readableRec t && decide (t < P.types.size)) = true) (hres : f.resultTypes = #[tb]) (htb : P.underlying tb = some .bool)
    (hvars : s.vars = []) (hfn : s.fn H ds = { results := [.lit (.bool true)], args := ds })
    (hW : DataW.Whole enc P f.params.toList s.vars false W args.toList ds gs before) (hb : Below W.heap.size W W') :
    s.post enc P f false true false false W args (.bool true) W' := by
  have hW0 := hW
  obtain ⟨p, q, hA, hV, rfl, _, _⟩ := hW
  rw [hvars] at hV
  obtain ⟨rfl, rfl⟩ := trodVars_none hV
  refine ⟨ds, [], p ++ [], [], p, [], hW0, ?_, ?_, ?_, hb.frame _, fun h => by cases h⟩
  · rw [hres, List.append_nil, hfn]
    exact trodAll_mk1 (shut_bool htb _)
  · rw [List.append_nil, hfn]
    exact belowAll hl hb hts hA (fun x hx => by simpa using hW0.lt x (by simp [hx]))
  · rw [hvars, List.append_nil, hfn]
    rfl
end
end Go.Proofs.YtfjimoccliejdaaGreatDoor
end
