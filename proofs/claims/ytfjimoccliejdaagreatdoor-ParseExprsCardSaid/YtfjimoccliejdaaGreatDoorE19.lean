/-
  Plain: what a law's row asks of the end of its walk, for whatever arguments: true is told, and each argument reads as it did. Of whatever program.
-/
import Derived.Test.YtfjimoccliejdaaGreatDoorE18
import Derived.StillTailTactics
import Derived.Deep.CutRange
import Derived.Lib.AppendStr
import Derived.WalkKit
import Derived.ProofKit
import Derived.Carry
import Derived.OpenShut
import Derived.Deep.DeepHandedRow
section
namespace Go.Proofs.YtfjimoccliejdaaGreatDoor
open Go.RowKit Go.Shelf

def OkS {α : Type} (P : Lay α) (fn : FuncId) (G : α → Prop) : Prop := ∀ (x : α) (c c' : List Value) (w : World), P (Ab w) w x c → P (Ab w) w x c' → G x → Calls Tryz.prog fn #[.agg c.toArray, .agg c'.toArray] w fun e w' => e = .returned (.bool true) ∧ Below w.heap.size w w'
theorem sItem_ok : OkS itC 69 (fun x => cnt x.e ≤ 1000000) := psameItem_any
theorem sSource_ok : OkS srC 71 (fun x => cnt x.on ≤ 1000000) := psameSource_any
set_option maxRecDepth 100000 in
set_option maxHeartbeats 4000000 in
theorem eqfItems_any {G : Pa.Itm → Prop} (HP : OkS itC 69 G) (l : List Pa.Itm) (A B : Option Addr) (c c' : Nat) (w : World) (h : Ls itC (Ab w) w l A) (h' : Ls itC (Ab w) w l B) (hG : ∀ x ∈ l, G x) (hl : l.length ≤ 1000000) :
  Calls Tryz.prog 68 #[.slice A l.length c, .slice B l.length c', .func (.func 69) #[] #[]] w fun e w' => e = .returned (.bool true) ∧ Below w.heap.size w w' := by
 have H0 := Lib.hid h
 have H1 := Lib.hid h'
 have HG := Lib.hid hG
 have HPp := Lib.hid HP
 clear h h' hG HP
 go_enter Tryz.func68, Tryz.ntmps68
 go_wp2_with fail
 go_loopw [17, 7] (fun i _ wr => ∃ j : Nat, j ≤ l.length ∧ i = .int .i64 j ∧ Hid (Below w.heap.size w wr)) (fun i _ _ => l.length - (intOf i).toNat)
 case atStart => exact ⟨0, Nat.zero_le _, rfl, Lib.hid (Below.refl _ _)⟩
 case round =>
  obtain ⟨j, hj, rfl, HB⟩ := hrel
  by_cases hlt : j < l.length
  ·obtain ⟨x, hx⟩ : ∃ x, l[j]? = some x := ⟨_, List.getElem?_eq_getElem hlt⟩
   obtain ⟨g, o, cc, rfl, _, hp, hc⟩ := (H0.out.nxt itC_ok HB.out).at itC_ok hx
   have hp0 := hp
   obtain ⟨hd, A9, n, cp, rfl, _⟩ := itC_ex hp
   obtain ⟨g', o', cc', rfl, _, hp', hc'⟩ := (H1.out.nxt itC_ok HB.out).at itC_ok hx
   have hp1 := hp'
   obtain ⟨hq, A7, nq, cq, rfl, _⟩ := itC_ex hp'
   have b0 : wr.cell? ⟨g, o + j * 10, none⟩ = some (.bool x.star) := hc 0 _ rfl
   have b1 : wr.cell? ⟨g, o + j * 10 + 1, none⟩ = some (.int .i64 hd.k) := hc 1 _ rfl
   have b2 : wr.cell? ⟨g, o + j * 10 + 2, none⟩ = some (.int .i64 hd.n) := hc 2 _ rfl
   have b3 : wr.cell? ⟨g, o + j * 10 + 3, none⟩ = some (.int .i64 hd.vk) := hc 3 _ rfl
   have b4 : wr.cell? ⟨g, o + j * 10 + 4, none⟩ = some (.int .i64 hd.vn) := hc 4 _ rfl
   have b5 : wr.cell? ⟨g, o + j * 10 + 5, none⟩ = some (.string hd.vs) := hc 5 _ rfl
   have b6 : wr.cell? ⟨g, o + j * 10 + 6, none⟩ = some (.string hd.tab) := hc 6 _ rfl
   have b7 : wr.cell? ⟨g, o + j * 10 + 7, none⟩ = some (.string hd.col) := hc 7 _ rfl
   have b8 : wr.cell? ⟨g, o + j * 10 + 8, none⟩ = some (.slice A9 n cp) := hc 8 _ rfl
   have b9 : wr.cell? ⟨g, o + j * 10 + 9, none⟩ = some (st x.nm) := hc 9 _ rfl
   have d0 : wr.cell? ⟨g', o' + j * 10, none⟩ = some (.bool x.star) := hc' 0 _ rfl
   have d1 : wr.cell? ⟨g', o' + j * 10 + 1, none⟩ = some (.int .i64 hq.k) := hc' 1 _ rfl
   have d2 : wr.cell? ⟨g', o' + j * 10 + 2, none⟩ = some (.int .i64 hq.n) := hc' 2 _ rfl
   have d3 : wr.cell? ⟨g', o' + j * 10 + 3, none⟩ = some (.int .i64 hq.vk) := hc' 3 _ rfl
   have d4 : wr.cell? ⟨g', o' + j * 10 + 4, none⟩ = some (.int .i64 hq.vn) := hc' 4 _ rfl
   have d5 : wr.cell? ⟨g', o' + j * 10 + 5, none⟩ = some (.string hq.vs) := hc' 5 _ rfl
   have d6 : wr.cell? ⟨g', o' + j * 10 + 6, none⟩ = some (.string hq.tab) := hc' 6 _ rfl
   have d7 : wr.cell? ⟨g', o' + j * 10 + 7, none⟩ = some (.string hq.col) := hc' 7 _ rfl
   have d8 : wr.cell? ⟨g', o' + j * 10 + 8, none⟩ = some (.slice A7 nq cq) := hc' 8 _ rfl
   have d9 : wr.cell? ⟨g', o' + j * 10 + 9, none⟩ = some (st x.nm) := hc' 9 _ rfl
   have hgr : g < wr.heap.size := lt_of_cell b0
   have hgr' : g' < wr.heap.size := lt_of_cell d0
   have hba := bt (ba wr (.cells #[.bool x.star, .int .i64 hd.k, .int .i64 hd.n, .int .i64 hd.vk, .int .i64 hd.vn, .string hd.vs, .string hd.tab, .string hd.col, .slice A9 n cp, st x.nm] 49)) (ba (wr.alloc (.cells #[.bool x.star, .int .i64 hd.k, .int .i64 hd.n, .int .i64 hd.vk, .int .i64 hd.vn, .string hd.vs, .string hd.tab, .string hd.col, .slice A9 n cp, st x.nm] 49)) (.cells #[.bool x.star, .int .i64 hq.k, .int .i64 hq.n, .int .i64 hq.vk, .int .i64 hq.vn, .string hq.vs, .string hq.tab, .string hq.col, .slice A7 nq cq, st x.nm] 49))
   have HC := Lib.hid (HPp.out x _ _ _ (itC_ok.ab hba hp0) (itC_ok.ab hba hp1) (HG.out x (List.mem_of_getElem? hx)))
   have HBa := Lib.hid (bt HB.out hba)
   clear hc hc' hp hp' hp0 hp1 hx hba
   go_wp2_with fail
   refine HC.out.mono ?_
   rintro e w3 ⟨rfl, hb⟩
   have HB3 := Lib.hid (bt HBa.out hb)
   clear hb
   go_wp2_with fail
   go_roundw
   case rel =>
    first
     | exact ⟨j + 1, by omega, by go_num, HB3⟩
     | ((repeat apply Exists.intro); exact ⟨⟨j + 1, by omega, by go_num, HB3⟩, rfl⟩)
   case measure => simp [intOf]; omega
  ·go_wp2_with fail
   exact bodyPost_ret (v := .bool true) (by simp [results, Tryz.results68, go_sem]) rfl ⟨rfl, HB.out⟩
set_option maxRecDepth 100000 in
set_option maxHeartbeats 4000000 in
theorem eqfSources_any {G : Pa.Src → Prop} (HP : OkS srC 71 G) (l : List Pa.Src) (A B : Option Addr) (c c' : Nat) (w : World) (h : Ls srC (Ab w) w l A) (h' : Ls srC (Ab w) w l B) (hG : ∀ x ∈ l, G x) (hl : l.length ≤ 1000000) :
  Calls Tryz.prog 70 #[.slice A l.length c, .slice B l.length c', .func (.func 71) #[] #[]] w fun e w' => e = .returned (.bool true) ∧ Below w.heap.size w w' := by
 have H0 := Lib.hid h
 have H1 := Lib.hid h'
 have HG := Lib.hid hG
 have HPp := Lib.hid HP
 clear h h' hG HP
 go_enter Tryz.func70, Tryz.ntmps70
 go_wp2_with fail
 go_loopw [17, 7] (fun i _ wr => ∃ j : Nat, j ≤ l.length ∧ i = .int .i64 j ∧ Hid (Below w.heap.size w wr)) (fun i _ _ => l.length - (intOf i).toNat)
 case atStart => exact ⟨0, Nat.zero_le _, rfl, Lib.hid (Below.refl _ _)⟩
 case round =>
  obtain ⟨j, hj, rfl, HB⟩ := hrel
  by_cases hlt : j < l.length
  ·obtain ⟨x, hx⟩ : ∃ x, l[j]? = some x := ⟨_, List.getElem?_eq_getElem hlt⟩
   obtain ⟨g, o, cc, rfl, _, hp, hc⟩ := (H0.out.nxt srC_ok HB.out).at srC_ok hx
   have hp0 := hp
   obtain ⟨hd, A9, n, cp, rfl, _⟩ := srC_ex hp
   obtain ⟨g', o', cc', rfl, _, hp', hc'⟩ := (H1.out.nxt srC_ok HB.out).at srC_ok hx
   have hp1 := hp'
   obtain ⟨hq, A7, nq, cq, rfl, _⟩ := srC_ex hp'
   have b0 : wr.cell? ⟨g, o + j * 11, none⟩ = some (st x.tb) := hc 0 _ rfl
   have b1 : wr.cell? ⟨g, o + j * 11 + 1, none⟩ = some (st x.nm) := hc 1 _ rfl
   have b2 : wr.cell? ⟨g, o + j * 11 + 2, none⟩ = some (.int .i64 x.join) := hc 2 _ rfl
   have b3 : wr.cell? ⟨g, o + j * 11 + 3, none⟩ = some (.int .i64 hd.k) := hc 3 _ rfl
   have b4 : wr.cell? ⟨g, o + j * 11 + 4, none⟩ = some (.int .i64 hd.n) := hc 4 _ rfl
   have b5 : wr.cell? ⟨g, o + j * 11 + 5, none⟩ = some (.int .i64 hd.vk) := hc 5 _ rfl
   have b6 : wr.cell? ⟨g, o + j * 11 + 6, none⟩ = some (.int .i64 hd.vn) := hc 6 _ rfl
   have b7 : wr.cell? ⟨g, o + j * 11 + 7, none⟩ = some (.string hd.vs) := hc 7 _ rfl
   have b8 : wr.cell? ⟨g, o + j * 11 + 8, none⟩ = some (.string hd.tab) := hc 8 _ rfl
   have b9 : wr.cell? ⟨g, o + j * 11 + 9, none⟩ = some (.string hd.col) := hc 9 _ rfl
   have b10 : wr.cell? ⟨g, o + j * 11 + 10, none⟩ = some (.slice A9 n cp) := hc 10 _ rfl
   have d0 : wr.cell? ⟨g', o' + j * 11, none⟩ = some (st x.tb) := hc' 0 _ rfl
   have d1 : wr.cell? ⟨g', o' + j * 11 + 1, none⟩ = some (st x.nm) := hc' 1 _ rfl
   have d2 : wr.cell? ⟨g', o' + j * 11 + 2, none⟩ = some (.int .i64 x.join) := hc' 2 _ rfl
   have d3 : wr.cell? ⟨g', o' + j * 11 + 3, none⟩ = some (.int .i64 hq.k) := hc' 3 _ rfl
   have d4 : wr.cell? ⟨g', o' + j * 11 + 4, none⟩ = some (.int .i64 hq.n) := hc' 4 _ rfl
   have d5 : wr.cell? ⟨g', o' + j * 11 + 5, none⟩ = some (.int .i64 hq.vk) := hc' 5 _ rfl
   have d6 : wr.cell? ⟨g', o' + j * 11 + 6, none⟩ = some (.int .i64 hq.vn) := hc' 6 _ rfl
   have d7 : wr.cell? ⟨g', o' + j * 11 + 7, none⟩ = some (.string hq.vs) := hc' 7 _ rfl
   have d8 : wr.cell? ⟨g', o' + j * 11 + 8, none⟩ = some (.string hq.tab) := hc' 8 _ rfl
   have d9 : wr.cell? ⟨g', o' + j * 11 + 9, none⟩ = some (.string hq.col) := hc' 9 _ rfl
   have d10 : wr.cell? ⟨g', o' + j * 11 + 10, none⟩ = some (.slice A7 nq cq) := hc' 10 _ rfl
   have hgr : g < wr.heap.size := lt_of_cell b0
   have hgr' : g' < wr.heap.size := lt_of_cell d0
   have hba := bt (ba wr (.cells #[st x.tb, st x.nm, .int .i64 x.join, .int .i64 hd.k, .int .i64 hd.n, .int .i64 hd.vk, .int .i64 hd.vn, .string hd.vs, .string hd.tab, .string hd.col, .slice A9 n cp] 51)) (ba (wr.alloc (.cells #[st x.tb, st x.nm, .int .i64 x.join, .int .i64 hd.k, .int .i64 hd.n, .int .i64 hd.vk, .int .i64 hd.vn, .string hd.vs, .string hd.tab, .string hd.col, .slice A9 n cp] 51)) (.cells #[st x.tb, st x.nm, .int .i64 x.join, .int .i64 hq.k, .int .i64 hq.n, .int .i64 hq.vk, .int .i64 hq.vn, .string hq.vs, .string hq.tab, .string hq.col, .slice A7 nq cq] 51))
   have HC := Lib.hid (HPp.out x _ _ _ (srC_ok.ab hba hp0) (srC_ok.ab hba hp1) (HG.out x (List.mem_of_getElem? hx)))
   have HBa := Lib.hid (bt HB.out hba)
   clear hc hc' hp hp' hp0 hp1 hx hba
   go_wp2_with fail
   refine HC.out.mono ?_
   rintro e w3 ⟨rfl, hb⟩
   have HB3 := Lib.hid (bt HBa.out hb)
   clear hb
   go_wp2_with fail
   go_roundw
   case rel =>
    first
     | exact ⟨j + 1, by omega, by go_num, HB3⟩
     | ((repeat apply Exists.intro); exact ⟨⟨j + 1, by omega, by go_num, HB3⟩, rfl⟩)
   case measure => simp [intOf]; omega
  ·go_wp2_with fail
   exact bodyPost_ret (v := .bool true) (by simp [results, Tryz.results70, go_sem]) rfl ⟨rfl, HB.out⟩
end Go.Proofs.YtfjimoccliejdaaGreatDoor
end
section
namespace Go.Proofs.YtfjimoccliejdaaGreatDoor
open Go.RowKit Go.Shelf

theorem sExpr_ok : OkS exC 72 (fun x => cnt x ≤ 1000000) := fun _ _ _ _ h h' hG => (ev_same (exC_ev h) (exC_ev h') hG hG (same_self _)).mono fun _ _ hE => by
 obtain ⟨u, rfl, hb, rfl⟩ := hE
 exact ⟨rfl, hb⟩
set_option maxRecDepth 100000 in
set_option maxHeartbeats 4000000 in
theorem eqfExprs_any {G : Ex → Prop} (HP : OkS exC 72 G) (l : List Ex) (A B : Option Addr) (c c' : Nat) (w : World) (h : Ls exC (Ab w) w l A) (h' : Ls exC (Ab w) w l B) (hG : ∀ x ∈ l, G x) (hl : l.length ≤ 1000000) :
  Calls Tryz.prog 73 #[.slice A l.length c, .slice B l.length c', .func (.func 72) #[] #[]] w fun e w' => e = .returned (.bool true) ∧ Below w.heap.size w w' := by
 have H0 := Lib.hid h
 have H1 := Lib.hid h'
 have HG := Lib.hid hG
 have HPp := Lib.hid HP
 clear h h' hG HP
 go_enter Tryz.func73, Tryz.ntmps73
 go_wp2_with fail
 go_loopw [17, 7] (fun i _ wr => ∃ j : Nat, j ≤ l.length ∧ i = .int .i64 j ∧ Hid (Below w.heap.size w wr)) (fun i _ _ => l.length - (intOf i).toNat)
 case atStart => exact ⟨0, Nat.zero_le _, rfl, Lib.hid (Below.refl _ _)⟩
 case round =>
  obtain ⟨j, hj, rfl, HB⟩ := hrel
  by_cases hlt : j < l.length
  ·obtain ⟨x, hx⟩ : ∃ x, l[j]? = some x := ⟨_, List.getElem?_eq_getElem hlt⟩
   obtain ⟨g, o, cc, rfl, _, hp, hc⟩ := (H0.out.nxt exC_ok HB.out).at exC_ok hx
   have hp0 := hp
   obtain ⟨A9, cp, rfl, _, _⟩ := exC_form hp
   obtain ⟨g', o', cc', rfl, _, hp', hc'⟩ := (H1.out.nxt exC_ok HB.out).at exC_ok hx
   have hp1 := hp'
   obtain ⟨A7, cq, rfl, _, _⟩ := exC_form hp'
   have b0 : wr.cell? ⟨g, o + j * 8, none⟩ = some (.int .i64 x.hd.k) := hc 0 _ rfl
   have b1 : wr.cell? ⟨g, o + j * 8 + 1, none⟩ = some (.int .i64 x.hd.n) := hc 1 _ rfl
   have b2 : wr.cell? ⟨g, o + j * 8 + 2, none⟩ = some (.int .i64 x.hd.vk) := hc 2 _ rfl
   have b3 : wr.cell? ⟨g, o + j * 8 + 3, none⟩ = some (.int .i64 x.hd.vn) := hc 3 _ rfl
   have b4 : wr.cell? ⟨g, o + j * 8 + 4, none⟩ = some (.string x.hd.vs) := hc 4 _ rfl
   have b5 : wr.cell? ⟨g, o + j * 8 + 5, none⟩ = some (.string x.hd.tab) := hc 5 _ rfl
   have b6 : wr.cell? ⟨g, o + j * 8 + 6, none⟩ = some (.string x.hd.col) := hc 6 _ rfl
   have b7 : wr.cell? ⟨g, o + j * 8 + 7, none⟩ = some (.slice A9 x.kids.length cp) := hc 7 _ rfl
   have d0 : wr.cell? ⟨g', o' + j * 8, none⟩ = some (.int .i64 x.hd.k) := hc' 0 _ rfl
   have d1 : wr.cell? ⟨g', o' + j * 8 + 1, none⟩ = some (.int .i64 x.hd.n) := hc' 1 _ rfl
   have d2 : wr.cell? ⟨g', o' + j * 8 + 2, none⟩ = some (.int .i64 x.hd.vk) := hc' 2 _ rfl
   have d3 : wr.cell? ⟨g', o' + j * 8 + 3, none⟩ = some (.int .i64 x.hd.vn) := hc' 3 _ rfl
   have d4 : wr.cell? ⟨g', o' + j * 8 + 4, none⟩ = some (.string x.hd.vs) := hc' 4 _ rfl
   have d5 : wr.cell? ⟨g', o' + j * 8 + 5, none⟩ = some (.string x.hd.tab) := hc' 5 _ rfl
   have d6 : wr.cell? ⟨g', o' + j * 8 + 6, none⟩ = some (.string x.hd.col) := hc' 6 _ rfl
   have d7 : wr.cell? ⟨g', o' + j * 8 + 7, none⟩ = some (.slice A7 x.kids.length cq) := hc' 7 _ rfl
   have hgr : g < wr.heap.size := lt_of_cell b0
   have hgr' : g' < wr.heap.size := lt_of_cell d0
   have hba := bt (ba wr (.cells #[.int .i64 x.hd.k, .int .i64 x.hd.n, .int .i64 x.hd.vk, .int .i64 x.hd.vn, .string x.hd.vs, .string x.hd.tab, .string x.hd.col, .slice A9 x.kids.length cp] 37)) (ba (wr.alloc (.cells #[.int .i64 x.hd.k, .int .i64 x.hd.n, .int .i64 x.hd.vk, .int .i64 x.hd.vn, .string x.hd.vs, .string x.hd.tab, .string x.hd.col, .slice A9 x.kids.length cp] 37)) (.cells #[.int .i64 x.hd.k, .int .i64 x.hd.n, .int .i64 x.hd.vk, .int .i64 x.hd.vn, .string x.hd.vs, .string x.hd.tab, .string x.hd.col, .slice A7 x.kids.length cq] 37))
   have HC := Lib.hid (HPp.out x _ _ _ (exC_ok.ab hba hp0) (exC_ok.ab hba hp1) (HG.out x (List.mem_of_getElem? hx)))
   have HBa := Lib.hid (bt HB.out hba)
   clear hc hc' hp hp' hp0 hp1 hx hba
   go_wp2_with fail
   refine HC.out.mono ?_
   rintro e w3 ⟨rfl, hb⟩
   have HB3 := Lib.hid (bt HBa.out hb)
   clear hb
   go_wp2_with fail
   go_roundw
   case rel =>
    first
     | exact ⟨j + 1, by omega, by go_num, HB3⟩
     | ((repeat apply Exists.intro); exact ⟨⟨j + 1, by omega, by go_num, HB3⟩, rfl⟩)
   case measure => simp [intOf]; omega
  ·go_wp2_with fail
   exact bodyPost_ret (v := .bool true) (by simp [results, Tryz.results73, go_sem]) rfl ⟨rfl, HB.out⟩
end Go.Proofs.YtfjimoccliejdaaGreatDoor
end
section
namespace Go.Proofs.YtfjimoccliejdaaGreatDoor
open Go.RowKit Go.Shelf

set_option maxRecDepth 100000 in
set_option maxHeartbeats 8000000 in
theorem sPart_ok : OkS slC 37 GdL2 := by
 intro x c c' w h h' hG
 obtain ⟨iA, fA, gA, ic, fc, gc, hd, A9, n, cp, rfl, _, hI, hF, hW, hGr⟩ := slC_ex h
 obtain ⟨jA, kA, mA, jc, kc, mc, hq, A7, nq, cq, rfl, _, hI', hF', hW', hGr'⟩ := slC_ex h'
 obtain ⟨⟨hg1, hg2, hg3, hg4⟩, hl1, hl2, hl3⟩ := hG
 have HI := Lib.hid hI
 have HF := Lib.hid hF
 have HI' := Lib.hid hI'
 have HF' := Lib.hid hF'
 have HE := Lib.hid (exC_of_ev hW)
 have HE' := Lib.hid (exC_of_ev hW')
 have HGr := Lib.hid (xs_ls hGr)
 have HGr' := Lib.hid (xs_ls hGr')
 have hb2 := ba (w.alloc (.cells #[.bool x.dist, .slice iA x.its.length ic, .slice fA x.frs.length fc, .int .i64 hd.k, .int .i64 hd.n, .int .i64 hd.vk, .int .i64 hd.vn, .string hd.vs, .string hd.tab, .string hd.col, .slice A9 n cp, .slice gA x.grp.length gc] 47)) (.cells #[.bool x.dist, .slice jA x.its.length jc, .slice kA x.frs.length kc, .int .i64 hq.k, .int .i64 hq.n, .int .i64 hq.vk, .int .i64 hq.vn, .string hq.vs, .string hq.tab, .string hq.col, .slice A7 nq cq, .slice mA x.grp.length mc] 47)
 have HB0 := Lib.hid (bt (ba w (.cells #[.bool x.dist, .slice iA x.its.length ic, .slice fA x.frs.length fc, .int .i64 hd.k, .int .i64 hd.n, .int .i64 hd.vk, .int .i64 hd.vn, .string hd.vs, .string hd.tab, .string hd.col, .slice A9 n cp, .slice gA x.grp.length gc] 47)) hb2)
 have HV := Lib.hid (show BxU ((w.alloc (.cells #[.bool x.dist, .slice iA x.its.length ic, .slice fA x.frs.length fc, .int .i64 hd.k, .int .i64 hd.n, .int .i64 hd.vk, .int .i64 hd.vn, .string hd.vs, .string hd.tab, .string hd.col, .slice A9 n cp, .slice gA x.grp.length gc] 47)).alloc (.cells #[.bool x.dist, .slice jA x.its.length jc, .slice kA x.frs.length kc, .int .i64 hq.k, .int .i64 hq.n, .int .i64 hq.vk, .int .i64 hq.vn, .string hq.vs, .string hq.tab, .string hq.col, .slice A7 nq cq, .slice mA x.grp.length mc] 47)) (w.heap.size + 1) #[.bool x.dist, .slice jA x.its.length jc, .slice kA x.frs.length kc, .int .i64 hq.k, .int .i64 hq.n, .int .i64 hq.vk, .int .i64 hq.vn, .string hq.vs, .string hq.tab, .string hq.col, .slice A7 nq cq, .slice mA x.grp.length mc] 47 from by have h := (MapKept.heap_alloc (w.alloc (.cells #[.bool x.dist, .slice iA x.its.length ic, .slice fA x.frs.length fc, .int .i64 hd.k, .int .i64 hd.n, .int .i64 hd.vk, .int .i64 hd.vn, .string hd.vs, .string hd.tab, .string hd.col, .slice A9 n cp, .slice gA x.grp.length gc] 47)) (.cells #[.bool x.dist, .slice jA x.its.length jc, .slice kA x.frs.length kc, .int .i64 hq.k, .int .i64 hq.n, .int .i64 hq.vk, .int .i64 hq.vn, .string hq.vs, .string hq.tab, .string hq.col, .slice A7 nq cq, .slice mA x.grp.length mc] 47)).1; rw [World.size_alloc] at h; exact h)
 have HU := Lib.hid (show BxU ((w.alloc (.cells #[.bool x.dist, .slice iA x.its.length ic, .slice fA x.frs.length fc, .int .i64 hd.k, .int .i64 hd.n, .int .i64 hd.vk, .int .i64 hd.vn, .string hd.vs, .string hd.tab, .string hd.col, .slice A9 n cp, .slice gA x.grp.length gc] 47)).alloc (.cells #[.bool x.dist, .slice jA x.its.length jc, .slice kA x.frs.length kc, .int .i64 hq.k, .int .i64 hq.n, .int .i64 hq.vk, .int .i64 hq.vn, .string hq.vs, .string hq.tab, .string hq.col, .slice A7 nq cq, .slice mA x.grp.length mc] 47)) w.heap.size #[.bool x.dist, .slice iA x.its.length ic, .slice fA x.frs.length fc, .int .i64 hd.k, .int .i64 hd.n, .int .i64 hd.vk, .int .i64 hd.vn, .string hd.vs, .string hd.tab, .string hd.col, .slice A9 n cp, .slice gA x.grp.length gc] 47 from (hb2.block w.heap.size (by rw [World.size_alloc]; omega)).trans (MapKept.heap_alloc w (.cells #[.bool x.dist, .slice iA x.its.length ic, .slice fA x.frs.length fc, .int .i64 hd.k, .int .i64 hd.n, .int .i64 hd.vk, .int .i64 hd.vn, .string hd.vs, .string hd.tab, .string hd.col, .slice A9 n cp, .slice gA x.grp.length gc] 47)).1)
 have HL := Lib.hid (And.intro hl1 (And.intro hl2 hl3))
 have HC1 := Lib.hid (show ∀ y ∈ x.its, cnt y.e ≤ 1000000 from fun y hy => Nat.le_trans (hg1 y hy).e.cnt (by decide))
 have HC2 := Lib.hid (show ∀ y ∈ x.frs, cnt y.on ≤ 1000000 from fun y hy => Nat.le_trans (hg2 y hy).on.cnt (by decide))
 have HC3 := Lib.hid (show cnt x.wh ≤ 1000000 from Nat.le_trans hg3.cnt (by decide))
 have HC4 := Lib.hid (show ∀ y ∈ x.grp, cnt y ≤ 1000000 from fun y hy => Nat.le_trans (hg4 y hy).cnt (by decide))
 clear h h' hI hF hW hGr hI' hF' hW' hGr' hg1 hg2 hg3 hg4 hl1 hl2 hl3 hb2
 have HN1 := Lib.hid (eqfItems_any sItem_ok x.its iA jA ic jc _ (HI.out.nxt itC_ok HB0.out) (HI'.out.nxt itC_ok HB0.out) HC1.out HL.out.1)
 show Calls Tryz.prog 37 #[.agg #[.bool x.dist, .slice iA x.its.length ic, .slice fA x.frs.length fc, .int .i64 hd.k, .int .i64 hd.n, .int .i64 hd.vk, .int .i64 hd.vn, .string hd.vs, .string hd.tab, .string hd.col, .slice A9 n cp, .slice gA x.grp.length gc], .agg #[.bool x.dist, .slice jA x.its.length jc, .slice kA x.frs.length kc, .int .i64 hq.k, .int .i64 hq.n, .int .i64 hq.vk, .int .i64 hq.vn, .string hq.vs, .string hq.tab, .string hq.col, .slice A7 nq cq, .slice mA x.grp.length mc]] w _
 go_enter Tryz.func37, Tryz.ntmps37
 go_wp2_with fail
 refine HN1.out.mono ?_
 rintro e v1 ⟨rfl, hb⟩
 have HB1 := Lib.hid (bt HB0.out hb)
 have HU1 := Lib.hid (HU.out.next hb)
 have HV1 := Lib.hid (HV.out.next hb)
 clear hb
 have b2 : v1.cell? ⟨w.heap.size, 2, none⟩ = some (.slice fA x.frs.length fc) := HU1.out.cell 2
 have d2 : v1.cell? ⟨w.heap.size + 1, 2, none⟩ = some (.slice kA x.frs.length kc) := HV1.out.cell 2
 have HN2 := Lib.hid (eqfSources_any sSource_ok x.frs fA kA fc kc v1 (HF.out.nxt srC_ok HB1.out) (HF'.out.nxt srC_ok HB1.out) HC2.out HL.out.2.1)
 go_wp2_with fail
 clear b2 d2
 refine HN2.out.mono ?_
 rintro e v2 ⟨rfl, hb⟩
 have HB2 := Lib.hid (bt HB1.out hb)
 have HU2 := Lib.hid (HU1.out.next hb)
 have HV2 := Lib.hid (HV1.out.next hb)
 clear hb
 have b3 : v2.cell? ⟨w.heap.size, 3, none⟩ = some (.int .i64 hd.k) := HU2.out.cell 3
 have d3 : v2.cell? ⟨w.heap.size + 1, 3, none⟩ = some (.int .i64 hq.k) := HV2.out.cell 3
 have b4 : v2.cell? ⟨w.heap.size, 4, none⟩ = some (.int .i64 hd.n) := HU2.out.cell 4
 have d4 : v2.cell? ⟨w.heap.size + 1, 4, none⟩ = some (.int .i64 hq.n) := HV2.out.cell 4
 have b5 : v2.cell? ⟨w.heap.size, 5, none⟩ = some (.int .i64 hd.vk) := HU2.out.cell 5
 have d5 : v2.cell? ⟨w.heap.size + 1, 5, none⟩ = some (.int .i64 hq.vk) := HV2.out.cell 5
 have b6 : v2.cell? ⟨w.heap.size, 6, none⟩ = some (.int .i64 hd.vn) := HU2.out.cell 6
 have d6 : v2.cell? ⟨w.heap.size + 1, 6, none⟩ = some (.int .i64 hq.vn) := HV2.out.cell 6
 have b7 : v2.cell? ⟨w.heap.size, 7, none⟩ = some (.string hd.vs) := HU2.out.cell 7
 have d7 : v2.cell? ⟨w.heap.size + 1, 7, none⟩ = some (.string hq.vs) := HV2.out.cell 7
 have b8 : v2.cell? ⟨w.heap.size, 8, none⟩ = some (.string hd.tab) := HU2.out.cell 8
 have d8 : v2.cell? ⟨w.heap.size + 1, 8, none⟩ = some (.string hq.tab) := HV2.out.cell 8
 have b9 : v2.cell? ⟨w.heap.size, 9, none⟩ = some (.string hd.col) := HU2.out.cell 9
 have d9 : v2.cell? ⟨w.heap.size + 1, 9, none⟩ = some (.string hq.col) := HV2.out.cell 9
 have b10 : v2.cell? ⟨w.heap.size, 10, none⟩ = some (.slice A9 n cp) := HU2.out.cell 10
 have d10 : v2.cell? ⟨w.heap.size + 1, 10, none⟩ = some (.slice A7 nq cq) := HV2.out.cell 10
 have HN3 := Lib.hid ((ev_same (HE.out.next HB2.out) (HE'.out.next HB2.out) HC3.out HC3.out (same_self _)).mono (R' := fun e w4 => e = .returned (.bool true) ∧ Below v2.heap.size v2 w4) (fun e w4 hE => by obtain ⟨u, rfl, hb, rfl⟩ := hE; exact ⟨rfl, hb⟩))
 go_wp2_with fail
 clear b3 d3 b4 d4 b5 d5 b6 d6 b7 d7 b8 d8 b9 d9 b10 d10
 refine HN3.out.mono ?_
 rintro e v3 ⟨rfl, hb⟩
 have HB3 := Lib.hid (bt HB2.out hb)
 have HU3 := Lib.hid (HU2.out.next hb)
 have HV3 := Lib.hid (HV2.out.next hb)
 clear hb
 have b11 : v3.cell? ⟨w.heap.size, 11, none⟩ = some (.slice gA x.grp.length gc) := HU3.out.cell 11
 have d11 : v3.cell? ⟨w.heap.size + 1, 11, none⟩ = some (.slice mA x.grp.length mc) := HV3.out.cell 11
 have HN4 := Lib.hid (eqfExprs_any sExpr_ok x.grp gA mA gc mc v3 (HGr.out.nxt exC_ok HB3.out) (HGr'.out.nxt exC_ok HB3.out) HC4.out HL.out.2.2)
 go_wp2_with fail
 clear b11 d11
 refine HN4.out.mono ?_
 rintro e v4 ⟨rfl, hb⟩
 have HB4 := Lib.hid (bt HB3.out hb)
 have HU4 := Lib.hid (HU3.out.next hb)
 have HV4 := Lib.hid (HV3.out.next hb)
 clear hb
 go_wp2_with fail
 exact bodyPost_ret (v := .bool true) (by simp [results, Tryz.results37, go_sem]) rfl ⟨rfl, HB4.out⟩
end Go.Proofs.YtfjimoccliejdaaGreatDoor
end
section
namespace Go.Proofs.YtfjimoccliejdaaGreatDoor
open Go.RowKit Go.Shelf

set_option maxRecDepth 100000 in
set_option maxHeartbeats 4000000 in
theorem eqfParts_any {G : Pa.Sel → Prop} (HP : OkS slC 37 G) (l : List Pa.Sel) (A B : Option Addr) (c c' : Nat) (w : World) (h : Ls slC (Ab w) w l A) (h' : Ls slC (Ab w) w l B) (hG : ∀ x ∈ l, G x) (hl : l.length ≤ 1000000) :
  Calls Tryz.prog 36 #[.slice A l.length c, .slice B l.length c', .func (.func 37) #[] #[]] w fun e w' => e = .returned (.bool true) ∧ Below w.heap.size w w' := by
 have H0 := Lib.hid h
 have H1 := Lib.hid h'
 have HG := Lib.hid hG
 have HPp := Lib.hid HP
 clear h h' hG HP
 go_enter Tryz.func36, Tryz.ntmps36
 go_wp2_with fail
 go_loopw [17, 7] (fun i _ wr => ∃ j : Nat, j ≤ l.length ∧ i = .int .i64 j ∧ Hid (Below w.heap.size w wr)) (fun i _ _ => l.length - (intOf i).toNat)
 case atStart => exact ⟨0, Nat.zero_le _, rfl, Lib.hid (Below.refl _ _)⟩
 case round =>
  obtain ⟨j, hj, rfl, HB⟩ := hrel
  by_cases hlt : j < l.length
  ·obtain ⟨x, hx⟩ : ∃ x, l[j]? = some x := ⟨_, List.getElem?_eq_getElem hlt⟩
   obtain ⟨g, o, cc, rfl, _, hp, hc⟩ := (H0.out.nxt slC_ok HB.out).at slC_ok hx
   have hp0 := hp
   obtain ⟨iA, fA, gA, ic, fc, gc, hd, A9, n, cp, rfl, _⟩ := slC_ex hp
   obtain ⟨g', o', cc', rfl, _, hp', hc'⟩ := (H1.out.nxt slC_ok HB.out).at slC_ok hx
   have hp1 := hp'
   obtain ⟨jA, kA, mA, jc, kc, mc, hq, A7, nq, cq, rfl, _⟩ := slC_ex hp'
   have b0 : wr.cell? ⟨g, o + j * 12, none⟩ = some (.bool x.dist) := hc 0 _ rfl
   have b1 : wr.cell? ⟨g, o + j * 12 + 1, none⟩ = some (.slice iA x.its.length ic) := hc 1 _ rfl
   have b2 : wr.cell? ⟨g, o + j * 12 + 2, none⟩ = some (.slice fA x.frs.length fc) := hc 2 _ rfl
   have b3 : wr.cell? ⟨g, o + j * 12 + 3, none⟩ = some (.int .i64 hd.k) := hc 3 _ rfl
   have b4 : wr.cell? ⟨g, o + j * 12 + 4, none⟩ = some (.int .i64 hd.n) := hc 4 _ rfl
   have b5 : wr.cell? ⟨g, o + j * 12 + 5, none⟩ = some (.int .i64 hd.vk) := hc 5 _ rfl
   have b6 : wr.cell? ⟨g, o + j * 12 + 6, none⟩ = some (.int .i64 hd.vn) := hc 6 _ rfl
   have b7 : wr.cell? ⟨g, o + j * 12 + 7, none⟩ = some (.string hd.vs) := hc 7 _ rfl
   have b8 : wr.cell? ⟨g, o + j * 12 + 8, none⟩ = some (.string hd.tab) := hc 8 _ rfl
   have b9 : wr.cell? ⟨g, o + j * 12 + 9, none⟩ = some (.string hd.col) := hc 9 _ rfl
   have b10 : wr.cell? ⟨g, o + j * 12 + 10, none⟩ = some (.slice A9 n cp) := hc 10 _ rfl
   have b11 : wr.cell? ⟨g, o + j * 12 + 11, none⟩ = some (.slice gA x.grp.length gc) := hc 11 _ rfl
   have d0 : wr.cell? ⟨g', o' + j * 12, none⟩ = some (.bool x.dist) := hc' 0 _ rfl
   have d1 : wr.cell? ⟨g', o' + j * 12 + 1, none⟩ = some (.slice jA x.its.length jc) := hc' 1 _ rfl
   have d2 : wr.cell? ⟨g', o' + j * 12 + 2, none⟩ = some (.slice kA x.frs.length kc) := hc' 2 _ rfl
   have d3 : wr.cell? ⟨g', o' + j * 12 + 3, none⟩ = some (.int .i64 hq.k) := hc' 3 _ rfl
   have d4 : wr.cell? ⟨g', o' + j * 12 + 4, none⟩ = some (.int .i64 hq.n) := hc' 4 _ rfl
   have d5 : wr.cell? ⟨g', o' + j * 12 + 5, none⟩ = some (.int .i64 hq.vk) := hc' 5 _ rfl
   have d6 : wr.cell? ⟨g', o' + j * 12 + 6, none⟩ = some (.int .i64 hq.vn) := hc' 6 _ rfl
   have d7 : wr.cell? ⟨g', o' + j * 12 + 7, none⟩ = some (.string hq.vs) := hc' 7 _ rfl
   have d8 : wr.cell? ⟨g', o' + j * 12 + 8, none⟩ = some (.string hq.tab) := hc' 8 _ rfl
   have d9 : wr.cell? ⟨g', o' + j * 12 + 9, none⟩ = some (.string hq.col) := hc' 9 _ rfl
   have d10 : wr.cell? ⟨g', o' + j * 12 + 10, none⟩ = some (.slice A7 nq cq) := hc' 10 _ rfl
   have d11 : wr.cell? ⟨g', o' + j * 12 + 11, none⟩ = some (.slice mA x.grp.length mc) := hc' 11 _ rfl
   have hgr : g < wr.heap.size := lt_of_cell b0
   have hgr' : g' < wr.heap.size := lt_of_cell d0
   have hba := bt (ba wr (.cells #[.bool x.dist, .slice iA x.its.length ic, .slice fA x.frs.length fc, .int .i64 hd.k, .int .i64 hd.n, .int .i64 hd.vk, .int .i64 hd.vn, .string hd.vs, .string hd.tab, .string hd.col, .slice A9 n cp, .slice gA x.grp.length gc] 47)) (ba (wr.alloc (.cells #[.bool x.dist, .slice iA x.its.length ic, .slice fA x.frs.length fc, .int .i64 hd.k, .int .i64 hd.n, .int .i64 hd.vk, .int .i64 hd.vn, .string hd.vs, .string hd.tab, .string hd.col, .slice A9 n cp, .slice gA x.grp.length gc] 47)) (.cells #[.bool x.dist, .slice jA x.its.length jc, .slice kA x.frs.length kc, .int .i64 hq.k, .int .i64 hq.n, .int .i64 hq.vk, .int .i64 hq.vn, .string hq.vs, .string hq.tab, .string hq.col, .slice A7 nq cq, .slice mA x.grp.length mc] 47))
   have HC := Lib.hid (HPp.out x _ _ _ (slC_ok.ab hba hp0) (slC_ok.ab hba hp1) (HG.out x (List.mem_of_getElem? hx)))
   have HBa := Lib.hid (bt HB.out hba)
   clear hc hc' hp hp' hp0 hp1 hx hba
   go_wp2_with fail
   refine HC.out.mono ?_
   rintro e w3 ⟨rfl, hb⟩
   have HB3 := Lib.hid (bt HBa.out hb)
   clear hb
   go_wp2_with fail
   go_roundw
   case rel =>
    first
     | exact ⟨j + 1, by omega, by go_num, HB3⟩
     | ((repeat apply Exists.intro); exact ⟨⟨j + 1, by omega, by go_num, HB3⟩, rfl⟩)
   case measure => simp [intOf]; omega
  ·go_wp2_with fail
   exact bodyPost_ret (v := .bool true) (by simp [results, Tryz.results36, go_sem]) rfl ⟨rfl, HB.out⟩
end Go.Proofs.YtfjimoccliejdaaGreatDoor
end
section
namespace Go.Proofs.YtfjimoccliejdaaGreatDoor
open Go.RowKit Go.Shelf

set_option maxRecDepth 100000 in
set_option maxHeartbeats 4000000 in
theorem eqKeys_any (l : List Pa.Ky) (A B : Option Addr) (c c' : Nat) (w : World) (h : Ls kyC (Ab w) w l A) (h' : Ls kyC (Ab w) w l B) (hl : l.length ≤ 1000000) :
  Calls Tryz.prog 38 #[.slice A l.length c, .slice B l.length c'] w fun e w' => e = .returned (.bool true) ∧ Below w.heap.size w w' := by
 have H0 := Lib.hid h
 have H1 := Lib.hid h'
 clear h h'
 go_enter Tryz.func38, Tryz.ntmps38
 go_wp2_with fail
 go_loopw [13, 5] (fun i _ wr => ∃ j : Nat, j ≤ l.length ∧ i = .int .i64 j ∧ Hid (Below w.heap.size w wr)) (fun i _ _ => l.length - (intOf i).toNat)
 case atStart => exact ⟨0, Nat.zero_le _, rfl, Lib.hid (Below.refl _ _)⟩
 case round =>
  obtain ⟨j, hj, rfl, HB⟩ := hrel
  by_cases hlt : j < l.length
  ·obtain ⟨x, hx⟩ : ∃ x, l[j]? = some x := ⟨_, List.getElem?_eq_getElem hlt⟩
   obtain ⟨g, o, cc, rfl, _, hp, hc⟩ := (H0.out.nxt kyC_ok HB.out).at kyC_ok hx
   have hp9 : _ = _ := hp
   subst hp9
   obtain ⟨g', o', cc', rfl, _, hp', hc'⟩ := (H1.out.nxt kyC_ok HB.out).at kyC_ok hx
   have hp8 : _ = _ := hp'
   subst hp8
   have b0 : wr.cell? ⟨g, o + j * 2, none⟩ = some (st x.nm) := hc 0 _ rfl
   have b1 : wr.cell? ⟨g, o + j * 2 + 1, none⟩ = some (.bool x.down) := hc 1 _ rfl
   have d0 : wr.cell? ⟨g', o' + j * 2, none⟩ = some (st x.nm) := hc' 0 _ rfl
   have d1 : wr.cell? ⟨g', o' + j * 2 + 1, none⟩ = some (.bool x.down) := hc' 1 _ rfl
   clear hc hc' hp hp' hx
   go_upto_region 6 with fail
   go_quiet (fail)
   have HB4 := Lib.hid (show Below w.heap.size w (wr.drewN nq) from ⟨HB.out.os, HB.out.tape, HB.out.output, HB.out.size, HB.out.block⟩)
   clear b0 b1 d0 d1
   generalize wr.drewN nq = W1 at HB4 ⊢
   go_wp2_with fail
   go_roundw
   case rel =>
    first
     | exact ⟨j + 1, by omega, by go_num, HB4⟩
     | ((repeat apply Exists.intro); exact ⟨⟨j + 1, by omega, by go_num, HB4⟩, rfl⟩)
   case measure => simp [intOf]; omega
  ·go_wp2_with fail
   exact bodyPost_ret (v := .bool true) (by simp [results, Tryz.results38, go_sem]) rfl ⟨rfl, HB.out⟩
set_option maxRecDepth 100000 in
set_option maxHeartbeats 8000000 in
theorem psame_any (x : Pa.Qu) (c c' : List Value) (w : World) (h : quC (Ab w) w x c) (h' : quC (Ab w) w x c') (hG : GdQ2 x) : Calls Tryz.prog 17 #[.agg c.toArray, .agg c'.toArray] w fun e w' => e = .returned (.bool true) ∧ Below w.heap.size w w' := by
 obtain ⟨pA, oA, pc, oc, rfl, _, hP, hO⟩ := h
 obtain ⟨qA, rA, qc, rc, rfl, _, hP', hO'⟩ := h'
 obtain ⟨hg1, _, hl1, hl2⟩ := hG
 have HP := Lib.hid hP
 have HO := Lib.hid hO
 have HP' := Lib.hid hP'
 have HO' := Lib.hid hO'
 have HG := Lib.hid hg1
 have HL := Lib.hid hl2
 have hb2 := ba (w.alloc (.cells #[.slice pA x.parts.length pc, .slice oA x.order.length oc, .int .i64 x.lim] 26)) (.cells #[.slice qA x.parts.length qc, .slice rA x.order.length rc, .int .i64 x.lim] 26)
 have HB0 := Lib.hid (bt (ba w (.cells #[.slice pA x.parts.length pc, .slice oA x.order.length oc, .int .i64 x.lim] 26)) hb2)
 have HV := Lib.hid (show BxU ((w.alloc (.cells #[.slice pA x.parts.length pc, .slice oA x.order.length oc, .int .i64 x.lim] 26)).alloc (.cells #[.slice qA x.parts.length qc, .slice rA x.order.length rc, .int .i64 x.lim] 26)) (w.heap.size + 1) #[.slice qA x.parts.length qc, .slice rA x.order.length rc, .int .i64 x.lim] 26 from by have h := (MapKept.heap_alloc (w.alloc (.cells #[.slice pA x.parts.length pc, .slice oA x.order.length oc, .int .i64 x.lim] 26)) (.cells #[.slice qA x.parts.length qc, .slice rA x.order.length rc, .int .i64 x.lim] 26)).1; rw [World.size_alloc] at h; exact h)
 have HU := Lib.hid (show BxU ((w.alloc (.cells #[.slice pA x.parts.length pc, .slice oA x.order.length oc, .int .i64 x.lim] 26)).alloc (.cells #[.slice qA x.parts.length qc, .slice rA x.order.length rc, .int .i64 x.lim] 26)) w.heap.size #[.slice pA x.parts.length pc, .slice oA x.order.length oc, .int .i64 x.lim] 26 from (hb2.block w.heap.size (by rw [World.size_alloc]; omega)).trans (MapKept.heap_alloc w (.cells #[.slice pA x.parts.length pc, .slice oA x.order.length oc, .int .i64 x.lim] 26)).1)
 have HN1 := Lib.hid (eqfParts_any sPart_ok x.parts pA qA pc qc _ (HP.out.nxt slC_ok HB0.out) (HP'.out.nxt slC_ok HB0.out) hg1 hl1)
 clear hP hO hP' hO' hg1 hl1 hl2 hb2
 show Calls Tryz.prog 17 #[.agg #[.slice pA x.parts.length pc, .slice oA x.order.length oc, .int .i64 x.lim], .agg #[.slice qA x.parts.length qc, .slice rA x.order.length rc, .int .i64 x.lim]] w _
 go_enter Tryz.func17, Tryz.ntmps17
 go_wp2_with fail
 refine HN1.out.mono ?_
 rintro e v1 ⟨rfl, hb⟩
 have HB1 := Lib.hid (bt HB0.out hb)
 have HU1 := Lib.hid (HU.out.next hb)
 have HV1 := Lib.hid (HV.out.next hb)
 clear hb
 have b1 : v1.cell? ⟨w.heap.size, 1, none⟩ = some (.slice oA x.order.length oc) := HU1.out.cell 1
 have d1 : v1.cell? ⟨w.heap.size + 1, 1, none⟩ = some (.slice rA x.order.length rc) := HV1.out.cell 1
 have HN2 := Lib.hid (eqKeys_any x.order oA rA oc rc v1 (HO.out.nxt kyC_ok HB1.out) (HO'.out.nxt kyC_ok HB1.out) HL.out)
 go_wp2_with fail
 clear b1 d1
 refine HN2.out.mono ?_
 rintro e v2 ⟨rfl, hb⟩
 have HB2 := Lib.hid (bt HB1.out hb)
 have HU2 := Lib.hid (HU1.out.next hb)
 have HV2 := Lib.hid (HV1.out.next hb)
 clear hb
 have b2 : v2.cell? ⟨w.heap.size, 2, none⟩ = some (.int .i64 x.lim) := HU2.out.cell 2
 have d2 : v2.cell? ⟨w.heap.size + 1, 2, none⟩ = some (.int .i64 x.lim) := HV2.out.cell 2
 go_wp2_with fail
 exact bodyPost_ret (v := .bool true) (by simp [results, Tryz.results17, go_sem]) rfl ⟨rfl, HB2.out⟩
end Go.Proofs.YtfjimoccliejdaaGreatDoor
end
section
namespace Go.Proofs.YtfjimoccliejdaaGreatDoor
open Go.RowKit Go.Shelf

structure LvT (w : World) : Prop where
 t : Tabs w
 o : TabO w
theorem LvT.kept {w w' : World} (h : LvT w) (hb : Below w.heap.size w w') : LvT w' := ⟨h.t.kept hb, h.o.low (lt_of_cell (h.o 0 (by decide))) fun k hk => hb.block k hk⟩
theorem Ls.ab {α : Type} {P : Lay α} {sz : Nat} (ok : LayOk P sz) {a b : Nat} {w : World} {l : List α} {A : Option Addr} (hb : b ≤ w.heap.size) (h : Ls P (Bt a b) w l A) : Ls P (Ab w) w l A :=
 h.go ok (fun _ _ => rfl) (fun _ hk => Nat.lt_of_lt_of_le hk.2 hb)
set_option maxRecDepth 100000 in
set_option maxHeartbeats 8000000 in
theorem lives11_yes (w : World) (hT : LvT w) : Calls Tryz.prog 6 #[] w fun e w' => e = .returned (.bool true) ∧ Below w.heap.size w w' := by
 obtain ⟨qx, hqx, hsh⟩ := lvA_is
 obtain ⟨HGd, _⟩ := whR_gd hqx
 have hqc : isQuB qx = true := (whR_ok hqx).choose_spec.choose_spec.2.2.1
 obtain ⟨d, i0, i, f, g, wh, gr, kn, rfl, hi, hf, hg, hwh⟩ := lvShape_ex hsh
 obtain ⟨ex, hex, hes⟩ := lvC_is
 have HG := Lib.hid HGd
 have HQc := Lib.hid hqc
 have HSw := Lib.hid hwh
 have HSe := Lib.hid hes
 have HI := Lib.hid (And.intro hi (And.intro hf hg))
 have HT := Lib.hid hT
 have HGe := Lib.hid (show Gd ex by
  obtain ⟨ts, n, h1, rfl, _, _⟩ := whR_ok hex
  exact lev_gd 40008 0 (text_tt h1).1)
 have HPA := Lib.hid (show ∀ W, LvT W → Calls Tryz.prog 7 #[.string lvA] W (WhE quC #[.slice none 0 0, .slice none 0 0, .int .i64 0] (.ok _) W) from fun W hW => by
  have h := pparse_any lvA W (by decide) hW.t hW.o
  rw [hqx] at h
  exact h)
 have HPB := Lib.hid (show ∀ W, LvT W → Calls Tryz.prog 7 #[.string lvB] W (WhE quC #[.slice none 0 0, .slice none 0 0, .int .i64 0] (.bad 21 110) W) from fun W hW => by
  have h := pparse_any lvB W (by decide) hW.t hW.o
  rw [lvB_is] at h
  exact h)
 have HPC := Lib.hid (show ∀ W, LvT W → Calls Tryz.prog 11 #[.string lvC] W (WhE exC #[.int .i64 0, .int .i64 0, .int .i64 0, .int .i64 0, .string ⟨#[]⟩, .string ⟨#[]⟩, .string ⟨#[]⟩, .slice none 0 0] (.ok ex) W) from fun W hW => by
  have h := pexpr_any lvC W (by decide) hW.t hW.o
  rw [hex] at h
  exact h)
 have HPD := Lib.hid (show ∀ W, LvT W → Calls Tryz.prog 11 #[.string lvD] W (WhE exC #[.int .i64 0, .int .i64 0, .int .i64 0, .int .i64 0, .string ⟨#[]⟩, .string ⟨#[]⟩, .string ⟨#[]⟩, .slice none 0 0] (.bad 2 110) W) from fun W hW => by
  have h := pexpr_any lvD W (by decide) hW.t hW.o
  rw [lvD_is] at h
  exact h)
 clear hsh hqx hex HGd hqc hwh hes hi hf hg hT
 go_enter Tryz.func6, Tryz.ntmps6
 go_wp2_with fail
 refine (HPA.out _ HT.out).mono ?_
 intro e w1 hE
 obtain ⟨c, rfl, hC, hb⟩ := hE
 obtain ⟨pA, oA, pc, oc, rfl, hlq, hP, hO⟩ := hC
 simp only [List.length_cons, List.length_nil, Nat.zero_add] at hlq ⊢
 have hP1 := hP.ab slC_ok (Nat.le_refl _)
 have hO1 := hO.ab kyC_ok (Nat.le_refl _)
 obtain ⟨gp, op, cp0, rfl, _, hp, hcp⟩ := hP1.at slC_ok (i := 0) rfl
 obtain ⟨iA, fA, gA, ic, fc, gc, hd, A9, n9, c9, rfl, ⟨hl1, hl2, hl3⟩, hIs, hFs, hWh, hGr⟩ := slC_ex hp
 obtain ⟨gi, oi, ci, rfl, _, hit, hci⟩ := hIs.at itC_ok (i := 1) rfl
 obtain ⟨ih, iA9, in9, ic9, rfl, _⟩ := itC_ex hit
 obtain ⟨gf, of, cf, rfl, _, hf0, hcf⟩ := hFs.at srC_ok (i := 0) rfl
 obtain ⟨fh, fA9, fn9, fc9, rfl, _⟩ := srC_ex hf0
 obtain ⟨gf', of', cf', hfe, _, hf1, hcf1⟩ := hFs.at srC_ok (i := 1) rfl
 simp only [Option.some.injEq, Addr.mk.injEq] at hfe
 obtain ⟨rfl, rfl, _⟩ := hfe
 obtain ⟨fh', fA9', fn9', fc9', rfl, _⟩ := srC_ex hf1
 obtain ⟨go, oo, co, rfl, _, hk0, hco⟩ := hO1.at kyC_ok (i := 0) rfl
 have hk9 : _ = _ := hk0
 subst hk9
 have p1 : w1.cell? ⟨gp, op + 1, none⟩ = some (.slice (some ⟨gi, oi, none⟩) 2 ic) := by simpa using hcp 1 _ rfl
 have p2 : w1.cell? ⟨gp, op + 2, none⟩ = some (.slice (some ⟨gf, of, none⟩) 2 fc) := by simpa using hcp 2 _ rfl
 have p3 : w1.cell? ⟨gp, op + 3, none⟩ = some (.int .i64 hd.k) := by simpa using hcp 3 _ rfl
 have p4 : w1.cell? ⟨gp, op + 4, none⟩ = some (.int .i64 hd.n) := by simpa using hcp 4 _ rfl
 have p5 : w1.cell? ⟨gp, op + 5, none⟩ = some (.int .i64 hd.vk) := by simpa using hcp 5 _ rfl
 have p6 : w1.cell? ⟨gp, op + 6, none⟩ = some (.int .i64 hd.vn) := by simpa using hcp 6 _ rfl
 have p7 : w1.cell? ⟨gp, op + 7, none⟩ = some (.string hd.vs) := by simpa using hcp 7 _ rfl
 have p8 : w1.cell? ⟨gp, op + 8, none⟩ = some (.string hd.tab) := by simpa using hcp 8 _ rfl
 have p9 : w1.cell? ⟨gp, op + 9, none⟩ = some (.string hd.col) := by simpa using hcp 9 _ rfl
 have p10 : w1.cell? ⟨gp, op + 10, none⟩ = some (.slice A9 n9 c9) := by simpa using hcp 10 _ rfl
 have p11 : w1.cell? ⟨gp, op + 11, none⟩ = some (.slice gA 1 gc) := by simpa using hcp 11 _ rfl
 have q0 : w1.cell? ⟨gi, oi + 10 + 9, none⟩ = some (.string ⟨#[110]⟩) := (by simpa [HI.out.1] using hci 9 _ rfl)
 have q1 : w1.cell? ⟨gf, of + 1, none⟩ = some (.string ⟨#[120]⟩) := (by simpa [HI.out.2.1] using hcf 1 _ rfl)
 have q2 : w1.cell? ⟨gf, of + 11 + 2, none⟩ = some (.int .i64 2) := (by simpa [HI.out.2.2] using hcf1 2 _ rfl)
 have q3 : w1.cell? ⟨go, oo + 1, none⟩ = some (.bool true) := (by simpa using hco 1 _ rfl)
 have HF := Lib.hid (show w1.cell? ⟨gp, op + 1, none⟩ = some (.slice (some ⟨gi, oi, none⟩) 2 ic) ∧ w1.cell? ⟨gp, op + 2, none⟩ = some (.slice (some ⟨gf, of, none⟩) 2 fc) ∧ w1.cell? ⟨gp, op + 3, none⟩ = some (.int .i64 hd.k) ∧ w1.cell? ⟨gp, op + 4, none⟩ = some (.int .i64 hd.n) ∧ w1.cell? ⟨gp, op + 5, none⟩ = some (.int .i64 hd.vk) ∧ w1.cell? ⟨gp, op + 6, none⟩ = some (.int .i64 hd.vn) ∧ w1.cell? ⟨gp, op + 7, none⟩ = some (.string hd.vs) ∧ w1.cell? ⟨gp, op + 8, none⟩ = some (.string hd.tab) ∧ w1.cell? ⟨gp, op + 9, none⟩ = some (.string hd.col) ∧ w1.cell? ⟨gp, op + 10, none⟩ = some (.slice A9 n9 c9) ∧ w1.cell? ⟨gp, op + 11, none⟩ = some (.slice gA 1 gc) ∧ w1.cell? ⟨gi, oi + 10 + 9, none⟩ = some (.string ⟨#[110]⟩) ∧ w1.cell? ⟨gf, of + 1, none⟩ = some (.string ⟨#[120]⟩) ∧ w1.cell? ⟨gf, of + 11 + 2, none⟩ = some (.int .i64 2) ∧ w1.cell? ⟨go, oo + 1, none⟩ = some (.bool true) from ⟨p1, p2, p3, p4, p5, p6, p7, p8, p9, p10, p11, q0, q1, q2, q3⟩)
 have HWh := Lib.hid (exC_of_ev hWh)
 have HP1 := Lib.hid hP1
 have HO1 := Lib.hid hO1
 have HLq := Lib.hid hlq
 have hbx := ba w1 (.cells #[.slice (some ⟨gp, op, none⟩) 1 pc, .slice (some ⟨go, oo, none⟩) 1 oc, .int .i64 5] 26)
 have HU := Lib.hid (show BxU _ w1.heap.size #[.slice (some ⟨gp, op, none⟩) 1 pc, .slice (some ⟨go, oo, none⟩) 1 oc, .int .i64 5] 26 from (MapKept.heap_alloc w1 (.cells #[.slice (some ⟨gp, op, none⟩) 1 pc, .slice (some ⟨go, oo, none⟩) 1 oc, .int .i64 5] 26)).1)
 have HB1 := Lib.hid hbx
 have HB0 := Lib.hid (bt hb hbx)
 have HT1 := Lib.hid (HT.out.kept HB0.out)
 clear hb hP hO hP1 hO1 hp hcp hIs hFs hWh hGr hit hci hf0 hcf hf1 hcf1 hk0 hco hlq hl1 hl2 hl3 hbx p1 p2 p3 p4 p5 p6 p7 p8 p9 p10 p11 q0 q1 q2 q3
 go_upto_region 2 with fail
 generalize w1.alloc (.cells #[.slice (some ⟨gp, op, none⟩) 1 pc, .slice (some ⟨go, oo, none⟩) 1 oc, .int .i64 5] 26) = W1 at HU HB1 HB0 HT1 ⊢
 generalize w1.heap.size = U1 at HU ⊢
 go_wp2_with fail
 refine (HPB.out _ HT1.out).mono ?_
 intro e w2 hE
 obtain ⟨rfl, hb⟩ := hE
 have HBw2 := Lib.hid (bt hb (ba w2 (.cells #[.slice none 0 0, .slice none 0 0, .int .i64 0] 26)))
 clear hb
 go_upto_region 3 with fail
 generalize w2.alloc (.cells #[.slice none 0 0, .slice none 0 0, .int .i64 0] 26) = W2 at HBw2 ⊢
 generalize w2.heap.size = U2 at ⊢
 have HT2 := Lib.hid (HT1.out.kept HBw2.out)
 go_wp2_with fail
 refine (HPC.out _ HT2.out).mono ?_
 intro e w3 hE
 obtain ⟨c, rfl, hC, hb⟩ := hE
 obtain ⟨Ae, ce, rfl, hle, hxe⟩ := exC_form hC
 rw [show (xcell (ex.hd, Ae, ex.kids.length, ce)).toArray = #[.int .i64 ex.hd.k, .int .i64 ex.hd.n, .int .i64 ex.hd.vk, .int .i64 ex.hd.vn, .string ex.hd.vs, .string ex.hd.tab, .string ex.hd.col, .slice Ae ex.kids.length ce] from rfl]
 have HEe := Lib.hid (show EV ex (XV ex.hd Ae ex.kids.length ce) w3 from ⟨_, _, rfl, hle, XsB.go (fun _ _ => rfl) (fun k hk => hk.2) _ _ hxe⟩)
 have hbx := ba w3 (.cells #[.int .i64 ex.hd.k, .int .i64 ex.hd.n, .int .i64 ex.hd.vk, .int .i64 ex.hd.vn, .string ex.hd.vs, .string ex.hd.tab, .string ex.hd.col, .slice Ae ex.kids.length ce] 37)
 have HV := Lib.hid (show BxU _ w3.heap.size #[.int .i64 ex.hd.k, .int .i64 ex.hd.n, .int .i64 ex.hd.vk, .int .i64 ex.hd.vn, .string ex.hd.vs, .string ex.hd.tab, .string ex.hd.col, .slice Ae ex.kids.length ce] 37 from (MapKept.heap_alloc w3 (.cells #[.int .i64 ex.hd.k, .int .i64 ex.hd.n, .int .i64 ex.hd.vk, .int .i64 ex.hd.vn, .string ex.hd.vs, .string ex.hd.tab, .string ex.hd.col, .slice Ae ex.kids.length ce] 37)).1)
 have HBw3 := Lib.hid (bt hb hbx)
 have HEe3 := Lib.hid (HEe.out.next hbx)
 clear hb hC hle hxe hbx
 go_upto_region 4 with fail
 generalize w3.alloc (.cells #[.int .i64 ex.hd.k, .int .i64 ex.hd.n, .int .i64 ex.hd.vk, .int .i64 ex.hd.vn, .string ex.hd.vs, .string ex.hd.tab, .string ex.hd.col, .slice Ae ex.kids.length ce] 37) = W3 at HV HBw3 HEe3 ⊢
 generalize w3.heap.size = U3 at HV ⊢
 have HT3 := Lib.hid (HT2.out.kept HBw3.out)
 go_wp2_with fail
 refine (HPD.out _ HT3.out).mono ?_
 intro e w4 hE
 obtain ⟨rfl, hb⟩ := hE
 have HBw4 := Lib.hid (bt hb (ba w4 (.cells #[.int .i64 0, .int .i64 0, .int .i64 0, .int .i64 0, .string ⟨#[]⟩, .string ⟨#[]⟩, .string ⟨#[]⟩, .slice none 0 0] 37)))
 clear hb
 go_upto_region 5 with fail
 generalize w4.alloc (.cells #[.int .i64 0, .int .i64 0, .int .i64 0, .int .i64 0, .string ⟨#[]⟩, .string ⟨#[]⟩, .string ⟨#[]⟩, .slice none 0 0] 37) = W4 at HBw4 ⊢
 generalize w4.heap.size = U4 at ⊢
 have HT4 := Lib.hid (HT3.out.kept HBw4.out)
 have HB14 := Lib.hid (bt HBw2.out (bt HBw3.out HBw4.out))
 have HA14 := Lib.hid (bt HB1.out HB14.out)
 have HU4 := Lib.hid (HU.out.next HB14.out)
 have HV4 := Lib.hid (HV.out.next HBw4.out)
 have HE4 := Lib.hid (HEe3.out.next HBw4.out)
 have HW4 := Lib.hid (HWh.out.next HA14.out)
 have HBz := Lib.hid (bt HB0.out HB14.out)
 obtain ⟨p1, p2, p3, p4, p5, p6, p7, p8, p9, p10, p11, q0, q1, q2, q3⟩ := HF.out
 have p1 : W4.cell? ⟨gp, op + 1, none⟩ = some (.slice (some ⟨gi, oi, none⟩) 2 ic) := cell_kept HA14.out p1
 have p2 : W4.cell? ⟨gp, op + 2, none⟩ = some (.slice (some ⟨gf, of, none⟩) 2 fc) := cell_kept HA14.out p2
 have p3 : W4.cell? ⟨gp, op + 3, none⟩ = some (.int .i64 hd.k) := cell_kept HA14.out p3
 have p4 : W4.cell? ⟨gp, op + 4, none⟩ = some (.int .i64 hd.n) := cell_kept HA14.out p4
 have p5 : W4.cell? ⟨gp, op + 5, none⟩ = some (.int .i64 hd.vk) := cell_kept HA14.out p5
 have p6 : W4.cell? ⟨gp, op + 6, none⟩ = some (.int .i64 hd.vn) := cell_kept HA14.out p6
 have p7 : W4.cell? ⟨gp, op + 7, none⟩ = some (.string hd.vs) := cell_kept HA14.out p7
 have p8 : W4.cell? ⟨gp, op + 8, none⟩ = some (.string hd.tab) := cell_kept HA14.out p8
 have p9 : W4.cell? ⟨gp, op + 9, none⟩ = some (.string hd.col) := cell_kept HA14.out p9
 have p10 : W4.cell? ⟨gp, op + 10, none⟩ = some (.slice A9 n9 c9) := cell_kept HA14.out p10
 have p11 : W4.cell? ⟨gp, op + 11, none⟩ = some (.slice gA 1 gc) := cell_kept HA14.out p11
 have q0 : W4.cell? ⟨gi, oi + 10 + 9, none⟩ = some (.string ⟨#[110]⟩) := cell_kept HA14.out q0
 have q1 : W4.cell? ⟨gf, of + 1, none⟩ = some (.string ⟨#[120]⟩) := cell_kept HA14.out q1
 have q2 : W4.cell? ⟨gf, of + 11 + 2, none⟩ = some (.int .i64 2) := cell_kept HA14.out q2
 have q3 : W4.cell? ⟨go, oo + 1, none⟩ = some (.bool true) := cell_kept HA14.out q3
 have u0_ : W4.cell? ⟨U1, 0, none⟩ = some (.slice (some ⟨gp, op, none⟩) 1 pc) := HU4.out.cell 0
 have u1_ : W4.cell? ⟨U1, 1, none⟩ = some (.slice (some ⟨go, oo, none⟩) 1 oc) := HU4.out.cell 1
 have u2_ : W4.cell? ⟨U1, 2, none⟩ = some (.int .i64 5) := HU4.out.cell 2
 obtain ⟨v0_, v1_, v2_, v3_, v4_, v5_, v6_, v7_⟩ := cl8 (w := W4) HV4.out
 obtain ⟨⟨hs1, hs2⟩, hs3⟩ : (fitB2 wh = true ∧ cnt wh ≤ 512) ∧ shwX wh = _ := by have := HSw.out; unfold shB at this; simpa only [Bool.and_eq_true, decide_eq_true_eq, beq_iff_eq] using this
 obtain ⟨⟨ht1, ht2⟩, ht3⟩ : (fitB2 ex = true ∧ cnt ex ≤ 512) ∧ shwX ex = _ := by have := HSe.out; unfold shB at this; simpa only [Bool.and_eq_true, decide_eq_true_eq, beq_iff_eq] using this
 have HSw1 := Lib.hid (And.intro hs1 (And.intro hs2 hs3))
 have HSe1 := Lib.hid (And.intro ht1 (And.intro ht2 ht3))
 clear hs1 hs2 hs3 ht1 ht2 ht3
 simp only [List.append_eq, List.cons_append, List.nil_append]
 go_wp2_with fail
 clear p1 p2 p3 p4 p5 p6 p7 p8 p9 p10 p11 q0 q1 q2 q3 u0_ u1_ u2_ v0_ v1_ v2_ v3_ v4_ v5_ v6_ v7_
 refine ((rv_show HW4.out (HG.out.1 _ (List.mem_singleton.2 rfl)).1.wh.sm HSw1.out.2.1 (fitq_of _ HSw1.out.1) HSw1.out.2.2).mono (R' := fun e w' => ∃ u, e = .returned u ∧ Bel W4 w' ∧ u = .string ⟨#[40, 78, 79, 84, 32, 40, 97, 32, 60, 32, 40, 49, 32, 43, 32, 40, 50, 32, 42, 32, 51, 41, 41, 41, 41]⟩) (fun e w' hE => by obtain ⟨u, rfl, hb, rfl⟩ := hE; exact ⟨_, rfl, hb, rfl⟩)).mono ?_
 rintro e w5 ⟨u, rfl, hb, rfl⟩
 have HT5 := Lib.hid (HT4.out.kept hb)
 have HA15 := Lib.hid (bt HA14.out hb)
 have HU5 := Lib.hid (HU4.out.next hb)
 have HV5 := Lib.hid (HV4.out.next hb)
 have HE5 := Lib.hid (HE4.out.next hb)
 have HBz5 := Lib.hid (bt HBz.out hb)
 clear hb
 obtain ⟨p1, p2, p3, p4, p5, p6, p7, p8, p9, p10, p11, q0, q1, q2, q3⟩ := HF.out
 have p1 : w5.cell? ⟨gp, op + 1, none⟩ = some (.slice (some ⟨gi, oi, none⟩) 2 ic) := cell_kept HA15.out p1
 have p2 : w5.cell? ⟨gp, op + 2, none⟩ = some (.slice (some ⟨gf, of, none⟩) 2 fc) := cell_kept HA15.out p2
 have p3 : w5.cell? ⟨gp, op + 3, none⟩ = some (.int .i64 hd.k) := cell_kept HA15.out p3
 have p4 : w5.cell? ⟨gp, op + 4, none⟩ = some (.int .i64 hd.n) := cell_kept HA15.out p4
 have p5 : w5.cell? ⟨gp, op + 5, none⟩ = some (.int .i64 hd.vk) := cell_kept HA15.out p5
 have p6 : w5.cell? ⟨gp, op + 6, none⟩ = some (.int .i64 hd.vn) := cell_kept HA15.out p6
 have p7 : w5.cell? ⟨gp, op + 7, none⟩ = some (.string hd.vs) := cell_kept HA15.out p7
 have p8 : w5.cell? ⟨gp, op + 8, none⟩ = some (.string hd.tab) := cell_kept HA15.out p8
 have p9 : w5.cell? ⟨gp, op + 9, none⟩ = some (.string hd.col) := cell_kept HA15.out p9
 have p10 : w5.cell? ⟨gp, op + 10, none⟩ = some (.slice A9 n9 c9) := cell_kept HA15.out p10
 have p11 : w5.cell? ⟨gp, op + 11, none⟩ = some (.slice gA 1 gc) := cell_kept HA15.out p11
 have q0 : w5.cell? ⟨gi, oi + 10 + 9, none⟩ = some (.string ⟨#[110]⟩) := cell_kept HA15.out q0
 have q1 : w5.cell? ⟨gf, of + 1, none⟩ = some (.string ⟨#[120]⟩) := cell_kept HA15.out q1
 have q2 : w5.cell? ⟨gf, of + 11 + 2, none⟩ = some (.int .i64 2) := cell_kept HA15.out q2
 have q3 : w5.cell? ⟨go, oo + 1, none⟩ = some (.bool true) := cell_kept HA15.out q3
 have u0_ : w5.cell? ⟨U1, 0, none⟩ = some (.slice (some ⟨gp, op, none⟩) 1 pc) := HU5.out.cell 0
 have u1_ : w5.cell? ⟨U1, 1, none⟩ = some (.slice (some ⟨go, oo, none⟩) 1 oc) := HU5.out.cell 1
 have u2_ : w5.cell? ⟨U1, 2, none⟩ = some (.int .i64 5) := HU5.out.cell 2
 obtain ⟨v0_, v1_, v2_, v3_, v4_, v5_, v6_, v7_⟩ := cl8 (w := w5) HV5.out
 go_wp2_with fail
 clear p1 p2 p3 p4 p5 p6 p7 p8 p9 p10 p11 q0 q1 q2 q3 u0_ u1_ u2_ v0_ v1_ v2_ v3_ v4_ v5_ v6_ v7_
 refine ((rv_show HE5.out HGe.out.sm HSe1.out.2.1 (fitq_of _ HSe1.out.1) HSe1.out.2.2).mono (R' := fun e w' => ∃ u, e = .returned u ∧ Bel w5 w' ∧ u = .string ⟨#[40, 40, 40, 97, 32, 43, 32, 49, 41, 32, 60, 32, 98, 41, 32, 65, 78, 68, 32, 99, 41]⟩) (fun e w' hE => by obtain ⟨u, rfl, hb, rfl⟩ := hE; exact ⟨_, rfl, hb, rfl⟩)).mono ?_
 rintro e w6 ⟨u, rfl, hb, rfl⟩
 have HT6 := Lib.hid (HT5.out.kept hb)
 have HA16 := Lib.hid (bt HA15.out hb)
 have HU6 := Lib.hid (HU5.out.next hb)
 have HV6 := Lib.hid (HV5.out.next hb)
 have HE6 := Lib.hid (HE5.out.next hb)
 have HBz6 := Lib.hid (bt HBz5.out hb)
 clear hb
 obtain ⟨p1, p2, p3, p4, p5, p6, p7, p8, p9, p10, p11, q0, q1, q2, q3⟩ := HF.out
 have p1 : w6.cell? ⟨gp, op + 1, none⟩ = some (.slice (some ⟨gi, oi, none⟩) 2 ic) := cell_kept HA16.out p1
 have p2 : w6.cell? ⟨gp, op + 2, none⟩ = some (.slice (some ⟨gf, of, none⟩) 2 fc) := cell_kept HA16.out p2
 have p3 : w6.cell? ⟨gp, op + 3, none⟩ = some (.int .i64 hd.k) := cell_kept HA16.out p3
 have p4 : w6.cell? ⟨gp, op + 4, none⟩ = some (.int .i64 hd.n) := cell_kept HA16.out p4
 have p5 : w6.cell? ⟨gp, op + 5, none⟩ = some (.int .i64 hd.vk) := cell_kept HA16.out p5
 have p6 : w6.cell? ⟨gp, op + 6, none⟩ = some (.int .i64 hd.vn) := cell_kept HA16.out p6
 have p7 : w6.cell? ⟨gp, op + 7, none⟩ = some (.string hd.vs) := cell_kept HA16.out p7
 have p8 : w6.cell? ⟨gp, op + 8, none⟩ = some (.string hd.tab) := cell_kept HA16.out p8
 have p9 : w6.cell? ⟨gp, op + 9, none⟩ = some (.string hd.col) := cell_kept HA16.out p9
 have p10 : w6.cell? ⟨gp, op + 10, none⟩ = some (.slice A9 n9 c9) := cell_kept HA16.out p10
 have p11 : w6.cell? ⟨gp, op + 11, none⟩ = some (.slice gA 1 gc) := cell_kept HA16.out p11
 have q0 : w6.cell? ⟨gi, oi + 10 + 9, none⟩ = some (.string ⟨#[110]⟩) := cell_kept HA16.out q0
 have q1 : w6.cell? ⟨gf, of + 1, none⟩ = some (.string ⟨#[120]⟩) := cell_kept HA16.out q1
 have q2 : w6.cell? ⟨gf, of + 11 + 2, none⟩ = some (.int .i64 2) := cell_kept HA16.out q2
 have q3 : w6.cell? ⟨go, oo + 1, none⟩ = some (.bool true) := cell_kept HA16.out q3
 have u0_ : w6.cell? ⟨U1, 0, none⟩ = some (.slice (some ⟨gp, op, none⟩) 1 pc) := HU6.out.cell 0
 have u1_ : w6.cell? ⟨U1, 1, none⟩ = some (.slice (some ⟨go, oo, none⟩) 1 oc) := HU6.out.cell 1
 have u2_ : w6.cell? ⟨U1, 2, none⟩ = some (.int .i64 5) := HU6.out.cell 2
 obtain ⟨v0_, v1_, v2_, v3_, v4_, v5_, v6_, v7_⟩ := cl8 (w := w6) HV6.out
 go_wp2_with fail
 clear p1 p2 p3 p4 p5 p6 p7 p8 p9 p10 p11 q0 q1 q2 q3 u0_ u1_ u2_ v0_ v1_ v2_ v3_ v4_ v5_ v6_ v7_
 refine ((qcheck_any _ [.slice (some ⟨gp, op, none⟩) 1 pc, .slice (some ⟨go, oo, none⟩) 1 oc, .int .i64 5] w6 ⟨_, _, _, _, rfl, HLq.out, HP1.out.nxt slC_ok HA16.out, HO1.out.nxt kyC_ok HA16.out⟩ HG.out HT6.out.t).mono (R' := fun e w' => ∃ u, e = .returned u ∧ Bel w6 w' ∧ u = .int .i64 0) (fun e w' hE => by obtain ⟨rfl, hb⟩ := hE; exact ⟨_, rfl, hb, by rw [HQc.out]; rfl⟩)).mono ?_
 rintro e w7 ⟨u, rfl, hb, rfl⟩
 have HT7 := Lib.hid (HT6.out.kept hb)
 have HA17 := Lib.hid (bt HA16.out hb)
 have HU7 := Lib.hid (HU6.out.next hb)
 have HV7 := Lib.hid (HV6.out.next hb)
 have HE7 := Lib.hid (HE6.out.next hb)
 have HBz7 := Lib.hid (bt HBz6.out hb)
 clear hb
 obtain ⟨p1, p2, p3, p4, p5, p6, p7, p8, p9, p10, p11, q0, q1, q2, q3⟩ := HF.out
 have p1 : w7.cell? ⟨gp, op + 1, none⟩ = some (.slice (some ⟨gi, oi, none⟩) 2 ic) := cell_kept HA17.out p1
 have p2 : w7.cell? ⟨gp, op + 2, none⟩ = some (.slice (some ⟨gf, of, none⟩) 2 fc) := cell_kept HA17.out p2
 have p3 : w7.cell? ⟨gp, op + 3, none⟩ = some (.int .i64 hd.k) := cell_kept HA17.out p3
 have p4 : w7.cell? ⟨gp, op + 4, none⟩ = some (.int .i64 hd.n) := cell_kept HA17.out p4
 have p5 : w7.cell? ⟨gp, op + 5, none⟩ = some (.int .i64 hd.vk) := cell_kept HA17.out p5
 have p6 : w7.cell? ⟨gp, op + 6, none⟩ = some (.int .i64 hd.vn) := cell_kept HA17.out p6
 have p7 : w7.cell? ⟨gp, op + 7, none⟩ = some (.string hd.vs) := cell_kept HA17.out p7
 have p8 : w7.cell? ⟨gp, op + 8, none⟩ = some (.string hd.tab) := cell_kept HA17.out p8
 have p9 : w7.cell? ⟨gp, op + 9, none⟩ = some (.string hd.col) := cell_kept HA17.out p9
 have p10 : w7.cell? ⟨gp, op + 10, none⟩ = some (.slice A9 n9 c9) := cell_kept HA17.out p10
 have p11 : w7.cell? ⟨gp, op + 11, none⟩ = some (.slice gA 1 gc) := cell_kept HA17.out p11
 have q0 : w7.cell? ⟨gi, oi + 10 + 9, none⟩ = some (.string ⟨#[110]⟩) := cell_kept HA17.out q0
 have q1 : w7.cell? ⟨gf, of + 1, none⟩ = some (.string ⟨#[120]⟩) := cell_kept HA17.out q1
 have q2 : w7.cell? ⟨gf, of + 11 + 2, none⟩ = some (.int .i64 2) := cell_kept HA17.out q2
 have q3 : w7.cell? ⟨go, oo + 1, none⟩ = some (.bool true) := cell_kept HA17.out q3
 have u0_ : w7.cell? ⟨U1, 0, none⟩ = some (.slice (some ⟨gp, op, none⟩) 1 pc) := HU7.out.cell 0
 have u1_ : w7.cell? ⟨U1, 1, none⟩ = some (.slice (some ⟨go, oo, none⟩) 1 oc) := HU7.out.cell 1
 have u2_ : w7.cell? ⟨U1, 2, none⟩ = some (.int .i64 5) := HU7.out.cell 2
 obtain ⟨v0_, v1_, v2_, v3_, v4_, v5_, v6_, v7_⟩ := cl8 (w := w7) HV7.out
 go_wp2_with fail
 clear p1 p2 p3 p4 p5 p6 p7 p8 p9 p10 p11 q0 q1 q2 q3 u0_ u1_ u2_ v0_ v1_ v2_ v3_ v4_ v5_ v6_ v7_
 refine ((qcheck_any ⟨[], [], 0⟩ [.slice none 0 0, .slice none 0 0, .int .i64 0] w7 ⟨_, _, _, _, rfl, ⟨Nat.le_refl _, Nat.le_refl _⟩, Ls.nil _ _ _ _, Ls.nil _ _ _ _⟩ ⟨(fun _ h => by cases h), (fun _ h => by cases h), Nat.zero_le _, Nat.zero_le _⟩ HT7.out.t).mono (R' := fun e w' => ∃ u, e = .returned u ∧ Bel w7 w' ∧ u = .int .i64 110) (fun e w' hE => by obtain ⟨rfl, hb⟩ := hE; exact ⟨_, rfl, hb, rfl⟩)).mono ?_
 rintro e w8 ⟨u, rfl, hb, rfl⟩
 have HT8 := Lib.hid (HT7.out.kept hb)
 have HA18 := Lib.hid (bt HA17.out hb)
 have HU8 := Lib.hid (HU7.out.next hb)
 have HV8 := Lib.hid (HV7.out.next hb)
 have HE8 := Lib.hid (HE7.out.next hb)
 have HBz8 := Lib.hid (bt HBz7.out hb)
 clear hb
 obtain ⟨p1, p2, p3, p4, p5, p6, p7, p8, p9, p10, p11, q0, q1, q2, q3⟩ := HF.out
 have p1 : w8.cell? ⟨gp, op + 1, none⟩ = some (.slice (some ⟨gi, oi, none⟩) 2 ic) := cell_kept HA18.out p1
 have p2 : w8.cell? ⟨gp, op + 2, none⟩ = some (.slice (some ⟨gf, of, none⟩) 2 fc) := cell_kept HA18.out p2
 have p3 : w8.cell? ⟨gp, op + 3, none⟩ = some (.int .i64 hd.k) := cell_kept HA18.out p3
 have p4 : w8.cell? ⟨gp, op + 4, none⟩ = some (.int .i64 hd.n) := cell_kept HA18.out p4
 have p5 : w8.cell? ⟨gp, op + 5, none⟩ = some (.int .i64 hd.vk) := cell_kept HA18.out p5
 have p6 : w8.cell? ⟨gp, op + 6, none⟩ = some (.int .i64 hd.vn) := cell_kept HA18.out p6
 have p7 : w8.cell? ⟨gp, op + 7, none⟩ = some (.string hd.vs) := cell_kept HA18.out p7
 have p8 : w8.cell? ⟨gp, op + 8, none⟩ = some (.string hd.tab) := cell_kept HA18.out p8
 have p9 : w8.cell? ⟨gp, op + 9, none⟩ = some (.string hd.col) := cell_kept HA18.out p9
 have p10 : w8.cell? ⟨gp, op + 10, none⟩ = some (.slice A9 n9 c9) := cell_kept HA18.out p10
 have p11 : w8.cell? ⟨gp, op + 11, none⟩ = some (.slice gA 1 gc) := cell_kept HA18.out p11
 have q0 : w8.cell? ⟨gi, oi + 10 + 9, none⟩ = some (.string ⟨#[110]⟩) := cell_kept HA18.out q0
 have q1 : w8.cell? ⟨gf, of + 1, none⟩ = some (.string ⟨#[120]⟩) := cell_kept HA18.out q1
 have q2 : w8.cell? ⟨gf, of + 11 + 2, none⟩ = some (.int .i64 2) := cell_kept HA18.out q2
 have q3 : w8.cell? ⟨go, oo + 1, none⟩ = some (.bool true) := cell_kept HA18.out q3
 have u0_ : w8.cell? ⟨U1, 0, none⟩ = some (.slice (some ⟨gp, op, none⟩) 1 pc) := HU8.out.cell 0
 have u1_ : w8.cell? ⟨U1, 1, none⟩ = some (.slice (some ⟨go, oo, none⟩) 1 oc) := HU8.out.cell 1
 have u2_ : w8.cell? ⟨U1, 2, none⟩ = some (.int .i64 5) := HU8.out.cell 2
 obtain ⟨v0_, v1_, v2_, v3_, v4_, v5_, v6_, v7_⟩ := cl8 (w := w8) HV8.out
 go_wp2_with fail
 clear p1 p2 p3 p4 p5 p6 p7 p8 p9 p10 p11 q0 q1 q2 q3 u0_ u1_ u2_ v0_ v1_ v2_ v3_ v4_ v5_ v6_ v7_
 refine ((psame_any _ [.slice (some ⟨gp, op, none⟩) 1 pc, .slice (some ⟨go, oo, none⟩) 1 oc, .int .i64 5] [.slice (some ⟨gp, op, none⟩) 1 pc, .slice (some ⟨go, oo, none⟩) 1 oc, .int .i64 5] w8 ⟨_, _, _, _, rfl, HLq.out, HP1.out.nxt slC_ok HA18.out, HO1.out.nxt kyC_ok HA18.out⟩ ⟨_, _, _, _, rfl, HLq.out, HP1.out.nxt slC_ok HA18.out, HO1.out.nxt kyC_ok HA18.out⟩ HG.out).mono (R' := fun e w' => ∃ u, e = .returned u ∧ Bel w8 w' ∧ u = .bool true) (fun e w' hE => by obtain ⟨rfl, hb⟩ := hE; exact ⟨_, rfl, hb, rfl⟩)).mono ?_
 rintro e w9 ⟨u, rfl, hb, rfl⟩
 have HT9 := Lib.hid (HT8.out.kept hb)
 have HA19 := Lib.hid (bt HA18.out hb)
 have HU9 := Lib.hid (HU8.out.next hb)
 have HV9 := Lib.hid (HV8.out.next hb)
 have HE9 := Lib.hid (HE8.out.next hb)
 have HBz9 := Lib.hid (bt HBz8.out hb)
 clear hb
 obtain ⟨p1, p2, p3, p4, p5, p6, p7, p8, p9, p10, p11, q0, q1, q2, q3⟩ := HF.out
 have p1 : w9.cell? ⟨gp, op + 1, none⟩ = some (.slice (some ⟨gi, oi, none⟩) 2 ic) := cell_kept HA19.out p1
 have p2 : w9.cell? ⟨gp, op + 2, none⟩ = some (.slice (some ⟨gf, of, none⟩) 2 fc) := cell_kept HA19.out p2
 have p3 : w9.cell? ⟨gp, op + 3, none⟩ = some (.int .i64 hd.k) := cell_kept HA19.out p3
 have p4 : w9.cell? ⟨gp, op + 4, none⟩ = some (.int .i64 hd.n) := cell_kept HA19.out p4
 have p5 : w9.cell? ⟨gp, op + 5, none⟩ = some (.int .i64 hd.vk) := cell_kept HA19.out p5
 have p6 : w9.cell? ⟨gp, op + 6, none⟩ = some (.int .i64 hd.vn) := cell_kept HA19.out p6
 have p7 : w9.cell? ⟨gp, op + 7, none⟩ = some (.string hd.vs) := cell_kept HA19.out p7
 have p8 : w9.cell? ⟨gp, op + 8, none⟩ = some (.string hd.tab) := cell_kept HA19.out p8
 have p9 : w9.cell? ⟨gp, op + 9, none⟩ = some (.string hd.col) := cell_kept HA19.out p9
 have p10 : w9.cell? ⟨gp, op + 10, none⟩ = some (.slice A9 n9 c9) := cell_kept HA19.out p10
 have p11 : w9.cell? ⟨gp, op + 11, none⟩ = some (.slice gA 1 gc) := cell_kept HA19.out p11
 have q0 : w9.cell? ⟨gi, oi + 10 + 9, none⟩ = some (.string ⟨#[110]⟩) := cell_kept HA19.out q0
 have q1 : w9.cell? ⟨gf, of + 1, none⟩ = some (.string ⟨#[120]⟩) := cell_kept HA19.out q1
 have q2 : w9.cell? ⟨gf, of + 11 + 2, none⟩ = some (.int .i64 2) := cell_kept HA19.out q2
 have q3 : w9.cell? ⟨go, oo + 1, none⟩ = some (.bool true) := cell_kept HA19.out q3
 have u0_ : w9.cell? ⟨U1, 0, none⟩ = some (.slice (some ⟨gp, op, none⟩) 1 pc) := HU9.out.cell 0
 have u1_ : w9.cell? ⟨U1, 1, none⟩ = some (.slice (some ⟨go, oo, none⟩) 1 oc) := HU9.out.cell 1
 have u2_ : w9.cell? ⟨U1, 2, none⟩ = some (.int .i64 5) := HU9.out.cell 2
 obtain ⟨v0_, v1_, v2_, v3_, v4_, v5_, v6_, v7_⟩ := cl8 (w := w9) HV9.out
 clear p1 p2 p3 p4 p5 p6 p7 p8 p9 p10 p11 q0 q1 q2 q3 u0_ u1_ u2_ v0_ v1_ v2_ v3_ v4_ v5_ v6_ v7_
 go_wp2_with fail
 go_ret
 exact ⟨rfl, HBz9.out⟩
end Go.Proofs.YtfjimoccliejdaaGreatDoor
end
section
namespace Go.Proofs.YtfjimoccliejdaaGreatDoor
open Go.RowKit Go.Shelf

end Go.Proofs.YtfjimoccliejdaaGreatDoor
end
section
namespace Go.Proofs.YtfjimoccliejdaaGreatDoor
open Go.RowKit Go.Shelf

end Go.Proofs.YtfjimoccliejdaaGreatDoor
end
section
namespace Go.Proofs.YtfjimoccliejdaaGreatDoor
open Go.RowKit Go.Shelf


end Go.Proofs.YtfjimoccliejdaaGreatDoor
end
section
namespace Go.Proofs.YtfjimoccliejdaaGreatDoor.Pa
open Lx (B Tok)

def nz (s : Ps) : Ps := ⟨s.ts.map fun x => (x.1, 0), s.bad⟩
def NZ {α : Type} (f : Ps → α × Ps) : Prop := ∀ s, f (nz s) = ((f s).1, nz (f s).2)
section
variable {or : Ps → Ex × Ps} (ho : NZ or)
include ho
end
section
variable {or : Ps → Ex × Ps} (ho : NZ or)
include ho
end
end Go.Proofs.YtfjimoccliejdaaGreatDoor.Pa
end
section
namespace Go.Proofs.YtfjimoccliejdaaGreatDoor
open Go.RowKit Go.Shelf

end Go.Proofs.YtfjimoccliejdaaGreatDoor
end
section
namespace Go.Proofs.YtfjimoccliejdaaGreatDoor.Lx

end Go.Proofs.YtfjimoccliejdaaGreatDoor.Lx
end
section
namespace Go.Proofs.YtfjimoccliejdaaGreatDoor

end Go.Proofs.YtfjimoccliejdaaGreatDoor
end
section
namespace Go.Proofs.YtfjimoccliejdaaGreatDoor
open Go.RowKit Go.Shelf

def InP (w : World) (A : Option Addr) (l : List Int) : Prop := l = [] ∨ ∃ g o, A = some ⟨g, o, none⟩ ∧ g < w.heap.size ∧ ∀ (j : Nat) v, l[j]? = some v → w.cell? ⟨g, o + j, none⟩ = some (.int .i64 v)
theorem Said.more {base : Nat} {W1 W : World} {v : Value} {said : Lx.B} (h : Said base W1 W v said) (t : Lx.B) {v' : Value} {w' : World} (ho : w'.ownsRow base 5 1 v' (said.length + t.length) (u8s said ++ u8s t)) (hg : W.grownBy w' v.ownBlock) : Said base W1 w' v' (said ++ t) := by
 have hle := h.le
 have hs := hg.size
 refine ⟨by simpa using ho, h.bel.trans ((Below.refl base W).grown hg hle (fun k hk => (h.own.lt k hk).1)), by omega⟩
end Go.Proofs.YtfjimoccliejdaaGreatDoor
end
section
namespace Go.Proofs.YtfjimoccliejdaaGreatDoor
open Go.RowKit Go.Shelf

theorem InP.kept {w w' : World} {A : Option Addr} {l : List Int} (h : InP w A l) (hb : Below w.heap.size w w') : InP w' A l := by
 rcases h with h | ⟨g, o, rfl, hg, h⟩
 ·exact .inl h
 ·exact .inr ⟨g, o, rfl, Nat.lt_of_lt_of_le hg hb.size, fun j v hv => (World.cell?_of_block (hb.block g hg)).trans (h j v hv)⟩
end Go.Proofs.YtfjimoccliejdaaGreatDoor
end
section
namespace Go.Proofs.YtfjimoccliejdaaGreatDoor
open Go.RowKit Go.Shelf

theorem exZ_ev (w : World) : EV Pa.exZ (XV ⟨0, 0, 0, 0, ⟨#[]⟩, ⟨#[]⟩, ⟨#[]⟩⟩ none 0 0) w := ⟨none, 0, rfl, Nat.le_refl _, by show XsB _ w [] none; rw [XsB]; trivial⟩
theorem wh_expr {fn : FuncId} {s : ByteArray} {W : World} {x : Ex} (h : Calls Tryz.prog fn #[.string s] W (WhE exC #[.int .i64 0, .int .i64 0, .int .i64 0, .int .i64 0, .string ⟨#[]⟩, .string ⟨#[]⟩, .string ⟨#[]⟩, .slice none 0 0] (.ok x) W)) :
  Calls Tryz.prog fn #[.string s] W fun e w' => ∃ (A : Option Addr) (cap : Nat), e = .returned (.tuple #[.agg #[.int .i64 x.hd.k, .int .i64 x.hd.n, .int .i64 x.hd.vk, .int .i64 x.hd.vn, .string x.hd.vs, .string x.hd.tab, .string x.hd.col, .slice A x.kids.length cap], .int .i64 0, .int .i64 0]) ∧ EV x (XV x.hd A x.kids.length cap) w' ∧ Below W.heap.size W w' := by
 refine h.mono fun e w' hE => ?_
 obtain ⟨c, rfl, hC, hb⟩ := hE
 have hC2 := exC_ok.go (B' := Ab w') (fun _ _ => rfl) (fun k hk => hk.2) hC
 obtain ⟨A, cap, rfl, _, _⟩ := exC_form hC
 exact ⟨A, cap, rfl, exC_of_ev hC2, hb⟩
theorem wh_bad {fn : FuncId} {s : ByteArray} {W : World} {n k : Nat} (h : Calls Tryz.prog fn #[.string s] W (WhE exC #[.int .i64 0, .int .i64 0, .int .i64 0, .int .i64 0, .string ⟨#[]⟩, .string ⟨#[]⟩, .string ⟨#[]⟩, .slice none 0 0] (.bad n k) W)) :
  Calls Tryz.prog fn #[.string s] W fun e w' => e = .returned (.tuple #[.agg #[.int .i64 0, .int .i64 0, .int .i64 0, .int .i64 0, .string ⟨#[]⟩, .string ⟨#[]⟩, .string ⟨#[]⟩, .slice none 0 0], .int .i64 n, .int .i64 k]) ∧ Below W.heap.size W w' := h
set_option maxRecDepth 100000 in
set_option maxHeartbeats 8000000 in
theorem exprs_walk (s : ByteArray) (w : World) (hT : LvT w) :
  Calls Tryz.prog 4 #[.string s] w fun e w' => e = .returned (.bool true) ∧ Below w.heap.size w w' := by
 have HLv := Lib.hid (fun W (hb : Below w.heap.size w W) => lives11_yes W (hT.kept hb))
 have HR := Lib.hid (Below.refl w.heap.size w)
 by_cases h1 : (5000 : Int) < (s.size : Int)
 ·clear hT
  go_enter Tryz.func4, Tryz.ntmps4
  go_wp2_with fail
  refine (HLv.out _ HR.out).mono ?_
  rintro e w9 ⟨rfl, hB⟩
  have HB9 := Lib.hid (bt HR.out hB)
  clear hB
  go_wp2_with fail
  go_ret
  exact ⟨rfl, HB9.out⟩
 have hs : s.size ≤ 16384 := by omega
 have hA := pexpr_any s w hs hT.t hT.o
 have hB := fun W => qexpr_any s W hs
 cases hq : whR (Pa.lev 40008 0) okX (bs s) with
 | bad n k =>
  rw [hq] at hA
  have HA := Lib.hid (wh_bad hA)
  have HBx := Lib.hid (fun W => wh_bad (by have h := hB W; rw [hq] at h; exact h))
  clear hq hA hB hT hs
  go_enter Tryz.func4, Tryz.ntmps4
  go_wp2_with fail
  refine HA.out.mono ?_
  rintro e w1 ⟨rfl, hb⟩
  have HV1 := Lib.hid (show BxU _ w1.heap.size #[.int .i64 0, .int .i64 0, .int .i64 0, .int .i64 0, .string ⟨#[]⟩, .string ⟨#[]⟩, .string ⟨#[]⟩, .slice none 0 0] 37 from (MapKept.heap_alloc w1 (.cells #[.int .i64 0, .int .i64 0, .int .i64 0, .int .i64 0, .string ⟨#[]⟩, .string ⟨#[]⟩, .string ⟨#[]⟩, .slice none 0 0] 37)).1)
  have HB1 := Lib.hid (bt hb (ba w1 (.cells #[.int .i64 0, .int .i64 0, .int .i64 0, .int .i64 0, .string ⟨#[]⟩, .string ⟨#[]⟩, .string ⟨#[]⟩, .slice none 0 0] 37)))
  clear hb
  go_upto_region 4 with fail
  generalize w1.alloc (.cells #[.int .i64 0, .int .i64 0, .int .i64 0, .int .i64 0, .string ⟨#[]⟩, .string ⟨#[]⟩, .string ⟨#[]⟩, .slice none 0 0] 37) = W1 at HV1 HB1 ⊢
  generalize w1.heap.size = U at HV1 ⊢
  go_wp2_with fail
  refine (HBx.out _).mono ?_
  rintro e w2 ⟨rfl, hb⟩
  have HU2 := Lib.hid ((HV1.out.next hb).next (ba w2 (.cells #[.int .i64 0, .int .i64 0, .int .i64 0, .int .i64 0, .string ⟨#[]⟩, .string ⟨#[]⟩, .string ⟨#[]⟩, .slice none 0 0] 37)))
  have HV2 := Lib.hid (show BxU _ w2.heap.size #[.int .i64 0, .int .i64 0, .int .i64 0, .int .i64 0, .string ⟨#[]⟩, .string ⟨#[]⟩, .string ⟨#[]⟩, .slice none 0 0] 37 from (MapKept.heap_alloc w2 (.cells #[.int .i64 0, .int .i64 0, .int .i64 0, .int .i64 0, .string ⟨#[]⟩, .string ⟨#[]⟩, .string ⟨#[]⟩, .slice none 0 0] 37)).1)
  have HB2 := Lib.hid (bt HB1.out (bt hb (ba w2 (.cells #[.int .i64 0, .int .i64 0, .int .i64 0, .int .i64 0, .string ⟨#[]⟩, .string ⟨#[]⟩, .string ⟨#[]⟩, .slice none 0 0] 37))))
  clear hb
  go_upto_region 5 with fail
  generalize w2.alloc (.cells #[.int .i64 0, .int .i64 0, .int .i64 0, .int .i64 0, .string ⟨#[]⟩, .string ⟨#[]⟩, .string ⟨#[]⟩, .slice none 0 0] 37) = W2 at HU2 HV2 HB2 ⊢
  generalize w2.heap.size = V at HV2 ⊢
  go_wp2_with fail
  refine (HLv.out _ HB2.out).mono ?_
  rintro e w3 ⟨rfl, hb⟩
  have HB3 := Lib.hid (bt HB2.out hb)
  have HU3 := Lib.hid (HU2.out.next hb)
  have HV3 := Lib.hid (HV2.out.next hb)
  clear hb
  obtain ⟨u0_, u1_, u2_, u3_, u4_, u5_, u6_, u7_⟩ := cl8 (w := w3) HU3.out
  obtain ⟨v0_, v1_, v2_, v3_, v4_, v5_, v6_, v7_⟩ := cl8 (w := w3) HV3.out
  go_wp2_with fail
  refine ((rv_same (x := Pa.exZ) (y := Pa.exZ) (exZ_ev w3) (exZ_ev w3) (by decide) (by decide) (same_self _)).mono (R' := fun e w5 => e = .returned (.bool true) ∧ Below w3.heap.size w3 w5) (fun e w5 hE => by obtain ⟨u, rfl, hb, rfl⟩ := hE; exact ⟨rfl, hb⟩)).mono ?_
  rintro e w4 ⟨rfl, hb⟩
  have HB4 := Lib.hid (bt HB3.out hb)
  clear hb
  go_wp2_with fail
  go_ret
  exact ⟨rfl, HB4.out⟩
 | ok x =>
  rw [hq] at hA
  have HA := Lib.hid (wh_expr hA)
  have HBx := Lib.hid (fun W => wh_expr (by have h := hB W; rw [hq] at h; exact h))
  have HG := Lib.hid (show Gd x by
   obtain ⟨ts, n, h1, rfl, _, _⟩ := whR_ok hq
   exact lev_gd 40008 0 (text_tt h1).1)
  clear hq hA hB hT hs
  go_enter Tryz.func4, Tryz.ntmps4
  go_wp2_with fail
  refine HA.out.mono ?_
  rintro e w1 ⟨A1, c1, rfl, hE, hb⟩
  have hbx := ba w1 (.cells #[.int .i64 x.hd.k, .int .i64 x.hd.n, .int .i64 x.hd.vk, .int .i64 x.hd.vn, .string x.hd.vs, .string x.hd.tab, .string x.hd.col, .slice A1 x.kids.length c1] 37)
  have HV1 := Lib.hid (show BxU _ w1.heap.size #[.int .i64 x.hd.k, .int .i64 x.hd.n, .int .i64 x.hd.vk, .int .i64 x.hd.vn, .string x.hd.vs, .string x.hd.tab, .string x.hd.col, .slice A1 x.kids.length c1] 37 from (MapKept.heap_alloc w1 (.cells #[.int .i64 x.hd.k, .int .i64 x.hd.n, .int .i64 x.hd.vk, .int .i64 x.hd.vn, .string x.hd.vs, .string x.hd.tab, .string x.hd.col, .slice A1 x.kids.length c1] 37)).1)
  have HB1 := Lib.hid (bt hb hbx)
  have HE1 := Lib.hid (hE.next hbx)
  clear hb hE hbx
  go_upto_region 4 with fail
  generalize w1.alloc (.cells #[.int .i64 x.hd.k, .int .i64 x.hd.n, .int .i64 x.hd.vk, .int .i64 x.hd.vn, .string x.hd.vs, .string x.hd.tab, .string x.hd.col, .slice A1 x.kids.length c1] 37) = W1 at HV1 HB1 HE1 ⊢
  generalize w1.heap.size = U at HV1 ⊢
  go_wp2_with fail
  refine (HBx.out _).mono ?_
  rintro e w2 ⟨A2, c2, rfl, hE, hb⟩
  have hbx := ba w2 (.cells #[.int .i64 x.hd.k, .int .i64 x.hd.n, .int .i64 x.hd.vk, .int .i64 x.hd.vn, .string x.hd.vs, .string x.hd.tab, .string x.hd.col, .slice A2 x.kids.length c2] 37)
  have HU2 := Lib.hid ((HV1.out.next hb).next hbx)
  have HV2 := Lib.hid (show BxU _ w2.heap.size #[.int .i64 x.hd.k, .int .i64 x.hd.n, .int .i64 x.hd.vk, .int .i64 x.hd.vn, .string x.hd.vs, .string x.hd.tab, .string x.hd.col, .slice A2 x.kids.length c2] 37 from (MapKept.heap_alloc w2 (.cells #[.int .i64 x.hd.k, .int .i64 x.hd.n, .int .i64 x.hd.vk, .int .i64 x.hd.vn, .string x.hd.vs, .string x.hd.tab, .string x.hd.col, .slice A2 x.kids.length c2] 37)).1)
  have HB2 := Lib.hid (bt HB1.out (bt hb hbx))
  have HE2 := Lib.hid ((HE1.out.next hb).next hbx)
  have HF2 := Lib.hid (hE.next hbx)
  clear hb hE hbx
  go_upto_region 5 with fail
  generalize w2.alloc (.cells #[.int .i64 x.hd.k, .int .i64 x.hd.n, .int .i64 x.hd.vk, .int .i64 x.hd.vn, .string x.hd.vs, .string x.hd.tab, .string x.hd.col, .slice A2 x.kids.length c2] 37) = W2 at HU2 HV2 HB2 HE2 HF2 ⊢
  generalize w2.heap.size = V at HV2 ⊢
  go_wp2_with fail
  refine (HLv.out _ HB2.out).mono ?_
  rintro e w3 ⟨rfl, hb⟩
  have HB3 := Lib.hid (bt HB2.out hb)
  have HU3 := Lib.hid (HU2.out.next hb)
  have HV3 := Lib.hid (HV2.out.next hb)
  have HE3 := Lib.hid (HE2.out.next hb)
  have HF3 := Lib.hid (HF2.out.next hb)
  clear hb
  obtain ⟨u0_, u1_, u2_, u3_, u4_, u5_, u6_, u7_⟩ := cl8 (w := w3) HU3.out
  obtain ⟨v0_, v1_, v2_, v3_, v4_, v5_, v6_, v7_⟩ := cl8 (w := w3) HV3.out
  go_wp2_with fail
  refine ((rv_same HE3.out HF3.out (Nat.le_trans HG.out.cnt (by decide)) (Nat.le_trans HG.out.cnt (by decide)) (same_self _)).mono (R' := fun e w5 => e = .returned (.bool true) ∧ Below w3.heap.size w3 w5) (fun e w5 hE => by obtain ⟨u, rfl, hb, rfl⟩ := hE; exact ⟨rfl, hb⟩)).mono ?_
  rintro e w4 ⟨rfl, hb⟩
  have HB4 := Lib.hid (bt HB3.out hb)
  clear hb
  go_wp2_with fail
  go_ret
  exact ⟨rfl, HB4.out⟩
end Go.Proofs.YtfjimoccliejdaaGreatDoor
end
section
namespace Go.Proofs.YtfjimoccliejdaaGreatDoor
open Go.ChangeShapes Go.WideShapes Go.ChangeAt Go.RowKit

section
variable {H : Type} {enc : TypeId × Value → H} {P : Program}

theorem belowAll (hl : laidOutB P = true) {W W' : World} (hb : Below W.heap.size W W') :
  ∀ {ts : List TypeId} {vs : List Value} {ds : List (DataW H)} {ps : List MemPlace}, (ts.all fun t => P.readableRec t && decide (t < P.types.size)) = true →
   DataW.TrodAll enc P W 0 (fun _ => true) true ts vs ds ps → (∀ x ∈ ps, x.block < W.heap.size) → DataW.TrodAll enc P W' 0 (fun b => decide (b < W.heap.size)) true ts vs ds ps
 | [], [], [], _, _, h, _ => h
 | [], [], _ :: _, _, _, h, _ => h.elim
 | [], _ :: _, _, _, _, h, _ => h.elim
 | _ :: _, [], _, _, _, h, _ => h.elim
 | _ :: _, _ :: _, [], _, _, h, _ => h.elim
 | t :: ts, v :: vs, d :: ds, ps, hr, h, hlt => by
  obtain ⟨p, q, h1, h2, rfl⟩ := h
  simp only [List.all_cons, Bool.and_eq_true, decide_eq_true_eq] at hr
  exact ⟨p, q, Below.trod hl hr.1.1 hr.1.2 h1 hb (fun x hx => hlt x (by simp [hx])), belowAll hl hb (by simpa using hr.2) h2 (fun x hx => hlt x (by simp [hx])), rfl⟩

theorem law_post {f : Func} {s : ChangeSpec} {W W' : World} {args : Array Value} {ds gs : List (DataW H)} {before : List MemPlace} {tb : TypeId} (hl : laidOutB P = true)
  (hts : (f.params.toList.all fun t => P.readableRec t && decide (t < P.types.size)) = true) (hres : f.resultTypes = #[tb]) (htb : P.underlying tb = some .bool)
  (hvars : s.vars = []) (hfn : s.fn H ds = { results := [.lit (.bool true)], args := ds })
  (hW : DataW.Whole enc P f.params.toList s.vars false W args.toList ds gs before) (hb : Below W.heap.size W W') :
  s.post enc P f false true false false W args (.bool true) W' := by
 have hW0 := hW
 obtain ⟨p, q, hA, hV, rfl, _, _⟩ := hW
 rw [hvars] at hV
 obtain ⟨rfl, rfl⟩ := trodVars_none hV
 refine ⟨ds, [], p ++ [], [], p, [], hW0, ?_, ?_, ?_, hb.frame _, fun h => by cases h⟩
 ·rw [hres, List.append_nil, hfn]
  exact trodAll_mk1 (shut_bool htb _)
 ·rw [List.append_nil, hfn]
  exact belowAll hl hb hts hA (fun x hx => by simpa using hW0.lt x (by simp [hx]))
 ·rw [hvars, List.append_nil, hfn]
  rfl
end
end Go.Proofs.YtfjimoccliejdaaGreatDoor
end
