/-
  Package catalog, the law's own: a table of two columns and two rows.
Package catalog: Check.
The contract of page.Pages.
Plain: a page with a row more.
A page of the call's own in memory; contracts of page.New, draft.count, draft.fits.
The contract of draft.put.
The contract of page.Add.
Plain: rows filled into pages; lists of pages of the call's own in memory.
The contract of page.Fill.
-/
import Derived.Test.YtmjckdgomlppeaaGreatDoorZ9
import Derived.Laws.EntriesVeiled
import Derived.Laws.MakeOwn
import Derived.Deep.QuietTactic
import Derived.BigQuiet
import Derived.BigRegion
import Derived.Laws.CopyOwn
import Derived.Deep.RegionLawGrows
section
namespace Go.Proofs.YtmjckdgomlppeaaGreatDoor
open Go.RowKit Go.Shelf
attribute [local go_sem] Oper.semAt_some

def coA : Co := ⟨⟨#[]⟩, ⟨#[97]⟩, 2⟩
def coB : Co := ⟨⟨#[]⟩, ⟨#[98]⟩, 3⟩
def vaN (n : Int) : Va := ⟨2, n, ⟨#[]⟩⟩
def vaX : Va := ⟨3, 0, ⟨#[120]⟩⟩
def vaZ : Va := ⟨0, 0, ⟨#[]⟩⟩
def rowX : List Va := [vaN 1, vaX]
def rowY : List Va := [vaN 2, vaZ]
def smallT (nm : ByteArray) : Ta := ⟨nm, [coA, coB], [rowX, rowY]⟩
theorem co_new (w : World) (l : List Co) : CoAt (w.alloc (.cells (coC l).toArray 57)) (some ⟨w.heap.size, 0, none⟩) l := by
  refine .inr ⟨w.heap.size, 0, rfl, by simp, fun i v hv => ?_⟩
  obtain ⟨e0, e1, e2⟩ := coC_get l i v hv
  have e := heap_alloc_new w (.cells (coC l).toArray 57)
  refine ⟨?_, ?_, ?_⟩ <;> unfold World.cell? <;> rw [e] <;> simp [e0, e1, e2]
theorem rows_two (w : World) (g1 g2 : Nat) (r1 r2 : List Va) (h1 : RowAt w (some ⟨g1, 0, none⟩) r1) (h2 : RowAt w (some ⟨g2, 0, none⟩) r2) (c1 c2 : Nat) :
    RowsAt (w.alloc (.cells #[.slice (some ⟨g1, 0, none⟩) r1.length c1, .slice (some ⟨g2, 0, none⟩) r2.length c2] 38)) (some ⟨w.heap.size, 0, none⟩) [r1, r2] := by
  have e := heap_alloc_new w (.cells #[.slice (some ⟨g1, 0, none⟩) r1.length c1, .slice (some ⟨g2, 0, none⟩) r2.length c2] 38)
  refine .inr ⟨w.heap.size, 0, rfl, by simp, fun i r hr => ?_⟩
  match i, hr with
  | 0, hr => cases hr; exact ⟨_, c1, by unfold World.cell?; rw [e]; rfl, h1.kept (ba _ _), fun hh => by cases hh⟩
  | 1, hr => cases hr; exact ⟨_, c2, by unfold World.cell?; rw [e]; rfl, h2.kept (ba _ _), fun hh => by cases hh⟩
/-- What Small gives. -/
def SmallE (nm : ByteArray) (w : World) (e : Ending) (w' : World) : Prop :=
  ∃ gc gr : Nat, e = .returned (TV nm (some ⟨gc, 0, none⟩) 2 2 (some ⟨gr, 0, none⟩) 2 2) ∧ w.heap.size ≤ gc ∧ w.heap.size ≤ gr ∧ TaOk w' (smallT nm) (some ⟨gc, 0, none⟩) 2 (some ⟨gr, 0, none⟩) 2 ∧ Below w.heap.size w w'
set_option maxRecDepth 100000 in
set_option maxHeartbeats 2000000 in
theorem small_any (nm : ByteArray) (wz : World) : Calls Tryz.prog 29 #[.string nm] wz (SmallE nm wz) := by
  go_enter Tryz.func29, Tryz.ntmps29
  have h0 := ba wz (tbox ⟨#[]⟩ none 0 0 none 0 0)
  have HX0 := Lib.hid (MapKept.heap_alloc wz (tbox ⟨#[]⟩ none 0 0 none 0 0)).1
  go_upto_region 1 with fail
  obtain ⟨u, hu⟩ : ∃ u, wz.heap.size = u := ⟨_, rfl⟩
  generalize wz.alloc (tbox ⟨#[]⟩ none 0 0 none 0 0) = W0 at h0 HX0 ⊢
  rw [hu] at HX0
  try rw [hu]
  have HU := Lib.hid hu
  have HB := Lib.hid h0
  have HL0 := Lib.hid (show wz.heap.size < W0.heap.size from hu ▸ (Array.getElem?_eq_some_iff.1 HX0.out).1)
  clear h0 hu
  go_wp2_with fail
  have hc := co_new W0 [coA, coB]
  change CoAt (W0.alloc (.cells #[.string ⟨#[]⟩, .string ⟨#[97]⟩, .int .i64 2, .string ⟨#[]⟩, .string ⟨#[98]⟩, .int .i64 3] 57)) _ _ at hc
  have hb0 := ba W0 (.cells #[.string ⟨#[]⟩, .string ⟨#[97]⟩, .int .i64 2, .string ⟨#[]⟩, .string ⟨#[98]⟩, .int .i64 3] 57)
  generalize W0.alloc (.cells #[.string ⟨#[]⟩, .string ⟨#[97]⟩, .int .i64 2, .string ⟨#[]⟩, .string ⟨#[98]⟩, .int .i64 3] 57) = W1 at hc hb0 ⊢
  have HGc := Lib.hid (Nat.le_refl W0.heap.size)
  revert HGc
  generalize hgc : W0.heap.size = gc at hc ⊢
  intro HGc
  have HGc := Lib.hid (show wz.heap.size ≤ gc by have := HL0.out; omega)
  refine (refInt_any 1 W1).mono ?_
  rintro e w2 ⟨rfl, hb1⟩
  go_wp2_with fail
  refine (refText_any ⟨#[120]⟩ w2).mono ?_
  rintro e w3 ⟨rfl, hb2⟩
  have HC := Lib.hid ((hc.kept hb1).kept hb2)
  have HB0 := Lib.hid (bt (bt hb0 hb1) hb2)
  clear hc hb0 hb1 hb2
  go_wp2_with fail
  have hr := (Own.new w3 69 rowX).row
  change RowAt (w3.alloc (.cells #[.int .i64 2, .int .i64 1, .string ⟨#[]⟩, .int .i64 3, .int .i64 0, .string ⟨#[120]⟩] 69)) _ _ at hr
  have hb3 := ba w3 (.cells #[.int .i64 2, .int .i64 1, .string ⟨#[]⟩, .int .i64 3, .int .i64 0, .string ⟨#[120]⟩] 69)
  generalize w3.alloc (.cells #[.int .i64 2, .int .i64 1, .string ⟨#[]⟩, .int .i64 3, .int .i64 0, .string ⟨#[120]⟩] 69) = W3 at hr hb3 ⊢
  replace HC := Lib.hid (HC.out.kept hb3)
  replace HB0 := Lib.hid (bt HB0.out hb3)
  generalize w3.heap.size = g1 at hr ⊢
  clear hb3
  refine (refInt_any 2 W3).mono ?_
  rintro e w4 ⟨rfl, hb4⟩
  replace HC := Lib.hid (HC.out.kept hb4)
  replace HB0 := Lib.hid (bt HB0.out hb4)
  have HR1 := Lib.hid (hr.kept hb4)
  have HB04 := Lib.hid (HB0.out)
  clear hr hb4
  have hr := (Own.new w4 69 rowY).row
  change RowAt (w4.alloc (.cells #[.int .i64 2, .int .i64 2, .string ⟨#[]⟩, .int .i64 0, .int .i64 0, .string ⟨#[]⟩] 69)) _ _ at hr
  have hb5 := ba w4 (.cells #[.int .i64 2, .int .i64 2, .string ⟨#[]⟩, .int .i64 0, .int .i64 0, .string ⟨#[]⟩] 69)
  have hR := rows_two _ g1 w4.heap.size rowX rowY (HR1.out.kept hb5) hr 2 2
  change RowsAt (World.alloc _ (.cells #[.slice (some ⟨g1, 0, none⟩) 2 2, .slice (some ⟨w4.heap.size, 0, none⟩) 2 2] 38)) _ _ at hR
  have hb6 := ba (w4.alloc (.cells #[.int .i64 2, .int .i64 2, .string ⟨#[]⟩, .int .i64 0, .int .i64 0, .string ⟨#[]⟩] 69)) (.cells #[.slice (some ⟨g1, 0, none⟩) 2 2, .slice (some ⟨w4.heap.size, 0, none⟩) 2 2] 38)
  replace HC := Lib.hid ((HC.out.kept hb5).kept hb6)
  replace HB0 := Lib.hid (bt (bt HB0.out hb5) hb6)
  have HGr := Lib.hid (show W0.heap.size ≤ w4.heap.size by have := HB04.out.size; omega)
  have hz : ((w4.alloc (.cells #[.int .i64 2, .int .i64 2, .string ⟨#[]⟩, .int .i64 0, .int .i64 0, .string ⟨#[]⟩] 69)).alloc (.cells #[.slice (some ⟨g1, 0, none⟩) 2 2, .slice (some ⟨w4.heap.size, 0, none⟩) 2 2] 38)).heap[u]? = some (tbox ⟨#[]⟩ none 0 0 none 0 0) := (HB0.out.block u (Array.getElem?_eq_some_iff.1 HX0.out).1).trans HX0.out
  have hul := (Array.getElem?_eq_some_iff.1 HX0.out).1
  have es : (w4.alloc (.cells #[.int .i64 2, .int .i64 2, .string ⟨#[]⟩, .int .i64 0, .int .i64 0, .string ⟨#[]⟩] 69)).heap.size = w4.heap.size + 1 := by simp
  rw [es] at hR
  clear hb5 hb6 hr es
  have HF := Lib.hid (show ∀ W, W = ((w4.alloc (.cells #[.int .i64 2, .int .i64 2, .string ⟨#[]⟩, .int .i64 0, .int .i64 0, .string ⟨#[]⟩] 69)).alloc (.cells #[.slice (some ⟨g1, 0, none⟩) 2 2, .slice (some ⟨w4.heap.size, 0, none⟩) 2 2] 38)) → (W.heap[u]? = some (tbox ⟨#[]⟩ none 0 0 none 0 0) ∧ CoAt W (some ⟨gc, 0, none⟩) [coA, coB] ∧ RowsAt W (some ⟨w4.heap.size + 1, 0, none⟩) [rowX, rowY] ∧ Below W0.heap.size W0 W) from fun W hW => by subst hW; exact ⟨hz, HC.out, hR, HB0.out⟩)
  have f0 : ((w4.alloc (.cells #[.int .i64 2, .int .i64 2, .string ⟨#[]⟩, .int .i64 0, .int .i64 0, .string ⟨#[]⟩] 69)).alloc (.cells #[.slice (some ⟨g1, 0, none⟩) 2 2, .slice (some ⟨w4.heap.size, 0, none⟩) 2 2] 38)).frozen? ⟨u, 0, none⟩ = false := by simp only [World.frozen?, hz]; rfl
  have f1 : ((w4.alloc (.cells #[.int .i64 2, .int .i64 2, .string ⟨#[]⟩, .int .i64 0, .int .i64 0, .string ⟨#[]⟩] 69)).alloc (.cells #[.slice (some ⟨g1, 0, none⟩) 2 2, .slice (some ⟨w4.heap.size, 0, none⟩) 2 2] 38)).frozen? ⟨u, 1, none⟩ = false := by simp only [World.frozen?, hz]; rfl
  have f2 : ((w4.alloc (.cells #[.int .i64 2, .int .i64 2, .string ⟨#[]⟩, .int .i64 0, .int .i64 0, .string ⟨#[]⟩] 69)).alloc (.cells #[.slice (some ⟨g1, 0, none⟩) 2 2, .slice (some ⟨w4.heap.size, 0, none⟩) 2 2] 38)).frozen? ⟨u, 2, none⟩ = false := by simp only [World.frozen?, hz]; rfl
  obtain ⟨q0, q1, q2⟩ := putT_cells hz nm (some ⟨gc, 0, none⟩) 2 2 (some ⟨w4.heap.size + 1, 0, none⟩) 2 2
  obtain ⟨z0, z1, z2⟩ := cell3 hz
  have HE := Lib.hid (show SmallE nm wz (.returned (TV nm (some ⟨gc, 0, none⟩) 2 2 (some ⟨w4.heap.size + 1, 0, none⟩) 2 2)) (putT ((w4.alloc (.cells #[.int .i64 2, .int .i64 2, .string ⟨#[]⟩, .int .i64 0, .int .i64 0, .string ⟨#[]⟩] 69)).alloc (.cells #[.slice (some ⟨g1, 0, none⟩) 2 2, .slice (some ⟨w4.heap.size, 0, none⟩) 2 2] 38)) u nm (some ⟨gc, 0, none⟩) 2 2 (some ⟨w4.heap.size + 1, 0, none⟩) 2 2) by
    refine ⟨gc, w4.heap.size + 1, rfl, HGc.out, by have := HGr.out; have := HL0.out; omega, ⟨putT_co hz HC.out _ _ _ _ _ _ _, Nat.le_refl _, by omega, fun hh => (by cases hh), putT_rows hz hR (by have := HGr.out; omega) _ _ _ _ _ _ _, Nat.le_refl _, by omega, fun hh => (by cases hh)⟩, ?_⟩
    exact putT_below (bt HB.out HB0.out) (by have := HU.out; omega) _ _ _ _ _ _ _)
  clear hz hR HF
  go_wp2_with fail
  refine bodyPost_ret (v := TV nm (some ⟨gc, 0, none⟩) 2 2 (some ⟨w4.heap.size + 1, 0, none⟩) 2 2) (by simp [results, Tryz.results29, go_sem, q0, q1, q2]) rfl HE.out
end Go.Proofs.YtmjckdgomlppeaaGreatDoor
end
section
namespace Go.Proofs.YtmjckdgomlppeaaGreatDoor
open Go.RowKit Go.Shelf
attribute [local go_sem] Oper.semAt_some

abbrev zTa : Ta := ⟨⟨#[]⟩, [], []⟩
/-- Is a table odd, when so many names were told of? -/
def oddT (S : List ByteArray) (t : Ta) : Bool := hasB S t.nm || !isName t.nm || !tabB t
def oddTAt (l : List Ta) (i : Nat) : Bool := oddT ((l.take i).map Ta.nm) (l.getD i zTa)
def oddTs (l : List Ta) : Bool := (List.range l.length).any (oddTAt l)
def catB (l : List Ta) : Bool := decide (l.length ≤ 16) && !oddTs l
theorem oddTs_no {l : List Ta} (h : ∀ i, i < l.length → oddTAt l i = false) : oddTs l = false := by
  unfold oddTs
  rw [List.any_eq_false]
  intro i hi
  rw [h i (List.mem_range.1 hi)]; simp
theorem oddTs_yes {l : List Ta} {j : Nat} (hj : j < l.length) (h : oddTAt l j = true) : oddTs l = true :=
  List.any_eq_true.2 ⟨j, List.mem_range.2 hj, h⟩
set_option maxRecDepth 100000 in
set_option maxHeartbeats 1000000 in
theorem oddTab_any (m p : Nat) (S : List ByteArray) (t : Ta) (A B : Option Addr) (c d : Nat) (w0 W : World) (h : TaOk w0 t A c B d) (hF : FineT t) (hO : OdAt W m S) (hp : W.heap[p]? = some (fbox m)) (hl : S.length < 100000) (hT : Tabs w0) (hB : Below w0.heap.size w0 W) (hm : w0.heap.size ≤ m) {b : Bool} (hb : oddT S t = b) :
    Calls Tryz.prog 34 #[TV t.nm A t.cols.length c B t.rows.length d, .pointer (some ⟨p, 0, none⟩)] W fun e W' => e = .returned (.bool b) ∧ OdAt W' m (S ++ [t.nm]) ∧ But m W W' := by
  have eg := enters_of Tryz.func54 (by kernel_rfl) rfl
  unfold Enters at eg
  have hba := ba W (tbox t.nm A t.cols.length c B t.rows.length d)
  have hfn : (W.alloc (tbox t.nm A t.cols.length c B t.rows.length d)).cell? ⟨p, 0, none⟩ = some (oddFn m) := by
    rw [hba.cell (p := ⟨p, 0, none⟩) (Array.getElem?_eq_some_iff.1 hp).1]; simp [World.cell?, hp]
  have hmW := hO.st.lt
  have HBx := Lib.hid (MapKept.heap_alloc W (tbox t.nm A t.cols.length c B t.rows.length d)).1
  obtain ⟨b1, hb1⟩ : ∃ b1, (hasB S t.nm || !isName t.nm) = b1 := ⟨_, rfl⟩
  have HC := Lib.hid (odd_any m S t.nm w0 _ (hO.next hba) hl hF.nm hT (bt hB hba) hm hb1)
  have HI := Lib.hid (fun W' (hb' : Below w0.heap.size w0 W') q (hq : tabB t = q) => isTable_any t A B c d W' (h.kept hb') hF (hT.kept hb') hq)
  have HB0 := Lib.hid (But.of hba (Nat.le_of_lt hmW))
  have HmW := Lib.hid hmW
  have HBw := Lib.hid hB
  have Hm := Lib.hid hm
  have HD := Lib.hid (show (b1 || !tabB t) = b by rw [← hb1]; exact hb)
  obtain ⟨nm, cols, rows⟩ := t
  clear h hF hO hp hl hT hB hm hb hba hmW hb1
  simp only at HBx HC HI HB0 hfn HD ⊢
  obtain ⟨x0, x1, x2⟩ := cell3 HBx.out
  go_enter Tryz.func34, Tryz.ntmps34
  go_wp2_with fail
  refine HC.out.mono ?_
  rintro e W3 ⟨rfl, hO3, hb3⟩
  have HO3 := Lib.hid hO3
  have HB3 := Lib.hid (HB0.out.trans hb3)
  cases b1
  · have hx : W3.heap[W.heap.size]? = some (tbox nm A cols.length c B rows.length d) := by
      rw [hb3.block _ (by simp) (by have := HmW.out; omega)]; exact HBx.out
    obtain ⟨y0, y1, y2⟩ := cell3 hx
    obtain ⟨q, hq⟩ : ∃ q, tabB ⟨nm, cols, rows⟩ = q := ⟨_, rfl⟩
    have HII := Lib.hid (HI.out W3 (HBw.out.trans (HB3.out.below.mono Hm.out)) q hq)
    have HDD := Lib.hid (show (!q) = b by rw [← HD.out, hq]; rfl)
    clear hx x0 x1 x2 hO3 hb3 HBx hq HD
    go_wp2_with fail
    refine HII.out.mono ?_
    rintro e W4 ⟨rfl, hb4⟩
    have HO4 := Lib.hid (HO3.out.next hb4)
    have HB4 := Lib.hid (HB3.out.trans (But.of hb4 (Nat.le_of_lt HO3.out.st.lt)))
    clear hb4
    go_wp2_with fail
    go_ret
    exact ⟨by rw [← HDD.out]; rfl, HO4.out, HB4.out⟩
  · have HDD := Lib.hid (show true = b by have := HD.out; rwa [Bool.true_or] at this)
    go_wp2_with fail
    go_ret
    exact ⟨by rw [← HDD.out]; rfl, HO3.out, HB3.out⟩
/-- What an index over tables finds. -/
def IdxT (l : List Ta) (m : Nat) (w : World) (e : Ending) (w' : World) : Prop :=
  ∃ i : Int, e = .returned (.int .i64 i) ∧ But m w w' ∧ ((i = -1 ∧ oddTs l = false) ∨ (∃ j : Nat, i = j ∧ oddTs l = true))
set_option maxRecDepth 100000 in
set_option maxHeartbeats 1000000 in
theorem indexTab_any (m p : Nat) (A : Option Addr) (c : Nat) (l : List Ta) (w0 w : World) (h : CtAt w0 A l) (hl : l.length ≤ 1000) (hO : OdAt w m []) (hp : w.heap[p]? = some (fbox m)) (hpm : p ≠ m) (hn : ∀ x ∈ l, FineT x) (hT : Tabs w0) (hB : Below w0.heap.size w0 w) (hm : w0.heap.size ≤ m) :
    Calls Tryz.prog 30 #[.slice A l.length c, .func (.func 34) #[] #[.pointer (some ⟨p, 0, none⟩)]] w (IdxT l m w) := by
  have eg := enters_of Tryz.func34 (by kernel_rfl) rfl
  unfold Enters at eg
  have HH := Lib.hid h
  have HNn := Lib.hid hn
  have HT := Lib.hid hT
  have HB := Lib.hid hB
  have HP := Lib.hid hp
  have HPl := Lib.hid (Array.getElem?_eq_some_iff.1 hp).1
  have HPm := Lib.hid hpm
  have Hm := Lib.hid hm
  have HO := Lib.hid hO
  clear h hn hT hB hp hpm hm hO
  go_enter Tryz.func30, Tryz.ntmps30
  go_wp2_with fail
  go_loopw [8] (fun i wr => ∃ j : Nat, j ≤ l.length ∧ i = .int .i64 j ∧ Hid (But m w wr) ∧ Hid (OdAt wr m ((l.take j).map Ta.nm)) ∧ Hid (∀ i, i < j → oddTAt l i = false)) (fun i _ => l.length - (intOf i).toNat)
  case atStart => exact ⟨0, Nat.zero_le _, rfl, Lib.hid (But.refl _ _), HO, Lib.hid (fun i hi => absurd hi (by omega))⟩
  case round =>
    obtain ⟨j, hj, rfl, HBu, HOd, HNo⟩ := hrel
    have HBw := Lib.hid (HB.out.trans (HBu.out.below.mono Hm.out))
    by_cases hlt : j < l.length
    · obtain ⟨b, off, rfl, hb, Ac, cc, Ar, dd, c0, c1, c2, hok⟩ := HH.out.at hlt
      replace c0 := (HBw.out.cell (p := ⟨b, _, none⟩) hb).trans c0
      replace c1 := (HBw.out.cell (p := ⟨b, _, none⟩) hb).trans c1
      replace c2 := (HBw.out.cell (p := ⟨b, _, none⟩) hb).trans c2
      obtain ⟨v, hv⟩ : ∃ v, l[j] = v := ⟨_, rfl⟩
      rw [hv] at c0 c1 c2 hok
      have HGd := Lib.hid (show l.getD j zTa = v by rw [List.getD_eq_getElem?_getD, List.getElem?_eq_getElem hlt, hv]; rfl)
      have HTk := Lib.hid (show (l.take (j + 1)).map Ta.nm = (l.take j).map Ta.nm ++ [v.nm] by rw [List.take_succ_eq_append_getElem hlt, List.map_append, hv]; rfl)
      obtain ⟨bq, hbq⟩ : ∃ bq, oddT ((l.take j).map Ta.nm) v = bq := ⟨_, rfl⟩
      have HC := Lib.hid (oddTab_any m p _ v Ac Ar cc dd w0 wr hok (HNn.out v (by rw [← hv]; exact List.getElem_mem hlt)) HOd.out ((HBu.out.block p HPl.out HPm.out).trans HP.out) (by rw [List.length_map, List.length_take]; omega) HT.out HBw.out Hm.out hbq)
      have HAt := Lib.hid (show oddTAt l j = bq by unfold oddTAt; rw [HGd.out]; exact hbq)
      obtain ⟨vt, vn, vy⟩ := v
      clear hv hbq hb hok
      cases bq
      · go_wp2_with fail
        refine HC.out.mono ?_
        rintro e w1 ⟨rfl, hO1, hb1⟩
        have HO1 := Lib.hid (show OdAt w1 m ((l.take (j + 1)).map Ta.nm) by rw [HTk.out]; exact hO1)
        have HB1 := Lib.hid (HBu.out.trans hb1)
        have HN1 := Lib.hid (fun i (hi : i < j + 1) => by
          rcases Nat.lt_or_ge i j with h | h
          · exact HNo.out i h
          · obtain rfl : i = j := by omega
            exact HAt.out)
        clear hO1 hb1
        go_wp2_with fail
        go_roundw
        case rel => exact ⟨j + 1, by omega, by go_num, HB1, HO1, HN1⟩
        case measure => simp [intOf]; omega
      · go_wp2_with fail
        refine HC.out.mono ?_
        rintro e w1 ⟨rfl, hO1, hb1⟩
        have HB1 := Lib.hid (HBu.out.trans hb1)
        have HY := Lib.hid (oddTs_yes hlt HAt.out)
        clear hO1 hb1
        go_wp2_with fail
        go_ret
        exact ⟨j, rfl, HB1.out, .inr ⟨j, rfl, HY.out⟩⟩
    · have HE := Lib.hid (oddTs_no (l := l) fun i hi => HNo.out i (by omega))
      go_wp2_with fail
      go_ret
      exact ⟨-1, rfl, HBu.out, .inl ⟨rfl, HE.out⟩⟩
set_option maxRecDepth 100000 in
theorem containsTab_any (m p : Nat) (A : Option Addr) (c : Nat) (l : List Ta) (w0 w : World) (h : CtAt w0 A l) (hl : l.length ≤ 1000) (hO : OdAt w m []) (hp : w.heap[p]? = some (fbox m)) (hpm : p ≠ m) (hn : ∀ x ∈ l, FineT x) (hT : Tabs w0) (hB : Below w0.heap.size w0 w) (hm : w0.heap.size ≤ m) {q : Bool} (hq : oddTs l = q) :
    Calls Tryz.prog 36 #[.slice A l.length c, .func (.func 34) #[] #[.pointer (some ⟨p, 0, none⟩)]] w fun e w' => e = .returned (.bool q) ∧ But m w w' := by
  have HI := Lib.hid (indexTab_any m p A c l w0 w h hl hO hp hpm hn hT hB hm)
  have HQ := Lib.hid hq
  clear h hO hp hpm hn hT hB hm hq
  go_enter Tryz.func36, Tryz.ntmps36
  go_wp2_with fail
  refine HI.out.mono ?_
  rintro e w1 ⟨i, rfl, hb1, hi⟩
  have HB := Lib.hid hb1
  rcases hi with ⟨rfl, ha⟩ | ⟨j, rfl, ha⟩
  · obtain rfl : false = q := by rw [← HQ.out, ha]
    clear hb1 ha
    go_wp2_with fail
    go_ret
    exact ⟨rfl, HB.out⟩
  · obtain rfl : true = q := by rw [← HQ.out, ha]
    clear hb1 ha
    go_wp2_with fail
    go_ret
    exact ⟨rfl, HB.out⟩
set_option maxRecDepth 100000 in
theorem catCheck_any (A : Option Addr) (c : Nat) (l : List Ta) (w : World) (h : CtAt w A l) (hl : l.length ≤ 9223372036854775807) (hn : ∀ x ∈ l, FineT x) (hT : Tabs w) {q : Bool} (hq : catB l = q) :
    Calls Tryz.prog 13 #[.slice A l.length c] w fun e w' => e = .returned (.int .i64 (if q then 0 else 130)) ∧ Below w.heap.size w w' := by
  have HH := Lib.hid h
  have HN := Lib.hid hn
  have HT := Lib.hid hT
  have HQ := Lib.hid hq
  clear h hn hT hq
  go_enter Tryz.func13, Tryz.ntmps13
  go_wp2_with fail
  refine (oddNames_any w).mono ?_
  rintro e w1 ⟨rfl, hO1, hb1⟩
  have hb2 := ba w1 (fbox w.heap.size)
  have HO2 := Lib.hid (hO1.next hb2)
  have HF2 := Lib.hid (MapKept.heap_alloc w1 (fbox w.heap.size)).1
  have HB2 := Lib.hid (bt hb1 hb2)
  have HS := Lib.hid (show w1.heap.size ≠ w.heap.size by have := hO1.st.lt; omega)
  clear hO1 hb1 hb2
  by_cases h2 : l.length ≤ 16
  · obtain ⟨qo, hqo⟩ : ∃ qo, oddTs l = qo := ⟨_, rfl⟩
    have HC := Lib.hid (containsTab_any w.heap.size w1.heap.size A c l w _ HH.out (by omega) HO2.out HF2.out HS.out HN.out HT.out HB2.out (Nat.le_refl _) hqo)
    have HQ2 := Lib.hid (show (!qo) = q by have := HQ.out; rw [catB, decide_eq_true h2, hqo] at this; simpa using this)
    have h2' : ¬ (16 : Int) < (l.length : Int) := by omega
    clear hqo h2 HQ
    go_upto_region 3 with fail
    generalize w1.alloc (.cells #[oddFn w.heap.size] 60) = W2 at HC HB2 ⊢
    generalize w1.heap.size = p at HC ⊢
    clear HO2 HF2
    go_wp2_with fail
    refine HC.out.mono ?_
    rintro e w3 ⟨rfl, hb3⟩
    have HB3 := Lib.hid (HB2.out.trans hb3.below)
    clear hb3
    cases qo
    · obtain rfl : true = q := HQ2.out
      go_wp2_with fail
      go_ret
      exact ⟨rfl, HB3.out⟩
    · obtain rfl : false = q := HQ2.out
      go_wp2_with fail
      go_ret
      exact ⟨rfl, HB3.out⟩
  · obtain rfl : false = q := by rw [← HQ.out, catB, decide_eq_false h2, Bool.false_and]
    have h2' : (16 : Int) < (l.length : Int) := by omega
    clear h2
    go_wp2_with fail
    go_ret
    exact ⟨rfl, HB2.out⟩
end Go.Proofs.YtmjckdgomlppeaaGreatDoor
end
section
namespace Go.Proofs.YtmjckdgomlppeaaGreatDoor
open Go.RowKit Go.Shelf

theorem Elems.up {w : World} {B : Nat} {xs : List Value} {p : List (List Va)} (h : Elems w 0 xs p) : Elems w B xs p :=
  ⟨h.1, fun k r hr => by
    obtain ⟨A, c, h1, ⟨h2, h3⟩, h4⟩ := h.2 k r hr
    exact ⟨A, c, h1, ⟨h2, fun hne b off hA => .inr ((h3 hne b off hA).resolve_left (Nat.not_lt_zero _))⟩, h4⟩⟩
theorem RowsIn.up {w : World} {B : Nat} {A : Option Addr} {p : List (List Va)} (h : RowsIn w 0 A p) : RowsIn w B A p := by
  rcases h with h | ⟨b, off, xs, h1, h2, h3, h4⟩
  · exact .inl h
  · exact .inr ⟨b, off, xs, h1, h2, h3, h4.up⟩

/-- A list of pages that came in. -/
def PagesAt (w : World) (B : Option Addr) (ps : List (List Int)) : Prop :=
  ps = [] ∨ ∃ b off : Nat, B = some ⟨b, off, none⟩ ∧ b < w.heap.size ∧ ∀ (i : Nat) (p : List Int), ps[i]? = some p → ∃ A c, w.cell? ⟨b, off + i, none⟩ = some (.slice A p.length c) ∧ BytesAt w A p ∧ p.length ≤ c
theorem PagesAt.at {w w' : World} {B : Option Addr} {ps : List (List Int)} (h : PagesAt w B ps) (hb : Below w.heap.size w w') {i : Nat} (hi : i < ps.length) :
    ∃ b off : Nat, B = some ⟨b, off, none⟩ ∧ ∃ A c, w'.cell? ⟨b, off + i, none⟩ = some (.slice A ps[i].length c) ∧ BytesAt w' A ps[i] ∧ ps[i].length ≤ c := by
  rcases h with h | ⟨b, off, hB, hlt, hc⟩
  · subst h; simp at hi
  · obtain ⟨A, c, hcell, hrow, hA⟩ := hc i ps[i] (List.getElem?_eq_getElem hi)
    exact ⟨b, off, hB, A, c, (hb.cell (p := ⟨b, _, none⟩) hlt).trans hcell, hrow.kept hb, hA⟩

/-- The rows of all pages, or none. -/
def pagesP : List (List Int) → Option (List (List Va))
  | [] => some []
  | p :: ps => match openP p, pagesP ps with
    | some (rs, _), some l => some (rs ++ l)
    | _, _ => none

theorem pagesP_cons (p : List Int) (ps : List (List Int)) : pagesP (p :: ps) = match openP p with
    | some (rs, _) => (pagesP ps).map (rs ++ ·)
    | none => none := by
  show (match openP p, pagesP ps with | some (rs, _), some l => some (rs ++ l) | _, _ => none) = _
  cases openP p with
  | none => rfl
  | some q => cases pagesP ps <;> rfl

def PagesEnd (w : World) (o : Option (List (List Va))) (e : Ending) (w' : World) : Prop :=
  Below w.heap.size w w' ∧ match o with
  | some l => ∃ A c, e = .returned (.tuple #[.slice A l.length c, .int .i64 0]) ∧ RowsAt w' A l ∧ (A = none → c = 0) ∧ l.length ≤ 51000
  | none => e = .returned (.tuple #[.slice none 0 0, .int .i64 40])

end Go.Proofs.YtmjckdgomlppeaaGreatDoor
end
section
namespace Go.Proofs.YtmjckdgomlppeaaGreatDoor
open Go.RowKit

def splice (l : List Int) (e : Nat) (b : List Int) : List Int := l.take e ++ b ++ l.drop (e + b.length)
/-- What putting bytes behind n rows that end at e makes of a page. -/
def putB (bs : List Int) (n e : Nat) (b : List Int) : List Int :=
  (splice ((bs.set (254 - 2 * n) ((e / 256 : Nat) : Int)).set (255 - 2 * n) ((e % 256 : Nat) : Int)) e b).set 0 (((n + 1) % 256 : Nat) : Int)
theorem tailP_snoc (ss : List Nat) (s : Nat) : tailP (ss ++ [s]) = [((s / 256 : Nat) : Int), ((s % 256 : Nat) : Int)] ++ tailP ss := by
  induction ss with
  | nil => rfl
  | cons x ss ih => rw [List.cons_append, tailP, tailP, ih, List.append_assoc]
theorem starts_snoc (e : Nat) (rs : List (List Va)) (r : List Va) : starts e (rs ++ [r]) = starts e rs ++ [e + lenP rs] := by
  induction rs generalizing e with
  | nil => simp [starts, lenP, bodyP]
  | cons x rs ih => rw [List.cons_append, starts, starts, ih, lenP_cons, List.cons_append, Nat.add_assoc]
theorem bodyP_snoc (rs : List (List Va)) (r : List Va) : bodyP (rs ++ [r]) = bodyP rs ++ putR r := by simp [bodyP]
theorem lenP_snoc (rs : List (List Va)) (r : List Va) : lenP (rs ++ [r]) = lenP rs + sizeR r := by simp [lenP, bodyP_snoc, sizeR_len]

theorem put_make {rs : List (List Va)} {r : List Va} (h : fitsP (rs ++ [r]) = true) : putB (makeP rs) rs.length (1 + lenP rs) (putR r) = makeP (rs ++ [r]) := by
  obtain ⟨_, h2, h3⟩ := fitsP_parts h
  rw [lenP_snoc, List.length_append] at h2
  rw [List.length_append] at h3
  simp only [List.length_cons, List.length_nil] at h2 h3
  obtain ⟨z, hz⟩ : ∃ z, 255 - 2 * rs.length - lenP rs = sizeR r + (z + 2) := ⟨255 - 2 * rs.length - lenP rs - sizeR r - 2, by omega⟩
  have hn : 255 - 2 * (rs.length + 1) - (lenP rs + sizeR r) = z := by omega
  have hF : ((rs.length : Int) :: bodyP rs).length = 1 + lenP rs := by simp [lenP]; omega
  have e1 : makeP rs = (((rs.length : Int) :: bodyP rs) ++ (List.replicate (sizeR r) 0 ++ List.replicate z 0)) ++ ([0, 0] ++ tailP (starts 1 rs)) := by
    rw [makeP, hz, ← List.replicate_append_replicate, ← List.replicate_append_replicate]
    simp only [List.append_assoc]
    rfl
  have hl1 : (((rs.length : Int) :: bodyP rs) ++ (List.replicate (sizeR r) 0 ++ List.replicate z 0)).length = 254 - 2 * rs.length := by
    rw [List.length_append, hF]; simp; omega
  have e2 : ((makeP rs).set (254 - 2 * rs.length) (((1 + lenP rs) / 256 : Nat) : Int)).set (255 - 2 * rs.length) (((1 + lenP rs) % 256 : Nat) : Int) =
      ((rs.length : Int) :: bodyP rs) ++ (List.replicate (sizeR r) 0 ++ (List.replicate z 0 ++ tailP (starts 1 (rs ++ [r])))) := by
    rw [e1, List.set_append_right _ _ (by omega), List.set_append_right _ _ (by omega), hl1, Nat.sub_self, show 255 - 2 * rs.length - (254 - 2 * rs.length) = 1 by omega]
    rw [starts_snoc, tailP_snoc]
    simp only [List.append_assoc]
    rfl
  have hs : (putR r).length = sizeR r := sizeR_len r
  unfold putB splice
  rw [e2, hs]
  rw [List.take_append_of_le_length (by rw [hF]; exact Nat.le_refl _), List.take_of_length_le (by rw [hF]; exact Nat.le_refl _)]
  rw [← hF, ← List.drop_drop, List.drop_append_of_le_length (Nat.le_refl _), List.drop_length, List.nil_append]
  rw [List.drop_append_of_le_length (by simp), show (List.replicate (sizeR r) (0 : Int)).drop (sizeR r) = [] by simp, List.nil_append]
  rw [makeP, bodyP_snoc, lenP_snoc, List.length_append]
  simp only [List.length_cons, List.length_nil, Nat.zero_add]
  rw [hn, show (rs.length + 1) % 256 = rs.length + 1 by omega]
  simp [List.append_assoc]
theorem put_head (bs : List Int) (n e : Nat) (b : List Int) : (putB bs n e b).length = (splice ((bs.set (254 - 2 * n) ((e / 256 : Nat) : Int)).set (255 - 2 * n) ((e % 256 : Nat) : Int)) e b).length := by
  unfold putB; simp
/-- The page without rows. -/
theorem make_nil : makeP [] = List.replicate 256 0 := by
  decide +kernel
theorem fits_nil : fitsP [] = true := by decide
theorem fits_snoc {rs : List (List Va)} {r : List Va} (h : fitsP rs = true) : fitsP (rs ++ [r]) = decide ((sizeR r : Int) ≤ max 0 (256 - 2 * ((rs.length : Int) + 1) - ((1 + lenP rs : Nat) : Int))) := by
  obtain ⟨_, h2, h3⟩ := fitsP_parts h
  have : 1 ≤ sizeR r := by unfold sizeR; omega
  rw [Bool.eq_iff_iff]
  simp only [fitsP, lenP_snoc, List.length_append, List.length_cons, List.length_nil, Bool.and_eq_true, decide_eq_true_eq]
  omega
end Go.Proofs.YtmjckdgomlppeaaGreatDoor
end
section
namespace Go.Proofs.YtmjckdgomlppeaaGreatDoor
open Go.RowKit Go.Shelf

def byteC (bs : List Int) : Array Value := (bs.map (Value.int .u8)).toArray
/-- Block g is just these bytes. -/
def OwnB (w : World) (g : Nat) (bs : List Int) : Prop := w.heap[g]? = some (.cells (byteC bs) 5 (0, 0))
section
variable {w w' : World} {g : Nat} {bs : List Int}
theorem OwnB.lt (h : OwnB w g bs) : g < w.heap.size := by
  rcases Nat.lt_or_ge g w.heap.size with hl | hg
  · exact hl
  · unfold OwnB at h; rw [Array.getElem?_eq_none hg] at h; cases h
theorem OwnB.cellAt (h : OwnB w g bs) (o : Nat) : w.cell? ⟨g, o, none⟩ = (bs[o]?).map (Value.int .u8) := by
  unfold OwnB at h
  simp [World.cell?, h, byteC]
theorem OwnB.at (h : OwnB w g bs) {o : Nat} (ho : o < bs.length) : w.cell? ⟨g, o, none⟩ = some (.int .u8 (bs.getD o 0)) := by
  rw [h.cellAt]; simp [List.getD, ho]
theorem OwnB.free (h : OwnB w g bs) (o : Nat) : w.frozen? ⟨g, o, none⟩ = false := by
  unfold OwnB at h
  simp [World.frozen?, h]
theorem OwnB.kept (h : OwnB w g bs) (hb : Below w.heap.size w w') : OwnB w' g bs := (hb.block g h.lt).trans h
theorem OwnB.keptB {B : Nat} (h : OwnB w g bs) (hg : g < B) (hb : Below B w w') : OwnB w' g bs := (hb.block g hg).trans h
theorem OwnB.new (w : World) (bs : List Int) : OwnB (w.alloc (.cells (byteC bs) 5)) w.heap.size bs := heap_alloc_new w _
theorem OwnB.put (h : OwnB w g bs) (o : Nat) (x : Int) : OwnB (w.setCell ⟨g, o, none⟩ (.int .u8 x)) g (bs.set o x) := by
  unfold OwnB at h ⊢
  simp only [World.setCell, Array.getElem?_modify, if_true, h, Option.map_some]
  simp [byteC]
theorem OwnB.bytes (h : OwnB w g bs) (hr : ∀ x ∈ bs, 0 ≤ x ∧ x < 256) : BytesAt w (some ⟨g, 0, none⟩) bs := by
  refine ⟨?_, hr⟩
  refine .inr ⟨g, 0, rfl, h.lt, fun i v hv => ?_⟩
  rw [Nat.zero_add, h.cellAt, ← hv]; simp
end

def zeroP : List Int := List.replicate 256 0
theorem make_page (w : World) : (Instr.makeSlice 49 (.int .i64 256) (.int .i64 256)).run Tryz.prog w =
    .ok (.slice (some ⟨w.heap.size, 0, none⟩) 256 256) (w.alloc (.cells (byteC zeroP) 5)) := by
  obtain ⟨i0, hi, hz0, hz1, hz2⟩ := info_parts info_byte
  have h := run_make (P := Tryz.prog) w 49 5 i0 _ Tryz.underlying49 hi hz0 .i64 .i64 256 256 (by omega) (Int.le_refl _) (by rw [hz2]; omega) (by omega)
  rw [hz1] at h
  have e : madeCells (Value.int .u8 0).cells (256 * 1) = byteC zeroP := by kernel_rfl
  exact h.trans (by rw [← e]; rfl)

set_option maxHeartbeats 400000 in
theorem pageNew_any (w : World) :
    Calls Tryz.prog 74 #[] w fun e w' => ∃ g, e = .returned (.slice (some ⟨g, 0, none⟩) 256 256) ∧ g = w.heap.size ∧ OwnB w' g zeroP ∧ Below w.heap.size w w' := by
  have hmk := make_page
  go_enter Tryz.func74, Tryz.ntmps74
  go_wp2_with fail
  go_ret
  exact ⟨_, rfl, rfl, OwnB.new w zeroP, ba w _⟩

/-- A draft: block d has the page, which is block g, and where its rows end. -/
def DraftAt (w : World) (d g : Nat) (e : Int) : Prop := w.heap[d]? = some (.cells #[.slice (some ⟨g, 0, none⟩) 256 256, .int .i64 e] 103 (0, 0))

set_option maxHeartbeats 400000 in
theorem count_any (d g : Nat) (e : Int) (bs : List Int) (w : World) (hd : DraftAt w d g e) (hb : OwnB w g bs) (hl : bs.length = 256) (h0 : 0 ≤ bs.getD 0 0 ∧ bs.getD 0 0 < 256) :
    Calls Tryz.prog 95 #[.pointer (some ⟨d, 0, none⟩)] w fun r w' => r = .returned (.int .i64 (bs.getD 0 0)) ∧ w = w' := by
  have c0 := hb.at (o := 0) (by omega)
  have d0 : w.cell? ⟨d, 0, none⟩ = some (.slice (some ⟨g, 0, none⟩) 256 256) := by unfold DraftAt at hd; simp [World.cell?, hd]
  generalize bs.getD 0 0 = x at c0 h0 ⊢
  obtain ⟨x0, x1⟩ := h0
  clear hd hb
  go_enter Tryz.func95, Tryz.ntmps95
  go_wp2_with fail
  go_ret
  exact ⟨rfl, rfl⟩

set_option maxHeartbeats 400000 in
theorem fits_any (d g : Nat) (e : Nat) (bs : List Int) (A : Option Addr) (L c : Nat) (n : Nat) (w : World) (hd : DraftAt w d g e) (hb : OwnB w g bs) (hl : bs.length = 256) (hn : bs.getD 0 0 = n) (h0 : n < 256) (he : e ≤ 256) :
    Calls Tryz.prog 73 #[.pointer (some ⟨d, 0, none⟩), .slice A L c] w fun r w' => r = .returned (.bool (decide ((L : Int) ≤ roomI n e))) ∧ ∃ m, w' = w.drewN m := by
  have HC : ∀ m, Calls Tryz.prog 95 #[.pointer (some ⟨d, 0, none⟩)] (w.drewN m) fun r w' => r = .returned (.int .i64 n) ∧ w' = w.drewN m := fun m =>
    (count_any d g e bs (w.drewN m) hd hb hl (by omega)).mono fun r w' ⟨h1, h2⟩ => ⟨by rw [h1, hn], h2.symm⟩
  have HM : ∀ m, Calls Tryz.prog 94 #[.int .i64 n, .int .i64 e] (w.drewN m) fun r w' => r = .returned (.int .i64 (roomI n e)) ∧ w' = w.drewN m := fun m =>
    (roomF_any n e (w.drewN m) (by omega) (by omega) (by omega) (by omega)).mono fun r w' ⟨h1, h2⟩ => ⟨h1, h2.symm⟩
  have d1 : w.cell? ⟨d, 1, none⟩ = some (.int .i64 e) := by unfold DraftAt at hd; simp [World.cell?, hd]
  clear hd hb hl hn
  generalize roomI n e = q at HM ⊢
  go_enter Tryz.func73, Tryz.ntmps73
  go_wp2_with fail
  go_quiet (first | (go_at_call 95; exact Calls.quiet_of_same (HC _)) | (go_at_call 94; exact Calls.quiet_of_same (HM _)))
  go_wp2_with fail
  go_ret
  exact ⟨rfl, nq, rfl⟩
end Go.Proofs.YtmjckdgomlppeaaGreatDoor
end
section
namespace Go.Proofs.YtmjckdgomlppeaaGreatDoor
open Go.RowKit Go.Shelf

theorem int_one (l : List Int) : ∀ v ∈ l.map (Value.int .u8), v.oneCell' = true := by
  intro v hv
  obtain ⟨x, _, rfl⟩ := List.mem_map.1 hv
  rfl
/-- copy of bytes into a page of the call's own. -/
theorem step_copyB {ops : Array Oper} {o : Oper} {a : Act} {W : World} {K : Act → World → Prop} {Q : Exit → Act → World → Prop} {E : Prop} (hgd : o.guard = none) (d s : Operand)
    (ho : o.op = .call { callee := .builtin .copy, args := #[d, s], argTypes := #[49, 49] }) (g e m A L c : _) (bs b : List Int)
    (hd : a.eval d = .slice (some ⟨g, e, none⟩) m m) (hs : a.eval s = .slice A L c) (hg : OwnB W g bs) (hb : BytesAt W A b) (hL : b.length = L) (h0 : 0 < L) (hm : L ≤ m) (hfit : e + L ≤ bs.length)
    (h : K (a.put o.dst (.int .i64 (L : Int))) (W.setRow g (byteC (splice bs e b)))) :
    if Region.wanted o (yielded ops a.tmps) = true then Oper.wp Tryz.prog o a W K Q else E := by
  have hw : Region.wanted o (yielded ops a.tmps) = true := by simp [Region.wanted, hgd]
  rw [if_pos hw]
  obtain ⟨i0, hi, hz0, hz1, hz2⟩ := info_parts info_byte
  rcases hb.1 with h1 | ⟨ba, off, rfl, hlt, hc⟩
  · simp at h1; subst h1; simp at hL; omega
  · have hrun := run_copy_row (P := Tryz.prog) W 49 49 o.type 5 g e m m ⟨ba, off, none⟩ L c (byteC bs) 5 (b.map (Value.int .u8)) Tryz.underlying49 (by rw [hi]; simp [hz1]) hg
      (by rw [List.length_map, hL]; exact (Nat.min_eq_left hm).symm) (fun j v hv => by rw [← hc j v hv]; cases j <;> simp [Addr.add]) (by simp [byteC, hL]; omega) (int_one b)
    have e1 : ((byteC bs).toList.take e ++ b.map (Value.int .u8) ++ (byteC bs).toList.drop (e + (b.map (Value.int .u8)).length)).toArray = byteC (splice bs e b) := by
      simp [byteC, splice, List.map_take, List.map_drop]
    rw [e1, List.length_map, hL] at hrun
    unfold Oper.wp execOp
    simp only [ho, resolve, invoke, builtin, Sem.run_bind, Sem.run_pure, Result.andThen_ok, List.map_toArray, List.map_cons, List.map_nil, hd, hs, hrun]
    exact h

/-- All but two blocks is as it was. -/
structure Aside (g d : Nat) (w w' : World) : Prop where
  os : w'.os = w.os
  tape : w'.tape = w.tape
  output : w'.output = w.output
  size : w'.heap.size = w.heap.size
  block : ∀ k, k ≠ g → k ≠ d → w'.heap[k]? = w.heap[k]?
theorem setCell_other (w : World) (g o k : Nat) (v : Value) (h : k ≠ g) : (w.setCell ⟨g, o, none⟩ v).heap[k]? = w.heap[k]? := by
  simp [World.setCell, Array.getElem?_modify, Ne.symm h]
theorem BytesAt.else {w w' : World} {A : Option Addr} {b : List Int} {g : Nat} (h : BytesAt w A b) (hA : ∀ a, A = some a → a.block ≠ g) (hs : w'.heap.size = w.heap.size) (hk : ∀ k, k ≠ g → w'.heap[k]? = w.heap[k]?) : BytesAt w' A b := by
  refine ⟨?_, h.2⟩
  rcases h.1 with h0 | ⟨ba, off, rfl, hlt, hc⟩
  · exact .inl h0
  · refine .inr ⟨ba, off, rfl, by omega, fun i v hv => ?_⟩
    have := hc i v hv
    rw [← this]
    simp [World.cell?, hk ba (hA _ rfl)]

set_option maxHeartbeats 1000000 in
theorem put_any (d g : Nat) (e : Nat) (bs : List Int) (A : Option Addr) (b : List Int) (L c : Nat) (n : Nat) (w : World) (hd : DraftAt w d g e) (hb : OwnB w g bs) (hl : bs.length = 256) (hn : bs.getD 0 0 = n) (h0 : n < 127)
    (hA : BytesAt w A b) (hAg : ∀ a, A = some a → a.block ≠ g) (hL : b.length = L) (hL0 : 0 < L) (he : 1 ≤ e) (hfit : e + L ≤ 254 - 2 * n) (hdg : d ≠ g) :
    Calls Tryz.prog 75 #[.pointer (some ⟨d, 0, none⟩), .slice A L c] w fun r w' => r = .returned (.tuple #[]) ∧ OwnB w' g (putB bs n e b) ∧ DraftAt w' d g ((e + L : Nat) : Int) ∧ Aside g d w w' := by
  have HC := Lib.hid (count_any d g e bs w hd hb hl (by omega))
  rw [hn] at HC
  have d0 : w.cell? ⟨d, 0, none⟩ = some (.slice (some ⟨g, 0, none⟩) 256 256) := by unfold DraftAt at hd; simp [World.cell?, hd]
  have d1 : w.cell? ⟨d, 1, none⟩ = some (.int .i64 e) := by unfold DraftAt at hd; simp [World.cell?, hd]
  obtain ⟨x0, hx0⟩ : ∃ x, w.cell? ⟨g, 254 - 2 * n, none⟩ = some (.int .u8 x) := ⟨_, hb.at (by omega)⟩
  obtain ⟨x1, hx1⟩ : ∃ x, w.cell? ⟨g, 254 - 2 * n + 1, none⟩ = some (.int .u8 x) := ⟨_, hb.at (by omega)⟩
  have f0 := hb.free (254 - 2 * n)
  have f1 := hb.free (254 - 2 * n + 1)
  have HD := Lib.hid hd
  have HB := Lib.hid hb
  have HA := Lib.hid hA
  have HG := Lib.hid hAg
  have HN := Lib.hid hn
  have HL := Lib.hid hL
  have HH := Lib.hid hl
  clear hd hb hA hn hL hAg hl
  have hgd : g ≠ d := fun hh => hdg hh.symm
  obtain ⟨at0, hat⟩ : ∃ a : Nat, a = 254 - 2 * n := ⟨_, rfl⟩
  have hat2 : (256 - 2 * ((n : Int) + 1)) = (at0 : Int) := by omega
  have hat3 : at0 ≤ 254 := by omega
  have hat4 : 2 ≤ at0 := by omega
  have hfit' : e + L ≤ at0 := by omega
  rw [← hat] at hx0 hx1 f0 f1
  have v1 : IntKind.u8.wrap ((e : Int) / 256) = (e : Int) / 256 := by unfold IntKind.wrap; simp [IntKind.signed, IntKind.bits]; omega
  have v2 : IntKind.u8.wrap (e : Int) = (e : Int) % 256 := by unfold IntKind.wrap; simp [IntKind.signed, IntKind.bits]
  have HP := Lib.hid (show putB bs n e b = (splice ((bs.set at0 ((e : Int) / 256)).set (at0 + 1) ((e : Int) % 256)) e b).set 0 ((n : Int) + 1) by
    unfold putB
    rw [← hat, show 255 - 2 * n = at0 + 1 by omega, show (((n + 1) % 256 : Nat) : Int) = (n : Int) + 1 by omega, show ((e / 256 : Nat) : Int) = (e : Int) / 256 by omega, show ((e % 256 : Nat) : Int) = (e : Int) % 256 by omega])
  go_enter Tryz.func75, Tryz.ntmps75
  go_wp2_with fail
  refine HC.out.mono ?_
  rintro r w1 ⟨rfl, rfl⟩
  go_wp2_with fail
  refine (placeAt_any n _ (by omega) (by omega)).mono ?_
  rintro r w1 ⟨rfl, rfl⟩
  rw [hat2]
  clear HC hat hat2
  go_wp2_with fail
  go_region
  have HB1 := Lib.hid (show OwnB ((w.setCell ⟨g, at0, none⟩ (.int .u8 ((e : Int) / 256))).setCell ⟨g, at0 + 1, none⟩ (.int .u8 ((e : Int) % 256))).drew g _ from (HB.out.put at0 ((e : Int) / 256)).put (at0 + 1) ((e : Int) % 256))
  have HK1 := Lib.hid (show ∀ k, k ≠ g → ((w.setCell ⟨g, at0, none⟩ (.int .u8 ((e : Int) / 256))).setCell ⟨g, at0 + 1, none⟩ (.int .u8 ((e : Int) % 256))).drew.heap[k]? = w.heap[k]? from
    fun k hk => (setCell_other _ g (at0 + 1) k _ hk).trans (setCell_other _ g at0 k _ hk))
  have HS1 := Lib.hid (show ((w.setCell ⟨g, at0, none⟩ (.int .u8 ((e : Int) / 256))).setCell ⟨g, at0 + 1, none⟩ (.int .u8 ((e : Int) % 256))).drew.heap.size = w.heap.size by simp [World.setCell])
  have HO1 := Lib.hid (show Aside g d w ((w.setCell ⟨g, at0, none⟩ (.int .u8 ((e : Int) / 256))).setCell ⟨g, at0 + 1, none⟩ (.int .u8 ((e : Int) % 256))).drew from ⟨rfl, rfl, rfl, HS1.out, fun k hk _ => HK1.out k hk⟩)
  have HX := Lib.hid (show ((bs.set at0 ((e : Int) / 256)).set (at0 + 1) ((e : Int) % 256)).length = 256 by simp [HH.out])
  have HY := Lib.hid (show ((bs.set at0 ((e : Int) / 256)).set (at0 + 1) ((e : Int) % 256)).getD 0 0 = n by
    rw [← HN.out]
    simp [List.getD, show ¬ (at0 = 0) by omega])
  generalize ((w.setCell ⟨g, at0, none⟩ (.int .u8 ((e : Int) / 256))).setCell ⟨g, at0 + 1, none⟩ (.int .u8 ((e : Int) % 256))).drew = W1 at HB1 HK1 HS1 HO1 ⊢
  generalize (bs.set at0 ((e : Int) / 256)).set (at0 + 1) ((e : Int) % 256) = bs1 at HB1 HP HX HY
  have HA1 := Lib.hid (HA.out.else HG.out HS1.out HK1.out)
  have HD1 := Lib.hid (show DraftAt W1 d g e from (HK1.out d hdg).trans HD.out)
  clear d0 d1 hx0 hx1 f0 f1 HB HA HD v1 v2 HN HH
  have d0 : W1.cell? ⟨d, 0, none⟩ = some (.slice (some ⟨g, 0, none⟩) 256 256) := by have hd := HD1.out; unfold DraftAt at hd; simp [World.cell?, hd]
  have d1 : W1.cell? ⟨d, 1, none⟩ = some (.int .i64 e) := by have hd := HD1.out; unfold DraftAt at hd; simp [World.cell?, hd]
  have hsl := run_cut3 (some ⟨g, 0, none⟩) 256 256 e at0 (by omega) (by omega)
  rw [show adv (some ⟨g, 0, none⟩) at0 e = some ⟨g, e, none⟩ by unfold adv; rw [if_neg (by omega)]; simp [Addr.add]; omega] at hsl
  go_wp2_with fail
  go_region_law (refine step_copyB (by rfl) _ _ (by rfl) g e (at0 - e) A L c bs1 b (by rfl) (by rfl) HB1.out HA1.out HL.out hL0 (by omega) (by rw [HX.out]; omega) ?_)
  all_goals
    have HB2 := Lib.hid (show OwnB (W1.drew.setRow g (byteC (splice bs1 e b))) g (splice bs1 e b) from setRow_heap W1.drew g _ _ _ _ HB1.out)
    have HK2 := Lib.hid (show ∀ k, k ≠ g → (W1.drew.setRow g (byteC (splice bs1 e b))).heap[k]? = W1.heap[k]? from fun k hk => setRow_other W1.drew g k _ hk)
    have HO2 := Lib.hid (show Aside g d w (W1.drew.setRow g (byteC (splice bs1 e b))) from ⟨HO1.out.os, HO1.out.tape, HO1.out.output, by rw [← HO1.out.size]; simp [World.setRow], fun k h1 h2 => (HK2.out k h1).trans (HO1.out.block k h1 h2)⟩)
    generalize W1.drew.setRow g (byteC (splice bs1 e b)) = W2 at HB2 HK2 HO2 ⊢
    have HD2 := Lib.hid (show DraftAt W2 d g e from (HK2.out d hdg).trans HD1.out)
    clear d0 d1 hsl
    have d0 : W2.cell? ⟨d, 0, none⟩ = some (.slice (some ⟨g, 0, none⟩) 256 256) := by have hd := HD2.out; unfold DraftAt at hd; simp [World.cell?, hd]
    have d1 : W2.cell? ⟨d, 1, none⟩ = some (.int .i64 e) := by have hd := HD2.out; unfold DraftAt at hd; simp [World.cell?, hd]
    have f0 := HB2.out.free 0
    have fd : W2.frozen? ⟨d, 1, none⟩ = false := by have hd := HD2.out; unfold DraftAt at hd; simp [World.frozen?, hd]
    have c0 : W2.cell? ⟨g, 0, none⟩ = some (.int .u8 n) := by
      rw [HB2.out.cellAt, ← HY.out]
      have := HX.out
      obtain ⟨y, ys, rfl⟩ : ∃ y ys, bs1 = y :: ys := by cases bs1 with | nil => simp at this | cons y ys => exact ⟨y, ys, rfl⟩
      obtain ⟨e', rfl⟩ : ∃ e', e = e' + 1 := ⟨e - 1, by omega⟩
      simp [splice, List.getD]
    have v3 : IntKind.u8.wrap ((n : Int) + 1) = (n : Int) + 1 := by unfold IntKind.wrap; simp [IntKind.signed, IntKind.bits]; omega
    go_wp2_with fail
    go_end0
    refine ⟨rfl, ?_, ?_, ?_⟩
    · rw [HP.out]
      exact (setCell_other _ d 1 g _ hgd).trans (HB2.out.put 0 ((n : Int) + 1))
    · have hd := HD2.out
      unfold DraftAt at hd ⊢
      have hd' : (W2.setCell ⟨g, 0, none⟩ (.int .u8 ((n : Int) + 1))).heap[d]? = _ := (setCell_other W2 g 0 d _ hdg).trans hd
      simp only [World.setCell] at hd' ⊢
      simp only [Array.getElem?_modify, if_true] at hd' ⊢
      rw [hd']
      simp
    · exact ⟨HO2.out.os, HO2.out.tape, HO2.out.output, by rw [← HO2.out.size]; simp [World.setCell], fun k h1 h2 => ((setCell_other _ d 1 k _ h2).trans (setCell_other _ g 0 k _ h1)).trans (HO2.out.block k h1 h2)⟩
end Go.Proofs.YtmjckdgomlppeaaGreatDoor
end
section
namespace Go.Proofs.YtmjckdgomlppeaaGreatDoor
open Go.RowKit Go.Shelf

theorem run_copyB (ty : TypeId) (g e m L c : Nat) (A : Option Addr) (bs b : List Int) (W : World) (hg : OwnB W g bs) (hb : BytesAt W A b) (hL : b.length = L) (h0 : 0 < L) (hm : L ≤ m) (hfit : e + L ≤ bs.length) :
    (Builtin.copy_ #[49, 49] ty #[.slice (some ⟨g, e, none⟩) m m, .slice A L c]).run Tryz.prog W = .ok (.int .i64 (L : Int)) (W.setRow g (byteC (splice bs e b))) := by
  obtain ⟨i0, hi, hz0, hz1, hz2⟩ := info_parts info_byte
  rcases hb.1 with h1 | ⟨ba, off, rfl, hlt, hc⟩
  · simp at h1; subst h1; simp at hL; omega
  · have hrun := run_copy_row (P := Tryz.prog) W 49 49 ty 5 g e m m ⟨ba, off, none⟩ L c (byteC bs) 5 (b.map (Value.int .u8)) Tryz.underlying49 (by rw [hi]; simp [hz1]) hg
      (by rw [List.length_map, hL]; exact (Nat.min_eq_left hm).symm) (fun j v hv => by rw [← hc j v hv]; cases j <;> simp [Addr.add]) (by simp [byteC, hL]; omega) (int_one b)
    have e1 : ((byteC bs).toList.take e ++ b.map (Value.int .u8) ++ (byteC bs).toList.drop (e + (b.map (Value.int .u8)).length)).toArray = byteC (splice bs e b) := by
      simp [byteC, splice, List.map_take, List.map_drop]
    rw [e1, List.length_map, hL] at hrun
    exact hrun

theorem splice_all {l b : List Int} (h : l.length ≤ b.length) : splice l 0 b = b := by
  unfold splice
  rw [List.drop_eq_nil_of_le (by omega)]; simp
theorem Aside.below {g d B : Nat} {w w' : World} (h : Aside g d w w') (h1 : B ≤ g) (h2 : B ≤ d) : Below B w w' :=
  ⟨h.os, h.tape, h.output, Nat.le_of_eq h.size.symm, fun k hk => h.block k (by omega) (by omega)⟩
theorem putR_len (r : List Va) : (putR r).length = 1 + sumV r := by
  simp [putR, bodyR_length]; omega

/-- The ends of page.Add. -/
def AddEnd (w : World) (p : List Int) (r : List Va) (e : Ending) (w' : World) : Prop :=
  Below w.heap.size w w' ∧ match openP p with
  | none => e = .returned (.tuple #[.slice none 0 0, .int .i64 40])
  | some (rs, n) =>
    if okR r = true then
      if 253 < 1 + sumV r then e = .returned (.tuple #[.slice none 0 0, .int .i64 3])
      else if ((1 + sumV r : Nat) : Int) ≤ roomI rs.length n then ∃ g, e = .returned (.tuple #[.slice (some ⟨g, 0, none⟩) 256 256, .int .i64 0]) ∧ w.heap.size ≤ g ∧ OwnB w' g (putB p rs.length n (putR r))
      else e = .returned (.tuple #[.slice none 0 0, .int .i64 2])
    else e = .returned (.tuple #[.slice none 0 0, .int .i64 20])

end Go.Proofs.YtmjckdgomlppeaaGreatDoor
end
section
namespace Go.Proofs.YtmjckdgomlppeaaGreatDoor
open Go.RowKit Go.Shelf

/-- What is wrong with the first row that is refused. -/
def badP : List (List Va) → Int
  | [] => 0
  | r :: rs => if mayI r = 0 then badP rs else mayI r
/-- Rows by pages, and one row more. -/
def addG (gs : List (List (List Va))) (r : List Va) : List (List (List Va)) :=
  match gs.getLast? with
  | none => [[r]]
  | some p => if fitsP (p ++ [r]) = true then gs.dropLast ++ [p ++ [r]] else gs ++ [[r]]
def fillP (rs : List (List Va)) : List (List (List Va)) := rs.foldl addG []
theorem addG_nil (r : List Va) : addG [] r = [[r]] := rfl
theorem addG_in {gs : List (List (List Va))} {p : List (List Va)} {r : List Va} (h : fitsP (p ++ [r]) = true) : addG (gs ++ [p]) r = gs ++ [p ++ [r]] := by
  simp [addG, h]
theorem addG_new {gs : List (List (List Va))} {p : List (List Va)} {r : List Va} (h : fitsP (p ++ [r]) = false) : addG (gs ++ [p]) r = (gs ++ [p]) ++ [[r]] := by
  simp [addG, h]
theorem fillP_snoc (rs : List (List Va)) (r : List Va) : fillP (rs ++ [r]) = addG (fillP rs) r := by simp [fillP]
theorem fillP_take (rs : List (List Va)) (j : Nat) (h : j < rs.length) : fillP (rs.take (j + 1)) = addG (fillP (rs.take j)) rs[j] := by
  rw [List.take_succ_eq_append_getElem h, fillP_snoc]
theorem badP_snoc (rs : List (List Va)) (r : List Va) (h : badP rs = 0) : badP (rs ++ [r]) = mayI r := by
  induction rs with
  | nil => simp only [List.nil_append, badP]; split <;> simp [*]
  | cons x rs ih =>
    simp only [List.cons_append, badP] at h ⊢
    split
    · rename_i hx; rw [if_pos hx] at h; exact ih h
    · rename_i hx; rw [if_neg hx] at h; exact absurd h hx
theorem badP_app (rs ss : List (List Va)) (h : badP rs = 0) : badP (rs ++ ss) = badP ss := by
  induction rs with
  | nil => rfl
  | cons x rs ih =>
    simp only [List.cons_append, badP] at h ⊢
    split
    · rename_i hx; rw [if_pos hx] at h; exact ih h
    · rename_i hx; rw [if_neg hx] at h; exact absurd h hx
theorem badP_at {rs : List (List Va)} {j : Nat} (hj : j < rs.length) (h0 : badP (rs.take j) = 0) (hm : mayI rs[j] ≠ 0) : badP rs = mayI rs[j] := by
  have e : rs = rs.take j ++ (rs[j] :: rs.drop (j + 1)) := by rw [← List.drop_eq_getElem_cons hj, List.take_append_drop]
  have h2 := badP_app (rs.take j) (rs[j] :: rs.drop (j + 1)) h0
  rw [← e] at h2
  rw [h2, badP, if_neg hm]
theorem badP_zero {rs : List (List Va)} (h : badP rs = 0) : ∀ r ∈ rs, mayI r = 0 := by
  induction rs with
  | nil => intro r hr; cases hr
  | cons x rs ih =>
    simp only [badP] at h
    split at h
    · rename_i hx
      intro r hr
      rcases List.mem_cons.1 hr with rfl | hr
      · exact hx
      · exact ih h r hr
    · rename_i hx; exact absurd h hx
theorem mayI_ok {r : List Va} (h : mayI r = 0) : okR r = true ∧ 1 + sumV r ≤ 253 := by
  unfold mayI at h
  split at h
  · rename_i hok
    split at h
    · cases h
    · exact ⟨hok, by omega⟩
  · cases h
theorem fits_one {r : List Va} (h : mayI r = 0) : fitsP ([] ++ [r]) = true := by
  obtain ⟨_, h2⟩ := mayI_ok h
  rw [fits_snoc fits_nil]
  simp [sizeR, lenP, bodyP]
  omega
/-- Pages as they are filled. -/
def GoodG (gs : List (List (List Va))) : Prop := ∀ p ∈ gs, fitsP p = true ∧ allOk p ∧ p ≠ []
theorem GoodG.add {gs : List (List (List Va))} (h : GoodG gs) {r : List Va} (hr : mayI r = 0) : GoodG (addG gs r) := by
  obtain ⟨hok, _⟩ := mayI_ok hr
  have h1 : fitsP [r] = true ∧ allOk [r] ∧ [r] ≠ [] := ⟨fits_one hr, (fun x hx => by simp at hx; subst hx; exact hok), by simp⟩
  rcases List.eq_nil_or_concat gs with rfl | ⟨gs0, p, rfl⟩
  · intro q hq; simp [addG] at hq; subst hq; exact h1
  · rw [List.concat_eq_append] at h ⊢
    cases hf : fitsP (p ++ [r]) with
    | true =>
      rw [addG_in hf]
      intro q hq
      rcases List.mem_append.1 hq with hq | hq
      · exact h q (by simp [hq])
      · simp at hq
        subst hq
        refine ⟨hf, fun x hx => ?_, by simp⟩
        rcases List.mem_append.1 hx with hx | hx
        · exact (h p (by simp)).2.1 x hx
        · simp at hx; subst hx; exact hok
    | false =>
      rw [addG_new hf]
      intro q hq
      rcases List.mem_append.1 hq with hq | hq
      · exact h q hq
      · simp at hq; subst hq; exact h1
theorem addG_flat (gs : List (List (List Va))) (r : List Va) : (addG gs r).flatten = gs.flatten ++ [r] := by
  rcases List.eq_nil_or_concat gs with rfl | ⟨gs0, p, rfl⟩
  · rfl
  · rw [List.concat_eq_append]
    cases hf : fitsP (p ++ [r]) with
    | true => rw [addG_in hf]; simp
    | false => rw [addG_new hf]; simp
theorem addG_ne (gs : List (List (List Va))) (r : List Va) : addG gs r ≠ [] := by
  intro h
  have := addG_flat gs r
  rw [h] at this
  simp at this
theorem addG_len (gs : List (List (List Va))) (r : List Va) : (addG gs r).length ≤ gs.length + 1 := by
  rcases List.eq_nil_or_concat gs with rfl | ⟨gs0, p, rfl⟩
  · simp [addG]
  · rw [List.concat_eq_append]
    cases hf : fitsP (p ++ [r]) with
    | true => rw [addG_in hf]; simp
    | false => rw [addG_new hf]; simp
theorem fillP_good {rs : List (List Va)} (h : ∀ r ∈ rs, mayI r = 0) : GoodG (fillP rs) ∧ (fillP rs).flatten = rs := by
  have : ∀ (rs : List (List Va)) (gs : List (List (List Va))), (∀ r ∈ rs, mayI r = 0) → GoodG gs → GoodG (rs.foldl addG gs) ∧ (rs.foldl addG gs).flatten = gs.flatten ++ rs := by
    intro rs
    induction rs with
    | nil => intro gs _ hg; exact ⟨hg, by simp⟩
    | cons x rs ih =>
      intro gs hr hg
      obtain ⟨h1, h2⟩ := ih (addG gs x) (fun r hr' => hr r (by simp [hr'])) (hg.add (hr x (by simp)))
      exact ⟨h1, by rw [List.foldl_cons, h2, addG_flat]; simp⟩
  exact this rs [] h (fun p hp => by cases hp)
theorem pagesP_make {gs : List (List (List Va))} (h : GoodG gs) : pagesP (gs.map makeP) = some gs.flatten := by
  induction gs with
  | nil => rfl
  | cons p gs ih =>
    obtain ⟨h1, h2, _⟩ := h p (by simp)
    rw [List.map_cons, pagesP_cons, make_openP h2 h1]
    simp only
    rw [ih (fun q hq => h q (by simp [hq]))]
    rfl

theorem tailP_byte {ss : List Nat} (h : ∀ s ∈ ss, s < 65536) : ∀ x ∈ tailP ss, 0 ≤ x ∧ x < 256 := by
  induction ss with
  | nil => intro x hx; cases hx
  | cons s ss ih =>
    intro x hx
    have hs := h s (by simp)
    rcases List.mem_append.1 hx with hx | hx
    · exact ih (fun s' hs' => h s' (by simp [hs'])) x hx
    · simp at hx
      rcases hx with rfl | rfl <;> omega
theorem makeP_byte {p : List (List Va)} (hok : allOk p) (hf : fitsP p = true) : ∀ x ∈ makeP p, 0 ≤ x ∧ x < 256 := by
  obtain ⟨h1, h2, _⟩ := fitsP_parts hf
  intro x hx
  rcases List.mem_append.1 hx with hx | hx
  · rcases List.mem_append.1 hx with hx | hx
    · rcases List.mem_cons.1 hx with rfl | hx
      · omega
      · obtain ⟨r, hr, hx⟩ := List.mem_flatMap.1 hx
        exact putR_byte r (hok r hr) x hx
    · obtain ⟨_, rfl⟩ := List.mem_replicate.1 hx
      omega
  · exact tailP_byte (fun s hs => by have := starts_le 1 p s hs; omega) x hx

theorem info_bytesT : (Tryz.prog.info? 49).map (fun i => (i.zero, i.size, i.bytes)) = some (some (.slice none 0 0), 1, 24) := by kernel_rfl
/-- A page in memory; a list of pages of the call's own. -/
def pageV (g : Nat) : Value := .slice (some ⟨g, 0, none⟩) 256 256
def PagesOwn (w : World) (B : Nat) (v : Value) (bs : List Nat) (gs : List (List (List Va))) : Prop :=
  w.ownsRow B 49 1 v gs.length (bs.map pageV) ∧ bs.length = gs.length ∧ (∀ (k g : Nat) (p : List (List Va)), bs[k]? = some g → gs[k]? = some p → B ≤ g ∧ OwnB w g (makeP p)) ∧ ∀ i j g : Nat, bs[i]? = some g → bs[j]? = some g → i = j
theorem PagesOwn.nil (w : World) (B : Nat) : PagesOwn w B (.slice none 0 0) [] [] :=
  ⟨World.ownsRow_nil _ _ _ _, rfl, fun k g p h => by simp at h, fun i j g h => by simp at h⟩
theorem PagesOwn.kept {w w' : World} {B : Nat} {v : Value} {bs : List Nat} {gs : List (List (List Va))} (h : PagesOwn w B v bs gs) (hb : Below w.heap.size w w') : PagesOwn w' B v bs gs :=
  ⟨owns_same h.1 (fun k hk => hb.block k (h.1.lt k hk).2), h.2.1, fun k g p hg hp => ⟨(h.2.2.1 k g p hg hp).1, (h.2.2.1 k g p hg hp).2.kept hb⟩, h.2.2.2⟩
theorem PagesOwn.last {w : World} {B : Nat} {v : Value} {bs : List Nat} {gs : List (List (List Va))} {g : Nat} {p : List (List Va)} (h : PagesOwn w B v (bs ++ [g]) (gs ++ [p])) : B ≤ g ∧ OwnB w g (makeP p) := by
  have hl := h.2.1
  simp at hl
  exact h.2.2.1 bs.length g p (by simp) (by rw [hl]; simp)
/-- The last page is written to. -/
theorem PagesOwn.put {w w' : World} {B : Nat} {v : Value} {bs : List Nat} {gs : List (List (List Va))} {g d : Nat} {p p' : List (List Va)} (h : PagesOwn w B v (bs ++ [g]) (gs ++ [p])) (hp : OwnB w' g (makeP p')) (ha : Aside g d w w')
    (hd : ∃ cs fr, w.heap[d]? = some (.cells cs 103 fr)) : PagesOwn w' B v (bs ++ [g]) (gs ++ [p']) := by
  obtain ⟨hB, hg⟩ := h.last
  obtain ⟨h1, h2, h3, h4⟩ := h
  obtain ⟨cs, fr, hd⟩ := hd
  have hl : bs.length = gs.length := by simpa using h2
  have ht := owns_typed h1
  refine ⟨?_, by simpa using h2, ?_, h4⟩
  · have : w'.ownsRow B 49 1 v (gs ++ [p]).length ((bs ++ [g]).map pageV) := owns_same h1 (fun k hk => by
      obtain ⟨_, cs', fr', hk'⟩ := ht k hk
      refine ha.block k ?_ ?_
      · intro e; subst e; unfold OwnB at hg; rw [hg] at hk'; cases hk'
      · intro e; subst e; rw [hd] at hk'; cases hk')
    simpa using this
  · intro k gk q hk hq
    by_cases hkl : k < bs.length
    · have hk2 : bs[k]? = some gk := by rw [List.getElem?_append_left hkl] at hk; exact hk
      have hq2 : (gs ++ [p])[k]? = some q := by
        rw [List.getElem?_append_left (by omega)] at hq ⊢; exact hq
      obtain ⟨e1, e2⟩ := h3 k gk q hk hq2
      refine ⟨e1, (ha.block gk ?_ ?_).trans e2⟩
      · intro e
        subst e
        have := h4 k bs.length gk hk (by simp)
        omega
      · intro e; subst e; unfold OwnB at e2; rw [hd] at e2; cases e2
    · have hkk : k = bs.length := by
        have := (List.getElem?_eq_some_iff.1 hk).1
        simp at this; omega
      subst hkk
      simp at hk
      subst hk
      rw [hl] at hq
      simp at hq
      subst hq
      exact ⟨hB, hp⟩
/-- A list of pages with a page more. -/
theorem run_pushP (ty : TypeId) (v : Value) (bs : List Nat) (gs : List (List (List Va))) (g : Nat) (p : List (List Va)) (W : World) (B nb : Nat) (hv : PagesOwn W B v bs gs) (hg : OwnB W g (makeP p)) (hBg : B ≤ g) (hnew : ∀ k : Nat, bs[k]? ≠ some g) (hnb : W.heap[nb]? = some (.cells #[pageV g] 49 (0, 0))) (hB : B ≤ W.heap.size) (hl : gs.length ≤ 65536) :
    ∃ g' cap w', (Builtin.append_ #[44, 44] ty #[v, .slice (some ⟨nb, 0, none⟩) 1 1]).run Tryz.prog W = .ok (.slice (some ⟨g', 0, none⟩) (gs.length + 1) cap) w' ∧ PagesOwn w' B (.slice (some ⟨g', 0, none⟩) (gs.length + 1) cap) (bs ++ [g]) (gs ++ [p]) ∧ W.grownBy w' v.ownBlock ∧ (∀ (k : Nat) (cs : Array Value) (T : TypeId) (fr : Nat × Nat), W.heap[k]? = some (.cells cs T fr) → T ≠ 49 → w'.heap[k]? = W.heap[k]?) := by
  obtain ⟨i0, hi, hz0, hz1, hz2⟩ := info_parts info_bytesT
  obtain ⟨hown, hlen, hel, hnd⟩ := hv
  obtain ⟨g', cap, w', h, hown', hgr, hat, hlt⟩ := run_append_lies (P := Tryz.prog) W 44 ty B 49 i0 _ 1 24 Tryz.underlying44 hi hz0 hz1 hz2 rfl (by decide) v gs.length (bs.map pageV) hown ⟨nb, 0, none⟩ 1 1 [pageV g] rfl (World.news_of_block hnb) (by simp [Value.oneCell', pageV]) (by omega) (by simp [maxLen]; omega) (by omega) hB _ rfl
  have ht := owns_typed hown
  have hkeep : ∀ (k : Nat) (cs : Array Value) (T : TypeId) (fr : Nat × Nat), W.heap[k]? = some (.cells cs T fr) → T ≠ 49 → w'.heap[k]? = W.heap[k]? := fun k cs T fr hk hT =>
    hgr.block k (lt_of_block hk) (fun e => by
      obtain ⟨_, cs', fr', hk'⟩ := ht k e.symm
      rw [hk] at hk'
      cases hk'
      exact hT rfl)
  have hpg : ∀ (k : Nat) (q : List (List Va)), OwnB W k (makeP q) → OwnB w' k (makeP q) := fun k q hq => (hkeep k _ _ _ hq (by decide)).trans hq
  refine ⟨g', cap, w', h, ⟨by simpa using hown', by simp [hlen], ?_, ?_⟩, hgr, hkeep⟩
  · intro k gk q hk hq
    by_cases hkl : k < bs.length
    · rw [List.getElem?_append_left hkl] at hk
      rw [List.getElem?_append_left (by omega)] at hq
      obtain ⟨e1, e2⟩ := hel k gk q hk hq
      exact ⟨e1, hpg gk q e2⟩
    · have hkk : k = bs.length := by
        have := (List.getElem?_eq_some_iff.1 hk).1
        simp at this; omega
      subst hkk
      simp at hk
      subst hk
      rw [hlen] at hq
      simp at hq
      subst hq
      exact ⟨hBg, hpg g _ hg⟩
  · intro i j x hi' hj'
    by_cases h1 : i < bs.length
    · rw [List.getElem?_append_left h1] at hi'
      by_cases h2 : j < bs.length
      · rw [List.getElem?_append_left h2] at hj'
        exact hnd i j x hi' hj'
      · have hjj : j = bs.length := by
          have := (List.getElem?_eq_some_iff.1 hj').1
          simp at this; omega
        subst hjj
        simp at hj'
        subst hj'
        exact absurd hi' (hnew i)
    · have hii : i = bs.length := by
        have := (List.getElem?_eq_some_iff.1 hi').1
        simp at this; omega
      subst hii
      simp at hi'
      subst hi'
      by_cases h2 : j < bs.length
      · rw [List.getElem?_append_left h2] at hj'
        exact absurd hj' (hnew j)
      · have := (List.getElem?_eq_some_iff.1 hj').1
        simp at this; omega
/-- Behind the append of a page. -/
def PushEnd (W : World) (B : Nat) (v : Value) (bs : List Nat) (gs : List (List (List Va))) (g : Nat) (p : List (List Va)) (g' cap : Nat) (w' : World) : Prop :=
  PagesOwn w' B (.slice (some ⟨g', 0, none⟩) (gs.length + 1) cap) (bs ++ [g]) (gs ++ [p]) ∧ W.grownBy w' v.ownBlock ∧ ∀ (k : Nat) (cs : Array Value) (T : TypeId) (fr : Nat × Nat), W.heap[k]? = some (.cells cs T fr) → T ≠ 49 → w'.heap[k]? = W.heap[k]?
theorem wpList_pushP {ops : Array Oper} {rest : List Oper} {o : Oper} {a : Act} {Q : Exit → Act → World → Prop} (hgd : o.guard = none) (s x : Operand)
    (ho : o.op = .call { callee := .builtin .append, args := #[s, x], argTypes := #[44, 44] }) (v : Value) (bs : List Nat) (gs : List (List (List Va))) (g : Nat) (p : List (List Va)) (W : World) (B nb : Nat) (hs : a.eval s = v) (hx : a.eval x = .slice (some ⟨nb, 0, none⟩) 1 1) (hv : PagesOwn W B v bs gs) (hg : OwnB W g (makeP p)) (hBg : B ≤ g) (hnew : ∀ k : Nat, bs[k]? ≠ some g) (hnb : W.heap[nb]? = some (.cells #[pageV g] 49 (0, 0))) (hB : B ≤ W.heap.size) (hl : gs.length ≤ 65536)
    (h : ∀ g' cap w', PushEnd W B v bs gs g p g' cap w' → wpList Tryz.prog ops Q rest (a.put o.dst (.slice (some ⟨g', 0, none⟩) (gs.length + 1) cap)) w') :
    wpList Tryz.prog ops Q (o :: rest) a W := by
  refine wpList_plain hgd fun K hK => ?_
  obtain ⟨g', cap, w', hr', h2, h3, h4⟩ := run_pushP o.type v bs gs g p W B nb hv hg hBg hnew hnb hB hl
  unfold Oper.wp execOp
  simp only [ho, resolve, invoke, builtin, Sem.run_bind, Sem.run_pure, Result.andThen_ok, List.map_toArray, List.map_cons, List.map_nil, hs, hx, hr']
  exact hK _ _ (h g' cap w' ⟨h2, h3, h4⟩)
/-- What is returned is a list of pages. -/
theorem pages_end {w : World} {B : Nat} {v : Value} {bs : List Nat} {gs : List (List (List Va))} (h : PagesOwn w B v bs gs) (hgd : GoodG gs) : ∃ A c, v = .slice A gs.length c ∧ PagesAt w A (gs.map makeP) ∧ (A = none → c = 0) := by
  obtain ⟨h1, h2, h3, h4⟩ := h
  rcases h1.2 with ⟨rfl, h0⟩ | ⟨g, cap, cur, rfl, hb, hg, e1, e2, e3, e4⟩
  · have : gs = [] := by simpa using h0
    subst this
    exact ⟨none, 0, rfl, .inl rfl, fun _ => rfl⟩
  · refine ⟨some ⟨g, 0, none⟩, cap, rfl, .inr ⟨g, 0, rfl, lt_of_block hg, fun i q hq => ?_⟩, fun hh => by cases hh⟩
    simp only [List.getElem?_map, Option.map_eq_some_iff] at hq
    obtain ⟨p, hp, rfl⟩ := hq
    have hil : i < gs.length := (List.getElem?_eq_some_iff.1 hp).1
    have hbi : bs[i]? = some (bs[i]'(by omega)) := List.getElem?_eq_getElem (by omega)
    obtain ⟨_, f2⟩ := h3 i _ p hbi hp
    have hfit := (hgd p (List.mem_of_getElem? hp)).1
    have hlen := makeP_len hfit
    refine ⟨some ⟨bs[i]'(by omega), 0, none⟩, 256, ?_, ?_, by omega⟩
    · have h5 : (cur.toList.take (gs.length * 1))[i]? = (bs.map pageV)[i]? := by rw [e4]
      rw [List.getElem?_take_of_lt (by omega), List.getElem?_map, hbi] at h5
      have hc : cur[i]? = some (pageV (bs[i]'(by omega))) := by simpa using h5
      rw [hlen, Nat.zero_add]
      simp [World.cell?, hg, hc]
      rfl
    · exact f2.bytes (makeP_byte (hgd p (List.mem_of_getElem? hp)).2.1 hfit)
end Go.Proofs.YtmjckdgomlppeaaGreatDoor
end
section
namespace Go.Proofs.YtmjckdgomlppeaaGreatDoor
open Go.RowKit Go.Shelf

theorem rowBytes_bad (A : Option Addr) (c : Nat) (r : List Va) (w : World) (h : RowAt w A r) (hf : Fine r) (hl : r.length ≤ 9223372036854775807) (hm : mayI r ≠ 0) :
    Calls Tryz.prog 72 #[.slice A r.length c] w fun e w' => e = .returned (.tuple #[.slice none 0 0, .int .i64 (mayI r)]) ∧ Below w.heap.size w w' := by
  refine (rowBytes_any A c r w h hf hl).mono fun e w' he => ?_
  unfold RBEnd at he
  unfold mayI at hm ⊢
  by_cases hok : okR r = true
  · by_cases hw : 253 < 1 + sumV r
    · simpa only [if_pos hok, if_pos hw] using he
    · simp only [if_pos hok, if_neg hw] at hm; exact absurd rfl hm
  · simpa only [if_neg hok] using he
theorem rowBytes_good (A : Option Addr) (c : Nat) (r : List Va) (w : World) (h : RowAt w A r) (hf : Fine r) (hl : r.length ≤ 9223372036854775807) (hm : mayI r = 0) :
    Calls Tryz.prog 72 #[.slice A r.length c] w (PutREnd w r) := by
  refine (rowBytes_any A c r w h hf hl).mono fun e w' he => ?_
  obtain ⟨hok, hw⟩ := mayI_ok hm
  unfold RBEnd at he
  rwa [if_pos hok, if_neg (by omega)] at he

/-- The draft: of no page, or of the last one. -/
def LastAt (w : World) (d : Nat) (bs : List Nat) (gs : List (List (List Va))) : Prop :=
  (∃ cs : Array Value, cs.size = 2 ∧ w.heap[d]? = some (.cells cs 103 (0, 0))) ∧ (gs = [] ∨ ∃ bs0 g gs0 p, bs = bs0 ++ [g] ∧ gs = gs0 ++ [p] ∧ DraftAt w d g ((1 + lenP p : Nat) : Int))
theorem LastAt.kept {w w' : World} {d : Nat} {bs : List Nat} {gs : List (List (List Va))} (h : LastAt w d bs gs) (hb : Below w.heap.size w w') : LastAt w' d bs gs := by
  obtain ⟨⟨cs, hs, h1⟩, h2⟩ := h
  have hd := hb.block d (lt_of_block h1)
  refine ⟨⟨cs, hs, hd.trans h1⟩, ?_⟩
  rcases h2 with h2 | ⟨bs0, g, gs0, p, e1, e2, e3⟩
  · exact .inl h2
  · exact .inr ⟨bs0, g, gs0, p, e1, e2, hd.trans e3⟩
theorem LastAt.of {w : World} {d g : Nat} {bs : List Nat} {gs : List (List (List Va))} {p : List (List Va)} {x : Int} (h : DraftAt w d g x) (hx : x = ((1 + lenP p : Nat) : Int)) : LastAt w d (bs ++ [g]) (gs ++ [p]) := by
  subst hx
  exact ⟨⟨_, rfl, h⟩, .inr ⟨bs, g, gs, p, rfl, rfl, h⟩⟩

/-- Bytes of a row in a block of bytes. -/
def BufAt (w : World) (g : Nat) (b : List Int) : Prop := BytesAt w (some ⟨g, 0, none⟩) b ∧ ∃ cs fr, w.heap[g]? = some (.cells cs 5 fr)
theorem bufAt {w : World} {base g cap N : Nat} {b : List Int} (h : Buf w base g cap N b) (hb : ∀ x ∈ b, 0 ≤ x ∧ x < 256) : BufAt w g b := by
  obtain ⟨_, cs, fr, hcs⟩ := owns_typed h.own g rfl
  exact ⟨h.bytes hb, cs, fr, hcs⟩
theorem BufAt.same {w w' : World} {g : Nat} {b : List Int} (h : BufAt w g b) (hk : w'.heap[g]? = w.heap[g]?) : BufAt w' g b := by
  obtain ⟨⟨h1, h2⟩, cs, fr, hcs⟩ := h
  refine ⟨⟨?_, h2⟩, cs, fr, hk.trans hcs⟩
  rcases h1 with h0 | ⟨ba, off, e, hlt, hc⟩
  · exact .inl h0
  · cases e
    refine .inr ⟨g, 0, rfl, lt_of_block (hk.trans hcs), fun i v hv => ?_⟩
    rw [← hc i v hv]
    simp [World.cell?, hk]
theorem PagesOwn.aside {w w' : World} {B d : Nat} {v : Value} {bs : List Nat} {gs : List (List (List Va))} (h : PagesOwn w B v bs gs) (ha : Aside d d w w') (hd : ∃ cs fr, w.heap[d]? = some (.cells cs 103 fr)) : PagesOwn w' B v bs gs := by
  obtain ⟨h1, h2, h3, h4⟩ := h
  obtain ⟨cs, fr, hd⟩ := hd
  have ht := owns_typed h1
  refine ⟨owns_same h1 (fun k hk => ?_), h2, fun k g p hg hp => ?_, h4⟩
  · obtain ⟨_, cs', fr', hk'⟩ := ht k hk
    have hne : k ≠ d := fun e => by subst e; rw [hd] at hk'; cases hk'
    exact ha.block k hne hne
  · obtain ⟨e1, e2⟩ := h3 k g p hg hp
    have hne : g ≠ d := fun e => by subst e; unfold OwnB at e2; rw [hd] at e2; cases e2
    exact ⟨e1, (ha.block g hne hne).trans e2⟩
theorem PagesOwn.old {w : World} {B : Nat} {v : Value} {bs : List Nat} {gs : List (List (List Va))} (h : PagesOwn w B v bs gs) {k g : Nat} (hk : bs[k]? = some g) : g < w.heap.size := by
  have hl := (List.getElem?_eq_some_iff.1 hk).1
  have h2 := h.2.1
  exact (h.2.2.1 k g _ hk (List.getElem?_eq_getElem (by omega))).2.lt

/-- What holds behind a new page's making, ahead of its append. -/
def Pushed (B d g g0 : Nat) (v : Value) (bs : List Nat) (gs : List (List (List Va))) (b : List Int) (w W : World) (W4 : World) : Prop :=
  PagesOwn W4 B v bs gs ∧ OwnB W4 g (makeP []) ∧ B ≤ g ∧ (∀ k : Nat, bs[k]? ≠ some g) ∧ W4.heap[W.heap.size]? = some (.cells #[pageV g] 49 (0, 0)) ∧ B ≤ W4.heap.size ∧ DraftAt W4 d g 1 ∧ BufAt W4 g0 b ∧ g0 ≠ g ∧ d ≠ g ∧ Below B w W4 ∧ B ≤ d
theorem newPage {w W2 w3 : World} {B d g g0 : Nat} {v : Value} {bs : List Nat} {gs : List (List (List Va))} {b : List Int} (hd : d = w.heap.size) (hB0 : B = w.heap.size) (HP : PagesOwn W2 B v bs gs) (HLa : LastAt W2 d bs gs) (HBf : BufAt W2 g0 b) (HB : Below B w W2) (hg : g = W2.heap.size) (hz : OwnB w3 g zeroP) (hb3 : Below W2.heap.size W2 w3) :
    (∃ x0 x1, w3.heap[d]? = some (.cells #[x0, x1] 103 (0, 0))) ∧ Pushed B d g g0 v bs gs b w w3 (((w3.setCell ⟨d, 0, none⟩ (.slice (some ⟨g, 0, none⟩) 256 256)).setCell ⟨d, 1, none⟩ (.int .i64 1)).alloc (.cells #[.slice (some ⟨g, 0, none⟩) 256 256] 49)) := by
  have hP3 := HP.kept hb3
  have hL3 := HLa.kept hb3
  obtain ⟨⟨cs, hcs, hdb⟩, _⟩ := hL3
  obtain ⟨x0, x1, rfl⟩ : ∃ x0 x1, cs = #[x0, x1] := by
    match cs, hcs with
    | ⟨[x0, x1]⟩, _ => exact ⟨x0, x1, rfl⟩
  refine ⟨⟨x0, x1, hdb⟩, ?_⟩
  have hdg : d ≠ g := fun e => by subst e; unfold OwnB at hz; rw [hdb] at hz; cases hz
  have ha : Aside d d w3 ((w3.setCell ⟨d, 0, none⟩ (.slice (some ⟨g, 0, none⟩) 256 256)).setCell ⟨d, 1, none⟩ (.int .i64 1)) :=
    ⟨rfl, rfl, rfl, by simp [World.setCell], fun k hk _ => (setCell_other _ d 1 k _ hk).trans (setCell_other _ d 0 k _ hk)⟩
  have hdr : DraftAt ((w3.setCell ⟨d, 0, none⟩ (.slice (some ⟨g, 0, none⟩) 256 256)).setCell ⟨d, 1, none⟩ (.int .i64 1)) d g 1 := by
    unfold DraftAt
    simp [World.setCell, Array.getElem?_modify, hdb]
  generalize (w3.setCell ⟨d, 0, none⟩ (.slice (some ⟨g, 0, none⟩) 256 256)).setCell ⟨d, 1, none⟩ (.int .i64 1) = W at ha hdr
  have hf3 : BufAt w3 g0 b := by
    obtain ⟨_, cs, fr, hcs⟩ := id HBf
    exact HBf.same (hb3.block g0 (lt_of_block hcs))
  have hg0 : g0 < W2.heap.size := by obtain ⟨_, cs, fr, hcs⟩ := HBf; exact lt_of_block hcs
  have hfd : g0 ≠ d := fun e => by obtain ⟨_, cs, fr, hcs⟩ := hf3; subst e; rw [hdb] at hcs; cases hcs
  have hs := HB.size
  have hBd : B ≤ d := by omega
  refine ⟨(hP3.aside ha ⟨_, _, hdb⟩).kept (ba W _), ?_, by omega, fun k hk => ?_, ?_, ?_, ((ba W _).block d (lt_of_block hdr)).trans hdr, ?_, by omega, hdg, ?_, hBd⟩
  · have : OwnB W g (makeP []) := by
      rw [make_nil]
      exact (ha.block g (Ne.symm hdg) (Ne.symm hdg)).trans hz
    exact this.kept (ba W _)
  · have := HP.old hk; omega
  · rw [← ha.size]; exact heap_alloc_new W _
  · simp [ha.size]
    have := hb3.size
    omega
  · have h4 := hf3.same (ha.block g0 hfd hfd)
    obtain ⟨_, cs, fr, hcs⟩ := id h4
    exact h4.same ((ba W _).block g0 (lt_of_block hcs))
  · have h5 : Below B w w3 := (HB.trans (hb3.mono (by omega)))
    exact (h5.trans (ha.below hBd hBd)).trans ((ba W _).mono (by have := ha.size; have := hb3.size; omega))
/-- .. and behind it. -/
theorem newPage2 {w W W4 w5 : World} {B d g g0 g' cap : Nat} {v : Value} {bs : List Nat} {gs : List (List (List Va))} {r : List Va} (hQ : Pushed B d g g0 v bs gs (putR r) w W W4) (hp : PushEnd W4 B v bs gs g [] g' cap w5) (hm : mayI r = 0) :
    DraftAt w5 d g ((1 : Nat) : Int) ∧ OwnB w5 g (makeP []) ∧ BytesAt w5 (some ⟨g0, 0, none⟩) (putR r) ∧ g0 ≠ g ∧ d ≠ g ∧
      ∀ w7, OwnB w7 g (putB (makeP []) 0 1 (putR r)) → DraftAt w7 d g ((1 + (1 + sumV r) : Nat) : Int) → Aside g d w5 w7 → PagesOwn w7 B (.slice (some ⟨g', 0, none⟩) (gs.length + 1) cap) (bs ++ [g]) (gs ++ [[r]]) ∧ LastAt w7 d (bs ++ [g]) (gs ++ [[r]]) ∧ Below B w w7 := by
  obtain ⟨q1, q2, q3, q4, q5, q6, q7, q8, q9, q10, q11, q12⟩ := hQ
  obtain ⟨hp5, hgr, hk5⟩ := hp
  have hd5 : DraftAt w5 d g ((1 : Nat) : Int) := (hk5 d _ _ _ q7 (by decide)).trans q7
  refine ⟨hd5, (hk5 g _ _ _ q2 (by decide)).trans q2, ?_, q9, q10, fun w7 hO hD hA => ?_⟩
  · obtain ⟨_, cs, fr, hcs⟩ := id q8
    exact (q8.same (hk5 g0 _ _ _ hcs (by decide))).1
  · have hfit := fits_one hm
    have e := put_make (rs := []) hfit
    rw [show putB (makeP []) [].length (1 + lenP []) (putR r) = putB (makeP []) 0 1 (putR r) from rfl] at e
    rw [e] at hO
    refine ⟨hp5.put hO hA ⟨_, _, hd5⟩, LastAt.of (p := [r]) hD (by rw [show lenP [r] = sizeR r by simp [lenP, bodyP, sizeR_len]]; unfold sizeR; rfl), ?_⟩
    have h6 : Below B w w5 := q11.grown hgr q6 (fun k hk => (owns_typed q1.1 k hk).1)
    exact h6.trans (hA.below q3 q12)

def FillEnd (w : World) (rs : List (List Va)) (e : Ending) (w' : World) : Prop :=
  Below w.heap.size w w' ∧ if badP rs = 0 then ∃ A c, e = .returned (.tuple #[.slice A (fillP rs).length c, .int .i64 0]) ∧ PagesAt w' A ((fillP rs).map makeP) ∧ (A = none → c = 0)
    else e = .returned (.tuple #[.slice none 0 0, .int .i64 (badP rs)])

set_option maxRecDepth 100000 in
set_option maxHeartbeats 1000000 in
theorem fill_any (A : Option Addr) (c L : Nat) (rs : List (List Va)) (w : World) (h : RowsAt w A rs) (hL : rs.length = L) (hl : L ≤ 600) (hf : ∀ r ∈ rs, Fine r) (hk : ∀ r ∈ rs, r.length ≤ 9223372036854775807) :
    Calls Tryz.prog 47 #[.slice A L c] w (FillEnd w rs) := by
  have HR := Lib.hid h
  have HL := Lib.hid hL
  have HF := Lib.hid hf
  have HK := Lib.hid hk
  clear h hL hf hk
  go_enter Tryz.func47, Tryz.ntmps47
  go_wp2_with fail
  obtain ⟨d, hd⟩ : ∃ d, d = w.heap.size := ⟨_, rfl⟩
  rw [← hd]
  go_loopw [4, 12] (fun v i wr => ∃ (j : Nat) (bs : List Nat) (gs : List (List (List Va))), j ≤ L ∧ i = .int .i64 j ∧ gs.length ≤ j ∧ Hid (PagesOwn wr w.heap.size v bs gs) ∧ Hid (LastAt wr d bs gs) ∧ Hid (gs = fillP (rs.take j)) ∧ Hid (badP (rs.take j) = 0) ∧ Hid (Below w.heap.size w wr)) (fun _ i _ => L - (intOf i).toNat)
  case atStart => exact ⟨0, [], [], Nat.zero_le _, rfl, Nat.le_refl _, Lib.hid (PagesOwn.nil _ _), Lib.hid ⟨⟨_, rfl, by rw [hd]; exact heap_alloc_new w _⟩, .inl rfl⟩, Lib.hid rfl, Lib.hid rfl, Lib.hid (ba w _)⟩
  case round =>
    obtain ⟨j, bs, gs, hj, rfl, hgl, HP, HLa, HG, HBd, HB⟩ := hrel
    have HD := Lib.hid hd
    clear hd
    by_cases hlt : j < L
    · have hlt' : j < rs.length := by rw [HL.out]; exact hlt
      obtain ⟨b, off, rfl, A', c', c0, hr⟩ := (HR.out.kept HB.out).cellAt hlt'
      have hfj := HF.out rs[j] (List.getElem_mem hlt')
      have hkj := HK.out rs[j] (List.getElem_mem hlt')
      have HN := Lib.hid (fillP_take rs j hlt')
      have HN2 := Lib.hid (badP_snoc (rs.take j) rs[j] HBd.out)
      rw [← List.take_succ_eq_append_getElem hlt'] at HN2
      have HN3 := Lib.hid (badP_at hlt' HBd.out)
      have hji : (j : Int) < (L : Int) := by omega
      generalize rs[j] = r at c0 hr hfj hkj HN HN2 HN3
      have HRj := Lib.hid hr
      clear hr
      by_cases hm : mayI r = 0
      · have HC := Lib.hid (fun W hW => rowBytes_good A' c' r W hW hfj hkj hm)
        obtain ⟨hok, hw⟩ := mayI_ok hm
        have HPL := Lib.hid (putR_len r)
        have HY := Lib.hid (putR_byte r hok)
        by_cases h0 : j = 0
        · have hj0 : ((j : Int) == 0) = true := by simp [h0]
          obtain rfl : gs = [] := List.eq_nil_of_length_eq_zero (by omega)
          clear h0
          go_wp2_with fail
          refine (HC.out _ HRj.out).mono ?_
          rintro e W2 ⟨g0, rfl, hbuf, hb2⟩
          have HBf := Lib.hid (show BufAt W2 g0 (putR r) from bufAt hbuf HY.out)
          have HP := Lib.hid (HP.out.kept hb2)
          have HLa := Lib.hid (HLa.out.kept hb2)
          have HB := Lib.hid (bt HB.out hb2)
          clear hbuf hb2 HRj c0
          go_wp2_with fail
          refine (pageNew_any _).mono ?_
          rintro e w3 ⟨g, rfl, hg, hz, hb3⟩
          subst hg
          obtain ⟨g, hg⟩ : ∃ g, g = W2.heap.size := ⟨_, rfl⟩
          rw [← hg] at hz ⊢
          have HX := Lib.hid (newPage HD.out rfl HP.out HLa.out HBf.out HB.out hg hz hb3)
          clear HP HLa HBf HB hz hb3 hg
          obtain ⟨⟨x0, x1, hdb⟩, hrest⟩ := HX.out
          have d0 : w3.cell? ⟨d, 0, none⟩ = some x0 := by simp [World.cell?, hdb]
          have d1 : w3.cell? ⟨d, 1, none⟩ = some x1 := by simp [World.cell?, hdb]
          have f0 : w3.frozen? ⟨d, 0, none⟩ = false := by simp [World.frozen?, hdb]
          have f1 : w3.frozen? ⟨d, 1, none⟩ = false := by simp [World.frozen?, hdb]
          have HQ := Lib.hid hrest
          clear hdb hrest HX
          go_wp2_with (at_builtin; refine wpList_pushP rfl (.tmp 34) (.tmp 37) rfl u4 bs [] g [] _ w.heap.size w3.heap.size rfl rfl HQ.out.1 HQ.out.2.1 HQ.out.2.2.1 HQ.out.2.2.2.1 HQ.out.2.2.2.2.1 ?c1 ?c2 ?_)
          case c1 => exact HQ.out.2.2.2.2.2.1
          case c2 => omega
          intro g' cap w5 hp5
          have HY5 := Lib.hid (newPage2 HQ.out hp5 hm)
          clear HQ hp5 d0 d1 f0 f1
          go_wp2_with fail
          refine (put_any d g 1 (makeP []) (some ⟨g0, 0, none⟩) (putR r) (1 + sumV r) (1 + sumV r) 0 w5 HY5.out.1 HY5.out.2.1 rfl rfl (by omega) HY5.out.2.2.1 (fun a ha => by cases ha; exact HY5.out.2.2.2.1) HPL.out (by omega) (by omega) (by omega) HY5.out.2.2.2.2.1).mono ?_
          rintro e w7 ⟨rfl, hO, hD, hAs⟩
          have HZ := Lib.hid (HY5.out.2.2.2.2.2 w7 hO hD hAs)
          clear HY5 hO hD hAs
          go_wp2_with fail
          go_roundw
          case rel => exact ⟨j + 1, bs ++ [g], [] ++ [[r]], by omega, by go_num, by simp, Lib.hid HZ.out.1, Lib.hid HZ.out.2.1, Lib.hid (by rw [HN.out, ← HG.out]; rfl), Lib.hid (by rw [HN2.out]; exact hm), Lib.hid HZ.out.2.2⟩
          case measure => simp [intOf]; omega
        · have hj0 : ((j : Int) == 0) = false := by simp [h0]
          have hne : gs ≠ [] := by
            rw [HG.out]
            obtain ⟨j', rfl⟩ : ∃ j', j = j' + 1 := ⟨j - 1, by omega⟩
            rw [fillP_take rs j' (by omega)]
            exact addG_ne _ _
          have HGd := Lib.hid (fillP_good (badP_zero HBd.out)).1
          rw [← HG.out] at HGd
          go_wp2_with fail
          refine (HC.out _ HRj.out).mono ?_
          rintro e w2 ⟨g0, rfl, hbuf, hb2⟩
          have hg0 := hbuf.lt.1
          have HBf := Lib.hid (show BufAt w2 g0 (putR r) from bufAt hbuf HY.out)
          have HPo := Lib.hid HP.out
          have HP := Lib.hid (HP.out.kept hb2)
          have HLa := Lib.hid (HLa.out.kept hb2)
          have HB := Lib.hid (bt HB.out hb2)
          clear hbuf hb2 HRj c0
          obtain ⟨⟨xs, hxs, hxd⟩, hla⟩ := HLa.out
          obtain ⟨bs0, g, gs0, p, rfl, rfl, hdr⟩ := hla.resolve_left hne
          obtain ⟨hBg, hOw⟩ := HP.out.last
          have hgo : g < wr.heap.size := HPo.out.last.2.lt
          obtain ⟨hfp, hokp, _⟩ := HGd.out p (by simp)
          obtain ⟨_, hfp2, hfp3⟩ := fitsP_parts hfp
          have HFit := Lib.hid (fits_snoc (r := r) hfp)
          have hml := makeP_len hfp
          have hmh := makeP_head p
          have HDr := Lib.hid hdr
          have HOw := Lib.hid hOw
          have HML := Lib.hid hml
          have HMH := Lib.hid hmh
          have HXd := Lib.hid (show ∃ cs fr, w2.heap[d]? = some (.cells cs 103 fr) from ⟨_, _, hxd⟩)
          have hdg : d ≠ g := fun e => by subst e; unfold OwnB at hOw; unfold DraftAt at hdr; rw [hdr] at hOw; cases hOw
          clear hdr hOw hml hmh hxs hxd hla hne
          go_wp2_with fail
          refine (fits_any d g (1 + lenP p) (makeP p) _ _ _ p.length w2 HDr.out HOw.out HML.out HMH.out (by omega) (by omega)).mono ?_
          rintro e w6 ⟨rfl, q, rfl⟩
          have HRoom := Lib.hid (show fitsP (p ++ [r]) = decide (((1 + sumV r : Nat) : Int) ≤ roomI p.length ((1 + lenP p : Nat) : Int)) from HFit.out)
          by_cases hroom : ((1 + sumV r : Nat) : Int) ≤ roomI p.length ((1 + lenP p : Nat) : Int)
          · simp only [decide_eq_true hroom]
            have HFn := Lib.hid (show fitsP (p ++ [r]) = true by rw [HRoom.out]; simpa using hroom)
            have hfit2 : (1 + lenP p) + (1 + sumV r) ≤ 254 - 2 * p.length := by unfold roomI at hroom; omega
            have HPUT := Lib.hid (put_any d g (1 + lenP p) (makeP p) (some ⟨g0, 0, none⟩) (putR r) (1 + sumV r) (1 + sumV r) p.length (w2.drewN q) HDr.out HOw.out HML.out HMH.out (by omega) HBf.out.1 (fun a ha => by cases ha; show g0 ≠ g; omega) HPL.out (by omega) (by omega) hfit2 hdg)
            have HBq := Lib.hid (show Below w.heap.size w (w2.drewN q) from ⟨HB.out.os, HB.out.tape, HB.out.output, HB.out.size, HB.out.block⟩)
            have HPq := Lib.hid (show PagesOwn (w2.drewN q) w.heap.size u4 (bs0 ++ [g]) (gs0 ++ [p]) from HP.out)
            have HDd := Lib.hid HD.out
            go_wp2_with fail
            refine HPUT.out.mono ?_
            rintro e w7 ⟨rfl, hO, hD, hAs⟩
            rw [put_make HFn.out] at hO
            have HZ1 := Lib.hid (HPq.out.put hO hAs HXd.out)
            have HZ2 := Lib.hid (show LastAt w7 d (bs0 ++ [g]) (gs0 ++ [p ++ [r]]) from LastAt.of hD (by rw [lenP_snoc]; unfold sizeR; omega))
            have HZ3 := Lib.hid (HBq.out.trans (hAs.below hBg (by rw [HDd.out]; exact Nat.le_refl _)))
            clear hO hD hAs
            go_wp2_with fail
            go_roundw
            case rel => exact ⟨j + 1, bs0 ++ [g], gs0 ++ [p ++ [r]], by omega, by go_num, by simp at hgl ⊢; omega, HZ1, HZ2, Lib.hid (by rw [HN.out, ← HG.out, addG_in HFn.out]), Lib.hid (by rw [HN2.out]; exact hm), HZ3⟩
            case measure => simp [intOf]; omega
          · simp only [decide_eq_false hroom]
            have HFn := Lib.hid (show fitsP (p ++ [r]) = false by rw [HRoom.out]; simpa using hroom)
            have HBf := Lib.hid (show BufAt (w2.drewN q) g0 (putR r) from HBf.out)
            have HP := Lib.hid (show PagesOwn (w2.drewN q) w.heap.size u4 (bs0 ++ [g]) (gs0 ++ [p]) from HP.out)
            have HLa := Lib.hid (show LastAt (w2.drewN q) d (bs0 ++ [g]) (gs0 ++ [p]) from HLa.out)
            have HB := Lib.hid (show Below w.heap.size w (w2.drewN q) from ⟨HB.out.os, HB.out.tape, HB.out.output, HB.out.size, HB.out.block⟩)
            generalize w2.drewN q = W2 at HBf HP HLa HB ⊢
            generalize bs0 ++ [g] = bs at HP HLa
            have HAd := Lib.hid (addG_new (gs := gs0) HFn.out)
            have HG := Lib.hid HG.out
            generalize gs0 ++ [p] = gs at HP HLa HAd hgl HG
            clear hdg hgo hBg HDr HOw HXd HPo
            go_wp2_with fail
            refine (pageNew_any _).mono ?_
            rintro e w3 ⟨g, rfl, hg, hz, hb3⟩
            subst hg
            obtain ⟨g, hg⟩ : ∃ g, g = W2.heap.size := ⟨_, rfl⟩
            rw [← hg] at hz ⊢
            have HX := Lib.hid (newPage HD.out rfl HP.out HLa.out HBf.out HB.out hg hz hb3)
            clear HP HLa HBf HB hz hb3 hg
            obtain ⟨⟨x0, x1, hdb⟩, hrest⟩ := HX.out
            have d0 : w3.cell? ⟨d, 0, none⟩ = some x0 := by simp [World.cell?, hdb]
            have d1 : w3.cell? ⟨d, 1, none⟩ = some x1 := by simp [World.cell?, hdb]
            have f0 : w3.frozen? ⟨d, 0, none⟩ = false := by simp [World.frozen?, hdb]
            have f1 : w3.frozen? ⟨d, 1, none⟩ = false := by simp [World.frozen?, hdb]
            have HQ := Lib.hid hrest
            clear hdb hrest HX
            go_wp2_with (at_builtin; refine wpList_pushP rfl (.tmp 34) (.tmp 37) rfl u4 bs gs g [] _ w.heap.size w3.heap.size rfl rfl HQ.out.1 HQ.out.2.1 HQ.out.2.2.1 HQ.out.2.2.2.1 HQ.out.2.2.2.2.1 ?c1 ?c2 ?_)
            case c1 => exact HQ.out.2.2.2.2.2.1
            case c2 => omega
            intro g' cap w5 hp5
            have HY5 := Lib.hid (newPage2 HQ.out hp5 hm)
            clear HQ hp5 d0 d1 f0 f1
            go_wp2_with fail
            refine (put_any d g 1 (makeP []) (some ⟨g0, 0, none⟩) (putR r) (1 + sumV r) (1 + sumV r) 0 w5 HY5.out.1 HY5.out.2.1 rfl rfl (by omega) HY5.out.2.2.1 (fun a ha => by cases ha; exact HY5.out.2.2.2.1) HPL.out (by omega) (by omega) (by omega) HY5.out.2.2.2.2.1).mono ?_
            rintro e w7 ⟨rfl, hO, hD, hAs⟩
            have HZ := Lib.hid (HY5.out.2.2.2.2.2 w7 hO hD hAs)
            clear HY5 hO hD hAs
            go_wp2_with fail
            go_roundw
            case rel => exact ⟨j + 1, bs ++ [g], gs ++ [[r]], by omega, by go_num, by simp; omega, Lib.hid HZ.out.1, Lib.hid HZ.out.2.1, Lib.hid (by rw [HN.out, ← HG.out]; exact HAd.out.symm), Lib.hid (by rw [HN2.out]; exact hm), Lib.hid HZ.out.2.2⟩
            case measure => simp [intOf]; omega
      · have HC := Lib.hid (fun W hW => rowBytes_bad A' c' r W hW hfj hkj hm)
        have hm' : (mayI r != 0) = true := by simpa using hm
        have HE := Lib.hid (HN3.out hm)
        have HM := Lib.hid hm
        clear hm
        generalize mayI r = m at HC hm' HE HM
        go_wp2_with fail
        refine (HC.out _ HRj.out).mono ?_
        rintro e w2 ⟨rfl, hb2⟩
        go_wp2_with fail
        go_ret2
        refine ⟨bt HB.out hb2, ?_⟩
        rw [HE.out, if_neg HM.out]
        rfl
    · have hjL : j = L := by omega
      have HGd := Lib.hid (fillP_good (badP_zero HBd.out)).1
      rw [← HG.out] at HGd
      obtain ⟨A9, c9, rfl, hp9, hA9⟩ := pages_end HP.out HGd.out
      have HT := Lib.hid (List.take_of_length_le (l := rs) (i := j) (by rw [HL.out]; omega))
      have HP9 := Lib.hid hp9
      have HA9 := Lib.hid hA9
      clear hp9 hA9
      go_wp2_with fail
      go_ret2
      refine ⟨HB.out, ?_⟩
      have hb0 := HBd.out
      have hg0 := HG.out
      rw [HT.out] at hb0 hg0
      rw [if_pos hb0, ← hg0]
      exact ⟨A9, c9, rfl, HP9.out, HA9.out⟩
end Go.Proofs.YtmjckdgomlppeaaGreatDoor
end
