/-
  Package catalog: Same.
Package catalog: Columns, and the document's own.
Package catalog: the document's Columns.
Package catalog: what holds of the law's small tables. Plain.
Package catalog: what must come of every program.
Package catalog: what holds of tables that are not large; rows that are turned. Plain.
Package catalog: the document's Check.
Package catalog: what Find answers as one table, lists of one table, single operations on tables.
Package catalog: the walk of CatalogChecks.
-/
import Derived.Test.YtmjckdgomlppeaaGreatDoorZ10
import Derived.Laws.AppendOwn
import Derived.ArgAppend
import Derived.Deep.Cut
import Derived.Deep.CutRange
section
namespace Go.Proofs.YtmjckdgomlppeaaGreatDoor
open Go.RowKit Go.Shelf
attribute [local go_sem] Oper.semAt_some

set_option maxRecDepth 100000 in
set_option maxHeartbeats 2000000 in
theorem equalTabs_any (A B : Option Addr) (c d : Nat) (l r : List Ta) (w : World) (hA : CtAt w A l) (hB : CtAt w B r) (hl : l.length ≤ 9223372036854775807) (hf : ∀ t ∈ l, Few t) (hf' : ∀ t ∈ r, Few t) {q : Bool} (hq : sameTs l r = q) :
    Calls Tryz.prog 45 #[.slice A l.length c, .slice B r.length d, .func (.func 46) #[] #[]] w fun e w' => e = .returned (.bool q) ∧ Below w.heap.size w w' := by
  have eg := enters_of Tryz.func46 (by kernel_rfl) rfl
  unfold Enters at eg
  have HA := Lib.hid hA
  have HB := Lib.hid hB
  have HF := Lib.hid hf
  have HF' := Lib.hid hf'
  have HQ := Lib.hid hq
  clear hA hB hq hf hf'
  by_cases hlen : l.length = r.length
  · have hne : ((l.length : Int) != (r.length : Int)) = false := by rw [bne_eq_false_iff_eq]; omega
    have HLn := Lib.hid hlen
    clear hlen
    go_enter Tryz.func45, Tryz.ntmps45
    go_wp2_with fail
    clear hne
    go_loopw [17] (fun i wr => ∃ j : Nat, j ≤ l.length ∧ i = .int .i64 j ∧ Hid (Below w.heap.size w wr) ∧ Hid (∀ i, i < j → sameT (l.getD i nTa) (r.getD i nTa) = true)) (fun i _ => l.length - (intOf i).toNat)
    case atStart => exact ⟨0, Nat.zero_le _, rfl, Lib.hid (Below.refl _ _), Lib.hid (fun i hi => absurd hi (by omega))⟩
    case round =>
      obtain ⟨j, hj, rfl, HW, HNo⟩ := hrel
      by_cases hlt : j < l.length
      · have hltr : j < r.length := by rw [← HLn.out]; exact hlt
        obtain ⟨b1, off1, rfl, hb1, Ac, cc, Ar, dd, x0, x1, x2, ht⟩ := (HA.out.kept HW.out).at hlt
        obtain ⟨b2, off2, rfl, hb2, Ac', cc', Ar', dd', y0, y1, y2, hu⟩ := (HB.out.kept HW.out).at hltr
        have HG := Lib.hid (show sameT (l.getD j nTa) (r.getD j nTa) = sameT l[j] r[j] by
          rw [List.getD_eq_getElem?_getD, List.getD_eq_getElem?_getD, List.getElem?_eq_getElem hlt, List.getElem?_eq_getElem hltr]; rfl)
        have hft := HF.out l[j] (List.getElem_mem hlt)
        have hfu := HF'.out r[j] (List.getElem_mem hltr)
        have hjI : (j : Int) < (l.length : Int) := by omega
        have hjR : (j : Int) < (r.length : Int) := by omega
        have hj0 : 0 ≤ (j : Int) := Int.natCast_nonneg _
        generalize l[j] = t at x0 x1 x2 ht hft HG
        generalize r[j] = u at y0 y1 y2 hu hfu HG
        obtain ⟨qx, hqx⟩ : ∃ qx, sameT t u = qx := ⟨_, rfl⟩
        have h1 := ba wr (tbox t.nm Ac t.cols.length cc Ar t.rows.length dd)
        have h2 := ba (wr.alloc (tbox t.nm Ac t.cols.length cc Ar t.rows.length dd)) (tbox u.nm Ac' u.cols.length cc' Ar' u.rows.length dd')
        have HX := Lib.hid ((h2.block wr.heap.size (by simp)).trans (MapKept.heap_alloc wr (tbox t.nm Ac t.cols.length cc Ar t.rows.length dd)).1)
        have HY := Lib.hid (show ((wr.alloc (tbox t.nm Ac t.cols.length cc Ar t.rows.length dd)).alloc (tbox u.nm Ac' u.cols.length cc' Ar' u.rows.length dd')).heap[wr.heap.size + 1]? = some (tbox u.nm Ac' u.cols.length cc' Ar' u.rows.length dd') by
          have := (MapKept.heap_alloc (wr.alloc (tbox t.nm Ac t.cols.length cc Ar t.rows.length dd)) (tbox u.nm Ac' u.cols.length cc' Ar' u.rows.length dd')).1
          rwa [World.size_alloc] at this)
        have HW2 := Lib.hid (bt HW.out (bt h1 h2))
        have HC := Lib.hid (sameTable_any t u Ac Ar Ac' Ar' cc dd cc' dd' _ (ht.kept (bt h1 h2)) (hu.kept (bt h1 h2)) hft hfu hqx)
        have HG2 := Lib.hid (HG.out.trans hqx)
        have y0' := (h1.cell (p := ⟨b2, off2 + j * 3, none⟩) hb2).trans y0
        have y1' := (h1.cell (p := ⟨b2, off2 + j * 3 + 1, none⟩) hb2).trans y1
        have y2' := (h1.cell (p := ⟨b2, off2 + j * 3 + 2, none⟩) hb2).trans y2
        obtain ⟨nm, cols, rows⟩ := t
        obtain ⟨nm', cols', rows'⟩ := u
        simp only at x0 x1 x2 y0 y1 y2 y0' y1' y2' HX HY HW2 HC
        clear hltr ht hu hft hfu hqx h1 h2 hb1 hb2
        go_upto_region 7 with fail
        generalize (wr.alloc (.cells #[.string nm, .slice Ac cols.length cc, .slice Ar rows.length dd] 29)).alloc (.cells #[.string nm', .slice Ac' cols'.length cc', .slice Ar' rows'.length dd'] 29) = W0 at HX HY HW2 HC ⊢
        clear x0 x1 x2 y0 y1 y2 y0' y1' y2'
        obtain ⟨x0, x1, x2⟩ := cell3 HX.out
        obtain ⟨y0, y1, y2⟩ := cell3 HY.out
        cases qx
        · obtain rfl : false = q := by rw [← HQ.out, sameTs_no hlt HG2.out]
          clear hlt
          go_wp2_with fail
          refine HC.out.mono ?_
          rintro e w1 ⟨rfl, hb1⟩
          have HB1 := Lib.hid (bt HW2.out hb1)
          clear hb1
          go_wp2_with fail
          go_ret
          exact ⟨rfl, HB1.out⟩
        · have HN1 := Lib.hid (fun i (hi : i < j + 1) => by
            rcases Nat.lt_or_ge i j with h' | h'
            · exact HNo.out i h'
            · obtain rfl : i = j := by omega
              exact HG2.out)
          clear hlt
          go_wp2_with fail
          refine HC.out.mono ?_
          rintro e w1 ⟨rfl, hb1⟩
          have HB1 := Lib.hid (bt HW2.out hb1)
          clear hb1
          go_wp2_with fail
          go_roundw
          case rel => exact ⟨j + 1, by omega, by go_num, HB1, HN1⟩
          case measure => simp [intOf]; omega
      · obtain rfl : true = q := by rw [← HQ.out, sameTs_yes HLn.out fun i hi => HNo.out i (by omega)]
        go_wp2_with fail
        go_ret
        exact ⟨rfl, HW.out⟩
  · obtain rfl : false = q := by rw [← HQ.out, sameTs, decide_eq_false hlen, Bool.false_and]
    have hne : ((l.length : Int) != (r.length : Int)) = true := by rw [bne_iff_ne]; omega
    go_enter Tryz.func45, Tryz.ntmps45
    go_wp2_with fail
    go_ret
    exact ⟨rfl, Below.refl _ _⟩
theorem cSame_any (A B : Option Addr) (c d : Nat) (l r : List Ta) (w : World) (hA : CtAt w A l) (hB : CtAt w B r) (hl : l.length ≤ 9223372036854775807) (hf : ∀ t ∈ l, Few t) (hf' : ∀ t ∈ r, Few t) {q : Bool} (hq : sameTs l r = q) :
    Calls Tryz.prog 24 #[.slice A l.length c, .slice B r.length d] w fun e w' => e = .returned (.bool q) ∧ Below w.heap.size w w' := by
  have HC := Lib.hid (equalTabs_any A B c d l r w hA hB hl hf hf' hq)
  clear hA hB hl hf hf' hq
  go_enter Tryz.func24, Tryz.ntmps24
  go_wp2_with fail
  refine HC.out.mono ?_
  rintro e w1 ⟨rfl, hb1⟩
  have HB1 := Lib.hid hb1
  clear hb1
  go_wp2_with fail
  go_ret
  exact ⟨rfl, HB1.out⟩
/-- What Pages answers. -/
def PagesE (t : Ta) (w : World) (e : Ending) (w' : World) : Prop :=
  Below w.heap.size w w' ∧ if tabB t = true then ∃ A c, e = .returned (.tuple #[.slice A (fillP t.rows).length c, .int .i64 0]) ∧ PagesAt w' A ((fillP t.rows).map makeP) ∧ (A = none → c = 0)
    else e = .returned (.tuple #[.slice none 0 0, .int .i64 130])
theorem badP_of : ∀ {rs : List (List Va)}, (∀ r ∈ rs, mayI r = 0) → badP rs = 0
  | [], _ => by first | rfl | simp [badP]
  | r :: rs, h => by
    have h1 := h r (List.mem_cons_self ..)
    have h2 := badP_of (rs := rs) fun x hx => h x (List.mem_cons_of_mem _ hx)
    simp [badP, h1, h2]
theorem tabB_bad {t : Ta} (h : tabB t = true) : badP t.rows = 0 := by
  rw [tabB, Bool.and_eq_true] at h
  have h0 := h.2
  rw [rowsB, Bool.and_eq_true] at h0
  refine badP_of fun r hr => ?_
  have h1 : t.rows.any (oddR t.cols) = false := by simpa using h0.2
  have h2 := List.any_eq_false.1 h1 r hr
  have h3 : oddR t.cols r = false := by simpa using h2
  rw [oddR, Bool.or_eq_false_iff] at h3
  have h4 : fitT t.cols r = true := by simpa using h3.1
  have h5 := of_decide_eq_false h3.2
  rw [mayI, if_pos (fitT_ok h4), if_neg h5]
theorem PagesE.no {t : Ta} {w w' : World} (h : tabB t = false) (hb : Below w.heap.size w w') : PagesE t w (.returned (.tuple #[.slice none 0 0, .int .i64 130])) w' := ⟨hb, by rw [if_neg (by rw [h]; simp)]⟩
set_option maxRecDepth 100000 in
theorem cpages_any (t : Ta) (A B : Option Addr) (c d : Nat) (w : World) (h : TaOk w t A c B d) (hF : FineT t) (hT : Tabs w) (hs : tabB t = true → t.rows.length ≤ 600) :
    Calls Tryz.prog 25 #[TV t.nm A t.cols.length c B t.rows.length d] w (PagesE t w) := by
  have hba := ba w (tbox t.nm A t.cols.length c B t.rows.length d)
  have HBx := Lib.hid (MapKept.heap_alloc w (tbox t.nm A t.cols.length c B t.rows.length d)).1
  obtain ⟨q, hq⟩ : ∃ q, tabB t = q := ⟨_, rfl⟩
  have hI := table_any t A B c d _ (h.kept hba) hF (hT.kept hba) hq
  obtain ⟨n, hn⟩ : ∃ n : Int, (if q = true then 0 else 130) = n := ⟨_, rfl⟩
  rw [hn] at hI
  have HI := Lib.hid hI
  have HNn := Lib.hid hn
  clear hI hn
  have HB := Lib.hid hba
  have HFi := Lib.hid (fun (hq1 : tabB t = true) W (hb : Below w.heap.size w W) => fill_any B d t.rows.length t.rows W (h.ro.kept hb) rfl (hs hq1) hF.ro hF.rl)
  have HQ := Lib.hid hq
  have HBad := Lib.hid (fun (hq1 : tabB t = true) => tabB_bad hq1)
  obtain ⟨Q, hQ⟩ : ∃ Q, PagesE t w = Q := ⟨_, rfl⟩
  have HPE := Lib.hid hQ
  rw [hQ]
  have HYes := Lib.hid (fun w' (hb : Below w.heap.size w w') A' c' (hq1 : tabB t = true) (hp : PagesAt w' A' ((fillP t.rows).map makeP)) (hn : A' = none → c' = 0) => (show PagesE t w (.returned (.tuple #[.slice A' (fillP t.rows).length c', .int .i64 0])) w' from ⟨hb, by rw [if_pos hq1]; exact ⟨A', c', rfl, hp, hn⟩⟩))
  have HNo := Lib.hid (fun w' (hb : Below w.heap.size w w') (hq1 : tabB t = false) => PagesE.no hq1 hb)
  obtain ⟨nm, cols, rows⟩ := t
  simp only at HBx HI HB HFi ⊢
  clear hba h hF hT hq hs hQ
  obtain ⟨x0, x1, x2⟩ := cell3 HBx.out
  go_enter Tryz.func25, Tryz.ntmps25
  go_wp2_with fail
  refine HI.out.mono ?_
  rintro e w1 ⟨rfl, hb1⟩
  have hx1 := (hb1.block w.heap.size (by simp)).trans HBx.out
  have HB1 := Lib.hid (bt HB.out hb1)
  obtain ⟨y0, y1, y2⟩ := cell3 hx1
  clear hb1 x0 x1 x2 hx1
  cases q
  · obtain rfl : (130 : Int) = n := by have := HNn.out; simpa using this
    go_wp2_with fail
    show Q (.returned (.tuple #[.slice none 0 0, .int .i64 130])) w1
    rw [← HPE.out]
    exact HNo.out _ HB1.out HQ.out
  · obtain rfl : (0 : Int) = n := by have := HNn.out; simpa using this
    have HF1 := Lib.hid (HFi.out HQ.out w1 HB1.out)
    go_wp2_with fail
    refine HF1.out.mono ?_
    rintro e w2 ⟨hb2, hfi⟩
    rw [if_pos (HBad.out HQ.out)] at hfi
    obtain ⟨A', c', rfl, hp, hn⟩ := hfi
    have HP := Lib.hid (HYes.out w2 (bt HB1.out hb2) A' c' HQ.out hp hn)
    clear hb2 hp hn
    go_wp2_with fail
    show Q (.returned (.tuple #[.slice A' (fillP rows).length c', .int .i64 0])) w2
    rw [← HPE.out]
    exact HP.out
end Go.Proofs.YtmjckdgomlppeaaGreatDoor
end
section
namespace Go.Proofs.YtmjckdgomlppeaaGreatDoor
open Go.RowKit Go.Shelf
attribute [local go_sem] Oper.semAt_some

theorem wpList_copyCols {ops : Array Oper} {rest : List Oper} {o : Oper} {a : Act} {Q : Exit → Act → World → Prop} {W : World} (hgd : o.guard = none) (s x : Operand)
    (ho : o.op = .call { callee := .builtin .append, args := #[s, x], argTypes := #[26, 26] })
    (base : Nat) (hbase : base ≤ W.heap.size) (A : Option Addr) (c : Nat) (l : List Co) (hs : a.eval s = .slice none 0 0) (hx : a.eval x = .slice A l.length c) (hC : CoAt W A l) (hA : A = none → c = 0) (hl : l.length ≤ 65536)
    (h : ∀ v' w', CoNew base l v' w' → Below W.heap.size W w' → wpList Tryz.prog ops Q rest (a.put o.dst v') w') : wpList Tryz.prog ops Q (o :: rest) a W :=
  wpList_plain hgd fun _ hK => wp_copyCols s x ho base hbase A c l hs hx hC hA hl fun v' w' h1 h2 => hK _ _ (h v' w' h1 h2)
def retab (as_ : ByteArray) (c : Co) : Co := ⟨as_, c.nm, c.ty⟩
theorem coC_set : ∀ (l : List Co) (i : Nat) (c : Co) (s : ByteArray), l[i]? = some c → (coC l).set (i * 3) (.string s) = coC (l.set i (retab s c))
  | [], _, _, _, h => by simp at h
  | x :: r, 0, c, s, h => by
    obtain rfl : x = c := by simpa using h
    rfl
  | x :: r, i + 1, c, s, h => by
    have ih := coC_set r i c s (by simpa using h)
    have e : ∀ y : List Co, coC (x :: y) = [.string x.tab, .string x.nm, .int .i64 x.ty] ++ coC y := fun _ => rfl
    rw [List.set_cons_succ, e, e, ← ih, show (i + 1) * 3 = [Value.string x.tab, .string x.nm, .int .i64 x.ty].length + i * 3 by simp only [List.length_cons, List.length_nil]; omega, List.set_append_right _ _ (by omega)]
    congr 2
    omega
theorem CoOwn.cell {W : World} {base g n cap : Nat} {l : List Co} (h : CoOwn W base (.slice (some ⟨g, 0, none⟩) n cap) l) (hn : l.length = n) {i : Nat} {c : Co} (hi : l[i]? = some c) :
    W.cell? ⟨g, i * 3, none⟩ = some (.string c.tab) ∧ W.frozen? ⟨g, i * 3, none⟩ = false := by
  have hil := (List.getElem?_eq_some_iff.1 hi).1
  rcases h.2 with ⟨e, _⟩ | ⟨g', cap', cur, hv, hb1, hg, hc, hm, hsz, ht⟩
  · cases e
  · obtain ⟨e1, _, _⟩ := Value.slice.inj hv
    simp only [Option.some.injEq, Addr.mk.injEq] at e1
    obtain ⟨rfl, _⟩ := e1
    refine ⟨?_, by simp [World.frozen?, hg]⟩
    simp only [World.cell?, hg]
    rw [← Array.getElem?_toList, ← (coC_get l i c hi).1, ← ht, List.getElem?_take_of_lt (by omega)]
    simp
theorem CoOwn.set {W : World} {base g n cap : Nat} {l : List Co} (h : CoOwn W base (.slice (some ⟨g, 0, none⟩) n cap) l) (hn : l.length = n) {i : Nat} {c : Co} (hi : l[i]? = some c) (s : ByteArray) :
    CoOwn (W.setCell ⟨g, i * 3, none⟩ (.string s)) base (.slice (some ⟨g, 0, none⟩) n cap) (l.set i (retab s c)) := by
  have hil := (List.getElem?_eq_some_iff.1 hi).1
  refine ⟨coC_len _, ?_⟩
  rcases h.2 with ⟨e, _⟩ | ⟨g', cap', cur, hv, hb1, hg, hc, hm, hsz, ht⟩
  · cases e
  · have hv2 := hv
    obtain ⟨e1, _, e3⟩ := Value.slice.inj hv
    simp only [Option.some.injEq, Addr.mk.injEq] at e1
    obtain ⟨rfl, _⟩ := e1
    subst e3
    refine .inr ⟨g, cap, cur.setIfInBounds (i * 3) (.string s), by rw [List.length_set, hn], hb1, ?_, by rw [List.length_set]; exact hc, hm, by simp [hsz], ?_⟩
    · simp only [World.setCell, Array.getElem?_modify, if_true, hg]
      rfl
    · rw [List.length_set, Array.toList_setIfInBounds, List.take_set, ht, coC_set l i c s hi]
/-- The first so many go by another name. -/
def Tabbed (as_ : ByteArray) (l lj : List Co) (j : Nat) : Prop := lj.length = l.length ∧ ∀ i c, l[i]? = some c → lj[i]? = some (if i < j then retab as_ c else c)
theorem Tabbed.zero (as_ : ByteArray) (l : List Co) : Tabbed as_ l l 0 := ⟨rfl, fun i c h => by rw [if_neg (by omega)]; exact h⟩
theorem Tabbed.next {as_ : ByteArray} {l lj : List Co} {j : Nat} (h : Tabbed as_ l lj j) {c c' : Co} (hc : l[j]? = some c) (hc' : lj[j]? = some c') : Tabbed as_ l (lj.set j (retab as_ c')) (j + 1) := by
  have e : c' = c := by
    have := h.2 j c hc
    rw [if_neg (by omega), hc'] at this
    exact Option.some.inj this
  refine ⟨by rw [List.length_set]; exact h.1, fun i x hx => ?_⟩
  by_cases hij : i = j
  · subst hij
    rw [List.getElem?_set_self (by rw [h.1]; exact (List.getElem?_eq_some_iff.1 hc).1), if_pos (by omega), e]
    rw [hc] at hx
    obtain rfl := Option.some.inj hx
    rfl
  · rw [List.getElem?_set_ne (fun h => hij h.symm), h.2 i x hx]
    by_cases h1 : i < j
    · rw [if_pos h1, if_pos (by omega)]
    · rw [if_neg h1, if_neg (by omega)]
theorem Tabbed.all {as_ : ByteArray} {l lj : List Co} (h : Tabbed as_ l lj l.length) : lj = l.map (retab as_) := by
  apply List.ext_getElem?
  intro i
  rw [List.getElem?_map]
  cases hi : l[i]? with
  | none =>
    rw [List.getElem?_eq_none (by rw [h.1]; exact List.getElem?_eq_none_iff.1 hi)]
    rfl
  | some c => rw [h.2 i c hi, if_pos (List.getElem?_eq_some_iff.1 hi).1]; rfl
set_option maxRecDepth 100000 in
set_option maxHeartbeats 2000000 in
theorem columns13_any (t : Ta) (as_ : ByteArray) (A B : Option Addr) (c d : Nat) (w : World) (h : TaOk w t A c B d) (hl : t.cols.length ≤ 65536) :
    Calls Tryz.prog 18 #[TV t.nm A t.cols.length c B t.rows.length d, .string as_] w fun e w' => ∃ v, e = .returned v ∧ CoNew w.heap.size (t.cols.map (retab as_)) v w' ∧ Below w.heap.size w w' := by
  have hba := ba w (tbox t.nm A t.cols.length c B t.rows.length d)
  have HBx := Lib.hid (MapKept.heap_alloc w (tbox t.nm A t.cols.length c B t.rows.length d)).1
  have HC := Lib.hid (h.co.kept hba)
  have HCn := Lib.hid h.cn
  have HB := Lib.hid hba
  have HL := Lib.hid hl
  obtain ⟨nm, l, rows⟩ := t
  simp only at HBx HC HB HL ⊢
  clear hba h hl
  go_enter Tryz.func18, Tryz.ntmps18
  go_upto_region 1 with fail
  generalize w.alloc (.cells #[.string nm, .slice A l.length c, .slice B rows.length d] 29) = W0 at HBx HC HB ⊢
  obtain ⟨x0, x1, x2⟩ := cell3 HBx.out
  go_upto_region 2 with (at_builtin; refine wpList_copyCols rfl _ _ rfl w.heap.size HB.out.size A c l rfl rfl HC.out HCn.out HL.out ?_)
  intro v w1 hcn hb1
  obtain ⟨A1, c1, rfl, hown, _, _, _, _⟩ := hcn
  have HO := Lib.hid hown
  have HB1 := Lib.hid (bt HB.out hb1)
  have hl64 := HL.out
  clear hown hb1 x0 x1 x2
  go_wp2_with fail
  go_loopw [12] (fun i wr => ∃ j : Nat, j ≤ l.length ∧ i = .int .i64 j ∧ Hid (Below w.heap.size w wr) ∧ Hid (∃ lj, Tabbed as_ l lj j ∧ CoOwn wr w.heap.size (.slice A1 l.length c1) lj)) (fun i _ => l.length - (intOf i).toNat)
  case atStart => exact ⟨0, Nat.zero_le _, rfl, HB1, Lib.hid ⟨l, Tabbed.zero _ _, HO.out⟩⟩
  case round =>
    obtain ⟨j, hj, rfl, HW, HT⟩ := hrel
    obtain ⟨lj, htb, hob⟩ := HT.out
    by_cases hlt : j < l.length
    · obtain ⟨cj, hcj⟩ : ∃ cj, lj[j]? = some cj := ⟨_, List.getElem?_eq_getElem (by rw [htb.1]; exact hlt)⟩
      have hlj : l[j]? = some l[j] := List.getElem?_eq_getElem hlt
      obtain ⟨g, rfl⟩ : ∃ g, A1 = some ⟨g, 0, none⟩ := by
        rcases hob.2 with ⟨e, e0⟩ | ⟨g, cap, cur, hv, _⟩
        · have := htb.1; omega
        · exact ⟨g, (Value.slice.inj hv).1⟩
      obtain ⟨d0, f0⟩ := hob.cell htb.1 hcj
      have hgw : w.heap.size ≤ g := (hob.lt g rfl).1
      have HO2 := Lib.hid (show ∃ lj, Tabbed as_ l lj (j + 1) ∧ CoOwn (wr.setCell ⟨g, j * 3, none⟩ (.string as_)) w.heap.size (.slice (some ⟨g, 0, none⟩) l.length c1) lj from ⟨_, htb.next hlj hcj, hob.set htb.1 hcj as_⟩)
      have HB2 := Lib.hid (HW.out.setCell (p := ⟨g, j * 3, none⟩) hgw (.string as_))
      have hjI : (j : Int) < (l.length : Int) := by omega
      clear htb hob hcj hlj hgw
      go_wp2_with fail
      go_roundw
      case rel => exact ⟨j + 1, by omega, by go_num, HB2, HO2⟩
      case measure => simp [intOf]; omega
    · obtain rfl : j = l.length := by omega
      have hlm := htb.all
      subst hlm
      have HN := Lib.hid (CoNew.of (l := l.map (retab as_)) (v := .slice A1 l.length c1) hob)
      clear htb hob
      go_wp2_with fail
      go_ret
      exact ⟨_, rfl, HN.out, HW.out⟩
end Go.Proofs.YtmjckdgomlppeaaGreatDoor
end
section
namespace Go.Proofs.YtmjckdgomlppeaaGreatDoor
open Go.RowKit Go.Shelf
attribute [local go_sem] Oper.semAt_some

theorem CoOwn.low {W : World} {base base' : Nat} {v : Value} {l : List Co} (h : CoOwn W base v l) (hb : base' ≤ base) : CoOwn W base' v l :=
  ⟨h.1, by
    rcases h.2 with hn | ⟨g, cap, cur, hv, hb1, rest⟩
    · exact .inl hn
    · exact .inr ⟨g, cap, cur, hv, Nat.le_trans hb hb1, rest⟩⟩
theorem take_map_succ {l : List Co} {j : Nat} (h : j < l.length) (f : Co → Co) : (l.take (j + 1)).map f = (l.take j).map f ++ [f l[j]] := by
  rw [List.take_succ_eq_append_getElem h, List.map_append]; rfl
set_option maxRecDepth 100000 in
set_option maxHeartbeats 2000000 in
theorem rcolumns_any (t : Ta) (as_ : ByteArray) (A B : Option Addr) (c d : Nat) (w : World) (h : TaOk w t A c B d) (hl : t.cols.length ≤ 65536) :
    Calls Tryz.prog 19 #[TV t.nm A t.cols.length c B t.rows.length d, .string as_] w fun e w' => ∃ v, e = .returned v ∧ CoNew w.heap.size (t.cols.map (retab as_)) v w' ∧ Below w.heap.size w w' := by
  obtain ⟨i0, hi, hz0, hz1, hz2⟩ := info_parts info_colT
  have hba := ba w (tbox t.nm A t.cols.length c B t.rows.length d)
  have HBx := Lib.hid (MapKept.heap_alloc w (tbox t.nm A t.cols.length c B t.rows.length d)).1
  have HC := Lib.hid (h.co.kept hba)
  have HB := Lib.hid hba
  have HL := Lib.hid hl
  obtain ⟨nm, l, rows⟩ := t
  simp only at HBx HC HB HL ⊢
  clear hba h hl
  go_enter Tryz.func19, Tryz.ntmps19
  go_upto_region 1 with fail
  generalize w.alloc (.cells #[.string nm, .slice A l.length c, .slice B rows.length d] 29) = W0 at HBx HC HB ⊢
  go_wp2_with fail
  go_loopw [6, 5] (fun i v wr => ∃ j : Nat, j ≤ l.length ∧ i = .int .i64 j ∧ Hid (Below w.heap.size w wr) ∧ Hid (Below W0.heap.size W0 wr) ∧ Hid (CoOwn wr W0.heap.size v ((l.take j).map (retab as_)))) (fun i _ _ => l.length - (intOf i).toNat)
  case atStart => exact ⟨0, Nat.zero_le _, rfl, HB, Lib.hid (Below.refl _ _), Lib.hid (World.ownsRow_nil _ _ _ _)⟩
  case round =>
    obtain ⟨j, hj, rfl, HW, HW0, HO⟩ := hrel
    have hx := (HW0.out.block _ (Array.getElem?_eq_some_iff.1 HBx.out).1).trans HBx.out
    obtain ⟨x0, x1, x2⟩ := cell3 hx
    clear hx
    have hl64 := HL.out
    by_cases hlt : j < l.length
    · obtain ⟨b, off, rfl, hb, c0, c1, c2⟩ := (HC.out.kept HW0.out).at hlt
      have HTk := Lib.hid (take_map_succ hlt (retab as_))
      have hlen : ((l.take j).map (retab as_)).length = j := by rw [List.length_map, List.length_take]; omega
      generalize l[j] = x at c0 c1 c2 HTk
      have hba := ba wr (.cells #[.string as_, .string x.nm, .int .i64 x.ty] 57)
      have hbs := ba (wr.alloc (.cells #[.string as_, .string x.nm, .int .i64 x.ty] 57)) (.cells #[.string as_, .string x.nm, .int .i64 x.ty] 57)
      have HO2 := Lib.hid ((HO.out.kept hba).kept hbs)
      have HLen := Lib.hid hlen
      have hjI : (j : Int) < (l.length : Int) := by omega
      obtain ⟨xt, xn, xy⟩ := x
      simp only at c0 c1 c2 HTk hba hbs HO2
      have HBB := Lib.hid (bt hba hbs)
      clear hba hbs hlen hb
      go_wp2_with (at_builtin; refine wpList_append_own _ rfl _ _ 26 rfl W0.heap.size 57 i0 _ 3 40 Tryz.underlying26 hi hz0 hz1 hz2 rfl (by decide) _ _ _ rfl HO2.out ⟨wr.heap.size + 1, 0, none⟩ 1 1 [.string as_, .string xn, .int .i64 xy] rfl rfl ?c1 ?c2 ?c3 ?c4 ?c5 ?_)
      case c1 =>
        intro k u hk
        match k, hk with
        | 0, hk => simp at hk; subst hk; simp [Addr.add]
        | 1, hk => simp at hk; subst hk; simp [Addr.add]
        | 2, hk => simp at hk; subst hk; simp [Addr.add]
      case c2 => intro u hu; simp at hu; rcases hu with rfl | rfl | rfl <;> rfl
      case c3 => have := HLen.out; unfold maxLen; omega
      case c4 => have := HLen.out; omega
      case c5 => have := HW0.out.size; simp; omega
      intro v' w5 hown' hg5 _
      have H5 := Lib.hid (show CoOwn w5 W0.heap.size v' ((l.take (j + 1)).map (retab as_)) by
        rw [HTk.out]; unfold CoOwn; rw [List.length_append, HLen.out, coC_app, List.map_take]; exact hown')
      have hb5 := (bt HW0.out HBB.out).grown hg5 (by have := HW0.out.size; simp; omega) (fun k hk => (HO2.out.lt k hk).1)
      have HB5 := Lib.hid hb5
      have HB6 := Lib.hid (bt HB.out hb5)
      clear hown' hg5 hb5
      go_wp2_with fail
      go_roundw
      case rel => exact ⟨j + 1, by omega, by go_num, HB6, HB5, H5⟩
      case measure => simp [intOf]; omega
    · obtain rfl : j = l.length := by omega
      have hO := HO.out
      rw [List.take_length] at hO
      have HN := Lib.hid (CoNew.of (hO.low HB.out.size))
      clear hO
      go_wp2_with fail
      go_ret
      exact ⟨_, rfl, HN.out, HW.out⟩
end Go.Proofs.YtmjckdgomlppeaaGreatDoor
end
section
namespace Go.Proofs.YtmjckdgomlppeaaGreatDoor
open Go.RowKit Go.Shelf

abbrev tT : Ta := smallT ⟨#[116]⟩
abbrev tU : Ta := smallT ⟨#[117]⟩
set_option maxRecDepth 100000 in
theorem cat_live : catB [tT, tU] = true := by decide +kernel
set_option maxRecDepth 100000 in
theorem cat_twice : catB ([tT, tU] ++ [tT]) = false := by decide +kernel
theorem tab_live : tabB tU = true := by decide +kernel
theorem tab_none : tabB ⟨⟨#[]⟩, [], []⟩ = false := by decide +kernel
theorem find_u : [tT, tU].findIdx? (nmIs ⟨#[117]⟩) = some 1 := by decide +kernel
theorem find_v : [tT, tU].findIdx? (nmIs ⟨#[118]⟩) = none := by decide +kernel
theorem fit_live : fitT (tU.cols.map (retab ⟨#[119]⟩)) rowY = true := by decide +kernel
theorem fit_none : fitT (tU.cols.map (retab ⟨#[119]⟩)) [] = false := by decide +kernel
theorem fill_live : (fillP tU.rows).length = 1 := by decide +kernel
theorem sho_live : shoT tU = [117, 40, 97, 32, 73, 78, 84, 44, 32, 98, 32, 84, 69, 88, 84, 41] := by decide +kernel
theorem same_none (l : List Ta) (h : l ≠ []) : sameTs l [] = false := by
  unfold sameTs
  rw [decide_eq_false (by intro hh; exact h (List.eq_nil_of_length_eq_zero (by simpa using hh)))]
  rfl
theorem fine_live (nm : ByteArray) (h : nm.size ≤ 100) : FineT (smallT nm) := by
  refine ⟨by unfold maxLen; show nm.size ≤ _; omega, ?_, ?_, ?_⟩
  · intro c hc; simp only [smallT, List.mem_cons, List.not_mem_nil, or_false] at hc; rcases hc with rfl | rfl <;> (unfold maxLen; decide)
  · intro r hr; simp only [smallT, List.mem_cons, List.not_mem_nil, or_false] at hr
    rcases hr with rfl | rfl <;> (intro v hv; simp only [rowX, rowY, List.mem_cons, List.not_mem_nil, or_false] at hv; rcases hv with rfl | rfl <;> decide)
  · intro r hr; simp only [smallT, List.mem_cons, List.not_mem_nil, or_false] at hr; rcases hr with rfl | rfl <;> decide
theorem few_live (nm : ByteArray) : Few (smallT nm) := by
  refine ⟨by show 2 ≤ 65536; decide, by show 2 ≤ 65536; decide, ?_⟩
  intro r hr; simp only [smallT, List.mem_cons, List.not_mem_nil, or_false] at hr; rcases hr with rfl | rfl <;> decide
theorem permB_refl (a : List (List Va)) : permB a a = true := by unfold permB; exact @decide_eq_true _ (Classical.propDecidable _) (List.Perm.refl a)
theorem eqC_refl (c : Co) : eqC c c = true := by simp [eqC]
theorem sameCs_refl (l : List Co) : sameCs l l = true := by
  unfold sameCs
  rw [decide_eq_true rfl, Bool.true_and, List.all_eq_true]
  intro i _
  exact eqC_refl _
theorem sameT_refl (t : Ta) : sameT t t = true := by
  unfold sameT
  rw [sameCs_refl, permB_refl]; simp
theorem sameTs_refl (l : List Ta) : sameTs l l = true := by
  unfold sameTs
  rw [decide_eq_true rfl, Bool.true_and, List.all_eq_true]
  intro i _
  exact sameT_refl _
end Go.Proofs.YtmjckdgomlppeaaGreatDoor
end
section
namespace Go.Proofs.YtmjckdgomlppeaaGreatDoor
open Go.RowKit Go.Shelf

attribute [local go_sem] Oper.semAt_some
theorem ct_two (w : World) (t u : Ta) (A1 A2 R1 R2 : Option Addr) (c1 c2 d1 d2 : Nat) (h1 : TaOk w t A1 c1 R1 d1) (h2 : TaOk w u A2 c2 R2 d2) :
    CtAt (w.alloc (.cells #[.string t.nm, .slice A1 t.cols.length c1, .slice R1 t.rows.length d1, .string u.nm, .slice A2 u.cols.length c2, .slice R2 u.rows.length d2] 29)) (some ⟨w.heap.size, 0, none⟩) [t, u] := by
  have e := heap_alloc_new w (.cells #[.string t.nm, .slice A1 t.cols.length c1, .slice R1 t.rows.length d1, .string u.nm, .slice A2 u.cols.length c2, .slice R2 u.rows.length d2] 29)
  have hb := ba w (.cells #[.string t.nm, .slice A1 t.cols.length c1, .slice R1 t.rows.length d1, .string u.nm, .slice A2 u.cols.length c2, .slice R2 u.rows.length d2] 29)
  refine .inr ⟨w.heap.size, 0, rfl, by simp, fun i v hv => ?_⟩
  match i, hv with
  | 0, hv => cases hv; exact ⟨A1, c1, R1, d1, by unfold World.cell?; rw [e]; rfl, by unfold World.cell?; rw [e]; rfl, by unfold World.cell?; rw [e]; rfl, h1.kept hb⟩
  | 1, hv => cases hv; exact ⟨A2, c2, R2, d2, by unfold World.cell?; rw [e]; rfl, by unfold World.cell?; rw [e]; rfl, by unfold World.cell?; rw [e]; rfl, h2.kept hb⟩
theorem unguard13 {P : Program} {ops : Array Oper} {rest : List Oper} {o : Oper} {a : Act} {w : World} {Q : Exit → Act → World → Prop} (hw : Region.wanted o (yielded ops a.tmps) = true)
    (h : wpList P ops Q ({ o with guard := none } :: rest) a w) : wpList P ops Q (o :: rest) a w := by
  unfold wpList at h ⊢
  rw [if_pos hw]
  rw [if_pos (by simp [Region.wanted])] at h
  exact h
theorem info_tab13 : (Tryz.prog.info? 29).map (fun i => (i.zero, i.size, i.bytes)) = some (some (.agg #[.string ⟨#[]⟩, .slice none 0 0, .slice none 0 0]), 3, 64) := by kernel_rfl
theorem ct_three {W : World} {base : Nat} {v : Value} (t1 t2 t3 : Ta) {A1 A2 A3 R1 R2 R3 : Option Addr} {c1 c2 c3 d1 d2 d3 : Nat} (h1 : TaOk W t1 A1 c1 R1 d1) (h2 : TaOk W t2 A2 c2 R2 d2) (h3 : TaOk W t3 A3 c3 R3 d3)
    (h : W.ownsRow base 29 3 v 3 [.string t1.nm, .slice A1 t1.cols.length c1, .slice R1 t1.rows.length d1, .string t2.nm, .slice A2 t2.cols.length c2, .slice R2 t2.rows.length d2, .string t3.nm, .slice A3 t3.cols.length c3, .slice R3 t3.rows.length d3]) :
    ∃ g cap, v = .slice (some ⟨g, 0, none⟩) 3 cap ∧ CtAt W (some ⟨g, 0, none⟩) [t1, t2, t3] := by
  rcases h.2 with ⟨_, h0⟩ | ⟨g, cap, cur, hv, hb1, hg, hc, hm, hsz, ht⟩
  · omega
  · have cell : ∀ (j : Nat) x, j < 9 → (cur.toList.take (3 * 3))[j]? = some x → W.cell? ⟨g, j, none⟩ = some x := fun j x hj hx => by
      simp only [World.cell?, hg]
      rw [← Array.getElem?_toList, ← hx, List.getElem?_take_of_lt (by omega)]
      simp
    rw [ht] at cell
    refine ⟨g, cap, hv, .inr ⟨g, 0, rfl, (Array.getElem?_eq_some_iff.1 hg).1, fun i t hi => ?_⟩⟩
    match i, hi with
    | 0, hi => cases hi; exact ⟨A1, c1, R1, d1, cell 0 _ (by omega) rfl, cell 1 _ (by omega) rfl, cell 2 _ (by omega) rfl, h1⟩
    | 1, hi => cases hi; exact ⟨A2, c2, R2, d2, cell 3 _ (by omega) rfl, cell 4 _ (by omega) rfl, cell 5 _ (by omega) rfl, h2⟩
    | 2, hi => cases hi; exact ⟨A3, c3, R3, d3, cell 6 _ (by omega) rfl, cell 7 _ (by omega) rfl, cell 8 _ (by omega) rfl, h3⟩
theorem push13 (W : World) (g u : Nat) (y : List Value) (hy : y.length = 6) (z : List Value) (hz : z.length = 3)
    (hg : W.heap[g]? = some (.cells y.toArray 29)) (hu : W.heap[u]? = some (.cells z.toArray 29)) :
    ∃ v' w', (Builtin.append_ #[22, 22] 22 #[.slice (some ⟨g, 0, none⟩) 2 2, .slice (some ⟨u, 0, none⟩) 1 1]).run Tryz.prog W = .ok v' w' ∧ w'.ownsRow W.heap.size 29 3 v' 3 (y ++ z) ∧ Below W.heap.size W w' := by
  obtain ⟨i0, hi, hz0, hz1, hz2⟩ := info_parts info_tab13
  have rd : ∀ (b : Nat) (l : List Value), W.heap[b]? = some (.cells l.toArray 29) → ∀ j v, l[j]? = some v → W.cell? ((⟨b, 0, none⟩ : Addr).add j) = some v := fun b l hb j v hj => by
    rw [plainC, Nat.zero_add]
    simp only [World.cell?, hb]
    simpa using hj
  obtain ⟨v', w', hrun, r1, r2⟩ := run_append_arg_grows (P := Tryz.prog) W 22 22 29 i0 _ 3 64 Tryz.underlying22 hi hz0 hz1 hz2 rfl (by decide) ⟨g, 0, none⟩ 2 2 y (by rw [hy]) (rd g y hg)
    ⟨u, 0, none⟩ 1 1 z (by rw [hz]) (rd u z hu) (by omega) (by unfold maxLen; omega) (by omega)
  exact ⟨v', w', hrun, r1, (Below.refl _ _).grown r2 (Nat.le_refl _) (fun k hk => by cases hk)⟩
theorem ldT13 {ops : Array Oper} {rest : List Oper} {o : Oper} {a : Act} {Q : Exit → Act → World → Prop} {w : World} (hgd : o.guard = none) (x : Operand) (ho : o.op = .load 29 x) {u : Nat} {s : ByteArray} {A B : Option Addr} {n c m d : Nat}
    (hx : a.eval x = .pointer (some ⟨u, 0, none⟩)) (h0 : w.cell? ⟨u, 0, none⟩ = some (.string s)) (h1 : w.cell? ⟨u, 1, none⟩ = some (.slice A n c)) (h2 : w.cell? ⟨u, 2, none⟩ = some (.slice B m d))
    (h : wpList Tryz.prog ops Q rest (a.put o.dst (TV s A n c B m d)) w) : wpList Tryz.prog ops Q (o :: rest) a w := by
  refine wpList_plain hgd fun K hK => ?_
  unfold Oper.wp execOp
  simp only [ho, hx]
  go_simp
  exact hK _ _ h
theorem push13L {ops : Array Oper} {rest : List Oper} {o : Oper} {a : Act} {Q : Exit → Act → World → Prop} {w w' : World} {v' : Value} (hgd : o.guard = none) (s x : Operand) (hty : o.type = 22)
    (ho : o.op = .call { callee := .builtin .append, args := #[s, x], argTypes := #[22, 22] }) {g u : Nat} (hs : a.eval s = .slice (some ⟨g, 0, none⟩) 2 2) (hx : a.eval x = .slice (some ⟨u, 0, none⟩) 1 1)
    (hrun : (Builtin.append_ #[22, 22] 22 #[.slice (some ⟨g, 0, none⟩) 2 2, .slice (some ⟨u, 0, none⟩) 1 1]).run Tryz.prog w = .ok v' w')
    (h : wpList Tryz.prog ops Q rest (a.put o.dst v') w') : wpList Tryz.prog ops Q (o :: rest) a w := by
  refine wpList_plain hgd fun K hK => ?_
  unfold Oper.wp
  simp [execOp, ho, hty, resolve, invoke, builtin, hs, hx, hrun, Result.andThen]
  exact hK _ _ h
set_option maxRecDepth 100000 in
set_option maxHeartbeats 4000000 in
theorem lives13_yes (wz : World) (hT : Tabs wz) :
    Calls Tryz.prog 9 #[] wz fun e w' => e = .returned (.bool true) ∧ Below wz.heap.size wz w' := by
  have HT := Lib.hid hT
  clear hT
  go_enter Tryz.func9, Tryz.ntmps9
  go_wp2_with fail
  refine (small_any ⟨#[116]⟩ wz).mono ?_
  rintro e w1 ⟨gc1, gr1, rfl, _, _, hok1, hb1⟩
  go_wp2_with fail
  refine (small_any ⟨#[117]⟩ w1).mono ?_
  rintro e w2 ⟨gc2, gr2, rfl, _, _, hok2, hb2⟩
  have hc := ct_two w2 tT tU _ _ _ _ _ _ _ _ (hok1.kept hb2) hok2
  change CtAt (w2.alloc (.cells #[.string ⟨#[116]⟩, .slice (some ⟨gc1, 0, none⟩) 2 2, .slice (some ⟨gr1, 0, none⟩) 2 2, .string ⟨#[117]⟩, .slice (some ⟨gc2, 0, none⟩) 2 2, .slice (some ⟨gr2, 0, none⟩) 2 2] 29)) _ _ at hc
  have hB := bt (bt hb1 hb2) (ba w2 (.cells #[.string ⟨#[116]⟩, .slice (some ⟨gc1, 0, none⟩) 2 2, .slice (some ⟨gr1, 0, none⟩) 2 2, .string ⟨#[117]⟩, .slice (some ⟨gc2, 0, none⟩) 2 2, .slice (some ⟨gr2, 0, none⟩) 2 2] 29))
  go_wp2_with fail
  have hq := (MapKept.heap_alloc w2 (.cells #[.string ⟨#[116]⟩, .slice (some ⟨gc1, 0, none⟩) 2 2, .slice (some ⟨gr1, 0, none⟩) 2 2, .string ⟨#[117]⟩, .slice (some ⟨gc2, 0, none⟩) 2 2, .slice (some ⟨gr2, 0, none⟩) 2 2] 29)).1
  generalize w2.alloc (.cells #[.string ⟨#[116]⟩, .slice (some ⟨gc1, 0, none⟩) 2 2, .slice (some ⟨gr1, 0, none⟩) 2 2, .string ⟨#[117]⟩, .slice (some ⟨gc2, 0, none⟩) 2 2, .slice (some ⟨gr2, 0, none⟩) 2 2] 29) = w3 at hc hB hq ⊢
  generalize w2.heap.size = gq at hc hq ⊢
  have HQ := Lib.hid hq
  have HC := Lib.hid hc
  have HB := Lib.hid hB
  clear hc hB hq hb1 hb2 hok1 hok2
  refine (cfind_any ⟨#[117]⟩ (some ⟨gq, 0, none⟩) 2 [tT, tU] w3 HC.out (by decide) (by intro t ht; simp only [List.mem_cons, List.not_mem_nil, or_false] at ht; rcases ht with rfl | rfl <;> exact ⟨(few_live _).co, (few_live _).n, (few_live _).l⟩)).mono ?_
  intro e w4 he
  unfold FindE at he
  rw [find_u] at he
  obtain ⟨t, v, ht, rfl, A2, c2, g2, d2, hv, hok, hg2, hb⟩ := he
  obtain rfl : tU = t := by simpa using ht
  have hv' : v = TV ⟨#[117]⟩ A2 2 c2 (some ⟨g2, 0, none⟩) 2 d2 := hv
  subst hv'
  have hx := ba w4 (tbox ⟨#[117]⟩ A2 2 c2 (some ⟨g2, 0, none⟩) 2 d2)
  have HX := Lib.hid (MapKept.heap_alloc w4 (tbox ⟨#[117]⟩ A2 2 c2 (some ⟨g2, 0, none⟩) 2 d2)).1
  have HC := Lib.hid ((HC.out.kept hb).kept hx)
  have HQ := Lib.hid (((hb.block gq (Array.getElem?_eq_some_iff.1 HQ.out).1).trans HQ.out) |> fun e => (hx.block gq (Array.getElem?_eq_some_iff.1 e).1).trans e)
  have HB := Lib.hid (bt (bt HB.out hb) hx)
  have HK := Lib.hid (hok.kept hx)
  clear hb hok hg2 ht hv hx
  go_upto_region 3 with fail
  generalize w4.alloc (tbox ⟨#[117]⟩ A2 2 c2 (some ⟨g2, 0, none⟩) 2 d2) = w5 at HX HC HQ HB HK ⊢
  generalize w4.heap.size = gx at HX ⊢
  go_wp2_with fail
  refine (cfind_any ⟨#[118]⟩ (some ⟨gq, 0, none⟩) 2 [tT, tU] w5 HC.out (by decide) (by intro t ht; simp only [List.mem_cons, List.not_mem_nil, or_false] at ht; rcases ht with rfl | rfl <;> exact ⟨(few_live _).co, (few_live _).n, (few_live _).l⟩)).mono ?_
  intro e w6 he
  unfold FindE at he
  rw [find_v] at he
  obtain ⟨rfl, hb⟩ := he
  have hx := ba w6 (tbox ⟨#[]⟩ none 0 0 none 0 0)
  have hbx := bt hb hx
  have HX := Lib.hid ((hbx.block gx (Array.getElem?_eq_some_iff.1 HX.out).1).trans HX.out)
  have HC := Lib.hid (HC.out.kept hbx)
  have HQ := Lib.hid ((hbx.block gq (Array.getElem?_eq_some_iff.1 HQ.out).1).trans HQ.out)
  have HB := Lib.hid (bt HB.out hbx)
  have HK := Lib.hid (HK.out.kept hbx)
  clear hb hx hbx
  go_upto_region 4 with fail
  generalize w6.alloc (tbox ⟨#[]⟩ none 0 0 none 0 0) = w7 at HX HC HQ HB HK ⊢
  obtain ⟨x0, x1, x2⟩ := cell3 HX.out
  go_wp2_with fail
  clear x0 x1 x2
  refine (cpages_any tU A2 (some ⟨g2, 0, none⟩) c2 d2 w7 HK.out (fine_live _ (by decide)) (HT.out.kept HB.out) (fun _ => by decide)).mono ?_
  rintro e w8 ⟨hb, he⟩
  rw [if_pos tab_live, fill_live] at he
  obtain ⟨A4, c4, rfl, _, _⟩ := he
  have HX := Lib.hid ((hb.block gx (Array.getElem?_eq_some_iff.1 HX.out).1).trans HX.out)
  have HC := Lib.hid (HC.out.kept hb)
  have HQ := Lib.hid ((hb.block gq (Array.getElem?_eq_some_iff.1 HQ.out).1).trans HQ.out)
  have HB := Lib.hid (bt HB.out hb)
  have HK := Lib.hid (HK.out.kept hb)
  clear hb
  obtain ⟨x0, x1, x2⟩ := cell3 HX.out
  go_wp2_with fail
  clear x0 x1 x2
  refine (columns13_any tU ⟨#[119]⟩ A2 (some ⟨g2, 0, none⟩) c2 d2 w8 HK.out (by decide)).mono ?_
  rintro e w9 ⟨v, rfl, ⟨A5, c5, hv, _, hco, hc5, hm5, hn5⟩, hb⟩
  have hv' : v = .slice A5 2 c5 := hv
  subst hv'
  have HX := Lib.hid ((hb.block gx (Array.getElem?_eq_some_iff.1 HX.out).1).trans HX.out)
  have HC := Lib.hid (HC.out.kept hb)
  have HQ := Lib.hid ((hb.block gq (Array.getElem?_eq_some_iff.1 HQ.out).1).trans HQ.out)
  have HB := Lib.hid (bt HB.out hb)
  have HK := Lib.hid (HK.out.kept hb)
  have HL := Lib.hid hco
  clear hb hv hco
  go_upto_region 6 with fail
  simp only [List.append_eq, List.cons_append, List.nil_append]
  obtain ⟨b5, o5, rfl, hb5, k0, k1, k2⟩ := HL.out.at (i := 1) (by decide)
  have HK1 := Lib.hid (show w9.cell? ⟨b5, o5 + 3, none⟩ = some (.string ⟨#[119]⟩) ∧ w9.cell? ⟨b5, o5 + 3 + 1, none⟩ = some (.string ⟨#[98]⟩) ∧ w9.cell? ⟨b5, o5 + 3 + 2, none⟩ = some (.int .i64 3) ∧ b5 < w9.heap.size from ⟨k0, k1, k2, hb5⟩)
  clear k0 k1 k2 hb5 hn5
  have HC5 := Lib.hid (And.intro hc5 hm5)
  clear hc5 hm5
  go_wp2_with fail
  refine (catCheck_any (some ⟨gq, 0, none⟩) 2 [tT, tU] w9 HC.out (by decide) (by intro t ht; simp only [List.mem_cons, List.not_mem_nil, or_false] at ht; rcases ht with rfl | rfl <;> exact fine_live _ (by decide)) (HT.out.kept HB.out) cat_live).mono ?_
  rintro e w10 ⟨rfl, hb⟩
  have HX := Lib.hid ((hb.block gx (Array.getElem?_eq_some_iff.1 HX.out).1).trans HX.out)
  have HC := Lib.hid (HC.out.kept hb)
  have HQ := Lib.hid ((hb.block gq (Array.getElem?_eq_some_iff.1 HQ.out).1).trans HQ.out)
  have HB := Lib.hid (bt HB.out hb)
  have HK := Lib.hid (HK.out.kept hb)
  have HL := Lib.hid (HL.out.kept hb)
  have HK1 := Lib.hid (show w10.cell? ⟨b5, o5 + 3, none⟩ = some (.string ⟨#[119]⟩) ∧ w10.cell? ⟨b5, o5 + 3 + 1, none⟩ = some (.string ⟨#[98]⟩) ∧ w10.cell? ⟨b5, o5 + 3 + 2, none⟩ = some (.int .i64 3) ∧ b5 < w10.heap.size from ⟨(hb.cell (p := ⟨b5, _, none⟩) HK1.out.2.2.2).trans HK1.out.1, (hb.cell (p := ⟨b5, _, none⟩) HK1.out.2.2.2).trans HK1.out.2.1, (hb.cell (p := ⟨b5, _, none⟩) HK1.out.2.2.2).trans HK1.out.2.2.1, Nat.lt_of_lt_of_le HK1.out.2.2.2 hb.size⟩)
  clear hb
  have q0 : w10.cell? ⟨gq, 0, none⟩ = some (.string ⟨#[116]⟩) := by unfold World.cell?; rw [HQ.out]; rfl
  have q1 : w10.cell? ⟨gq, 1, none⟩ = some (.slice (some ⟨gc1, 0, none⟩) 2 2) := by unfold World.cell?; rw [HQ.out]; rfl
  have q2 : w10.cell? ⟨gq, 2, none⟩ = some (.slice (some ⟨gr1, 0, none⟩) 2 2) := by unfold World.cell?; rw [HQ.out]; rfl
  have hx := ba w10 (.cells #[.string ⟨#[116]⟩, .slice (some ⟨gc1, 0, none⟩) 2 2, .slice (some ⟨gr1, 0, none⟩) 2 2] 29)
  have hu : (w10.alloc (.cells #[.string ⟨#[116]⟩, .slice (some ⟨gc1, 0, none⟩) 2 2, .slice (some ⟨gr1, 0, none⟩) 2 2] 29)).heap[w10.heap.size]? = some (.cells #[.string ⟨#[116]⟩, .slice (some ⟨gc1, 0, none⟩) 2 2, .slice (some ⟨gr1, 0, none⟩) 2 2] 29) := heap_alloc_new w10 _
  have HQ1 := Lib.hid ((hx.block gq (Array.getElem?_eq_some_iff.1 HQ.out).1).trans HQ.out)
  have HU := Lib.hid hu
  have HXb := Lib.hid hx
  clear hx hu
  obtain ⟨v3, w11, hrun, ho, hb⟩ := push13 (w10.alloc (.cells #[.string ⟨#[116]⟩, .slice (some ⟨gc1, 0, none⟩) 2 2, .slice (some ⟨gr1, 0, none⟩) 2 2] 29)) gq w10.heap.size [.string ⟨#[116]⟩, .slice (some ⟨gc1, 0, none⟩) 2 2, .slice (some ⟨gr1, 0, none⟩) 2 2, .string ⟨#[117]⟩, .slice (some ⟨gc2, 0, none⟩) 2 2, .slice (some ⟨gr2, 0, none⟩) 2 2] rfl [.string ⟨#[116]⟩, .slice (some ⟨gc1, 0, none⟩) 2 2, .slice (some ⟨gr1, 0, none⟩) 2 2] rfl HQ1.out HU.out
  have HO := Lib.hid ho
  have ht1 : TaOk w10 tT (some ⟨gc1, 0, none⟩) 2 (some ⟨gr1, 0, none⟩) 2 := by
    obtain ⟨b, off, hA, _, Ac, c, Ar, d, e0, e1, e2, ok⟩ := HC.out.at (i := 0) (by decide)
    simp only [Option.some.injEq, Addr.mk.injEq] at hA
    obtain ⟨rfl, rfl, _⟩ := hA
    have f1 := q1.symm.trans e1
    have f2 := q2.symm.trans e2
    simp only [Option.some.injEq, Value.slice.injEq] at f1 f2
    obtain ⟨rfl, _, rfl⟩ := f1
    obtain ⟨rfl, _, rfl⟩ := f2
    exact ok
  have ht2 : TaOk w10 tU (some ⟨gc2, 0, none⟩) 2 (some ⟨gr2, 0, none⟩) 2 := by
    have q4 : w10.cell? ⟨gq, 4, none⟩ = some (.slice (some ⟨gc2, 0, none⟩) 2 2) := by unfold World.cell?; rw [HQ.out]; rfl
    have q5 : w10.cell? ⟨gq, 5, none⟩ = some (.slice (some ⟨gr2, 0, none⟩) 2 2) := by unfold World.cell?; rw [HQ.out]; rfl
    obtain ⟨b, off, hA, _, Ac, c, Ar, d, e0, e1, e2, ok⟩ := HC.out.at (i := 1) (by decide)
    simp only [Option.some.injEq, Addr.mk.injEq] at hA
    obtain ⟨rfl, rfl, _⟩ := hA
    have f1 := q4.symm.trans e1
    have f2 := q5.symm.trans e2
    simp only [Option.some.injEq, Value.slice.injEq] at f1 f2
    obtain ⟨rfl, _, rfl⟩ := f1
    obtain ⟨rfl, _, rfl⟩ := f2
    exact ok
  have hb0 := bt HXb.out hb
  obtain ⟨g3, cap3, hv3, hct⟩ := ct_three tT tU tT (ht1.kept hb0) (ht2.kept hb0) (ht1.kept hb0) HO.out
  subst hv3
  have HCt := Lib.hid hct
  have HB0 := Lib.hid hb0
  clear ho hb hb0 hct ht1 ht2
  go_wp2_with (first | (refine unguard13 rfl (ldT13 rfl _ rfl rfl q0 q1 q2 ?_)) | (at_builtin; refine unguard13 rfl (push13L rfl _ _ rfl rfl rfl rfl hrun ?_)))
  refine (catCheck_any (some ⟨g3, 0, none⟩) cap3 [tT, tU, tT] w11 HCt.out (by decide) (by intro t ht; simp only [List.mem_cons, List.not_mem_nil, or_false] at ht; rcases ht with rfl | rfl | rfl <;> exact fine_live _ (by decide)) (HT.out.kept (bt HB.out HB0.out)) cat_twice).mono ?_
  rintro e w12 ⟨rfl, hb'⟩
  have hb := bt HB0.out hb'
  have HX := Lib.hid ((hb.block gx (Array.getElem?_eq_some_iff.1 HX.out).1).trans HX.out)
  have HC := Lib.hid (HC.out.kept hb)
  have HB := Lib.hid (bt HB.out hb)
  have HK := Lib.hid (HK.out.kept hb)
  have HL := Lib.hid (HL.out.kept hb)
  have k0 := (hb.cell (p := ⟨b5, _, none⟩) HK1.out.2.2.2).trans HK1.out.1
  have k1 := (hb.cell (p := ⟨b5, _, none⟩) HK1.out.2.2.2).trans HK1.out.2.1
  have k2 := (hb.cell (p := ⟨b5, _, none⟩) HK1.out.2.2.2).trans HK1.out.2.2.1
  obtain ⟨x0, x1, x2⟩ := cell3 HX.out
  obtain ⟨br, o, hA, _, Ar, cr, r0, hrow, _, _⟩ := HK.out.ro.at (Below.refl _ _) (i := 1) (by decide)
  simp only [Option.some.injEq, Addr.mk.injEq] at hA
  obtain ⟨rfl, rfl, _⟩ := hA
  have HR := Lib.hid (show RowAt w12 Ar rowY from hrow)
  have r0' : w12.cell? ⟨g2, 1, none⟩ = some (.slice Ar 2 cr) := by have := r0; rw [Nat.zero_add] at this; exact this
  clear q0 q1 q2 hrun hb hb' hrow r0
  go_wp2_with fail
  refine (cfits_any (some ⟨b5, o5, none⟩) Ar c5 cr (tU.cols.map (retab ⟨#[119]⟩)) rowY w12 HL.out HR.out (by intro v hv; simp only [rowY, List.mem_cons, List.not_mem_nil, or_false] at hv; rcases hv with rfl | rfl <;> decide) (by decide) fit_live).mono ?_
  rintro e w13 ⟨rfl, hb⟩
  have HX := Lib.hid ((hb.block gx (Array.getElem?_eq_some_iff.1 HX.out).1).trans HX.out)
  have HC := Lib.hid (HC.out.kept hb)
  have HB := Lib.hid (bt HB.out hb)
  have HK := Lib.hid (HK.out.kept hb)
  have HL := Lib.hid (HL.out.kept hb)
  clear hb k0 k1 k2 x0 x1 x2 r0'
  go_wp2_with fail
  refine (cfits_any (some ⟨b5, o5, none⟩) none c5 0 (tU.cols.map (retab ⟨#[119]⟩)) [] w13 HL.out (.inl rfl) (by intro v hv; cases hv) (by decide) fit_none).mono ?_
  rintro e w14 ⟨rfl, hb⟩
  have HX := Lib.hid ((hb.block gx (Array.getElem?_eq_some_iff.1 HX.out).1).trans HX.out)
  have HC := Lib.hid (HC.out.kept hb)
  have HB := Lib.hid (bt HB.out hb)
  have HK := Lib.hid (HK.out.kept hb)
  have HL := Lib.hid (HL.out.kept hb)
  clear hb
  go_wp2_with fail
  refine (cSame_any (some ⟨gq, 0, none⟩) (some ⟨gq, 0, none⟩) 2 2 [tT, tU] [tT, tU] w14 HC.out HC.out (by decide) (by intro t ht; simp only [List.mem_cons, List.not_mem_nil, or_false] at ht; rcases ht with rfl | rfl <;> exact few_live _) (by intro t ht; simp only [List.mem_cons, List.not_mem_nil, or_false] at ht; rcases ht with rfl | rfl <;> exact few_live _) (sameTs_refl _)).mono ?_
  rintro e w15 ⟨rfl, hb⟩
  have HX := Lib.hid ((hb.block gx (Array.getElem?_eq_some_iff.1 HX.out).1).trans HX.out)
  have HC := Lib.hid (HC.out.kept hb)
  have HB := Lib.hid (bt HB.out hb)
  have HK := Lib.hid (HK.out.kept hb)
  have HL := Lib.hid (HL.out.kept hb)
  clear hb
  go_wp2_with fail
  refine (cSame_any (some ⟨gq, 0, none⟩) none 2 0 [tT, tU] [] w15 HC.out (.inl rfl) (by decide) (by intro t ht; simp only [List.mem_cons, List.not_mem_nil, or_false] at ht; rcases ht with rfl | rfl <;> exact few_live _) (by intro t ht; cases ht) (same_none _ (by simp))).mono ?_
  rintro e w16 ⟨rfl, hb⟩
  have HX := Lib.hid ((hb.block gx (Array.getElem?_eq_some_iff.1 HX.out).1).trans HX.out)
  have HC := Lib.hid (HC.out.kept hb)
  have HB := Lib.hid (bt HB.out hb)
  have HK := Lib.hid (HK.out.kept hb)
  have HL := Lib.hid (HL.out.kept hb)
  clear hb
  obtain ⟨x0, x1, x2⟩ := cell3 HX.out
  go_wp2_with fail
  refine (show13_any tU A2 (some ⟨g2, 0, none⟩) c2 d2 w16 HK.out (by decide) (by decide) (by intro x hx; simp only [tU, smallT, List.mem_cons, List.not_mem_nil, or_false] at hx; rcases hx with rfl | rfl <;> decide) (by decide +kernel)).mono ?_
  rintro e w17 ⟨s, rfl, hs, hb⟩
  obtain rfl : s = ⟨#[117, 40, 97, 32, 73, 78, 84, 44, 32, 98, 32, 84, 69, 88, 84, 41]⟩ := ByteArray.ext (Array.toList_inj.1 (hs.trans sho_live))
  have HB := Lib.hid (bt HB.out hb)
  clear hb hs x0 x1 x2
  go_wp2_with fail
  refine (table_any ⟨⟨#[]⟩, [], []⟩ none none 0 0 w17 ⟨.inl rfl, Nat.le_refl _, by decide, fun _ => rfl, .inl rfl, Nat.le_refl _, by decide, fun _ => rfl⟩ ⟨(by unfold maxLen; decide), (by intro c hc; cases hc), (by intro c hc; cases hc), (by intro c hc; cases hc)⟩ (HT.out.kept HB.out) tab_none).mono ?_
  rintro e w18 ⟨rfl, hb⟩
  have HB := Lib.hid (bt HB.out hb)
  clear hb
  go_wp2_with fail
  go_ret
  exact ⟨rfl, HB.out⟩
end Go.Proofs.YtmjckdgomlppeaaGreatDoor
end
section
namespace Go.Proofs.YtmjckdgomlppeaaGreatDoor
open Go.RowKit Go.Shelf

/-- A table that is not large. -/
structure Sml (t : Ta) : Prop where
  co : t.cols.length ≤ 40
  n : t.rows.length ≤ 5000
  gap : t.rows.length ≤ 300 ∨ 4096 < t.rows.length
  l : ∀ r ∈ t.rows, r.length ≤ 50
theorem Sml.few {t : Ta} (h : Sml t) : Few t := ⟨by have := h.co; omega, by have := h.n; omega, fun r hr => by have := h.l r hr; omega⟩
theorem sml_of {t : Ta} (h : largeT t = false) : Sml t := by
  unfold largeT headL at h
  simp only [Bool.or_eq_false_iff, Bool.and_eq_false_iff, decide_eq_false_iff_not, List.any_eq_false] at h
  obtain ⟨⟨⟨h1, h2⟩, h3⟩, h4⟩ := h
  refine ⟨by omega, by omega, by omega, fun r hr => ?_⟩
  have := h4 r hr
  unfold longR at this
  simp only [decide_eq_true_eq] at this
  omega
theorem smls_of {l : List Ta} (h : largeC l = false) : l.length ≤ 30 ∧ ∀ t ∈ l, Sml t := by
  unfold largeC at h
  simp only [Bool.or_eq_false_iff, decide_eq_false_iff_not, List.any_eq_false] at h
  exact ⟨by omega, fun t ht => sml_of (by simpa using h.2 t ht)⟩
theorem tab_rows {t : Ta} (h : tabB t = true) : t.rows.length ≤ 4096 := by
  unfold tabB rowsB at h
  simp only [Bool.and_eq_true, decide_eq_true_eq] at h
  exact h.2.1
theorem Sml.pages {t : Ta} (h : Sml t) (hb : tabB t = true) : t.rows.length ≤ 600 := by
  have := tab_rows hb
  rcases h.gap with hg | hg <;> omega
/-- A table whose rows begin at the k-th. -/
def turnT (t : Ta) (k : Nat) : Ta := ⟨t.nm, t.cols, t.rows.drop k ++ t.rows.take k⟩
theorem same_turn (t : Ta) (k : Nat) : sameTs [t] [turnT t k] = true := by
  have hp : t.rows.Perm (t.rows.drop k ++ t.rows.take k) := by
    have h1 : (t.rows.drop k ++ t.rows.take k).Perm (t.rows.take k ++ t.rows.drop k) := List.perm_append_comm
    rw [List.take_append_drop] at h1
    exact h1.symm
  have hq : permB t.rows (t.rows.drop k ++ t.rows.take k) = true := by unfold permB; exact @decide_eq_true _ (Classical.propDecidable _) hp
  unfold sameTs
  rw [decide_eq_true (show [t].length = [turnT t k].length from rfl), Bool.true_and, List.all_eq_true]
  intro i hi
  have : i = 0 := by simpa using hi
  subst this
  show sameT t (turnT t k) = true
  unfold sameT turnT
  simp only [sameCs_refl, hq]
  simp
end Go.Proofs.YtmjckdgomlppeaaGreatDoor
end
section
namespace Go.Proofs.YtmjckdgomlppeaaGreatDoor
open Go.RowKit Go.Shelf
attribute [local go_sem] Oper.semAt_some

theorem oddTAt_eq {l : List Ta} {j : Nat} (hj : j < l.length) : oddTAt l j = oddT ((l.take j).map Ta.nm) l[j] := by
  unfold oddTAt
  rw [List.getD_eq_getElem?_getD, List.getElem?_eq_getElem hj]
  rfl
theorem hasT_no {l : List Ta} {j : Nat} {s : ByteArray} (hj : j ≤ l.length) (h : ∀ i (hi : i < l.length), i < j → (l[i].nm.toList == s.toList) = false) : hasB ((l.take j).map Ta.nm) s = false := by
  unfold hasB
  rw [List.any_map, List.any_eq_false]
  intro x hx
  obtain ⟨i, hi, rfl⟩ := List.mem_iff_getElem.1 hx
  rw [List.length_take] at hi
  have := h i (by omega) (by omega)
  simp only [Function.comp, List.getElem_take]
  rw [this]; simp
theorem hasT_yes {l : List Ta} {j k : Nat} {s : ByteArray} (hj : j ≤ l.length) (hk : k < j) (h : ((l[k]'(by omega)).nm.toList == s.toList) = true) : hasB ((l.take j).map Ta.nm) s = true := by
  unfold hasB
  rw [List.any_map, List.any_eq_true]
  refine ⟨l[k]'(by omega), ?_, h⟩
  rw [List.mem_take_iff_getElem]
  exact ⟨k, by omega, rfl⟩
theorem catB_odd {l : List Ta} {j : Nat} (hj : j < l.length) (h : oddTAt l j = true) : catB l = false := by rw [catB, oddTs_yes hj h, Bool.not_true, Bool.and_false]
theorem tabB_name {t : Ta} (h : tabB t = true) : isName t.nm = true := by
  rw [tabB, Bool.and_eq_true, Bool.and_eq_true] at h
  exact h.1.1
set_option maxRecDepth 100000 in
set_option maxHeartbeats 8000000 in
theorem rcheck13_any (A : Option Addr) (c : Nat) (l : List Ta) (w : World) (h : CtAt w A l) (hl : l.length ≤ 1000) (hF : ∀ x ∈ l, FineT x) {q : Bool} (hq : catB l = q) :
    Calls Tryz.prog 10 #[.slice A l.length c] w fun e w' => e = .returned (.bool q) ∧ Below w.heap.size w w' := by
  have HH := Lib.hid h
  have HFn := Lib.hid hF
  have HQ := Lib.hid hq
  clear h hF hq
  go_enter Tryz.func10, Tryz.ntmps10
  go_wp2_with fail
  go_loopw [3] (fun i wr => ∃ j : Nat, j ≤ l.length ∧ i = .int .i64 j ∧ Hid (Below w.heap.size w wr) ∧ Hid (∀ i, i < j → oddTAt l i = false)) (fun i _ => l.length - (intOf i).toNat)
  case atStart => exact ⟨0, Nat.zero_le _, rfl, Lib.hid (Below.refl _ _), Lib.hid (fun i hi => absurd hi (by omega))⟩
  case round =>
    obtain ⟨j, hj, rfl, HW, HNo⟩ := hrel
    obtain ⟨wo, rfl⟩ : ∃ wo : World, wo = wr := ⟨_, rfl⟩
    by_cases hlt : j < l.length
    · obtain ⟨b1, off1, rfl, hb1, Ac, cc, Ar, dd, x0, x1, x2, ht⟩ := (HH.out.kept HW.out).at hlt
      have HOdd := Lib.hid (fun (h : oddTAt l j = true) => catB_odd hlt h)
      have HAt := Lib.hid (oddTAt_eq hlt)
      have hft := HFn.out l[j] (List.getElem_mem hlt)
      have HLt := Lib.hid hlt
      have HBl := Lib.hid hb1
      have hjI : (j : Int) < (l.length : Int) := by omega
      have hj0 : 0 ≤ (j : Int) := Int.natCast_nonneg _
      generalize l[j] = t at x0 x1 x2 ht HAt hft
      obtain ⟨tq, htq⟩ : ∃ tq, tabB t = tq := ⟨_, rfl⟩
      have HT := Lib.hid (rtable_any t Ac Ar cc dd wo ht hft htq)
      have HTq := Lib.hid htq
      have HX0 := Lib.hid (fun W (hb : Below wo.heap.size wo W) => (hb.cell (p := ⟨b1, off1 + j * 3, none⟩) HBl.out).trans x0)
      obtain ⟨nm, cols, rows⟩ := t
      simp only at x0 x1 x2 HT HX0
      clear ht hft htq hlt hb1
      go_wp2_with fail
      refine HT.out.mono ?_
      rintro e w2 ⟨rfl, hb2⟩
      have HB2 := Lib.hid hb2
      have HW2 := Lib.hid (bt HW.out hb2)
      clear hb2 x0 x1 x2
      cases tq
      · obtain rfl : false = q := by rw [← HQ.out, HOdd.out (by rw [HAt.out, oddT, HTq.out, Bool.not_false, Bool.or_true])]
        go_wp2_with fail
        go_ret
        exact ⟨rfl, HW2.out⟩
      go_wp2_with fail
      go_loopw [4] (fun i wr => ∃ k : Nat, k ≤ j ∧ i = .int .i64 k ∧ Hid (Below wo.heap.size wo wr) ∧ Hid (∀ i (hi : i < l.length), i < k → (l[i].nm.toList == nm.toList) = false)) (fun i _ => j - (intOf i).toNat)
      case atStart => exact ⟨0, Nat.zero_le _, rfl, HB2, Lib.hid (fun i hi h => absurd h (by omega))⟩
      case round =>
        obtain ⟨k, hk, rfl, HV, HNk⟩ := hrel
        have hltj := HLt.out
        by_cases hkj : k < j
        · have x0 := HX0.out wr HV.out
          have HVd := Lib.hid (bt HV.out (Below.drew (Below.refl wr.heap.size wr)))
          have HV2 := Lib.hid (bt HW.out (bt HV.out (Below.drew (Below.refl _ _))))
          have hkc : k < l.length := by omega
          obtain ⟨b3, off3, e3, hb3, Ac3, cc3, Ar3, dd3, d0, d1, d2, hok3⟩ := (HH.out.kept (bt HW.out HV.out)).at hkc
          simp only [Option.some.injEq, Addr.mk.injEq] at e3
          obtain ⟨rfl, rfl, _⟩ := e3
          have hkI : (k : Int) < (l.length : Int) := by omega
          have hkJ : (k : Int) < (j : Int) := by omega
          have hk0 : 0 ≤ (k : Int) := Int.natCast_nonneg _
          clear hok3 d1 d2 hb3
          cases hqk : (l[k].nm.toList == nm.toList)
          · have HNk1 := Lib.hid (fun i (hi : i < l.length) (h' : i < k + 1) => by
              rcases Nat.lt_or_ge i k with h1 | h1
              · exact HNk.out i hi h1
              · obtain rfl : i = k := by omega
                exact hqk)
            generalize l[k].nm = kn at d0 hqk
            go_wp2_with fail
            go_region
            all_goals
              go_wp2_with fail
              go_roundw
              case rel => exact ⟨k + 1, by omega, by go_num, HVd, HNk1⟩
              case measure => simp [intOf]; omega
          · obtain rfl : false = q := by rw [← HQ.out, HOdd.out (by rw [HAt.out, oddT, hasT_yes (Nat.le_of_lt hltj) hkj hqk, Bool.true_or, Bool.true_or])]
            generalize l[k].nm = kn at d0 hqk
            go_wp2_with fail
            go_region
            all_goals
              go_wp2_with fail
              go_ret
              exact ⟨rfl, HV2.out⟩
        · have HNj := Lib.hid (show ∀ i, i < j + 1 → oddTAt l i = false from fun i hi => by
            rcases Nat.lt_or_ge i j with h1 | h1
            · exact HNo.out i h1
            · obtain rfl : i = j := by omega
              rw [HAt.out, oddT, hasT_no (Nat.le_of_lt hltj) fun a ha hb => HNk.out a ha (by omega), tabB_name HTq.out, HTq.out]; rfl)
          have HB9 := Lib.hid (bt HW.out HV.out)
          go_wp2_with fail
          go_roundw
          case rel => first | exact ⟨j + 1, by omega, by go_num, HB9, HNj⟩ | ((repeat apply Exists.intro); exact ⟨⟨j + 1, by omega, by go_num, HB9, HNj⟩, rfl⟩)
          case measure => simp [intOf]; omega
    · have HOs := Lib.hid (oddTs_no (l := l) fun i hi => HNo.out i (by omega))
      by_cases g : l.length ≤ 16
      · obtain rfl : true = q := by rw [← HQ.out, catB, decide_eq_true g, HOs.out]; rfl
        have hI : (l.length : Int) ≤ 16 := by omega
        clear g
        go_wp2_with fail
        go_ret
        exact ⟨rfl, HW.out⟩
      · obtain rfl : false = q := by rw [← HQ.out, catB, decide_eq_false g]; rfl
        have hI : decide ((l.length : Int) ≤ 16) = false := decide_eq_false (by omega)
        clear g
        go_wp2_with fail
        go_ret
        exact ⟨rfl, HW.out⟩
end Go.Proofs.YtmjckdgomlppeaaGreatDoor
end
section
namespace Go.Proofs.YtmjckdgomlppeaaGreatDoor
open Go.RowKit Go.Shelf
attribute [local go_sem] Oper.semAt_some

theorem nTa_ok (w : World) : TaOk w nTa none 0 none 0 := ⟨.inl rfl, Nat.le_refl _, by omega, fun _ => rfl, .inl rfl, Nat.le_refl _, by omega, fun _ => rfl⟩
theorem FindE.one {name : ByteArray} {l : List Ta} {w w' : World} {e : Ending} (h : FindE name l w e w') :
    ∃ (f : Bool) (t : Ta) (A B : Option Addr) (c d : Nat), e = .returned (.tuple #[TV t.nm A t.cols.length c B t.rows.length d, .bool f]) ∧ TaOk w' t A c B d ∧ Below w.heap.size w w' ∧
      (f = false → l.findIdx? (nmIs name) = none ∧ t = nTa) ∧ (f = true → ∃ k, l.findIdx? (nmIs name) = some k ∧ l[k]? = some t) := by
  unfold FindE at h
  cases hi : l.findIdx? (nmIs name) with
  | none =>
    rw [hi] at h
    obtain ⟨rfl, hb⟩ := h
    exact ⟨false, nTa, none, none, 0, 0, rfl, nTa_ok _, hb, (fun _ => ⟨rfl, rfl⟩), (fun h => by cases h)⟩
  | some j =>
    rw [hi] at h
    obtain ⟨t, v, ht, rfl, A, c, g, d, rfl, hok, _, hb⟩ := h
    exact ⟨true, t, A, _, c, d, rfl, hok, hb, (fun h => by cases h), fun _ => ⟨j, rfl, ht⟩⟩
theorem ct_one (w : World) (t : Ta) {A R : Option Addr} {c d : Nat} (h : TaOk w t A c R d) : CtAt (w.alloc (tbox t.nm A t.cols.length c R t.rows.length d)) (some ⟨w.heap.size, 0, none⟩) [t] := by
  have e := heap_alloc_new w (tbox t.nm A t.cols.length c R t.rows.length d)
  have hb := ba w (tbox t.nm A t.cols.length c R t.rows.length d)
  refine .inr ⟨w.heap.size, 0, rfl, by simp, fun i v hv => ?_⟩
  match i, hv with
  | 0, hv => cases hv; exact ⟨A, c, R, d, by unfold World.cell?; rw [e]; rfl, by unfold World.cell?; rw [e]; rfl, by unfold World.cell?; rw [e]; rfl, h.kept hb⟩
/-- A list of one table. -/
def OneT (t : Ta) (v : Value) (w : World) : Prop := ∃ g : Nat, v = .slice (some ⟨g, 0, none⟩) 1 1 ∧ CtAt w (some ⟨g, 0, none⟩) [t]
theorem OneT.keeps (t : Ta) : Keeps Bel (OneT t) := fun _ _ _ hb ⟨g, e, h⟩ => ⟨g, e, h.kept hb⟩
/-- A table, wherever it lies. -/
def AnyT (t : Ta) (v : Value) (w : World) : Prop := ∃ A c R d, v = TV t.nm A t.cols.length c R t.rows.length d ∧ TaOk w t A c R d
theorem AnyT.keeps (t : Ta) : Keeps Bel (AnyT t) := fun _ _ _ hb ⟨A, c, R, d, e, h⟩ => ⟨A, c, R, d, e, h.kept hb⟩
section
variable {o : Oper} {a : Act} {w : World} {Q : Exit → Act → World → Prop}
theorem run_ldT {x : Operand} (ho : o.op = .load 29 x) {u p : Nat} {s : ByteArray} {A B : Option Addr} {n c m d : Nat} (hx : a.eval x = .pointer (some ⟨u, p, none⟩))
    (h0 : w.cell? ⟨u, p, none⟩ = some (.string s)) (h1 : w.cell? ⟨u, p + 1, none⟩ = some (.slice A n c)) (h2 : w.cell? ⟨u, p + 2, none⟩ = some (.slice B m d)) :
    (execOp a.eval o).run Tryz.prog w = .ok (.value (TV s A n c B m d)) w := by
  have h : (Instr.loadAt 29 (.pointer (some ⟨u, p, none⟩))).run Tryz.prog w = .ok (TV s A n c B m d) w := by go_simp
  unfold execOp
  simp only [ho, hx]
  rw [Sem.run_bind, h]
  rfl
theorem run_bs1 {x : Operand} (ho : o.op = .buildSlice 22 1 #[(0, x)]) {s : ByteArray} {A B : Option Addr} {n c m d : Nat} (hx : a.eval x = TV s A n c B m d) :
    (execOp a.eval o).run Tryz.prog w = .ok (.value (.slice (some ⟨w.heap.size, 0, none⟩) 1 1)) (w.alloc (tbox s A n c B m d)) := by
  unfold execOp
  simp only [ho, List.map_toArray, List.map_cons, List.map_nil, hx]
  go_simp
theorem wp_one {x : Operand} (ho : o.op = .buildSlice 22 1 #[(0, x)]) {t : Ta} (hx : AnyT t (a.eval x) w) :
    o.wp Tryz.prog a w (fun a' w' => ∃ v, a' = a.put o.dst v ∧ Bel w w' ∧ OneT t v w') Q := by
  obtain ⟨A, c, R, d, e, h⟩ := hx
  exact wp_made (run_bs1 ho e) ⟨_, rfl, ct_one w t h⟩
theorem run_neB {P : Program} {x y : Operand} {t t' : TypeId} (ho : o.op = .binOp .neq t x y t') (hu : P.underlying t = some .bool) {m n : Bool} (hx : a.eval x = .bool m) (hy : a.eval y = .bool n) : (execOp a.eval o).run P w = .ok (.value (.bool (m != n))) w := by
  unfold execOp
  simp only [ho, hx, hy]
  simp [eqGuard, run_neq_bool w t m n hu]
  cases m <;> cases n <;> rfl
theorem run_eqB {P : Program} {x y : Operand} {t t' : TypeId} (ho : o.op = .binOp .eql t x y t') (hu : P.underlying t = some .bool) {m n : Bool} (hx : a.eval x = .bool m) (hy : a.eval y = .bool n) : (execOp a.eval o).run P w = .ok (.value (.bool (m == n))) w := by
  unfold execOp
  simp only [ho, hx, hy]
  simp [eqGuard, run_eql_bool w t m n hu]
end
end Go.Proofs.YtmjckdgomlppeaaGreatDoor
end
section
namespace Go.Proofs.YtmjckdgomlppeaaGreatDoor
open Go.RowKit Go.Shelf
attribute [local go_sem] Oper.semAt_some

theorem idxI_ge : ∀ x : Option Nat, decide (0 ≤ idxI x) = x.isSome
  | none => by decide
  | some k => by simp [idxI]
set_option maxRecDepth 100000 in
set_option maxHeartbeats 8000000 in
theorem checks_walk (name : ByteArray) (A : Option Addr) (c : Nat) (l : List Ta) (wz : World) (h : CtAt wz A l) (hF : ∀ x ∈ l, FineT x) (hl : l.length ≤ 9223372036854775807) (hn : name.size ≤ 9223372036854775807) (hT : Tabs wz) :
    Calls Tryz.prog 3 #[.slice A l.length c, .string name] wz fun e w' => e = .returned (.bool true) ∧ Below wz.heap.size wz w' := by
  have HT := Lib.hid hT
  have HF := Lib.hid hF
  have HA := Lib.hid h
  have hL := large13_any A c l wz h hl rfl
  obtain ⟨q, hq⟩ : ∃ q, largeC l = q := ⟨_, rfl⟩
  rw [hq] at hL
  have HL := Lib.hid hL
  have HQ := Lib.hid hq
  clear hT hF h hL hq
  go_enter Tryz.func3, Tryz.ntmps3
  go_wp2_with fail
  refine HL.out.mono ?_
  rintro e w1 ⟨rfl, hb⟩
  have HB := Lib.hid hb
  clear hb
  cases q with
  | true =>
    go_wp2_with fail
    refine (lives13_yes w1 (HT.out.kept HB.out)).mono ?_
    rintro e w2 ⟨rfl, hb⟩
    have HB := Lib.hid (bt HB.out hb)
    clear hb
    go_wp2_with fail
    go_ret
    exact ⟨rfl, HB.out⟩
  | false =>
    by_cases hns : (name.size : Int) > 1000
    · go_wp2_with fail
      refine (lives13_yes w1 (HT.out.kept HB.out)).mono ?_
      rintro e w2 ⟨rfl, hb⟩
      have HB := Lib.hid (bt HB.out hb)
      clear hb
      go_wp2_with fail
      go_ret
      exact ⟨rfl, HB.out⟩
    · obtain ⟨hl30, hS⟩ := smls_of HQ.out
      have HS := Lib.hid hS
      clear hS
      go_wp2_with fail
      obtain ⟨b, hb0⟩ : ∃ b, catB l = b := ⟨_, rfl⟩
      have HCat := Lib.hid hb0
      refine (rcheck13_any A c l w1 (HA.out.kept HB.out) (by omega) HF.out hb0).mono ?_
      rintro e w2 ⟨rfl, hb⟩
      have HB := Lib.hid (bt HB.out hb)
      clear hb hb0 hns
      obtain ⟨xw, hxw⟩ : ∃ xw : Int, (if b = true then (0 : Int) else 130) = xw := ⟨_, rfl⟩
      have HX := Lib.hid hxw
      clear hxw
      go_upto_if 20 with fail
      go_cut [5] from 10 (fun v wx => v = .int .i64 xw ∧ Hid (Below wz.heap.size wz wx))
      case first =>
        cases b with
        | true =>
          obtain rfl : (0 : Int) = xw := HX.out
          go_wp2_with fail
          go_meet
          exact ⟨rfl, HB⟩
        | false =>
          obtain rfl : (130 : Int) = xw := HX.out
          go_wp2_with fail
          go_meet
          exact ⟨rfl, HB⟩
      case rest =>
        obtain ⟨rfl, HB⟩ := hcut
        go_wp2_with fail
        refine (cfind_any name A c l wc (HA.out.kept HB.out) hl (fun t ht => ⟨(HS.out t ht).few.co, (HS.out t ht).few.n, (HS.out t ht).few.l⟩)).mono ?_
        intro e w3 he
        obtain ⟨f, t, A1, R1, c1, d1, rfl, hok, hb, hf0, hf1⟩ := he.one
        have HF0 := Lib.hid hf0
        have HF1 := Lib.hid hf1
        have hx := ba w3 (tbox t.nm A1 t.cols.length c1 R1 t.rows.length d1)
        have HXu := Lib.hid (MapKept.heap_alloc w3 (tbox t.nm A1 t.cols.length c1 R1 t.rows.length d1)).1
        have HK := Lib.hid (hok.kept hx)
        have HB := Lib.hid (bt (bt HB.out hb) hx)
        clear he hok hb hf0 hf1 hx
        go_upto_region 7 with fail
        generalize w3.alloc (tbox t.nm A1 t.cols.length c1 R1 t.rows.length d1) = w4 at HXu HK HB ⊢
        generalize w3.heap.size = u at HXu ⊢
        go_wp2_with fail
        refine (rcfind_any name A c l w4 (HA.out.kept HB.out) hl).mono ?_
        rintro e w5 ⟨rfl, hb⟩
        obtain ⟨z, hz⟩ : ∃ z, idxI (l.findIdx? (nmIs name)) = z := ⟨_, rfl⟩
        rw [hz]
        have HZ := Lib.hid hz
        have HXu := Lib.hid ((hb.block u (Array.getElem?_eq_some_iff.1 HXu.out).1).trans HXu.out)
        have HK := Lib.hid (HK.out.kept hb)
        have HB := Lib.hid (bt HB.out hb)
        clear hb hz
        go_wp2_with fail
        refine (lives13_yes w5 (HT.out.kept HB.out)).mono ?_
        rintro e w6 ⟨rfl, hb⟩
        have HXu := Lib.hid ((hb.block u (Array.getElem?_eq_some_iff.1 HXu.out).1).trans HXu.out)
        have HK := Lib.hid (HK.out.kept hb)
        have HB := Lib.hid (bt HB.out hb)
        clear hb
        go_wp2_with fail
        refine (catCheck_any A c l w6 (HA.out.kept HB.out) hl HF.out (HT.out.kept HB.out) HCat.out).mono ?_
        rw [HX.out]
        rintro e w7 ⟨rfl, hb⟩
        have HXu := Lib.hid ((hb.block u (Array.getElem?_eq_some_iff.1 HXu.out).1).trans HXu.out)
        have HK := Lib.hid (HK.out.kept hb)
        have HB := Lib.hid (bt HB.out hb)
        clear hb
        have hxx : (xw != xw) = false := by simp
        have hfz : decide (0 ≤ z) = f := by
          rw [← HZ.out, idxI_ge]
          cases f with
          | false => rw [(HF0.out rfl).1]; rfl
          | true => obtain ⟨k, h1, _⟩ := HF1.out rfl; rw [h1]; rfl
        have HFZ := Lib.hid hfz
        have hfz' : decide (z ≥ 0) = f := hfz
        have hff : (f != f) = false := by simp
        clear hfz
        go_wp2_with fail
        clear hxx hff hfz'
        go_loopw [9] (fun i wr => ∃ j : Nat, j ≤ l.length ∧ i = .int .i64 j ∧ Hid (Below wz.heap.size wz wr) ∧ Hid (TaOk wr t A1 c1 R1 d1) ∧ Hid (wr.heap[u]? = some (tbox t.nm A1 t.cols.length c1 R1 t.rows.length d1))) (fun i _ => l.length - (intOf i).toNat)
        case atStart => exact ⟨0, Nat.zero_le _, rfl, HB, HK, HXu⟩
        case round =>
          obtain ⟨j, hj, rfl, HB, HK, HXu⟩ := hrel
          by_cases hlt : j < l.length
          · obtain ⟨b1, off1, rfl, hb1, A2, c2, R2, d2, x0, x1, x2, hx⟩ := (HA.out.kept HB.out).at hlt
            have hfx := HF.out l[j] (List.getElem_mem hlt)
            generalize l[j] = x at x0 x1 x2 hx hfx
            obtain ⟨q, hq⟩ : ∃ q, tabB x = q := ⟨_, rfl⟩
            obtain ⟨xt, hxt⟩ : ∃ xt : Int, (if q = true then (0 : Int) else 130) = xt := ⟨_, rfl⟩
            have HXq := Lib.hid (show (xt == 0) = q by rw [← hxt]; cases q <;> rfl)
            have HT1 := Lib.hid (fun W (hb : Below wr.heap.size wr W) => by
              have := table_any x A2 R2 c2 d2 W (hx.kept hb) hfx (HT.out.kept (bt HB.out hb)) hq
              rwa [hxt] at this)
            have HT2 := Lib.hid (fun W (hb : Below wr.heap.size wr W) => rtable_any x A2 R2 c2 d2 W (hx.kept hb) hfx hq)
            clear hq hxt hx hfx
            go_upto_region 13 with fail
            refine wp_region_inv (n := 12) (ds := [some 50, some 51, some 52, some 53, some 54, some 55, some 56, some 57, some 58, some 59, some 60, some 61]) (need := [[], [], [0, 1], [2], [3], [4], [], [], [6, 7], [8], [4, 9], [5, 10]]) (R := Bel) (Gs := [
                (fun v _ => v = .slice (some ⟨b1, off1, none⟩) l.length c),
                (fun v _ => v = .int .i64 (j : Nat)),
                (fun v _ => v = .pointer (some ⟨b1, off1 + j * 3, none⟩)),
                (fun v _ => v = TV x.nm A2 x.cols.length c2 R2 x.rows.length d2),
                (fun v _ => v = .int .i64 xt),
                (fun v _ => v = .bool q),
                (fun v _ => v = .slice (some ⟨b1, off1, none⟩) l.length c),
                (fun v _ => v = .int .i64 (j : Nat)),
                (fun v _ => v = .pointer (some ⟨b1, off1 + j * 3, none⟩)),
                (fun v _ => v = TV x.nm A2 x.cols.length c2 R2 x.rows.length d2),
                (fun v _ => v = .bool q),
                (fun v _ => v = .bool false)])
              (by kernel_rfl) (by kernel_rfl) (by decide) (by kernel_rfl) (by kernel_rfl) (by kernel_rfl) (fun x => Below.refl _ x) (fun _ _ _ h k => bt h k) ?_ ?_
            · refine Each.cons rfl (Keeps.const _) (StepOk.plain (g := (fun v _ => v = .slice (some ⟨b1, off1, none⟩) l.length c)) rfl rfl rfl (fun a w hs hR hr pre => ?_)) ?_
              · have ep : a.eval (.tmp 0) = .slice (some ⟨b1, off1, none⟩) l.length c := hr 0 (by decide)
                exact wp_pure (run_move rfl) ep
              refine Each.cons rfl (Keeps.const _) (StepOk.plain (g := (fun v _ => v = .int .i64 (j : Nat))) rfl rfl rfl (fun a w hs hR hr pre => ?_)) ?_
              · have ep : a.eval (.tmp 9) = .int .i64 (j : Nat) := hr 9 (by decide)
                exact wp_pure (run_move rfl) ep
              refine Each.cons rfl (Keeps.const _) (StepOk.plain (g := (fun v _ => v = .pointer (some ⟨b1, off1 + j * 3, none⟩))) rfl rfl rfl (fun a w hs hR hr pre => ?_)) ?_
              · have e50 : a.eval (.tmp 50) = .slice (some ⟨b1, off1, none⟩) l.length c := pre 0 (by decide)
                have e51 : a.eval (.tmp 51) = .int .i64 (j : Nat) := pre 1 (by decide)
                exact wp_pure (run_ixT rfl hlt e50 e51) rfl
              refine Each.cons rfl (Keeps.const _) (StepOk.plain (g := (fun v _ => v = TV x.nm A2 x.cols.length c2 R2 x.rows.length d2)) rfl rfl rfl (fun a w hs hR hr pre => ?_)) ?_
              · have e52 : a.eval (.tmp 52) = .pointer (some ⟨b1, off1 + j * 3, none⟩) := pre 2 (by decide)
                exact wp_pure (run_ldT rfl e52 ((hR.cell (p := ⟨b1, _, none⟩) hb1).trans x0) ((hR.cell (p := ⟨b1, _, none⟩) hb1).trans x1) ((hR.cell (p := ⟨b1, _, none⟩) hb1).trans x2)) rfl
              refine Each.cons rfl (Keeps.const _) (StepOk.plain (g := (fun v _ => v = .int .i64 xt)) rfl rfl rfl (fun a w hs hR hr pre => ?_)) ?_
              · have e53 : a.eval (.tmp 53) = TV x.nm A2 x.cols.length c2 R2 x.rows.length d2 := pre 3 (by decide)
                exact wp_fn (vs := #[TV x.nm A2 x.cols.length c2 R2 x.rows.length d2]) rfl Tryz.func14 (by kernel_rfl) (by kernel_rfl) (by simp only [List.map_toArray, List.map_cons, List.map_nil, e53]) ((HT1.out w (bt (Below.drew (Below.refl _ _)) hR)).mono fun _ _ ⟨h1, h2⟩ => ⟨_, h1, h2, rfl⟩)
              refine Each.cons rfl (Keeps.const _) (StepOk.plain (g := (fun v _ => v = .bool q)) rfl rfl rfl (fun a w hs hR hr pre => ?_)) ?_
              · have e54 : a.eval (.tmp 54) = .int .i64 xt := pre 4 (by decide)
                exact wp_pure (run_eqI rfl e54 rfl) (by rw [HXq.out])
              refine Each.cons rfl (Keeps.const _) (StepOk.plain (g := (fun v _ => v = .slice (some ⟨b1, off1, none⟩) l.length c)) rfl rfl rfl (fun a w hs hR hr pre => ?_)) ?_
              · have ep : a.eval (.tmp 0) = .slice (some ⟨b1, off1, none⟩) l.length c := hr 0 (by decide)
                exact wp_pure (run_move rfl) ep
              refine Each.cons rfl (Keeps.const _) (StepOk.plain (g := (fun v _ => v = .int .i64 (j : Nat))) rfl rfl rfl (fun a w hs hR hr pre => ?_)) ?_
              · have ep : a.eval (.tmp 9) = .int .i64 (j : Nat) := hr 9 (by decide)
                exact wp_pure (run_move rfl) ep
              refine Each.cons rfl (Keeps.const _) (StepOk.plain (g := (fun v _ => v = .pointer (some ⟨b1, off1 + j * 3, none⟩))) rfl rfl rfl (fun a w hs hR hr pre => ?_)) ?_
              · have e56 : a.eval (.tmp 56) = .slice (some ⟨b1, off1, none⟩) l.length c := pre 6 (by decide)
                have e57 : a.eval (.tmp 57) = .int .i64 (j : Nat) := pre 7 (by decide)
                exact wp_pure (run_ixT rfl hlt e56 e57) rfl
              refine Each.cons rfl (Keeps.const _) (StepOk.plain (g := (fun v _ => v = TV x.nm A2 x.cols.length c2 R2 x.rows.length d2)) rfl rfl rfl (fun a w hs hR hr pre => ?_)) ?_
              · have e58 : a.eval (.tmp 58) = .pointer (some ⟨b1, off1 + j * 3, none⟩) := pre 8 (by decide)
                exact wp_pure (run_ldT rfl e58 ((hR.cell (p := ⟨b1, _, none⟩) hb1).trans x0) ((hR.cell (p := ⟨b1, _, none⟩) hb1).trans x1) ((hR.cell (p := ⟨b1, _, none⟩) hb1).trans x2)) rfl
              refine Each.cons rfl (Keeps.const _) (StepOk.plain (g := (fun v _ => v = .bool q)) rfl rfl rfl (fun a w hs hR hr pre => ?_)) ?_
              · have e59 : a.eval (.tmp 59) = TV x.nm A2 x.cols.length c2 R2 x.rows.length d2 := pre 9 (by decide)
                exact wp_fn (vs := #[TV x.nm A2 x.cols.length c2 R2 x.rows.length d2]) rfl Tryz.func15 (by kernel_rfl) (by kernel_rfl) (by simp only [List.map_toArray, List.map_cons, List.map_nil, e59]) ((HT2.out w (bt (Below.drew (Below.refl _ _)) hR)).mono fun _ _ ⟨h1, h2⟩ => ⟨_, h1, h2, rfl⟩)
              refine Each.cons rfl (Keeps.const _) (StepOk.plain (g := (fun v _ => v = .bool false)) rfl rfl rfl (fun a w hs hR hr pre => ?_)) ?_
              · have e55 : a.eval (.tmp 55) = .bool q := pre 5 (by decide)
                have e60 : a.eval (.tmp 60) = .bool q := pre 10 (by decide)
                exact wp_pure (run_neB rfl Tryz.underlying4 e55 e60) (by rw [bne_self_eq_false])
              exact Each.nil
            · intro v w1 hB hG
              have e11 : v 11 = .bool false := hG 11 (by decide)
              clear hG
              simp only [List.take_succ_cons, List.take_zero, puts, Act.put, List.setIfInBounds_toArray, List.set_cons_zero, List.set_cons_succ, Nat.reduceAdd, e11]
              have HB2 := Lib.hid (bt HB.out (bt (Below.drew (Below.refl _ _)) hB))
              have HK2 := Lib.hid (HK.out.kept (bt (Below.drew (Below.refl _ _)) hB))
              have HX2 := Lib.hid (((bt (Below.drew (Below.refl _ _)) hB).block u (Array.getElem?_eq_some_iff.1 HXu.out).1).trans HXu.out)
              clear hB
              refine wpAny_done (by kernel_rfl) ?_ _
              go_wp2_with fail
              go_roundw
              case rel => exact ⟨j + 1, by omega, by go_num, HB2, HK2, HX2⟩
              case measure => simp [intOf]; omega
          · cases f with
            | false =>
              obtain ⟨_, rfl⟩ := HF0.out rfl
              obtain ⟨y0, y1, y2⟩ := cell3 HXu.out
              go_wp2_with fail
              go_ret
              exact ⟨rfl, HB.out⟩
            | true =>
              obtain ⟨k, hk1, hk2⟩ := HF1.out rfl
              obtain rfl : (k : Int) = z := by rw [← HZ.out, hk1]; rfl
              obtain ⟨hkl, hkt⟩ := List.getElem?_eq_some_iff.1 hk2
              obtain ⟨b1, off1, rfl, hb1, A2, c2, R2, d2, x0, x1, x2, hx⟩ := (HA.out.kept HB.out).at hkl
              rw [hkt] at x0 x1 x2 hx
              have hul := (Array.getElem?_eq_some_iff.1 HXu.out).1
              obtain ⟨y0, y1, y2⟩ := cell3 HXu.out
              have HFw := Lib.hid (show ∀ x ∈ [t], Few x from fun x hx => by
                obtain rfl : x = t := by simpa using hx
                rw [← hkt]
                exact (HS.out _ (List.getElem_mem hkl)).few)
              have HK2 := Lib.hid hx
              have HKd := Lib.hid (HK.out)
              have hlt : k < l.length := hkl
              clear hk1 hk2 hkt hx hkl
              go_upto_region 17 with fail
              refine wp_region_inv (n := 9) (ds := [some 79, some 80, some 81, some 82, some 83, some 84, some 85, some 86, some 4]) (need := [[], [0], [], [], [2, 3], [4], [5], [1, 6], [0, 1, 2, 3, 4, 5, 6, 7]]) (R := Bel) (Gs := [
                  (fun v _ => v = TV t.nm A1 t.cols.length c1 R1 t.rows.length d1),
                  (OneT t),
                  (fun v _ => v = .slice (some ⟨b1, off1, none⟩) l.length c),
                  (fun v _ => v = .int .i64 (k : Nat)),
                  (fun v _ => v = .pointer (some ⟨b1, off1 + k * 3, none⟩)),
                  (fun v _ => v = TV t.nm A2 t.cols.length c2 R2 t.rows.length d2),
                  (OneT t),
                  (fun v _ => v = .bool true),
                  (fun v _ => v = .bool true)])
                (by kernel_rfl) (by kernel_rfl) (by decide) (by kernel_rfl) (by kernel_rfl) (by kernel_rfl) (fun x => Below.refl _ x) (fun _ _ _ h k => bt h k) ?_ ?_
              · refine Each.cons rfl (Keeps.const _) (StepOk.plain (g := (fun v _ => v = TV t.nm A1 t.cols.length c1 R1 t.rows.length d1)) rfl rfl rfl (fun a w hs hR hr pre => ?_)) ?_
                · have ep : a.eval (.tmp 6) = .pointer (some ⟨u, 0, none⟩) := hr 6 (by decide)
                  exact wp_pure (run_ldT rfl ep ((hR.cell (p := ⟨u, _, none⟩) hul).trans y0) ((hR.cell (p := ⟨u, _, none⟩) hul).trans y1) ((hR.cell (p := ⟨u, _, none⟩) hul).trans y2)) rfl
                refine Each.cons rfl (OneT.keeps _) (StepOk.plain (g := (OneT t)) rfl rfl rfl (fun a w hs hR hr pre => ?_)) ?_
                · have e79 : a.eval (.tmp 79) = TV t.nm A1 t.cols.length c1 R1 t.rows.length d1 := pre 0 (by decide)
                  exact wp_one rfl ⟨_, _, _, _, e79, HKd.out.kept (bt (Below.drew (Below.refl _ _)) hR)⟩
                refine Each.cons rfl (Keeps.const _) (StepOk.plain (g := (fun v _ => v = .slice (some ⟨b1, off1, none⟩) l.length c)) rfl rfl rfl (fun a w hs hR hr pre => ?_)) ?_
                · have ep : a.eval (.tmp 0) = .slice (some ⟨b1, off1, none⟩) l.length c := hr 0 (by decide)
                  exact wp_pure (run_move rfl) ep
                refine Each.cons rfl (Keeps.const _) (StepOk.plain (g := (fun v _ => v = .int .i64 (k : Nat))) rfl rfl rfl (fun a w hs hR hr pre => ?_)) ?_
                · have ep : a.eval (.tmp 8) = .int .i64 (k : Nat) := hr 8 (by decide)
                  exact wp_pure (run_move rfl) ep
                refine Each.cons rfl (Keeps.const _) (StepOk.plain (g := (fun v _ => v = .pointer (some ⟨b1, off1 + k * 3, none⟩))) rfl rfl rfl (fun a w hs hR hr pre => ?_)) ?_
                · have e81 : a.eval (.tmp 81) = .slice (some ⟨b1, off1, none⟩) l.length c := pre 2 (by decide)
                  have e82 : a.eval (.tmp 82) = .int .i64 (k : Nat) := pre 3 (by decide)
                  exact wp_pure (run_ixT rfl hlt e81 e82) rfl
                refine Each.cons rfl (Keeps.const _) (StepOk.plain (g := (fun v _ => v = TV t.nm A2 t.cols.length c2 R2 t.rows.length d2)) rfl rfl rfl (fun a w hs hR hr pre => ?_)) ?_
                · have e83 : a.eval (.tmp 83) = .pointer (some ⟨b1, off1 + k * 3, none⟩) := pre 4 (by decide)
                  exact wp_pure (run_ldT rfl e83 ((hR.cell (p := ⟨b1, _, none⟩) hb1).trans x0) ((hR.cell (p := ⟨b1, _, none⟩) hb1).trans x1) ((hR.cell (p := ⟨b1, _, none⟩) hb1).trans x2)) rfl
                refine Each.cons rfl (OneT.keeps _) (StepOk.plain (g := (OneT t)) rfl rfl rfl (fun a w hs hR hr pre => ?_)) ?_
                · have e84 : a.eval (.tmp 84) = TV t.nm A2 t.cols.length c2 R2 t.rows.length d2 := pre 5 (by decide)
                  exact wp_one rfl ⟨_, _, _, _, e84, HK2.out.kept (bt (Below.drew (Below.refl _ _)) hR)⟩
                refine Each.cons rfl (Keeps.const _) (StepOk.plain (g := (fun v _ => v = .bool true)) rfl rfl rfl (fun a w hs hR hr pre => ?_)) ?_
                · have h80 : OneT t (a.eval (.tmp 80)) w := pre 1 (by decide)
                  have h85 : OneT t (a.eval (.tmp 85)) w := pre 6 (by decide)
                  obtain ⟨g1, e80, hc1⟩ := h80
                  obtain ⟨g2, e85, hc2⟩ := h85
                  exact wp_fn (vs := #[.slice (some ⟨g1, 0, none⟩) 1 1, .slice (some ⟨g2, 0, none⟩) 1 1]) rfl Tryz.func16 (by kernel_rfl) (by kernel_rfl) (by simp only [List.map_toArray, List.map_cons, List.map_nil, e80, e85]) ((rcSame_any _ _ 1 1 [t] [t] w hc1 hc2 (show 1 ≤ 9223372036854775807 by decide) HFw.out HFw.out (sameTs_refl _)).mono fun _ _ ⟨h1, h2⟩ => ⟨_, h1, h2, rfl⟩)
                refine Each.cons rfl (Keeps.const _) (StepOk.plain (g := (fun v _ => v = .bool true)) rfl rfl rfl (fun a w hs hR hr pre => ?_)) ?_
                · have e86 : a.eval (.tmp 86) = .bool true := pre 7 (by decide)
                  exact wp_pure (run_assign rfl) e86
                exact Each.nil
              · intro v w1 hB hG
                have e8 : v 8 = .bool true := hG 8 (by decide)
                clear hG
                simp only [List.take_succ_cons, List.take_zero, puts, Act.put, List.setIfInBounds_toArray, List.set_cons_zero, List.set_cons_succ, Nat.reduceAdd, e8]
                have HB2 := Lib.hid (bt HB.out (bt (Below.drew (Below.refl _ _)) hB))
                clear hB
                refine wpAny_done (by kernel_rfl) ?_ _
                go_wp2_with fail
                go_ret
                exact ⟨rfl, HB2.out⟩
end Go.Proofs.YtmjckdgomlppeaaGreatDoor
end
