/-
  Contract of row.Sort.
-/
import Derived.Test.YtlobgdfmgbedgaaRSrt0
import Derived.Test.YtlobgdfmgbedgaaSort
import Derived.Test.YtlobgdfmgbedgaaRJoin
import Derived.Deep.OwnRows
namespace Go.Proofs.Ytlobgdfmgbedgaa
open Go.RowKit Go.Shelf Go.Sort

theorem info_row : (Try.prog.info? 22).map (fun i => (i.zero, i.size, i.bytes)) = some (some (.slice none 0 0), 1, 24) := by kernel_rfl

/-- append(nil, r...): a row of the call's own, behind whatever lay there. -/
theorem wpList_copyRow {ops : Array Oper} {rest : List Oper} {o : Oper} {a : Act} {Q : Exit → Act → World → Prop} (hgd : o.guard = none) (s x : Operand)
    (ho : o.op = .call { callee := .builtin .append, args := #[s, x], argTypes := #[22, 22] })
    (A : Option Addr) (c : Nat) (r : List Va) (W : World) (g : Nat) (hg : g < W.heap.size) (hs : a.eval s = .slice none 0 0) (hx : a.eval x = .slice A r.length c) (hr : RowAt W A r) (hA : A = none → c = 0) (hl : r.length ≤ 65536)
    (h : ∀ A' c' w', RowFrom w' g A' r → (A' = none → c' = 0) → Below W.heap.size W w' → wpList Try.prog ops Q rest (a.put o.dst (.slice A' r.length c')) w') :
    wpList Try.prog ops Q (o :: rest) a W := by
  obtain ⟨i0, hi, hz0, hz1, hz2⟩ := info_parts info_val
  have hnil := World.ownsRow_nil W W.heap.size 83 3
  cases r with
  | nil =>
    cases A with
    | none =>
      have hc := hA rfl
      subst hc
      exact wpList_append_own_none hgd s x 22 ho W.heap.size 83 i0 3 Try.underlying22 hi _ 0 [] hs hnil hx (h none 0 W (.inl rfl) (fun _ => rfl) (Below.refl _ _))
    | some ad =>
      refine wpList_append_own _ hgd s x 22 ho W.heap.size 83 i0 _ 3 32 Try.underlying22 hi hz0 hz1 hz2 rfl (by decide) _ 0 [] hs hnil ad 0 c [] hx rfl (by simp) (by simp) (by simp [maxLen]) (by omega) (Nat.le_refl _) ?_
      intro v' w' _ hgr hv
      obtain rfl := hv.2 ⟨rfl, rfl⟩
      exact h none 0 w' (.inl rfl) (fun _ => rfl) ((Below.refl _ W).grown hgr (Nat.le_refl _) (fun k hk => by simp [Value.ownBlock] at hk))
  | cons v r =>
    obtain ⟨b, off, rfl, _, _⟩ := hr.at (i := 0) (by simp)
    refine wpList_append_lies _ hgd s x 22 ho W.heap.size 83 i0 _ 3 32 Try.underlying22 hi hz0 hz1 hz2 rfl (by decide) _ 0 [] hs hnil ⟨b, off, none⟩ (v :: r).length c (rowList (v :: r)) hx (rowList_length _) (news_of_row hr) (oneCell_row _) (by simp) (by simp [maxLen] at hl ⊢; omega) (by omega) (Nat.le_refl _) _ rfl ?_
    intro g' cap w' hown hgr hat hlt
    have hB := (Below.refl W.heap.size W).grown hgr (Nat.le_refl _) (fun k hk => by simp [Value.ownBlock] at hk)
    rw [Nat.zero_add, List.nil_append] at hown
    have hrow := row_of_owns hown
    refine (congrArg (fun n => wpList Try.prog ops Q rest (a.put o.dst (.slice (some ⟨g', 0, none⟩) n cap)) w') (Nat.zero_add _)).mpr (h (some ⟨g', 0, none⟩) cap w' ?_ (fun hh => by cases hh) hB)
    have hg' : g' = W.heap.size := by
      rcases hat with hat | hat
      · simp [Value.ownBlock] at hat
      · exact hat
    rcases hrow with hrow | ⟨b', off', hA', hb', hc'⟩
    · exact .inl hrow
    · cases hA'
      exact .inr ⟨g', 0, rfl, by omega, hb', hc'⟩

/-- A list of rows that came in. -/
def ListAt (w : World) (B : Option Addr) (rs : List (List Va)) : Prop :=
  rs = [] ∨ ∃ b off : Nat, B = some ⟨b, off, none⟩ ∧ b < w.heap.size ∧ ∀ (i : Nat) (r : List Va), rs[i]? = some r → ∃ A c, w.cell? ⟨b, off + i, none⟩ = some (.slice A r.length c) ∧ RowAt w A r ∧ (A = none → c = 0)
theorem ListAt.at {w w' : World} {B : Option Addr} {rs : List (List Va)} (h : ListAt w B rs) (hb : Below w.heap.size w w') {i : Nat} {r : List Va} (hr : rs[i]? = some r) :
    ∃ b off : Nat, B = some ⟨b, off, none⟩ ∧ b < w.heap.size ∧ ∃ A c, w'.cell? ⟨b, off + i, none⟩ = some (.slice A r.length c) ∧ RowAt w' A r ∧ (A = none → c = 0) := by
  rcases h with h | ⟨b, off, hB, hlt, hc⟩
  · subst h; simp at hr
  · obtain ⟨A, c, hcell, hrow, hA⟩ := hc i r hr
    exact ⟨b, off, hB, hlt, A, c, (hb.cell (p := ⟨b, _, none⟩) hlt).trans hcell, hrow.kept hb, hA⟩

/-- Block g is just these values. -/
def Out (w : World) (g : Nat) (vs : List Value) : Prop := w.heap[g]? = some (.cells vs.toArray 22 (0, 0))
theorem Out.lt {w : World} {g : Nat} {vs : List Value} (h : Out w g vs) : g < w.heap.size := by
  rcases Nat.lt_or_ge g w.heap.size with hl | hg
  · exact hl
  · unfold Out at h; rw [Array.getElem?_eq_none hg] at h; cases h
theorem Out.cell {w : World} {g : Nat} {vs : List Value} (h : Out w g vs) (i : Nat) : w.cell? ⟨g, i, none⟩ = vs[i]? := by
  unfold Out at h; simp [World.cell?, h]
theorem Out.free {w : World} {g : Nat} {vs : List Value} (h : Out w g vs) (i : Nat) : w.frozen? ⟨g, i, none⟩ = false := by
  unfold Out at h; simp [World.frozen?, h]
theorem Out.kept {w w' : World} {g : Nat} {vs : List Value} (h : Out w g vs) (hb : Below w.heap.size w w') : Out w' g vs := (hb.block g h.lt).trans h
theorem Out.put {w : World} {g : Nat} {vs : List Value} (h : Out w g vs) (i : Nat) (v : Value) : Out (w.setCell ⟨g, i, none⟩ v) g (vs.set i v) := by
  unfold Out at h ⊢
  simp [World.setCell, Array.getElem?_modify, h]

/-- The list that Sort copies: j rows are copied. -/
def Copied (w : World) (g j : Nat) (rs : List (List Va)) (vs : List Value) : Prop :=
  Out w g vs ∧ vs.length = rs.length ∧ ∀ (i : Nat) (r : List Va), i < j → rs[i]? = some r → ∃ A c, vs[i]? = some (.slice A r.length c) ∧ RowFrom w g A r ∧ (A = none → c = 0)
theorem Copied.lt {w : World} {g j : Nat} {rs : List (List Va)} {vs : List Value} (h : Copied w g j rs vs) : g < w.heap.size := h.1.lt
theorem Copied.next {w w' : World} {g j : Nat} {rs : List (List Va)} {vs : List Value} (h : Copied w g j rs vs) (hb : Below w.heap.size w w') {r : List Va} (hr : rs[j]? = some r) {A : Option Addr} (c : Nat) (hf : RowFrom w' g A r) (hA : A = none → c = 0) :
    Copied (w'.setCell ⟨g, j, none⟩ (.slice A r.length c)) g (j + 1) rs (vs.set j (.slice A r.length c)) := by
  refine ⟨(h.1.kept hb).put j _, by simp [h.2.1], fun i r' hi hr' => ?_⟩
  by_cases e : i = j
  · subst e
    rw [hr] at hr'
    cases hr'
    have hj : i < vs.length := by rw [h.2.1]; exact (List.getElem?_eq_some_iff.1 hr).1
    exact ⟨A, c, by simp [hj], hf.others (others_set _ _), hA⟩
  · obtain ⟨A', c', hv, hf', hA'⟩ := h.2.2 i r' (by omega) hr'
    exact ⟨A', c', by rw [List.getElem?_set_ne (Ne.symm e)]; exact hv, (hf'.others (others_below hb)).others (others_set _ _), hA'⟩
theorem Copied.vals {w : World} {g : Nat} {rs : List (List Va)} {vs : List Value} (h : Copied w g rs.length rs vs) : Vals w g vs rs :=
  ⟨h.2.1, fun i r hr => h.2.2 i r (List.getElem?_eq_some_iff.1 hr).1 hr⟩

/-- The end of Sort: the rows in order, each in memory of its own. -/
def SortEnd (w : World) (rs : List (List Va)) (e : Ending) (w' : World) : Prop :=
  ∃ g rs', e = .returned (.slice (some ⟨g, 0, none⟩) rs.length rs.length) ∧ ListAt w' (some ⟨g, 0, none⟩) rs' ∧ rs'.Perm rs ∧ rs'.Pairwise (fun a b => cmpR a b ≤ 0) ∧ Below w.heap.size w w'

theorem made_list (n : Nat) : madeCells #[(.slice none 0 0 : Value)] n = (List.replicate n (.slice none 0 0)).toArray := by
  apply Array.ext'
  apply List.ext_getElem?
  intro i
  by_cases hi : i < n
  · simp [madeCells, hi, Nat.mod_one]
  · simp [madeCells, hi]

theorem map_range_getD (rs : List (List Va)) : (List.range rs.length).map (fun i => rs.getD i []) = rs := by
  apply List.ext_getElem?
  intro i
  by_cases hi : i < rs.length
  · simp [hi, List.getD]
  · simp [hi]

theorem sort_end (w W : World) (g : Nat) (vs : List Value) (rs : List (List Va)) (hg : w.heap.size ≤ g) (hgl : g < W.heap.size) (hX : Holds (encL vs) W g 0 (Array.range rs.length)) (hV : Vals W g vs rs) (hB : Go.RowKit.Below w.heap.size w W)
    (d' : Array Nat) (n' : Nat) (os : Array Obj) (hp : PermIn 0 rs.length (Array.range rs.length) d') (hs : SortedIn (ltOf (cfL rs)) 0 rs.length d') :
    SortEnd w rs (.returned (.slice (some ⟨g, 0, none⟩) rs.length rs.length)) (sortWorld (encL vs) W g 0 n' d' os) := by
  have hsz : d'.size = rs.length := by have := hp.1; simpa using this
  have hO := others_sort (encL vs) W g 0 n' d' os
  have hH : Holds (encL vs) (sortWorld (encL vs) W g 0 n' d' os) g 0 d' := SW.holds ⟨n', os, rfl⟩ hgl hX (by simpa using hsz)
  refine ⟨g, d'.toList.map (fun i => rs.getD i []), rfl, .inr ⟨g, 0, rfl, Nat.lt_of_lt_of_le hgl hO.1, ?_⟩, ?_, ?_, below_sort _ _ _ _ _ _ hB hg⟩
  · intro i r hr
    rw [List.getElem?_map] at hr
    obtain ⟨k, hk, rfl⟩ := Option.map_eq_some_iff.1 hr
    rw [Array.getElem?_toList] at hk
    have hi : i < d'.size := (Array.getElem?_eq_some_iff.1 hk).1
    have e : d'[i]! = k := by rw [getElem!_pos d' i hi]; exact (Array.getElem?_eq_some_iff.1 hk).2
    obtain ⟨A, c, hv, hf, hA⟩ := hV.enc k
    refine ⟨A, c, ?_, (hf.others hO).row, hA⟩
    rw [(hH i hi).1, e, hv]
  · have h1 : (d'.extract 0 rs.length).toList = d'.toList := by rw [← hsz]; simp
    have h2 : ((Array.range rs.length).extract 0 rs.length).toList = List.range rs.length := by
      have : (Array.range rs.length).extract 0 rs.length = Array.range rs.length := by
        conv => lhs; rw [show rs.length = (Array.range rs.length).size by simp]
        simp
      rw [this]; simp
    have hperm := hp.2.2
    rw [h1, h2] at hperm
    have := hperm.map (fun i => rs.getD i [])
    rwa [map_range_getD] at this
  · rw [List.pairwise_map, List.pairwise_iff_getElem]
    intro i j hi hj hij
    have hj' : j < d'.size := by simpa using hj
    have h := hs i j (Nat.zero_le _) hij (by omega)
    rw [getElem!_pos d' j hj', getElem!_pos d' i (by omega)] at h
    have h' : ¬ cmpR (rs.getD d'[j] []) (rs.getD d'[i] []) < 0 := of_decide_eq_false h
    have ha := cmpR_anti (rs.getD d'[i] []) (rs.getD d'[j] [])
    show cmpR (rs.getD d'[i] []) (rs.getD d'[j] []) ≤ 0
    omega

set_option maxRecDepth 100000 in
set_option maxHeartbeats 2000000 in
theorem sort_any (B : Option Addr) (cB : Nat) (rs : List (List Va)) (w : World) (h : ListAt w B rs) (hn : rs.length ≤ 65536) (hl : ∀ r ∈ rs, r.length ≤ 65536) :
    Calls Try.prog 27 #[.slice B rs.length cB] w (SortEnd w rs) := by
  have hmk := run_make_row' (P := Try.prog) 39 22 (.slice none 0 0) 24 Try.underlying39 info_row rfl .i64 .i64 rs.length (by omega) (by omega)
  rw [made_list, List.toArray_replicate] at hmk
  go_enter Try.func27, Try.ntmps27
  go_wp2_with fail
  have hC0 : Copied (w.alloc (.cells (Array.replicate rs.length (.slice none 0 0)) 22)) w.heap.size 0 rs (List.replicate rs.length (.slice none 0 0)) :=
    ⟨by unfold Out; rw [List.toArray_replicate]; exact heap_alloc_new w _, by simp, fun i r hi => by omega⟩
  have hB0 := ba w (.cells (Array.replicate rs.length (.slice none 0 0)) 22)
  generalize w.alloc (.cells (Array.replicate rs.length (.slice none 0 0)) 22) = W at hC0 hB0 ⊢
  clear hmk
  have HL := Lib.hid h
  have HM := Lib.hid hl
  clear h hl
  go_loopw [11] (fun i wr => ∃ j : Nat, j ≤ rs.length ∧ i = .int .i64 j ∧ Hid (Below w.heap.size w wr) ∧ Hid (∃ vs, Copied wr w.heap.size j rs vs)) (fun i _ => rs.length - (intOf i).toNat)
  case atStart => exact ⟨0, Nat.zero_le _, rfl, Lib.hid hB0, Lib.hid ⟨_, hC0⟩⟩
  case round =>
    obtain ⟨j, hj, rfl, HB, HC⟩ := hrel
    clear hC0 hB0
    obtain ⟨vs, hC⟩ := HC.out
    have HC := Lib.hid hC
    have hgl := hC.lt
    clear hC
    by_cases hlt : j < rs.length
    · obtain ⟨b, off, rfl, hb, A, c, c0, hrow, hA⟩ := HL.out.at HB.out (List.getElem?_eq_getElem hlt)
      have HR := Lib.hid (List.getElem?_eq_getElem hlt)
      have hrl := HM.out rs[j] (List.getElem_mem hlt)
      generalize rs[j] = r at c0 hrow HR hrl
      have HW := Lib.hid hrow
      clear hrow
      go_wp2_with (at_builtin; refine wpList_copyRow rfl _ _ rfl A c r _ w.heap.size hgl rfl rfl HW.out hA hrl ?_)
      intro A' c' w2 hf hA' hb2
      have hOut := HC.out.1.kept hb2
      have hjv : j < vs.length := by rw [HC.out.2.1]; exact hlt
      have d0 := (hOut.cell j).trans (List.getElem?_eq_getElem hjv)
      have f0 := hOut.free j
      have HN := Lib.hid (HC.out.next hb2 HR.out c' hf hA')
      have HB2 := Lib.hid ((bt HB.out hb2).setCell (p := ⟨w.heap.size, j, none⟩) (Nat.le_refl _) (.slice A' r.length c'))
      clear hOut hf hb2
      generalize vs[j] = v0 at d0
      go_wp2_with fail
      go_roundw
      case rel => exact ⟨j + 1, by omega, by go_num, HB2, Lib.hid ⟨_, HN.out⟩⟩
      case measure => simp [intOf]; omega
    · obtain rfl : j = rs.length := by omega
      have hV := HC.out.vals
      have hout := HC.out.1
      have hvl := HC.out.2.1
      have eg : ∀ args w, (callFunc 71 args).run Try.prog w = .ok (.enter 71 args) w := enters_of Try.func71 (by kernel_rfl) rfl
      have hsize : (Array.range rs.length).size = rs.length := by simp
      have hcm := cmpLays vs rs w.heap.size wr hV HM.out
      rw [hvl, ← hsize] at hcm
      have hH : Holds (encL vs) wr w.heap.size 0 (Array.range rs.length) := by
        intro i hi
        rw [hsize] at hi
        refine ⟨?_, by rw [Nat.zero_add]; exact hout.free i⟩
        have e : (Array.range rs.length)[i]! = i := by
          rw [getElem!_pos _ i (by simpa using hi)]; simp
        rw [Nat.zero_add, hout.cell, e]
        simp [encL, List.getD, List.getElem?_eq_getElem (show i < vs.length by omega)]
      have hcon := Any.slices_SortFunc Try.sortf (encL vs) (encL_one hV) (cfL rs) (swoL rs) 71 #[] w.heap.size 0 rs.length (Array.range rs.length) wr eg hcm hH hgl (by rw [hsize]; omega)
      rw [hsize] at hcon
      change Calls Try.prog 74 _ _ _ at hcon
      have HH := Lib.hid hcon
      have HX := Lib.hid hH
      clear hcon hH hcm
      have HV := Lib.hid hV
      clear hV hout
      go_wp2_with fail
      refine HH.out.mono ?_
      rintro e w2 ⟨rfl, d', n', os, hp, hs, rfl⟩
      go_wp2_with fail
      go_ret
      exact sort_end w wr w.heap.size vs rs (Nat.le_refl _) hgl HX.out HV.out HB.out d' n' os hp hs

end Go.Proofs.Ytlobgdfmgbedgaa
