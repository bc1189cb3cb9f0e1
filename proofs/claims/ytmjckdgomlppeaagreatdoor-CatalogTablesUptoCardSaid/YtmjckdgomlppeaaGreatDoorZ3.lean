/-
  DERIVED: THE SHELF's CONTRACTS AT THIS DUMP, IN PLAIN WORDS (tools/lay-plain.mjs out of 'TryzSort0.lean', which tools/lay-shelf.mjs wrote): THE SAME DECLARATIONS UNDER THE SAME NAMES: 'import', 'namespace', 'open', 'def', 'theorem' AND NOTHING ELSE: no command of the shelf's: FOR A HAND-IN. Each laying: the table of numbers ('.._ren') and one theorem, a field a fact of the dump's own or the kernel's comparison; each contract: ONE APPLICATION.
Contract of row.Sort.
Package catalog: columns copied, a table copied.
Package catalog: Find, and the document's own.
Package catalog: the document's Find; whether columns are the same.
Lists of rows that are the same, one by one: contract of the document's own SameList.
Contracts of row.Check, of the library's ContainsFunc over values, and of the document's own Check.
Contracts of row.Size, row.putValue and row.Put.
-/
import Derived.Test.YtmjckdgomlppeaaGreatDoorZ2
import Derived.Shelf.SlSortCmp.Whole1
import Derived.Ground.SlsfProg
import Derived.Test.YtmjckdgomlppeaaGreatDoorProg
import Derived.Deep.OwnRows
import Derived.Laws.AppendOwnNone
import Derived.Shelf.Abstract
import Derived.Laws.StructEq
import Derived.Deep.RegionHeld3
import Derived.Room.AppendFits
section
namespace Go.Proofs
open Go.Shelf
def Tryz.sortf_ren : Go.Shelf.Ren := ⟨fun | 6 => 108 | 15 => 116 | 14 => 115 | 28 => 128 | 29 => 129 | 20 => 120 | 21 => 121 | 22 => 122 | 23 => 123 | 24 => 124 | 25 => 125 | 26 => 126 | 27 => 127 | 46 => 132 | 47 => 133 | 48 => 134 | 49 => 135 | 50 => 136 | 57 => 139 | n => n, fun | 22 => 27 | 24 => 38 | 25 => 89 | 3 => 3 | 39 => 130 | 0 => 0 | 53 => 154 | 55 => 156 | 4 => 4 | 46 => 147 | 45 => 146 | 50 => 151 | 5 => 5 | 9 => 9 | 66 => 158 | 70 => 162 | 76 => 164 | 77 => 165 | n => n, fun | n => n⟩
theorem Tryz.sortf : Go.Proofs.SlLaysF.n6 Tryz.prog Tryz.sortf_ren := {
  mixed := by kernel_rfl
  f6 := ⟨Tryz.f108.name, by decide, Tryz.func108.trans (congrArg some (by kernel_rfl))⟩
  f14 := ⟨Tryz.f115.name, by decide, Tryz.func115.trans (congrArg some (by kernel_rfl))⟩
  f15 := Tryz.func116.trans (congrArg some (by kernel_rfl))
  f20 := ⟨Tryz.f120.name, by decide, Tryz.func120.trans (congrArg some (by kernel_rfl))⟩
  f21 := ⟨Tryz.f121.name, by decide, Tryz.func121.trans (congrArg some (by kernel_rfl))⟩
  f22 := ⟨Tryz.f122.name, by decide, Tryz.func122.trans (congrArg some (by kernel_rfl))⟩
  f23 := ⟨Tryz.f123.name, by decide, Tryz.func123.trans (congrArg some (by kernel_rfl))⟩
  f24 := ⟨Tryz.f124.name, by decide, Tryz.func124.trans (congrArg some (by kernel_rfl))⟩
  f25 := ⟨Tryz.f125.name, by decide, Tryz.func125.trans (congrArg some (by kernel_rfl))⟩
  f26 := ⟨Tryz.f126.name, by decide, Tryz.func126.trans (congrArg some (by kernel_rfl))⟩
  f27 := ⟨Tryz.f127.name, by decide, Tryz.func127.trans (congrArg some (by kernel_rfl))⟩
  f28 := Tryz.func128.trans (congrArg some (by kernel_rfl))
  f29 := Tryz.func129.trans (congrArg some (by kernel_rfl))
  f46 := ⟨Tryz.f132.name, by decide, Tryz.func132.trans (congrArg some (by kernel_rfl))⟩
  f47 := Tryz.func133.trans (congrArg some (by kernel_rfl))
  f48 := Tryz.func134.trans (congrArg some (by kernel_rfl))
  f49 := ⟨Tryz.f135.name, by decide, Tryz.func135.trans (congrArg some (by kernel_rfl))⟩
  f50 := ⟨Tryz.f136.name, by decide, Tryz.func136.trans (congrArg some (by kernel_rfl))⟩
  f57 := ⟨Tryz.f139.name, by decide, Tryz.func139.trans (congrArg some (by kernel_rfl))⟩
  t0 := Tryz.underlying0
  a0 := Tryz.isAgg0
  z0 := Tryz.sizeOf0
  v0 := Tryz.zeroValue0
  t3 := Tryz.underlying3
  a3 := Tryz.isAgg3
  z3 := Tryz.sizeOf3
  v3 := Tryz.zeroValue3
  t4 := Tryz.underlying4
  a4 := Tryz.isAgg4
  z4 := Tryz.sizeOf4
  v4 := Tryz.zeroValue4
  t5 := Tryz.underlying5
  a5 := Tryz.isAgg5
  z5 := Tryz.sizeOf5
  v5 := Tryz.zeroValue5
  t9 := Tryz.underlying9
  a9 := Tryz.isAgg9
  z9 := Tryz.sizeOf9
  v9 := Tryz.zeroValue9
  t22 := Tryz.underlying27
  a22 := Tryz.isAgg27
  z22 := Tryz.sizeOf27
  v22 := Tryz.zeroValue27
  a24 := Tryz.isAgg38
  z24 := Tryz.sizeOf38
  t25 := Tryz.underlying89
  a25 := Tryz.isAgg89
  z25 := Tryz.sizeOf89
  v25 := Tryz.zeroValue89
  t39 := Tryz.underlying130
  a39 := Tryz.isAgg130
  z39 := Tryz.sizeOf130
  v39 := Tryz.zeroValue130
  t45 := Tryz.underlying146
  a45 := Tryz.isAgg146
  z45 := Tryz.sizeOf146
  v45 := Tryz.zeroValue146
  t46 := Tryz.underlying147
  a46 := Tryz.isAgg147
  z46 := Tryz.sizeOf147
  v46 := Tryz.zeroValue147
  t50 := Tryz.underlying151
  a50 := Tryz.isAgg151
  z50 := Tryz.sizeOf151
  v50 := Tryz.zeroValue151
  t53 := Tryz.underlying154
  a53 := Tryz.isAgg154
  z53 := Tryz.sizeOf154
  v53 := Tryz.zeroValue154
  t55 := Tryz.underlying156
  a55 := Tryz.isAgg156
  z55 := Tryz.sizeOf156
  v55 := Tryz.zeroValue156
  t66 := Tryz.underlying158
  a66 := Tryz.isAgg158
  z66 := Tryz.sizeOf158
  v66 := Tryz.zeroValue158
  t70 := Tryz.underlying162
  a70 := Tryz.isAgg162
  z70 := Tryz.sizeOf162
  v70 := Tryz.zeroValue162
  t76 := Tryz.underlying164
  a76 := Tryz.isAgg164
  z76 := Tryz.sizeOf164
  v76 := Tryz.zeroValue164
  t77 := Tryz.underlying165
  a77 := Tryz.isAgg165
  z77 := Tryz.sizeOf165
  v77 := Tryz.zeroValue165 }
end Go.Proofs
end
section
namespace Go.Proofs.YtmjckdgomlppeaaGreatDoor
open Go.RowKit Go.Shelf Go.Sort

theorem info_row : (Tryz.prog.info? 38).map (fun i => (i.zero, i.size, i.bytes)) = some (some (.slice none 0 0), 1, 24) := by kernel_rfl

/-- append(nil, r...): a row of the call's own, behind whatever lay there. -/
theorem wpList_copyRow {ops : Array Oper} {rest : List Oper} {o : Oper} {a : Act} {Q : Exit → Act → World → Prop} (hgd : o.guard = none) (s x : Operand)
    (ho : o.op = .call { callee := .builtin .append, args := #[s, x], argTypes := #[38, 38] })
    (A : Option Addr) (c : Nat) (r : List Va) (W : World) (g : Nat) (hg : g < W.heap.size) (hs : a.eval s = .slice none 0 0) (hx : a.eval x = .slice A r.length c) (hr : RowAt W A r) (hA : A = none → c = 0) (hl : r.length ≤ 65536)
    (h : ∀ A' c' w', RowFrom w' g A' r → (A' = none → c' = 0) → Below W.heap.size W w' → wpList Tryz.prog ops Q rest (a.put o.dst (.slice A' r.length c')) w') :
    wpList Tryz.prog ops Q (o :: rest) a W := by
  obtain ⟨i0, hi, hz0, hz1, hz2⟩ := info_parts info_val
  have hnil := World.ownsRow_nil W W.heap.size 69 3
  cases r with
  | nil =>
    cases A with
    | none =>
      have hc := hA rfl
      subst hc
      exact wpList_append_own_none hgd s x 38 ho W.heap.size 69 i0 3 Tryz.underlying38 hi _ 0 [] hs hnil hx (h none 0 W (.inl rfl) (fun _ => rfl) (Below.refl _ _))
    | some ad =>
      refine wpList_append_own _ hgd s x 38 ho W.heap.size 69 i0 _ 3 32 Tryz.underlying38 hi hz0 hz1 hz2 rfl (by decide) _ 0 [] hs hnil ad 0 c [] hx rfl (by simp) (by simp) (by simp [maxLen]) (by omega) (Nat.le_refl _) ?_
      intro v' w' _ hgr hv
      obtain rfl := hv.2 ⟨rfl, rfl⟩
      exact h none 0 w' (.inl rfl) (fun _ => rfl) ((Below.refl _ W).grown hgr (Nat.le_refl _) (fun k hk => by simp [Value.ownBlock] at hk))
  | cons v r =>
    obtain ⟨b, off, rfl, _, _⟩ := hr.at (i := 0) (by simp)
    refine wpList_append_lies _ hgd s x 38 ho W.heap.size 69 i0 _ 3 32 Tryz.underlying38 hi hz0 hz1 hz2 rfl (by decide) _ 0 [] hs hnil ⟨b, off, none⟩ (v :: r).length c (rowList (v :: r)) hx (rowList_length _) (news_of_row hr) (oneCell_row _) (by simp) (by simp [maxLen] at hl ⊢; omega) (by omega) (Nat.le_refl _) _ rfl ?_
    intro g' cap w' hown hgr hat hlt
    have hB := (Below.refl W.heap.size W).grown hgr (Nat.le_refl _) (fun k hk => by simp [Value.ownBlock] at hk)
    rw [Nat.zero_add, List.nil_append] at hown
    have hrow := row_of_owns hown
    refine (congrArg (fun n => wpList Tryz.prog ops Q rest (a.put o.dst (.slice (some ⟨g', 0, none⟩) n cap)) w') (Nat.zero_add _)).mpr (h (some ⟨g', 0, none⟩) cap w' ?_ (fun hh => by cases hh) hB)
    have hg' : g' = W.heap.size := by
      rcases hat with hat | hat
      · simp [Value.ownBlock] at hat
      · exact hat
    rcases hrow with hrow | ⟨b', off', hA', hb', hc'⟩
    · exact .inl hrow
    · cases hA'
      exact .inr ⟨g', 0, rfl, by omega, hb', hc'⟩

/-- A list of rows that came in. -/
def ListAt (w : World) (B : Option Addr) (rs : List (List Va)) : Prop :=
  rs = [] ∨ ∃ b off : Nat, B = some ⟨b, off, none⟩ ∧ b < w.heap.size ∧ ∀ (i : Nat) (r : List Va), rs[i]? = some r → ∃ A c, w.cell? ⟨b, off + i, none⟩ = some (.slice A r.length c) ∧ RowAt w A r ∧ (A = none → c = 0)
theorem ListAt.at {w w' : World} {B : Option Addr} {rs : List (List Va)} (h : ListAt w B rs) (hb : Below w.heap.size w w') {i : Nat} {r : List Va} (hr : rs[i]? = some r) :
    ∃ b off : Nat, B = some ⟨b, off, none⟩ ∧ b < w.heap.size ∧ ∃ A c, w'.cell? ⟨b, off + i, none⟩ = some (.slice A r.length c) ∧ RowAt w' A r ∧ (A = none → c = 0) := by
  rcases h with h | ⟨b, off, hB, hlt, hc⟩
  · subst h; simp at hr
  · obtain ⟨A, c, hcell, hrow, hA⟩ := hc i r hr
    exact ⟨b, off, hB, hlt, A, c, (hb.cell (p := ⟨b, _, none⟩) hlt).trans hcell, hrow.kept hb, hA⟩

/-- Block g is just these values. -/
def Out (w : World) (g : Nat) (vs : List Value) : Prop := w.heap[g]? = some (.cells vs.toArray 38 (0, 0))
theorem Out.lt {w : World} {g : Nat} {vs : List Value} (h : Out w g vs) : g < w.heap.size := by
  rcases Nat.lt_or_ge g w.heap.size with hl | hg
  · exact hl
  · unfold Out at h; rw [Array.getElem?_eq_none hg] at h; cases h
theorem Out.cell {w : World} {g : Nat} {vs : List Value} (h : Out w g vs) (i : Nat) : w.cell? ⟨g, i, none⟩ = vs[i]? := by
  unfold Out at h; simp [World.cell?, h]
theorem Out.free {w : World} {g : Nat} {vs : List Value} (h : Out w g vs) (i : Nat) : w.frozen? ⟨g, i, none⟩ = false := by
  unfold Out at h; simp [World.frozen?, h]
theorem Out.kept {w w' : World} {g : Nat} {vs : List Value} (h : Out w g vs) (hb : Below w.heap.size w w') : Out w' g vs := (hb.block g h.lt).trans h
theorem Out.put {w : World} {g : Nat} {vs : List Value} (h : Out w g vs) (i : Nat) (v : Value) : Out (w.setCell ⟨g, i, none⟩ v) g (vs.set i v) := by
  unfold Out at h ⊢
  simp [World.setCell, Array.getElem?_modify, h]

/-- The list that Sort copies: j rows are copied. -/
def Copied (w : World) (g j : Nat) (rs : List (List Va)) (vs : List Value) : Prop :=
  Out w g vs ∧ vs.length = rs.length ∧ ∀ (i : Nat) (r : List Va), i < j → rs[i]? = some r → ∃ A c, vs[i]? = some (.slice A r.length c) ∧ RowFrom w g A r ∧ (A = none → c = 0)
theorem Copied.lt {w : World} {g j : Nat} {rs : List (List Va)} {vs : List Value} (h : Copied w g j rs vs) : g < w.heap.size := h.1.lt
theorem Copied.next {w w' : World} {g j : Nat} {rs : List (List Va)} {vs : List Value} (h : Copied w g j rs vs) (hb : Below w.heap.size w w') {r : List Va} (hr : rs[j]? = some r) {A : Option Addr} (c : Nat) (hf : RowFrom w' g A r) (hA : A = none → c = 0) :
    Copied (w'.setCell ⟨g, j, none⟩ (.slice A r.length c)) g (j + 1) rs (vs.set j (.slice A r.length c)) := by
  refine ⟨(h.1.kept hb).put j _, by simp [h.2.1], fun i r' hi hr' => ?_⟩
  by_cases e : i = j
  · subst e
    rw [hr] at hr'
    cases hr'
    have hj : i < vs.length := by rw [h.2.1]; exact (List.getElem?_eq_some_iff.1 hr).1
    exact ⟨A, c, by simp [hj], hf.others (others_set _ _), hA⟩
  · obtain ⟨A', c', hv, hf', hA'⟩ := h.2.2 i r' (by omega) hr'
    exact ⟨A', c', by rw [List.getElem?_set_ne (Ne.symm e)]; exact hv, (hf'.others (others_below hb)).others (others_set _ _), hA'⟩
theorem Copied.vals {w : World} {g : Nat} {rs : List (List Va)} {vs : List Value} (h : Copied w g rs.length rs vs) : Vals w g vs rs :=
  ⟨h.2.1, fun i r hr => h.2.2 i r (List.getElem?_eq_some_iff.1 hr).1 hr⟩

/-- The end of Sort: the rows in order, each in memory of its own. -/
def SortEnd (w : World) (rs : List (List Va)) (e : Ending) (w' : World) : Prop :=
  ∃ g rs', e = .returned (.slice (some ⟨g, 0, none⟩) rs.length rs.length) ∧ ListAt w' (some ⟨g, 0, none⟩) rs' ∧ rs'.Perm rs ∧ rs'.Pairwise (fun a b => cmpR a b ≤ 0) ∧ Below w.heap.size w w'

theorem made_list (n : Nat) : madeCells #[(.slice none 0 0 : Value)] n = (List.replicate n (.slice none 0 0)).toArray := by
  apply Array.ext'
  apply List.ext_getElem?
  intro i
  by_cases hi : i < n
  · simp [madeCells, hi, Nat.mod_one]
  · simp [madeCells, hi]

theorem map_range_getD (rs : List (List Va)) : (List.range rs.length).map (fun i => rs.getD i []) = rs := by
  apply List.ext_getElem?
  intro i
  by_cases hi : i < rs.length
  · simp [hi, List.getD]
  · simp [hi]

theorem sort_end (w W : World) (g : Nat) (vs : List Value) (rs : List (List Va)) (hg : w.heap.size ≤ g) (hgl : g < W.heap.size) (hX : Holds (encL vs) W g 0 (Array.range rs.length)) (hV : Vals W g vs rs) (hB : Go.RowKit.Below w.heap.size w W)
    (d' : Array Nat) (n' : Nat) (os : Array Obj) (hp : PermIn 0 rs.length (Array.range rs.length) d') (hs : SortedIn (ltOf (cfL rs)) 0 rs.length d') :
    SortEnd w rs (.returned (.slice (some ⟨g, 0, none⟩) rs.length rs.length)) (sortWorld (encL vs) W g 0 n' d' os) := by
  have hsz : d'.size = rs.length := by have := hp.1; simpa using this
  have hO := others_sort (encL vs) W g 0 n' d' os
  have hH : Holds (encL vs) (sortWorld (encL vs) W g 0 n' d' os) g 0 d' := SW.holds ⟨n', os, rfl⟩ hgl hX (by simpa using hsz)
  refine ⟨g, d'.toList.map (fun i => rs.getD i []), rfl, .inr ⟨g, 0, rfl, Nat.lt_of_lt_of_le hgl hO.1, ?_⟩, ?_, ?_, below_sort _ _ _ _ _ _ hB hg⟩
  · intro i r hr
    rw [List.getElem?_map] at hr
    obtain ⟨k, hk, rfl⟩ := Option.map_eq_some_iff.1 hr
    rw [Array.getElem?_toList] at hk
    have hi : i < d'.size := (Array.getElem?_eq_some_iff.1 hk).1
    have e : d'[i]! = k := by rw [getElem!_pos d' i hi]; exact (Array.getElem?_eq_some_iff.1 hk).2
    obtain ⟨A, c, hv, hf, hA⟩ := hV.enc k
    refine ⟨A, c, ?_, (hf.others hO).row, hA⟩
    rw [(hH i hi).1, e, hv]
  · have h1 : (d'.extract 0 rs.length).toList = d'.toList := by rw [← hsz]; simp
    have h2 : ((Array.range rs.length).extract 0 rs.length).toList = List.range rs.length := by
      have : (Array.range rs.length).extract 0 rs.length = Array.range rs.length := by
        conv => lhs; rw [show rs.length = (Array.range rs.length).size by simp]
        simp
      rw [this]; simp
    have hperm := hp.2.2
    rw [h1, h2] at hperm
    have := hperm.map (fun i => rs.getD i [])
    rwa [map_range_getD] at this
  · rw [List.pairwise_map, List.pairwise_iff_getElem]
    intro i j hi hj hij
    have hj' : j < d'.size := by simpa using hj
    have h := hs i j (Nat.zero_le _) hij (by omega)
    rw [getElem!_pos d' j hj', getElem!_pos d' i (by omega)] at h
    have h' : ¬ cmpR (rs.getD d'[j] []) (rs.getD d'[i] []) < 0 := of_decide_eq_false h
    have ha := cmpR_anti (rs.getD d'[i] []) (rs.getD d'[j] [])
    show cmpR (rs.getD d'[i] []) (rs.getD d'[j] []) ≤ 0
    omega

set_option maxRecDepth 100000 in
set_option maxHeartbeats 2000000 in
theorem sort_any (B : Option Addr) (cB : Nat) (rs : List (List Va)) (w : World) (h : ListAt w B rs) (hn : rs.length ≤ 65536) (hl : ∀ r ∈ rs, r.length ≤ 65536) :
    Calls Tryz.prog 91 #[.slice B rs.length cB] w (SortEnd w rs) := by
  have hmk := run_make_row' (P := Tryz.prog) 27 38 (.slice none 0 0) 24 Tryz.underlying27 info_row rfl .i64 .i64 rs.length (by omega) (by omega)
  rw [made_list, List.toArray_replicate] at hmk
  go_enter Tryz.func91, Tryz.ntmps91
  go_wp2_with fail
  have hC0 : Copied (w.alloc (.cells (Array.replicate rs.length (.slice none 0 0)) 38)) w.heap.size 0 rs (List.replicate rs.length (.slice none 0 0)) :=
    ⟨by unfold Out; rw [List.toArray_replicate]; exact heap_alloc_new w _, by simp, fun i r hi => by omega⟩
  have hB0 := ba w (.cells (Array.replicate rs.length (.slice none 0 0)) 38)
  generalize w.alloc (.cells (Array.replicate rs.length (.slice none 0 0)) 38) = W at hC0 hB0 ⊢
  clear hmk
  have HL := Lib.hid h
  have HM := Lib.hid hl
  clear h hl
  go_loopw [11] (fun i wr => ∃ j : Nat, j ≤ rs.length ∧ i = .int .i64 j ∧ Hid (Below w.heap.size w wr) ∧ Hid (∃ vs, Copied wr w.heap.size j rs vs)) (fun i _ => rs.length - (intOf i).toNat)
  case atStart => exact ⟨0, Nat.zero_le _, rfl, Lib.hid hB0, Lib.hid ⟨_, hC0⟩⟩
  case round =>
    obtain ⟨j, hj, rfl, HB, HC⟩ := hrel
    clear hC0 hB0
    obtain ⟨vs, hC⟩ := HC.out
    have HC := Lib.hid hC
    have hgl := hC.lt
    clear hC
    by_cases hlt : j < rs.length
    · obtain ⟨b, off, rfl, hb, A, c, c0, hrow, hA⟩ := HL.out.at HB.out (List.getElem?_eq_getElem hlt)
      have HR := Lib.hid (List.getElem?_eq_getElem hlt)
      have hrl := HM.out rs[j] (List.getElem_mem hlt)
      generalize rs[j] = r at c0 hrow HR hrl
      have HW := Lib.hid hrow
      clear hrow
      go_wp2_with (at_builtin; refine wpList_copyRow rfl _ _ rfl A c r _ w.heap.size hgl rfl rfl HW.out hA hrl ?_)
      intro A' c' w2 hf hA' hb2
      have hOut := HC.out.1.kept hb2
      have hjv : j < vs.length := by rw [HC.out.2.1]; exact hlt
      have d0 := (hOut.cell j).trans (List.getElem?_eq_getElem hjv)
      have f0 := hOut.free j
      have HN := Lib.hid (HC.out.next hb2 HR.out c' hf hA')
      have HB2 := Lib.hid ((bt HB.out hb2).setCell (p := ⟨w.heap.size, j, none⟩) (Nat.le_refl _) (.slice A' r.length c'))
      clear hOut hf hb2
      generalize vs[j] = v0 at d0
      go_wp2_with fail
      go_roundw
      case rel => exact ⟨j + 1, by omega, by go_num, HB2, Lib.hid ⟨_, HN.out⟩⟩
      case measure => simp [intOf]; omega
    · obtain rfl : j = rs.length := by omega
      have hV := HC.out.vals
      have hout := HC.out.1
      have hvl := HC.out.2.1
      have eg : ∀ args w, (callFunc 109 args).run Tryz.prog w = .ok (.enter 109 args) w := enters_of Tryz.func109 (by kernel_rfl) rfl
      have hsize : (Array.range rs.length).size = rs.length := by simp
      have hcm := cmpLays vs rs w.heap.size wr hV HM.out
      rw [hvl, ← hsize] at hcm
      have hH : Holds (encL vs) wr w.heap.size 0 (Array.range rs.length) := by
        intro i hi
        rw [hsize] at hi
        refine ⟨?_, by rw [Nat.zero_add]; exact hout.free i⟩
        have e : (Array.range rs.length)[i]! = i := by
          rw [getElem!_pos _ i (by simpa using hi)]; simp
        rw [Nat.zero_add, hout.cell, e]
        simp [encL, List.getD, List.getElem?_eq_getElem (show i < vs.length by omega)]
      have hcon := Any.slices_SortFunc Tryz.sortf (encL vs) (encL_one hV) (cfL rs) (swoL rs) 109 #[] w.heap.size 0 rs.length (Array.range rs.length) wr eg hcm hH hgl (by rw [hsize]; omega)
      rw [hsize] at hcon
      change Calls Tryz.prog 108 _ _ _ at hcon
      have HH := Lib.hid hcon
      have HX := Lib.hid hH
      clear hcon hH hcm
      have HV := Lib.hid hV
      clear hV hout
      go_wp2_with fail
      refine HH.out.mono ?_
      rintro e w2 ⟨rfl, d', n', os, hp, hs, rfl⟩
      go_wp2_with fail
      go_ret
      exact sort_end w wr w.heap.size vs rs (Nat.le_refl _) hgl HX.out HV.out HB.out d' n' os hp hs

end Go.Proofs.YtmjckdgomlppeaaGreatDoor
end
section
namespace Go.Proofs.YtmjckdgomlppeaaGreatDoor
open Go.RowKit Go.Shelf
attribute [local go_sem] Oper.semAt_some

/-- Columns that a call has made: in memory of their own. -/
def CoNew (base : Nat) (l : List Co) (v : Value) (W : World) : Prop := ∃ A c, v = .slice A l.length c ∧ CoOwn W base v l ∧ CoAt W A l ∧ l.length ≤ c ∧ c ≤ 9223372036854775807 ∧ (A = none → c = 0)
theorem CoNew.of {base : Nat} {l : List Co} {v : Value} {W : World} (h : CoOwn W base v l) : CoNew base l v W := by
  obtain ⟨A, c, e, h1, h2, h3⟩ := h.at
  refine ⟨A, c, e, h, h3, h1, h2, fun hA => ?_⟩
  subst hA
  rcases h.2 with ⟨rfl, _⟩ | ⟨g, cap, cur, rfl, _⟩
  · exact (Value.slice.inj e).2.2.symm
  · exact absurd (Value.slice.inj e).1 (by simp)
theorem CoNew.keeps (base : Nat) (l : List Co) : Keeps Bel (CoNew base l) := fun v w w' hb h => by
  obtain ⟨A, c, e, h1, h2, h3, h4, h5⟩ := h
  exact ⟨A, c, e, h1.kept hb, h2.kept hb, h3, h4, h5⟩
theorem wp_copyCols {o : Oper} {a : Act} {Q : Exit → Act → World → Prop} {W : World} {K : Act → World → Prop} (s x : Operand)
    (ho : o.op = .call { callee := .builtin .append, args := #[s, x], argTypes := #[26, 26] })
    (base : Nat) (hbase : base ≤ W.heap.size) (A : Option Addr) (c : Nat) (l : List Co) (hs : a.eval s = .slice none 0 0) (hx : a.eval x = .slice A l.length c) (hC : CoAt W A l) (hA : A = none → c = 0) (hl : l.length ≤ 65536)
    (h : ∀ v' w', CoNew base l v' w' → Below W.heap.size W w' → K (a.put o.dst v') w') : o.wp Tryz.prog a W K Q := by
  obtain ⟨i0, hi, hz0, hz1, hz2⟩ := info_parts info_colT
  have hnil := World.ownsRow_nil W base 57 3
  cases A with
  | none =>
    obtain rfl : l = [] := by
      rcases hC with h | ⟨_, _, e, _⟩
      · exact h
      · cases e
    obtain rfl : c = 0 := hA rfl
    have hr := run_append_owned_none (P := Tryz.prog) (w := W) base 26 o.type 57 i0 3 Tryz.underlying26 hi (.slice none 0 0) 0 [] hnil
    unfold Oper.wp execOp
    simp only [ho, resolve, invoke, builtin, Sem.run_bind, Sem.run_pure, Result.andThen_ok, List.map_toArray, List.map_cons, List.map_nil, hs, hx, List.length_nil, hr]
    exact h _ W (CoNew.of hnil) (Below.refl _ _)
  | some ad =>
    refine wp_append_own W s x 26 ho base 57 i0 _ 3 40 Tryz.underlying26 hi hz0 hz1 hz2 rfl (by decide) _ 0 [] hs hnil ad l.length c (coC l) hx (coC_len _) hC.news (fun u hu => coC_one hu) (by unfold maxLen; omega) (by omega) hbase ?_
    intro v' w' hown hg _
    have hB := (Below.refl W.heap.size W).grown hg (Nat.le_refl _) (fun k hk => by simp [Value.ownBlock] at hk)
    rw [Nat.zero_add, List.nil_append] at hown
    exact h v' w' (CoNew.of hown) hB
section
variable {o : Oper} {a : Act} {w : World}
theorem run_faT0 {x : Operand} (ho : o.op = .fieldAddr 29 x 0) {u : Nat} (hx : a.eval x = .pointer (some ⟨u, 0, none⟩)) : (execOp a.eval o).run Tryz.prog w = .ok (.value (.pointer (some ⟨u, 0, none⟩))) w := by
  have h : (Instr.fieldAt 29 (.pointer (some ⟨u, 0, none⟩)) 0).run Tryz.prog w = .ok (.pointer (some ⟨u, 0, none⟩)) w := by go_simp
  unfold execOp
  simp only [ho, hx]
  rw [Sem.run_bind, h]
  rfl
theorem run_faT1 {x : Operand} (ho : o.op = .fieldAddr 29 x 1) {u : Nat} (hx : a.eval x = .pointer (some ⟨u, 0, none⟩)) : (execOp a.eval o).run Tryz.prog w = .ok (.value (.pointer (some ⟨u, 1, none⟩))) w := by
  have h : (Instr.fieldAt 29 (.pointer (some ⟨u, 0, none⟩)) 1).run Tryz.prog w = .ok (.pointer (some ⟨u, 1, none⟩)) w := by go_simp
  unfold execOp
  simp only [ho, hx]
  rw [Sem.run_bind, h]
  rfl
theorem run_ldSt {x : Operand} (ho : o.op = .load 9 x) {u p : Nat} {s : ByteArray} (hx : a.eval x = .pointer (some ⟨u, p, none⟩)) (hc : w.cell? ⟨u, p, none⟩ = some (.string s)) : (execOp a.eval o).run Tryz.prog w = .ok (.value (.string s)) w := by
  have h : (Instr.loadAt 9 (.pointer (some ⟨u, p, none⟩))).run Tryz.prog w = .ok (.string s) w := by go_simp
  unfold execOp
  simp only [ho, hx]
  rw [Sem.run_bind, h]
  rfl
theorem run_ldCs {x : Operand} (ho : o.op = .load 26 x) {u p : Nat} {A : Option Addr} {n c : Nat} (hx : a.eval x = .pointer (some ⟨u, p, none⟩)) (hc : w.cell? ⟨u, p, none⟩ = some (.slice A n c)) : (execOp a.eval o).run Tryz.prog w = .ok (.value (.slice A n c)) w := by
  have h : (Instr.loadAt 26 (.pointer (some ⟨u, p, none⟩))).run Tryz.prog w = .ok (.slice A n c) w := by go_simp
  unfold execOp
  simp only [ho, hx]
  rw [Sem.run_bind, h]
  rfl
theorem run_mkT {x y z : Operand} (ho : o.op = .build 29 #[(0, x), (1, y), (2, z)]) {s : ByteArray} {A B : Option Addr} {n c m d : Nat} (hx : a.eval x = .string s) (hy : a.eval y = .slice A n c) (hz : a.eval z = .slice B m d) :
    (execOp a.eval o).run Tryz.prog w = .ok (.value (TV s A n c B m d)) w := by
  have h : (Instr.build 29 #[(0, .string s), (1, .slice A n c), (2, .slice B m d)]).run Tryz.prog w = .ok (TV s A n c B m d) w := by
    go_simp
  unfold execOp
  simp only [ho, List.map_toArray, List.map_cons, List.map_nil, hx, hy, hz]
  rw [Sem.run_bind, h]
  rfl
end
/-- A table in a value: a copy of its columns, its rows at g. -/
def TabV (nm : ByteArray) (cols : List Co) (g n : Nat) (v : Value) (W : World) : Prop := ∃ A c, v = TV nm A cols.length c (some ⟨g, 0, none⟩) n n ∧ CoAt W A cols ∧ cols.length ≤ c ∧ c ≤ 9223372036854775807 ∧ (A = none → c = 0)
theorem TabV.keeps (nm : ByteArray) (cols : List Co) (g n : Nat) : Keeps Bel (TabV nm cols g n) := fun _ _ _ hb ⟨A, c, e, h, h1, h2, h3⟩ => ⟨A, c, e, h.kept hb, h1, h2, h3⟩
abbrev putT (w : World) (u : Nat) (s : ByteArray) (A : Option Addr) (n c : Nat) (B : Option Addr) (m d : Nat) : World := ((w.setCell ⟨u, 0, none⟩ (.string s)).setCell ⟨u, 1, none⟩ (.slice A n c)).setCell ⟨u, 2, none⟩ (.slice B m d)
theorem putT_others {w : World} {u : Nat} (k : Nat) (hk : k ≠ u) (s : ByteArray) (A : Option Addr) (n c : Nat) (B : Option Addr) (m d : Nat) : (putT w u s A n c B m d).heap[k]? = w.heap[k]? := by
  simp [putT, World.setCell, Array.getElem?_modify, Ne.symm hk]
section
variable {w : World} {u : Nat} {T : TypeId} {x0 x1 x2 : Value}
theorem putT_cells (h : w.heap[u]? = some (.cells #[x0, x1, x2] T)) (s : ByteArray) (A : Option Addr) (n c : Nat) (B : Option Addr) (m d : Nat) :
    (putT w u s A n c B m d).cell? ⟨u, 0, none⟩ = some (.string s) ∧ (putT w u s A n c B m d).cell? ⟨u, 1, none⟩ = some (.slice A n c) ∧ (putT w u s A n c B m d).cell? ⟨u, 2, none⟩ = some (.slice B m d) := by
  have h' := (Array.getElem?_eq_some_iff.1 h)
  refine ⟨?_, ?_, ?_⟩ <;> simp [putT, World.cell?, World.setCell, Array.getElem?_modify, h]
theorem putT_below {B0 : Nat} {w0 : World} (hb : Below B0 w0 w) (hu : B0 ≤ u) (s : ByteArray) (A : Option Addr) (n c : Nat) (B : Option Addr) (m d : Nat) : Below B0 w0 (putT w u s A n c B m d) :=
  ((hb.setCell (p := ⟨u, 0, none⟩) hu _).setCell (p := ⟨u, 1, none⟩) hu _).setCell (p := ⟨u, 2, none⟩) hu _
theorem putT_size (s : ByteArray) (A : Option Addr) (n c : Nat) (B : Option Addr) (m d : Nat) : (putT w u s A n c B m d).heap.size = w.heap.size := by simp [putT, World.setCell]
end
theorem no_int {w : World} {u o : Nat} {s : ByteArray} {A B : Option Addr} {n c m d : Nat} {T : TypeId} {k : Int} (h : w.heap[u]? = some (.cells #[.string s, .slice A n c, .slice B m d] T)) (hc : w.cell? ⟨u, o, none⟩ = some (.int .i64 k)) : False := by
  simp only [World.cell?, h] at hc
  match o, hc with
  | 0, hc => cases hc
  | 1, hc => cases hc
  | 2, hc => cases hc
  | o + 3, hc => simp at hc
theorem putT_cell {w : World} {u b o : Nat} (hb : b ≠ u) (s : ByteArray) (A : Option Addr) (n c : Nat) (B : Option Addr) (m d : Nat) : (putT w u s A n c B m d).cell? ⟨b, o, none⟩ = w.cell? ⟨b, o, none⟩ :=
  World.cell?_of_block (putT_others b hb s A n c B m d)
theorem putT_co {w : World} {u : Nat} {T : TypeId} {s0 : ByteArray} {A0 B0 : Option Addr} {n0 c0 m0 d0 : Nat} (h : w.heap[u]? = some (.cells #[.string s0, .slice A0 n0 c0, .slice B0 m0 d0] T)) {A1 : Option Addr} {l : List Co} (hc : CoAt w A1 l) (s : ByteArray) (A : Option Addr) (n c : Nat) (B : Option Addr) (m d : Nat) : CoAt (putT w u s A n c B m d) A1 l := by
  rcases hc with hc | ⟨b, off, hA, hb, hc⟩
  · exact .inl hc
  · cases l with
    | nil => exact .inl rfl
    | cons x r =>
      have hne : b ≠ u := by
        rintro rfl
        exact no_int h (hc 0 x rfl).2.2
      refine .inr ⟨b, off, hA, by rw [putT_size]; exact hb, fun i v hv => ?_⟩
      rw [putT_cell hne, putT_cell hne, putT_cell hne]
      exact hc i v hv
theorem putT_row {w : World} {u : Nat} {T : TypeId} {s0 : ByteArray} {A0 B0 : Option Addr} {n0 c0 m0 d0 : Nat} (h : w.heap[u]? = some (.cells #[.string s0, .slice A0 n0 c0, .slice B0 m0 d0] T)) {A1 : Option Addr} {l : List Va} (hc : RowAt w A1 l) (s : ByteArray) (A : Option Addr) (n c : Nat) (B : Option Addr) (m d : Nat) : RowAt (putT w u s A n c B m d) A1 l := by
  rcases hc with hc | ⟨b, off, hA, hb, hc⟩
  · exact .inl hc
  · cases l with
    | nil => exact .inl rfl
    | cons x r =>
      have hne : b ≠ u := by
        rintro rfl
        exact no_int h (hc 0 x rfl).1
      refine .inr ⟨b, off, hA, by rw [putT_size]; exact hb, fun i v hv => ?_⟩
      rw [putT_cell hne, putT_cell hne, putT_cell hne]
      exact hc i v hv
theorem putT_rows {w : World} {u g : Nat} {T : TypeId} {s0 : ByteArray} {A0 B0 : Option Addr} {n0 c0 m0 d0 : Nat} (h : w.heap[u]? = some (.cells #[.string s0, .slice A0 n0 c0, .slice B0 m0 d0] T)) {l : List (List Va)} (hc : RowsAt w (some ⟨g, 0, none⟩) l) (hg : g ≠ u) (s : ByteArray) (A : Option Addr) (n c : Nat) (B : Option Addr) (m d : Nat) : RowsAt (putT w u s A n c B m d) (some ⟨g, 0, none⟩) l := by
  rcases hc with hc | ⟨b, off, hA, hb, hc⟩
  · exact .inl hc
  · simp only [Option.some.injEq, Addr.mk.injEq] at hA
    obtain ⟨rfl, rfl, _⟩ := hA
    refine .inr ⟨g, 0, rfl, by rw [putT_size]; exact hb, fun i r hr => ?_⟩
    obtain ⟨A2, c2, h1, h2, h3⟩ := hc i r hr
    exact ⟨A2, c2, by rw [putT_cell hg]; exact h1, putT_row h h2 s A n c B m d, h3⟩
theorem wp_putT {o : Oper} {a : Act} {w : World} {K : Act → World → Prop} {Q : Exit → Act → World → Prop} (x y : Operand) (ho : o.op = .store 29 x y) {u : Nat} {s : ByteArray} {A B : Option Addr} {n c m d : Nat} {T : TypeId} {x0 x1 x2 : Value}
    (hx : a.eval x = .pointer (some ⟨u, 0, none⟩)) (hy : a.eval y = TV s A n c B m d) (hb : w.heap[u]? = some (.cells #[x0, x1, x2] T))
    (h : K (a.put o.dst undef) (putT w u s A n c B m d)) : o.wp Tryz.prog a w K Q := by
  refine wp_store_mid (P := Tryz.prog) 29 x y ho u 0 #[.string s, .slice A n c, .slice B m d] hx hy ?_ (by kernel_rfl) (by simp [Value.oneCell']) ?_
  · intro j hj
    match j, hj with
    | 0, _ => exact ⟨by simp [World.cell?, hb], by simp [World.frozen?, hb]⟩
    | 1, _ => exact ⟨by simp [World.cell?, hb], by simp [World.frozen?, hb]⟩
    | 2, _ => exact ⟨by simp [World.cell?, hb], by simp [World.frozen?, hb]⟩
    | j + 3, hj => simp at hj; omega
  · exact h
theorem rowsAt_copied {w : World} {g : Nat} {rs : List (List Va)} {vs : List Value} (h : Copied w g rs.length rs vs) : RowsAt w (some ⟨g, 0, none⟩) rs := by
  refine .inr ⟨g, 0, rfl, h.lt, fun i r hr => ?_⟩
  have hi := (List.getElem?_eq_some_iff.1 hr).1
  obtain ⟨A, c, hv, hf, hA⟩ := h.2.2 i r hi hr
  exact ⟨A, c, by rw [Nat.zero_add, h.1.cell, hv], hf.row, hA⟩
/-- A copy of a table, in memory of its own. -/
def CopyT (w : World) (t : Ta) (v : Value) (w' : World) : Prop := ∃ A c g d, v = TV t.nm A t.cols.length c (some ⟨g, 0, none⟩) t.rows.length d ∧ TaOk w' t A c (some ⟨g, 0, none⟩) d ∧ w.heap.size ≤ g ∧ Below w.heap.size w w'
set_option maxRecDepth 100000 in
set_option maxHeartbeats 4000000 in
theorem copyOf_any (t : Ta) (A B : Option Addr) (c d : Nat) (wq : World) (h : TaOk wq t A c B d) (hcl : t.cols.length ≤ 65536) (hn : t.rows.length ≤ 65536) (hl : ∀ r ∈ t.rows, r.length ≤ 65536) :
    Calls Tryz.prog 32 #[TV t.nm A t.cols.length c B t.rows.length d] wq fun e wq' => ∃ v, e = .returned v ∧ CopyT wq t v wq' := by
  have hmk := run_make_row' (P := Tryz.prog) 27 38 (.slice none 0 0) 24 Tryz.underlying27 info_row rfl .i64 .i64 t.rows.length (by omega) (by omega)
  rw [made_list, List.toArray_replicate] at hmk
  have h1 := ba wq (tbox t.nm A t.cols.length c B t.rows.length d)
  have h2 := ba (wq.alloc (tbox t.nm A t.cols.length c B t.rows.length d)) (tbox ⟨#[]⟩ none 0 0 none 0 0)
  have HX := Lib.hid ((h2.block wq.heap.size (by simp)).trans (MapKept.heap_alloc wq (tbox t.nm A t.cols.length c B t.rows.length d)).1)
  have HZ := Lib.hid (show ((wq.alloc (tbox t.nm A t.cols.length c B t.rows.length d)).alloc (tbox ⟨#[]⟩ none 0 0 none 0 0)).heap[wq.heap.size + 1]? = some (tbox ⟨#[]⟩ none 0 0 none 0 0) by
    have := (MapKept.heap_alloc (wq.alloc (tbox t.nm A t.cols.length c B t.rows.length d)) (tbox ⟨#[]⟩ none 0 0 none 0 0)).1
    rwa [World.size_alloc] at this)
  have HB := Lib.hid (bt h1 h2)
  have HC := Lib.hid (h.co.kept (bt h1 h2))
  have HR := Lib.hid (h.ro.kept (bt h1 h2))
  have HCn := Lib.hid h.cn
  have HM := Lib.hid hl
  have HCl := Lib.hid hcl
  have HSz := Lib.hid (show wq.heap.size + 2 ≤ ((wq.alloc (tbox t.nm A t.cols.length c B t.rows.length d)).alloc (tbox ⟨#[]⟩ none 0 0 none 0 0)).heap.size by simp)
  clear h h1 h2 hl hcl
  obtain ⟨nm, cols, rows⟩ := t
  simp only at hmk hn HX HZ HB HC HR HM HCl HSz ⊢
  go_enter Tryz.func32, Tryz.ntmps32
  go_upto_region 1 with fail
  generalize (wq.alloc (.cells #[.string nm, .slice A cols.length c, .slice B rows.length d] 29)).alloc (.cells #[.string ⟨#[]⟩, .slice none 0 0, .slice none 0 0] 29) = W0 at HX HZ HB HC HR HSz ⊢
  obtain ⟨x0, x1, x2⟩ := cell3 HX.out
  go_upto_region 2 with fail
  have hk2 : Copied (W0.alloc (.cells (Array.replicate rows.length (.slice none 0 0)) 38)) W0.heap.size 0 rows (List.replicate rows.length (.slice none 0 0)) :=
    ⟨by unfold Out; rw [List.toArray_replicate]; exact heap_alloc_new W0 _, by simp, fun i r hi => by omega⟩
  have hb2 := ba W0 (.cells (Array.replicate rows.length (.slice none 0 0)) 38)
  have HK2 := Lib.hid hk2
  have HB2 := Lib.hid hb2
  have HX1 := Lib.hid ((hb2.block _ (Array.getElem?_eq_some_iff.1 HX.out).1).trans HX.out)
  clear hk2 hb2 x0 x1 x2 hmk
  generalize W0.alloc (.cells (Array.replicate rows.length (.slice none 0 0)) 38) = W1 at HK2 HB2 HX1 ⊢
  obtain ⟨x0, x1, x2⟩ := cell3 HX1.out
  obtain ⟨g, hg⟩ : ∃ g, W0.heap.size = g := ⟨_, rfl⟩
  rw [hg] at HK2 ⊢
  have HG := Lib.hid hg
  clear hg
  go_wp2_with fail
  clear x0 x1 x2
  go_loopw [13] (fun i wr => ∃ j : Nat, j ≤ rows.length ∧ i = .int .i64 j ∧ Hid (Below W0.heap.size W0 wr) ∧ Hid (∃ vs, Copied wr g j rows vs)) (fun i _ => rows.length - (intOf i).toNat)
  case atStart => exact ⟨0, Nat.zero_le _, rfl, HB2, Lib.hid ⟨_, HK2.out⟩⟩
  case round =>
    obtain ⟨j, hj, rfl, HBr, HCr⟩ := hrel
    obtain ⟨vs, hC⟩ := HCr.out
    have HCr := Lib.hid hC
    have hgl := hC.lt
    clear hC
    by_cases hlt : j < rows.length
    · obtain ⟨b, off, rfl, hb, A', c', c0, hrow, _, hA⟩ := HR.out.at HBr.out hlt
      have HRj := Lib.hid (List.getElem?_eq_getElem hlt)
      have hrl := HM.out rows[j] (List.getElem_mem hlt)
      generalize rows[j] = r at c0 hrow HRj hrl
      have HW := Lib.hid hrow
      clear hrow
      go_wp2_with (at_builtin; refine wpList_copyRow rfl _ _ rfl A' c' r _ g hgl rfl rfl HW.out hA hrl ?_)
      intro A2 c2 w2 hf hA' hb2
      have hOut := HCr.out.1.kept hb2
      have hjv : j < vs.length := by rw [HCr.out.2.1]; exact hlt
      have d0 := (hOut.cell j).trans (List.getElem?_eq_getElem hjv)
      have f0 := hOut.free j
      have HN := Lib.hid (HCr.out.next hb2 HRj.out c2 hf hA')
      have HB3 := Lib.hid ((bt HBr.out hb2).setCell (p := ⟨g, j, none⟩) (by rw [HG.out]; exact Nat.le_refl _) (.slice A2 r.length c2))
      clear hOut hf hb2
      generalize vs[j] = v0 at d0
      go_wp2_with fail
      go_roundw
      case rel => exact ⟨j + 1, by omega, by go_num, HB3, Lib.hid ⟨_, HN.out⟩⟩
      case measure => simp [intOf]; omega
    · obtain rfl : j = rows.length := by omega
      have HR2 := Lib.hid (rowsAt_copied HCr.out)
      have HC2 := Lib.hid (HC.out.kept HBr.out)
      have hX2 := (HBr.out.block _ (Array.getElem?_eq_some_iff.1 HX.out).1).trans HX.out
      have HZ2 := Lib.hid ((HBr.out.block _ (Array.getElem?_eq_some_iff.1 HZ.out).1).trans HZ.out)
      have HXl := Lib.hid (Array.getElem?_eq_some_iff.1 hX2).1
      have HBw := Lib.hid (bt HB.out HBr.out)
      obtain ⟨y0, y1, _⟩ := cell3 hX2
      clear hX2 hlt hj
      go_upto_region 7 with fail
      refine wp_region_inv (n := 7) (ds := [some 24, some 25, some 26, some 27, some 28, some 29, some 30, none]) (need := [[], [0], [], [2], [3], [], [1, 4, 5], [0, 1, 2, 3, 4, 5, 6]]) (R := Bel) (Gs := [
          (fun v _ => v = .pointer (some ⟨wq.heap.size, 0, none⟩)),
          (fun v _ => v = .string nm),
          (fun v _ => v = .pointer (some ⟨wq.heap.size, 1, none⟩)),
          (fun v _ => v = .slice A cols.length c),
          (CoNew 0 cols),
          (fun v _ => v = .slice (some ⟨g, 0, none⟩) rows.length rows.length),
          (TabV nm cols g rows.length)])
        (by kernel_rfl) (by kernel_rfl) (by decide) (by kernel_rfl) (by kernel_rfl) (by kernel_rfl) (fun x => Below.refl _ x) (fun _ _ _ h k => bt h k) ?_ ?_
      · refine Each.cons rfl (Keeps.const _) (StepOk.plain (g := (fun v _ => v = .pointer (some ⟨wq.heap.size, 0, none⟩))) rfl rfl rfl (fun a w hs hR hr pre => ?_)) ?_
        · have ep : a.eval (.tmp 1) = .pointer (some ⟨wq.heap.size, 0, none⟩) := hr 1 (by decide)
          exact wp_pure (run_faT0 rfl ep) rfl
        refine Each.cons rfl (Keeps.const _) (StepOk.plain (g := (fun v _ => v = .string nm)) rfl rfl rfl (fun a w hs hR hr pre => ?_)) ?_
        · have e24 : a.eval (.tmp 24) = .pointer (some ⟨wq.heap.size, 0, none⟩) := pre 0 (by decide)
          exact wp_pure (run_ldSt rfl e24 ((hR.cell (p := ⟨wq.heap.size, 0, none⟩) HXl.out).trans y0)) rfl
        refine Each.cons rfl (Keeps.const _) (StepOk.plain (g := (fun v _ => v = .pointer (some ⟨wq.heap.size, 1, none⟩))) rfl rfl rfl (fun a w hs hR hr pre => ?_)) ?_
        · have ep : a.eval (.tmp 1) = .pointer (some ⟨wq.heap.size, 0, none⟩) := hr 1 (by decide)
          exact wp_pure (run_faT1 rfl ep) rfl
        refine Each.cons rfl (Keeps.const _) (StepOk.plain (g := (fun v _ => v = .slice A cols.length c)) rfl rfl rfl (fun a w hs hR hr pre => ?_)) ?_
        · have e26 : a.eval (.tmp 26) = .pointer (some ⟨wq.heap.size, 1, none⟩) := pre 2 (by decide)
          exact wp_pure (run_ldCs rfl e26 ((hR.cell (p := ⟨wq.heap.size, 1, none⟩) HXl.out).trans y1)) rfl
        refine Each.cons rfl (CoNew.keeps _ _) (StepOk.plain (g := (CoNew 0 cols)) rfl rfl rfl (fun a w hs hR hr pre => ?_)) ?_
        · have e27 : a.eval (.tmp 27) = .slice A cols.length c := pre 3 (by decide)
          exact wp_copyCols _ _ rfl 0 (Nat.zero_le _) A c cols rfl e27 (HC2.out.kept (bt (Below.drew (Below.refl _ _)) hR)) HCn.out HCl.out (fun v' w' h1 h2 => ⟨v', rfl, h2, h1⟩)
        refine Each.cons rfl (Keeps.const _) (StepOk.plain (g := (fun v _ => v = .slice (some ⟨g, 0, none⟩) rows.length rows.length)) rfl rfl rfl (fun a w hs hR hr pre => ?_)) ?_
        · have ep : a.eval (.tmp 3) = .slice (some ⟨g, 0, none⟩) rows.length rows.length := hr 3 (by decide)
          exact wp_pure (run_move rfl) ep
        refine Each.cons rfl (TabV.keeps _ _ _ _) (StepOk.plain (g := (TabV nm cols g rows.length)) rfl rfl rfl (fun a w hs hR hr pre => ?_)) ?_
        · have e25 : a.eval (.tmp 25) = .string nm := pre 1 (by decide)
          have h28 : CoNew 0 cols (a.eval (.tmp 28)) w := pre 4 (by decide)
          have e29 : a.eval (.tmp 29) = .slice (some ⟨g, 0, none⟩) rows.length rows.length := pre 5 (by decide)
          obtain ⟨A', c', ev, _, hc1, hc2, hc3, hc4⟩ := h28
          exact wp_pure (run_mkT rfl e25 ev e29) ⟨A', c', rfl, hc1, hc2, hc3, hc4⟩
        exact Each.nil
      · intro v w1 hB hG
        have hh : TabV nm cols g rows.length (v 6) w1 := hG 6 (by decide)
        obtain ⟨A', c', e6, hc1, hc2, hc3, hc4⟩ := hh
        clear hG
        simp only [List.take_succ_cons, List.take_zero, puts, Act.put, List.setIfInBounds_toArray, List.set_cons_zero, List.set_cons_succ, Nat.reduceAdd, e6]
        have HB9 := Lib.hid (bt (Below.drew (Below.refl _ _)) hB)
        clear hB
        have hz := (HB9.out.block _ (Array.getElem?_eq_some_iff.1 HZ2.out).1).trans HZ2.out
        refine wpAny_next (i := 7) (fuel := 0) (by kernel_rfl) rfl rfl ?_
        refine wp_putT (.tmp 2) (.tmp 30) rfl rfl (by rfl) hz ?_
        refine wpAny_done (by kernel_rfl) ?_ _
        obtain ⟨z0, z1, z2⟩ := putT_cells hz nm A' cols.length c' (some ⟨g, 0, none⟩) rows.length rows.length
        have HK := Lib.hid (putT_below (B0 := wq.heap.size) (u := wq.heap.size + 1) (bt HBw.out HB9.out) (by omega) nm A' cols.length c' (some ⟨g, 0, none⟩) rows.length rows.length)
        have HC5 := Lib.hid (putT_co hz hc1 nm A' cols.length c' (some ⟨g, 0, none⟩) rows.length rows.length)
        have HR5 := Lib.hid (putT_rows hz (HR2.out.kept HB9.out) (by have := HG.out; have := HSz.out; omega) nm A' cols.length c' (some ⟨g, 0, none⟩) rows.length rows.length)
        clear hz
        go_wp2_with fail
        refine bodyPost_ret (v := TV nm A' cols.length c' (some ⟨g, 0, none⟩) rows.length rows.length) (by simp [results, Tryz.results32, go_sem, z0, z1, z2]) rfl ⟨_, rfl, A', c', g, rows.length, rfl, ⟨HC5.out, hc2, hc3, hc4, HR5.out, Nat.le_refl _, by omega, fun h => by cases h⟩, by have := HG.out; have := HSz.out; omega, HK.out⟩
end Go.Proofs.YtmjckdgomlppeaaGreatDoor
end
section
namespace Go.Proofs.YtmjckdgomlppeaaGreatDoor
open Go.RowKit Go.Shelf
attribute [local go_sem] Oper.semAt_some

def nmIs (name : ByteArray) (t : Ta) : Bool := t.nm.toList == name.toList
set_option maxRecDepth 100000 in
theorem nmIs_any (p : Nat) (name nm : ByteArray) (A B : Option Addr) (n c m d : Nat) (w : World) (hp : w.cell? ⟨p, 0, none⟩ = some (.string name)) {q : Bool} (hq : (nm.toList == name.toList) = q) :
    Calls Tryz.prog 31 #[TV nm A n c B m d, .pointer (some ⟨p, 0, none⟩)] w fun e w' => e = .returned (.bool q) ∧ Below w.heap.size w w' := by
  have hba := ba w (tbox nm A n c B m d)
  have hp' := (hba.cell (p := ⟨p, 0, none⟩) (World.block_lt_of_cell? w _ hp)).trans hp
  have HB := Lib.hid hba
  obtain ⟨x0, x1, x2⟩ := cell3 (MapKept.heap_alloc w (tbox nm A n c B m d)).1
  clear hba hp
  go_enter Tryz.func31, Tryz.ntmps31
  go_wp2_with fail
  go_ret
  exact ⟨rfl, HB.out⟩
/-- The first place at which it is so, or none. -/
def IdxP {α : Type} (p : α → Bool) (l : List α) (w : World) (e : Ending) (w' : World) : Prop :=
  ∃ i : Int, e = .returned (.int .i64 i) ∧ Below w.heap.size w w' ∧ ((i = -1 ∧ l.findIdx? p = none) ∨ ∃ j : Nat, j < l.length ∧ i = j ∧ l.findIdx? p = some j)
theorem findIdxG_none {α : Type} {p : α → Bool} {l : List α} (h : ∀ i (hi : i < l.length), p l[i] = false) : l.findIdx? p = none := by
  rw [List.findIdx?_eq_none_iff]
  intro x hx
  obtain ⟨i, hi, rfl⟩ := List.mem_iff_getElem.1 hx
  rw [h i hi]
theorem findIdxG_at {α : Type} {p : α → Bool} {l : List α} {j : Nat} (hj : j < l.length) (hp : p l[j] = true) (ht : ∀ i (hi : i < l.length), i < j → p l[i] = false) : l.findIdx? p = some j := by
  rw [List.findIdx?_eq_some_iff_getElem]
  exact ⟨hj, hp, fun i hi => by rw [ht i (by omega) hi]; simp⟩
set_option maxRecDepth 100000 in
set_option maxHeartbeats 1000000 in
theorem indexNm_any (p : Nat) (name : ByteArray) (A : Option Addr) (c : Nat) (l : List Ta) (w : World) (h : CtAt w A l) (hl : l.length ≤ 9223372036854775807) (hp : w.cell? ⟨p, 0, none⟩ = some (.string name)) :
    Calls Tryz.prog 30 #[.slice A l.length c, .func (.func 31) #[] #[.pointer (some ⟨p, 0, none⟩)]] w (IdxP (nmIs name) l w) := by
  have eg := enters_of Tryz.func31 (by kernel_rfl) rfl
  unfold Enters at eg
  have HP := Lib.hid (fun W (hb : Below w.heap.size w W) => (hb.cell (p := ⟨p, 0, none⟩) (World.block_lt_of_cell? w _ hp)).trans hp)
  have HH := Lib.hid h
  clear hp h
  go_enter Tryz.func30, Tryz.ntmps30
  go_wp2_with fail
  go_loopw [8] (fun i wr => ∃ j : Nat, j ≤ l.length ∧ i = .int .i64 j ∧ Hid (Below w.heap.size w wr) ∧ Hid (∀ i (hi : i < l.length), i < j → nmIs name l[i] = false)) (fun i _ => l.length - (intOf i).toNat)
  case atStart => exact ⟨0, Nat.zero_le _, rfl, Lib.hid (Below.refl _ _), Lib.hid (fun i hi h => absurd h (by omega))⟩
  case round =>
    obtain ⟨j, hj, rfl, HB, HNo⟩ := hrel
    by_cases hlt : j < l.length
    · obtain ⟨b, off, rfl, hb, Ac, cc, Ar, dd, c0, c1, c2, _⟩ := (HH.out.kept HB.out).at hlt
      obtain ⟨q, hq⟩ : ∃ q, (l[j].nm.toList == name.toList) = q := ⟨_, rfl⟩
      have HC := Lib.hid (nmIs_any p name l[j].nm Ac Ar l[j].cols.length cc l[j].rows.length dd wr (HP.out wr HB.out) hq)
      have HQ := Lib.hid (show nmIs name l[j] = q from hq)
      generalize l[j].nm = nm at c0 HC hq
      generalize l[j].cols.length = n1 at c1 HC
      generalize l[j].rows.length = n2 at c2 HC
      clear hq hb
      cases q
      · go_wp2_with fail
        refine HC.out.mono ?_
        rintro e w1 ⟨rfl, hb1⟩
        have HB1 := Lib.hid (bt HB.out hb1)
        have HN1 := Lib.hid (fun i (hi : i < l.length) (h : i < j + 1) => by
          rcases Nat.lt_or_ge i j with h' | h'
          · exact HNo.out i hi h'
          · obtain rfl : i = j := by omega
            exact HQ.out)
        clear hb1
        go_wp2_with fail
        go_roundw
        case rel => exact ⟨j + 1, by omega, by go_num, HB1, HN1⟩
        case measure => simp [intOf]; omega
      · go_wp2_with fail
        refine HC.out.mono ?_
        rintro e w1 ⟨rfl, hb1⟩
        have HB1 := Lib.hid (bt HB.out hb1)
        have HY := Lib.hid (findIdxG_at hlt HQ.out HNo.out)
        clear hb1
        go_wp2_with fail
        go_ret
        exact ⟨j, rfl, HB1.out, .inr ⟨j, hlt, rfl, HY.out⟩⟩
    · have HE := Lib.hid (findIdxG_none (p := nmIs name) (l := l) fun i hi => HNo.out i hi (by omega))
      go_wp2_with fail
      go_ret
      exact ⟨-1, rfl, HB.out, .inl ⟨rfl, HE.out⟩⟩
/-- What Find answers. -/
def FindE (name : ByteArray) (l : List Ta) (w : World) (e : Ending) (w' : World) : Prop := match l.findIdx? (nmIs name) with
  | none => e = .returned (.tuple #[TV ⟨#[]⟩ none 0 0 none 0 0, .bool false]) ∧ Below w.heap.size w w'
  | some j => ∃ t v, l[j]? = some t ∧ e = .returned (.tuple #[v, .bool true]) ∧ CopyT w t v w'
theorem FindE.no {name : ByteArray} {l : List Ta} {w w' : World} (h : l.findIdx? (nmIs name) = none) (hb : Below w.heap.size w w') : FindE name l w (.returned (.tuple #[TV ⟨#[]⟩ none 0 0 none 0 0, .bool false])) w' := by
  unfold FindE; rw [h]; exact ⟨rfl, hb⟩
theorem FindE.yes {name : ByteArray} {l : List Ta} {w w' : World} {j : Nat} {t : Ta} {v : Value} (h : l.findIdx? (nmIs name) = some j) (ht : l[j]? = some t) (hc : CopyT w t v w') : FindE name l w (.returned (.tuple #[v, .bool true])) w' := by
  unfold FindE; rw [h]; exact ⟨t, v, ht, rfl, hc⟩
set_option maxRecDepth 100000 in
set_option maxHeartbeats 2000000 in
theorem cfind_any (name : ByteArray) (A : Option Addr) (c : Nat) (l : List Ta) (w : World) (h : CtAt w A l) (hl : l.length ≤ 9223372036854775807) (hs : ∀ t ∈ l, t.cols.length ≤ 65536 ∧ t.rows.length ≤ 65536 ∧ ∀ r ∈ t.rows, r.length ≤ 65536) :
    Calls Tryz.prog 11 #[.slice A l.length c, .string name] w (FindE name l w) := by
  have h1 := ba w (.cells #[.string name] 9)
  have h2 := ba (w.alloc (.cells #[.string name] 9)) (tbox ⟨#[]⟩ none 0 0 none 0 0)
  have HZ := Lib.hid (show ((w.alloc (.cells #[.string name] 9)).alloc (tbox ⟨#[]⟩ none 0 0 none 0 0)).heap[w.heap.size + 1]? = some (tbox ⟨#[]⟩ none 0 0 none 0 0) by
    have := (MapKept.heap_alloc (w.alloc (.cells #[.string name] 9)) (tbox ⟨#[]⟩ none 0 0 none 0 0)).1
    rwa [World.size_alloc] at this)
  have HB0 := Lib.hid (bt h1 h2)
  have HH := Lib.hid h
  have HI := Lib.hid (indexNm_any w.heap.size name A c l _ (h.kept (bt h1 h2)) hl (by rw [h2.cell (p := ⟨w.heap.size, 0, none⟩) (by simp)]; simp))
  have HS := Lib.hid hs
  obtain ⟨Q, hQ⟩ : ∃ Q, FindE name l w = Q := ⟨_, rfl⟩
  have HQ := Lib.hid hQ
  rw [hQ]
  clear h h1 h2 hs hQ
  go_enter Tryz.func11, Tryz.ntmps11
  go_upto_region 1 with fail
  generalize (w.alloc (.cells #[.string name] 9)).alloc (.cells #[.string ⟨#[]⟩, .slice none 0 0, .slice none 0 0] 29) = W0 at HZ HB0 HI ⊢
  go_wp2_with fail
  refine HI.out.mono ?_
  rintro e w1 ⟨i, rfl, hb1, hi⟩
  have HB1 := Lib.hid (bt HB0.out hb1)
  have hz1 := (hb1.block _ (Array.getElem?_eq_some_iff.1 HZ.out).1).trans HZ.out
  rcases hi with ⟨rfl, hn⟩ | ⟨j, hj, rfl, hs⟩
  · have HN := Lib.hid hn
    obtain ⟨z0, z1, z2⟩ := cell3 hz1
    have f0 : w1.frozen? ⟨w.heap.size + 1, 0, none⟩ = false := by simp [World.frozen?, hz1]
    have f1 : w1.frozen? ⟨w.heap.size + 1, 1, none⟩ = false := by simp [World.frozen?, hz1]
    have f2 : w1.frozen? ⟨w.heap.size + 1, 2, none⟩ = false := by simp [World.frozen?, hz1]
    obtain ⟨q0, q1, q2⟩ := putT_cells hz1 ⟨#[]⟩ none 0 0 none 0 0
    have HP := Lib.hid (putT_below (u := w.heap.size + 1) HB1.out (by omega) ⟨#[]⟩ none 0 0 none 0 0)
    clear hz1 hb1 hn
    go_wp2_with fail
    refine bodyPost_ret (v := .tuple #[TV ⟨#[]⟩ none 0 0 none 0 0, .bool false]) (by simp [results, Tryz.results11, go_sem, q0, q1, q2]) rfl (by rw [← HQ.out]; exact FindE.no HN.out HP.out)
  · have HJ := Lib.hid hs
    obtain ⟨b, off, rfl, hb, Ac, cc, Ar, dd, c0, c1, c2, hok⟩ := (HH.out.kept HB1.out).at hj
    obtain ⟨t, ht⟩ : ∃ t, l[j] = t := ⟨_, rfl⟩
    have HT := Lib.hid (show l[j]? = some t by rw [List.getElem?_eq_getElem hj, ht])
    rw [ht] at c0 c1 c2 hok
    have hst := HS.out t (by rw [← ht]; exact List.getElem_mem hj)
    have HC := Lib.hid (copyOf_any t Ac Ar cc dd w1 hok hst.1 hst.2.1 hst.2.2)
    have HZ1 := Lib.hid hz1
    have HL1 := Lib.hid (Array.getElem?_eq_some_iff.1 hz1).1
    have hjI : (j : Int) < (l.length : Int) := by omega
    have hj0 : 0 ≤ (j : Int) := Int.natCast_nonneg _
    have hj1 : ¬ (j : Int) < 0 := by omega
    obtain ⟨nm, cols, rows⟩ := t
    simp only at c0 c1 c2
    clear hz1 hb1 hs ht hok hst hb
    go_wp2_with fail
    refine HC.out.mono ?_
    rintro e w2 ⟨v, rfl, A2, c2', g2, d2, rfl, hok2, hg2, hb2⟩
    have hz2 := (hb2.block _ (Array.getElem?_eq_some_iff.1 HZ1.out).1).trans HZ1.out
    obtain ⟨z0, z1, z2⟩ := cell3 hz2
    have f0 : w2.frozen? ⟨w.heap.size + 1, 0, none⟩ = false := by simp [World.frozen?, hz2]
    have f1 : w2.frozen? ⟨w.heap.size + 1, 1, none⟩ = false := by simp [World.frozen?, hz2]
    have f2 : w2.frozen? ⟨w.heap.size + 1, 2, none⟩ = false := by simp [World.frozen?, hz2]
    obtain ⟨q0, q1, q2⟩ := putT_cells hz2 nm A2 cols.length c2' (some ⟨g2, 0, none⟩) rows.length d2
    have HP := Lib.hid (putT_below (u := w.heap.size + 1) (bt HB1.out hb2) (by omega) nm A2 cols.length c2' (some ⟨g2, 0, none⟩) rows.length d2)
    have HO := Lib.hid (show TaOk (putT w2 (w.heap.size + 1) nm A2 cols.length c2' (some ⟨g2, 0, none⟩) rows.length d2) ⟨nm, cols, rows⟩ A2 c2' (some ⟨g2, 0, none⟩) d2 from ⟨putT_co hz2 hok2.co nm A2 cols.length c2' (some ⟨g2, 0, none⟩) rows.length d2, hok2.cl, hok2.cm, hok2.cn, putT_rows hz2 hok2.ro (by have := HL1.out; omega) nm A2 cols.length c2' (some ⟨g2, 0, none⟩) rows.length d2, hok2.rl, hok2.rm, hok2.rn⟩)
    have HG := Lib.hid (show w.heap.size ≤ g2 by have := HL1.out; omega)
    clear hz2 hok2 hb2 hg2 c0 c1 c2
    go_wp2_with fail
    refine bodyPost_ret (v := .tuple #[TV nm A2 cols.length c2' (some ⟨g2, 0, none⟩) rows.length d2, .bool true]) (by simp [results, Tryz.results11, go_sem, q0, q1, q2]) rfl (by rw [← HQ.out]; exact FindE.yes HJ.out HT.out ⟨A2, c2', g2, d2, rfl, HO.out, HG.out, HP.out⟩)
end Go.Proofs.YtmjckdgomlppeaaGreatDoor
end
section
namespace Go.Proofs.YtmjckdgomlppeaaGreatDoor
open Go.RowKit Go.Shelf
attribute [local go_sem] Oper.semAt_some

def idxI : Option Nat → Int
  | some j => j
  | none => -1
set_option maxRecDepth 100000 in
set_option maxHeartbeats 1000000 in
theorem rcfind_any (name : ByteArray) (A : Option Addr) (c : Nat) (l : List Ta) (w : World) (h : CtAt w A l) (hl : l.length ≤ 9223372036854775807) :
    Calls Tryz.prog 12 #[.slice A l.length c, .string name] w fun e w' => e = .returned (.int .i64 (idxI (l.findIdx? (nmIs name)))) ∧ Below w.heap.size w w' := by
  have HH := Lib.hid h
  obtain ⟨F, hF⟩ : ∃ F, idxI (l.findIdx? (nmIs name)) = F := ⟨_, rfl⟩
  have HF := Lib.hid hF
  rw [hF]
  clear h hF
  go_enter Tryz.func12, Tryz.ntmps12
  go_wp2_with fail
  go_loopw [5] (fun i wr => ∃ j : Nat, j ≤ l.length ∧ i = .int .i64 j ∧ Hid (Below w.heap.size w wr) ∧ Hid (∀ i (hi : i < l.length), i < j → nmIs name l[i] = false)) (fun i _ => l.length - (intOf i).toNat)
  case atStart => exact ⟨0, Nat.zero_le _, rfl, Lib.hid (Below.refl _ _), Lib.hid (fun i hi h => absurd h (by omega))⟩
  case round =>
    obtain ⟨j, hj, rfl, HW, HNo⟩ := hrel
    by_cases hlt : j < l.length
    · obtain ⟨b, off, rfl, hb, Ac, cc, Ar, dd, c0, _, _, _⟩ := (HH.out.kept HW.out).at hlt
      have hjI : (j : Int) < (l.length : Int) := by omega
      cases hq : (l[j].nm.toList == name.toList)
      · have HN1 := Lib.hid (fun i (hi : i < l.length) (h : i < j + 1) => by
          rcases Nat.lt_or_ge i j with h' | h'
          · exact HNo.out i hi h'
          · obtain rfl : i = j := by omega
            exact (show nmIs name l[i] = false from hq))
        generalize l[j].nm = nm at c0 hq
        clear hb
        go_wp2_with fail
        go_roundw
        case rel => exact ⟨j + 1, by omega, by go_num, HW, HN1⟩
        case measure => simp [intOf]; omega
      · have HY := Lib.hid (show (j : Int) = F by rw [← HF.out, findIdxG_at hlt (show nmIs name l[j] = true from hq) HNo.out]; rfl)
        generalize l[j].nm = nm at c0 hq
        clear hb
        go_wp2_with fail
        go_ret
        exact ⟨by rw [← HY.out]; rfl, HW.out⟩
    · have HE := Lib.hid (show (-1 : Int) = F by rw [← HF.out, findIdxG_none (p := nmIs name) (l := l) fun i hi => HNo.out i hi (by omega)]; rfl)
      go_wp2_with fail
      go_ret
      exact ⟨by rw [← HE.out]; rfl, HW.out⟩
/-- Are two columns the same? -/
def eqC (a b : Co) : Bool := (a.tab.toList == b.tab.toList) && (a.nm.toList == b.nm.toList) && (a.ty == b.ty)
theorem run_eqC (a b : Co) (w : World) : (binOp .eql 57 (coV a) (coV b)).run Tryz.prog w = .ok (.bool (eqC a b)) w := by
  have u3 := Tryz.underlying3
  have a3 := Tryz.isAgg3
  have z3 := Tryz.sizeOf3
  have u9 := Tryz.underlying9
  have a9 := Tryz.isAgg9
  have z9 := Tryz.sizeOf9
  have hS : Tryz.prog.underlying 57 = some (.struct (Tryz.prog.fieldsOf 57)) := by kernel_rfl
  have hp : Tryz.prog.stoodInHeld 57 = false := by kernel_rfl
  rw [run_eql_struct, show (10000 : Nat) = 9999 + 1 from rfl, run_equalIn_agg w 9999 57 _ _ hS hp]
  simp only [Program.fieldsOf, Tryz.underlying57]
  go_simp
  unfold eqC
  by_cases h1 : a.tab.toList = b.tab.toList <;> by_cases h2 : a.nm.toList = b.nm.toList <;> by_cases h3 : a.ty = b.ty <;> simp [h1, h2, h3]
theorem neg_of_run {E : Result Bool} {c : Bool} {w : World} (h : (E.andThen fun a w' => Sem.run Tryz.prog (pure (Value.bool a)) w') = .ok (.bool c) w) : (E.andThen fun a w' => Sem.run Tryz.prog (pure (Value.bool !a)) w') = .ok (.bool !c) w := by
  cases E with
  | ok v w1 =>
    simp only [Result.andThen_ok, Sem.run_pure] at h ⊢
    injection h with h1 h2
    injection h1 with h1
    rw [h1, h2]
  | halt e w1 => cases h
theorem run_neC (a b : Co) (w : World) : (binOp .neq 57 (coV a) (coV b)).run Tryz.prog w = .ok (.bool (!eqC a b)) w := by
  have h := run_eqC a b w
  simp only [binOp] at h ⊢
  rw [Sem.run_bind] at h ⊢
  exact neg_of_run h
/-- Are two lists of columns the same? -/
def sameCs (l r : List Co) : Bool := decide (l.length = r.length) && (List.range l.length).all fun i => eqC (l.getD i zCo) (r.getD i zCo)
theorem sameCs_no {l r : List Co} {j : Nat} (hj : j < l.length) (h : eqC (l.getD j zCo) (r.getD j zCo) = false) : sameCs l r = false := by
  have : ((List.range l.length).all fun i => eqC (l.getD i zCo) (r.getD i zCo)) = false := by
    rw [List.all_eq_false]
    exact ⟨j, List.mem_range.2 hj, by rw [h]; simp⟩
  rw [sameCs, this, Bool.and_false]
theorem sameCs_yes {l r : List Co} (h1 : l.length = r.length) (h : ∀ i, i < l.length → eqC (l.getD i zCo) (r.getD i zCo) = true) : sameCs l r = true := by
  have : ((List.range l.length).all fun i => eqC (l.getD i zCo) (r.getD i zCo)) = true := List.all_eq_true.2 fun i hi => h i (List.mem_range.1 hi)
  rw [sameCs, this, decide_eq_true h1]; rfl
set_option maxRecDepth 100000 in
set_option maxHeartbeats 2000000 in
theorem sameCols_any (A B : Option Addr) (c d : Nat) (l r : List Co) (w : World) (hA : CoAt w A l) (hB : CoAt w B r) (hl : l.length ≤ 9223372036854775807) {q : Bool} (hq : sameCs l r = q) :
    Calls Tryz.prog 17 #[.slice A l.length c, .slice B r.length d] w fun e w' => e = .returned (.bool q) ∧ Below w.heap.size w w' := by
  have HA := Lib.hid hA
  have HB := Lib.hid hB
  have HQ := Lib.hid hq
  clear hA hB hq
  by_cases hlen : l.length = r.length
  · have hne : ((l.length : Int) != (r.length : Int)) = false := by rw [bne_eq_false_iff_eq]; omega
    have HLn := Lib.hid hlen
    clear hlen
    go_enter Tryz.func17, Tryz.ntmps17
    go_wp2_with fail
    clear hne
    go_loopw [5] (fun i wr => ∃ j : Nat, j ≤ l.length ∧ i = .int .i64 j ∧ Hid (Below w.heap.size w wr) ∧ Hid (∀ i, i < j → eqC (l.getD i zCo) (r.getD i zCo) = true)) (fun i _ => l.length - (intOf i).toNat)
    case atStart => exact ⟨0, Nat.zero_le _, rfl, Lib.hid (Below.refl _ _), Lib.hid (fun i hi => absurd hi (by omega))⟩
    case round =>
      obtain ⟨j, hj, rfl, HW, HNo⟩ := hrel
      by_cases hlt : j < l.length
      · have hltr : j < r.length := by rw [← HLn.out]; exact hlt
        obtain ⟨b1, off1, rfl, _, c0, c1, c2⟩ := (HA.out.kept HW.out).at hlt
        obtain ⟨b2, off2, rfl, _, d0, d1, d2⟩ := (HB.out.kept HW.out).at hltr
        have HG := Lib.hid (show eqC (l.getD j zCo) (r.getD j zCo) = eqC l[j] r[j] by
          rw [List.getD_eq_getElem?_getD, List.getD_eq_getElem?_getD, List.getElem?_eq_getElem hlt, List.getElem?_eq_getElem hltr]; rfl)
        have hjI : (j : Int) < (l.length : Int) := by omega
        have hjR : (j : Int) < (r.length : Int) := by omega
        have hj0 : 0 ≤ (j : Int) := Int.natCast_nonneg _
        generalize l[j] = x at c0 c1 c2 HG
        generalize r[j] = y at d0 d1 d2 HG
        have hrun := fun W => run_neC x y W
        have HB2 := Lib.hid (bt HW.out (Below.drew (Below.refl _ _)))
        clear hltr
        cases hx : eqC x y
        · obtain rfl : false = q := by rw [← HQ.out, sameCs_no hlt (HG.out.trans hx)]
          rw [hx] at hrun
          obtain ⟨xt, xn, xy⟩ := x
          obtain ⟨yt, yn, yy⟩ := y
          simp only [Bool.not_false] at c0 c1 c2 d0 d1 d2 hrun
          clear hx hlt
          go_wp2_with fail
          go_region
          all_goals
            go_wp2_with fail
            go_ret
            exact ⟨rfl, HB2.out⟩
        · have HN1 := Lib.hid (fun i (hi : i < j + 1) => by
            rcases Nat.lt_or_ge i j with h' | h'
            · exact HNo.out i h'
            · obtain rfl : i = j := by omega
              exact HG.out.trans hx)
          rw [hx] at hrun
          obtain ⟨xt, xn, xy⟩ := x
          obtain ⟨yt, yn, yy⟩ := y
          simp only [Bool.not_true] at c0 c1 c2 d0 d1 d2 hrun
          clear hx hlt
          go_wp2_with fail
          go_region
          all_goals
            go_wp2_with fail
            go_roundw
            case rel => exact ⟨j + 1, by omega, by go_num, HB2, HN1⟩
            case measure => simp [intOf]; omega
      · obtain rfl : true = q := by rw [← HQ.out, sameCs_yes HLn.out fun i hi => HNo.out i (by omega)]
        go_wp2_with fail
        go_ret
        exact ⟨rfl, HW.out⟩
  · obtain rfl : false = q := by rw [← HQ.out, sameCs, decide_eq_false hlen, Bool.false_and]
    have hne : ((l.length : Int) != (r.length : Int)) = true := by rw [bne_iff_ne]; omega
    go_enter Tryz.func17, Tryz.ntmps17
    go_wp2_with fail
    go_ret
    exact ⟨rfl, Below.refl _ _⟩
set_option maxRecDepth 100000 in
set_option maxHeartbeats 2000000 in
theorem equalCols_any (A B : Option Addr) (c d : Nat) (l r : List Co) (w : World) (hA : CoAt w A l) (hB : CoAt w B r) (hl : l.length ≤ 9223372036854775807) {q : Bool} (hq : sameCs l r = q) :
    Calls Tryz.prog 70 #[.slice A l.length c, .slice B r.length d] w fun e w' => e = .returned (.bool q) ∧ Below w.heap.size w w' := by
  have HA := Lib.hid hA
  have HB := Lib.hid hB
  have HQ := Lib.hid hq
  clear hA hB hq
  by_cases hlen : l.length = r.length
  · have hne : ((l.length : Int) != (r.length : Int)) = false := by rw [bne_eq_false_iff_eq]; omega
    have HLn := Lib.hid hlen
    clear hlen
    go_enter Tryz.func70, Tryz.ntmps70
    go_wp2_with fail
    clear hne
    go_loopw [13] (fun i wr => ∃ j : Nat, j ≤ l.length ∧ i = .int .i64 j ∧ Hid (Below w.heap.size w wr) ∧ Hid (∀ i, i < j → eqC (l.getD i zCo) (r.getD i zCo) = true)) (fun i _ => l.length - (intOf i).toNat)
    case atStart => exact ⟨0, Nat.zero_le _, rfl, Lib.hid (Below.refl _ _), Lib.hid (fun i hi => absurd hi (by omega))⟩
    case round =>
      obtain ⟨j, hj, rfl, HW, HNo⟩ := hrel
      by_cases hlt : j < l.length
      · have hltr : j < r.length := by rw [← HLn.out]; exact hlt
        obtain ⟨b1, off1, rfl, _, c0, c1, c2⟩ := (HA.out.kept HW.out).at hlt
        obtain ⟨b2, off2, rfl, _, d0, d1, d2⟩ := (HB.out.kept HW.out).at hltr
        have HG := Lib.hid (show eqC (l.getD j zCo) (r.getD j zCo) = eqC l[j] r[j] by
          rw [List.getD_eq_getElem?_getD, List.getD_eq_getElem?_getD, List.getElem?_eq_getElem hlt, List.getElem?_eq_getElem hltr]; rfl)
        have hjI : (j : Int) < (l.length : Int) := by omega
        have hjR : (j : Int) < (r.length : Int) := by omega
        have hj0 : 0 ≤ (j : Int) := Int.natCast_nonneg _
        generalize l[j] = x at c0 c1 c2 HG
        generalize r[j] = y at d0 d1 d2 HG
        have hrun := fun W => run_neC x y W
        have HB2 := Lib.hid (bt HW.out (Below.drew (Below.refl _ _)))
        clear hltr
        cases hx : eqC x y
        · obtain rfl : false = q := by rw [← HQ.out, sameCs_no hlt (HG.out.trans hx)]
          rw [hx] at hrun
          obtain ⟨xt, xn, xy⟩ := x
          obtain ⟨yt, yn, yy⟩ := y
          simp only [Bool.not_false] at c0 c1 c2 d0 d1 d2 hrun
          clear hx hlt
          go_wp2_with fail
          go_region
          all_goals
            go_wp2_with fail
            go_ret
            exact ⟨rfl, HB2.out⟩
        · have HN1 := Lib.hid (fun i (hi : i < j + 1) => by
            rcases Nat.lt_or_ge i j with h' | h'
            · exact HNo.out i h'
            · obtain rfl : i = j := by omega
              exact HG.out.trans hx)
          rw [hx] at hrun
          obtain ⟨xt, xn, xy⟩ := x
          obtain ⟨yt, yn, yy⟩ := y
          simp only [Bool.not_true] at c0 c1 c2 d0 d1 d2 hrun
          clear hx hlt
          go_wp2_with fail
          go_region
          all_goals
            go_wp2_with fail
            go_roundw
            case rel => exact ⟨j + 1, by omega, by go_num, HB2, HN1⟩
            case measure => simp [intOf]; omega
      · obtain rfl : true = q := by rw [← HQ.out, sameCs_yes HLn.out fun i hi => HNo.out i (by omega)]
        go_wp2_with fail
        go_ret
        exact ⟨rfl, HW.out⟩
  · obtain rfl : false = q := by rw [← HQ.out, sameCs, decide_eq_false hlen, Bool.false_and]
    have hne : ((l.length : Int) != (r.length : Int)) = true := by rw [bne_iff_ne]; omega
    go_enter Tryz.func70, Tryz.ntmps70
    go_wp2_with fail
    go_ret
    exact ⟨rfl, Below.refl _ _⟩
end Go.Proofs.YtmjckdgomlppeaaGreatDoor
end
section
namespace Go.Proofs.YtmjckdgomlppeaaGreatDoor
open Go.RowKit Go.Shelf

theorem ListOwn.rows {w : World} {B : Nat} {v : Value} {p : List (List Va)} (h : ListOwn w B v p) : ∃ A c, v = .slice A p.length c ∧ RowsAt w A p := by
  obtain ⟨xs, ho, he⟩ := h
  rcases ho.2 with ⟨rfl, hn⟩ | ⟨g, cap, cur, rfl, hb, hgg, hnc, hcm, hcs, htake⟩
  · rw [List.eq_nil_of_length_eq_zero hn]
    exact ⟨none, 0, rfl, .inl rfl⟩
  · refine ⟨some ⟨g, 0, none⟩, cap, rfl, .inr ⟨g, 0, rfl, lt_of_block hgg, fun i r hr => ?_⟩⟩
    obtain ⟨A, c, hx, hel, hA⟩ := he.2 i r hr
    refine ⟨A, c, ?_, hel.1, hA⟩
    rw [Nat.zero_add]
    have hcell := World.ownsRow.cells ho (g := g) rfl i _ hx
    have hadd : (⟨g, 0, none⟩ : Addr).add i = ⟨g, i, none⟩ := by unfold Addr.add; split <;> simp_all
    rwa [hadd] at hcell

theorem refSame_self (A A' : Option Addr) (c c' : Nat) (r : List Va) (w : World) (h : RowAt w A r) (h' : RowAt w A' r) (hl : r.length ≤ 9223372036854775807) :
    Calls Tryz.prog 50 #[.slice A r.length c, .slice A' r.length c'] w fun e w' => e = .returned (.bool true) ∧ Below w.heap.size w w' := by
  have := refRowSame_any A A' c c' r r w h h' hl hl
  rw [cmpR_self] at this
  exact this

theorem RowsAt.cellAt {w : World} {B : Option Addr} {rs : List (List Va)} (h : RowsAt w B rs) {i : Nat} (hi : i < rs.length) :
    ∃ b off : Nat, B = some ⟨b, off, none⟩ ∧ ∃ A c, w.cell? ⟨b, off + i, none⟩ = some (.slice A rs[i].length c) ∧ RowAt w A rs[i] := by
  rcases h with h | ⟨b, off, hB, hlt, hc⟩
  · subst h; simp at hi
  · obtain ⟨A, c, hcell, hrow, hA⟩ := hc i rs[i] (List.getElem?_eq_getElem hi)
    exact ⟨b, off, hB, A, c, hcell, hrow⟩

set_option maxRecDepth 100000 in
set_option maxHeartbeats 2000000 in
theorem sameList_self (B B' : Option Addr) (c c' : Nat) (rs : List (List Va)) (w : World) (h : RowsAt w B rs) (h' : RowsAt w B' rs) (hn : rs.length ≤ 9223372036854775807) (hl : ∀ r ∈ rs, r.length ≤ 9223372036854775807) :
    Calls Tryz.prog 27 #[.slice B rs.length c, .slice B' rs.length c'] w fun e w' => e = .returned (.bool true) ∧ Below w.heap.size w w' := by
  have HR := Lib.hid h
  have HR' := Lib.hid h'
  have HL := Lib.hid hl
  clear h h' hl
  go_enter Tryz.func27, Tryz.ntmps27
  go_wp2_with fail
  go_loopw [5] (fun i wr => ∃ j : Nat, j ≤ rs.length ∧ i = .int .i64 j ∧ Hid (Below w.heap.size w wr)) (fun i _ => rs.length - (intOf i).toNat)
  case atStart => exact ⟨0, Nat.zero_le _, rfl, Lib.hid (Below.refl _ _)⟩
  case round =>
    obtain ⟨j, hj, rfl, HB⟩ := hrel
    by_cases hlt : j < rs.length
    · obtain ⟨b, off, rfl, A, ca, c0, r0⟩ := (HR.out.kept HB.out).cellAt hlt
      obtain ⟨b', off', rfl, A', ca', d0, s0⟩ := (HR'.out.kept HB.out).cellAt hlt
      have hrl := HL.out rs[j] (List.getElem_mem hlt)
      generalize rs[j] = r at c0 r0 d0 s0 hrl
      have HX := Lib.hid r0
      have HY := Lib.hid s0
      clear r0 s0
      have hi0 : (0 : Int) ≤ (j : Int) := Int.natCast_nonneg _
      have hi1 : (j : Int) < (rs.length : Int) := by omega
      have HZ := Lib.hid (fun (W : World) (hW : Below wr.heap.size wr W) => (refSame_self A A' ca ca' r W (HX.out.kept hW) (HY.out.kept hW) hrl).mono (fun e w' (hq : _ ∧ _) => (show e = .returned (.bool true) ∧ Below wr.heap.size wr w' from ⟨hq.1, bt hW hq.2⟩)))
      have hB1 := Below.drew (Below.refl wr.heap.size wr)
      go_wp2_with fail
      go_region_held3 (fun w' => Below wr.heap.size wr w' ∧ w'.cell? ⟨b, off + j, none⟩ = some (.slice A r.length ca) ∧ w'.cell? ⟨b', off' + j, none⟩ = some (.slice A' r.length ca'))
        (first
          | exact ⟨hB1, c0, d0⟩
          | exact ⟨hbx, cell_kept hbx c0, cell_kept hbx d0⟩)
        (first
          | (go_at_call 50; refine (HZ.out _ (by exact hB1)).mono ?_; rintro e w' ⟨rfl, hbx⟩))
      rename_i hold
      have HB2 := Lib.hid (bt HB.out hold.1)
      clear hold
      go_wp2_with fail
      go_roundw
      case rel => exact ⟨j + 1, by omega, by go_num, HB2⟩
      case measure => simp [intOf]; omega
    · go_wp2_with fail
      go_ret
      exact ⟨rfl, HB.out⟩
theorem sameList_L (B B' : Option Addr) (L c c' : Nat) (rs : List (List Va)) (w : World) (hL : rs.length = L) (h : RowsAt w B rs) (h' : RowsAt w B' rs) (hn : L ≤ 9223372036854775807) (hl : ∀ r ∈ rs, r.length ≤ 9223372036854775807) :
    Calls Tryz.prog 27 #[.slice B L c, .slice B' L c'] w fun e w' => e = .returned (.bool true) ∧ Below w.heap.size w w' := by
  subst hL; exact sameList_self B B' c c' rs w h h' hn hl
end Go.Proofs.YtmjckdgomlppeaaGreatDoor
end
section
namespace Go.Proofs.YtmjckdgomlppeaaGreatDoor
open Go.RowKit Go.Shelf

def badA (v : Va) : Bool := !v.ok
def okR (r : List Va) : Bool := decide (r.length ≤ 32) && !(r.any badA)

/-- A place, or none. -/
def IdxEnd (b : Bool) (w : World) (e : Ending) (w' : World) : Prop := ∃ i : Int, -1 ≤ i ∧ decide (0 ≤ i) = b ∧ e = .returned (.int .i64 i) ∧ Below w.heap.size w w'

set_option maxHeartbeats 400000 in
theorem bad_b (b : Bool) (v : Va) (w : World) (hs : v.s.size ≤ 9223372036854775807) (h : badA v = b) :
    Calls Tryz.prog 66 #[VV v.k v.n v.s] w fun e w' => e = .returned (.bool b) ∧ Below w.heap.size w w' := by
  have hc := check_any v.k v.n v.s
  cases b
  · have e1 : okV v.k v.n v.s = true := by simpa [badA, Va.ok] using h
    rw [e1] at hc
    have HC := Lib.hid hc
    clear hc h e1
    go_enter Tryz.func66, Tryz.ntmps66
    go_wp2_with fail
    refine (HC.out _ hs).mono ?_
    rintro e w1 ⟨rfl, hb1⟩
    go_wp2_with fail
    go_ret
    exact ⟨rfl, bt (ba _ _) hb1⟩
  · have e1 : okV v.k v.n v.s = false := by simpa [badA, Va.ok] using h
    rw [e1] at hc
    have HC := Lib.hid hc
    clear hc h e1
    go_enter Tryz.func66, Tryz.ntmps66
    go_wp2_with fail
    refine (HC.out _ hs).mono ?_
    rintro e w1 ⟨rfl, hb1⟩
    go_wp2_with fail
    go_ret
    exact ⟨rfl, bt (ba _ _) hb1⟩

set_option maxHeartbeats 1000000 in
theorem indexBad_any (A : Option Addr) (c : Nat) (r : List Va) (w : World) (h : RowAt w A r) (hf : Fine r) (hl : r.length ≤ 9223372036854775807) :
    Calls Tryz.prog 89 #[.slice A r.length c, .func (.func 66) #[] #[]] w (IdxEnd (r.any badA) w) := by
  have eg := enters_of Tryz.func66 (by kernel_rfl) rfl
  unfold Enters at eg
  go_enter Tryz.func89, Tryz.ntmps89
  go_wp2_with fail
  go_loopw [8] (fun i wr => ∃ j : Nat, j ≤ r.length ∧ i = .int .i64 j ∧ Below w.heap.size w wr ∧ Hid ((r.take j).any badA = false)) (fun i _ => r.length - (intOf i).toNat)
  case atStart => exact ⟨0, Nat.zero_le _, rfl, Below.refl _ _, Lib.hid (by simp)⟩
  case round =>
    obtain ⟨j, hj, rfl, hB, HN⟩ := hrel
    have hr := h.kept hB
    have HR := Lib.hid h
    clear h
    by_cases hlt : j < r.length
    · obtain ⟨b, off, rfl, hb, c0, c1, c2⟩ := hr.at hlt
      have hz := hf.at hlt
      have HS := Lib.hid (any_take_succ badA r j hlt)
      have HM := Lib.hid (show badA r[j] = true → r.any badA = true from fun hh => List.any_eq_true.2 ⟨_, List.getElem_mem hlt, hh⟩)
      generalize r[j] = v at c0 c1 c2 hz HS HM
      clear hr
      cases hbd : badA v
      · have HD := Lib.hid hbd
        have HE := Lib.hid (show (r.take (j + 1)).any badA = false by rw [HS.out, HN.out, hbd]; rfl)
        clear hbd
        go_wp2_with fail
        refine (bad_b false v _ hz HD.out).mono ?_
        rintro e w1 ⟨rfl, hb1⟩
        go_wp2_with fail
        go_roundw
        case rel => exact ⟨j + 1, by omega, by go_num, bt hB hb1, HE⟩
        case measure => simp [intOf]; omega
      · have HD := Lib.hid hbd
        have HE := Lib.hid (HM.out hbd)
        clear hbd
        go_wp2_with fail
        refine (bad_b true v _ hz HD.out).mono ?_
        rintro e w1 ⟨rfl, hb1⟩
        go_wp2_with fail
        go_ret
        exact ⟨j, by omega, by rw [HE.out]; simp, rfl, bt hB hb1⟩
    · have HE := Lib.hid (show r.any badA = false by rw [← HN.out, List.take_of_length_le (by omega)])
      go_wp2_with fail
      go_ret
      exact ⟨-1, by omega, by rw [HE.out]; rfl, rfl, hB⟩

set_option maxHeartbeats 400000 in
theorem containsBad_b (b : Bool) (A : Option Addr) (c : Nat) (r : List Va) (w : World) (h : RowAt w A r) (hf : Fine r) (hl : r.length ≤ 9223372036854775807) (hb : r.any badA = b) :
    Calls Tryz.prog 68 #[.slice A r.length c, .func (.func 66) #[] #[]] w fun e w' => e = .returned (.bool b) ∧ Below w.heap.size w w' := by
  have HI := Lib.hid (indexBad_any A c r w h hf hl)
  rw [hb] at HI
  clear hb h hf
  go_enter Tryz.func68, Tryz.ntmps68
  go_wp2_with fail
  refine HI.out.mono ?_
  rintro e w1 ⟨i, hi0, hi, rfl, hb1⟩
  go_wp2_with fail
  go_ret
  exact ⟨rfl, hb1⟩

theorem rowCheck_b (b : Bool) (A : Option Addr) (c : Nat) (r : List Va) (w : World) (h : RowAt w A r) (hf : Fine r) (hl : r.length ≤ 9223372036854775807) (hb : okR r = b) :
    Calls Tryz.prog 43 #[.slice A r.length c] w fun e w' => e = .returned (.int .i64 (if b then 0 else 20)) ∧ Below w.heap.size w w' := by
  by_cases h32 : 32 < r.length
  · have hF : b = false := by rw [← hb]; simp [okR]; omega
    subst hF
    clear hb h hf
    go_enter Tryz.func43, Tryz.ntmps43
    go_wp2_with fail
    go_ret
    exact ⟨rfl, Below.refl _ _⟩
  · have hF : (!(r.any badA)) = b := by rw [← hb]; simp [okR]; omega
    cases hbd : r.any badA
    · rw [hbd] at hF
      obtain rfl : true = b := hF
      have HI := Lib.hid (containsBad_b false A c r w h hf hl hbd)
      clear hb h hf hbd
      go_enter Tryz.func43, Tryz.ntmps43
      go_wp2_with fail
      refine HI.out.mono ?_
      rintro e w1 ⟨rfl, hb1⟩
      go_wp2_with fail
      go_ret
      exact ⟨rfl, hb1⟩
    · rw [hbd] at hF
      obtain rfl : false = b := hF
      have HI := Lib.hid (containsBad_b true A c r w h hf hl hbd)
      clear hb h hf hbd
      go_enter Tryz.func43, Tryz.ntmps43
      go_wp2_with fail
      refine HI.out.mono ?_
      rintro e w1 ⟨rfl, hb1⟩
      go_wp2_with fail
      go_ret
      exact ⟨rfl, hb1⟩

theorem refCheckA (b : Bool) (v : Va) (w : World) (hs : v.s.size ≤ 9223372036854775807) (h : badA v = b) :
    Calls Tryz.prog 69 #[VV v.k v.n v.s] w fun e w' => e = .returned (.bool (!b)) ∧ Below w.heap.size w w' := by
  have e1 : okV v.k v.n v.s = !b := by rw [← h]; simp [badA, Va.ok]
  rw [← e1]; exact refCheck_any _ _ _ _ hs

set_option maxHeartbeats 1000000 in
theorem refRowCheck_any (A : Option Addr) (c : Nat) (r : List Va) (w : World) (h : RowAt w A r) (hf : Fine r) (hl : r.length ≤ 9223372036854775807) :
    Calls Tryz.prog 44 #[.slice A r.length c] w fun e w' => e = .returned (.bool (okR r)) ∧ Below w.heap.size w w' := by
  go_enter Tryz.func44, Tryz.ntmps44
  go_wp2_with fail
  go_loopw [3] (fun i wr => ∃ j : Nat, j ≤ r.length ∧ i = .int .i64 j ∧ Below w.heap.size w wr ∧ Hid ((r.take j).any badA = false)) (fun i _ => r.length - (intOf i).toNat)
  case atStart => exact ⟨0, Nat.zero_le _, rfl, Below.refl _ _, Lib.hid (by simp)⟩
  case round =>
    obtain ⟨j, hj, rfl, hB, HN⟩ := hrel
    have hr := h.kept hB
    have HR := Lib.hid h
    clear h
    by_cases hlt : j < r.length
    · obtain ⟨b, off, rfl, hb, c0, c1, c2⟩ := hr.at hlt
      have hz := hf.at hlt
      have HS := Lib.hid (any_take_succ badA r j hlt)
      have HM := Lib.hid (show badA r[j] = true → r.any badA = true from fun hh => List.any_eq_true.2 ⟨_, List.getElem_mem hlt, hh⟩)
      generalize r[j] = v at c0 c1 c2 hz HS HM
      clear hr
      cases hbd : badA v
      · have HD := Lib.hid hbd
        have HE := Lib.hid (show (r.take (j + 1)).any badA = false by rw [HS.out, HN.out, hbd]; rfl)
        clear hbd
        go_wp2_with fail
        refine (refCheckA false v _ hz HD.out).mono ?_
        rintro e w1 ⟨rfl, hb1⟩
        go_wp2_with fail
        go_roundw
        case rel => exact ⟨j + 1, by omega, by go_num, bt hB hb1, HE⟩
        case measure => simp [intOf]; omega
      · have HD := Lib.hid hbd
        have HE := Lib.hid (show okR r = false by simp only [okR, HM.out hbd]; simp)
        clear hbd
        go_wp2_with fail
        refine (refCheckA true v _ hz HD.out).mono ?_
        rintro e w1 ⟨rfl, hb1⟩
        go_wp2_with fail
        go_ret
        exact ⟨ret_bool HE.out.symm, bt hB hb1⟩
    · have HE := Lib.hid (show okR r = decide (r.length ≤ 32) by
        have : r.any badA = false := by rw [← HN.out, List.take_of_length_le (by omega)]
        simp only [okR, this]; simp)
      go_wp2_with fail
      go_ret
      exact ⟨ret_bool (by rw [HE.out]; simp; omega), hB⟩

end Go.Proofs.YtmjckdgomlppeaaGreatDoor
end
section
namespace Go.Proofs.YtmjckdgomlppeaaGreatDoor
open Go.RowKit Go.Shelf

/-- A text's bytes; an int's seven. -/
def strB (s : ByteArray) : List Int := s.data.toList.map fun b => (b.toNat : Int)
def byteAt (n : Int) (i : Nat) : Int := n / 256 ^ i % 256
def seven (n : Int) : List Int := [byteAt n 6, byteAt n 5, byteAt n 4, byteAt n 3, byteAt n 2, byteAt n 1, byteAt n 0]
/-- A value's bytes. -/
def putV (v : Va) : List Int :=
  if v.k = 1 then [1, v.n] else if v.k = 2 then 2 :: seven (v.n + 9007199254740992) else if v.k = 3 then 3 :: (v.s.size : Int) :: strB v.s else [0]
def sizeV (v : Va) : Nat := (putV v).length
theorem sizeV_eq (v : Va) : sizeV v = if v.k = 1 then 2 else if v.k = 2 then 8 else if v.k = 3 then 2 + v.s.size else 1 := by
  unfold sizeV putV
  split
  · rfl
  · split
    · rfl
    · split
      · simp [strB]; omega
      · rfl
theorem ok_kind {v : Va} (h : v.ok = true) : v.k = 0 ∨ v.k = 1 ∨ v.k = 2 ∨ v.k = 3 := by
  unfold Va.ok okV at h
  by_cases h0 : v.k = 0
  · exact .inl h0
  · by_cases h1 : v.k = 1
    · exact .inr (.inl h1)
    · by_cases h2 : v.k = 2
      · exact .inr (.inr (.inl h2))
      · by_cases h3 : v.k = 3
        · exact .inr (.inr (.inr h3))
        · simp [h0, h1, h2, h3] at h
theorem ok_text {v : Va} (h : v.ok = true) : v.s.size ≤ 64 := by
  unfold Va.ok okV at h
  by_cases h3 : v.k = 3
  · simp [h3] at h; exact h.2
  · have he : v.s.toList.isEmpty = true := by
      split at h
      · simp at h; simp [h.2]
      · split at h
        · simp at h; simp [h.2]
        · split at h
          · simp at h; simp [h.2]
          · simp at h <;> exact absurd h.1 h3
    have : v.s.size = 0 := by
      rw [ByteArray.toList_eq] at he
      have : v.s.data.toList = [] := by simpa using he
      have e : v.s.data.toList.length = v.s.size := by simp
      rw [this] at e
      simpa using e.symm
    omega

set_option maxHeartbeats 400000 in
theorem valueSize_any (k : Int) (n : Nat) (w : World) (hn : n ≤ 65536) (hk : k = 0 ∨ k = 1 ∨ k = 2 ∨ k = 3) :
    Calls Tryz.prog 104 #[.int .i64 k, .int .i64 n] w fun e w' => e = .returned (.int .i64 (if k = 1 then 2 else if k = 2 then 8 else if k = 3 then 2 + (n : Int) else 1)) ∧ w = w' := by
  rcases hk with rfl | rfl | rfl | rfl
  all_goals
    go_enter Tryz.func104, Tryz.ntmps104
    go_wp2_with fail
    go_ret
    exact ⟨rfl, rfl⟩

set_option maxHeartbeats 400000 in
theorem sizeOne (v : Va) (w : World) (hv : v.ok = true) :
    Calls Tryz.prog 104 #[.int .i64 v.k, .int .i64 v.s.size] w fun e w' => e = .returned (.int .i64 (sizeV v)) ∧ w = w' := by
  have h := valueSize_any v.k v.s.size w (by have := ok_text hv; omega) (ok_kind hv)
  have e : (if v.k = 1 then (2 : Int) else if v.k = 2 then 8 else if v.k = 3 then 2 + (v.s.size : Int) else 1) = sizeV v := by
    rw [sizeV_eq]
    (repeat' split) <;> simp
  rw [e] at h
  exact h

/-- How many bytes a row has. -/
def sumV : List Va → Nat
  | [] => 0
  | v :: r => sizeV v + sumV r
theorem sumV_append (r r' : List Va) : sumV (r ++ r') = sumV r + sumV r' := by
  induction r with
  | nil => simp [sumV]
  | cons v r ih => simp [sumV, ih]; omega
theorem sumV_succ (r : List Va) (j : Nat) (h : j < r.length) : sumV (r.take (j + 1)) = sumV (r.take j) + sizeV r[j] := by
  rw [List.take_succ_eq_append_getElem h, sumV_append]; simp [sumV]
theorem sizeV_le {v : Va} (h : v.ok = true) : sizeV v ≤ 66 := by
  rw [sizeV_eq]
  have := ok_text h
  (repeat' split) <;> omega
theorem sumV_le (r : List Va) (h : ∀ v ∈ r, v.ok = true) : sumV r ≤ 66 * r.length := by
  induction r with
  | nil => simp [sumV]
  | cons v r ih =>
    have := sizeV_le (h v (by simp))
    have := ih (fun u hu => h u (by simp [hu]))
    simp [sumV]; omega
theorem okR_parts {r : List Va} (h : okR r = true) : r.length ≤ 32 ∧ ∀ v ∈ r, v.ok = true := by
  simp only [okR, Bool.and_eq_true, decide_eq_true_eq, Bool.not_eq_true'] at h
  refine ⟨h.1, fun v hv => ?_⟩
  cases hk : v.ok
  · have hb : badA v = true := by unfold badA; rw [hk]; rfl
    exact absurd (List.any_eq_true.2 ⟨v, hv, hb⟩) (by rw [h.2]; exact Bool.false_ne_true)
  · rfl

set_option maxHeartbeats 1000000 in
theorem size_any (A : Option Addr) (c : Nat) (r : List Va) (w : World) (h : RowAt w A r) (hf : Fine r) (hok : okR r = true) :
    Calls Tryz.prog 82 #[.slice A r.length c] w fun e w' => e = .returned (.int .i64 (1 + sumV r)) ∧ Below w.heap.size w w' := by
  obtain ⟨h32, hall⟩ := okR_parts hok
  have HA := Lib.hid hall
  have HK := Lib.hid (rowCheck_b true A c r w h hf (by omega) hok)
  clear hall hok
  go_enter Tryz.func82, Tryz.ntmps82
  go_wp2_with fail
  refine HK.out.mono ?_
  rintro e w1 ⟨rfl, hb1⟩
  go_wp2_with fail
  go_loopw [3, 11] (fun s i wr => ∃ j S : Nat, j ≤ r.length ∧ i = .int .i64 j ∧ s = .int .i64 S ∧ S ≤ 66 * j + 1 ∧ Below w.heap.size w wr ∧ Hid (S = 1 + sumV (r.take j))) (fun _ i _ => r.length - (intOf i).toNat)
  case atStart => exact ⟨0, 1, Nat.zero_le _, rfl, rfl, by omega, hb1, Lib.hid (by simp [sumV])⟩
  case round =>
    obtain ⟨j, S, hj, rfl, rfl, hS, hB, HS⟩ := hrel
    have hr := h.kept hB
    clear hb1
    by_cases hlt : j < r.length
    · obtain ⟨b, off, rfl, hb, c0, c1, c2⟩ := hr.at hlt
      have hz := hf.at hlt
      have HV := Lib.hid (HA.out r[j] (List.getElem_mem hlt))
      have HN := Lib.hid (sumV_succ r j hlt)
      have hle := sizeV_le HV.out
      generalize r[j] = v at c0 c1 c2 hz HV HN hle
      clear hr
      go_wp2_with fail
      refine (sizeOne v _ HV.out).mono ?_
      rintro e w2 ⟨rfl, rfl⟩
      generalize sizeV v = sv at hle HN ⊢
      go_wp2_with fail
      go_roundw
      case rel => exact ⟨j + 1, S + sv, by omega, by go_num, by go_num, by omega, bt hB (ba _ _), Lib.hid (by rw [HN.out, HS.out]; omega)⟩
      case measure => simp [intOf]; omega
    · have HE := Lib.hid (show S = 1 + sumV r by rw [HS.out, List.take_of_length_le (by omega)])
      go_wp2_with fail
      go_ret
      exact ⟨ret_int (by rw [HE.out]; simp), hB⟩

set_option maxHeartbeats 400000 in
theorem size_no (A : Option Addr) (c : Nat) (r : List Va) (w : World) (h : RowAt w A r) (hf : Fine r) (hl : r.length ≤ 9223372036854775807) (hok : okR r = false) :
    Calls Tryz.prog 82 #[.slice A r.length c] w fun e w' => e = .returned (.int .i64 0) ∧ Below w.heap.size w w' := by
  have HK := Lib.hid (rowCheck_b false A c r w h hf hl hok)
  clear hok h hf
  go_enter Tryz.func82, Tryz.ntmps82
  go_wp2_with fail
  refine HK.out.mono ?_
  rintro e w1 ⟨rfl, hb1⟩
  go_wp2_with fail
  go_ret
  exact ⟨rfl, hb1⟩

end Go.Proofs.YtmjckdgomlppeaaGreatDoor
end
