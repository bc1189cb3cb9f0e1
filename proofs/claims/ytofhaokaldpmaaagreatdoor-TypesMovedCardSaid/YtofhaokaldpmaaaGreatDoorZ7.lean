/-
  pick for Aggs.
The contracts of the document's own Digits and Show.
The document's Show.
  The document's Show, of whole expressions.
Same, of two expressions; the document's Same.
Columns, Aggs: pick's wrappers.
  The contracts of package expr, of values that hold expressions; operations upon them.
put, by induction; whole.
Bind, Move and their closures.
What types have: the plain answers; goesFor, only, compared, columnType, aggType.
The document's Depth and Safe.
-/
import Derived.Test.YtofhaokaldpmaaaGreatDoorZ6
import Derived.Deep.RegionHeld3
import Derived.BigRegion
import Derived.Deep.MidRow
import Derived.Great.BuildSlice
section
namespace Go.Proofs.YtofhaokaldpmaaaGreatDoor
open Go.RowKit Go.Shelf
attribute [local go_sem] Oper.semAt_some

end Go.Proofs.YtofhaokaldpmaaaGreatDoor
end
section
namespace Go.Proofs.YtofhaokaldpmaaaGreatDoor
open Go.RowKit Go.Shelf

abbrev tens : ByteArray := ⟨#[48, 49, 50, 51, 52, 53, 54, 55, 56, 57]⟩
theorem tens_at (d : Nat) (hd : d < 10) (acc : List UInt8) : tens.extract d (d + 1) ++ bstr acc = bstr (UInt8.ofNat (48 + d) :: acc) := by
  have h : ∀ d : Fin 10, tens.extract d.1 (d.1 + 1) = bstr [UInt8.ofNat (48 + d.1)] := by decide +kernel
  have := h ⟨d, hd⟩
  simp only at this
  rw [this]
  apply ByteArray.ext
  simp [bstr]
theorem dec_small {u : Nat} (h : u < 10) : Lib.decDigits u = [UInt8.ofNat (48 + u)] := by rw [Lib.decDigits, dif_pos h]
theorem dec_big {u : Nat} (h : ¬ u < 10) : Lib.decDigits u = Lib.decDigits (u / 10) ++ [UInt8.ofNat (48 + u % 10)] := by rw [Lib.decDigits, dif_neg h]
theorem dec_len : ∀ u : Nat, (Lib.decDigits u).length ≤ u + 1 := by
  intro u
  induction u using Nat.strongRecOn with
  | _ u ih =>
    by_cases h : u < 10
    · rw [dec_small h]; simp
    · rw [dec_big h]
      have := ih (u / 10) (by omega)
      simp; omega

/-- What is left, and what has been told, of a number's digits. -/
def DigAt (N m : Nat) (acc : List UInt8) : Prop := (m = N ∧ acc = []) ∨ (acc ≠ [] ∧ (if m = 0 then [] else Lib.decDigits m) ++ acc = Lib.decDigits N)
theorem dig_next {N m : Nat} {acc : List UInt8} (h : DigAt N m acc) (hgo : 0 < m ∨ acc = []) : DigAt N (m / 10) (UInt8.ofNat (48 + m % 10) :: acc) := by
  refine .inr ⟨by simp, ?_⟩
  have e : (if m / 10 = 0 then [] else Lib.decDigits (m / 10)) ++ [UInt8.ofNat (48 + m % 10)] = Lib.decDigits m := by
    by_cases hm : m < 10
    · rw [dec_small hm, if_pos (by omega), Nat.mod_eq_of_lt hm]; rfl
    · rw [dec_big hm, if_neg (by omega)]
  rw [← List.singleton_append, ← List.append_assoc, e]
  rcases h with ⟨rfl, rfl⟩ | ⟨ha, he⟩
  · simp
  · have hm : m ≠ 0 := by rcases hgo with h | h; omega; exact absurd h ha
    rw [if_neg hm] at he
    exact he
theorem dig_end {N : Nat} {acc : List UInt8} (h : DigAt N 0 acc) (ha : acc ≠ []) : acc = Lib.decDigits N := by
  rcases h with ⟨_, h⟩ | ⟨_, h⟩
  · exact absurd h ha
  · simpa using h
theorem dig_len {N m : Nat} {acc : List UInt8} (h : DigAt N m acc) : acc.length ≤ N + 1 := by
  rcases h with ⟨_, rfl⟩ | ⟨_, h⟩
  · simp
  · have h1 := congrArg List.length h
    have h2 := dec_len N
    rw [List.length_append] at h1
    omega
theorem bstr_size (l : List UInt8) : (bstr l).size = l.length := by
  show l.toArray.size = _
  simp
/-- How far the loop has to go. -/
def digLeft (n s : Value) : Nat := (intOf n).toNat + (match s with | .string b => (if b.size = 0 then 1 else 0) | _ => 0)
theorem digLeft_at (m : Nat) (acc : List UInt8) : digLeft (.int .i64 m) (.string (bstr acc)) = m + (if acc.length = 0 then 1 else 0) := by
  simp [digLeft, intOf, bstr_size]
theorem bstr_list (l : List UInt8) : (bstr l).toList = l := by rw [ByteArray.toList_eq]; simp [bstr]

theorem dbl_snoc (l : List UInt8) (c : UInt8) : dbl (l ++ [c]) = dbl l ++ (if c = 39 then [39, 39] else [c]) := by
  simp [dbl]
theorem take_snoc (s : ByteArray) (k : Nat) (h : k < s.size) : s.data.toList.take (k + 1) = s.data.toList.take k ++ [s[k]] := by
  rw [List.take_succ_eq_append_getElem (by simpa using h)]; rfl
/-- The text so far: a quote, and the first k letters, each quote of them doubled. -/
def shownTo (s : ByteArray) (k : Nat) : List UInt8 := 39 :: dbl (s.data.toList.take k)
theorem shown_len (s : ByteArray) (k : Nat) : (shownTo s k).length ≤ 2 * k + 1 := by
  have h := dbl_le (s.data.toList.take k)
  have : (s.data.toList.take k).length ≤ k := List.length_take_le _ _
  unfold shownTo
  simp
  omega
theorem one_of (s : ByteArray) (k : Nat) (h : k < s.size) : s.extract k (k + 1) = bstr [s[k]] := by
  apply ByteArray.ext
  rw [ByteArray.data_extract]
  apply Array.ext'
  rw [Array.toList_extract]
  have hk : k < s.data.toList.length := by simpa using h
  simp only [bstr, List.extract_eq_take_drop, Nat.add_sub_cancel_left]
  rw [List.drop_eq_getElem_cons hk]
  rfl
theorem shown_one (s : ByteArray) (k : Nat) (h : k < s.size) : bstr (shownTo s k) ++ s.extract k (k + 1) = bstr (shownTo s k ++ [s[k]]) := by
  rw [one_of s k h]
  apply ByteArray.ext
  simp [bstr]
theorem shown_q (l : List UInt8) : bstr l ++ qt = bstr (l ++ [39]) := by
  apply ByteArray.ext
  simp [bstr]

theorem shown_next_q (s : ByteArray) (k : Nat) (h : k < s.size) (hc : ((s[k].toNat : Int) == 39) = true) : bstr (shownTo s k) ++ s.extract k (k + 1) ++ qt = bstr (shownTo s (k + 1)) := by
  have e : s[k] = 39 := by
    apply UInt8.toNat_inj.1
    have : (s[k].toNat : Int) = 39 := by simpa using hc
    show s[k].toNat = 39
    omega
  rw [shown_one s k h, shown_q]
  congr 1
  unfold shownTo
  rw [take_snoc s k h, dbl_snoc, e, if_pos rfl]
  simp
theorem shown_next (s : ByteArray) (k : Nat) (h : k < s.size) (hc : ((s[k].toNat : Int) == 39) = false) : bstr (shownTo s k) ++ s.extract k (k + 1) = bstr (shownTo s (k + 1)) := by
  have e : ¬ s[k] = 39 := by
    intro he
    rw [he] at hc
    exact absurd hc (by decide)
  rw [shown_one s k h]
  congr 1
  unfold shownTo
  rw [take_snoc s k h, dbl_snoc, if_neg e]
  simp

end Go.Proofs.YtofhaokaldpmaaaGreatDoor
end
section
namespace Go.Proofs.YtofhaokaldpmaaaGreatDoor
section
open Go.RowKit Go.Shelf

/-- The signs, as the document lays them. -/
def sgnCells : Array Value := (btw.map fun b => Value.string ⟨b.toArray⟩).toArray
theorem sgnCells_at (w : World) {j : Nat} {b : List UInt8} (h : btw[j]? = some b) : (w.alloc (.cells sgnCells 9)).cell? ⟨w.heap.size, j, none⟩ = some (.string ⟨b.toArray⟩) := by
  have hn := (MapKept.heap_alloc w (.cells sgnCells 9)).1
  unfold World.cell?
  rw [hn]
  simp [sgnCells, h]
def wrd : List (List UInt8) := [[], [67, 79, 85, 78, 84], [67, 79, 85, 78, 84], [83, 85, 77], [77, 73, 78], [77, 65, 88]]
def wrdCells : Array Value := (wrd.map fun b => Value.string ⟨b.toArray⟩).toArray
theorem wrdCells_is : wrdCells = #[.string ⟨#[]⟩, .string ⟨#[67, 79, 85, 78, 84]⟩, .string ⟨#[67, 79, 85, 78, 84]⟩, .string ⟨#[83, 85, 77]⟩, .string ⟨#[77, 73, 78]⟩, .string ⟨#[77, 65, 88]⟩] := by rfl
theorem wrdCells_at (w : World) {j : Nat} {b : List UInt8} (h : wrd[j]? = some b) : (w.alloc (.cells wrdCells 9)).cell? ⟨w.heap.size, j, none⟩ = some (.string ⟨b.toArray⟩) := by
  have hn := (MapKept.heap_alloc w (.cells wrdCells 9)).1
  unfold World.cell?
  rw [hn]
  simp [wrdCells, h]
end
section
open Go.RowKit Go.Shelf

end
end Go.Proofs.YtofhaokaldpmaaaGreatDoor
end
section
namespace Go.Proofs.YtofhaokaldpmaaaGreatDoor
open Go.RowKit Go.Shelf

theorem run_neV (k n : Int) (s : ByteArray) (k' n' : Int) (s' : ByteArray) (w : World) :
    (binOp .neq 32 (VV k n s) (VV k' n' s')).run Tryz.prog w = .ok (.bool (!eqV k n s k' n' s')) w := by
  have u3 := Tryz.underlying3
  have a3 := Tryz.isAgg3
  have z3 := Tryz.sizeOf3
  have u9 := Tryz.underlying9
  have a9 := Tryz.isAgg9
  have z9 := Tryz.sizeOf9
  have hS : Tryz.prog.underlying 32 = some (.struct (Tryz.prog.fieldsOf 32)) := by kernel_rfl
  have hp : Tryz.prog.stoodInHeld 32 = false := by kernel_rfl
  rw [run_neq_struct, show (10000 : Nat) = 9999 + 1 from rfl, run_equalIn_agg w 9999 32 _ _ hS hp]
  simp only [Program.fieldsOf, Tryz.underlying32]
  go_simp
  unfold eqV
  by_cases h1 : k = k' <;> by_cases h2 : n = n' <;> by_cases h3 : s.toList = s'.toList <;> simp [h1, h2, h3]
/-- Are two heads the same? -/
def hdEq (h h' : Hd) : Bool := h.k == h'.k && h.n == h'.n && eqV h.vk h.vn h.vs h'.vk h'.vn h'.vs && h.tab.toList == h'.tab.toList && h.col.toList == h'.col.toList
mutual
def sameX : Ex → Ex → Bool
  | .mk h l, .mk h' l' => hdEq h h' && sameXs l l'
def sameXs : List Ex → List Ex → Bool
  | [], [] => true
  | x :: r, y :: r' => sameX x y && sameXs r r'
  | [], _ :: _ => false
  | _ :: _, [] => false
end
theorem sameX_mk (h h' : Hd) (l l' : List Ex) : sameX (.mk h l) (.mk h' l') = (hdEq h h' && sameXs l l') := by rw [sameX]
theorem sameXs_len : ∀ (l l' : List Ex), l.length ≠ l'.length → sameXs l l' = false
  | [], [], h => absurd rfl h
  | [], _ :: _, _ => by rw [sameXs]
  | _ :: _, [], _ => by rw [sameXs]
  | x :: r, y :: r', h => by
    rw [sameXs, sameXs_len r r' (by simpa using h)]
    simp
theorem sameXs_take : ∀ (l l' : List Ex) (k : Nat) (x y : Ex), l[k]? = some x → l'[k]? = some y → sameXs (l.take (k + 1)) (l'.take (k + 1)) = (sameXs (l.take k) (l'.take k) && sameX x y)
  | [], _, k, x, y, h, _ => by simp at h
  | _ :: _, [], k, x, y, _, h => by simp at h
  | a :: r, b :: r', 0, x, y, h, h' => by
    obtain rfl : a = x := by simpa using h
    obtain rfl : b = y := by simpa using h'
    simp [sameXs]
  | a :: r, b :: r', k + 1, x, y, h, h' => by
    have := sameXs_take r r' k x y (by simpa using h) (by simpa using h')
    rw [List.take_succ_cons, List.take_succ_cons, List.take_succ_cons, List.take_succ_cons, sameXs, sameXs, this, Bool.and_assoc]
theorem sameXs_no : ∀ (l l' : List Ex) (k : Nat), sameXs (l.take k) (l'.take k) = false → l.length = l'.length → sameXs l l' = false
  | [], [], k, h, _ => by simp [sameXs] at h
  | [], _ :: _, _, _, h => by simp at h
  | _ :: _, [], _, _, h => by simp at h
  | a :: r, b :: r', 0, h, _ => by simp [sameXs] at h
  | a :: r, b :: r', k + 1, h, hl => by
    rw [List.take_succ_cons, List.take_succ_cons, sameXs] at h
    rw [sameXs]
    cases hs : sameX a b with
    | false => rfl
    | true =>
      rw [hs, Bool.true_and] at h
      rw [Bool.true_and]
      exact sameXs_no r r' k h (by simpa using hl)
/-- Two parts held against each other. -/
def SamesAt (f : FuncId) (w : World) (x y : Ex) : Prop :=
  ∀ (w1 : World) (A : Option Addr) (cap : Nat) (B : Option Addr) (cap' : Nat), Below w.heap.size w w1 → XsAt w1.heap.size w1 x.kids A → x.kids.length ≤ cap → XsAt w1.heap.size w1 y.kids B → y.kids.length ≤ cap' →
    Calls Tryz.prog f #[XV x.hd A x.kids.length cap, XV y.hd B y.kids.length cap'] w1 fun e w' => e = .returned (.bool (sameX x y)) ∧ Below w1.heap.size w1 w'
set_option maxRecDepth 100000 in
set_option maxHeartbeats 16000000 in
theorem refSame_n : ∀ (N : Nat) (h h' : Hd) (l l' : List Ex), cnt (.mk h l) ≤ N → N ≤ 1000000 → cnt (.mk h' l') ≤ 1000000 → ∀ (w : World) (A : Option Addr) (cap : Nat) (B : Option Addr) (cap' : Nat), XsAt w.heap.size w l A → l.length ≤ cap → XsAt w.heap.size w l' B → l'.length ≤ cap' →
    Calls Tryz.prog 17 #[XV h A l.length cap, XV h' B l'.length cap'] w fun e w' => e = .returned (.bool (sameX (.mk h l) (.mk h' l'))) ∧ Below w.heap.size w w' := by
  intro N
  induction N with
  | zero => intro h h' l l' hc; have := cnt_pos (.mk h l); omega
  | succ N ih =>
    intro h h' l l' hc hN hc' w A cap B cap' hX hcap hY hcap'
    have hba := ba2 w (xbox h A l.length cap) (xbox h' B l'.length cap')
    have HX0 := Lib.hid (((ba (w.alloc (xbox h A l.length cap)) (xbox h' B l'.length cap')).block w.heap.size (by rw [World.size_alloc]; omega)).trans (MapKept.heap_alloc w (xbox h A l.length cap)).1)
    have HX1 := Lib.hid ((MapKept.heap_alloc (w.alloc (xbox h A l.length cap)) (xbox h' B l'.length cap')).1)
    rw [World.size_alloc] at HX1
    have hlen := cntL_len l
    have hlen' := cntL_len l'
    rw [cnt_mk] at hc hc'
    have HI := Lib.hid (show ∀ (i : Nat) x y, l[i]? = some x → l'[i]? = some y → SamesAt 17 w x y from fun i x y hx hy => by
      obtain ⟨hx1, lx⟩ := x
      obtain ⟨hy1, ly⟩ := y
      have h1 := cntL_mem hx
      have h2 := cntL_mem hy
      exact fun w1 A1 c1 B1 c2 _ hx2 hlx hy2 hly => ih hx1 hy1 lx ly (by omega) (by omega) (by omega) w1 A1 c1 B1 c2 hx2 hlx hy2 hly)
    have HBa := Lib.hid hba
    have HXl := Lib.hid hX
    have HYl := Lib.hid hY
    have HS := Lib.hid (sameX_mk h h' l l')
    have hl6 : l.length ≤ 1000000 := by omega
    have hl7 : l'.length ≤ 1000000 := by omega
    clear hX hY ih hba
    obtain ⟨k, n, vk, vn, vs, tab, col⟩ := h
    obtain ⟨k', n', vk', vn', vs', tab', col'⟩ := h'
    have hq := fun w1 => run_neV vk vn vs vk' vn' vs' w1
    obtain ⟨b3, hb3⟩ : ∃ b, eqV vk vn vs vk' vn' vs' = b := ⟨_, rfl⟩
    obtain ⟨b1, hb1⟩ : ∃ b, (k == k') = b := ⟨_, rfl⟩
    obtain ⟨b2, hb2⟩ : ∃ b, (n == n') = b := ⟨_, rfl⟩
    obtain ⟨b4, hb4⟩ : ∃ b, (tab.toList == tab'.toList) = b := ⟨_, rfl⟩
    obtain ⟨b5, hb5⟩ : ∃ b, (col.toList == col'.toList) = b := ⟨_, rfl⟩
    rw [hb3] at hq
    have HS2 := Lib.hid (show sameX (.mk ⟨k, n, vk, vn, vs, tab, col⟩ l) (.mk ⟨k', n', vk', vn', vs', tab', col'⟩ l') = (b1 && b2 && b3 && b4 && b5 && sameXs l l') by rw [HS.out, hdEq]; simp only [hb1, hb2, hb3, hb4, hb5])
    clear HS hb3
    have hk1 : (k != k') = !b1 := by rw [bne, hb1]
    have hk2 : (n != n') = !b2 := by rw [bne, hb2]
    have hk4 : (tab.toList != tab'.toList) = !b4 := by rw [bne, hb4]
    have hk5 : (col.toList != col'.toList) = !b5 := by rw [bne, hb5]
    by_cases hll : l.length = l'.length
    · have HL := Lib.hid hll
      rw [← hll] at HX0 HX1 HBa ⊢
      clear hll
      rcases (show b1 = false ∨ (b1 = true ∧ b2 = false) ∨ (b1 = true ∧ b2 = true ∧ b3 = false) ∨ (b1 = true ∧ b2 = true ∧ b3 = true ∧ b4 = false) ∨ (b1 = true ∧ b2 = true ∧ b3 = true ∧ b4 = true ∧ b5 = false) ∨ (b1 = true ∧ b2 = true ∧ b3 = true ∧ b4 = true ∧ b5 = true) by cases b1 <;> cases b2 <;> cases b3 <;> cases b4 <;> cases b5 <;> simp) with hz | ⟨hz, hz2⟩ | ⟨hz, hz2, hz3⟩ | ⟨hz, hz2, hz3, hz4⟩ | ⟨hz, hz2, hz3, hz4, hz5⟩ | ⟨hz, hz2, hz3, hz4, hz5⟩
      all_goals
        subst hz
        try subst hz2
        try subst hz3
        try subst hz4
        try subst hz5
        go_enter Tryz.func17, Tryz.ntmps17
        go_wp2_with fail
      iterate 5
        (go_ret
         exact ⟨ret_bool (by rw [HS2.out]; simp), HBa.out⟩)
      go_loopw [5] (fun i W => ∃ j : Nat, j ≤ l.length ∧ i = .int .i64 j ∧ Hid (sameXs (l.take j) (l'.take j) = true) ∧ Hid (Below ((w.alloc (xbox ⟨k, n, vk, vn, vs, tab, col⟩ A l.length cap)).alloc (xbox ⟨k', n', vk', vn', vs', tab', col'⟩ B l.length cap')).heap.size ((w.alloc (xbox ⟨k, n, vk, vn, vs, tab, col⟩ A l.length cap)).alloc (xbox ⟨k', n', vk', vn', vs', tab', col'⟩ B l.length cap')) W)) (fun i _ => l.length - (intOf i).toNat)
      case atStart => exact ⟨0, Nat.zero_le _, rfl, Lib.hid (by simp [sameXs]), Lib.hid (Below.refl _ _)⟩
      case round =>
        obtain ⟨j, hj, rfl, HSm, HW⟩ := hrel
        obtain ⟨⟨_, _, _, _, _, _, _, p7⟩, _⟩ := cell8 ((HW.out.block w.heap.size (by rw [World.size_alloc, World.size_alloc]; omega)).trans HX0.out)
        obtain ⟨⟨_, _, _, _, _, _, _, q7⟩, _⟩ := cell8 ((HW.out.block (w.heap.size + 1) (by rw [World.size_alloc, World.size_alloc]; omega)).trans HX1.out)
        have hbw := bt HBa.out HW.out
        by_cases hkl : j < l.length
        · obtain ⟨x, hx⟩ : ∃ x, l[j]? = some x := ⟨_, List.getElem?_eq_getElem hkl⟩
          obtain ⟨y, hy⟩ : ∃ y, l'[j]? = some y := ⟨_, List.getElem?_eq_getElem (by have := HL.out; omega)⟩
          obtain ⟨⟨k1, n1, vk1, vn1, vs1, tab1, col1⟩, lx⟩ := x
          obtain ⟨⟨k2, n2, vk2, vn2, vs2, tab2, col2⟩, ly⟩ := y
          obtain ⟨g, o, A1, c1', rfl, hg, hXc, hlx, hx2⟩ := HXl.out.at hx
          obtain ⟨g', o', B1, c2', rfl, hg', hYc, hly, hy2⟩ := HYl.out.at hy
          have HT := Lib.hid (sameXs_take l l' j _ _ hx hy)
          have HNo := Lib.hid (fun hf => sameXs_no l l' (j + 1) hf HL.out)
          obtain ⟨a0, a1, a2, a3, a4, a5, a6, a7⟩ := hXc.of (hbw.block g hg)
          obtain ⟨d0, d1, d2, d3, d4, d5, d6, d7⟩ := hYc.of (hbw.block g' hg')
          have hgr : g < wr.heap.size := Nat.lt_of_lt_of_le hg hbw.size
          have hgr' : g' < wr.heap.size := Nat.lt_of_lt_of_le hg' hbw.size
          have hs1 : w.heap.size < wr.heap.size := by have := HW.out.size; rw [World.size_alloc, World.size_alloc] at this; omega
          have hs2 : w.heap.size + 1 < wr.heap.size := by have := HW.out.size; rw [World.size_alloc, World.size_alloc] at this; omega
          obtain ⟨bs, hbs⟩ : ∃ b, sameX (.mk ⟨k1, n1, vk1, vn1, vs1, tab1, col1⟩ lx) (.mk ⟨k2, n2, vk2, vn2, vs2, tab2, col2⟩ ly) = b := ⟨_, rfl⟩
          have HC := Lib.hid (show ∀ w1, Below wr.heap.size wr w1 → Calls Tryz.prog 17 #[XV ⟨k1, n1, vk1, vn1, vs1, tab1, col1⟩ A1 lx.length c1', XV ⟨k2, n2, vk2, vn2, vs2, tab2, col2⟩ B1 ly.length c2'] w1 fun e w' => e = .returned (.bool bs) ∧ Below w1.heap.size w1 w' from fun w1 hb1 => by
            rw [← hbs]
            exact HI.out j _ _ hx hy w1 A1 c1' B1 c2' (bt hbw hb1) (XsAt.next hx2 (bt hbw hb1)) hlx (XsAt.next hy2 (bt hbw hb1)) hly)
          rw [hbs] at HT
          have HBw := Lib.hid hbw
          have hBd := Below.drew (Below.refl wr.heap.size wr)
          simp only at a0 a1 a2 a3 a4 a5 a6 a7 d0 d1 d2 d3 d4 d5 d6 d7
          clear hXc hYc hx hy hx2 hy2 hbw hbs
          cases bs
          all_goals
            go_wp2_with fail
            go_region_held3 (fun w' => Below wr.heap.size wr w' ∧ w'.cell? ⟨w.heap.size, 7, none⟩ = some (.slice (some ⟨g, o, none⟩) l.length cap) ∧ w'.cell? ⟨w.heap.size + 1, 7, none⟩ = some (.slice (some ⟨g', o', none⟩) l.length cap') ∧
                w'.cell? ⟨g, o + j * 8, none⟩ = some (.int .i64 k1) ∧ w'.cell? ⟨g, o + j * 8 + 1, none⟩ = some (.int .i64 n1) ∧ w'.cell? ⟨g, o + j * 8 + 2, none⟩ = some (.int .i64 vk1) ∧ w'.cell? ⟨g, o + j * 8 + 3, none⟩ = some (.int .i64 vn1) ∧
                w'.cell? ⟨g, o + j * 8 + 4, none⟩ = some (.string vs1) ∧ w'.cell? ⟨g, o + j * 8 + 5, none⟩ = some (.string tab1) ∧ w'.cell? ⟨g, o + j * 8 + 6, none⟩ = some (.string col1) ∧ w'.cell? ⟨g, o + j * 8 + 7, none⟩ = some (.slice A1 lx.length c1') ∧
                w'.cell? ⟨g', o' + j * 8, none⟩ = some (.int .i64 k2) ∧ w'.cell? ⟨g', o' + j * 8 + 1, none⟩ = some (.int .i64 n2) ∧ w'.cell? ⟨g', o' + j * 8 + 2, none⟩ = some (.int .i64 vk2) ∧ w'.cell? ⟨g', o' + j * 8 + 3, none⟩ = some (.int .i64 vn2) ∧
                w'.cell? ⟨g', o' + j * 8 + 4, none⟩ = some (.string vs2) ∧ w'.cell? ⟨g', o' + j * 8 + 5, none⟩ = some (.string tab2) ∧ w'.cell? ⟨g', o' + j * 8 + 6, none⟩ = some (.string col2) ∧ w'.cell? ⟨g', o' + j * 8 + 7, none⟩ = some (.slice B1 ly.length c2'))
              (first
                | exact ⟨hBd, p7, q7, a0, a1, a2, a3, a4, a5, a6, a7, d0, d1, d2, d3, d4, d5, d6, d7⟩
                | ((try go_split_ands)
                   refine ⟨?_, ?_, ?_, ?_, ?_, ?_, ?_, ?_, ?_, ?_, ?_, ?_, ?_, ?_, ?_, ?_, ?_, ?_, ?_⟩
                   all_goals first | assumption | (exact Below.drew (by assumption)) | (exact bt (by assumption) hb) | (exact cell_kept hb (by assumption)) | go_keep))
              (first
                | (go_at_call 17; refine (HC.out _ (by first | assumption | exact Below.drew (by assumption))).mono ?_; rintro e w' ⟨rfl, hb⟩))
            rename_i hold
            have HHo := Lib.hid hold.1
            clear hold
          · go_wp2_with fail
            go_ret
            exact ⟨ret_bool (by rw [HS2.out, HNo.out (by rw [HT.out, Bool.and_false])]; simp), bt HBw.out HHo.out⟩
          · go_wp2_with fail
            go_roundw
            case rel => exact ⟨j + 1, by omega, by go_num, Lib.hid (by rw [HT.out, HSm.out]; rfl), Lib.hid (HW.out.trans (HHo.out.mono HW.out.size))⟩
            case measure => simp [intOf]; omega
        · have hkk : j = l.length := by omega
          have HE := Lib.hid (show sameXs l l' = true by have := HSm.out; rwa [hkk, List.take_length, HL.out, List.take_length] at this)
          have HBw := Lib.hid hbw
          clear hbw
          go_wp2_with fail
          go_ret
          exact ⟨ret_bool (by rw [HS2.out, HE.out]; rfl), HBw.out⟩
    · have hle : ((l.length : Int) != (l'.length : Int)) = true := by simp; omega
      have HNo := Lib.hid (sameXs_len l l' hll)
      cases b1 <;> cases b2 <;> cases b3 <;> cases b4 <;> cases b5
      all_goals
        go_enter Tryz.func17, Tryz.ntmps17
        go_wp2_with fail
        go_ret
        exact ⟨ret_bool (by rw [HS2.out, HNo.out]; simp), HBa.out⟩
end Go.Proofs.YtofhaokaldpmaaaGreatDoor
end
section
namespace Go.Proofs.YtofhaokaldpmaaaGreatDoor
section
open Go.RowKit Go.Shelf
attribute [local go_sem] Oper.semAt_some

theorem columns_any (h : Hd) (lk : List Ex) (A : Option Addr) (cap : Nat) (w : World) (hX : XsAt w.heap.size w lk A) (hcap : lk.length ≤ cap) (hsm : AllSm (.mk h lk)) (hc : cnt (.mk h lk) ≤ 999999) (hT : Tabs w) :
    Calls Tryz.prog 40 #[XV h A lk.length cap] w (ListBack w (if okX (.mk h lk) = true then kndX 2 (.mk h lk) else [])) := by
  have hb0 := ba w (xbox h A lk.length cap)
  have HC := Lib.hid (pick2_any h lk A cap _ (XsAt.next hX hb0) hcap hsm hc (hT.kept hb0))
  have HX1 := Lib.hid (MapKept.heap_alloc w (xbox h A lk.length cap)).1
  obtain ⟨⟨y0, y1, y2, y3, y4, y5, y6, y7⟩, _⟩ := cell8 HX1.out
  have HB0 := Lib.hid hb0
  obtain ⟨L, hL⟩ : ∃ L, (if okX (.mk h lk) = true then kndX 2 (.mk h lk) else []) = L := ⟨_, rfl⟩
  rw [hL] at HC ⊢
  clear hX hT hb0 hsm hL
  go_enter Tryz.func40, Tryz.ntmps40
  go_wp2_with fail
  refine HC.out.mono ?_
  rintro e w1 ⟨A1, c1, rfl, hl, hx, hb⟩
  have HX := Lib.hid hx
  have HB := Lib.hid (bt HB0.out hb)
  clear hb hx
  go_wp2_with fail
  go_ret
  exact ⟨A1, c1, rfl, hl, HX.out, HB.out⟩
end
section
open Go.RowKit Go.Shelf
attribute [local go_sem] Oper.semAt_some

def EV (x : Ex) (v : Value) (w : World) : Prop := ∃ A cap, v = XV x.hd A x.kids.length cap ∧ x.kids.length ≤ cap ∧ XsAt w.heap.size w x.kids A
def LV (l : List Ex) (v : Value) (w : World) : Prop := ∃ A cap, v = .slice A l.length cap ∧ l.length ≤ cap ∧ XsAt w.heap.size w l A
theorem EV.next {x : Ex} {v : Value} {w w' : World} (hb : Bel w w') (h : EV x v w) : EV x v w' := by
  obtain ⟨A, cap, e, hl, hx⟩ := h
  exact ⟨A, cap, e, hl, XsAt.next hx hb⟩
theorem LV.next {l : List Ex} {v : Value} {w w' : World} (hb : Bel w w') (h : LV l v w) : LV l v w' := by
  obtain ⟨A, cap, e, hl, hx⟩ := h
  exact ⟨A, cap, e, hl, XsAt.next hx hb⟩
theorem EV.keeps (x : Ex) : Keeps Bel (EV x) := fun _ _ _ hb h => EV.next hb h
theorem LV.keeps (l : List Ex) : Keeps Bel (LV l) := fun _ _ _ hb h => LV.next hb h
theorem EV.leaf (h : Hd) (w : World) : EV (.mk h []) (XV h none 0 0) w := ⟨none, 0, rfl, Nat.le_refl _, by show XsB _ _ [] _; rw [XsB]; trivial⟩
theorem LV.nil (w : World) : LV [] (.slice none 0 0) w := ⟨none, 0, rfl, Nat.le_refl _, by rw [XsAt, XsB]; trivial⟩
theorem EV.mk' {l : List Ex} {v : Value} {w : World} (h : Hd) (hl : LV l v w) : ∃ A cap, v = .slice A l.length cap ∧ EV (.mk h l) (XV h A l.length cap) w := by
  obtain ⟨A, cap, e, hle, hx⟩ := hl
  exact ⟨A, cap, e, A, cap, rfl, hle, hx⟩
theorem LV.ofBack {w w' : World} {l : List Ex} {e : Ending} (h : ListBack w l e w') : ∃ v, e = .returned v ∧ Bel w w' ∧ LV l v w' := by
  obtain ⟨A, cap, rfl, hl, hx, hb⟩ := h
  exact ⟨_, rfl, hb, A, cap, rfl, hl, hx⟩
theorem EV.ofCopy {w w' : World} {x : Ex} {e : Ending} (h : CopyE w x e w') : ∃ v, e = .returned v ∧ Bel w w' ∧ EV x v w' := by
  obtain ⟨A, cap, rfl, hl, hx, hb⟩ := h
  exact ⟨_, rfl, hb, A, cap, rfl, hl, XsB.go (fun _ _ => rfl) (fun k hk => hk.2) _ _ hx⟩

/-! The program's own. -/
theorem ev_check {x : Ex} {v : Value} {w : World} (h : EV x v w) (hsm : AllSm x) (hc : cnt x ≤ 999999) (hT : Tabs w) {c : Int} (e : chkI x = c) :
    Calls Tryz.prog 33 #[v] w fun e w' => ∃ u, e = .returned u ∧ Bel w w' ∧ u = .int .i64 c := by
  obtain ⟨hd, l⟩ := x
  obtain ⟨A, cap, rfl, hl, hx⟩ := h
  refine (xcheck_any hd l A cap w hx hl hsm hc hT).mono ?_
  rintro _ w' ⟨rfl, hb⟩
  exact ⟨_, rfl, hb, by rw [e]⟩
theorem ev_columns {x : Ex} {v : Value} {w : World} (h : EV x v w) (hsm : AllSm x) (hc : cnt x ≤ 999999) (hT : Tabs w) :
    Calls Tryz.prog 40 #[v] w fun e w' => ∃ u, e = .returned u ∧ Bel w w' ∧ LV (if okX x = true then kndX 2 x else []) u w' := by
  obtain ⟨hd, l⟩ := x
  obtain ⟨A, cap, rfl, hl, hx⟩ := h
  exact (columns_any hd l A cap w hx hl hsm hc hT).mono fun _ _ h => LV.ofBack h
theorem ev_arity {n : Int} {w : World} {c : Int} (e : arI n = c) :
    Calls Tryz.prog 94 #[.int .i64 n] w fun e w' => ∃ u, e = .returned u ∧ Bel w w' ∧ u = .int .i64 c :=
  (arity_any n w).mono fun _ w' ⟨h1, h2⟩ => ⟨_, h1, by rw [h2]; exact Below.refl _ _, by rw [e]⟩

/-! Operations. -/
section
variable {o : Oper} {a : Act} {w : World}
theorem info_is : ∃ i, Tryz.prog.info? 35 = some i ∧ i.zero = some (XV ⟨0, 0, 0, 0, ⟨#[]⟩, ⟨#[]⟩, ⟨#[]⟩⟩ none 0 0) ∧ i.size = 8 ∧ i.bytes = 104 := infoE_parts info_expr
theorem XC.range {g p : Nat} {h : Hd} {A : Option Addr} {len cap : Nat} (c : XC w g p h A len cap) : w.rangeAt g p [.int .i64 h.k, .int .i64 h.n, .int .i64 h.vk, .int .i64 h.vn, .string h.vs, .string h.tab, .string h.col, .slice A len cap] := by
  intro j v hj
  obtain ⟨c0, c1, c2, c3, c4, c5, c6, c7⟩ := c
  have hl : j < 8 := by have := (List.getElem?_eq_some_iff.1 hj).1; simpa using this
  rcases (show j = 0 ∨ j = 1 ∨ j = 2 ∨ j = 3 ∨ j = 4 ∨ j = 5 ∨ j = 6 ∨ j = 7 by omega) with rfl | rfl | rfl | rfl | rfl | rfl | rfl | rfl
  all_goals
    simp only [List.getElem?_cons_zero, List.getElem?_cons_succ, Option.some.injEq] at hj
    subst hj
    assumption
theorem run_ldE {x : Operand} (ho : o.op = .load 35 x) {g p : Nat} {h : Hd} {A : Option Addr} {len cap : Nat} (hx : a.eval x = .pointer (some ⟨g, p, none⟩)) (hc : XC w g p h A len cap) :
    (execOp a.eval o).run Tryz.prog w = .ok (.value (XV h A len cap)) w := by
  unfold execOp
  simp only [ho, hx]
  rw [Sem.run_bind, run_loadAt_mid w g p 35 _ _ hc.range Tryz.underlying35 rfl (by kernel_rfl)]
  rfl
theorem XC.ofBox {u : Nat} {h : Hd} {A : Option Addr} {len cap : Nat} (e : w.heap[u]? = some (xbox h A len cap)) : XC w u 0 h A len cap := by
  obtain ⟨⟨c0, c1, c2, c3, c4, c5, c6, c7⟩, _⟩ := cell8 e
  exact ⟨c0, c1, c2, c3, c4, c5, c6, c7⟩
theorem run_alloc8 (ho : o.op = .alloc 35) : (execOp a.eval o).run Tryz.prog w = .ok (.value (.pointer (some ⟨w.heap.size, 0, none⟩))) (w.alloc x0) := by
  unfold execOp
  simp only [ho]
  go_simp
theorem run_zeroE (ho : o.op = .build 35 #[]) : (execOp a.eval o).run Tryz.prog w = .ok (.value (XV ⟨0, 0, 0, 0, ⟨#[]⟩, ⟨#[]⟩, ⟨#[]⟩⟩ none 0 0)) w := by
  unfold execOp
  simp only [ho]
  go_simp
theorem bs1_run (h : Hd) (A : Option Addr) (len cap : Nat) : (Instr.buildSlice 33 1 #[(0, XV h A len cap)]).run Tryz.prog w = .ok (.slice (some ⟨w.heap.size, 0, none⟩) 1 1) (w.alloc (.cells (xcell (h, A, len, cap)).toArray 35)) := by
  go_simp
  rfl
theorem bs2_run (h h' : Hd) (A A' : Option Addr) (len cap len' cap' : Nat) : (Instr.buildSlice 33 2 #[(0, XV h A len cap), (1, XV h' A' len' cap')]).run Tryz.prog w = .ok (.slice (some ⟨w.heap.size, 0, none⟩) 2 2) (w.alloc (.cells (xcell (h, A, len, cap) ++ xcell (h', A', len', cap')).toArray 35)) := by
  go_simp
  rfl
theorem run_bs1 {x : Operand} (ho : o.op = .buildSlice 33 1 #[(0, x)]) {h : Hd} {A : Option Addr} {len cap : Nat} (hx : a.eval x = XV h A len cap) :
    (execOp a.eval o).run Tryz.prog w = .ok (.value (.slice (some ⟨w.heap.size, 0, none⟩) 1 1)) (w.alloc (.cells (xcell (h, A, len, cap)).toArray 35)) := by
  unfold execOp
  simp only [ho, List.map_toArray, List.map_cons, List.map_nil, hx]
  rw [Sem.run_bind, bs1_run]
  rfl
theorem run_bs2 {x y : Operand} (ho : o.op = .buildSlice 33 2 #[(0, x), (1, y)]) {h h' : Hd} {A A' : Option Addr} {len cap len' cap' : Nat} (hx : a.eval x = XV h A len cap) (hy : a.eval y = XV h' A' len' cap') :
    (execOp a.eval o).run Tryz.prog w = .ok (.value (.slice (some ⟨w.heap.size, 0, none⟩) 2 2)) (w.alloc (.cells (xcell (h, A, len, cap) ++ xcell (h', A', len', cap')).toArray 35)) := by
  unfold execOp
  simp only [ho, List.map_toArray, List.map_cons, List.map_nil, hx, hy]
  rw [Sem.run_bind, bs2_run]
  rfl
end
theorem LV.made {w : World} {l : List Ex} {q : List XQ} (hq : XRs (fun k => k < w.heap.size) w l q) : LV l (.slice (some ⟨w.heap.size, 0, none⟩) l.length l.length) (w.alloc (.cells (xcells q).toArray 35)) := by
  refine ⟨_, _, rfl, Nat.le_refl _, ?_⟩
  refine XRs.xsB (B := fun k => k < (w.alloc (.cells (xcells q).toArray 35)).heap.size) (by simp) (hq.go (fun k hk => (ba w _).block k hk) (fun k hk => by rw [World.size_alloc]; omega)) fun j u hj => ?_
  have hn := (MapKept.heap_alloc w (.cells (xcells q).toArray 35)).1
  rw [Nat.zero_add]
  unfold World.cell?
  rw [hn]
  simp [hj]
theorem EV.row {x : Ex} {v : Value} {w : World} (h : EV x v w) : ∃ A cap, v = XV x.hd A x.kids.length cap ∧ XR (fun k => k < w.heap.size) w x (x.hd, A, x.kids.length, cap) := by
  obtain ⟨A, cap, e, hl, hx⟩ := h
  exact ⟨A, cap, e, rfl, rfl, hl, hx⟩
theorem wp_bs1 {o : Oper} {a : Act} {w : World} {Q : Exit → Act → World → Prop} {p : Operand} (ho : o.op = .buildSlice 33 1 #[(0, p)]) {x : Ex} (h : EV x (a.eval p) w) :
    o.wp Tryz.prog a w (fun a' w' => ∃ v, a' = a.put o.dst v ∧ Bel w w' ∧ LV [x] v w') Q := by
  obtain ⟨A, cap, e, hr⟩ := h.row
  have hq : XRs (fun k => k < w.heap.size) w [x] [(x.hd, A, x.kids.length, cap)] := .cons hr .nil
  have := LV.made hq
  refine wp_made (run_bs1 ho e) ?_
  simpa [xcells] using this
theorem wp_bs2 {o : Oper} {a : Act} {w : World} {Q : Exit → Act → World → Prop} {p p' : Operand} (ho : o.op = .buildSlice 33 2 #[(0, p), (1, p')]) {x y : Ex} (h : EV x (a.eval p) w) (h' : EV y (a.eval p') w) :
    o.wp Tryz.prog a w (fun a' w' => ∃ v, a' = a.put o.dst v ∧ Bel w w' ∧ LV [x, y] v w') Q := by
  obtain ⟨A, cap, e, hr⟩ := h.row
  obtain ⟨A', cap', e', hr'⟩ := h'.row
  have hq : XRs (fun k => k < w.heap.size) w [x, y] [(x.hd, A, x.kids.length, cap), (y.hd, A', y.kids.length, cap')] := .cons hr (.cons hr' .nil)
  have := LV.made hq
  refine wp_made (run_bs2 ho e e') ?_
  simpa [xcells] using this
end
end Go.Proofs.YtofhaokaldpmaaaGreatDoor
end
section
namespace Go.Proofs.YtofhaokaldpmaaaGreatDoor
open Go.RowKit Go.Shelf
attribute [local go_sem] Oper.semAt_some

set_option maxRecDepth 100000 in
set_option maxHeartbeats 4000000 in
theorem put1_of (pl : Hd → Option Nat) (g p p3 : Nat) (h : Hd) (l : List Ex) (A : Option Addr) (cap : Nat) (w : World) (hf : w.cell? ⟨p3, 0, none⟩ = some (.func (.func g) #[] #[.pointer (some ⟨p, 0, none⟩)]))
    (hput : ∀ W, Below w.heap.size w W → Calls Tryz.prog 47 #[XV h A l.length cap, .func (.func g) #[] #[.pointer (some ⟨p, 0, none⟩)]] W (PutE W (putX pl (.mk h l)))) :
    Calls Tryz.prog 65 #[XV h A l.length cap, .pointer (some ⟨p3, 0, none⟩)] w (PutE w (putX pl (.mk h l))) := by
  have h1 := ba w (xbox h A l.length cap)
  have h2 := bt h1 (ba _ x0)
  have HX := Lib.hid (((ba (w.alloc (xbox h A l.length cap)) x0).block _ (by simp)).trans (MapKept.heap_alloc w (xbox h A l.length cap)).1)
  have HZ0 := Lib.hid (show ((w.alloc (xbox h A l.length cap)).alloc x0).heap[w.heap.size + 1]? = some x0 by
    have := (MapKept.heap_alloc (w.alloc (xbox h A l.length cap)) x0).1
    rwa [World.size_alloc] at this)
  have HF := Lib.hid ((h2.cell (p := ⟨p3, 0, none⟩) (World.block_lt_of_cell? w _ hf)).trans hf)
  have HP := Lib.hid (hput _ h2)
  have HB := Lib.hid h2
  have HS := Lib.hid (show ((w.alloc (xbox h A l.length cap)).alloc x0).heap.size = w.heap.size + 1 + 1 by simp)
  obtain ⟨O, hO⟩ : ∃ O, putX pl (.mk h l) = O := ⟨_, rfl⟩
  rw [hO] at HP ⊢
  clear h1 h2 hf hput hO
  go_enter Tryz.func65, Tryz.ntmps65
  go_upto_region 1 with fail
  generalize (w.alloc (.cells #[.int .i64 h.k, .int .i64 h.n, .int .i64 h.vk, .int .i64 h.vn, .string h.vs, .string h.tab, .string h.col, .slice A l.length cap] 35)).alloc (.cells #[.int .i64 0, .int .i64 0, .int .i64 0, .int .i64 0, .string ⟨#[]⟩, .string ⟨#[]⟩, .string ⟨#[]⟩, .slice none 0 0] 35) = W at HX HZ0 HF HP HB HS ⊢
  obtain ⟨⟨x0, x1, x2, x3, x4, x5, x6, x7⟩, _⟩ := cell8 HX.out
  have hf := HF.out
  go_wp2_with fail
  refine HP.out.mono ?_
  clear HP
  cases O with
  | none =>
    rintro e W3 ⟨rfl, hb⟩
    have HB3 := Lib.hid (bt HB.out hb)
    have hz := (hb.block _ (by have := HS.out; omega)).trans HZ0.out
    obtain ⟨⟨z0, z1, z2, z3, z4, z5, z6, z7⟩, g0, g1, g2, g3, g4, g5, g6, g7⟩ := cell8 hz
    have HZ := Lib.hid (set8_box hz (.int .i64 0) (.int .i64 0) (.int .i64 0) (.int .i64 0) (.string ⟨#[]⟩) (.string ⟨#[]⟩) (.string ⟨#[]⟩) (.slice none 0 0))
    clear hb hz x0 x1 x2 x3 x4 x5 x6 x7 hf HX HZ0 HF
    go_wp2_with fail
    obtain ⟨⟨q0, q1, q2, q3, q4, q5, q6, q7⟩, _⟩ := cell8 HZ.out
    refine bodyPost_ret (v := .tuple #[XV zHd none 0 0, errV 140]) (by simp [results, Tryz.results65, go_sem, q0, q1, q2, q3, q4, q5, q6, q7]) rfl ⟨rfl, ?_⟩
    exact set8_below HB3.out (by omega) _ _ _ _ _ _ _ _
  | some y =>
    obtain ⟨hy, ly⟩ := y
    rintro e W3 ⟨A3, cap3, rfl, hle3, hx3, hb⟩
    simp only [Ex.hd, Ex.kids] at hle3 hx3 ⊢
    have HB3 := Lib.hid (bt HB.out hb)
    have HX3 := Lib.hid (show XsB (fun k => W.heap.size ≤ k ∧ k < W3.heap.size) W3 ly A3 from hx3)
    have HLE := Lib.hid hle3
    have hz := (hb.block _ (by have := HS.out; omega)).trans HZ0.out
    obtain ⟨⟨z0, z1, z2, z3, z4, z5, z6, z7⟩, g0, g1, g2, g3, g4, g5, g6, g7⟩ := cell8 hz
    have HZ := Lib.hid (set8_box hz (.int .i64 hy.k) (.int .i64 hy.n) (.int .i64 hy.vk) (.int .i64 hy.vn) (.string hy.vs) (.string hy.tab) (.string hy.col) (.slice A3 ly.length cap3))
    clear hb hz x0 x1 x2 x3 x4 x5 x6 x7 hf HX HZ0 HF hle3 hx3
    go_wp2_with fail
    obtain ⟨⟨q0, q1, q2, q3, q4, q5, q6, q7⟩, _⟩ := cell8 HZ.out
    refine bodyPost_ret (v := .tuple #[XV hy A3 ly.length cap3, .nilIface]) (by simp [results, Tryz.results65, go_sem, q0, q1, q2, q3, q4, q5, q6, q7]) rfl ⟨A3, cap3, rfl, HLE.out, ?_, ?_⟩
    · exact XsB.go (fun k hk => set8_other (by have := HS.out; have := hk.1; omega) _ _ _ _ _ _ _ _) (fun k hk => ⟨by have := HS.out; have := hk.1; omega, by rw [set8_size]; exact hk.2⟩) _ _ HX3.out
    · exact set8_below HB3.out (by omega) _ _ _ _ _ _ _ _
theorem FitXs_at : ∀ {l : List Ex} {i : Nat} {x : Ex}, FitXs l → l[i]? = some x → FitX x
  | [], i, x, _, h => by simp at h
  | y :: r, 0, x, hF, h => by
    rw [FitXs] at hF
    obtain rfl : y = x := by simpa using h
    exact hF.1
  | y :: r, i + 1, x, hF, h => by
    rw [FitXs] at hF
    exact FitXs_at (l := r) (i := i) hF.2 (by simpa using h)
theorem put_n (Qh : Hd → Prop) (hQ : ∀ h len, fitsB h len = true → h.k = 2 → Qh h) (pl : Hd → Option Nat) (g p : Nat) (P : World → Prop) (hK : ∀ W W', P W → Below W.heap.size W W' → P W')
    (hpl : ∀ (h : Hd) (W : World) A len cap, Qh h → P W → Calls Tryz.prog g #[XV h A len cap, .pointer (some ⟨p, 0, none⟩)] W fun e W' => e = .returned (fnV (pl h)) ∧ Below W.heap.size W W')
    (eg : ∀ args w, (callFunc g args).run Tryz.prog w = .ok (.enter g args) w) : ∀ (N : Nat) (h : Hd) (l : List Ex), cnt (.mk h l) ≤ N → N ≤ 1000000 → FitX (.mk h l) → ∀ (w : World) (A : Option Addr) (cap : Nat), P w → XsAt w.heap.size w l A →
    Calls Tryz.prog 47 #[XV h A l.length cap, .func (.func g) #[] #[.pointer (some ⟨p, 0, none⟩)]] w (PutE w (putX pl (.mk h l))) := by
  intro N
  induction N with
  | zero => intro h l hc; have := cnt_pos (.mk h l); omega
  | succ N ih =>
    intro h l hc hN hF w A cap hP hX
    rw [FitX] at hF
    rw [cnt_mk] at hc
    have hlen := cntL_len l
    refine put_of Qh pl g p P hK hpl eg h l w A cap (hQ h _ hF.1) hP fun W h' HM => ?_
    refine each_of pl (w.heap.size + 1) l (by omega) W A cap (XsAt.next hX HM.bel) fun i h2 l2 hi W1 hb1 A2 cap2 hx2 _ => ?_
    have hc2 := cntL_mem hi
    have hM1 := HM.next hb1
    exact put1_of pl g p (w.heap.size + 1) h2 l2 A2 cap2 W1 (by simp only [World.cell?, hM1.f]; rfl) fun W2 hb2 => ih h2 l2 (by omega) (by omega) (FitXs_at hF.2 hi) W2 A2 cap2 (hK _ _ hP (bt hM1.bel hb2)) (XsAt.next hx2 hb2)
/-- What whole comes to: an expression, or why there is none. -/
def whX (pl : Hd → Option Nat) (x : Ex) : Option Ex × Int := if okX x = true then (match putX pl x with | some y => (some y, 0) | none => (none, 140)) else (none, 100)
def WhE (w : World) (q : Option Ex × Int) (e : Ending) (w' : World) : Prop := match q.1 with
  | some y => ∃ A cap, e = .returned (.tuple #[XV y.hd A y.kids.length cap, .int .i64 q.2]) ∧ y.kids.length ≤ cap ∧ XsB (Bn w.heap.size w') w' y.kids A ∧ Below w.heap.size w w'
  | none => e = .returned (.tuple #[XV zHd none 0 0, .int .i64 q.2]) ∧ Below w.heap.size w w'
theorem chk_okX {x : Ex} : chkI x = if okX x = true then 0 else 100 := by rw [chkI, meas_some]
set_option maxRecDepth 100000 in
set_option maxHeartbeats 8000000 in
theorem whole_of (pl : Hd → Option Nat) (g p : Nat) (h : Hd) (l : List Ex) (A : Option Addr) (cap : Nat) (w : World) (hX : XsAt w.heap.size w l A) (hcap : l.length ≤ cap) (hsm : AllSm (.mk h l)) (hc : cnt (.mk h l) ≤ 999999) (hT : Tabs w) (hE : ErrT w)
    (hput : okX (.mk h l) = true → ∀ W, Below w.heap.size w W → Calls Tryz.prog 47 #[XV h A l.length cap, .func (.func g) #[] #[.pointer (some ⟨p, 0, none⟩)]] W (PutE W (putX pl (.mk h l)))) :
    Calls Tryz.prog 29 #[XV h A l.length cap, .func (.func g) #[] #[.pointer (some ⟨p, 0, none⟩)]] w (WhE w (whX pl (.mk h l))) := by
  have h1 := ba w (xbox h A l.length cap)
  have h2 := bt h1 (ba _ x0)
  have HX := Lib.hid (((ba (w.alloc (xbox h A l.length cap)) x0).block _ (by simp)).trans (MapKept.heap_alloc w (xbox h A l.length cap)).1)
  have HZ0 := Lib.hid (show ((w.alloc (xbox h A l.length cap)).alloc x0).heap[w.heap.size + 1]? = some x0 by
    have := (MapKept.heap_alloc (w.alloc (xbox h A l.length cap)) x0).1
    rwa [World.size_alloc] at this)
  have HB := Lib.hid h2
  have HS := Lib.hid (show ((w.alloc (xbox h A l.length cap)).alloc x0).heap.size = w.heap.size + 1 + 1 by simp)
  have HPut := Lib.hid hput
  have HEr := Lib.hid hE
  have hck := xcheck_any h l A cap _ (XsAt.next hX h2) hcap hsm hc (hT.kept h2)
  rw [chk_okX] at hck
  obtain ⟨q, hq⟩ : ∃ q, whX pl (.mk h l) = q := ⟨_, rfl⟩
  have HQ := Lib.hid hq
  rw [hq]
  clear h1 h2 hput hX hsm hc hT hE hq
  cases hok : okX (.mk h l)
  · rw [hok] at hck
    have HCk := Lib.hid (show Calls Tryz.prog 33 #[XV h A l.length cap] ((w.alloc (xbox h A l.length cap)).alloc x0) fun e w' => e = .returned (.int .i64 100) ∧ Below ((w.alloc (xbox h A l.length cap)).alloc x0).heap.size ((w.alloc (xbox h A l.length cap)).alloc x0) w' from hck)
    obtain rfl : q = (none, 100) := by rw [← HQ.out, whX, hok]; rfl
    clear hck hok
    go_enter Tryz.func29, Tryz.ntmps29
    go_upto_region 1 with fail
    generalize (w.alloc (.cells #[.int .i64 h.k, .int .i64 h.n, .int .i64 h.vk, .int .i64 h.vn, .string h.vs, .string h.tab, .string h.col, .slice A l.length cap] 35)).alloc (.cells #[.int .i64 0, .int .i64 0, .int .i64 0, .int .i64 0, .string ⟨#[]⟩, .string ⟨#[]⟩, .string ⟨#[]⟩, .slice none 0 0] 35) = W at HX HZ0 HB HS HCk HPut ⊢
    obtain ⟨⟨x0, x1, x2, x3, x4, x5, x6, x7⟩, _⟩ := cell8 HX.out
    go_wp2_with fail
    refine HCk.out.mono ?_
    rintro e W1 ⟨rfl, hb⟩
    have HB1 := Lib.hid (bt HB.out hb)
    have HX1 := Lib.hid ((hb.block _ (Array.getElem?_eq_some_iff.1 HX.out).1).trans HX.out)
    have HZ1 := Lib.hid ((hb.block _ (Array.getElem?_eq_some_iff.1 HZ0.out).1).trans HZ0.out)
    have HS1 := Lib.hid (show w.heap.size + 1 < W1.heap.size by have := HS.out; have := hb.size; omega)
    clear hb x0 x1 x2 x3 x4 x5 x6 x7
    obtain ⟨⟨z0, z1, z2, z3, z4, z5, z6, z7⟩, g0, g1, g2, g3, g4, g5, g6, g7⟩ := cell8 HZ1.out
    have HZ := Lib.hid (set8_box HZ1.out (.int .i64 0) (.int .i64 0) (.int .i64 0) (.int .i64 0) (.string ⟨#[]⟩) (.string ⟨#[]⟩) (.string ⟨#[]⟩) (.slice none 0 0))
    go_wp2_with fail
    obtain ⟨⟨q0, q1, q2, q3, q4, q5, q6, q7⟩, _⟩ := cell8 HZ.out
    refine bodyPost_ret (v := .tuple #[XV zHd none 0 0, .int .i64 100]) (by simp [results, Tryz.results29, go_sem, q0, q1, q2, q3, q4, q5, q6, q7]) rfl ⟨rfl, ?_⟩
    exact set8_below HB1.out (by omega) _ _ _ _ _ _ _ _
  · rw [hok] at hck
    have HCk := Lib.hid (show Calls Tryz.prog 33 #[XV h A l.length cap] ((w.alloc (xbox h A l.length cap)).alloc x0) fun e w' => e = .returned (.int .i64 0) ∧ Below ((w.alloc (xbox h A l.length cap)).alloc x0).heap.size ((w.alloc (xbox h A l.length cap)).alloc x0) w' from hck)
    have HO := Lib.hid hok
    clear hck hok
    go_enter Tryz.func29, Tryz.ntmps29
    go_upto_region 1 with fail
    generalize (w.alloc (.cells #[.int .i64 h.k, .int .i64 h.n, .int .i64 h.vk, .int .i64 h.vn, .string h.vs, .string h.tab, .string h.col, .slice A l.length cap] 35)).alloc (.cells #[.int .i64 0, .int .i64 0, .int .i64 0, .int .i64 0, .string ⟨#[]⟩, .string ⟨#[]⟩, .string ⟨#[]⟩, .slice none 0 0] 35) = W at HX HZ0 HB HS HCk HPut ⊢
    obtain ⟨⟨x0, x1, x2, x3, x4, x5, x6, x7⟩, _⟩ := cell8 HX.out
    go_wp2_with fail
    refine HCk.out.mono ?_
    rintro e W1 ⟨rfl, hb⟩
    have HB1 := Lib.hid (bt HB.out hb)
    have HX1 := Lib.hid ((hb.block _ (Array.getElem?_eq_some_iff.1 HX.out).1).trans HX.out)
    have HZ1 := Lib.hid ((hb.block _ (Array.getElem?_eq_some_iff.1 HZ0.out).1).trans HZ0.out)
    have HS1 := Lib.hid (show w.heap.size + 1 < W1.heap.size by have := HS.out; have := hb.size; omega)
    clear hb x0 x1 x2 x3 x4 x5 x6 x7
    obtain ⟨⟨x0, x1, x2, x3, x4, x5, x6, x7⟩, _⟩ := cell8 HX1.out
    go_wp2_with fail
    refine (HPut.out HO.out _ HB1.out).mono ?_
    cases hp : putX pl (.mk h l) with
    | none =>
      obtain rfl : q = (none, 140) := by rw [← HQ.out, whX, HO.out, hp]; rfl
      rintro e W3 ⟨rfl, hb⟩
      have hbx := ba W3 (xbox zHd none 0 0)
      have HX7 := Lib.hid (MapKept.heap_alloc W3 (xbox zHd none 0 0)).1
      have HU7 := Lib.hid (show W3.heap.size < (W3.alloc (xbox zHd none 0 0)).heap.size by simp)
      have HB := Lib.hid (bt HB1.out (bt hb hbx))
      have HZ := Lib.hid (((bt hb hbx).block _ HS1.out).trans HZ1.out)
      have HN := Lib.hid (fun w1 (hb : Below (W3.alloc (xbox zHd none 0 0)).heap.size (W3.alloc (xbox zHd none 0 0)) w1) => number_err 140 w1 (HEr.out.kept (bt HB.out hb)))
      clear hb hbx x0 x1 x2 x3 x4 x5 x6 x7 HX HZ0 HB1 HX1 HZ1 hp
      go_upto_region 5 with fail
      generalize hW5 : W3.alloc (.cells #[.int .i64 0, .int .i64 0, .int .i64 0, .int .i64 0, .string ⟨#[]⟩, .string ⟨#[]⟩, .string ⟨#[]⟩, .slice none 0 0] 35) = W5 at HX7 HU7 HB HZ HN ⊢
      generalize hp7 : W3.heap.size = p7 at HX7 HU7 ⊢
      clear hW5 hp7
      refine wp_region_inv (n := 3) (ds := [some 21, some 22, some 23, none, some 5]) (need := [[], [], [1], [0, 1, 2], [0, 1, 2, 3]]) (R := Bel) (Gs := [
          (fun v _ => v = XV zHd none 0 0),
          (fun v _ => v = errV 140),
          (fun v _ => v = .int .i64 140)])
        (by kernel_rfl) (by kernel_rfl) (by decide) (by kernel_rfl) (by kernel_rfl) (by kernel_rfl) (fun x => Below.refl _ x) (fun _ _ _ h k => bt h k) ?_ ?_
      · refine Each.cons rfl (Keeps.const _) (StepOk.plain (g := (fun v _ => v = XV zHd none 0 0)) rfl rfl rfl (fun a w hs hR hr pre => ?_)) ?_
        · have ep : a.eval (.tmp 7) = .pointer (some ⟨p7, 0, none⟩) := hr 7 (by decide)
          exact wp_pure (run_ldE rfl ep (XC.ofBox ((hR.block p7 HU7.out).trans HX7.out))) rfl
        refine Each.cons rfl (Keeps.const _) (StepOk.plain (g := (fun v _ => v = errV 140)) rfl rfl rfl (fun a w hs hR hr pre => ?_)) ?_
        · have ep : a.eval (.tmp 8) = errV 140 := hr 8 (by decide)
          exact wp_pure (run_move rfl) ep
        refine Each.cons rfl (Keeps.const _) (StepOk.plain (g := (fun v _ => v = .int .i64 140)) rfl rfl rfl (fun a w hs hR hr pre => ?_)) ?_
        · have e22 : a.eval (.tmp 22) = errV 140 := pre 1 (by decide)
          exact wp_fn (vs := #[errV 140]) rfl Tryz.func27 (by kernel_rfl) (by kernel_rfl) (by simp only [List.map_toArray, List.map_cons, List.map_nil, e22]) ((HN.out w (bt (Below.drew (Below.refl _ _)) hR)).mono fun _ _ ⟨h1, h2⟩ => ⟨_, h1, h2, rfl⟩)
        exact Each.nil
      · intro v w1 hB hG
        have e0 : v 0 = XV zHd none 0 0 := hG 0 (by decide)
        have e1 : v 1 = errV 140 := hG 1 (by decide)
        have e2 : v 2 = .int .i64 140 := hG 2 (by decide)
        clear hG
        simp only [List.take_succ_cons, List.take_zero, puts, Act.put, List.setIfInBounds_toArray, List.set_cons_zero, List.set_cons_succ, Nat.reduceAdd, e0, e1, e2]
        have hZ1 : w1.heap[w.heap.size + 1]? = some x0 := (hB.block _ (Array.getElem?_eq_some_iff.1 HZ.out).1).trans HZ.out
        obtain ⟨⟨z0, z1, z2, z3, z4, z5, z6, z7⟩, _⟩ := cell8 hZ1
        refine wpAny_next (i := 3) (fuel := 1) (by kernel_rfl) rfl rfl ?_
        refine wp_put8 (.tmp 4) (.tmp 21) rfl (w.heap.size + 1) 0 (zHd, none, 0, 0) (by rfl) (by rfl) (fun i hi => ?_) (fun o => by simp only [World.frozen?, hZ1]; rfl) ?_
        · rcases (show i = 0 ∨ i = 1 ∨ i = 2 ∨ i = 3 ∨ i = 4 ∨ i = 5 ∨ i = 6 ∨ i = 7 by omega) with rfl | rfl | rfl | rfl | rfl | rfl | rfl | rfl
          · exact ⟨_, z0⟩
          · exact ⟨_, z1⟩
          · exact ⟨_, z2⟩
          · exact ⟨_, z3⟩
          · exact ⟨_, z4⟩
          · exact ⟨_, z5⟩
          · exact ⟨_, z6⟩
          · exact ⟨_, z7⟩
        have HZ9 := Lib.hid (show (put8 w1 (w.heap.size + 1) 0 (zHd, none, 0, 0)).heap[w.heap.size + 1]? = some (xbox zHd none 0 0) by rw [put8_box (o := 0) hZ1 (zHd, none, 0, 0)]; simp)
        have HB9 := Lib.hid (bt HB.out (bt (Below.drew (Below.refl _ _)) hB))
        have HB8 := Lib.hid hB
        generalize hF : put8 w1 (w.heap.size + 1) 0 (zHd, none, 0, 0) = F at HZ9 ⊢
        have HFe := Lib.hid hF
        clear hF hZ1 z0 z1 z2 z3 z4 z5 z6 z7 hB
        refine wpAny_next (i := 4) (fuel := 0) (by kernel_rfl) rfl rfl ?_
        unfold Oper.wp
        rw [run_assign rfl]
        simp only [Act.put, List.setIfInBounds_toArray, List.set_cons_zero, List.set_cons_succ, Oper.upon]
        refine wpAny_done (by kernel_rfl) ?_ _
        go_wp2_with fail
        obtain ⟨⟨q0, q1, q2, q3, q4, q5, q6, q7⟩, _⟩ := cell8 HZ9.out
        refine bodyPost_ret (v := .tuple #[XV zHd none 0 0, .int .i64 140]) (by simp [results, Tryz.results29, go_sem, q0, q1, q2, q3, q4, q5, q6, q7]) rfl ?_
        rw [← HFe.out]
        exact ⟨rfl, ⟨(put8_os ..).trans HB9.out.os, (put8_tape ..).trans HB9.out.tape, (put8_output ..).trans HB9.out.output, by rw [put8_size]; exact HB9.out.size, fun k hk => (put8_other (by omega) _).trans (HB9.out.block k hk)⟩⟩
    | some y =>
      obtain rfl : q = (some y, 0) := by rw [← HQ.out, whX, HO.out, hp]; rfl
      obtain ⟨hy, ly⟩ := y
      rintro e W3 ⟨A3, cap3, rfl, hle3, hx3, hb⟩
      simp only [Ex.hd, Ex.kids] at hle3 hx3 ⊢
      have hbx := ba W3 (xbox hy A3 ly.length cap3)
      have HX7 := Lib.hid (MapKept.heap_alloc W3 (xbox hy A3 ly.length cap3)).1
      have HU7 := Lib.hid (show W3.heap.size < (W3.alloc (xbox hy A3 ly.length cap3)).heap.size by simp)
      have HB := Lib.hid (bt HB1.out (bt hb hbx))
      have HZ := Lib.hid (((bt hb hbx).block _ HS1.out).trans HZ1.out)
      have HX3 := Lib.hid (show XsB (fun k => w.heap.size + 1 < k ∧ k < (W3.alloc (xbox hy A3 ly.length cap3)).heap.size) (W3.alloc (xbox hy A3 ly.length cap3)) ly A3 from XsB.go (fun k hk => hbx.block k hk.2) (fun k hk => ⟨by have := HS1.out; have := hk.1; omega, by rw [World.size_alloc]; have := hk.2; omega⟩) _ _ hx3)
      have HLE := Lib.hid hle3
      clear hb hbx x0 x1 x2 x3 x4 x5 x6 x7 HX HZ0 HB1 HX1 HZ1 hp hx3 hle3
      go_upto_region 5 with fail
      generalize hW5 : W3.alloc (.cells #[.int .i64 hy.k, .int .i64 hy.n, .int .i64 hy.vk, .int .i64 hy.vn, .string hy.vs, .string hy.tab, .string hy.col, .slice A3 ly.length cap3] 35) = W5 at HX7 HU7 HB HZ HX3 ⊢
      generalize hp7 : W3.heap.size = p7 at HX7 HU7 ⊢
      clear hW5 hp7
      refine wp_region_inv (n := 3) (ds := [some 21, some 22, some 23, none, some 5]) (need := [[], [], [1], [0, 1, 2], [0, 1, 2, 3]]) (R := Bel) (Gs := [
          (fun v _ => v = XV hy A3 ly.length cap3),
          (fun v _ => v = .nilIface),
          (fun v _ => v = .int .i64 0)])
        (by kernel_rfl) (by kernel_rfl) (by decide) (by kernel_rfl) (by kernel_rfl) (by kernel_rfl) (fun x => Below.refl _ x) (fun _ _ _ h k => bt h k) ?_ ?_
      · refine Each.cons rfl (Keeps.const _) (StepOk.plain (g := (fun v _ => v = XV hy A3 ly.length cap3)) rfl rfl rfl (fun a w hs hR hr pre => ?_)) ?_
        · have ep : a.eval (.tmp 7) = .pointer (some ⟨p7, 0, none⟩) := hr 7 (by decide)
          exact wp_pure (run_ldE rfl ep (XC.ofBox ((hR.block p7 HU7.out).trans HX7.out))) rfl
        refine Each.cons rfl (Keeps.const _) (StepOk.plain (g := (fun v _ => v = .nilIface)) rfl rfl rfl (fun a w hs hR hr pre => ?_)) ?_
        · have ep : a.eval (.tmp 8) = .nilIface := hr 8 (by decide)
          exact wp_pure (run_move rfl) ep
        refine Each.cons rfl (Keeps.const _) (StepOk.plain (g := (fun v _ => v = .int .i64 0)) rfl rfl rfl (fun a w hs hR hr pre => ?_)) ?_
        · have e22 : a.eval (.tmp 22) = .nilIface := pre 1 (by decide)
          exact wp_fn (vs := #[.nilIface]) rfl Tryz.func27 (by kernel_rfl) (by kernel_rfl) (by simp only [List.map_toArray, List.map_cons, List.map_nil, e22]) ((number_nil w).mono fun _ _ ⟨h1, h2⟩ => ⟨_, h1, h2, rfl⟩)
        exact Each.nil
      · intro v w1 hB hG
        have e0 : v 0 = XV hy A3 ly.length cap3 := hG 0 (by decide)
        have e1 : v 1 = .nilIface := hG 1 (by decide)
        have e2 : v 2 = .int .i64 0 := hG 2 (by decide)
        clear hG
        simp only [List.take_succ_cons, List.take_zero, puts, Act.put, List.setIfInBounds_toArray, List.set_cons_zero, List.set_cons_succ, Nat.reduceAdd, e0, e1, e2]
        have hZ1 : w1.heap[w.heap.size + 1]? = some x0 := (hB.block _ (Array.getElem?_eq_some_iff.1 HZ.out).1).trans HZ.out
        obtain ⟨⟨z0, z1, z2, z3, z4, z5, z6, z7⟩, _⟩ := cell8 hZ1
        refine wpAny_next (i := 3) (fuel := 1) (by kernel_rfl) rfl rfl ?_
        refine wp_put8 (.tmp 4) (.tmp 21) rfl (w.heap.size + 1) 0 (hy, A3, ly.length, cap3) (by rfl) (by rfl) (fun i hi => ?_) (fun o => by simp only [World.frozen?, hZ1]; rfl) ?_
        · rcases (show i = 0 ∨ i = 1 ∨ i = 2 ∨ i = 3 ∨ i = 4 ∨ i = 5 ∨ i = 6 ∨ i = 7 by omega) with rfl | rfl | rfl | rfl | rfl | rfl | rfl | rfl
          · exact ⟨_, z0⟩
          · exact ⟨_, z1⟩
          · exact ⟨_, z2⟩
          · exact ⟨_, z3⟩
          · exact ⟨_, z4⟩
          · exact ⟨_, z5⟩
          · exact ⟨_, z6⟩
          · exact ⟨_, z7⟩
        have HZ9 := Lib.hid (show (put8 w1 (w.heap.size + 1) 0 (hy, A3, ly.length, cap3)).heap[w.heap.size + 1]? = some (xbox hy A3 ly.length cap3) by rw [put8_box (o := 0) hZ1 (hy, A3, ly.length, cap3)]; simp)
        have HB9 := Lib.hid (bt HB.out (bt (Below.drew (Below.refl _ _)) hB))
        have HB8 := Lib.hid hB
        generalize hF : put8 w1 (w.heap.size + 1) 0 (hy, A3, ly.length, cap3) = F at HZ9 ⊢
        have HFe := Lib.hid hF
        clear hF hZ1 z0 z1 z2 z3 z4 z5 z6 z7 hB
        refine wpAny_next (i := 4) (fuel := 0) (by kernel_rfl) rfl rfl ?_
        unfold Oper.wp
        rw [run_assign rfl]
        simp only [Act.put, List.setIfInBounds_toArray, List.set_cons_zero, List.set_cons_succ, Oper.upon]
        refine wpAny_done (by kernel_rfl) ?_ _
        go_wp2_with fail
        obtain ⟨⟨q0, q1, q2, q3, q4, q5, q6, q7⟩, _⟩ := cell8 HZ9.out
        refine bodyPost_ret (v := .tuple #[XV hy A3 ly.length cap3, .int .i64 0]) (by simp [results, Tryz.results29, go_sem, q0, q1, q2, q3, q4, q5, q6, q7]) rfl ?_
        rw [← HFe.out]
        refine ⟨A3, cap3, rfl, HLE.out, ?_, ⟨(put8_os ..).trans HB9.out.os, (put8_tape ..).trans HB9.out.tape, (put8_output ..).trans HB9.out.output, by rw [put8_size]; exact HB9.out.size, fun k hk => (put8_other (by omega) _).trans (HB9.out.block k hk)⟩⟩
        exact XsB.go (w := W5) (B := fun k => w.heap.size + 1 < k ∧ k < W5.heap.size) (fun k hk => (put8_other (by have := hk.1; omega) _).trans (HB8.out.block k (show k < W5.heap.size from hk.2))) (fun k hk => ⟨by have := hk.1; omega, by rw [put8_size]; have := hk.2; have := HB8.out.size; exact Nat.lt_of_lt_of_le hk.2 HB8.out.size⟩) _ _ HX3.out
end Go.Proofs.YtofhaokaldpmaaaGreatDoor
end
section
namespace Go.Proofs.YtofhaokaldpmaaaGreatDoor
open Go.RowKit Go.Shelf
attribute [local go_sem] Oper.semAt_some

/-- Ints in memory. -/
def InAt (w : World) (A : Option Addr) (l : List Int) : Prop :=
  l = [] ∨ ∃ b off : Nat, A = some ⟨b, off, none⟩ ∧ b < w.heap.size ∧ ∀ (i : Nat) (v : Int), l[i]? = some v → w.cell? ⟨b, off + i, none⟩ = some (.int .i64 v)
theorem InAt.kept {w w' : World} {A : Option Addr} {l : List Int} (h : InAt w A l) (hb : Below w.heap.size w w') : InAt w' A l := by
  rcases h with h | ⟨b, off, hA, hlt, hc⟩
  · exact .inl h
  · exact .inr ⟨b, off, hA, Nat.lt_of_lt_of_le hlt hb.size, fun i v hv => (hb.cell (p := ⟨b, _, none⟩) hlt).trans (hc i v hv)⟩
theorem InAt.at {w : World} {A : Option Addr} {l : List Int} (h : InAt w A l) {i : Nat} (hi : i < l.length) :
    ∃ b off : Nat, A = some ⟨b, off, none⟩ ∧ b < w.heap.size ∧ w.cell? ⟨b, off + i, none⟩ = some (.int .i64 l[i]) := by
  rcases h with h | ⟨b, off, hA, hlt, hc⟩
  · subst h; simp at hi
  · exact ⟨b, off, hA, hlt, hc i l[i] (List.getElem?_eq_getElem hi)⟩
def plB (cols : List Co) (h : Hd) : Option Nat := findX h.tab h.col cols
def plM (places : List Int) (h : Hd) : Option Nat := if h.n < (places.length : Int) then (if 0 ≤ places.getD h.n.toNat 0 ∧ places.getD h.n.toNat 0 < 32 then some (places.getD h.n.toNat 0).toNat else none) else none
theorem fnV_form (o : Option Nat) : ∃ (n : Int) (v : Value), fnV o = .tuple #[.int .i64 n, v] ∧ (v = .nilIface ∨ v = errV 140) := by
  cases o with
  | none => exact ⟨0, _, rfl, .inr rfl⟩
  | some i => exact ⟨i, _, rfl, .inl rfl⟩
set_option maxRecDepth 100000 in
set_option maxHeartbeats 4000000 in
theorem bind1_any (cols : List Co) (Ac : Option Addr) (c : Nat) (hlc : cols.length ≤ c) (hc : c ≤ 9223372036854775807) (p : Nat) (h : Hd) (A : Option Addr) (len cap : Nat) (W : World) (hp : W.cell? ⟨p, 0, none⟩ = some (.slice Ac cols.length c)) (hCo : CoAt W Ac cols) :
    Calls Tryz.prog 30 #[XV h A len cap, .pointer (some ⟨p, 0, none⟩)] W fun e W' => e = .returned (fnV (plB cols h)) ∧ Below W.heap.size W W' := by
  have hb := ba W (xbox h A len cap)
  have HF := Lib.hid (find_any h.tab h.col Ac c cols _ (hCo.kept hb) hlc hc)
  have HX := Lib.hid (MapKept.heap_alloc W (xbox h A len cap)).1
  have k0 := (hb.cell (p := ⟨p, 0, none⟩) (World.block_lt_of_cell? W _ hp)).trans hp
  have HB := Lib.hid hb
  have HC := Lib.hid (show plB cols h = findX h.tab h.col cols from rfl)
  obtain ⟨⟨x0, x1, x2, x3, x4, x5, x6, x7⟩, _⟩ := cell8 HX.out
  obtain ⟨o, ho⟩ : ∃ o, plB cols h = o := ⟨_, rfl⟩
  rw [← HC.out, ho] at HF
  rw [ho]
  clear hb hp hCo ho HC
  go_enter Tryz.func30, Tryz.ntmps30
  go_wp2_with fail
  refine HF.out.mono ?_
  rintro e W1 ⟨rfl, hb⟩
  have HB1 := Lib.hid (bt HB.out hb)
  clear hb
  obtain ⟨n, v, hv, hvv⟩ := fnV_form o
  rw [hv]
  rcases hvv with rfl | rfl
  · have HV := Lib.hid hv
    clear hv
    go_wp2_with fail
    exact bodyPost_ret (v := .tuple #[.int .i64 n, .nilIface]) (by simp [results, Tryz.results30, go_sem]) rfl ⟨by rw [HV.out], HB1.out⟩
  · have HV := Lib.hid hv
    clear hv
    go_wp2_with fail
    exact bodyPost_ret (v := .tuple #[.int .i64 n, errV 140]) (by simp [results, Tryz.results30, go_sem]) rfl ⟨by rw [HV.out], HB1.out⟩
set_option maxRecDepth 100000 in
set_option maxHeartbeats 8000000 in
theorem move1_any (pl : List Int) (Ap : Option Addr) (c : Nat) (p : Nat) (h : Hd) (A : Option Addr) (len cap : Nat) (hn : 0 ≤ h.n) (W : World) (hp : W.cell? ⟨p, 0, none⟩ = some (.slice Ap pl.length c)) (hIn : InAt W Ap pl) :
    Calls Tryz.prog 36 #[XV h A len cap, .pointer (some ⟨p, 0, none⟩)] W fun e W' => e = .returned (fnV (plM pl h)) ∧ Below W.heap.size W W' := by
  obtain ⟨hk, n, vk, vn, vs, tab, col⟩ := h
  simp only at hn
  obtain ⟨i, rfl⟩ := Int.eq_ofNat_of_zero_le hn
  have hb := ba W (xbox ⟨hk, (i : Nat), vk, vn, vs, tab, col⟩ A len cap)
  have HX := Lib.hid (MapKept.heap_alloc W (xbox ⟨hk, (i : Nat), vk, vn, vs, tab, col⟩ A len cap)).1
  have k0 := (hb.cell (p := ⟨p, 0, none⟩) (World.block_lt_of_cell? W _ hp)).trans hp
  have HI := Lib.hid (hIn.kept hb)
  have HB := Lib.hid hb
  obtain ⟨⟨x0, x1, x2, x3, x4, x5, x6, x7⟩, _⟩ := cell8 HX.out
  obtain ⟨O, hO⟩ : ∃ O, plM pl ⟨hk, (i : Nat), vk, vn, vs, tab, col⟩ = O := ⟨_, rfl⟩
  have HO := Lib.hid hO
  rw [hO]
  clear hb hp hIn hO hn
  by_cases hil : i < pl.length
  · obtain ⟨b, off, rfl, hbl, c0⟩ := HI.out.at hil
    have hg : pl.getD i 0 = pl[i] := by simp [List.getD, hil]
    obtain ⟨x, hx⟩ : ∃ x, pl[i] = x := ⟨_, rfl⟩
    rw [hx] at c0 hg
    have hgo : ¬ (pl.length : Int) ≤ (i : Int) := by omega
    have HP : plM pl ⟨hk, (i : Nat), vk, vn, vs, tab, col⟩ = if 0 ≤ x ∧ x < 32 then some x.toNat else none := by
      rw [plM]
      simp only [Int.toNat_natCast, hg]
      rw [if_pos (by omega)]
    have HP := Lib.hid HP
    clear hg hx
    by_cases hx32 : 0 ≤ x ∧ x < 32
    · have hpl : (decide (0 ≤ x) && decide (x < 32)) = true := by rw [decide_eq_true hx32.1, decide_eq_true hx32.2]; rfl
      obtain rfl : O = some x.toNat := by rw [← HO.out, HP.out, if_pos hx32]
      obtain ⟨m, rfl⟩ := Int.eq_ofNat_of_zero_le hx32.1
      have HIs := Lib.hid (fun w => isPlace_any (m : Int) w hpl)
      clear hpl hx32
      go_enter Tryz.func36, Tryz.ntmps36
      go_wp2_with fail
      refine (HIs.out _).mono ?_
      rintro e W1 ⟨rfl, rfl⟩
      go_wp2_with fail
      exact bodyPost_ret (v := .tuple #[.int .i64 (m : Nat), .nilIface]) (by simp [results, Tryz.results36, go_sem]) rfl ⟨rfl, HB.out⟩
    · have hpl : (decide (0 ≤ x) && decide (x < 32)) = false := by
        cases h1 : (decide (0 ≤ x) && decide (x < 32)) with
        | false => rfl
        | true => simp at h1; exact absurd h1 hx32
      obtain rfl : O = none := by rw [← HO.out, HP.out, if_neg hx32]
      have HIs := Lib.hid (fun w => isPlace_any x w hpl)
      clear hpl hx32
      go_enter Tryz.func36, Tryz.ntmps36
      go_wp2_with fail
      refine (HIs.out _).mono ?_
      rintro e W1 ⟨rfl, rfl⟩
      go_wp2_with fail
      exact bodyPost_ret (v := .tuple #[.int .i64 0, errV 140]) (by simp [results, Tryz.results36, go_sem]) rfl ⟨rfl, HB.out⟩
  · obtain rfl : O = none := by
      rw [← HO.out, plM, if_neg]
      simp only
      omega
    have hgo : (pl.length : Int) ≤ (i : Int) := by omega
    go_enter Tryz.func36, Tryz.ntmps36
    go_wp2_with fail
    exact bodyPost_ret (v := .tuple #[.int .i64 0, errV 140]) (by simp [results, Tryz.results36, go_sem]) rfl ⟨rfl, HB.out⟩
set_option maxRecDepth 100000 in
set_option maxHeartbeats 8000000 in
theorem bind_any (cols : List Co) (Ac : Option Addr) (c : Nat) (hlc : cols.length ≤ c) (hc : c ≤ 9223372036854775807) (h : Hd) (l : List Ex) (A : Option Addr) (cap : Nat) (w : World) (hX : XsAt w.heap.size w l A) (hcap : l.length ≤ cap) (hsm : AllSm (.mk h l)) (hcn : cnt (.mk h l) ≤ 999999) (hT : Tabs w) (hE : ErrT w) (hCo : CoAt w Ac cols) :
    Calls Tryz.prog 13 #[XV h A l.length cap, .slice Ac cols.length c] w (WhE w (whX (plB cols) (.mk h l))) := by
  have h1 := ba w (xbox h A l.length cap)
  have h2 := bt h1 (ba _ (.cells #[.slice Ac cols.length c] 22))
  have h3 := bt h2 (ba _ x0)
  have HX := Lib.hid (((bt (ba (w.alloc (xbox h A l.length cap)) (.cells #[.slice Ac cols.length c] 22)) (ba _ x0)).block _ (by simp)).trans (MapKept.heap_alloc w (xbox h A l.length cap)).1)
  have hS : (((w.alloc (xbox h A l.length cap)).alloc (.cells #[.slice Ac cols.length c] 22)).alloc x0).heap.size = w.heap.size + 1 + 1 + 1 := by simp
  have hC : (((w.alloc (xbox h A l.length cap)).alloc (.cells #[.slice Ac cols.length c] 22)).alloc x0).heap[w.heap.size + 1]? = some (.cells #[.slice Ac cols.length c] 22) := by
    have := (MapKept.heap_alloc (w.alloc (xbox h A l.length cap)) (.cells #[.slice Ac cols.length c] 22)).1
    rw [World.size_alloc] at this
    exact ((ba _ x0).block _ (by simp)).trans this
  have HZ0 := Lib.hid (show (((w.alloc (xbox h A l.length cap)).alloc (.cells #[.slice Ac cols.length c] 22)).alloc x0).heap[w.heap.size + 1 + 1]? = some x0 by
    have := (MapKept.heap_alloc ((w.alloc (xbox h A l.length cap)).alloc (.cells #[.slice Ac cols.length c] 22)) x0).1
    rwa [World.size_alloc, World.size_alloc] at this)
  have HB := Lib.hid h3
  have HS := Lib.hid hS
  have hP0 : (((w.alloc (xbox h A l.length cap)).alloc (.cells #[.slice Ac cols.length c] 22)).alloc x0).cell? ⟨w.heap.size + 1, 0, none⟩ = some (.slice Ac cols.length c) ∧ CoAt (((w.alloc (xbox h A l.length cap)).alloc (.cells #[.slice Ac cols.length c] 22)).alloc x0) Ac cols := ⟨by simp only [World.cell?, hC]; rfl, hCo.kept h3⟩
  have HW := Lib.hid (whole_of (plB cols) 30 (w.heap.size + 1) h l A cap _ (XsAt.next hX h3) hcap hsm hcn (hT.kept h3) (hE.kept h3) fun hok W hbW =>
    put_n (fun _ => True) (fun _ _ _ _ => trivial) (plB cols) 30 (w.heap.size + 1) (fun W => W.cell? ⟨w.heap.size + 1, 0, none⟩ = some (.slice Ac cols.length c) ∧ CoAt W Ac cols) (fun W W' hp hb => ⟨(hb.cell (p := ⟨w.heap.size + 1, 0, none⟩) (World.block_lt_of_cell? W _ hp.1)).trans hp.1, hp.2.kept hb⟩)
      (fun h W A len cap hq hp => bind1_any cols Ac c hlc hc (w.heap.size + 1) h A len cap W hp.1 hp.2) (enters_of Tryz.func30 (by kernel_rfl) rfl) 1000000 h l (by omega) (Nat.le_refl _) (ok_fit hok).1 W A cap ⟨(hbW.cell (p := ⟨w.heap.size + 1, 0, none⟩) (World.block_lt_of_cell? _ _ hP0.1)).trans hP0.1, hP0.2.kept hbW⟩ (XsAt.next hX (bt h3 hbW)))
  obtain ⟨q, hq⟩ : ∃ q, whX (plB cols) (.mk h l) = q := ⟨_, rfl⟩
  rw [hq] at HW ⊢
  clear h1 h2 h3 hS hC hP0 hX hsm hcn hT hE hq
  go_enter Tryz.func13, Tryz.ntmps13
  go_upto_region 1 with fail
  generalize ((w.alloc (.cells #[.int .i64 h.k, .int .i64 h.n, .int .i64 h.vk, .int .i64 h.vn, .string h.vs, .string h.tab, .string h.col, .slice A l.length cap] 35)).alloc (.cells #[.slice Ac cols.length c] 22)).alloc (.cells #[.int .i64 0, .int .i64 0, .int .i64 0, .int .i64 0, .string ⟨#[]⟩, .string ⟨#[]⟩, .string ⟨#[]⟩, .slice none 0 0] 35) = W at HX HZ0 HB HS HW ⊢
  obtain ⟨⟨x0, x1, x2, x3, x4, x5, x6, x7⟩, _⟩ := cell8 HX.out
  go_wp2_with fail
  refine HW.out.mono ?_
  clear HW
  obtain ⟨qo, qc⟩ := q
  cases qo with
  | none =>
    rintro e W3 ⟨rfl, hb⟩
    simp only
    have HB3 := Lib.hid (bt HB.out hb)
    have hz := (hb.block _ (by have := HS.out; omega)).trans HZ0.out
    obtain ⟨⟨z0, z1, z2, z3, z4, z5, z6, z7⟩, g0, g1, g2, g3, g4, g5, g6, g7⟩ := cell8 hz
    have HZ := Lib.hid (set8_box hz (.int .i64 0) (.int .i64 0) (.int .i64 0) (.int .i64 0) (.string ⟨#[]⟩) (.string ⟨#[]⟩) (.string ⟨#[]⟩) (.slice none 0 0))
    clear hb hz x0 x1 x2 x3 x4 x5 x6 x7 HX HZ0
    go_wp2_with fail
    obtain ⟨⟨q0, q1, q2, q3, q4, q5, q6, q7⟩, _⟩ := cell8 HZ.out
    refine bodyPost_ret (v := .tuple #[XV zHd none 0 0, .int .i64 qc]) (by simp [results, Tryz.results13, go_sem, q0, q1, q2, q3, q4, q5, q6, q7]) rfl ⟨rfl, ?_⟩
    exact set8_below HB3.out (by omega) _ _ _ _ _ _ _ _
  | some y =>
    obtain ⟨hy, ly⟩ := y
    rintro e W3 ⟨A3, cap3, rfl, hle3, hx3, hb⟩
    simp only [Ex.hd, Ex.kids] at hle3 hx3 ⊢
    have HB3 := Lib.hid (bt HB.out hb)
    have HX3 := Lib.hid (show XsB (fun k => W.heap.size ≤ k ∧ k < W3.heap.size) W3 ly A3 from hx3)
    have HLE := Lib.hid hle3
    have hz := (hb.block _ (by have := HS.out; omega)).trans HZ0.out
    obtain ⟨⟨z0, z1, z2, z3, z4, z5, z6, z7⟩, g0, g1, g2, g3, g4, g5, g6, g7⟩ := cell8 hz
    have HZ := Lib.hid (set8_box hz (.int .i64 hy.k) (.int .i64 hy.n) (.int .i64 hy.vk) (.int .i64 hy.vn) (.string hy.vs) (.string hy.tab) (.string hy.col) (.slice A3 ly.length cap3))
    clear hb hz x0 x1 x2 x3 x4 x5 x6 x7 HX HZ0 hle3 hx3
    go_wp2_with fail
    obtain ⟨⟨q0, q1, q2, q3, q4, q5, q6, q7⟩, _⟩ := cell8 HZ.out
    refine bodyPost_ret (v := .tuple #[XV hy A3 ly.length cap3, .int .i64 qc]) (by simp [results, Tryz.results13, go_sem, q0, q1, q2, q3, q4, q5, q6, q7]) rfl ⟨A3, cap3, rfl, HLE.out, ?_, ?_⟩
    · exact XsB.go (fun k hk => set8_other (by have := HS.out; have := hk.1; omega) _ _ _ _ _ _ _ _) (fun k hk => ⟨by have := HS.out; have := hk.1; omega, by rw [set8_size]; exact hk.2⟩) _ _ HX3.out
    · exact set8_below HB3.out (by omega) _ _ _ _ _ _ _ _
set_option maxRecDepth 100000 in
set_option maxHeartbeats 8000000 in
theorem move_any (pl : List Int) (Ac : Option Addr) (c : Nat) (h : Hd) (l : List Ex) (A : Option Addr) (cap : Nat) (w : World) (hX : XsAt w.heap.size w l A) (hcap : l.length ≤ cap) (hsm : AllSm (.mk h l)) (hcn : cnt (.mk h l) ≤ 999999) (hT : Tabs w) (hE : ErrT w) (hIn : InAt w Ac pl) :
    Calls Tryz.prog 18 #[XV h A l.length cap, .slice Ac pl.length c] w (WhE w (whX (plM pl) (.mk h l))) := by
  have h1 := ba w (xbox h A l.length cap)
  have h2 := bt h1 (ba _ (.cells #[.slice Ac pl.length c] 42))
  have h3 := bt h2 (ba _ x0)
  have HX := Lib.hid (((bt (ba (w.alloc (xbox h A l.length cap)) (.cells #[.slice Ac pl.length c] 42)) (ba _ x0)).block _ (by simp)).trans (MapKept.heap_alloc w (xbox h A l.length cap)).1)
  have hS : (((w.alloc (xbox h A l.length cap)).alloc (.cells #[.slice Ac pl.length c] 42)).alloc x0).heap.size = w.heap.size + 1 + 1 + 1 := by simp
  have hC : (((w.alloc (xbox h A l.length cap)).alloc (.cells #[.slice Ac pl.length c] 42)).alloc x0).heap[w.heap.size + 1]? = some (.cells #[.slice Ac pl.length c] 42) := by
    have := (MapKept.heap_alloc (w.alloc (xbox h A l.length cap)) (.cells #[.slice Ac pl.length c] 42)).1
    rw [World.size_alloc] at this
    exact ((ba _ x0).block _ (by simp)).trans this
  have HZ0 := Lib.hid (show (((w.alloc (xbox h A l.length cap)).alloc (.cells #[.slice Ac pl.length c] 42)).alloc x0).heap[w.heap.size + 1 + 1]? = some x0 by
    have := (MapKept.heap_alloc ((w.alloc (xbox h A l.length cap)).alloc (.cells #[.slice Ac pl.length c] 42)) x0).1
    rwa [World.size_alloc, World.size_alloc] at this)
  have HB := Lib.hid h3
  have HS := Lib.hid hS
  have hP0 : (((w.alloc (xbox h A l.length cap)).alloc (.cells #[.slice Ac pl.length c] 42)).alloc x0).cell? ⟨w.heap.size + 1, 0, none⟩ = some (.slice Ac pl.length c) ∧ InAt (((w.alloc (xbox h A l.length cap)).alloc (.cells #[.slice Ac pl.length c] 42)).alloc x0) Ac pl := ⟨by simp only [World.cell?, hC]; rfl, hIn.kept h3⟩
  have HW := Lib.hid (whole_of (plM pl) 36 (w.heap.size + 1) h l A cap _ (XsAt.next hX h3) hcap hsm hcn (hT.kept h3) (hE.kept h3) fun hok W hbW =>
    put_n (fun h => 0 ≤ h.n) (fun h len hf hk => by rw [fitsB, if_neg (by omega), if_pos hk] at hf; simp only [Bool.and_eq_true, decide_eq_true_eq] at hf; exact hf.1.1.1.2) (plM pl) 36 (w.heap.size + 1) (fun W => W.cell? ⟨w.heap.size + 1, 0, none⟩ = some (.slice Ac pl.length c) ∧ InAt W Ac pl) (fun W W' hp hb => ⟨(hb.cell (p := ⟨w.heap.size + 1, 0, none⟩) (World.block_lt_of_cell? W _ hp.1)).trans hp.1, hp.2.kept hb⟩)
      (fun h W A len cap hq hp => move1_any pl Ac c (w.heap.size + 1) h A len cap hq W hp.1 hp.2) (enters_of Tryz.func36 (by kernel_rfl) rfl) 1000000 h l (by omega) (Nat.le_refl _) (ok_fit hok).1 W A cap ⟨(hbW.cell (p := ⟨w.heap.size + 1, 0, none⟩) (World.block_lt_of_cell? _ _ hP0.1)).trans hP0.1, hP0.2.kept hbW⟩ (XsAt.next hX (bt h3 hbW)))
  obtain ⟨q, hq⟩ : ∃ q, whX (plM pl) (.mk h l) = q := ⟨_, rfl⟩
  rw [hq] at HW ⊢
  clear h1 h2 h3 hS hC hP0 hX hsm hcn hT hE hq
  go_enter Tryz.func18, Tryz.ntmps18
  go_upto_region 1 with fail
  generalize ((w.alloc (.cells #[.int .i64 h.k, .int .i64 h.n, .int .i64 h.vk, .int .i64 h.vn, .string h.vs, .string h.tab, .string h.col, .slice A l.length cap] 35)).alloc (.cells #[.slice Ac pl.length c] 42)).alloc (.cells #[.int .i64 0, .int .i64 0, .int .i64 0, .int .i64 0, .string ⟨#[]⟩, .string ⟨#[]⟩, .string ⟨#[]⟩, .slice none 0 0] 35) = W at HX HZ0 HB HS HW ⊢
  obtain ⟨⟨x0, x1, x2, x3, x4, x5, x6, x7⟩, _⟩ := cell8 HX.out
  go_wp2_with fail
  refine HW.out.mono ?_
  clear HW
  obtain ⟨qo, qc⟩ := q
  cases qo with
  | none =>
    rintro e W3 ⟨rfl, hb⟩
    simp only
    have HB3 := Lib.hid (bt HB.out hb)
    have hz := (hb.block _ (by have := HS.out; omega)).trans HZ0.out
    obtain ⟨⟨z0, z1, z2, z3, z4, z5, z6, z7⟩, g0, g1, g2, g3, g4, g5, g6, g7⟩ := cell8 hz
    have HZ := Lib.hid (set8_box hz (.int .i64 0) (.int .i64 0) (.int .i64 0) (.int .i64 0) (.string ⟨#[]⟩) (.string ⟨#[]⟩) (.string ⟨#[]⟩) (.slice none 0 0))
    clear hb hz x0 x1 x2 x3 x4 x5 x6 x7 HX HZ0
    go_wp2_with fail
    obtain ⟨⟨q0, q1, q2, q3, q4, q5, q6, q7⟩, _⟩ := cell8 HZ.out
    refine bodyPost_ret (v := .tuple #[XV zHd none 0 0, .int .i64 qc]) (by simp [results, Tryz.results18, go_sem, q0, q1, q2, q3, q4, q5, q6, q7]) rfl ⟨rfl, ?_⟩
    exact set8_below HB3.out (by omega) _ _ _ _ _ _ _ _
  | some y =>
    obtain ⟨hy, ly⟩ := y
    rintro e W3 ⟨A3, cap3, rfl, hle3, hx3, hb⟩
    simp only [Ex.hd, Ex.kids] at hle3 hx3 ⊢
    have HB3 := Lib.hid (bt HB.out hb)
    have HX3 := Lib.hid (show XsB (fun k => W.heap.size ≤ k ∧ k < W3.heap.size) W3 ly A3 from hx3)
    have HLE := Lib.hid hle3
    have hz := (hb.block _ (by have := HS.out; omega)).trans HZ0.out
    obtain ⟨⟨z0, z1, z2, z3, z4, z5, z6, z7⟩, g0, g1, g2, g3, g4, g5, g6, g7⟩ := cell8 hz
    have HZ := Lib.hid (set8_box hz (.int .i64 hy.k) (.int .i64 hy.n) (.int .i64 hy.vk) (.int .i64 hy.vn) (.string hy.vs) (.string hy.tab) (.string hy.col) (.slice A3 ly.length cap3))
    clear hb hz x0 x1 x2 x3 x4 x5 x6 x7 HX HZ0 hle3 hx3
    go_wp2_with fail
    obtain ⟨⟨q0, q1, q2, q3, q4, q5, q6, q7⟩, _⟩ := cell8 HZ.out
    refine bodyPost_ret (v := .tuple #[XV hy A3 ly.length cap3, .int .i64 qc]) (by simp [results, Tryz.results18, go_sem, q0, q1, q2, q3, q4, q5, q6, q7]) rfl ⟨A3, cap3, rfl, HLE.out, ?_, ?_⟩
    · exact XsB.go (fun k hk => set8_other (by have := HS.out; have := hk.1; omega) _ _ _ _ _ _ _ _) (fun k hk => ⟨by have := HS.out; have := hk.1; omega, by rw [set8_size]; exact hk.2⟩) _ _ HX3.out
    · exact set8_below HB3.out (by omega) _ _ _ _ _ _ _ _
end Go.Proofs.YtofhaokaldpmaaaGreatDoor
end
section
namespace Go.Proofs.YtofhaokaldpmaaaGreatDoor
open Go.RowKit Go.Shelf
attribute [local go_sem] Oper.semAt_some

def goesB (part kind : Int) : Bool := part == kind || part == 0
def colT (cols : List Co) (n : Int) : Except Int Int := if n < (cols.length : Int) then .ok ((cols[n.toNat]?.map (·.ty)).getD 0) else .error 140
def onlyT (kind : Int) (ts : List Int) : Except Int Int := if ts.any (fun t => !goesB t kind) = true then .error 141 else .ok kind
def compT (a b : Int) : Except Int Int := if (goesB a b || goesB b a) = true then .ok 1 else .error 141
def aggT (n : Int) (ts : List Int) : Except Int Int := if n = 3 then onlyT 2 ts else if n = 4 ∨ n = 5 then .ok (ts.getD 0 0) else .ok 2
def opT (n : Int) (ts : List Int) : Except Int Int :=
  if n = 1 ∨ n = 2 ∨ n = 3 then onlyT 1 ts else if n = 10 ∨ n = 11 ∨ n = 12 ∨ n = 13 ∨ n = 14 ∨ n = 15 then onlyT 2 ts else if n = 16 ∨ n = 17 then .ok 1 else compT (ts.getD 0 0) (ts.getD 1 0)
def teV (q : Except Int Int) : Value := match q with
  | .ok t => .tuple #[.int .i64 t, .nilIface]
  | .error c => .tuple #[.int .i64 0, errV c]
theorem teV_form (q : Except Int Int) : ∃ n v, teV q = .tuple #[.int .i64 n, v] ∧ (v = .nilIface ∨ ∃ c, v = errV c) := by
  cases q with
  | ok t => exact ⟨t, _, rfl, .inl rfl⟩
  | error c => exact ⟨0, _, rfl, .inr ⟨c, rfl⟩⟩
theorem goes_any (a b : Int) (w : World) {q : Bool} (h : goesB a b = q) : Calls Tryz.prog 97 #[.int .i64 a, .int .i64 b] w fun e w' => e = .returned (.bool q) ∧ w' = w := by
  unfold goesB at h
  cases h1 : (a == b)
  · cases h2 : (a == 0)
    · obtain rfl : false = q := by rw [← h, h1, h2]; rfl
      clear h
      go_enter Tryz.func97, Tryz.ntmps97
      go_wp2_with fail
      go_ret
      exact ⟨rfl, rfl⟩
    · obtain rfl : true = q := by rw [← h, h1, h2]; rfl
      clear h
      go_enter Tryz.func97, Tryz.ntmps97
      go_wp2_with fail
      go_ret
      exact ⟨rfl, rfl⟩
  · obtain rfl : true = q := by rw [← h, h1]; rfl
    clear h
    go_enter Tryz.func97, Tryz.ntmps97
    go_wp2_with fail
    go_ret
    exact ⟨rfl, rfl⟩
theorem only1_any (a k : Int) (p : Nat) (w : World) (hp : w.cell? ⟨p, 0, none⟩ = some (.int .i64 k)) {q : Bool} (h : (!goesB a k) = q) : Calls Tryz.prog 96 #[.int .i64 a, .pointer (some ⟨p, 0, none⟩)] w fun e w' => e = .returned (.bool q) ∧ w' = w := by
  have HG := Lib.hid (goes_any a k w rfl)
  subst h
  generalize goesB a k = b at HG ⊢
  go_enter Tryz.func96, Tryz.ntmps96
  go_wp2_with fail
  refine HG.out.mono ?_
  rintro e w1 ⟨rfl, rfl⟩
  go_wp2_with fail
  go_ret
  exact ⟨rfl, rfl⟩
theorem any_take_succI (p : Int → Bool) (l : List Int) (i : Nat) (hi : i < l.length) : (l.take (i + 1)).any p = ((l.take i).any p || p l[i]) := by
  rw [List.take_succ_eq_append_getElem hi, List.any_append]
  simp
set_option maxHeartbeats 1000000 in
theorem indexOnly_any (k : Int) (p : Nat) (A : Option Addr) (c : Nat) (l : List Int) (w : World) (h : InAt w A l) (hl : l.length ≤ 1000000) (hp : w.cell? ⟨p, 0, none⟩ = some (.int .i64 k)) :
    Calls Tryz.prog 111 #[.slice A l.length c, .func (.func 96) #[] #[.pointer (some ⟨p, 0, none⟩)]] w fun e w' => (∃ i : Int, e = .returned (.int .i64 i) ∧ (i = -1 ∨ 0 ≤ i) ∧ l.any (fun t => !goesB t k) = decide (0 ≤ i)) ∧ w' = w := by
  have eg := enters_of Tryz.func96 (by kernel_rfl) rfl
  unfold Enters at eg
  obtain ⟨f, hf⟩ : ∃ f : Int → Bool, f = fun t => !goesB t k := ⟨_, rfl⟩
  have HC := Lib.hid (fun a (q : Bool) (hq : f a = q) => only1_any a k p w hp (q := q) (by rw [← hq, hf]))
  rw [← hf]
  clear hp hf
  have HK := Lib.hid h
  clear h
  go_enter Tryz.func111, Tryz.ntmps111
  go_wp2_with fail
  go_loop [8] (fun i => ∃ j : Nat, j ≤ l.length ∧ i = .int .i64 j ∧ Hid ((l.take j).any f = false)) (fun i => l.length - (intOf i).toNat)
  case atStart => exact ⟨0, Nat.zero_le _, rfl, Lib.hid (by simp)⟩
  case round =>
    obtain ⟨j, hj, rfl, HN⟩ := hrel
    by_cases hlt : j < l.length
    · obtain ⟨b, off, rfl, hb, c0⟩ := HK.out.at hlt
      have HS := Lib.hid (any_take_succI f l j hlt)
      have HA := Lib.hid (fun h : f l[j] = true => show l.any f = true from List.any_eq_true.2 ⟨_, List.getElem_mem hlt, h⟩)
      obtain ⟨v, hv⟩ : ∃ v, l[j] = v := ⟨_, rfl⟩
      rw [hv] at c0 HS HA
      clear hv
      cases hbd : f v
      · have HC2 := Lib.hid (HC.out v false hbd)
        have HE := Lib.hid (show (l.take (j + 1)).any f = false by rw [HS.out, HN.out, hbd]; rfl)
        clear hbd
        go_wp2_with fail
        refine HC2.out.mono ?_
        rintro e w1 ⟨rfl, rfl⟩
        go_wp2_with fail
        go_roundw
        case rel => exact ⟨j + 1, by omega, by go_num, HE⟩
        case measure => simp [intOf]; omega
      · have HC2 := Lib.hid (HC.out v true hbd)
        have HE := Lib.hid (HA.out hbd)
        clear hbd
        go_wp2_with fail
        refine HC2.out.mono ?_
        rintro e w1 ⟨rfl, rfl⟩
        go_wp2_with fail
        go_ret
        exact ⟨⟨j, rfl, .inr (by omega), by rw [HE.out, decide_eq_true (by omega)]⟩, rfl⟩
    · have HE := Lib.hid (show l.any f = false by rw [← HN.out, List.take_of_length_le (by omega)])
      go_wp2_with fail
      go_ret
      exact ⟨⟨-1, rfl, .inl rfl, by rw [HE.out, decide_eq_false (by omega)]⟩, rfl⟩
theorem containsOnly_any (k : Int) (p : Nat) (A : Option Addr) (c : Nat) (l : List Int) (w : World) (h : InAt w A l) (hl : l.length ≤ 1000000) (hp : w.cell? ⟨p, 0, none⟩ = some (.int .i64 k)) :
    Calls Tryz.prog 98 #[.slice A l.length c, .func (.func 96) #[] #[.pointer (some ⟨p, 0, none⟩)]] w fun e w' => e = .returned (.bool (l.any fun t => !goesB t k)) ∧ w' = w := by
  obtain ⟨q, hq⟩ : ∃ q, (l.any fun t => !goesB t k) = q := ⟨_, rfl⟩
  have HI := indexOnly_any k p A c l w h hl hp
  rw [hq] at HI ⊢
  have HI := Lib.hid HI
  clear h hp hq
  go_enter Tryz.func98, Tryz.ntmps98
  go_wp2_with fail
  refine HI.out.mono ?_
  rintro e w1 ⟨⟨i, rfl, hi, ha⟩, rfl⟩
  have HA := Lib.hid ha
  clear ha
  rcases hi with rfl | hi
  · go_wp2_with fail
    go_ret
    exact ⟨by rw [HA.out]; rfl, rfl⟩
  · go_wp2_with fail
    go_ret
    exact ⟨ret_bool (by rw [HA.out, decide_eq_true hi]), rfl⟩
set_option maxHeartbeats 2000000 in
theorem only_any (k : Int) (A : Option Addr) (c : Nat) (l : List Int) (w : World) (h : InAt w A l) (hl : l.length ≤ 1000000) :
    Calls Tryz.prog 69 #[.int .i64 k, .slice A l.length c] w fun e w' => e = .returned (teV (onlyT k l)) ∧ Below w.heap.size w w' := by
  have hb := ba w (.cells #[.int .i64 k] 3)
  have HC := containsOnly_any k w.heap.size A c l _ (h.kept hb) hl (by simp)
  have HB := Lib.hid hb
  have HX := Lib.hid (show (w.alloc (.cells #[.int .i64 k] 3)).cell? ⟨w.heap.size, 0, none⟩ = some (.int .i64 k) by simp)
  obtain ⟨o, ho⟩ : ∃ o, onlyT k l = o := ⟨_, rfl⟩
  have HO := Lib.hid ho
  rw [ho]
  have k0 := HX.out
  clear hb h ho
  cases ha : (l.any fun t => !goesB t k)
  · rw [ha] at HC
    have HC := Lib.hid HC
    obtain rfl : o = .ok k := by rw [← HO.out, onlyT, ha]; rfl
    clear ha
    go_enter Tryz.func69, Tryz.ntmps69
    go_wp2_with fail
    refine HC.out.mono ?_
    rintro e w1 ⟨rfl, rfl⟩
    go_wp2_with fail
    exact bodyPost_ret (v := .tuple #[.int .i64 k, .nilIface]) (by simp [results, Tryz.results69, go_sem]) rfl ⟨rfl, HB.out⟩
  · rw [ha] at HC
    have HC := Lib.hid HC
    obtain rfl : o = .error 141 := by rw [← HO.out, onlyT, ha]; rfl
    clear ha
    go_enter Tryz.func69, Tryz.ntmps69
    go_wp2_with fail
    refine HC.out.mono ?_
    rintro e w1 ⟨rfl, rfl⟩
    go_wp2_with fail
    exact bodyPost_ret (v := .tuple #[.int .i64 0, errV 141]) (by simp [results, Tryz.results69, go_sem]) rfl ⟨rfl, HB.out⟩
theorem compared_any (a b : Int) (w : World) : Calls Tryz.prog 70 #[.int .i64 a, .int .i64 b] w fun e w' => e = .returned (teV (compT a b)) ∧ w' = w := by
  have H1 := goes_any a b w rfl
  have H2 := goes_any b a w rfl
  obtain ⟨o, ho⟩ : ∃ o, compT a b = o := ⟨_, rfl⟩
  rw [ho]
  unfold compT at ho
  generalize goesB a b = x at H1 ho
  generalize goesB b a = y at H2 ho
  have H1 := Lib.hid H1
  have H2 := Lib.hid H2
  cases x
  · cases y
    · obtain rfl : Except.error 141 = o := ho
      go_enter Tryz.func70, Tryz.ntmps70
      go_wp2_with fail
      refine H1.out.mono ?_
      rintro e w1 ⟨rfl, rfl⟩
      go_wp2_with fail
      refine H2.out.mono ?_
      rintro e w1 ⟨rfl, rfl⟩
      go_wp2_with fail
      exact bodyPost_ret (v := .tuple #[.int .i64 0, errV 141]) (by simp [results, Tryz.results70, go_sem]) rfl ⟨rfl, rfl⟩
    · obtain rfl : Except.ok 1 = o := ho
      go_enter Tryz.func70, Tryz.ntmps70
      go_wp2_with fail
      refine H1.out.mono ?_
      rintro e w1 ⟨rfl, rfl⟩
      go_wp2_with fail
      refine H2.out.mono ?_
      rintro e w1 ⟨rfl, rfl⟩
      go_wp2_with fail
      exact bodyPost_ret (v := .tuple #[.int .i64 1, .nilIface]) (by simp [results, Tryz.results70, go_sem]) rfl ⟨rfl, rfl⟩
  · obtain rfl : Except.ok 1 = o := ho
    go_enter Tryz.func70, Tryz.ntmps70
    go_wp2_with fail
    refine H1.out.mono ?_
    rintro e w1 ⟨rfl, rfl⟩
    go_wp2_with fail
    exact bodyPost_ret (v := .tuple #[.int .i64 1, .nilIface]) (by simp [results, Tryz.results70, go_sem]) rfl ⟨rfl, rfl⟩
theorem colType_any (n : Int) (hn : 0 ≤ n) (A : Option Addr) (c : Nat) (l : List Co) (w : World) (h : CoAt w A l) :
    Calls Tryz.prog 52 #[.int .i64 n, .slice A l.length c] w fun e w' => e = .returned (teV (colT l n)) ∧ w' = w := by
  obtain ⟨i, rfl⟩ := Int.eq_ofNat_of_zero_le hn
  obtain ⟨o, ho⟩ : ∃ o, colT l (i : Nat) = o := ⟨_, rfl⟩
  rw [ho]
  unfold colT at ho
  by_cases hi : i < l.length
  · obtain ⟨b, off, rfl, hb, c0, c1, c2⟩ := h.at hi
    rw [if_pos (by omega), Int.toNat_natCast, List.getElem?_eq_getElem hi] at ho
    obtain rfl : Except.ok l[i].ty = o := ho
    obtain ⟨v, hv⟩ : ∃ v, l[i] = v := ⟨_, rfl⟩
    rw [hv] at c0 c1 c2 ⊢
    obtain ⟨vt, vn, vy⟩ := v
    simp only at c2 ⊢
    clear h hv c0 c1 hn
    have hgo : ¬ (l.length : Int) ≤ (i : Int) := by omega
    go_enter Tryz.func52, Tryz.ntmps52
    go_wp2_with fail
    exact bodyPost_ret (v := .tuple #[.int .i64 vy, .nilIface]) (by simp [results, Tryz.results52, go_sem]) rfl ⟨rfl, rfl⟩
  · rw [if_neg (by omega)] at ho
    subst ho
    have hgo : (l.length : Int) ≤ (i : Int) := by omega
    clear h hn
    go_enter Tryz.func52, Tryz.ntmps52
    go_wp2_with fail
    exact bodyPost_ret (v := .tuple #[.int .i64 0, errV 140]) (by simp [results, Tryz.results52, go_sem]) rfl ⟨rfl, rfl⟩
end Go.Proofs.YtofhaokaldpmaaaGreatDoor
end
section
namespace Go.Proofs.YtofhaokaldpmaaaGreatDoor
open Go.RowKit Go.Shelf

/-- A part of an expression, in memory, found again. -/
theorem kid_at {W : World} {w : World} {l : List Ex} {A : Option Addr} {j : Nat} (hX : XsAt w.heap.size w l A) (hb : Below w.heap.size w W) (hj : j < l.length) :
    ∃ h' l' g o A' cap', l[j]? = some (.mk h' l') ∧ A = some ⟨g, o, none⟩ ∧ g < W.heap.size ∧ XC W g (o + j * 8) h' A' l'.length cap' ∧ l'.length ≤ cap' ∧ XsAt W.heap.size W l' A' := by
  obtain ⟨x, hx⟩ : ∃ x, l[j]? = some x := ⟨_, List.getElem?_eq_getElem hj⟩
  obtain ⟨h', l'⟩ := x
  obtain ⟨g, o, A', cap', e, hg, hc, hl, hx2⟩ := hX.at hx
  exact ⟨h', l', g, o, A', cap', hx, e, Nat.lt_of_lt_of_le hg hb.size, hc.of (hb.block g hg), hl, XsAt.next hx2 hb⟩
end Go.Proofs.YtofhaokaldpmaaaGreatDoor
end
