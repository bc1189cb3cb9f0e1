/-
  Queries of tokens, plainly: what is read of them, and whether it may be.
Names.
Contracts of package value's small functions: which values may be, and how values are made.
Contracts of value.Compare, of the document's own Compare, and of '==' between two values.
Which expressions fit, but for their parts.
Through an expression: visit, through; what a round of a loop over it may do to a world.
Expressions that are read of tokens, plainly: no more nodes than tokens, no long texts.
-/
import Derived.Test.YtfjimoccliejdaaGreatDoorY2
import Derived.Test.YtfjimoccliejdaaGreatDoorProg
import Derived.Laws.StructEq
import Derived.Lib.Hide
import Derived.Deep.QuietTactic
import Derived.BigQuiet
import Derived.RangeFuncNested
import Derived.RangeFuncBound
import Derived.RangeFuncCalls
import Derived.RangeFuncLeaves
import Derived.Shelf.Abstract
import Derived.Shelf.RegionOpen
import Derived.OwnWalkIn
import Derived.TacticsInMore
import Derived.LoopNIn
import Derived.LoopIn
section
namespace Go.Proofs.YtfjimoccliejdaaGreatDoor.Pa
open Lx (B Tok)

def exZ : Ex := .mk ⟨0, 0, 0, 0, ⟨#[]⟩, ⟨#[]⟩, ⟨#[]⟩⟩ []
structure Itm where
  star : Bool
  e : Ex
  nm : B
structure Src where
  tb : B
  nm : B
  join : Nat
  on : Ex
structure Sel where
  dist : Bool
  its : List Itm
  frs : List Src
  wh : Ex
  grp : List Ex
structure Ky where
  nm : B
  down : Bool
structure Qu where
  parts : List Sel
  order : List Ky
  lim : Int
/-- A word, and others that must follow it. -/
def takeAll (w : B) (ws : List B) (s : Ps) : Bool × Ps := if (takeW w s).1 then (true, ws.foldl (fun s w => mustW w s) (takeW w s).2) else (false, s)
theorem musts_le : ∀ (ws : List B) {s : Ps}, Fin s.ts → Le s (ws.foldl (fun s w => mustW w s) s)
  | [], _, h => Le.refl h
  | w :: ws, _, h => (mustW_le w h).trans (musts_le ws (mustW_le w h).fin)
theorem takeAll_le (w : B) (ws : List B) {s : Ps} (h : Fin s.ts) : Le s (takeAll w ws s).2 ∧ ((takeAll w ws s).1 = true → s.bad = false ∧ (takeAll w ws s).2.ts.length + 1 ≤ s.ts.length) ∧ ((takeAll w ws s).1 = false → (takeAll w ws s).2 = s) := by
  unfold takeAll
  obtain ⟨h1, h2, h3⟩ := takeW_le w h
  cases hb : (takeW w s).1 with
  | true =>
    rw [if_pos rfl]
    have h4 := musts_le ws h1.fin
    refine ⟨h1.trans h4, fun _ => ⟨(h2 hb).1, ?_⟩, fun e => by cases e⟩
    have := h4.len
    have := (h2 hb).2.2
    simp only
    omega
  | false => rw [if_neg (by simp)]; exact ⟨Le.refl h, (fun e => by cases e), fun _ => rfl⟩
/-- Things with words between. -/
def moreP {α : Type} (thing : Ps → α × Ps) (w : B) (ws : List B) : Nat → List α → Ps → List α × Ps
  | 0, l, s => (l, s)
  | n + 1, l, s => if (takeAll w ws s).1 then moreP thing w ws n (l ++ [(thing (takeAll w ws s).2).1]) (thing (takeAll w ws s).2).2 else (l, s)
def listP {α : Type} (thing : Ps → α × Ps) (w : B) (ws : List B) (s : Ps) : List α × Ps := moreP thing w ws (thing s).2.ts.length [(thing s).1] (thing s).2
theorem moreP_le {α : Type} {thing : Ps → α × Ps} {w : B} {ws : List B} (ht : ∀ s, Fin s.ts → Le s (thing s).2) : ∀ (n : Nat) (l : List α) {s : Ps}, Fin s.ts → Le s (moreP thing w ws n l s).2
  | 0, _, s, h => Le.refl h
  | n + 1, l, s, h => by
    rw [moreP]
    have h1 := (takeAll_le w ws h).1
    split
    · have h2 := ht _ h1.fin
      exact h1.trans (h2.trans (moreP_le ht n _ h2.fin))
    · exact Le.refl h
theorem listP_le {α : Type} {thing : Ps → α × Ps} {w : B} {ws : List B} (ht : ∀ s, Fin s.ts → Le s (thing s).2) {s : Ps} (h : Fin s.ts) : Le s (listP thing w ws s).2 :=
  (ht s h).trans (moreP_le ht _ _ (ht s h).fin)
theorem moreP_stop {α : Type} {thing : Ps → α × Ps} {w : B} {ws : List B} {n : Nat} {l : List α} {s : Ps} (h : (takeAll w ws s).1 = false) : moreP thing w ws n l s = (l, s) := by
  cases n with
  | zero => rfl
  | succ n => rw [moreP, if_neg (by rw [h]; simp)]

abbrev wAS : B := [65, 83]
abbrev wON : B := [79, 78]
abbrev wBY : B := [66, 89]
abbrev wJOIN : B := [74, 79, 73, 78]
abbrev wLEFT : B := [76, 69, 70, 84]
abbrev wSEMI : B := [83, 69, 77, 73]
abbrev wANTI : B := [65, 78, 84, 73]
abbrev wSELECT : B := [83, 69, 76, 69, 67, 84]
abbrev wDISTINCT : B := [68, 73, 83, 84, 73, 78, 67, 84]
abbrev wFROM : B := [70, 82, 79, 77]
abbrev wWHERE : B := [87, 72, 69, 82, 69]
abbrev wGROUP : B := [71, 82, 79, 85, 80]
abbrev wORDER : B := [79, 82, 68, 69, 82]
abbrev wLIMIT : B := [76, 73, 77, 73, 84]
abbrev wUNION : B := [85, 78, 73, 79, 78]
abbrev wALL : B := [65, 76, 76]
abbrev wDESC : B := [68, 69, 83, 67]
def nameP (s : Ps) : B × Ps := ((mustK 1 s).1.s, (mustK 1 s).2)
theorem nameP_le {s : Ps} (h : Fin s.ts) : Le s (nameP s).2 := mustK_le (by decide) h
/-- A name behind AS, else the one that is given. -/
def asP (d : B) (s : Ps) : B × Ps := if (takeW wAS s).1 then nameP (takeW wAS s).2 else (d, s)
theorem asP_le (d : B) {s : Ps} (h : Fin s.ts) : Le s (asP d s).2 := by
  unfold asP
  have h1 := (takeW_le wAS h).1
  split
  · exact h1.trans (nameP_le h1.fin)
  · exact Le.refl h
section
variable (or : Ps → Ex × Ps)
def itemP (s : Ps) : Itm × Ps :=
  if (takeW [42] s).1 then (⟨true, exZ, []⟩, (takeW [42] s).2)
  else (⟨false, (or s).1, (asP [] (or s).2).1⟩, (asP [] (or s).2).2)
def sourceP (s : Ps) : Src × Ps := (⟨(nameP s).1, (asP (nameP s).1 (nameP s).2).1, 0, exZ⟩, (asP (nameP s).1 (nameP s).2).2)
/-- The kind of the join that stands next; 0: none does. -/
def joinP (s : Ps) : Nat × Ps :=
  if (takeW wJOIN s).1 then (1, (takeW wJOIN s).2)
  else if (takeAll wLEFT [wJOIN] s).1 then (2, (takeAll wLEFT [wJOIN] s).2)
  else if (takeAll wSEMI [wJOIN] s).1 then (3, (takeAll wSEMI [wJOIN] s).2)
  else if (takeAll wANTI [wJOIN] s).1 then (4, (takeAll wANTI [wJOIN] s).2)
  else (0, s)
/-- A further source: behind the kind of its join. -/
def joinedP (k : Nat) (s : Ps) : Src × Ps :=
  (⟨(sourceP s).1.tb, (sourceP s).1.nm, k, (or (mustW wON (sourceP s).2)).1⟩, (or (mustW wON (sourceP s).2)).2)
def sourcesP : Nat → List Src → Ps → List Src × Ps
  | 0, l, s => (l, s)
  | n + 1, l, s => if (joinP s).1 = 0 then (l, s) else sourcesP n (l ++ [(joinedP or (joinP s).1 (joinP s).2).1]) (joinedP or (joinP s).1 (joinP s).2).2
def fromP (s : Ps) : List Src × Ps := sourcesP or (sourceP s).2.ts.length [(sourceP s).1] (sourceP s).2
def whereP (s : Ps) : Ex × Ps := if (takeW wWHERE s).1 then or (takeW wWHERE s).2 else (exZ, s)
def groupP (s : Ps) : List Ex × Ps := if (takeAll wGROUP [wBY] s).1 then listP colP [44] [] (takeAll wGROUP [wBY] s).2 else ([], s)
def partP (s : Ps) : Sel × Ps :=
  let s1 := mustW wSELECT s
  let d := takeW wDISTINCT s1
  let i := listP (itemP or) [44] [] d.2
  let f := fromP or (mustW wFROM i.2)
  let w := whereP or f.2
  let g := groupP w.2
  (⟨d.1, i.1, f.1, w.1, g.1⟩, g.2)
def keyP (s : Ps) : Ky × Ps := (⟨(nameP s).1, (takeW wDESC (nameP s).2).1⟩, (takeW wDESC (nameP s).2).2)
def orderP (s : Ps) : List Ky × Ps := if (takeAll wORDER [wBY] s).1 then listP keyP [44] [] (takeAll wORDER [wBY] s).2 else ([], s)
def limitP (s : Ps) : Int × Ps := if (takeW wLIMIT s).1 then (((mustK 3 (takeW wLIMIT s).2).1.n : Int), (mustK 3 (takeW wLIMIT s).2).2) else (-1, s)
def queryP (s : Ps) : Qu × Ps :=
  let p := listP (partP or) wUNION [wALL] s
  let o := orderP p.2
  let l := limitP o.2
  (⟨p.1, o.1, l.1⟩, l.2)
end
section
variable {or : Ps → Ex × Ps} (ho : ∀ s, Fin s.ts → Le s (or s).2)
include ho
theorem itemP_le {s : Ps} (h : Fin s.ts) : Le s (itemP or s).2 := by
  unfold itemP
  split
  · exact (takeW_le _ h).1
  · exact (ho s h).trans (asP_le _ (ho s h).fin)
omit ho in
theorem sourceP_le {s : Ps} (h : Fin s.ts) : Le s (sourceP s).2 := (nameP_le h).trans (asP_le _ (nameP_le h).fin)
omit ho in
theorem joinP_le {s : Ps} (h : Fin s.ts) : Le s (joinP s).2 ∧ ((joinP s).1 ≠ 0 → s.bad = false ∧ (joinP s).2.ts.length + 1 ≤ s.ts.length) ∧ ((joinP s).1 = 0 → (joinP s).2 = s) := by
  unfold joinP
  split
  · rename_i hw
    obtain ⟨h1, h2, _⟩ := takeW_le wJOIN h
    exact ⟨h1, (fun _ => ⟨(h2 hw).1, by have := (h2 hw).2.2; simp only; omega⟩), fun e => by cases e⟩
  split
  · rename_i hw; obtain ⟨h1, h2, _⟩ := takeAll_le wLEFT [wJOIN] h; exact ⟨h1, (fun _ => h2 hw), fun e => by cases e⟩
  split
  · rename_i hw; obtain ⟨h1, h2, _⟩ := takeAll_le wSEMI [wJOIN] h; exact ⟨h1, (fun _ => h2 hw), fun e => by cases e⟩
  split
  · rename_i hw; obtain ⟨h1, h2, _⟩ := takeAll_le wANTI [wJOIN] h; exact ⟨h1, (fun _ => h2 hw), fun e => by cases e⟩
  · exact ⟨Le.refl h, (fun e => absurd rfl e), fun _ => rfl⟩
theorem joinedP_le (k : Nat) {s : Ps} (h : Fin s.ts) : Le s (joinedP or k s).2 := by
  have h1 := sourceP_le h
  have h2 := mustW_le wON h1.fin
  exact h1.trans (h2.trans (ho _ h2.fin))
theorem sourcesP_le : ∀ (n : Nat) (l : List Src) {s : Ps}, Fin s.ts → Le s (sourcesP or n l s).2
  | 0, _, s, h => Le.refl h
  | n + 1, l, s, h => by
    rw [sourcesP]
    have h1 := (joinP_le h).1
    split
    · exact Le.refl h
    · have h2 := joinedP_le ho (joinP s).1 h1.fin
      exact h1.trans (h2.trans (sourcesP_le n _ h2.fin))
omit ho in
theorem sourcesP_stop {n : Nat} {l : List Src} {s : Ps} (h : (joinP s).1 = 0) : sourcesP or n l s = (l, s) := by
  cases n with
  | zero => rfl
  | succ n => rw [sourcesP, if_pos h]
theorem fromP_le {s : Ps} (h : Fin s.ts) : Le s (fromP or s).2 := (sourceP_le h).trans (sourcesP_le ho _ _ (sourceP_le h).fin)
theorem whereP_le {s : Ps} (h : Fin s.ts) : Le s (whereP or s).2 := by
  unfold whereP
  have h1 := (takeW_le wWHERE h).1
  split
  · exact h1.trans (ho _ h1.fin)
  · exact Le.refl h
omit ho in
theorem groupP_le {s : Ps} (h : Fin s.ts) : Le s (groupP s).2 := by
  unfold groupP
  have h1 := (takeAll_le wGROUP [wBY] h).1
  split
  · exact h1.trans (listP_le (fun _ h => colP_le h) h1.fin)
  · exact Le.refl h
theorem partP_le {s : Ps} (h : Fin s.ts) : Le s (partP or s).2 := by
  have h1 := mustW_le wSELECT h
  have h2 := (takeW_le wDISTINCT h1.fin).1
  have h3 := listP_le (w := [44]) (ws := []) (fun _ h => itemP_le ho h) h2.fin
  have h4 := mustW_le wFROM h3.fin
  have h5 := fromP_le ho h4.fin
  have h6 := whereP_le ho h5.fin
  exact h1.trans (h2.trans (h3.trans (h4.trans (h5.trans (h6.trans (groupP_le h6.fin))))))
omit ho in
theorem keyP_le {s : Ps} (h : Fin s.ts) : Le s (keyP s).2 := (nameP_le h).trans (takeW_le _ (nameP_le h).fin).1
end
/-- The tokens of a text end as they should. -/
theorem toks_fin {l : B} {a : Nat} {ts : List TkA} {n : Nat} (h : Lx.Toks l a ts n) : Fin ts := by
  induction h with
  | fin _ => exact ⟨[], _, rfl, rfl, fun x hx => by cases hx⟩
  | @tok l w r a t ts n hd ht hf hr ih =>
    obtain ⟨l', e, rfl, he, ha⟩ := ih
    refine ⟨(t, _) :: l', e, rfl, he, fun x hx => ?_⟩
    rcases List.mem_cons.1 hx with rfl | hx
    · exact (Lx.tok_k ht).1
    · exact ha x hx
end Go.Proofs.YtfjimoccliejdaaGreatDoor.Pa
end
section
namespace Go.Proofs.YtfjimoccliejdaaGreatDoor
open Go.RowKit Go.Shelf

def isName (s : ByteArray) : Bool := match Lx.cut (bs s) with
  | some (t, z) => decide (t.k = 1) && decide (z = s.size)
  | none => false
set_option maxHeartbeats 1000000 in
theorem name_any (s : ByteArray) (w : World) (hs : s.size ≤ 9223372036854775807) (hT : Tabs w) :
    Calls Tryz.prog 109 #[.string s] w fun e w' => e = .returned (.bool (isName s)) ∧ Below w.heap.size w w' := by
  have HT := Lib.hid hT
  clear hT
  go_enter Tryz.func109, Tryz.ntmps109
  go_wp2_with fail
  refine (cut_any s _ hs HT.out).mono ?_
  rintro e w2 ⟨v, rfl, hv, hb⟩
  have HB := Lib.hid hb
  clear hb
  cases hc : Lx.cut (bs s) with
  | none =>
    rw [hc] at hv
    obtain rfl : v = noTok := hv
    have HN := Lib.hid (show isName s = false by rw [isName, hc])
    go_wp2_with fail
    go_ret
    rw [HN.out]
    exact ⟨rfl, bt HB.out (ba w2 _)⟩
  | some x =>
    obtain ⟨t, z⟩ := x
    rw [hc] at hv
    obtain ⟨hz, b, hbs, rfl⟩ := hv
    have HN := Lib.hid (show isName s = (decide (t.k = 1) && decide (z = s.size)) by rw [isName, hc])
    clear hbs hc
    by_cases h1 : t.k = 1
    · have H1 := Lib.hid h1
      have h1' : (t.k : Int) = 1 := by omega
      clear h1
      by_cases h2 : z = s.size
      · subst h2
        go_wp2_with fail
        go_ret
        rw [HN.out, H1.out]
        exact ⟨ret_b (by simp), bt HB.out (ba w2 _)⟩
      · have h2' : ¬ (z : Int) = s.size := by omega
        go_wp2_with fail
        go_ret
        rw [HN.out, H1.out]
        exact ⟨ret_b (by simp [h2]; exact h2'), bt HB.out (ba w2 _)⟩
    · have h1' : ¬ (t.k : Int) = 1 := by omega
      go_wp2_with fail
      go_ret
      rw [HN.out]
      exact ⟨ret_b (by simp [h1]), bt HB.out (ba w2 _)⟩
end Go.Proofs.YtfjimoccliejdaaGreatDoor
end
section
namespace Go.Proofs.YtfjimoccliejdaaGreatDoor
open Go.RowKit

set_option maxHeartbeats 400000 in
theorem mayBe_any (k n : Int) (s : ByteArray) (w : World) (hs : s.size ≤ 9223372036854775807) :
    Calls Tryz.prog 162 #[VV k n s] w fun e w' => e = .returned (.bool (okV k n s)) ∧ Below w.heap.size w w' := by
  go_enter Tryz.func162, Tryz.ntmps162
  go_wp2
  all_goals
    go_ret
    refine ⟨ret_bool (by simp_all [okV] <;> (intros; omega)), (Below.refl _ _).alloc (Nat.le_refl _) _⟩

theorem mayBe_yes (k n : Int) (s : ByteArray) (w : World) (hs : s.size ≤ 9223372036854775807) (h : okV k n s = true) :
    Calls Tryz.prog 162 #[VV k n s] w fun e w' => e = .returned (.bool true) ∧ Below w.heap.size w w' := by
  rw [← h]; exact mayBe_any k n s w hs
theorem mayBe_no (k n : Int) (s : ByteArray) (w : World) (hs : s.size ≤ 9223372036854775807) (h : okV k n s = false) :
    Calls Tryz.prog 162 #[VV k n s] w fun e w' => e = .returned (.bool false) ∧ Below w.heap.size w w' := by
  rw [← h]; exact mayBe_any k n s w hs

set_option maxHeartbeats 400000 in
theorem check_any (k n : Int) (s : ByteArray) (w : World) (hs : s.size ≤ 9223372036854775807) :
    Calls Tryz.prog 156 #[VV k n s] w fun e w' => e = .returned (.int .i64 (if okV k n s then 0 else 10)) ∧ Below w.heap.size w w' := by
  cases hok : okV k n s
  · go_enter Tryz.func156, Tryz.ntmps156
    go_wp2_with (go_at_call 162; refine (mayBe_no _ _ _ _ hs hok).mono ?_; rintro e w' ⟨rfl, hb⟩)
    go_ret
    exact ⟨rfl, ((Below.refl _ _).alloc (Nat.le_refl _) _).trans (hb.mono (by simp))⟩
  · go_enter Tryz.func156, Tryz.ntmps156
    go_wp2_with (go_at_call 162; refine (mayBe_yes _ _ _ _ hs hok).mono ?_; rintro e w' ⟨rfl, hb⟩)
    go_ret
    exact ⟨rfl, ((Below.refl _ _).alloc (Nat.le_refl _) _).trans (hb.mono (by simp))⟩

set_option maxHeartbeats 400000 in
theorem refCheck_any (k n : Int) (s : ByteArray) (w : World) (hs : s.size ≤ 9223372036854775807) :
    Calls Tryz.prog 66 #[VV k n s] w fun e w' => e = .returned (.bool (okV k n s)) ∧ Below w.heap.size w w' := by
  go_enter Tryz.func66, Tryz.ntmps66
  go_wp2
  all_goals
    go_ret
    refine ⟨ret_bool (by simp_all [okV] <;> (intros; omega)), (Below.refl _ _).alloc (Nat.le_refl _) _⟩
theorem refCheck_yes (k n : Int) (s : ByteArray) (w : World) (hs : s.size ≤ 9223372036854775807) (h : okV k n s = true) :
    Calls Tryz.prog 66 #[VV k n s] w fun e w' => e = .returned (.bool true) ∧ Below w.heap.size w w' := by
  rw [← h]; exact refCheck_any k n s w hs
theorem refCheck_no (k n : Int) (s : ByteArray) (w : World) (hs : s.size ≤ 9223372036854775807) (h : okV k n s = false) :
    Calls Tryz.prog 66 #[VV k n s] w fun e w' => e = .returned (.bool false) ∧ Below w.heap.size w w' := by
  rw [← h]; exact refCheck_any k n s w hs

end Go.Proofs.YtfjimoccliejdaaGreatDoor
end
section
namespace Go.Proofs.YtfjimoccliejdaaGreatDoor
open Go.RowKit

theorem run_eqV (k n : Int) (s : ByteArray) (k' n' : Int) (s' : ByteArray) (w : World) :
    (binOp .eql 34 (VV k n s) (VV k' n' s')).run Tryz.prog w = .ok (.bool (eqV k n s k' n' s')) w := by
  have u3 := Tryz.underlying3
  have a3 := Tryz.isAgg3
  have z3 := Tryz.sizeOf3
  have u9 := Tryz.underlying9
  have a9 := Tryz.isAgg9
  have z9 := Tryz.sizeOf9
  have hS : Tryz.prog.underlying 34 = some (.struct (Tryz.prog.fieldsOf 34)) := by kernel_rfl
  have hp : Tryz.prog.stoodInHeld 34 = false := by kernel_rfl
  rw [run_eql_struct, show (10000 : Nat) = 9999 + 1 from rfl, run_equalIn_agg w 9999 34 _ _ hS hp]
  simp only [Program.fieldsOf, Tryz.underlying34]
  go_simp
  unfold eqV
  by_cases h1 : k = k' <;> by_cases h2 : n = n' <;> by_cases h3 : s.toList = s'.toList <;> simp [h1, h2, h3]

end Go.Proofs.YtfjimoccliejdaaGreatDoor
end
section
namespace Go.Proofs.YtfjimoccliejdaaGreatDoor
open Go.RowKit Go.Shelf

def arI (n : Int) : Int := if n = 3 ∨ n = 15 ∨ n = 16 ∨ n = 17 then 1 else if 1 ≤ n ∧ n ≤ 17 then 2 else 0
theorem arity_any (n : Int) (w : World) :
    Calls Tryz.prog 111 #[.int .i64 n] w fun e w' => e = .returned (.int .i64 (arI n)) ∧ w' = w := by
  go_enter Tryz.func111, Tryz.ntmps111
  go_wp2
  all_goals
    go_ret
    exact ⟨ret_i (by simp_all [arI] <;> omega), rfl⟩
def litB (k n : Int) (s : ByteArray) : Bool := okV k n s && (k != 2 || decide (0 ≤ n))
theorem isLiteral_any (k n : Int) (s : ByteArray) (w : World) (hs : s.size ≤ 9223372036854775807) :
    Calls Tryz.prog 142 #[VV k n s] w fun e w' => e = .returned (.bool (litB k n s)) ∧ Below w.heap.size w w' := by
  have hc := check_any k n s
  obtain ⟨b, hb⟩ : ∃ b, okV k n s = b := ⟨_, rfl⟩
  have HB := Lib.hid hb
  cases b
  all_goals
    rw [hb] at hc
    clear hb
    go_enter Tryz.func142, Tryz.ntmps142
    go_wp2_with fail
    refine (hc _ hs).mono ?_
    clear hc
    rintro e w1 ⟨rfl, hb1⟩
    obtain ⟨c0, c1, c2⟩ := box1 hb1
    have HB1 := Lib.hid (bt (ba _ _) hb1)
    clear hb1
    go_wp2
    all_goals
      go_ret
      exact ⟨ret_bool (by have := HB.out; simp_all [litB]), HB1.out⟩
def colB (t c : ByteArray) : Bool := isName c && (t.toList.isEmpty || isName t)
theorem isColumn_any (t c : ByteArray) (w : World) (ht : t.size ≤ 16384) (hc : c.size ≤ 16384) (hT : Tabs w) :
    Calls Tryz.prog 143 #[.string t, .string c] w fun e w' => e = .returned (.bool (colB t c)) ∧ Below w.heap.size w w' := by
  have h1 := name_any c w (by omega) hT
  have h2 := fun w1 (hb : Below w.heap.size w w1) => name_any t w1 (by omega) (hT.kept hb)
  obtain ⟨b, hb⟩ : ∃ b, isName c = b := ⟨_, rfl⟩
  obtain ⟨b', hb'⟩ : ∃ b', isName t = b' := ⟨_, rfl⟩
  obtain ⟨e, he⟩ : ∃ e, t.toList.isEmpty = e := ⟨_, rfl⟩
  rw [hb] at h1
  rw [hb'] at h2
  have HB := Lib.hid (show colB t c = (b && (e || b')) by rw [colB, hb, hb', he])
  clear hb hb'
  cases b
  · go_enter Tryz.func143, Tryz.ntmps143
    go_wp2_with fail
    refine h1.mono ?_
    rintro e1 w1 ⟨rfl, hb1⟩
    go_wp2
    go_ret
    rw [HB.out]
    exact ⟨rfl, hb1⟩
  · cases e
    · go_enter Tryz.func143, Tryz.ntmps143
      go_wp2_with fail
      refine h1.mono ?_
      clear h1
      rintro e1 w1 ⟨rfl, hb1⟩
      go_wp2_with fail
      refine (h2 _ hb1).mono ?_
      rintro e1 w2 ⟨rfl, hb2⟩
      go_wp2
      go_ret
      rw [HB.out]
      exact ⟨by simp, bt hb1 hb2⟩
    · go_enter Tryz.func143, Tryz.ntmps143
      go_wp2_with fail
      refine h1.mono ?_
      clear h1
      rintro e1 w1 ⟨rfl, hb1⟩
      go_wp2
      go_ret
      rw [HB.out]
      exact ⟨rfl, hb1⟩
def aggB (n l : Int) : Bool := if n = 1 then l == 0 else decide (1 < n) && decide (n ≤ 5) && l == 1
theorem isAgg_any (n l : Int) (w : World) :
    Calls Tryz.prog 144 #[.int .i64 n, .int .i64 l] w fun e w' => e = .returned (.bool (aggB n l)) ∧ w' = w := by
  go_enter Tryz.func144, Tryz.ntmps144
  go_wp2
  all_goals
    go_ret
    exact ⟨ret_bool (by simp_all [aggB] <;> omega), rfl⟩
def namelessB (h : Hd) : Bool := h.tab.toList.isEmpty && h.col.toList.isEmpty
def valuelessB (h : Hd) : Bool := eqV h.vk h.vn h.vs 0 0 ⟨#[]⟩
/-- What the program asks of an expression beside its parts. -/
def fitsB (h : Hd) (len : Nat) : Bool :=
  if h.k = 1 then litB h.vk h.vn h.vs && h.n == 0 && namelessB h && (len : Int) == 0
  else if h.k = 2 then colB h.tab h.col && decide (0 ≤ h.n) && decide (h.n < 32) && valuelessB h && (len : Int) == 0
  else if h.k = 3 then decide (0 < arI h.n) && ((len : Int) == arI h.n) && namelessB h && valuelessB h
  else if h.k = 4 then aggB h.n len && namelessB h && valuelessB h
  else false
/-- Texts of an expression that are short enough to be looked at. -/
structure Sm (h : Hd) : Prop where
  t : h.tab.size ≤ 200
  c : h.col.size ≤ 200
  v : h.vs.size ≤ 500
theorem box8v {w w1 : World} {a0 a1 a2 a3 a4 a5 a6 a7 : Value} {T : TypeId} (hb : Below (w.alloc (.cells #[a0, a1, a2, a3, a4, a5, a6, a7] T)).heap.size (w.alloc (.cells #[a0, a1, a2, a3, a4, a5, a6, a7] T)) w1) :
    w1.cell? ⟨w.heap.size, 0, none⟩ = some a0 ∧ w1.cell? ⟨w.heap.size, 1, none⟩ = some a1 ∧ w1.cell? ⟨w.heap.size, 2, none⟩ = some a2 ∧ w1.cell? ⟨w.heap.size, 3, none⟩ = some a3 ∧
    w1.cell? ⟨w.heap.size, 4, none⟩ = some a4 ∧ w1.cell? ⟨w.heap.size, 5, none⟩ = some a5 ∧ w1.cell? ⟨w.heap.size, 6, none⟩ = some a6 ∧ w1.cell? ⟨w.heap.size, 7, none⟩ = some a7 := by
  have k : ∀ o, w1.cell? ⟨w.heap.size, o, none⟩ = (w.alloc (.cells #[a0, a1, a2, a3, a4, a5, a6, a7] T)).cell? ⟨w.heap.size, o, none⟩ := fun o => hb.cell (p := ⟨w.heap.size, o, none⟩) (by simp)
  exact ⟨(k _).trans (by simp), (k _).trans (by simp), (k _).trans (by simp), (k _).trans (by simp), (k _).trans (by simp), (k _).trans (by simp), (k _).trans (by simp), (k _).trans (by simp)⟩
theorem drNE (w : World) (n : Nat) : Below w.heap.size w (w.drewN n) := ⟨rfl, rfl, rfl, Nat.le_refl _, fun _ _ => rfl⟩
set_option maxRecDepth 100000 in
set_option maxHeartbeats 8000000 in
theorem fits_any (h : Hd) (A : Option Addr) (len cap : Nat) (w : World) (hs : Sm h) (hT : Tabs w) (hl : len ≤ 9223372036854775807) :
    Calls Tryz.prog 115 #[XV h A len cap] w fun e w' => e = .returned (.bool (fitsB h len)) ∧ Below w.heap.size w w' := by
  obtain ⟨k, n, vk, vn, vs, tab, col⟩ := h
  obtain ⟨ht, hc, hv⟩ := hs
  simp only at ht hc hv
  obtain ⟨bL, hbL⟩ : ∃ b, litB vk vn vs = b := ⟨_, rfl⟩
  obtain ⟨bK, hbK⟩ : ∃ b, colB tab col = b := ⟨_, rfl⟩
  have HL := Lib.hid (fun w1 => isLiteral_any vk vn vs w1 (by omega))
  have HC := Lib.hid (isColumn_any tab col (w.alloc (xbox ⟨k, n, vk, vn, vs, tab, col⟩ A len cap)) (by omega) (by omega) (hT.kept (ba _ _)))
  rw [hbL] at HL
  rw [hbK] at HC
  have hq := fun w1 => run_eqV vk vn vs 0 0 ⟨#[]⟩ w1
  obtain ⟨bT, hbT⟩ : ∃ b, tab.toList.isEmpty = b := ⟨_, rfl⟩
  obtain ⟨bC, hbC⟩ : ∃ b, col.toList.isEmpty = b := ⟨_, rfl⟩
  obtain ⟨bV, hbV⟩ : ∃ b, eqV vk vn vs 0 0 ⟨#[]⟩ = b := ⟨_, rfl⟩
  rw [hbV] at hq
  have HN := Lib.hid (show namelessB ⟨k, n, vk, vn, vs, tab, col⟩ = (bT && bC) by rw [namelessB, hbT, hbC])
  have HV := Lib.hid (show valuelessB ⟨k, n, vk, vn, vs, tab, col⟩ = bV from hbV)
  have HBx := Lib.hid (ba w (xbox ⟨k, n, vk, vn, vs, tab, col⟩ A len cap))
  have HF := Lib.hid (show fitsB ⟨k, n, vk, vn, vs, tab, col⟩ len =
      if k = 1 then bL && n == 0 && (bT && bC) && (len : Int) == 0
      else if k = 2 then bK && decide (0 ≤ n) && decide (n < 32) && bV && (len : Int) == 0
      else if k = 3 then decide (0 < arI n) && ((len : Int) == arI n) && (bT && bC) && bV
      else if k = 4 then aggB n len && (bT && bC) && bV else false by
    unfold fitsB; rw [HN.out, HV.out]; simp only [hbL, hbK])
  clear hbV hT hv hbL hbK HN HV ht hc
  by_cases h1 : k = 1
  · subst h1
    simp only [if_true] at HF
    cases bT <;> cases bC
    all_goals
      go_enter Tryz.func115, Tryz.ntmps115
      go_wp2_with fail
      refine (HL.out _).mono ?_
      rintro e w1 ⟨rfl, hb1⟩
      obtain ⟨c0, c1, c2, c3, c4, c5, c6, c7⟩ := box8v hb1
      have HB1 := Lib.hid (bt HBx.out hb1)
      clear hb1
      cases bL
      all_goals
        go_wp2
        all_goals
          go_ret
          exact ⟨ret_bool (by rw [HF.out]; simp_all <;> (intros; omega)), HB1.out⟩
  · rw [if_neg h1] at HF
    by_cases h2 : k = 2
    · subst h2
      simp only [if_true] at HF
      cases bV
      all_goals
        go_enter Tryz.func115, Tryz.ntmps115
        go_wp2_with fail
        all_goals
          refine HC.out.mono ?_
          rintro e w1 ⟨rfl, hb1⟩
          obtain ⟨c0, c1, c2, c3, c4, c5, c6, c7⟩ := box8v hb1
          have HB1 := Lib.hid (bt HBx.out hb1)
          clear hb1
          cases bK
          all_goals
            go_wp2
            all_goals
              go_ret
              exact ⟨ret_bool (by rw [HF.out]; simp_all <;> (intros; omega)), HB1.out⟩
    · rw [if_neg h2] at HF
      by_cases h3 : k = 3
      · subst h3
        simp only [if_true] at HF
        rcases (show bT = false ∨ (bT = true ∧ bC = false) ∨ (bT = true ∧ bC = true) by cases bT <;> cases bC <;> simp) with hx | ⟨hx, hy⟩ | ⟨hx, hy⟩
        all_goals
          subst hx
          try subst hy
          go_enter Tryz.func115, Tryz.ntmps115
          go_wp2_with fail
          go_upto_region 9 with fail
          obtain ⟨a, ha⟩ : ∃ a, arI n = a := ⟨_, rfl⟩
          have HAr := Lib.hid (fun w1 => arity_any n w1)
          rw [ha] at HF HAr
          clear ha
          by_cases hp : 0 < a
          · by_cases hla : (len : Int) = a
            · subst hla
              have hpn : 0 < len := by omega
              have hpd : decide (0 < len) = true := by simpa using hpn
              clear hp
              go_quiet ((go_at_call 111; exact Calls.quiet_of_same (HAr.out _)))
              go_wp2_with fail
              go_ret
              exact ⟨ret_bool (by rw [HF.out]; simp_all <;> (intros; omega)), bt HBx.out (drNE _ _)⟩
            · have hpb : decide (0 < a) = true := by simpa using hp
              have hlb : ((len : Int) == a) = false := by simpa using hla
              go_quiet ((go_at_call 111; exact Calls.quiet_of_same (HAr.out _)))
              go_wp2_with fail
              go_ret
              exact ⟨ret_bool (by rw [HF.out]; simp_all <;> (intros; omega)), bt HBx.out (drNE _ _)⟩
          · have hpb : decide (0 < a) = false := by simpa using hp
            go_quiet ((go_at_call 111; exact Calls.quiet_of_same (HAr.out _)))
            go_wp2_with fail
            go_ret
            exact ⟨ret_bool (by rw [HF.out]; simp_all <;> (intros; omega)), bt HBx.out (drNE _ _)⟩
      · rw [if_neg h3] at HF
        by_cases h4 : k = 4
        · subst h4
          simp only [if_true] at HF
          cases bT <;> cases bC <;> cases bV
          all_goals
            go_enter Tryz.func115, Tryz.ntmps115
            go_wp2_with fail
            refine (isAgg_any _ _ _).mono ?_
            rintro e w1 ⟨rfl, rfl⟩
            obtain ⟨bA, hbA⟩ : ∃ b, aggB n len = b := ⟨_, rfl⟩
            rw [hbA] at HF ⊢
            clear hbA
            cases bA
            all_goals
              go_wp2
              go_ret
              exact ⟨ret_bool (by rw [HF.out]; simp), HBx.out⟩
        · rw [if_neg h4] at HF
          cases bT <;> cases bC <;> cases bV
          all_goals
            go_enter Tryz.func115, Tryz.ntmps115
            go_wp2
            go_ret
            exact ⟨ret_bool HF.out.symm, HBx.out⟩
end Go.Proofs.YtfjimoccliejdaaGreatDoor
end
section
namespace Go.Proofs.YtfjimoccliejdaaGreatDoor
open Go.RowKit Go.Shelf
attribute [local go_sem] Oper.semAt_some

mutual
/-- All that stands in an expression, in the order of its text, with levels. -/
def preo : Ex → Nat → List (Ex × Nat)
  | .mk h l, d => (.mk h l, d) :: preoL l (d + 1)
def preoL : List Ex → Nat → List (Ex × Nat)
  | [], _ => []
  | x :: r, d => preo x d ++ preoL r d
end
theorem preo_mk (h : Hd) (l : List Ex) (d : Nat) : preo (.mk h l) d = (.mk h l, d) :: preoL l (d + 1) := by rw [preo]
theorem preoL_app : ∀ (l r : List Ex) (d : Nat), preoL (l ++ r) d = preoL l d ++ preoL r d
  | [], r, d => by rw [preoL]; rfl
  | x :: l, r, d => by rw [List.cons_append, preoL, preoL, preoL_app l r d, List.append_assoc]
theorem preoL_take {l : List Ex} {k : Nat} {x : Ex} (h : l[k]? = some x) (d : Nat) : preoL (l.take (k + 1)) d = preoL (l.take k) d ++ preo x d := by
  rw [List.take_add_one, h]
  simp only [Option.toList_some]
  rw [preoL_app, preoL, preoL, List.append_nil]
mutual
theorem preo_len : ∀ (x : Ex) (d : Nat), (preo x d).length = cnt x
  | .mk h l, d => by rw [preo, cnt, List.length_cons, preoL_len l (d + 1)]; omega
theorem preoL_len : ∀ (l : List Ex) (d : Nat), (preoL l d).length = cntL l
  | [], d => by rw [preoL, cntL]; rfl
  | x :: r, d => by rw [preoL, cntL, List.length_append, preo_len x d, preoL_len r d]
end
theorem preoL_split {l : List Ex} {k : Nat} {x : Ex} (h : l[k]? = some x) (d : Nat) : ∃ r, preoL l d = preoL (l.take k) d ++ (preo x d ++ r) := by
  have e : l = l.take k ++ (x :: l.drop (k + 1)) := by
    have := (List.take_append_drop k l).symm
    rwa [List.drop_eq_getElem_cons (List.getElem?_eq_some_iff.1 h).1, (List.getElem?_eq_some_iff.1 h).2] at this
  refine ⟨preoL (l.drop (k + 1)) d, ?_⟩
  conv => lhs; rw [e, preoL_app, preoL]
theorem cntL_split {l : List Ex} {k : Nat} {x : Ex} (h : l[k]? = some x) : cntL (l.take k) + cnt x ≤ cntL l := by
  obtain ⟨r, hr⟩ := preoL_split h 0
  have := congrArg List.length hr
  rw [preoL_len, List.length_append, preoL_len, List.length_append, preo_len] at this
  omega
mutual
/-- All texts in it are short. -/
def AllSm : Ex → Prop
  | .mk h l => Sm h ∧ AllSmL l
def AllSmL : List Ex → Prop
  | [] => True
  | x :: r => AllSm x ∧ AllSmL r
end
theorem AllSmL.at : ∀ {l : List Ex}, AllSmL l → ∀ {i : Nat} {x : Ex}, l[i]? = some x → AllSm x
  | [], _, i, x, h => by simp at h
  | y :: r, H, 0, x, h => by
    obtain rfl : y = x := by simpa using h
    rw [AllSmL] at H; exact H.1
  | y :: r, H, i + 1, x, h => by
    rw [AllSmL] at H; exact AllSmL.at H.2 (i := i) (by simpa using h)

/-- What is handed over, with what is known of it. -/
structure Nd where
  ex : Ex
  A : Option Addr
  cap : Nat
  lv : Nat
structure NdOk (n₀ : Nat) (w0 : World) (y : Nd) : Prop where
  at' : XsAt n₀ w0 y.ex.kids y.A
  cap : y.ex.kids.length ≤ y.cap
  sm : AllSm y.ex
  lv : y.lv + cnt y.ex ≤ 1000000
abbrev NdS (n₀ : Nat) (w0 : World) := { y : Nd // NdOk n₀ w0 y }
abbrev ncs {n₀ : Nat} {w0 : World} (x : NdS n₀ w0) : Array Value := #[XV x.1.ex.hd x.1.A x.1.ex.kids.length x.1.cap, .int .i64 x.1.lv]
abbrev ndp {n₀ : Nat} {w0 : World} (x : NdS n₀ w0) : Ex × Nat := (x.1.ex, x.1.lv)

/-- What a round may do: it turns boxes of S alone, and makes new blocks. -/
structure Rd (S : Nat → Prop) (W W' : World) : Prop where
  os : W'.os = W.os
  tape : W'.tape = W.tape
  output : W'.output = W.output
  size : W.heap.size ≤ W'.heap.size
  block : ∀ k, k < W.heap.size → ¬ S k → W'.heap[k]? = W.heap[k]?
theorem Rd.refl (S : Nat → Prop) (W : World) : Rd S W W := ⟨rfl, rfl, rfl, Nat.le_refl _, fun _ _ _ => rfl⟩
theorem Rd.trans {S : Nat → Prop} {A B C : World} (h : Rd S A B) (k : Rd S B C) : Rd S A C :=
  ⟨k.os.trans h.os, k.tape.trans h.tape, k.output.trans h.output, Nat.le_trans h.size k.size, fun i hi hs => (k.block i (Nat.lt_of_lt_of_le hi h.size) hs).trans (h.block i hi hs)⟩
theorem Rd.of {S : Nat → Prop} {W W' : World} (hb : Below W.heap.size W W') : Rd S W W' := ⟨hb.os, hb.tape, hb.output, hb.size, fun k hk _ => hb.block k hk⟩
theorem Rd.set {S : Nat → Prop} {W W' : World} (h : Rd S W W') {b j : Nat} (hs : S b) (v : Value) : Rd S W (W'.setCell ⟨b, j, none⟩ v) := by
  refine h.trans ⟨rfl, rfl, rfl, by rw [setc_size]; exact Nat.le_refl _, fun k _ hk => setc_other (fun e => hk (by rw [e]; exact hs)) v⟩
theorem Rd.alloc {S : Nat → Prop} {W W' : World} (h : Rd S W W') (o : Obj) : Rd S W (W'.alloc o) := h.trans (Rd.of (ba W' o))
theorem Rd.below {S : Nat → Prop} {n₀ : Nat} {W W' : World} (h : Rd S W W') (hs : ∀ k, S k → n₀ ≤ k) (hn : n₀ ≤ W.heap.size) : Below n₀ W W' :=
  ⟨h.os, h.tape, h.output, h.size, fun k hk => h.block k (Nat.lt_of_lt_of_le hk hn) (fun e => by have := hs k e; omega)⟩
theorem Rd.from {S : Nat → Prop} {B : Nat} {W W' : World} (h : Rd S W W') (hs : ∀ k, S k → k < B) : KeepsFrom B W W' :=
  ⟨h.size, fun k o hB hk _ => (h.block k (Array.getElem?_eq_some_iff.1 hk).1 (fun e => by have := hs k e; omega)).trans hk⟩
/-- What a round that goes on keeps. -/
structure KpS (n₀ : Nat) (S : Nat → Prop) (P : Obj → Prop) (W W' : World) : Prop where
  bel : Below n₀ W W'
  size : W.heap.size ≤ W'.heap.size
  same : ∀ k o, W.heap[k]? = some o → o.isCells = true → ¬ S k → ¬ P o → W'.heap[k]? = some o
theorem KpS.refl (n₀ : Nat) (S : Nat → Prop) (P : Obj → Prop) (W : World) : KpS n₀ S P W W := ⟨Below.refl _ _, Nat.le_refl _, fun _ _ h _ _ _ => h⟩
theorem KpS.trans {n₀ : Nat} {S : Nat → Prop} {P : Obj → Prop} {A B C : World} (h : KpS n₀ S P A B) (k : KpS n₀ S P B C) : KpS n₀ S P A C :=
  ⟨h.bel.trans k.bel, Nat.le_trans h.size k.size, fun i o hi ho hs hp => k.same i o (h.same i o hi ho hs hp) ho hs hp⟩
theorem Rd.kp {S : Nat → Prop} {P : Obj → Prop} {n₀ : Nat} {W W' : World} (h : Rd S W W') (hs : ∀ k, S k → n₀ ≤ k) (hn : n₀ ≤ W.heap.size) : KpS n₀ S P W W' :=
  ⟨h.below hs hn, h.size, fun k _ hk _ he _ => (h.block k (Array.getElem?_eq_some_iff.1 hk).1 he).trans hk⟩
theorem Rd.kp' {S : Nat → Prop} {P : Obj → Prop} {n₀ : Nat} {w0 W W' : World} (h : Rd (fun _ => False) W W') (_ : ∀ k, S k → k < w0.heap.size) (hn : n₀ ≤ w0.heap.size) (hW : w0.heap.size ≤ W.heap.size) : KpS n₀ S P W W' :=
  ⟨h.below (fun _ h => h.elim) (by omega), h.size, fun k _ hk _ _ _ => (h.block k (Array.getElem?_eq_some_iff.1 hk).1 id).trans hk⟩
theorem kpS_put {S : Nat → Prop} {P : Obj → Prop} {n₀ : Nat} {w : World} (hn : n₀ ≤ w.heap.size) (W : World) (l : Nat) (o o' : Obj) (hl : w.heap.size ≤ l) (h : W.heap[l]? = some o) (hc : o.isCells = false) (hw : o.isWalk = false) : KpS n₀ S P W (W.putObj l o') :=
  ⟨belowK_b hn W l o o' hl h hc hw, (grownBy_putObj' W l o').size, fun k o2 hk h2 _ _ => by
    refine ((grownBy_putObj' W l o').block k (Array.getElem?_eq_some_iff.1 hk).1 (fun e => ?_)).trans hk
    cases e
    rw [h] at hk; cases hk; rw [h2] at hc; cases hc⟩

theorem room_of_noneE {F : Fence} (hd : F.depth = none) (k : Nat) : F.room k := fun d h => by rw [hd] at h; cases h
theorem roundAnyE {F : Fence} (hd : F.depth = none) {m m' : Nat} {P : Program} {l : Nat} {f : FuncId} {tmps : Array Value} {assign body : Code} {w : World} {R : Ending → World → Prop}
    (h : RoundIn F m P l f tmps assign body w R) : RoundIn F m' P l f tmps assign body w R := ⟨h.1, fun c cs _ => h.2 c cs (room_of_noneE hd _)⟩
theorem yieldAnyE {F : Fence} (hd : F.depth = none) {m : Nat} (m' : Nat) {P : Program} {l : Nat} {args : Array Value} {W : World} {R : Ending → World → Prop} (h : YieldAt F m P l args W R) : YieldAt F m' P l args W R := by
  obtain ⟨fn, tmps, assign, body, hy, hR⟩ := h
  exact ⟨fn, tmps, assign, body, hy, roundAnyE hd hR⟩

set_option maxRecDepth 100000 in
set_option maxHeartbeats 4000000 in
theorem visit_in (F : Fence) (hd : F.depth = none) (h65 : F.fn 141) (hro : F.round = none) (l n₀ N : Nat) (S : Nat → Prop) (P : Obj → Prop) (hP : ∀ h A len cap, ¬ P (xbox h A len cap)) (w0 : World) (hS : ∀ k, S k → k < w0.heap.size) (J Jx : List (NdS n₀ w0) → World → Prop) (hJa : ∀ pre W o, J pre W → J pre (W.alloc o))
    (hY : ∀ m pre x W, J pre W → pre.length < N → YieldAt F m Tryz.prog l (ncs x) W fun e W' => (e = .returned (.bool true) ∧ J (pre ++ [x]) W' ∧ KpS n₀ S P W W') ∨ (e = .returned (.bool false) ∧ Jx (pre ++ [x]) W')) :
    ∀ (c : Nat) (x : NdS n₀ w0), cnt x.1.ex ≤ c → ∀ (n : Nat) (pre : List (NdS n₀ w0)) (W : World), w0.heap.size ≤ W.heap.size → Below n₀ w0 W → n₀ ≤ w0.heap.size → J pre W → pre.length + cnt x.1.ex ≤ N →
      CallsIn F n Tryz.prog 141 #[XV x.1.ex.hd x.1.A x.1.ex.kids.length x.1.cap, .int .i64 x.1.lv, .func (.yield l) #[] #[]] W fun e W' =>
        (e = .returned (.bool true) ∧ ∃ qs, qs.map ndp = preo x.1.ex x.1.lv ∧ J (pre ++ qs) W' ∧ KpS n₀ S P W W') ∨ (e = .returned (.bool false) ∧ ∃ qs, qs.map ndp <+: preo x.1.ex x.1.lv ∧ Jx (pre ++ qs) W') := by
  intro c
  induction c with
  | zero => intro x hx; have := cnt_pos x.1.ex; omega
  | succ c ih =>
    intro x hx n pre W hW hb hn hJ hN
    have hdd : ∀ k : Nat, (F.depth.isSome = true → 1 ≤ k) := fun k h => by rw [hd] at h; cases h
    obtain ⟨⟨⟨h, lk⟩, A, cap, lv⟩, ok⟩ := x
    have hok1 := ok.at'
    have hok2 := ok.cap
    have hok3 := ok.sm
    have hok4 := ok.lv
    simp only [Ex.hd, Ex.kids, cnt_mk, preo_mk] at hx hN hok1 hok2 hok4 ⊢
    rw [AllSm] at hok3
    have HB1 := Lib.hid (hJa pre W (xbox h A lk.length cap) hJ)
    have HX := Lib.hid ((MapKept.heap_alloc W (xbox h A lk.length cap)).1)
    obtain ⟨x0', hx0⟩ : ∃ y : NdS n₀ w0, (⟨⟨.mk h lk, A, cap, lv⟩, ok⟩ : NdS n₀ w0) = y := ⟨_, rfl⟩
    have hYm := YieldAt.mono (hY (n - 1) pre ⟨⟨.mk h lk, A, cap, lv⟩, ok⟩ _ HB1.out (by omega)) (R' := fun e W' =>
      (e = .returned (.bool true) ∧ W'.cell? ⟨W.heap.size, 7, none⟩ = some (.slice A lk.length cap) ∧ J (pre ++ [x0']) W' ∧ KpS n₀ S P W W') ∨ (e = .returned (.bool false) ∧ Jx (pre ++ [x0']) W')) (fun e W' hh => by
        rw [← hx0]
        rcases hh with ⟨he, h1, h2⟩ | hh
        · have h3 := h2.same _ _ HX.out rfl (fun e => by have := hS _ e; omega) (hP _ _ _ _)
          exact .inl ⟨he, (cell8 h3).1.2.2.2.2.2.2.2, h1, ((Rd.of (ba W _)).kp' hS hn hW).trans h2⟩
        · exact .inr hh)
    have HP0 := Lib.hid (show ndp x0' = (.mk h lk, lv) by rw [← hx0])
    obtain ⟨fn, tmps, assign, body, hy, hR⟩ := hYm
    have hy' : (Instr.yield l #[.agg #[.int .i64 h.k, .int .i64 h.n, .int .i64 h.vk, .int .i64 h.vn, .string h.vs, .string h.tab, .string h.col, .slice A lk.length cap], .int .i64 lv]).run Tryz.prog (W.alloc (.cells #[.int .i64 h.k, .int .i64 h.n, .int .i64 h.vk, .int .i64 h.vn, .string h.vs, .string h.tab, .string h.col, .slice A lk.length cap] 37)) =
        .ok (.round l fn tmps assign body) (W.alloc (.cells #[.int .i64 h.k, .int .i64 h.n, .int .i64 h.vk, .int .i64 h.vn, .string h.vs, .string h.tab, .string h.col, .slice A lk.length cap] 37)) := hy
    have hll := cntL_len lk
    have HI := Lib.hid ih
    have HAt := Lib.hid hok1
    have HSm := Lib.hid hok3.2
    have HBw := Lib.hid hb
    clear hy ih hY hok1 hok3 hJ hx0 hb
    refine callsIn_of_wp Tryz.func141 rfl h65 ?_ hro
    simp only [Tryz.ntmps141, List.size_toArray, List.length_cons, List.length_nil, Nat.reduceAdd, Nat.reduceSub, Array.replicate_succ, Array.replicate_zero, List.push_toArray, List.append_toArray, List.nil_append, List.cons_append]
    gi_wp2_with ((try refine ⟨hdd _, ?_⟩); refine hR.mono ?_; clear hR; rintro e W2 (⟨rfl, c7, hJ2, hK2⟩ | ⟨rfl, hx2⟩))
    · have HJ2 := Lib.hid hJ2
      have HK2 := Lib.hid hK2
      clear hJ2 hK2 c7 hy'
      gi_loopw [17] (fun i Wr => ∃ (k : Nat) (qs : List (NdS n₀ w0)), k ≤ lk.length ∧ i = .int .i64 k ∧ Hid (qs.map ndp = preoL (lk.take k) (lv + 1)) ∧ Hid (J (pre ++ x0' :: qs) Wr) ∧ Hid (KpS n₀ S P W Wr)) (fun i _ => lk.length - (intOf i).toNat)
      case atStart => exact ⟨0, [], Nat.zero_le _, rfl, Lib.hid (by rw [List.take_zero, preoL]; rfl), HJ2, HK2⟩
      case round =>
        obtain ⟨k, qs, hk, rfl, HQ, HJ, HK⟩ := hrel
        by_cases hkl : k < lk.length
        · obtain ⟨y, hy⟩ : ∃ y, lk[k]? = some y := ⟨_, List.getElem?_eq_getElem hkl⟩
          obtain ⟨h', l'⟩ := y
          obtain ⟨g, off, A', cap', rfl, hg, hX, hle', hl'⟩ := HAt.out.at hy
          have hbr := HBw.out.trans HK.out.bel
          have hXr := hX.of (hbr.block g hg)
          have hgr : g < wr.heap.size := by have := HK.out.size; omega
          obtain ⟨c0, c1, c2, c3, c4, c5, c6, c7⟩ := hXr
          have hcs := cntL_split hy
          have hql : qs.length = cntL (lk.take k) := by
            have := congrArg List.length HQ.out
            rwa [List.length_map, preoL_len] at this
          have hok' : NdOk n₀ w0 ⟨.mk h' l', A', cap', lv + 1⟩ := ⟨hl', hle', HSm.out.at hy, by simp only; omega⟩
          have hKa : KpS n₀ S P W (wr.alloc (xbox h' A' l'.length cap')) := HK.out.trans ((Rd.of (ba wr _)).kp' hS hn (by have := HK.out.size; omega))
          have hCI := HI.out ⟨⟨.mk h' l', A', cap', lv + 1⟩, hok'⟩ (by simp only; omega) (n - 1) (pre ++ x0' :: qs) (wr.alloc (xbox h' A' l'.length cap')) (by have := hKa.size; omega) (HBw.out.trans hKa.bel) hn (hJa _ _ _ HJ.out) (by simp only [List.length_append, List.length_cons]; omega)
          have hC : CallsIn F (n - 1) Tryz.prog 141 #[XV h' A' l'.length cap', .int .i64 ((lv : Int) + 1), .func (.yield l) #[] #[]] (wr.alloc (xbox h' A' l'.length cap')) fun e W' =>
              (e = .returned (.bool true) ∧ ∃ qs', qs'.map ndp = preo (.mk h' l') (lv + 1) ∧ J ((pre ++ x0' :: qs) ++ qs') W' ∧ KpS n₀ S P (wr.alloc (xbox h' A' l'.length cap')) W') ∨ (e = .returned (.bool false) ∧ ∃ qs', qs'.map ndp <+: preo (.mk h' l') (lv + 1) ∧ Jx ((pre ++ x0' :: qs) ++ qs') W') := hCI
          have HC := Lib.hid hC
          have HKa := Lib.hid hKa
          have HT := Lib.hid (preoL_take hy (lv + 1))
          have HSp := Lib.hid (preoL_split hy (lv + 1))
          clear hC hCI hKa hok' hX hl' hy hbr hg
          gi_wp2_with ((try refine ⟨hdd _, ?_⟩); gi_at_call 141; refine HC.out.mono ?_; rintro e W3 (⟨rfl, qs', h1, h2, h3⟩ | ⟨rfl, qs', h1, h2⟩))
          · go_roundw
            case rel => exact ⟨k + 1, qs ++ qs', by omega, by go_num, Lib.hid (by rw [List.map_append, HQ.out, h1, HT.out]), Lib.hid (by simpa using h2), Lib.hid (HKa.out.trans h3)⟩
            case measure => simp [intOf]; omega
          · go_ret
            obtain ⟨r, hr⟩ := HSp.out
            obtain ⟨r', hr'⟩ := h1
            refine .inr ⟨rfl, x0' :: (qs ++ qs'), ⟨r' ++ r, ?_⟩, by simpa using h2⟩
            rw [List.map_cons, List.map_append, HP0.out, HQ.out, hr, ← hr']
            simp
        · have hkk : k = lk.length := by omega
          have HQ2 := Lib.hid (show qs.map ndp = preoL lk (lv + 1) by rw [HQ.out, hkk, List.take_length])
          clear HQ
          gi_wp2
          go_ret
          exact .inl ⟨rfl, x0' :: qs, by rw [List.map_cons, HP0.out, HQ2.out], HJ.out, HK.out⟩
    · go_ret
      exact .inr ⟨rfl, [x0'], ⟨preoL lk (lv + 1), by rw [List.map_cons, HP0.out]; rfl⟩, hx2⟩

set_option maxHeartbeats 1000000 in
theorem through_in (F : Fence) (n : Nat) (h51 : F.fn 114) (hro : F.round = none) (h : Hd) (A : Option Addr) (len cap : Nat) (w : World) :
    CallsIn F n Tryz.prog 114 #[XV h A len cap] w fun e w' => e = .returned (.func (.func 140) #[] #[.pointer (some ⟨w.heap.size, 0, none⟩)]) ∧ w' = w.alloc (xbox h A len cap) := by
  refine callsIn_of_wp Tryz.func114 rfl h51 ?_ hro
  simp only [Tryz.ntmps114, List.size_toArray, List.length_cons, List.length_nil, Nat.reduceAdd, Nat.reduceSub, Array.replicate_succ, Array.replicate_zero, List.push_toArray, List.append_toArray, List.nil_append, List.cons_append]
  gi_wp2
  go_ret
  exact ⟨rfl, rfl⟩

set_option maxHeartbeats 1000000 in
/-- What through hands back goes through all, in order. -/
theorem through_stops (F : Fence) (hd : F.depth = none) (n : Nat) (h64 : F.fn 140) (h65 : F.fn 141) (hro : F.round = none) (Bt n₀ : Nat) (S : Nat → Prop) (P : Obj → Prop) (hP : ∀ h A len cap, ¬ P (xbox h A len cap)) (w : World) (x : NdS n₀ w) (hlv : x.1.lv = 1) (hBt : Bt < w.heap.size) (hn : n₀ ≤ w.heap.size) (hS : ∀ k, S k → k < w.heap.size)
    (hc : w.heap[Bt]? = some (xbox x.1.ex.hd x.1.A x.1.ex.kids.length x.1.cap)) :
    SeqStopsK F n Tryz.prog 140 #[.pointer (some ⟨Bt, 0, none⟩)] (ncs (n₀ := n₀) (w0 := w)) (KpS n₀ S P) (fun ys => ys.map ndp = preo x.1.ex 1) (fun pre => pre.map ndp <+: preo x.1.ex 1) (cnt x.1.ex) w := by
  intro l J Jx W hW hJ _ hY h0
  have hdd : ∀ k : Nat, (F.depth.isSome = true → 1 ≤ k) := fun k h => by rw [hd] at h; cases h
  have hV := visit_in F hd h65 hro l n₀ (cnt x.1.ex) S P hP w hS J Jx (fun pre W o hj => hJ pre W _ none hj (World.grownBy_alloc W o none) (fun r e => by cases e)) (fun m pre y W1 hj hl => yieldAnyE hd m (hY pre y W1 hj hl)) _ x (Nat.le_refl _) (n - 1) [] W hW.size (hW.mono hn) hn h0 (by simp)
  have hx := (hW.block Bt hBt).trans hc
  have hBl : Bt < W.heap.size := Nat.lt_of_lt_of_le hBt hW.size
  obtain ⟨⟨⟨h, lk⟩, A, cap, lv⟩, ok⟩ := x
  obtain rfl : lv = 1 := hlv
  have HV := Lib.hid (show CallsIn F (n - 1) Tryz.prog 141 #[XV h A lk.length cap, .int .i64 1, .func (.yield l) #[] #[]] W fun e W' =>
        (e = .returned (.bool true) ∧ ∃ qs, qs.map ndp = preo (.mk h lk) 1 ∧ J ([] ++ qs) W' ∧ KpS n₀ S P W W') ∨ (e = .returned (.bool false) ∧ ∃ qs, qs.map ndp <+: preo (.mk h lk) 1 ∧ Jx ([] ++ qs) W') from hV)
  obtain ⟨⟨c0, c1, c2, c3, c4, c5, c6, c7⟩, _⟩ := cell8 hx
  clear hV hx hY hJ h0
  simp only [Ex.hd, Ex.kids] at c0 c1 c2 c3 c4 c5 c6 c7
  refine callsIn_of_wp Tryz.func140 rfl h64 ?_ hro
  simp only [Tryz.ntmps140, List.size_toArray, List.length_cons, List.length_nil, Nat.reduceAdd, Nat.reduceSub, Array.replicate_succ, Array.replicate_zero, List.push_toArray, List.append_toArray, List.nil_append, List.cons_append]
  gi_wp2_with ((try refine ⟨hdd _, ?_⟩); gi_at_call 141; refine HV.out.mono ?_; clear HV; rintro e W1 (⟨rfl, qs, h1, h2, _⟩ | ⟨rfl, qs, h1, h2⟩))
  · go_end0
    exact ⟨⟨_, rfl⟩, .inl ⟨qs, h1, h2⟩⟩
  · go_end0
    exact ⟨⟨_, rfl⟩, .inr ⟨qs, h1, h2⟩⟩
end Go.Proofs.YtfjimoccliejdaaGreatDoor
end
section
namespace Go.Proofs.YtfjimoccliejdaaGreatDoor.Pa
open Lx (B Tok)

/-- Words and texts are short. -/
def TkSm (x : TkA) : Prop := (x.1.k = 1 → x.1.s.length ≤ 24) ∧ (x.1.k = 4 → x.1.s.length ≤ 64)
def SmT (s : Ps) : Prop := ∀ x ∈ s.ts, TkSm x
theorem SmT.le {s s' : Ps} (h : SmT s) (l : Le s s') : SmT s' := fun x hx => h x (l.sfx.mem hx)
theorem SmT.tk {s : Ps} (h : SmT s) : (s.tk.k = 1 → s.tk.s.length ≤ 24) ∧ (s.tk.k = 4 → s.tk.s.length ≤ 64) := by
  obtain ⟨ts, b⟩ := s
  cases ts with
  | nil => exact ⟨(fun e => by cases e), (fun e => by cases e)⟩
  | cons x l => exact h x (List.mem_cons_self ..)
abbrev bN (b : Bool) : Nat := if b then 1 else 0
/-- An expression that was read between two states. -/
structure Sz (e : Ex) (s s' : Ps) : Prop where
  sm : AllSm e
  n : cnt e + s'.ts.length ≤ s.ts.length + bN s'.bad
theorem Sz.then {e : Ex} {s s1 s2 : Ps} (h : Sz e s s1) (l : Le s1 s2) : Sz e s s2 := by
  refine ⟨h.sm, ?_⟩
  have h1 := h.n
  have h2 := l.len
  cases hb : s1.bad with
  | true => rw [l.stay hb]; exact h1
  | false => rw [hb] at h1; simp only [bN, Bool.false_eq_true, if_false] at h1; omega
theorem Sz.ahead {e : Ex} {s0 s s1 : Ps} (h : Sz e s s1) (l : s.ts.length ≤ s0.ts.length) : Sz e s0 s1 := ⟨h.sm, by have := h.n; omega⟩
theorem sm_mk {h : Hd} {l : List Ex} (h1 : Sm h) (h2 : AllSmL l) : AllSm (.mk h l) := by rw [AllSm]; exact ⟨h1, h2⟩
theorem smL1 {x : Ex} (h : AllSm x) : AllSmL [x] := by rw [AllSmL, AllSmL]; exact ⟨h, trivial⟩
theorem smL2 {x y : Ex} (h : AllSm x) (h' : AllSm y) : AllSmL [x, y] := by rw [AllSmL, AllSmL, AllSmL]; exact ⟨h, h', trivial⟩
theorem smL0 : AllSmL [] := by rw [AllSmL]; trivial
theorem sm0 (k n : Int) : Sm ⟨k, n, 0, 0, ⟨#[]⟩, ⟨#[]⟩, ⟨#[]⟩⟩ := ⟨Nat.zero_le _, Nat.zero_le _, Nat.zero_le _⟩
theorem cnt1 (h : Hd) : cnt (.mk h []) = 1 := by rw [cnt, cntL]
theorem cnt2 (h : Hd) (x : Ex) : cnt (.mk h [x]) = 1 + cnt x := by rw [cnt, cntL, cntL, Nat.add_zero]
theorem cnt3 (h : Hd) (x y : Ex) : cnt (.mk h [x, y]) = 1 + (cnt x + cnt y) := by rw [cnt, cntL, cntL, cntL, Nat.add_zero]
theorem bst_size (l : B) : (bst l).size = l.length := by simp [bst, ByteArray.size]
/-- One token, one node. -/
theorem sz_leaf {h : Hd} {s s1 : Ps} (hs : Sm h) (l : s1.ts.length + 1 ≤ s.ts.length + bN s1.bad) : Sz (.mk h []) s s1 := ⟨sm_mk hs smL0, by rw [cnt1]; omega⟩
theorem sz_one {h : Hd} {x : Ex} {s0 s s1 : Ps} (hs : Sm h) (hx : Sz x s s1) (l : s.ts.length + 1 ≤ s0.ts.length) : Sz (.mk h [x]) s0 s1 := ⟨sm_mk hs (smL1 hx.sm), by have := hx.n; rw [cnt2]; omega⟩
theorem row_sz {part : Ps → Ex × Ps} {ops : List Nat} (hl : ∀ s, Fin s.ts → Le s (part s).2) (hp : ∀ s, Fin s.ts → SmT s → Sz (part s).1 s (part s).2) (hn : ∀ op ∈ ops, op ≠ 0) : ∀ (n : Nat) (e : Ex) (s0 s : Ps), Fin s.ts → SmT s → Sz e s0 s → Sz (rowP part ops n e s).1 s0 (rowP part ops n e s).2
  | 0, e, s0, s, _, _, h => h
  | n + 1, e, s0, s, hf, hm, h => by
    rw [rowP]
    obtain ⟨h1, h2, h3⟩ := operP_le ops hf hn
    split
    · exact h
    · rename_i hz
      obtain ⟨hb, hlen⟩ := h2 hz
      have hN := h.n
      rw [hb] at hN
      simp only [bN, Bool.false_eq_true, if_false] at hN
      split
      · refine row_sz hl hp hn n _ s0 _ h1.fin (hm.le h1) ⟨sm_mk (sm0 _ _) (smL1 h.sm), ?_⟩
        rw [mkOp, cnt2]; omega
      · have h4 := hl _ h1.fin
        have h5 := hp _ h1.fin (hm.le h1)
        refine row_sz hl hp hn n _ s0 _ h4.fin ((hm.le h1).le h4) ⟨sm_mk (sm0 _ _) (smL2 h.sm h5.sm), ?_⟩
        have := h5.n
        rw [mkOp, cnt3]; omega
theorem mustK_sz {s : Ps} (hf : Fin s.ts) (hm : SmT s) : (mustK 1 s).1.s.length ≤ 24 ∧ (mustK 1 s).2.ts.length + 1 ≤ s.ts.length + bN (mustK 1 s).2.bad := by
  obtain ⟨h1, h2, h3⟩ := takeK_le (k := 1) (by decide) hf
  unfold mustK
  split
  · rename_i t s1 e
    rw [e] at h2
    obtain ⟨_, ht, hk, _, hlen⟩ := h2 t rfl
    simp only at hlen
    refine ⟨?_, by simp only; omega⟩
    rw [ht] at hk ⊢
    exact hm.tk.1 hk
  · rename_i s1 e
    rw [e] at h3
    have := h3 rfl
    subst this
    exact ⟨Nat.zero_le _, by simp [bN]⟩
theorem col_sz {s : Ps} (hf : Fin s.ts) (hm : SmT s) : Sz (colP s).1 s (colP s).2 := by
  have h1 := mustK_le (k := 1) (by decide) hf
  have h2 := (takeW_le [46] h1.fin).1
  obtain ⟨n1, n2⟩ := mustK_sz hf hm
  unfold colP
  split
  · rename_i hw
    obtain ⟨m1, m2⟩ := mustK_sz h2.fin ((hm.le h1).le h2)
    have h3 := mustK_le (k := 1) (by decide) h2.fin
    have h4 := ((takeW_le [46] h1.fin).2.1 hw)
    refine sz_leaf ⟨?_, ?_, Nat.zero_le _⟩ ?_
    · simp only [bst_size]; omega
    · simp only [bst_size]; omega
    · rw [h4.1] at n2
      simp only [bN, Bool.false_eq_true, if_false] at n2
      have := h3.len
      have := h4.2.2
      simp only [bN] at m2 ⊢
      omega
  · refine sz_leaf ⟨Nat.zero_le _, ?_, Nat.zero_le _⟩ n2
    simp only [bst_size]; omega
section
variable {or : Ps → Ex × Ps} (hl : ∀ s, Fin s.ts → Le s (or s).2) (hp : ∀ s, Fin s.ts → SmT s → Sz (or s).1 s (or s).2)
include hl hp
theorem encl_sz {s : Ps} (hf : Fin s.ts) (hm : SmT s) : Sz (enclP or s).1 s (enclP or s).2 := (hp s hf hm).then (mustW_le _ (hl s hf).fin)
theorem agg_sz {n : Nat} {s0 s : Ps} (hf : Fin s.ts) (hm : SmT s) (h0 : s.ts.length + 1 ≤ s0.ts.length) : Sz (aggP or n s).1 s0 (aggP or n s).2 := by
  have h1 := mustW_le [40] hf
  exact sz_one (sm0 _ _) (encl_sz hl hp h1.fin (hm.le h1)) (by have := h1.len; omega)
theorem count_sz {s0 s : Ps} (hf : Fin s.ts) (hm : SmT s) (h0 : s.ts.length + 1 ≤ s0.ts.length) : Sz (countP or s).1 s0 (countP or s).2 := by
  have h1 := mustW_le [40] hf
  have h2 := (takeW_le [42] h1.fin).1
  unfold countP
  split
  · have h3 := mustW_le [41] h2.fin
    refine sz_leaf (sm0 _ _) ?_
    have := h1.len
    have := h2.len
    have := h3.len
    simp only
    omega
  · exact agg_sz hl hp hf hm h0
theorem first_sz {s : Ps} (hf : Fin s.ts) (hm : SmT s) : Sz (firstP or s).1 s (firstP or s).2 := by
  have tk : ∀ w, (takeW w s).1 = true → Le s (takeW w s).2 ∧ (takeW w s).2.ts.length + 1 = s.ts.length := fun w hw => ⟨(takeW_le w hf).1, ((takeW_le w hf).2.1 hw).2.2⟩
  have leaf : ∀ (w : B) (h : Hd), Sm h → (takeW w s).1 = true → Sz (.mk h []) s (takeW w s).2 := fun w h hs hw => sz_leaf hs (by have := (tk w hw).2; omega)
  unfold firstP
  split
  · rename_i t e
    obtain ⟨_, _, _, _, hlen⟩ := (takeK_le (k := 3) (by decide) hf).2.1 t e
    exact sz_leaf ⟨Nat.zero_le _, Nat.zero_le _, Nat.zero_le _⟩ (by simp only; omega)
  · split
    · rename_i t e
      obtain ⟨_, ht, hk, _, hlen⟩ := (takeK_le (k := 4) (by decide) hf).2.1 t e
      refine sz_leaf ⟨Nat.zero_le _, Nat.zero_le _, ?_⟩ (by simp only; omega)
      rw [ht] at hk
      have := hm.tk.2 hk
      simp only [bst_size, ht]; omega
    · split
      · rename_i hw; exact leaf _ _ ⟨Nat.zero_le _, Nat.zero_le _, Nat.zero_le _⟩ hw
      split
      · rename_i hw; exact leaf _ _ ⟨Nat.zero_le _, Nat.zero_le _, Nat.zero_le _⟩ hw
      split
      · rename_i hw; exact leaf _ _ ⟨Nat.zero_le _, Nat.zero_le _, Nat.zero_le _⟩ hw
      split
      · rename_i hw
        obtain ⟨h1, h2⟩ := tk _ hw
        exact (encl_sz hl hp h1.fin (hm.le h1)).ahead (by omega)
      split
      · rename_i hw
        obtain ⟨h1, h2⟩ := tk _ hw
        exact count_sz hl hp h1.fin (hm.le h1) (by omega)
      split
      · rename_i hw
        obtain ⟨h1, h2⟩ := tk _ hw
        exact agg_sz hl hp h1.fin (hm.le h1) (by omega)
      split
      · rename_i hw
        obtain ⟨h1, h2⟩ := tk _ hw
        exact agg_sz hl hp h1.fin (hm.le h1) (by omega)
      split
      · rename_i hw
        obtain ⟨h1, h2⟩ := tk _ hw
        exact agg_sz hl hp h1.fin (hm.le h1) (by omega)
      · exact col_sz hf hm
end
theorem lev_sz : ∀ (f k : Nat) (s : Ps), Fin s.ts → SmT s → Sz (lev f k s).1 s (lev f k s).2
  | 0, k, s, _, _ => by rw [lev]; exact sz_leaf ⟨Nat.zero_le _, Nat.zero_le _, Nat.zero_le _⟩ (by simp [bN])
  | f + 1, k, s, h, hm => by
    rw [lev]
    split
    · obtain ⟨h1, h2, _⟩ := takeW_le wNOT h
      split
      · rename_i hw
        exact sz_one (sm0 _ _) (lev_sz f 2 _ h1.fin (hm.le h1)) (by have := (h2 hw).2.2; omega)
      · exact lev_sz f 3 s h hm
    split
    · obtain ⟨h1, h2, _⟩ := takeW_le [45] h
      split
      · rename_i hw
        exact sz_one (sm0 _ _) (lev_sz f 6 _ h1.fin (hm.le h1)) (by have := (h2 hw).2.2; omega)
      · exact lev_sz f 7 s h hm
    split
    · exact first_sz (fun s hs => lev_le f 0 s hs) (fun s hs ht => lev_sz f 0 s hs ht) h hm
    · have h1 := lev_le f (k + 1) s h
      exact row_sz (fun s hs => lev_le f (k + 1) s hs) (fun s hs ht => lev_sz f (k + 1) s hs ht) (ops_pos k) _ _ s _ h1.fin (hm.le h1) (lev_sz f (k + 1) s h hm)
/-- The tokens of a text are short where they must be. -/
theorem toks_sm {l : B} {a : Nat} {ts : List TkA} {n : Nat} (h : Lx.Toks l a ts n) : ∀ x ∈ ts, TkSm x := by
  induction h with
  | fin _ => intro x hx; obtain rfl := List.mem_singleton.1 hx; exact ⟨(fun e => by cases e), (fun e => by cases e)⟩
  | @tok l w r a t ts n hd ht hf hr ih =>
    intro x hx
    rcases List.mem_cons.1 hx with rfl | hx
    · cases ht with
      | word hw hl ha hn => exact ⟨(fun _ => hn), (fun e => by simp only at e; split at e <;> cases e)⟩
      | num hw ha hn => exact ⟨(fun e => by cases e), (fun e => by cases e)⟩
      | text hs => exact ⟨(fun e => by cases e), (fun _ => hs)⟩
      | sign hs => exact ⟨(fun e => by cases e), (fun e => by cases e)⟩
    · exact ih x hx
end Go.Proofs.YtfjimoccliejdaaGreatDoor.Pa
end
