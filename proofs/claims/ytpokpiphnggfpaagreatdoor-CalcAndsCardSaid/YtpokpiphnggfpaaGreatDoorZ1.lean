/-
  Plain words about values: which may be, their order, truths. Nothing of the program stands here.
Contracts of package value's small functions: which values may be, and how values are made.
Contracts of value.Compare, of the document's own Compare, and of '==' between two values.
Contracts of package value's makers of bools, and of the document's own.
Contracts of what package value asks of values: what is known, truths, how two stand.
Plain: the order of values is one. Nothing of the program stands here.
Contracts of value.Equal, value.Less, and of the document's own.
DERIVED: THE SHELF's CONTRACTS AT THIS DUMP, IN PLAIN WORDS (tools/lay-plain.mjs out of 'TryzShelf.lean', which tools/lay-shelf.mjs wrote): THE SAME DECLARATIONS UNDER THE SAME NAMES: 'import', 'namespace', 'open', 'def', 'theorem' AND NOTHING ELSE: no command of the shelf's: FOR A HAND-IN. Each laying: the table of numbers ('.._ren') and one theorem, a field a fact of the dump's own or the kernel's comparison; each contract: ONE APPLICATION.
Expressions: plainly, and how they lie in memory.
Expressions copied; made.
copyAll, copyOf; Lit, Column, Op, Agg.
-/
import Derived.WalkKit
import Derived.WalkSpells
import Derived.WalkLawsBesides
import Derived.Test.YtpokpiphnggfpaaGreatDoorProg
import Derived.Laws.StructEq
import Derived.Lib.Hide
import Derived.Sort.Walk0
import Derived.Shelf.Abstract
import Derived.Shelf.Strings.Prefix
import Derived.Ground.Names2Prog
import Derived.Shelf.Slices.SearchI
import Derived.OwnWalk
import Derived.Laws.AppendOwn
import Derived.Maps.AppendAt
section
namespace Go.Proofs.YtpokpiphnggfpaaGreatDoor
open Go.RowKit

/-- A value as the program hands it about: its kind, its number, its text. -/
abbrev VV (k n : Int) (s : ByteArray) : Value := .agg #[.int .i64 k, .int .i64 n, .string s]

/-- May a value be? -/
def okV (k n : Int) (s : ByteArray) : Bool :=
  if k = 0 then n == 0 && s.toList.isEmpty
  else if k = 1 then (n == 0 || n == 1) && s.toList.isEmpty
  else if k = 2 then decide (-9007199254740991 ≤ n) && decide (n ≤ 9007199254740991) && s.toList.isEmpty
  else if k = 3 then n == 0 && decide (s.size ≤ 64)
  else false

/-- The order of ints, of texts, of values. -/
def cmpI (a b : Int) : Int := if a < b then -1 else if b < a then 1 else 0
def cmpS (a b : ByteArray) : Int := if Op.bytesLess a.toList b.toList then -1 else if a.toList == b.toList then 0 else 1
def cmpV (k n : Int) (s : ByteArray) (k' n' : Int) (s' : ByteArray) : Int :=
  if k = k' then (if n = n' then cmpS s s' else cmpI n n') else cmpI k k'

/-- Two values, held against each other; what is known of one; truths. -/
def eqV (k n : Int) (s : ByteArray) (k' n' : Int) (s' : ByteArray) : Bool := k == k' && n == n' && s.toList == s'.toList
def knownV (k n : Int) (s : ByteArray) : Bool := k != 0 && okV k n s
def equalV (k n : Int) (s : ByteArray) (k' n' : Int) (s' : ByteArray) : Int :=
  if knownV k n s && knownV k' n' s' then (if eqV k n s k' n' s' then 1 else 0) else 2
def lessV (k n : Int) (s : ByteArray) (k' n' : Int) (s' : ByteArray) : Int :=
  if knownV k n s && knownV k' n' s' then (if k = k' ∧ cmpV k n s k' n' s' < 0 then 1 else 0) else 2
def truthV (k n : Int) (s : ByteArray) : Int := if k = 1 ∧ okV k n s = true then n else 2

theorem bcell {W w1 : World} (hb : Below W.heap.size W w1) : (∀ b o, b < W.heap.size → w1.cell? ⟨b, o, none⟩ = W.cell? ⟨b, o, none⟩) ∧ (∀ b o, b < W.heap.size → w1.frozen? ⟨b, o, none⟩ = W.frozen? ⟨b, o, none⟩) :=
  ⟨fun b o h => hb.cell (p := ⟨b, o, none⟩) h, fun b o h => hb.frozen (p := ⟨b, o, none⟩) h⟩
theorem bt {w w1 w2 : World} (h1 : Below w.heap.size w w1) (h2 : Below w1.heap.size w1 w2) : Below w.heap.size w w2 := h1.trans (h2.mono h1.size)
theorem ba (w : World) (o : Obj) : Below w.heap.size w (w.alloc o) := (Below.refl _ _).alloc (Nat.le_refl _) _
theorem ba2 (w : World) (o1 o2 : Obj) : Below w.heap.size w ((w.alloc o1).alloc o2) := bt (ba _ _) (ba _ _)

/-- What lies in one box, in two boxes, behind calls that turn nothing of theirs. -/
theorem box1 {w w1 : World} {a0 a1 a2 : Value} {T : TypeId} (hb : Below (w.alloc (.cells #[a0, a1, a2] T)).heap.size (w.alloc (.cells #[a0, a1, a2] T)) w1) :
    w1.cell? ⟨w.heap.size, 0, none⟩ = some a0 ∧ w1.cell? ⟨w.heap.size, 1, none⟩ = some a1 ∧ w1.cell? ⟨w.heap.size, 2, none⟩ = some a2 :=
  ⟨(hb.cell (p := ⟨w.heap.size, 0, none⟩) (by simp)).trans (by simp), (hb.cell (p := ⟨w.heap.size, 1, none⟩) (by simp)).trans (by simp), (hb.cell (p := ⟨w.heap.size, 2, none⟩) (by simp)).trans (by simp)⟩
theorem box2 {w w1 : World} {a0 a1 a2 b0 b1 b2 : Value} {T T' : TypeId} (hb : Below ((w.alloc (.cells #[a0, a1, a2] T)).alloc (.cells #[b0, b1, b2] T')).heap.size ((w.alloc (.cells #[a0, a1, a2] T)).alloc (.cells #[b0, b1, b2] T')) w1) :
    w1.cell? ⟨w.heap.size, 0, none⟩ = some a0 ∧ w1.cell? ⟨w.heap.size, 1, none⟩ = some a1 ∧ w1.cell? ⟨w.heap.size, 2, none⟩ = some a2 ∧
    w1.cell? ⟨w.heap.size + 1, 0, none⟩ = some b0 ∧ w1.cell? ⟨w.heap.size + 1, 1, none⟩ = some b1 ∧ w1.cell? ⟨w.heap.size + 1, 2, none⟩ = some b2 := by
  obtain ⟨c0, c1, c2⟩ := box1 (bt (ba (w.alloc (.cells #[a0, a1, a2] T)) (.cells #[b0, b1, b2] T')) hb)
  obtain ⟨d0, d1, d2⟩ := box1 (w := w.alloc (.cells #[a0, a1, a2] T)) hb
  simp only [World.size_alloc] at d0 d1 d2
  exact ⟨c0, c1, c2, d0, d1, d2⟩
theorem box3 {w w1 : World} {a0 a1 a2 b0 b1 b2 c0 c1 c2 : Value} {T T' T'' : TypeId} (hb : Below (((w.alloc (.cells #[a0, a1, a2] T)).alloc (.cells #[b0, b1, b2] T')).alloc (.cells #[c0, c1, c2] T'')).heap.size (((w.alloc (.cells #[a0, a1, a2] T)).alloc (.cells #[b0, b1, b2] T')).alloc (.cells #[c0, c1, c2] T'')) w1) :
    w1.cell? ⟨w.heap.size, 0, none⟩ = some a0 ∧ w1.cell? ⟨w.heap.size, 1, none⟩ = some a1 ∧ w1.cell? ⟨w.heap.size, 2, none⟩ = some a2 ∧
    w1.cell? ⟨w.heap.size + 1, 0, none⟩ = some b0 ∧ w1.cell? ⟨w.heap.size + 1, 1, none⟩ = some b1 ∧ w1.cell? ⟨w.heap.size + 1, 2, none⟩ = some b2 ∧
    w1.cell? ⟨w.heap.size + 1 + 1, 0, none⟩ = some c0 ∧ w1.cell? ⟨w.heap.size + 1 + 1, 1, none⟩ = some c1 ∧ w1.cell? ⟨w.heap.size + 1 + 1, 2, none⟩ = some c2 := by
  obtain ⟨x0, x1, x2, y0, y1, y2⟩ := box2 (bt (ba ((w.alloc (.cells #[a0, a1, a2] T)).alloc (.cells #[b0, b1, b2] T')) (.cells #[c0, c1, c2] T'')) hb)
  obtain ⟨d0, d1, d2⟩ := box1 (w := (w.alloc (.cells #[a0, a1, a2] T)).alloc (.cells #[b0, b1, b2] T')) hb
  simp only [World.size_alloc] at d0 d1 d2
  exact ⟨x0, x1, x2, y0, y1, y2, d0, d1, d2⟩
theorem ret_bool {a b : Bool} (h : a = b) : Ending.returned (.bool a) = .returned (.bool b) := by rw [h]
theorem ret_int {k : IntKind} {a b : Int} (h : a = b) : Ending.returned (.int k a) = .returned (.int k b) := by rw [h]

end Go.Proofs.YtpokpiphnggfpaaGreatDoor
end
section
namespace Go.Proofs.YtpokpiphnggfpaaGreatDoor
open Go.RowKit

set_option maxHeartbeats 400000 in
theorem mayBe_any (k n : Int) (s : ByteArray) (w : World) (hs : s.size ≤ 9223372036854775807) :
    Calls Tryz.prog 58 #[VV k n s] w fun e w' => e = .returned (.bool (okV k n s)) ∧ Below w.heap.size w w' := by
  go_enter Tryz.func58, Tryz.ntmps58
  go_wp2
  all_goals
    go_ret
    refine ⟨ret_bool (by simp_all [okV] <;> (intros; omega)), (Below.refl _ _).alloc (Nat.le_refl _) _⟩

theorem mayBe_yes (k n : Int) (s : ByteArray) (w : World) (hs : s.size ≤ 9223372036854775807) (h : okV k n s = true) :
    Calls Tryz.prog 58 #[VV k n s] w fun e w' => e = .returned (.bool true) ∧ Below w.heap.size w w' := by
  rw [← h]; exact mayBe_any k n s w hs
theorem mayBe_no (k n : Int) (s : ByteArray) (w : World) (hs : s.size ≤ 9223372036854775807) (h : okV k n s = false) :
    Calls Tryz.prog 58 #[VV k n s] w fun e w' => e = .returned (.bool false) ∧ Below w.heap.size w w' := by
  rw [← h]; exact mayBe_any k n s w hs

set_option maxHeartbeats 400000 in
theorem check_any (k n : Int) (s : ByteArray) (w : World) (hs : s.size ≤ 9223372036854775807) :
    Calls Tryz.prog 50 #[VV k n s] w fun e w' => e = .returned (.int .i64 (if okV k n s then 0 else 10)) ∧ Below w.heap.size w w' := by
  cases hok : okV k n s
  · go_enter Tryz.func50, Tryz.ntmps50
    go_wp2_with (go_at_call 58; refine (mayBe_no _ _ _ _ hs hok).mono ?_; rintro e w' ⟨rfl, hb⟩)
    go_ret
    exact ⟨rfl, ((Below.refl _ _).alloc (Nat.le_refl _) _).trans (hb.mono (by simp))⟩
  · go_enter Tryz.func50, Tryz.ntmps50
    go_wp2_with (go_at_call 58; refine (mayBe_yes _ _ _ _ hs hok).mono ?_; rintro e w' ⟨rfl, hb⟩)
    go_ret
    exact ⟨rfl, ((Below.refl _ _).alloc (Nat.le_refl _) _).trans (hb.mono (by simp))⟩

set_option maxHeartbeats 400000 in
theorem int_any (n : Int) (w : World) :
    Calls Tryz.prog 30 #[.int .i64 n] w fun e w' => e = .returned (VV 2 n ⟨#[]⟩) ∧ Below w.heap.size w w' := by
  go_enter Tryz.func30, Tryz.ntmps30
  go_wp2
  refine bodyPost_ret (v := VV 2 n ⟨#[]⟩) (by simp [results, Tryz.results30, go_sem]) rfl ⟨rfl, ?_⟩
  exact (Below.refl _ _).alloc (Nat.le_refl _) _
set_option maxHeartbeats 400000 in
theorem refInt_any (n : Int) (w : World) :
    Calls Tryz.prog 11 #[.int .i64 n] w fun e w' => e = .returned (VV 2 n ⟨#[]⟩) ∧ Below w.heap.size w w' := by
  go_enter Tryz.func11, Tryz.ntmps11
  go_wp2
  refine bodyPost_ret (v := VV 2 n ⟨#[]⟩) (by simp [results, Tryz.results11, go_sem]) rfl ⟨rfl, ?_⟩
  exact (Below.refl _ _).alloc (Nat.le_refl _) _
set_option maxHeartbeats 400000 in
theorem null_any (w : World) :
    Calls Tryz.prog 51 #[] w fun e w' => e = .returned (VV 0 0 ⟨#[]⟩) ∧ Below w.heap.size w w' := by
  go_enter Tryz.func51, Tryz.ntmps51
  go_wp2
  refine bodyPost_ret (v := VV 0 0 ⟨#[]⟩) (by simp [results, Tryz.results51, go_sem]) rfl ⟨rfl, ?_⟩
  exact (Below.refl _ _).alloc (Nat.le_refl _) _
set_option maxHeartbeats 400000 in
theorem refCheck_any (k n : Int) (s : ByteArray) (w : World) (hs : s.size ≤ 9223372036854775807) :
    Calls Tryz.prog 75 #[VV k n s] w fun e w' => e = .returned (.bool (okV k n s)) ∧ Below w.heap.size w w' := by
  go_enter Tryz.func75, Tryz.ntmps75
  go_wp2
  all_goals
    go_ret
    refine ⟨ret_bool (by simp_all [okV] <;> (intros; omega)), (Below.refl _ _).alloc (Nat.le_refl _) _⟩
theorem refCheck_yes (k n : Int) (s : ByteArray) (w : World) (hs : s.size ≤ 9223372036854775807) (h : okV k n s = true) :
    Calls Tryz.prog 75 #[VV k n s] w fun e w' => e = .returned (.bool true) ∧ Below w.heap.size w w' := by
  rw [← h]; exact refCheck_any k n s w hs
theorem refCheck_no (k n : Int) (s : ByteArray) (w : World) (hs : s.size ≤ 9223372036854775807) (h : okV k n s = false) :
    Calls Tryz.prog 75 #[VV k n s] w fun e w' => e = .returned (.bool false) ∧ Below w.heap.size w w' := by
  rw [← h]; exact refCheck_any k n s w hs

set_option maxHeartbeats 400000 in
theorem cmpInt_any (a b : Int) (w : World) :
    Calls Tryz.prog 69 #[.int .i64 a, .int .i64 b] w fun e w' => e = .returned (.int .i64 (cmpI a b)) ∧ w = w' := by
  go_enter Tryz.func69, Tryz.ntmps69
  go_wp2
  all_goals
    go_ret
    exact ⟨ret_int (by unfold cmpI; (repeat' split) <;> omega), rfl⟩
set_option maxHeartbeats 400000 in
theorem cmpStr_any (a b : ByteArray) (w : World) :
    Calls Tryz.prog 70 #[.string a, .string b] w fun e w' => e = .returned (.int .i64 (cmpS a b)) ∧ w = w' := by
  go_enter Tryz.func70, Tryz.ntmps70
  go_wp2
  all_goals
    go_ret
    exact ⟨ret_int (by simp_all [cmpS]), rfl⟩

end Go.Proofs.YtpokpiphnggfpaaGreatDoor
end
section
namespace Go.Proofs.YtpokpiphnggfpaaGreatDoor
open Go.RowKit

set_option maxHeartbeats 400000 in
theorem compare_any (k n : Int) (s : ByteArray) (k' n' : Int) (s' : ByteArray) (w : World) :
    Calls Tryz.prog 53 #[VV k n s, VV k' n' s'] w fun e w' => e = .returned (.int .i64 (cmpV k n s k' n' s')) ∧ Below w.heap.size w w' := by
  have hB : ∀ o1 o2, Below w.heap.size w ((w.alloc o1).alloc o2) := fun o1 o2 => ((Below.refl _ _).alloc (Nat.le_refl _) _).alloc (by simp) _
  by_cases hk : k = k'
  · subst hk
    by_cases hn : n = n'
    · subst hn
      go_enter Tryz.func53, Tryz.ntmps53
      go_wp2_with (go_at_call 70; refine (cmpStr_any _ _ _).mono ?_; rintro e w' ⟨rfl, rfl⟩)
      go_ret
      exact ⟨ret_int (by simp [cmpV]), hB _ _⟩
    · have hn' : (n != n') = true := by simpa using hn
      go_enter Tryz.func53, Tryz.ntmps53
      go_wp2_with (go_at_call 69; refine (cmpInt_any _ _ _).mono ?_; rintro e w' ⟨rfl, rfl⟩)
      go_ret
      exact ⟨ret_int (by simp [cmpV, hn]), hB _ _⟩
  · have hk' : (k != k') = true := by simpa using hk
    go_enter Tryz.func53, Tryz.ntmps53
    go_wp2_with (go_at_call 69; refine (cmpInt_any _ _ _).mono ?_; rintro e w' ⟨rfl, rfl⟩)
    go_ret
    exact ⟨ret_int (by simp [cmpV, hk]), hB _ _⟩

theorem run_eqV (k n : Int) (s : ByteArray) (k' n' : Int) (s' : ByteArray) (w : World) :
    (binOp .eql 28 (VV k n s) (VV k' n' s')).run Tryz.prog w = .ok (.bool (eqV k n s k' n' s')) w := by
  have u3 := Tryz.underlying3
  have a3 := Tryz.isAgg3
  have z3 := Tryz.sizeOf3
  have u9 := Tryz.underlying9
  have a9 := Tryz.isAgg9
  have z9 := Tryz.sizeOf9
  have hS : Tryz.prog.underlying 28 = some (.struct (Tryz.prog.fieldsOf 28)) := by kernel_rfl
  have hp : Tryz.prog.stoodInHeld 28 = false := by kernel_rfl
  rw [run_eql_struct, show (10000 : Nat) = 9999 + 1 from rfl, run_equalIn_agg w 9999 28 _ _ hS hp]
  simp only [Program.fieldsOf, Tryz.underlying28]
  go_simp
  unfold eqV
  by_cases h1 : k = k' <;> by_cases h2 : n = n' <;> by_cases h3 : s.toList = s'.toList <;> simp [h1, h2, h3]

end Go.Proofs.YtpokpiphnggfpaaGreatDoor
end
section
namespace Go.Proofs.YtpokpiphnggfpaaGreatDoor
open Go.RowKit

set_option maxHeartbeats 400000 in
theorem bool_true (w : World) :
    Calls Tryz.prog 62 #[.bool true] w fun e w' => e = .returned (VV 1 1 ⟨#[]⟩) ∧ Below w.heap.size w w' := by
  go_enter Tryz.func62, Tryz.ntmps62
  go_wp2
  refine bodyPost_ret (v := VV 1 1 ⟨#[]⟩) (by simp [results, Tryz.results62, go_sem]) rfl ⟨rfl, ?_⟩
  exact (Below.refl _ _).alloc (Nat.le_refl _) _
set_option maxHeartbeats 400000 in
theorem bool_false (w : World) :
    Calls Tryz.prog 62 #[.bool false] w fun e w' => e = .returned (VV 1 0 ⟨#[]⟩) ∧ Below w.heap.size w w' := by
  go_enter Tryz.func62, Tryz.ntmps62
  go_wp2
  refine bodyPost_ret (v := VV 1 0 ⟨#[]⟩) (by simp [results, Tryz.results62, go_sem]) rfl ⟨rfl, ?_⟩
  exact (Below.refl _ _).alloc (Nat.le_refl _) _
set_option maxHeartbeats 400000 in
theorem refBool_true (w : World) :
    Calls Tryz.prog 17 #[.bool true] w fun e w' => e = .returned (VV 1 1 ⟨#[]⟩) ∧ Below w.heap.size w w' := by
  go_enter Tryz.func17, Tryz.ntmps17
  go_wp2
  refine bodyPost_ret (v := VV 1 1 ⟨#[]⟩) (by simp [results, Tryz.results17, go_sem]) rfl ⟨rfl, ?_⟩
  exact (Below.refl _ _).alloc (Nat.le_refl _) _
set_option maxHeartbeats 400000 in
theorem refBool_false (w : World) :
    Calls Tryz.prog 17 #[.bool false] w fun e w' => e = .returned (VV 1 0 ⟨#[]⟩) ∧ Below w.heap.size w w' := by
  go_enter Tryz.func17, Tryz.ntmps17
  go_wp2
  refine bodyPost_ret (v := VV 1 0 ⟨#[]⟩) (by simp [results, Tryz.results17, go_sem]) rfl ⟨rfl, ?_⟩
  exact (Below.refl _ _).alloc (Nat.le_refl _) _


end Go.Proofs.YtpokpiphnggfpaaGreatDoor
end
section
namespace Go.Proofs.YtpokpiphnggfpaaGreatDoor
open Go.RowKit

set_option maxHeartbeats 400000 in
theorem known_any (k n : Int) (s : ByteArray) (w : World) (hs : s.size ≤ 9223372036854775807) :
    Calls Tryz.prog 98 #[VV k n s] w fun e w' => e = .returned (.bool (knownV k n s)) ∧ Below w.heap.size w w' := by
  by_cases hk : k = 0
  · have hk' : (k != 0) = false := by simpa using hk
    go_enter Tryz.func98, Tryz.ntmps98
    go_wp2_with fail
    go_ret
    exact ⟨ret_bool (by simp [knownV, hk]), (Below.refl _ _).alloc (Nat.le_refl _) _⟩
  · have hk' : (k != 0) = true := by simpa using hk
    go_enter Tryz.func98, Tryz.ntmps98
    go_wp2_with (go_at_call 58; refine (mayBe_any _ _ _ _ hs).mono ?_; rintro e w' ⟨rfl, hb⟩)
    go_ret
    exact ⟨ret_bool (by simp [knownV, hk]), ((Below.refl _ _).alloc (Nat.le_refl _) _).trans (hb.mono (by simp))⟩

set_option maxHeartbeats 400000 in
theorem vtruth_any (k n : Int) (s : ByteArray) (w : World) (hs : s.size ≤ 9223372036854775807) :
    Calls Tryz.prog 43 #[VV k n s] w fun e w' => e = .returned (.int .i64 (truthV k n s)) ∧ Below w.heap.size w w' := by
  by_cases hk : k = 1
  · subst hk
    cases hok : okV 1 n s
    · have hfin : truthV 1 n s = 2 := by simp [truthV, hok]
      have Hf := Lib.hid hfin
      have Hk := Lib.hid hok
      clear hfin hok
      go_enter Tryz.func43, Tryz.ntmps43
      go_wp2_with (go_at_call 58; refine (mayBe_no _ _ _ _ hs Hk.out).mono ?_; rintro e w' ⟨rfl, hb⟩)
      go_ret
      exact ⟨ret_int (by rw [Hf.out]), ((Below.refl _ _).alloc (Nat.le_refl _) _).trans (hb.mono (by simp))⟩
    · have hfin : truthV 1 n s = n := by simp [truthV, hok]
      have h01 : n = 0 ∨ n = 1 := by simp [okV] at hok; exact hok.1
      have Hf := Lib.hid hfin
      have Hk := Lib.hid hok
      clear hfin hok
      rcases h01 with h | h
      all_goals
        subst h
        go_enter Tryz.func43, Tryz.ntmps43
        go_wp2_with (go_at_call 58; refine (mayBe_yes _ _ _ _ hs Hk.out).mono ?_; rintro e w' ⟨rfl, hb⟩; obtain ⟨hc, hf⟩ := bcell hb)
        go_ret
        exact ⟨ret_int (by rw [Hf.out]), ((Below.refl _ _).alloc (Nat.le_refl _) _).trans (hb.mono (by simp))⟩
  · have hk' : (k != 1) = true := by simpa using hk
    go_enter Tryz.func43, Tryz.ntmps43
    go_wp2_with fail
    go_ret
    exact ⟨ret_int (by simp [truthV, hk]), (Below.refl _ _).alloc (Nat.le_refl _) _⟩

theorem truthV_one : truthV 1 1 ⟨#[]⟩ = 1 := by decide +kernel
theorem truthV_zero : truthV 1 0 ⟨#[]⟩ = 0 := by decide +kernel

/-- What holds asks of the order of two values: is it so, where both are known and of one kind. -/
def judgeV (p : Int → Bool) (k n : Int) (s : ByteArray) (k' n' : Int) (s' : ByteArray) : Int :=
  if knownV k n s && knownV k' n' s' then (if k = k' then (if p (cmpV k n s k' n' s') then 1 else 0) else 0) else 2

theorem known_b (b : Bool) (k n : Int) (s : ByteArray) (w : World) (hs : s.size ≤ 9223372036854775807) (h : knownV k n s = b) :
    Calls Tryz.prog 98 #[VV k n s] w fun e w' => e = .returned (.bool b) ∧ Below w.heap.size w w' := by
  rw [← h]; exact known_any k n s w hs

set_option maxHeartbeats 1000000 in
theorem judge_any (g : Nat) (p : Int → Bool) (hg : ∀ (b : Bool) (c : Int) (W : World), p c = b → Calls Tryz.prog g #[.int .i64 c] W fun e W' => e = .returned (.bool b) ∧ W = W')
    (k n : Int) (s : ByteArray) (k' n' : Int) (s' : ByteArray) (w : World) (hs : s.size ≤ 9223372036854775807) (hs' : s'.size ≤ 9223372036854775807) (eg : ∀ args w, (callFunc g args).run Tryz.prog w = .ok (.enter g args) w) :
    Calls Tryz.prog 93 #[VV k n s, VV k' n' s', .func (.func g) #[] #[]] w fun e w' => e = .returned (.int .i64 (judgeV p k n s k' n' s')) ∧ Below w.heap.size w w' := by
  have HG := Lib.hid hg
  clear hg
  cases h1 : knownV k n s
  · have Hf := Lib.hid (show judgeV p k n s k' n' s' = 2 by simp [judgeV, h1])
    have H1 := Lib.hid h1
    clear h1
    go_enter Tryz.func93, Tryz.ntmps93
    go_wp2_with fail
    refine (known_b false _ _ _ _ hs H1.out).mono ?_
    rintro e w1 ⟨rfl, hb1⟩
    go_wp2_with fail
    go_ret
    exact ⟨ret_int (by rw [Hf.out]), bt (ba2 _ _ _) hb1⟩
  · have H1 := Lib.hid h1
    cases h2 : knownV k' n' s'
    · have Hf := Lib.hid (show judgeV p k n s k' n' s' = 2 by simp [judgeV, h2])
      have H2 := Lib.hid h2
      clear h1 h2
      go_enter Tryz.func93, Tryz.ntmps93
      go_wp2_with fail
      refine (known_b true _ _ _ _ hs H1.out).mono ?_
      rintro e w1 ⟨rfl, hb1⟩
      obtain ⟨c0, c1, c2, d0, d1, d2⟩ := box2 hb1
      go_wp2_with fail
      refine (known_b false _ _ _ _ hs' H2.out).mono ?_
      rintro e w2 ⟨rfl, hb2⟩
      go_wp2_with fail
      go_ret
      exact ⟨ret_int (by rw [Hf.out]), bt (bt (ba2 _ _ _) hb1) hb2⟩
    · have H2 := Lib.hid h2
      by_cases hk : k = k'
      · subst hk
        cases hp : p (cmpV k n s k n' s')
        all_goals
          have HP := Lib.hid hp
        · have Hf := Lib.hid (show judgeV p k n s k n' s' = 0 by simp [judgeV, h1, h2, hp])
          clear h1 h2 hp
          go_enter Tryz.func93, Tryz.ntmps93
          go_wp2_with fail
          refine (known_b true _ _ _ _ hs H1.out).mono ?_
          rintro e w1 ⟨rfl, hb1⟩
          obtain ⟨c0, c1, c2, d0, d1, d2⟩ := box2 hb1
          go_wp2_with fail
          refine (known_b true _ _ _ _ hs' H2.out).mono ?_
          rintro e w2 ⟨rfl, hb2⟩
          clear c0 c1 c2 d0 d1 d2
          have hB2 := bt hb1 hb2
          obtain ⟨c0, c1, c2, d0, d1, d2⟩ := box2 hB2
          go_wp2_with fail
          refine (compare_any _ _ _ _ _ _ _).mono ?_
          rintro e w3 ⟨rfl, hb3⟩
          clear c0 c1 c2 d0 d1 d2
          go_wp2_with fail
          refine (HG.out false _ _ HP.out).mono ?_
          rintro e w4 ⟨rfl, rfl⟩
          go_wp2_with fail
          refine (bool_false _).mono ?_
          rintro e w4 ⟨rfl, hb4⟩
          go_wp2_with fail
          refine (vtruth_any _ _ _ _ (by decide)).mono ?_
          rintro e w5 ⟨rfl, hb5⟩
          go_wp2_with fail
          go_ret
          exact ⟨ret_int (by rw [Hf.out, truthV_zero]), bt (bt (bt (bt (ba2 _ _ _) hB2) hb3) hb4) hb5⟩
        · have Hf := Lib.hid (show judgeV p k n s k n' s' = 1 by simp [judgeV, h1, h2, hp])
          clear h1 h2 hp
          go_enter Tryz.func93, Tryz.ntmps93
          go_wp2_with fail
          refine (known_b true _ _ _ _ hs H1.out).mono ?_
          rintro e w1 ⟨rfl, hb1⟩
          obtain ⟨c0, c1, c2, d0, d1, d2⟩ := box2 hb1
          go_wp2_with fail
          refine (known_b true _ _ _ _ hs' H2.out).mono ?_
          rintro e w2 ⟨rfl, hb2⟩
          clear c0 c1 c2 d0 d1 d2
          have hB2 := bt hb1 hb2
          obtain ⟨c0, c1, c2, d0, d1, d2⟩ := box2 hB2
          go_wp2_with fail
          refine (compare_any _ _ _ _ _ _ _).mono ?_
          rintro e w3 ⟨rfl, hb3⟩
          clear c0 c1 c2 d0 d1 d2
          go_wp2_with fail
          refine (HG.out true _ _ HP.out).mono ?_
          rintro e w4 ⟨rfl, rfl⟩
          go_wp2_with fail
          refine (bool_true _).mono ?_
          rintro e w4 ⟨rfl, hb4⟩
          go_wp2_with fail
          refine (vtruth_any _ _ _ _ (by decide)).mono ?_
          rintro e w5 ⟨rfl, hb5⟩
          go_wp2_with fail
          go_ret
          exact ⟨ret_int (by rw [Hf.out, truthV_one]), bt (bt (bt (bt (ba2 _ _ _) hB2) hb3) hb4) hb5⟩
      · have Hf := Lib.hid (show judgeV p k n s k' n' s' = 0 by simp [judgeV, h1, h2, hk])
        have hk' : (k != k') = true := by simpa using hk
        clear h1 h2 hk
        go_enter Tryz.func93, Tryz.ntmps93
        go_wp2_with fail
        refine (known_b true _ _ _ _ hs H1.out).mono ?_
        rintro e w1 ⟨rfl, hb1⟩
        obtain ⟨c0, c1, c2, d0, d1, d2⟩ := box2 hb1
        go_wp2_with fail
        refine (known_b true _ _ _ _ hs' H2.out).mono ?_
        rintro e w2 ⟨rfl, hb2⟩
        clear c0 c1 c2 d0 d1 d2
        have hB2 := bt hb1 hb2
        obtain ⟨c0, c1, c2, d0, d1, d2⟩ := box2 hB2
        go_wp2_with fail
        go_ret
        exact ⟨ret_int (by rw [Hf.out]), bt (ba2 _ _ _) hB2⟩

end Go.Proofs.YtpokpiphnggfpaaGreatDoor
end
section
namespace Go.Proofs.YtpokpiphnggfpaaGreatDoor

theorem bytesLess_irr (l : List UInt8) : Op.bytesLess l l = false := by
  rw [bytesLess_eq]; simp
theorem cmpS_zero (s s' : ByteArray) : cmpS s s' = 0 ↔ s.toList = s'.toList := by
  unfold cmpS
  by_cases h : s.toList = s'.toList
  · simp [h, bytesLess_irr]
  · cases hl : Op.bytesLess s.toList s'.toList <;> simp [h]
theorem cmpI_zero (a b : Int) : cmpI a b = 0 ↔ a = b := by
  unfold cmpI; (repeat' split) <;> omega
theorem cmpV_zero (k n : Int) (s : ByteArray) (k' n' : Int) (s' : ByteArray) : cmpV k n s k' n' s' = 0 ↔ eqV k n s k' n' s' = true := by
  unfold cmpV eqV
  by_cases hk : k = k' <;> by_cases hn : n = n' <;> simp [hk, hn, cmpS_zero, cmpI_zero]

theorem cmpI_range (a b : Int) : -1 ≤ cmpI a b ∧ cmpI a b ≤ 1 := by unfold cmpI; (repeat' split) <;> omega
theorem cmpS_range (s s' : ByteArray) : -1 ≤ cmpS s s' ∧ cmpS s s' ≤ 1 := by unfold cmpS; (repeat' split) <;> omega
theorem cmpV_range (k n : Int) (s : ByteArray) (k' n' : Int) (s' : ByteArray) : -1 ≤ cmpV k n s k' n' s' ∧ cmpV k n s k' n' s' ≤ 1 := by
  unfold cmpV
  (repeat' split)
  · exact cmpS_range ..
  · exact cmpI_range ..
  · exact cmpI_range ..
theorem cmpI_anti (a b : Int) : cmpI b a = - cmpI a b := by unfold cmpI; (repeat' split) <;> omega
theorem cmpS_lt (s s' : ByteArray) : cmpS s s' < 0 ↔ s.toList < s'.toList := by
  unfold cmpS
  rw [bytesLess_eq]
  by_cases h : s.toList < s'.toList
  · simp [h]
  · simp only [h, decide_false, Bool.false_eq_true, if_false]
    split <;> simp
theorem cmpS_gt (s s' : ByteArray) : 0 < cmpS s s' ↔ s'.toList < s.toList := by
  unfold cmpS
  rw [bytesLess_eq]
  by_cases h : s.toList < s'.toList
  · simp only [h, decide_true, if_true]
    exact ⟨fun h' => absurd h' (by decide), fun h' => absurd h' (List.lt_asymm h)⟩
  · simp only [h, decide_false, Bool.false_eq_true, if_false]
    by_cases he : s.toList = s'.toList
    · rw [he]; simp
    · have : s'.toList < s.toList := by
        by_cases h2 : s'.toList < s.toList
        · exact h2
        · exact absurd (List.le_antisymm (List.not_lt.1 h2) (List.not_lt.1 h)) he
      simp [he, this]
theorem cmpS_anti (s s' : ByteArray) : cmpS s' s = - cmpS s s' := by
  have r1 := cmpS_range s s'
  have r2 := cmpS_range s' s
  have z1 := cmpS_zero s s'
  have z2 := cmpS_zero s' s
  have l1 := cmpS_lt s s'
  have g1 := cmpS_gt s s'
  have l2 := cmpS_lt s' s
  have g2 := cmpS_gt s' s
  by_cases h : s.toList = s'.toList
  · rw [z1.2 h, z2.2 h.symm]; rfl
  · have n1 : cmpS s s' ≠ 0 := fun e => h (z1.1 e)
    by_cases hl : s.toList < s'.toList
    · have := l1.2 hl; have := g2.2 hl; omega
    · have h1 : ¬ cmpS s s' < 0 := fun e => hl (l1.1 e)
      have := l2.2 (g1.1 (by omega))
      omega
theorem cmpV_anti (k n : Int) (s : ByteArray) (k' n' : Int) (s' : ByteArray) : cmpV k' n' s' k n s = - cmpV k n s k' n' s' := by
  unfold cmpV
  by_cases hk : k = k'
  · by_cases hn : n = n'
    · rw [if_pos hk.symm, if_pos hn.symm, if_pos hk, if_pos hn]; exact cmpS_anti ..
    · rw [if_pos hk.symm, if_neg (fun e => hn e.symm), if_pos hk, if_neg hn]; exact cmpI_anti ..
  · rw [if_neg (fun e => hk e.symm), if_neg hk]; exact cmpI_anti ..
theorem cmpS_trans (a b c : ByteArray) (h1 : cmpS a b ≤ 0) (h2 : cmpS b c ≤ 0) : cmpS a c ≤ 0 ∧ (cmpS a b = 0 ∧ cmpS b c = 0 ∨ cmpS a c < 0) := by
  by_cases e1 : a.toList = b.toList
  · have z1 := (cmpS_zero a b).2 e1
    by_cases e2 : b.toList = c.toList
    · have z2 := (cmpS_zero b c).2 e2
      have z3 := (cmpS_zero a c).2 (e1.trans e2)
      omega
    · have l2 : cmpS b c < 0 := by have : cmpS b c ≠ 0 := fun e => e2 ((cmpS_zero b c).1 e); omega
      have l3 : cmpS a c < 0 := (cmpS_lt a c).2 (by rw [e1]; exact (cmpS_lt b c).1 l2)
      omega
  · have l1 : cmpS a b < 0 := by have : cmpS a b ≠ 0 := fun e => e1 ((cmpS_zero a b).1 e); omega
    have l3 : cmpS a c < 0 := by
      rw [cmpS_lt]
      by_cases e2 : b.toList = c.toList
      · rw [← e2]; exact (cmpS_lt a b).1 l1
      · have l2 : cmpS b c < 0 := by have : cmpS b c ≠ 0 := fun e => e2 ((cmpS_zero b c).1 e); omega
        exact List.lt_trans ((cmpS_lt a b).1 l1) ((cmpS_lt b c).1 l2)
    omega
theorem cmpV_le (k n : Int) (s : ByteArray) (k' n' : Int) (s' : ByteArray) : cmpV k n s k' n' s' ≤ 0 ↔ k < k' ∨ (k = k' ∧ (n < n' ∨ (n = n' ∧ cmpS s s' ≤ 0))) := by
  unfold cmpV cmpI
  (repeat' split) <;> omega
theorem cmpV_lt (k n : Int) (s : ByteArray) (k' n' : Int) (s' : ByteArray) : cmpV k n s k' n' s' < 0 ↔ k < k' ∨ (k = k' ∧ (n < n' ∨ (n = n' ∧ cmpS s s' < 0))) := by
  unfold cmpV cmpI
  (repeat' split) <;> omega
theorem cmpV_eq (k n : Int) (s : ByteArray) (k' n' : Int) (s' : ByteArray) : cmpV k n s k' n' s' = 0 ↔ k = k' ∧ n = n' ∧ cmpS s s' = 0 := by
  unfold cmpV cmpI
  (repeat' split) <;> omega
theorem cmpV_trans (k n : Int) (s : ByteArray) (k' n' : Int) (s' : ByteArray) (k'' n'' : Int) (s'' : ByteArray) (h1 : cmpV k n s k' n' s' ≤ 0) (h2 : cmpV k' n' s' k'' n'' s'' ≤ 0) :
    cmpV k n s k'' n'' s'' ≤ 0 ∧ (cmpV k n s k' n' s' = 0 ∧ cmpV k' n' s' k'' n'' s'' = 0 ∨ cmpV k n s k'' n'' s'' < 0) := by
  have t := cmpS_trans s s' s''
  rw [cmpV_le] at h1 h2
  rw [cmpV_le, cmpV_lt, cmpV_eq, cmpV_eq]
  generalize cmpS s s' = x at *
  generalize cmpS s' s'' = y at *
  generalize cmpS s s'' = z at *
  omega

end Go.Proofs.YtpokpiphnggfpaaGreatDoor
end
section
namespace Go.Proofs.YtpokpiphnggfpaaGreatDoor
open Go.RowKit Go.Shelf

def b2i (b : Bool) : Int := if b then 1 else 0
theorem judge_equal (k n : Int) (s : ByteArray) (k' n' : Int) (s' : ByteArray) : judgeV (fun c => c == 0) k n s k' n' s' = equalV k n s k' n' s' := by
  unfold judgeV equalV
  cases knownV k n s && knownV k' n' s'
  · rfl
  · by_cases hk : k = k'
    · cases he : eqV k n s k' n' s'
      · have h0 : ¬ cmpV k n s k' n' s' = 0 := fun h => by rw [(cmpV_zero ..).1 h] at he; cases he
        subst hk
        simpa using h0
      · have h0 := (cmpV_zero k n s k' n' s').2 he
        subst hk
        simpa using h0
    · simp [hk, eqV]
theorem judge_less (k n : Int) (s : ByteArray) (k' n' : Int) (s' : ByteArray) : judgeV (fun c => decide (c < 0)) k n s k' n' s' = lessV k n s k' n' s' := by
  unfold judgeV lessV
  cases knownV k n s && knownV k' n' s'
  · rfl
  · by_cases hk : k = k' <;> simp [hk]

set_option maxHeartbeats 400000 in
theorem equal1 (b : Bool) (c : Int) (w : World) (h : (fun c : Int => c == 0) c = b) :
    Calls Tryz.prog 94 #[.int .i64 c] w fun e w' => e = .returned (.bool b) ∧ w = w' := by
  subst h
  go_enter Tryz.func94, Tryz.ntmps94
  go_wp2
  go_ret
  exact ⟨rfl, rfl⟩
set_option maxHeartbeats 400000 in
theorem less1 (b : Bool) (c : Int) (w : World) (h : (fun c : Int => decide (c < 0)) c = b) :
    Calls Tryz.prog 95 #[.int .i64 c] w fun e w' => e = .returned (.bool b) ∧ w = w' := by
  subst h
  go_enter Tryz.func95, Tryz.ntmps95
  go_wp2
  go_ret
  exact ⟨rfl, rfl⟩

set_option maxHeartbeats 400000 in
theorem equal_any (k n : Int) (s : ByteArray) (k' n' : Int) (s' : ByteArray) (w : World) (hs : s.size ≤ 9223372036854775807) (hs' : s'.size ≤ 9223372036854775807) :
    Calls Tryz.prog 82 #[VV k n s, VV k' n' s'] w fun e w' => e = .returned (.int .i64 (equalV k n s k' n' s')) ∧ Below w.heap.size w w' := by
  go_enter Tryz.func82, Tryz.ntmps82
  go_wp2_with fail
  refine (judge_any 94 _ equal1 _ _ _ _ _ _ _ hs hs' (enters_of Tryz.func94 (by kernel_rfl) rfl)).mono ?_
  rintro e w1 ⟨rfl, hb1⟩
  go_wp2_with fail
  go_ret
  exact ⟨ret_int (judge_equal ..), bt (ba2 _ _ _) hb1⟩
set_option maxHeartbeats 400000 in
theorem less_any (k n : Int) (s : ByteArray) (k' n' : Int) (s' : ByteArray) (w : World) (hs : s.size ≤ 9223372036854775807) (hs' : s'.size ≤ 9223372036854775807) :
    Calls Tryz.prog 83 #[VV k n s, VV k' n' s'] w fun e w' => e = .returned (.int .i64 (lessV k n s k' n' s')) ∧ Below w.heap.size w w' := by
  go_enter Tryz.func83, Tryz.ntmps83
  go_wp2_with fail
  refine (judge_any 95 _ less1 _ _ _ _ _ _ _ hs hs' (enters_of Tryz.func95 (by kernel_rfl) rfl)).mono ?_
  rintro e w1 ⟨rfl, hb1⟩
  go_wp2_with fail
  go_ret
  exact ⟨ret_int (judge_less ..), bt (ba2 _ _ _) hb1⟩

theorem refCheck_b (b : Bool) (k n : Int) (s : ByteArray) (w : World) (hs : s.size ≤ 9223372036854775807) (h : okV k n s = b) :
    Calls Tryz.prog 75 #[VV k n s] w fun e w' => e = .returned (.bool b) ∧ Below w.heap.size w w' := by
  rw [← h]; exact refCheck_any k n s w hs

end Go.Proofs.YtpokpiphnggfpaaGreatDoor
end
section
namespace Go.Proofs
open Go.Shelf
def Tryz.lays99_ren : Go.Shelf.Ren := ⟨fun | 99 => 109 | 206 => 110 | n => n, fun | 9 => 9 | 4 => 4 | 3 => 3 | n => n, fun | n => n⟩
theorem Tryz.lays99 : Go.Proofs.Lays.n99 Tryz.prog Tryz.lays99_ren := {
  mixed := by kernel_rfl
  f99 := Tryz.func109.trans (congrArg some (by kernel_rfl))
  f206 := Tryz.func110.trans (congrArg some (by kernel_rfl))
  t3 := Tryz.underlying3
  a3 := Tryz.isAgg3
  z3 := Tryz.sizeOf3
  v3 := Tryz.zeroValue3
  t4 := Tryz.underlying4
  a4 := Tryz.isAgg4
  z4 := Tryz.sizeOf4
  v4 := Tryz.zeroValue4
  t9 := Tryz.underlying9
  a9 := Tryz.isAgg9
  z9 := Tryz.sizeOf9
  v9 := Tryz.zeroValue9 }
open Go.RowKit Go.Lib in
/-- strings.HasPrefix: "HasPrefix reports whether the string s begins with prefix.": IT RETURNS 'Lib.hasPrefix s prefix'; the world is as it was. (LAID: no walk: one application.) -/
theorem Tryz.strings_HasPrefix (s p : ByteArray) (w : World) :
    Calls Tryz.prog 109 #[.string s, .string p] w fun e w' => e = .returned (.bool (Lib.hasPrefix s.data.toList p.data.toList)) ∧ w' = w := Any.strings_HasPrefix Tryz.lays99 s p w
end Go.Proofs
end
section
namespace Go.Proofs.YtpokpiphnggfpaaGreatDoor
open Go.RowKit Go.Shelf

/-- What an expression holds beside its parts. -/
structure Hd where
  k : Int
  n : Int
  vk : Int
  vn : Int
  vs : ByteArray
  tab : ByteArray
  col : ByteArray
inductive Ex where
  | mk (h : Hd) (l : List Ex)
def Ex.hd : Ex → Hd | .mk h _ => h
def Ex.kids : Ex → List Ex | .mk _ l => l
theorem Ex.kid_lt {h : Hd} {l : List Ex} {x : Ex} (hx : x ∈ l) : SizeOf.sizeOf x < SizeOf.sizeOf (Ex.mk h l) := by
  have := List.sizeOf_lt_of_mem hx
  simp only [Ex.mk.sizeOf_spec]
  omega

/-- An expression as the program hands it about. -/
abbrev XV (h : Hd) (A : Option Addr) (len cap : Nat) : Value :=
  .agg #[.int .i64 h.k, .int .i64 h.n, .int .i64 h.vk, .int .i64 h.vn, .string h.vs, .string h.tab, .string h.col, .slice A len cap]
abbrev xbox (h : Hd) (A : Option Addr) (len cap : Nat) : Obj := .cells #[.int .i64 h.k, .int .i64 h.n, .int .i64 h.vk, .int .i64 h.vn, .string h.vs, .string h.tab, .string h.col, .slice A len cap] 30
/-- Its cells. -/
structure XC (w : World) (g o : Nat) (h : Hd) (A : Option Addr) (len cap : Nat) : Prop where
  c0 : w.cell? ⟨g, o, none⟩ = some (.int .i64 h.k)
  c1 : w.cell? ⟨g, o + 1, none⟩ = some (.int .i64 h.n)
  c2 : w.cell? ⟨g, o + 2, none⟩ = some (.int .i64 h.vk)
  c3 : w.cell? ⟨g, o + 3, none⟩ = some (.int .i64 h.vn)
  c4 : w.cell? ⟨g, o + 4, none⟩ = some (.string h.vs)
  c5 : w.cell? ⟨g, o + 5, none⟩ = some (.string h.tab)
  c6 : w.cell? ⟨g, o + 6, none⟩ = some (.string h.col)
  c7 : w.cell? ⟨g, o + 7, none⟩ = some (.slice A len cap)
theorem XC.of {w w' : World} {g o : Nat} {h : Hd} {A : Option Addr} {len cap : Nat} (hb : w'.heap[g]? = w.heap[g]?) (c : XC w g o h A len cap) : XC w' g o h A len cap := by
  have e : ∀ o, w'.cell? ⟨g, o, none⟩ = w.cell? ⟨g, o, none⟩ := fun o => World.cell?_of_block hb
  exact ⟨(e _).trans c.c0, (e _).trans c.c1, (e _).trans c.c2, (e _).trans c.c3, (e _).trans c.c4, (e _).trans c.c5, (e _).trans c.c6, (e _).trans c.c7⟩
/-- Expressions in memory, in blocks of B. -/
def XsB (B : Nat → Prop) (w : World) : List Ex → Option Addr → Prop
  | [], _ => True
  | .mk h l :: r, A => ∃ g o, A = some ⟨g, o, none⟩ ∧ B g ∧ (∃ A' cap, XC w g o h A' l.length cap ∧ l.length ≤ cap ∧ XsB B w l A') ∧ XsB B w r (some ⟨g, o + 8, none⟩)
termination_by l => SizeOf.sizeOf l
theorem XsB.go {B B' : Nat → Prop} {w w' : World} (hb : ∀ k, B k → w'.heap[k]? = w.heap[k]?) (hB : ∀ k, B k → B' k) : ∀ (l : List Ex) (A : Option Addr), XsB B w l A → XsB B' w' l A
  | [], _, _ => by rw [XsB]; trivial
  | .mk h l :: r, A, H => by
    rw [XsB] at H ⊢
    obtain ⟨g, o, e, hg, ⟨A', cap, hc, hl, h1⟩, h2⟩ := H
    exact ⟨g, o, e, hB g hg, ⟨A', cap, hc.of (hb g hg), hl, XsB.go hb hB l A' h1⟩, XsB.go hb hB r _ h2⟩
termination_by l => SizeOf.sizeOf l
abbrev XsAt (n : Nat) (w : World) (l : List Ex) (A : Option Addr) : Prop := XsB (fun k => k < n) w l A
theorem XsAt.kept {n : Nat} {w w' : World} {l : List Ex} {A : Option Addr} (hb : Below n w w') (H : XsAt n w l A) : XsAt n w' l A :=
  XsB.go (fun k hk => hb.block k hk) (fun _ h => h) l A H
theorem XsAt.up {n m : Nat} {w : World} {l : List Ex} {A : Option Addr} (hm : n ≤ m) (H : XsAt n w l A) : XsAt m w l A :=
  XsB.go (fun _ _ => rfl) (fun _ h => Nat.lt_of_lt_of_le h hm) l A H
/-- Behind a call. -/
theorem XsAt.next {w w' : World} {l : List Ex} {A : Option Addr} (H : XsAt w.heap.size w l A) (hb : Below w.heap.size w w') : XsAt w'.heap.size w' l A :=
  (H.kept hb).up hb.size
theorem XsB.at {B : Nat → Prop} {w : World} : ∀ {l : List Ex} {A : Option Addr}, XsB B w l A → ∀ {i : Nat} {h : Hd} {l' : List Ex}, l[i]? = some (.mk h l') →
    ∃ g o A' cap, A = some ⟨g, o, none⟩ ∧ B g ∧ XC w g (o + i * 8) h A' l'.length cap ∧ l'.length ≤ cap ∧ XsB B w l' A'
  | [], _, _, i, h, l', hi => by simp at hi
  | .mk h l :: r, A, H, 0, h', l', hi => by
    rw [XsB] at H
    obtain ⟨g, o, e, hg, ⟨A', cap, hc, hl, h1⟩, _⟩ := H
    simp only [List.getElem?_cons_zero, Option.some.injEq, Ex.mk.injEq] at hi
    obtain ⟨rfl, rfl⟩ := hi
    exact ⟨g, o, A', cap, e, hg, by simpa using hc, hl, h1⟩
  | .mk h l :: r, A, H, i + 1, h', l', hi => by
    rw [XsB] at H
    obtain ⟨g, o, e, hg, _, h2⟩ := H
    obtain ⟨g', o', A', cap, e', hg', hc, hl, h1⟩ := XsB.at h2 (i := i) (by simpa using hi)
    simp only [Option.some.injEq, Addr.mk.injEq] at e'
    obtain ⟨rfl, rfl, _⟩ := e'
    exact ⟨g, o, A', cap, e, hg, by rw [show o + (i + 1) * 8 = o + 8 + i * 8 by omega]; exact hc, hl, h1⟩
theorem XsB.drop {B : Nat → Prop} {w : World} : ∀ {l : List Ex} {g o : Nat}, XsB B w l (some ⟨g, o, none⟩) → ∀ (k : Nat), XsB B w (l.drop k) (some ⟨g, o + k * 8, none⟩)
  | l, g, o, H, 0 => by simpa using H
  | [], g, o, H, k + 1 => by rw [List.drop_nil, XsB]; trivial
  | .mk h l :: r, g, o, H, k + 1 => by
    rw [XsB] at H
    obtain ⟨g', o', e, _, _, h2⟩ := H
    simp only [Option.some.injEq, Addr.mk.injEq] at e
    obtain ⟨rfl, rfl, _⟩ := e
    have := XsB.drop h2 k
    rw [List.drop_succ_cons, show o + (k + 1) * 8 = o + 8 + k * 8 by omega]
    exact this
/-- An expression, as a value with its parts in memory. -/
def XvB (B : Nat → Prop) (w : World) (e : Ex) (v : Value) : Prop :=
  ∃ A cap, v = XV e.hd A e.kids.length cap ∧ e.kids.length ≤ cap ∧ XsB B w e.kids A
abbrev XAt (n : Nat) (w : World) (e : Ex) (v : Value) : Prop := XvB (fun k => k < n) w e v
theorem XvB.go {B B' : Nat → Prop} {w w' : World} (hb : ∀ k, B k → w'.heap[k]? = w.heap[k]?) (hB : ∀ k, B k → B' k) {e : Ex} {v : Value} (H : XvB B w e v) : XvB B' w' e v := by
  obtain ⟨A, cap, rfl, hl, h⟩ := H
  exact ⟨A, cap, rfl, hl, XsB.go hb hB _ _ h⟩
theorem XAt.next {w w' : World} {e : Ex} {v : Value} (H : XAt w.heap.size w e v) (hb : Below w.heap.size w w') : XAt w'.heap.size w' e v :=
  XvB.go (fun k hk => hb.block k hk) (fun _ h => Nat.lt_of_lt_of_le h hb.size) H
/-- Blocks that came between two worlds. -/
abbrev Bn (b : Nat) (W : World) (k : Nat) : Prop := b ≤ k ∧ k < W.heap.size

/-! Lists of expressions of the call's own. -/
abbrev XQ := Hd × Option Addr × Nat × Nat
def xcell (x : XQ) : List Value := [.int .i64 x.1.k, .int .i64 x.1.n, .int .i64 x.1.vk, .int .i64 x.1.vn, .string x.1.vs, .string x.1.tab, .string x.1.col, .slice x.2.1 x.2.2.1 x.2.2.2]
def xcells (l : List XQ) : List Value := l.flatMap xcell
theorem xcells_len (l : List XQ) : (xcells l).length = l.length * 8 := by
  induction l with
  | nil => rfl
  | cons v l ih => show (xcell v ++ xcells l).length = _; rw [List.length_append, ih]; simp [xcell]; omega
theorem xcells_app (l r : List XQ) : xcells (l ++ r) = xcells l ++ xcells r := by simp [xcells]
theorem xcell_one (x : XQ) : ∀ u ∈ xcell x, u.oneCell' = true := by
  intro u hu
  simp [xcell] at hu
  rcases hu with rfl | rfl | rfl | rfl | rfl | rfl | rfl | rfl <;> rfl
theorem xcells_one (l : List XQ) : ∀ u ∈ xcells l, u.oneCell' = true := by
  intro u hu
  obtain ⟨v, _, hv⟩ := List.mem_flatMap.1 hu
  exact xcell_one v u hv
/-- What a cell row's entries stand for. -/
def XR (B : Nat → Prop) (w : World) (e : Ex) (x : XQ) : Prop := x.1 = e.hd ∧ x.2.2.1 = e.kids.length ∧ e.kids.length ≤ x.2.2.2 ∧ XsB B w e.kids x.2.1
inductive XRs (B : Nat → Prop) (w : World) : List Ex → List XQ → Prop
  | nil : XRs B w [] []
  | cons {e x l q} : XR B w e x → XRs B w l q → XRs B w (e :: l) (x :: q)
theorem XRs.len {B : Nat → Prop} {w : World} {l : List Ex} {q : List XQ} (h : XRs B w l q) : q.length = l.length := by
  induction h with
  | nil => rfl
  | cons _ _ ih => simp [ih]
theorem XRs.snoc {B : Nat → Prop} {w : World} {l : List Ex} {q : List XQ} (h : XRs B w l q) {e : Ex} {x : XQ} (hx : XR B w e x) : XRs B w (l ++ [e]) (q ++ [x]) := by
  induction h with
  | nil => exact .cons hx .nil
  | cons h1 _ ih => exact .cons h1 ih
theorem XRs.app {B : Nat → Prop} {w : World} {l l' : List Ex} {q q' : List XQ} (h : XRs B w l q) (h' : XRs B w l' q') : XRs B w (l ++ l') (q ++ q') := by
  induction h with
  | nil => exact h'
  | cons h1 _ ih => exact .cons h1 ih
theorem XR.go {B B' : Nat → Prop} {w w' : World} (hb : ∀ k, B k → w'.heap[k]? = w.heap[k]?) (hB : ∀ k, B k → B' k) {e : Ex} {x : XQ} (h : XR B w e x) : XR B' w' e x :=
  ⟨h.1, h.2.1, h.2.2.1, XsB.go hb hB _ _ h.2.2.2⟩
theorem XRs.go {B B' : Nat → Prop} {w w' : World} (hb : ∀ k, B k → w'.heap[k]? = w.heap[k]?) (hB : ∀ k, B k → B' k) {l : List Ex} {q : List XQ} (h : XRs B w l q) : XRs B' w' l q := by
  induction h with
  | nil => exact .nil
  | cons h1 _ ih => exact .cons (h1.go hb hB) ih
theorem XRs.xsB {B : Nat → Prop} {w : World} {g : Nat} (hg : B g) : ∀ {l : List Ex} {q : List XQ} {o : Nat}, XRs B w l q → (∀ j u, (xcells q)[j]? = some u → w.cell? ⟨g, o + j, none⟩ = some u) → XsB B w l (some ⟨g, o, none⟩)
  | _, _, _, .nil, _ => by rw [XsB]; trivial
  | _, _, o, .cons (e := .mk h l) (x := x) (q := q) h1 h2, H => by
    rw [XsB]
    obtain ⟨e1, e2, e3, e4⟩ := h1
    have e : xcells (x :: q) = xcell x ++ xcells q := rfl
    have e8 : (xcell x).length = 8 := rfl
    rw [e] at H
    refine ⟨g, o, rfl, hg, ⟨x.2.1, x.2.2.2, ?_, e3, e4⟩, ?_⟩
    · have k := fun j u (hj : (xcell x)[j]? = some u) => H j u (by rw [List.getElem?_append_left (List.getElem?_eq_some_iff.1 hj).1]; exact hj)
      simp only [Ex.hd, Ex.kids] at e1 e2
      rw [← e2, ← e1]
      exact ⟨k 0 _ rfl, k 1 _ rfl, k 2 _ rfl, k 3 _ rfl, k 4 _ rfl, k 5 _ rfl, k 6 _ rfl, k 7 _ rfl⟩
    · refine XRs.xsB hg h2 fun j u hj => ?_
      have := H (8 + j) u (by rw [List.getElem?_append_right (by omega), e8, Nat.add_sub_cancel_left]; exact hj)
      rwa [show o + (8 + j) = o + 8 + j by omega] at this
/-- A list of expressions of the call's own: in one row, the parts in other blocks. -/
abbrev Ot (base : Nat) (W : World) (v : Value) (k : Nat) : Prop := base ≤ k ∧ k < W.heap.size ∧ v.ownBlock ≠ some k
def Xrow (base : Nat) (W : World) (v : Value) (l : List Ex) (q : List XQ) : Prop := XRs (Ot base W v) W l q ∧ W.ownsRow base 30 8 v l.length (xcells q)
structure Xown (base : Nat) (W1 W : World) (v : Value) (l : List Ex) : Prop where
  row : ∃ q, Xrow base W v l q
  bel : Below base W1 W
  le : base ≤ W.heap.size
theorem Xown.slice {base : Nat} {W1 W : World} {v : Value} {l : List Ex} (h : Xown base W1 W v l) : ∃ A cap, v = .slice A l.length cap := by
  obtain ⟨q, _, ho⟩ := h.row
  rcases ho.2 with ⟨rfl, h0⟩ | ⟨g, cap, cur, hv, _⟩
  · rw [h0]; exact ⟨none, 0, rfl⟩
  · exact ⟨_, cap, hv⟩
theorem Xown.nil (W : World) : Xown W.heap.size W W (.slice none 0 0) [] :=
  ⟨⟨[], .nil, World.ownsRow_nil _ _ _ _⟩, Below.refl _ _, Nat.le_refl _⟩
theorem Xown.below {base : Nat} {W1 W W' : World} {v : Value} {l : List Ex} (h : Xown base W1 W v l) (hb : Below W.heap.size W W') : Xown base W1 W' v l := by
  obtain ⟨q, hq, ho⟩ := h.row
  refine ⟨⟨q, hq.go (fun k hk => hb.block k hk.2.1) (fun k hk => ⟨hk.1, Nat.lt_of_lt_of_le hk.2.1 hb.size, hk.2.2⟩), ho.1, ?_⟩, h.bel.trans (hb.mono h.le), Nat.le_trans h.le hb.size⟩
  rcases ho.2 with hn | ⟨g, cap, cur, hv, hb1, hg, hc, hm, hsz, ht⟩
  · exact .inl hn
  · exact .inr ⟨g, cap, cur, hv, hb1, (hb.block g (by
      rcases Nat.lt_or_ge g W.heap.size with h | h
      · exact h
      · rw [Array.getElem?_eq_none h] at hg; cases hg)).trans hg, hc, hm, hsz, ht⟩
/-- One more, appended. -/
theorem Xown.grow {base : Nat} {W1 W : World} {v : Value} {l : List Ex} (h : Xown base W1 W v l) {q : List XQ} (hq : Xrow base W v l q) {e : Ex} {x : XQ} (hx : XR (Ot base W v) W e x)
    {o : Obj} {v' : Value} {w' : World} (ho : w'.ownsRow base 30 8 v' (l.length + 1) (xcells q ++ xcell x)) (hg : (W.alloc o).grownBy w' v.ownBlock) (hat : v'.ownBlock = v.ownBlock ∨ v'.ownBlock = some (W.alloc o).heap.size) : Xown base W1 w' v' (l ++ [e]) := by
  have hle := h.le
  have hs := hg.size
  rw [World.size_alloc] at hs hat
  have hb : ∀ k, Ot base W v k → w'.heap[k]? = W.heap[k]? := fun k hk => (hg.block k (by rw [World.size_alloc]; have := hk.2.1; omega) (fun e => hk.2.2 e.symm)).trans ((ba W o).block k hk.2.1)
  have hB : ∀ k, Ot base W v k → Ot base w' v' k := fun k hk => ⟨hk.1, by have := hk.2.1; omega, fun e => by
    rcases hat with h1 | h1
    · exact hk.2.2 (h1.symm.trans e)
    · rw [h1] at e; have := hk.2.1; simp at e; omega⟩
  refine ⟨⟨q ++ [x], (hq.1.go hb hB).snoc (hx.go hb hB), ?_⟩, h.bel.trans (((Below.refl base W).alloc hle _).trans ((Below.refl base (W.alloc o)).grown hg (by rw [World.size_alloc]; omega) (fun k hk => (hq.2.lt k hk).1))), by omega⟩
  have e1 : xcells (q ++ [x]) = xcells q ++ xcell x := by rw [xcells_app]; simp [xcells]
  rw [e1, List.length_append]
  exact ho
theorem info_expr : (Tryz.prog.info? 30).map (fun i => (i.zero, i.size, i.bytes)) = some (some (XV ⟨0, 0, 0, 0, ⟨#[]⟩, ⟨#[]⟩, ⟨#[]⟩⟩ none 0 0), 8, 104) := by kernel_rfl
theorem infoE_parts {t : TypeId} {z : Value} {n b : Nat} (h : (Tryz.prog.info? t).map (fun i => (i.zero, i.size, i.bytes)) = some (some z, n, b)) :
    ∃ i, Tryz.prog.info? t = some i ∧ i.zero = some z ∧ i.size = n ∧ i.bytes = b := by
  cases hi : Tryz.prog.info? t with
  | none => rw [hi] at h; cases h
  | some i => rw [hi] at h; simp at h; exact ⟨i, rfl, h.1, h.2.1, h.2.2⟩
end Go.Proofs.YtpokpiphnggfpaaGreatDoor
end
section
namespace Go.Proofs.YtpokpiphnggfpaaGreatDoor
open Go.RowKit Go.Shelf

/-! A box of eight cells. -/
abbrev set8 (W : World) (U : Nat) (b0 b1 b2 b3 b4 b5 b6 b7 : Value) : World := ((((((((W.setCell ⟨U, 0, none⟩ b0).setCell ⟨U, 1, none⟩ b1).setCell ⟨U, 2, none⟩ b2).setCell ⟨U, 3, none⟩ b3).setCell ⟨U, 4, none⟩ b4).setCell ⟨U, 5, none⟩ b5).setCell ⟨U, 6, none⟩ b6).setCell ⟨U, 7, none⟩ b7)
theorem setc_box {W : World} {U : Nat} {cs : Array Value} {T : TypeId} {f : Nat × Nat} (h : W.heap[U]? = some (.cells cs T f)) (j : Nat) (b : Value) :
    (W.setCell ⟨U, j, none⟩ b).heap[U]? = some (.cells (cs.setIfInBounds j b) T f) := by
  simp only [World.setCell, Array.getElem?_modify, if_true, h]
  rfl
theorem set8_box {W : World} {U : Nat} {a0 a1 a2 a3 a4 a5 a6 a7 : Value} {T : TypeId} (h : W.heap[U]? = some (.cells #[a0, a1, a2, a3, a4, a5, a6, a7] T (0, 0))) (b0 b1 b2 b3 b4 b5 b6 b7 : Value) :
    (set8 W U b0 b1 b2 b3 b4 b5 b6 b7).heap[U]? = some (.cells #[b0, b1, b2, b3, b4, b5, b6, b7] T (0, 0)) := by
  refine ((setc_box (setc_box (setc_box (setc_box (setc_box (setc_box (setc_box (setc_box h 0 b0) 1 b1) 2 b2) 3 b3) 4 b4) 5 b5) 6 b6) 7 b7)).trans ?_
  simp
theorem set8_other {W : World} {U k : Nat} (hk : k ≠ U) (b0 b1 b2 b3 b4 b5 b6 b7 : Value) : (set8 W U b0 b1 b2 b3 b4 b5 b6 b7).heap[k]? = W.heap[k]? := by
  simp only [set8, World.setCell, Array.getElem?_modify]
  simp [Ne.symm hk]
theorem set8_size (W : World) (U : Nat) (b0 b1 b2 b3 b4 b5 b6 b7 : Value) : (set8 W U b0 b1 b2 b3 b4 b5 b6 b7).heap.size = W.heap.size := by simp [set8, World.setCell]
theorem set8_below {B U : Nat} {w W : World} (h : Below B w W) (hU : B ≤ U) (b0 b1 b2 b3 b4 b5 b6 b7 : Value) : Below B w (set8 W U b0 b1 b2 b3 b4 b5 b6 b7) :=
  ((((((((h.setCell (p := ⟨U, 0, none⟩) hU b0).setCell (p := ⟨U, 1, none⟩) hU b1).setCell (p := ⟨U, 2, none⟩) hU b2).setCell (p := ⟨U, 3, none⟩) hU b3).setCell (p := ⟨U, 4, none⟩) hU b4).setCell (p := ⟨U, 5, none⟩) hU b5).setCell (p := ⟨U, 6, none⟩) hU b6).setCell (p := ⟨U, 7, none⟩) hU b7)
theorem cell8 {w : World} {U : Nat} {b0 b1 b2 b3 b4 b5 b6 b7 : Value} {T : TypeId} (e : w.heap[U]? = some (.cells #[b0, b1, b2, b3, b4, b5, b6, b7] T (0, 0))) :
    (w.cell? ⟨U, 0, none⟩ = some b0 ∧ w.cell? ⟨U, 1, none⟩ = some b1 ∧ w.cell? ⟨U, 2, none⟩ = some b2 ∧ w.cell? ⟨U, 3, none⟩ = some b3 ∧ w.cell? ⟨U, 4, none⟩ = some b4 ∧ w.cell? ⟨U, 5, none⟩ = some b5 ∧ w.cell? ⟨U, 6, none⟩ = some b6 ∧ w.cell? ⟨U, 7, none⟩ = some b7) ∧
    w.frozen? ⟨U, 0, none⟩ = false ∧ w.frozen? ⟨U, 1, none⟩ = false ∧ w.frozen? ⟨U, 2, none⟩ = false ∧ w.frozen? ⟨U, 3, none⟩ = false ∧ w.frozen? ⟨U, 4, none⟩ = false ∧ w.frozen? ⟨U, 5, none⟩ = false ∧ w.frozen? ⟨U, 6, none⟩ = false ∧ w.frozen? ⟨U, 7, none⟩ = false :=
  ⟨⟨by simp only [World.cell?, e]; rfl, by simp only [World.cell?, e]; rfl, by simp only [World.cell?, e]; rfl, by simp only [World.cell?, e]; rfl, by simp only [World.cell?, e]; rfl, by simp only [World.cell?, e]; rfl, by simp only [World.cell?, e]; rfl, by simp only [World.cell?, e]; rfl⟩,
    by simp only [World.frozen?, e]; rfl, by simp only [World.frozen?, e]; rfl, by simp only [World.frozen?, e]; rfl, by simp only [World.frozen?, e]; rfl, by simp only [World.frozen?, e]; rfl, by simp only [World.frozen?, e]; rfl, by simp only [World.frozen?, e]; rfl, by simp only [World.frozen?, e]; rfl⟩
theorem set7_box {W : World} {U : Nat} {a0 a1 a2 a3 a4 a5 a6 a7 : Value} {T : TypeId} (h : W.heap[U]? = some (.cells #[a0, a1, a2, a3, a4, a5, a6, a7] T (0, 0))) (b : Value) :
    (W.setCell ⟨U, 7, none⟩ b).heap[U]? = some (.cells #[a0, a1, a2, a3, a4, a5, a6, b] T (0, 0)) := by
  simp only [World.setCell, Array.getElem?_modify, if_true, h]
  rfl
theorem setc_other {W : World} {U k j : Nat} (hk : k ≠ U) (b : Value) : (W.setCell ⟨U, j, none⟩ b).heap[k]? = W.heap[k]? := by
  simp only [World.setCell, Array.getElem?_modify]
  simp [Ne.symm hk]
theorem setc_size (W : World) (p : Addr) (b : Value) : (W.setCell p b).heap.size = W.heap.size := by simp [World.setCell]

theorem xnews (wr : World) (q : XQ) (t : TypeId) (j : Nat) (u : Value) (h : (xcell q)[j]? = some u) : (wr.alloc (.cells (xcell q).toArray t)).cell? ((⟨wr.heap.size, 0, none⟩ : Addr).add j) = some u := by
  have e2 : (⟨wr.heap.size, 0, none⟩ : Addr).add j = ⟨wr.heap.size, j, none⟩ := by simp only [Addr.add]; split <;> simp_all
  have hn := (MapKept.heap_alloc wr (.cells (xcell q).toArray t)).1
  rw [e2]
  unfold World.cell?
  rw [hn]
  simp [h]
/-- What copyAll and copyOf hand back. -/
def CopyL (w : World) (l : List Ex) (e : Ending) (w' : World) : Prop :=
  ∃ A cap, e = .returned (.slice A l.length cap) ∧ l.length ≤ cap ∧ XsB (Bn w.heap.size w') w' l A ∧ Below w.heap.size w w'
def CopyE (w : World) (x : Ex) (e : Ending) (w' : World) : Prop :=
  ∃ A cap, e = .returned (XV x.hd A x.kids.length cap) ∧ x.kids.length ≤ cap ∧ XsB (Bn w.heap.size w') w' x.kids A ∧ Below w.heap.size w w'
abbrev x0 : Obj := .cells #[.int .i64 0, .int .i64 0, .int .i64 0, .int .i64 0, .string ⟨#[]⟩, .string ⟨#[]⟩, .string ⟨#[]⟩, .slice none 0 0] 30
end Go.Proofs.YtpokpiphnggfpaaGreatDoor
end
section
namespace Go.Proofs.YtpokpiphnggfpaaGreatDoor
open Go.RowKit Go.Shelf

mutual
/-- How many expressions stand in one, in a list. -/
def cnt : Ex → Nat
  | .mk _ l => 1 + cntL l
def cntL : List Ex → Nat
  | [] => 0
  | x :: r => cnt x + cntL r
end
theorem cnt_mk (h : Hd) (l : List Ex) : cnt (.mk h l) = 1 + cntL l := by rw [cnt]
theorem cnt_pos (x : Ex) : 1 ≤ cnt x := by cases x; rw [cnt]; omega
theorem cntL_len : ∀ l : List Ex, l.length ≤ cntL l
  | [] => by simp
  | x :: r => by have := cntL_len r; have := cnt_pos x; rw [cntL, List.length_cons]; omega
theorem cntL_mem : ∀ {l : List Ex} {i : Nat} {x : Ex}, l[i]? = some x → cnt x ≤ cntL l
  | [], i, x, h => by simp at h
  | y :: r, 0, x, h => by
    obtain rfl : y = x := by simpa using h
    rw [cntL]; omega
  | y :: r, i + 1, x, h => by
    have := cntL_mem (l := r) (i := i) (x := x) (by simpa using h)
    rw [cntL]; omega

/-! Made. -/
abbrev hdL (k n : Int) (s : ByteArray) : Hd := ⟨1, 0, k, n, s, ⟨#[]⟩, ⟨#[]⟩⟩
abbrev hdC (t c : ByteArray) : Hd := ⟨2, 0, 0, 0, ⟨#[]⟩, t, c⟩
abbrev hdO (n : Int) : Hd := ⟨3, n, 0, 0, ⟨#[]⟩, ⟨#[]⟩, ⟨#[]⟩⟩
abbrev hdA (n : Int) : Hd := ⟨4, n, 0, 0, ⟨#[]⟩, ⟨#[]⟩, ⟨#[]⟩⟩
theorem refLit_any (k n : Int) (s : ByteArray) (w : World) :
    Calls Tryz.prog 22 #[VV k n s] w fun e w' => e = .returned (XV (hdL k n s) none 0 0) ∧ Below w.heap.size w w' := by
  go_enter Tryz.func22, Tryz.ntmps22
  go_wp2
  refine bodyPost_ret (v := XV (hdL k n s) none 0 0) (by simp [results, Tryz.results22, go_sem]) rfl ⟨rfl, ?_⟩
  exact ba2 w _ _
theorem refOp_any (n : Int) (A : Option Addr) (len cap : Nat) (w : World) :
    Calls Tryz.prog 23 #[.int .i64 n, .slice A len cap] w fun e w' => e = .returned (XV (hdO n) A len cap) ∧ Below w.heap.size w w' := by
  go_enter Tryz.func23, Tryz.ntmps23
  go_wp2
  refine bodyPost_ret (v := XV (hdO n) A len cap) (by simp [results, Tryz.results23, go_sem]) rfl ⟨rfl, ?_⟩
  exact ba w _
end Go.Proofs.YtpokpiphnggfpaaGreatDoor
end
