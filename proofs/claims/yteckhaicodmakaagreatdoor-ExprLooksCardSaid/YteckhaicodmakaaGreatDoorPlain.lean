/-
  Plain words about values: which may be, their order, truths. Nothing of the program stands here.
-/
import Derived.WalkKit
import Derived.WalkSpells
import Derived.WalkLawsBesides
namespace Go.Proofs.YteckhaicodmakaaGreatDoor
open Go.RowKit

/-- A value as the program hands it about: its kind, its number, its text. -/
abbrev VV (k n : Int) (s : ByteArray) : Value := .agg #[.int .i64 k, .int .i64 n, .string s]

/-- May a value be? -/
def okV (k n : Int) (s : ByteArray) : Bool :=
  if k = 0 then n == 0 && s.toList.isEmpty
  else if k = 1 then (n == 0 || n == 1) && s.toList.isEmpty
  else if k = 2 then decide (-9007199254740991 ≤ n) && decide (n ≤ 9007199254740991) && s.toList.isEmpty
  else if k = 3 then n == 0 && decide (s.size ≤ 64)
  else false

/-- The order of ints, of texts, of values. -/
def cmpI (a b : Int) : Int := if a < b then -1 else if b < a then 1 else 0
def cmpS (a b : ByteArray) : Int := if Op.bytesLess a.toList b.toList then -1 else if a.toList == b.toList then 0 else 1
def cmpV (k n : Int) (s : ByteArray) (k' n' : Int) (s' : ByteArray) : Int :=
  if k = k' then (if n = n' then cmpS s s' else cmpI n n') else cmpI k k'

/-- Two values, held against each other; what is known of one; truths. -/
def eqV (k n : Int) (s : ByteArray) (k' n' : Int) (s' : ByteArray) : Bool := k == k' && n == n' && s.toList == s'.toList
def knownV (k n : Int) (s : ByteArray) : Bool := k != 0 && okV k n s
def equalV (k n : Int) (s : ByteArray) (k' n' : Int) (s' : ByteArray) : Int :=
  if knownV k n s && knownV k' n' s' then (if eqV k n s k' n' s' then 1 else 0) else 2
def lessV (k n : Int) (s : ByteArray) (k' n' : Int) (s' : ByteArray) : Int :=
  if knownV k n s && knownV k' n' s' then (if k = k' ∧ cmpV k n s k' n' s' < 0 then 1 else 0) else 2
def truthV (k n : Int) (s : ByteArray) : Int := if k = 1 ∧ okV k n s = true then n else 2

theorem bcell {W w1 : World} (hb : Below W.heap.size W w1) : (∀ b o, b < W.heap.size → w1.cell? ⟨b, o, none⟩ = W.cell? ⟨b, o, none⟩) ∧ (∀ b o, b < W.heap.size → w1.frozen? ⟨b, o, none⟩ = W.frozen? ⟨b, o, none⟩) :=
  ⟨fun b o h => hb.cell (p := ⟨b, o, none⟩) h, fun b o h => hb.frozen (p := ⟨b, o, none⟩) h⟩
theorem bt {w w1 w2 : World} (h1 : Below w.heap.size w w1) (h2 : Below w1.heap.size w1 w2) : Below w.heap.size w w2 := h1.trans (h2.mono h1.size)
theorem ba (w : World) (o : Obj) : Below w.heap.size w (w.alloc o) := (Below.refl _ _).alloc (Nat.le_refl _) _
theorem ba2 (w : World) (o1 o2 : Obj) : Below w.heap.size w ((w.alloc o1).alloc o2) := bt (ba _ _) (ba _ _)

/-- What lies in one box, in two boxes, behind calls that turn nothing of theirs. -/
theorem box1 {w w1 : World} {a0 a1 a2 : Value} {T : TypeId} (hb : Below (w.alloc (.cells #[a0, a1, a2] T)).heap.size (w.alloc (.cells #[a0, a1, a2] T)) w1) :
    w1.cell? ⟨w.heap.size, 0, none⟩ = some a0 ∧ w1.cell? ⟨w.heap.size, 1, none⟩ = some a1 ∧ w1.cell? ⟨w.heap.size, 2, none⟩ = some a2 :=
  ⟨(hb.cell (p := ⟨w.heap.size, 0, none⟩) (by simp)).trans (by simp), (hb.cell (p := ⟨w.heap.size, 1, none⟩) (by simp)).trans (by simp), (hb.cell (p := ⟨w.heap.size, 2, none⟩) (by simp)).trans (by simp)⟩
theorem box2 {w w1 : World} {a0 a1 a2 b0 b1 b2 : Value} {T T' : TypeId} (hb : Below ((w.alloc (.cells #[a0, a1, a2] T)).alloc (.cells #[b0, b1, b2] T')).heap.size ((w.alloc (.cells #[a0, a1, a2] T)).alloc (.cells #[b0, b1, b2] T')) w1) :
    w1.cell? ⟨w.heap.size, 0, none⟩ = some a0 ∧ w1.cell? ⟨w.heap.size, 1, none⟩ = some a1 ∧ w1.cell? ⟨w.heap.size, 2, none⟩ = some a2 ∧
    w1.cell? ⟨w.heap.size + 1, 0, none⟩ = some b0 ∧ w1.cell? ⟨w.heap.size + 1, 1, none⟩ = some b1 ∧ w1.cell? ⟨w.heap.size + 1, 2, none⟩ = some b2 := by
  obtain ⟨c0, c1, c2⟩ := box1 (bt (ba (w.alloc (.cells #[a0, a1, a2] T)) (.cells #[b0, b1, b2] T')) hb)
  obtain ⟨d0, d1, d2⟩ := box1 (w := w.alloc (.cells #[a0, a1, a2] T)) hb
  simp only [World.size_alloc] at d0 d1 d2
  exact ⟨c0, c1, c2, d0, d1, d2⟩
theorem box3 {w w1 : World} {a0 a1 a2 b0 b1 b2 c0 c1 c2 : Value} {T T' T'' : TypeId} (hb : Below (((w.alloc (.cells #[a0, a1, a2] T)).alloc (.cells #[b0, b1, b2] T')).alloc (.cells #[c0, c1, c2] T'')).heap.size (((w.alloc (.cells #[a0, a1, a2] T)).alloc (.cells #[b0, b1, b2] T')).alloc (.cells #[c0, c1, c2] T'')) w1) :
    w1.cell? ⟨w.heap.size, 0, none⟩ = some a0 ∧ w1.cell? ⟨w.heap.size, 1, none⟩ = some a1 ∧ w1.cell? ⟨w.heap.size, 2, none⟩ = some a2 ∧
    w1.cell? ⟨w.heap.size + 1, 0, none⟩ = some b0 ∧ w1.cell? ⟨w.heap.size + 1, 1, none⟩ = some b1 ∧ w1.cell? ⟨w.heap.size + 1, 2, none⟩ = some b2 ∧
    w1.cell? ⟨w.heap.size + 1 + 1, 0, none⟩ = some c0 ∧ w1.cell? ⟨w.heap.size + 1 + 1, 1, none⟩ = some c1 ∧ w1.cell? ⟨w.heap.size + 1 + 1, 2, none⟩ = some c2 := by
  obtain ⟨x0, x1, x2, y0, y1, y2⟩ := box2 (bt (ba ((w.alloc (.cells #[a0, a1, a2] T)).alloc (.cells #[b0, b1, b2] T')) (.cells #[c0, c1, c2] T'')) hb)
  obtain ⟨d0, d1, d2⟩ := box1 (w := (w.alloc (.cells #[a0, a1, a2] T)).alloc (.cells #[b0, b1, b2] T')) hb
  simp only [World.size_alloc] at d0 d1 d2
  exact ⟨x0, x1, x2, y0, y1, y2, d0, d1, d2⟩
theorem ret_bool {a b : Bool} (h : a = b) : Ending.returned (.bool a) = .returned (.bool b) := by rw [h]
theorem ret_int {k : IntKind} {a b : Int} (h : a = b) : Ending.returned (.int k a) = .returned (.int k b) := by rw [h]

end Go.Proofs.YteckhaicodmakaaGreatDoor
