/-
  The walk of QueueTexts.
-/
import Derived.Test.YthimgldohhaimaaQuOpen
import Derived.Laws.AppendOwnNone
namespace Go.Proofs.Ythimgldohhaimaa
open Go.RowKit Go.Conc

theorem strs_ofQ {w : World} {base n : Nat} {e : TypeId} {v : Value} {l : List ByteArray} (h : w.ownsRow base e 1 v n (l.map Value.string)) : ∃ A c, v = .slice A l.length c ∧ StrsQ w A l := by
  have hl := h.1
  rw [List.length_map, Nat.mul_one] at hl
  rcases Nat.eq_zero_or_pos n with h0 | h0
  · have : l = [] := List.eq_nil_of_length_eq_zero (by omega)
    subst this
    rcases h.2 with ⟨hv, _⟩ | ⟨g, cap, cur, hv, _⟩
    · exact ⟨none, 0, hv, .inl rfl⟩
    · exact ⟨some ⟨g, 0, none⟩, cap, by rw [hv, h0]; rfl, .inl rfl⟩
  · obtain ⟨g, cap, hv, hb, hc⟩ := own_cell h h0
    refine ⟨some ⟨g, 0, none⟩, cap, by rw [hl]; exact hv, .inr ⟨g, 0, rfl, (h.lt g (by rw [hv]; rfl)).2, fun i v hi => ?_⟩⟩
    rw [Nat.zero_add]
    exact hc i _ (by rw [List.getElem?_map, hi]; rfl)
theorem qt_new (n : Int) (h0 : 1 ≤ n) (h1 : n ≤ 1024) (w : World) : Calls Try.prog 22 #[.int .i64 n] w fun e w' => (∃ q c, e = .returned (.tuple #[.pointer (some ⟨q, 0, none⟩), .int .i64 0]) ∧ QatS w.heap.size w' q c ⟨n.toNat, [], false⟩) ∧ Below w.heap.size w w' := by
  refine (newS_any n w).mono ?_
  rintro e w' ⟨hb, h⟩
  rw [if_pos ⟨h0, h1⟩] at h
  exact ⟨h, hb⟩
/-- Two queues of texts. -/
structure TwoQ (B : Nat) (w : World) (q c p d : Nat) (cap : Nat) (X Y : List ByteArray) : Prop where
  a : QatS B w q c ⟨100, X.map Value.string, false⟩
  b : QatS B w p d ⟨cap, Y.map Value.string, false⟩
  ne : q ≠ p ∧ c ≠ d
theorem TwoQ.kept {B : Nat} {w w' : World} {q c p d cap : Nat} {X Y : List ByteArray} (h : TwoQ B w q c p d cap X Y) (hb : Below w.heap.size w w') : TwoQ B w' q c p d cap X Y := ⟨h.a.kept hb, h.b.kept hb, h.ne⟩
theorem TwoQ.start {w w1 w2 : World} {q c p d cap : Nat} (ha : QatS w.heap.size w1 q c ⟨(100 : Int).toNat, [], false⟩) (hb : Below w1.heap.size w1 w2) (h : QatS w1.heap.size w2 p d ⟨cap, [], false⟩) (h1 : w.heap.size ≤ w1.heap.size) : TwoQ w.heap.size w2 q c p d cap [] [] := by
  have hq := block_ltQ ha.box
  have hc := ha.clt
  have hl := h.lo
  refine ⟨ha.kept hb, ⟨h.box, h.chan, ⟨by omega, by omega⟩, h.room, h.most⟩, by omega, by omega⟩
theorem tq_put {B : Nat} {w : World} {q c p d cap : Nat} {X Y : List ByteArray} (h : TwoQ B w q c p d cap X Y) (x : ByteArray) (hl : X.length < 100) :
    Calls Try.prog 23 #[.pointer (some ⟨q, 0, none⟩), .string x] w fun e w' => e = .returned (.bool true) ∧ TwoQ B w' q c p d cap (X ++ [x]) Y ∧ Below B w w' := by
  refine (putS_room x h.a (by rw [List.length_map]; exact hl)).mono ?_
  rintro e w' ⟨rfl, hq, ho, _⟩
  refine ⟨rfl, ⟨by rw [List.map_append]; exact hq, h.b.other h.a ho (Ne.symm h.ne.1) (Ne.symm h.ne.2), h.ne⟩, ho.below h.a.lo.1 h.a.lo.2 h.a.lt⟩
/-- What holds from round to round: what has come, what waits. -/
structure TxR (B U : Nat) (w : World) (q c p d cap : Nat) (xs : List ByteArray) (v : Value) (t : Nat) : Prop where
  two : TwoQ B w q c p d cap (xs.drop t) []
  low : LowB U w c
  own : w.ownsRow U 9 1 v t ((xs.take t).map Value.string)
  lt : q < U ∧ c < U ∧ p < U ∧ d < U
  sz : U ≤ w.heap.size ∧ B ≤ U
def mvT (xs : List ByteArray) (cap t : Nat) (piece : Int) : Nat := mvK (xs.length - t) cap piece
/-- Behind Move. -/
structure TxM (B U : Nat) (w : World) (q c p d cap : Nat) (xs : List ByteArray) (v : Value) (t k : Nat) : Prop where
  two : TwoQ B w q c p d cap (xs.drop (t + k)) ((xs.drop t).take k)
  low : LowB U w c
  own : w.ownsRow U 9 1 v t ((xs.take t).map Value.string)
  lt : q < U ∧ c < U ∧ p < U ∧ d < U
  sz : U ≤ w.heap.size ∧ B ≤ U
section
variable {B U : Nat} {w : World} {q c p d cap t : Nat} {xs : List ByteArray} {v : Value}
theorem tx_move (h : TxR B U w q c p d cap xs v t) (piece : Int) :
    Calls Try.prog 24 #[.pointer (some ⟨q, 0, none⟩), .pointer (some ⟨p, 0, none⟩), .int .i64 piece] w fun e w' => ∃ k : Nat, k = mvT xs cap t piece ∧ e = .returned (.int .i64 k) ∧ TxM B U w' q c p d cap xs v t k ∧ Below B w w' := by
  refine (moveS_any (xs.drop t) [] false false piece h.two.a h.two.b h.two.ne.1 h.two.ne.2).mono ?_
  rintro e w' ⟨k, hk, rfl, ha, hb, ho⟩
  refine ⟨k, ?_, rfl, ⟨⟨?_, by simpa using hb, h.two.ne⟩, ho.low U h.low, ?_, h.lt, ?_⟩, ho.only.below h.two.a.lo.1 h.two.a.lo.2 h.two.b.lo.1 h.two.b.lo.2 h.two.a.lt⟩
  · rw [hk]; simp [mvT, roomN]
  · rw [List.drop_drop] at ha; exact ha
  · refine own_same h.own fun i hi => ho.only.block i (h.own.lt i hi).2 ?_ ?_ ?_ ?_
    all_goals (have := (h.own.lt i hi).1; have := h.lt; omega)
  · have := ho.only.size; have := h.sz; omega
theorem tx_all {k : Nat} (h : TxM B U w q c p d cap xs v t k) :
    Calls Try.prog 25 #[.pointer (some ⟨p, 0, none⟩)] w fun e w' => ∃ u, e = .returned u ∧ w'.ownsRow U 9 1 u ((xs.drop t).take k).length (((xs.drop t).take k).map Value.string) ∧ (((xs.drop t).take k) = [] → u = .slice none 0 0) ∧ TwoQ B w' q c p d cap (xs.drop (t + k)) [] ∧ LowB U w' c ∧ w'.ownsRow U 9 1 v t ((xs.take t).map Value.string) ∧ (∀ i, u.ownBlock = some i → v.ownBlock ≠ some i) ∧ U ≤ w'.heap.size ∧ Below B w w' := by
  refine (allS_any _ h.two.b).mono ?_
  rintro e w' ⟨u, rfl, hu, hq, ho, hn⟩
  have hs := h.sz
  have hw := ho.size
  have ho1 := own_same h.own (w' := w') fun i hi => ho.block i (h.own.lt i hi).2 (by have := (h.own.lt i hi).1; have := h.lt; omega) (by have := (h.own.lt i hi).1; have := h.lt; omega)
  refine ⟨u, rfl, ⟨hu.1, ?_⟩, hn, ⟨h.two.a.other h.two.b ho h.two.ne.1 h.two.ne.2, hq, h.two.ne⟩, h.low.same (ho.block c h.two.a.clt (h.two.a.cross h.two.b).1 h.two.ne.2), ho1, ?_, by omega, ho.below h.two.b.lo.1 h.two.b.lo.2 h.two.b.lt⟩
  · rcases hu.2 with h1 | ⟨g, cp, cur, h1, h2, h3⟩
    · exact .inl h1
    · exact .inr ⟨g, cp, cur, h1, by omega, h3⟩
  · intro i hi hv
    have := (hu.lt i hi).1
    have := (h.own.lt i hv).2
    omega
/-- Behind the append. -/
theorem TxR.app {w w' : World} {k : Nat} {u v' : Value} (h2 : TwoQ B w q c p d cap (xs.drop (t + k)) []) (hl : LowB U w c) (hown : w.ownsRow U 9 1 v t ((xs.take t).map Value.string)) (hlt : q < U ∧ c < U ∧ p < U ∧ d < U) (hsz : U ≤ w.heap.size ∧ B ≤ U)
    (ho : w'.ownsRow U 9 1 v' (t + k) ((xs.take t).map Value.string ++ ((xs.drop t).take k).map Value.string)) (hg : w.grownBy w' v.ownBlock) : TxR B U w' q c p d cap xs v' (t + k) ∧ Below B w w' := by
  have _u : True := (fun _ => trivial) u
  have hbU : Below U w w' := (Below.refl U w).grown hg hsz.1 (fun i hi => (hown.lt i hi).1)
  have ha := h2.a.low_kept hl hlt.1 hlt.2.1 hbU
  have hb := h2.b.grown hg fun i hi => ⟨by have := (hown.lt i hi).1; omega, by have := (hown.lt i hi).1; omega, h2.b.away_nil i⟩
  have hs := hg.size
  refine ⟨⟨⟨ha.1, hb.1, h2.ne⟩, ha.2, ?_, hlt, ⟨by omega, hsz.2⟩⟩, hbU.mono hsz.2⟩
  rw [List.take_add, List.map_append]
  exact ho
end
end Go.Proofs.Ythimgldohhaimaa
