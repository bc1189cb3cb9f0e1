/-
  Lists of numbers, that came in or are of the call's own; the document's Same of a list and the like one.
-/
import Derived.Test.YthimgldohhaimaaQu7
import Derived.Deep.AppendLies
namespace Go.Proofs.Ythimgldohhaimaa
open Go.RowKit Go.Conc

/-- A slice's address, at which these numbers lie. -/
def IntsQ (w : World) (A : Option Addr) (l : List Int) : Prop :=
  l = [] ∨ ∃ b off : Nat, A = some ⟨b, off, none⟩ ∧ b < w.heap.size ∧ ∀ (i : Nat) (v : Int), l[i]? = some v → w.cell? ⟨b, off + i, none⟩ = some (.int .i64 v)
theorem IntsQ.kept {w w' : World} {A : Option Addr} {xs : List Int} (h : IntsQ w A xs) (hb : Below w.heap.size w w') : IntsQ w' A xs := by
  rcases h with h | ⟨b, off, hA, hlt, hc⟩
  · exact .inl h
  · exact .inr ⟨b, off, hA, Nat.lt_of_lt_of_le hlt hb.size, fun i v hv => (hb.cell (p := ⟨b, _, none⟩) hlt).trans (hc i v hv)⟩
theorem IntsQ.at {w : World} {A : Option Addr} {xs : List Int} (h : IntsQ w A xs) {i : Nat} (hi : i < xs.length) :
    ∃ b off : Nat, A = some ⟨b, off, none⟩ ∧ b < w.heap.size ∧ w.cell? ⟨b, off + i, none⟩ = some (.int .i64 xs[i]) := by
  rcases h with h | ⟨b, off, hA, hlt, hc⟩
  · subst h; simp at hi
  · exact ⟨b, off, hA, hlt, hc i _ (List.getElem?_eq_getElem hi)⟩
theorem ints_ofQ {w : World} {base n : Nat} {e : TypeId} {v : Value} {l : List Int} (h : w.ownsRow base e 1 v n (l.map (Value.int .i64))) : ∃ A c, v = .slice A l.length c ∧ IntsQ w A l := by
  have hl := h.1
  rw [List.length_map, Nat.mul_one] at hl
  rcases Nat.eq_zero_or_pos n with h0 | h0
  · have : l = [] := List.eq_nil_of_length_eq_zero (by omega)
    subst this
    rcases h.2 with ⟨hv, _⟩ | ⟨g, cap, cur, hv, _⟩
    · exact ⟨none, 0, hv, .inl rfl⟩
    · exact ⟨some ⟨g, 0, none⟩, cap, by rw [hv, h0]; rfl, .inl rfl⟩
  · obtain ⟨g, cap, hv, hb, hc⟩ := own_cell h h0
    refine ⟨some ⟨g, 0, none⟩, cap, by rw [hl]; exact hv, .inr ⟨g, 0, rfl, (h.lt g (by rw [hv]; rfl)).2, fun i v hi => ?_⟩⟩
    rw [Nat.zero_add]
    exact hc i _ (by rw [List.getElem?_map, hi]; rfl)
set_option maxRecDepth 100000 in
set_option maxHeartbeats 2000000 in
theorem same7_any (A A' : Option Addr) (L c c' : Nat) (rs : List Int) (w : World) (hL : rs.length = L) (h : IntsQ w A rs) (h' : IntsQ w A' rs) (hn : L ≤ 9223372036854775807) :
    Calls Try.prog 20 #[.slice A L c, .slice A' L c'] w fun e w' => e = .returned (.bool true) ∧ Below w.heap.size w w' := by
  subst hL
  have HR := Lib.hid h
  have HR' := Lib.hid h'
  clear h h'
  go_enter Try.func20, Try.ntmps20
  go_wp2_with fail
  go_loopw [5] (fun i wr => ∃ j : Nat, j ≤ rs.length ∧ i = .int .i64 j ∧ Hid (Below w.heap.size w wr)) (fun i _ => rs.length - (intOf i).toNat)
  case atStart => exact ⟨0, Nat.zero_le _, rfl, Lib.hid (Below.refl _ _)⟩
  case round =>
    obtain ⟨j, hj, rfl, HB⟩ := hrel
    by_cases hlt : j < rs.length
    · obtain ⟨b, off, rfl, _, c0⟩ := (HR.out.kept HB.out).at hlt
      obtain ⟨b', off', rfl, _, d0⟩ := (HR'.out.kept HB.out).at hlt
      generalize rs[j] = r at c0 d0
      have hi0 : (0 : Int) ≤ (j : Int) := Int.natCast_nonneg _
      have hi1 : (j : Int) < (rs.length : Int) := by omega
      go_wp2_with fail
      go_region
      all_goals
        have HB2 := Lib.hid (bt HB.out (Below.drew (Below.refl _ _)))
        go_wp2_with fail
        go_roundw
        case rel => exact ⟨j + 1, by omega, by go_num, HB2⟩
        case measure => simp [intOf]; omega
    · go_wp2_with fail
      go_ret
      exact ⟨rfl, HB.out⟩

/-- Two lists of the call's own, beside a queue. -/
structure TwoOwn (B : Nat) (w : World) (c : Nat) (vi vo : Value) (I O : List Int) : Prop where
  own1 : w.ownsRow B 3 1 vi I.length (I.map (Value.int .i64))
  own2 : w.ownsRow B 3 1 vo O.length (O.map (Value.int .i64))
  apart : ∀ k, vi.ownBlock = some k → vo.ownBlock ≠ some k
  aw1 : ∀ k, vi.ownBlock = some k → Away w c k
  aw2 : ∀ k, vo.ownBlock = some k → Away w c k
section
variable {B : Nat} {w w' : World} {q c : Nat} {Q : Qs} {vi vo : Value} {I O : List Int}
theorem TwoOwn.swap (h : TwoOwn B w c vi vo I O) : TwoOwn B w c vo vi O I := ⟨h.own2, h.own1, fun k h1 h2 => h.apart k h2 h1, h.aw2, h.aw1⟩
theorem TwoOwn.call (h : TwoOwn B w c vi vo I O) (hq : QatI B w q c Q) (ho : Only q c w w') (ha : ∀ k, k < w.heap.size → Away w c k → Away w' c k) : TwoOwn B w' c vi vo I O :=
  ⟨own_same h.own1 fun k hk => ho.block k (h.own1.lt k hk).2 (hq.own_ne h.own1 (by decide) hk).1 (hq.own_ne h.own1 (by decide) hk).2, own_same h.own2 fun k hk => ho.block k (h.own2.lt k hk).2 (hq.own_ne h.own2 (by decide) hk).1 (hq.own_ne h.own2 (by decide) hk).2, h.apart, fun k hk => ha k (h.own1.lt k hk).2 (h.aw1 k hk), fun k hk => ha k (h.own2.lt k hk).2 (h.aw2 k hk)⟩
theorem TwoOwn.below (h : TwoOwn B w c vi vo I O) (hq : QatI B w q c Q) (hb : Below w.heap.size w w') : TwoOwn B w' c vi vo I O :=
  h.call hq (Only.of_below hb) fun _ _ ha => ha.same (hb.block c hq.clt)
theorem QAt.away_new {TQ TE : TypeId} {B : Nat} {w : World} {q c : Nat} {Q : Qs} (h : QAt TQ TE B w q c Q) : Away w c w.heap.size := by
  obtain ⟨s, r, ps, hc, hx⟩ := h.chan
  refine Away.at hc (fun hm => ?_)
  simp only [bufQ, List.mem_toArray] at hm
  obtain ⟨p, hp, he⟩ := List.mem_map.1 hm
  obtain ⟨i, hi, rfl⟩ := List.getElem_of_mem hp
  have hl := hx.1
  have := block_ltQ (hx.2 i _ _ (List.getElem?_eq_getElem hi) (List.getElem?_eq_getElem (by omega)))
  have := ptrQ_inj he
  omega
/-- One number more in the first list. -/
theorem TwoOwn.app (h : TwoOwn B w c vi vo I O) (hq : QatI B w q c Q) {g cap n : Nat} {x : Int} (ho : w'.ownsRow B 3 1 (.slice (some ⟨g, 0, none⟩) n cap) n (I.map (Value.int .i64) ++ [.int .i64 x])) (hg : w.grownBy w' vi.ownBlock) (hgg : vi.ownBlock = some g ∨ g = w.heap.size) :
    TwoOwn B w' c (.slice (some ⟨g, 0, none⟩) n cap) vo (I ++ [x]) O ∧ QatI B w' q c Q := by
  have hk := hq.grown hg fun k hk => ⟨(hq.own_ne h.own1 (by decide) hk).1, (hq.own_ne h.own1 (by decide) hk).2, h.aw1 k hk⟩
  have hn : n = (I ++ [x]).length := by have := ho.1; simp at this ⊢; omega
  refine ⟨⟨?_, ?_, ?_, ?_, ?_⟩, hk.1⟩
  · rw [← hn, List.map_append]; exact ho
  · refine h.own2.kept hg ?_
    cases hv : vo.ownBlock with
    | none => exact .inl rfl
    | some k => exact .inr (fun e => h.apart k e.symm hv)
  · intro k hk
    simp [Value.ownBlock] at hk
    subst hk
    rcases hgg with h1 | h1
    · exact h.apart _ h1
    · intro e; have := (h.own2.lt _ e).2; omega
  · intro k hk2
    simp [Value.ownBlock] at hk2
    subst hk2
    rcases hgg with h1 | h1
    · exact hk.2 _ (h.aw1 _ h1)
    · rw [h1]; exact hk.2 _ hq.away_new
  · exact fun k hk2 => hk.2 _ (h.aw2 k hk2)
end
end Go.Proofs.Ythimgldohhaimaa
