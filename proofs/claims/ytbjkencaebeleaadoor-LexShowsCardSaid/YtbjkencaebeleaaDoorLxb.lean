/-
  All: the tokens of a text.
-/
import Derived.Test.YtbjkencaebeleaaDoorLxa
namespace Go.Proofs.YtbjkencaebeleaaDoor
open Go.RowKit Go.Shelf

theorem info_tok : (Tryd.prog.info? 32).map (fun i => (i.zero, i.size, i.bytes)) = some (some (.agg #[.int .i64 0, .string ⟨#[]⟩, .int .i64 0, .int .i64 0]), 4, 40) := by kernel_rfl
abbrev TkA := Lx.Tok × Nat
def tkc (x : TkA) : List Value := [.int .i64 (x.1.k : Int), .string ⟨x.1.s.toArray⟩, .int .i64 (x.1.n : Int), .int .i64 (x.2 : Int)]
def tks (l : List TkA) : List Value := l.flatMap tkc
theorem tks_len (l : List TkA) : (tks l).length = l.length * 4 := by
  induction l with
  | nil => rfl
  | cons v l ih => show (tkc v ++ tks l).length = _; rw [List.length_append, ih]; simp [tkc]; omega
theorem tks_app (l r : List TkA) : tks (l ++ r) = tks l ++ tks r := by simp [tks]
theorem tks_one (l : List TkA) : ∀ u ∈ tks l, u.oneCell' = true := by
  intro u hu
  obtain ⟨v, _, hv⟩ := List.mem_flatMap.1 hu
  simp [tkc] at hv
  rcases hv with rfl | rfl | rfl | rfl <;> rfl
/-- Tokens of the call's own. -/
structure Told (base : Nat) (W1 W : World) (v : Value) (l : List TkA) : Prop where
  own : W.ownsRow base 32 4 v l.length (tks l)
  bel : Below base W1 W
  le : base ≤ W.heap.size
theorem Told.slice {base : Nat} {W1 W : World} {v : Value} {l : List TkA} (h : Told base W1 W v l) : ∃ A cap, v = .slice A l.length cap := by
  rcases h.own.2 with ⟨rfl, h0⟩ | ⟨g, cap, cur, hv, _⟩
  · rw [h0]; exact ⟨none, 0, rfl⟩
  · exact ⟨_, cap, hv⟩
theorem Told.below {base : Nat} {W1 W W' : World} {v : Value} {l : List TkA} (h : Told base W1 W v l) (hb : Below W.heap.size W W') : Told base W1 W' v l := by
  refine ⟨?_, h.bel.trans (hb.mono h.le), Nat.le_trans h.le hb.size⟩
  rcases h.own.2 with hn | ⟨g, cap, cur, hv, hb1, hg, hc, hm, hsz, ht⟩
  · exact ⟨h.own.1, .inl hn⟩
  · exact ⟨h.own.1, .inr ⟨g, cap, cur, hv, hb1, (hb.block g (by
      rcases Nat.lt_or_ge g W.heap.size with h | h
      · exact h
      · rw [Array.getElem?_eq_none h] at hg; cases hg)).trans hg, hc, hm, hsz, ht⟩⟩
theorem Told.grow {base : Nat} {W1 W : World} {v : Value} {l : List TkA} (h : Told base W1 W v l) (x : TkA) {o : Obj} {v' : Value} {w' : World} (ho : w'.ownsRow base 32 4 v' (l.length + 1) (tks l ++ tkc x)) (hg : (W.alloc o).grownBy w' v.ownBlock) : Told base W1 w' v' (l ++ [x]) := by
  have hle := h.le
  have hs := hg.size
  rw [World.size_alloc] at hs
  refine ⟨by rw [tks_app, List.length_append]; simpa [tks] using ho, h.bel.trans (((Below.refl base W).alloc hle _).trans ((Below.refl base (W.alloc o)).grown hg (by rw [World.size_alloc]; omega) (fun k hk => ?_))), by omega⟩
  exact (h.own.lt k hk).1

def Lx.pre (ts : List TkA) : Lx.Res → Lx.Res
  | .ok us n => .ok (ts ++ us) n
  | .bad n e => .bad n e
/-- All's answer. -/
def AllV (base : Nat) (w' : World) (r : Lx.Res) (v : Value) : Prop :=
  match r with
  | .ok ts n => ∃ l, v = .tuple #[l, .int .i64 n, .int .i64 0] ∧ w'.ownsRow base 32 4 l ts.length (tks ts)
  | .bad n e => v = .tuple #[.slice none 0 0, .int .i64 n, .int .i64 e]
theorem ba_eq {b : ByteArray} {l : Lx.B} (h : bs b = l) : b = ⟨l.toArray⟩ := by
  subst h; apply ByteArray.ext; simp [bs]
theorem lx_none {f : Nat} {l : Lx.B} {c a : Nat} (h : Lx.cut (l.drop (Lx.sk false l)) = none) : Lx.lx (f + 1) l c a = .bad (a + Lx.sk false l) 90 := by rw [Lx.lx, h]
theorem lx_long {f : Nat} {l : Lx.B} {a : Nat} {t : Lx.Tok} {z : Nat} (h : Lx.cut (l.drop (Lx.sk false l)) = some (t, z)) : Lx.lx (f + 1) l 4096 a = .bad (a + Lx.sk false l) 3 := by
  rw [Lx.lx, h]; simp
theorem lx_fin {f : Nat} {l : Lx.B} {c a : Nat} {t : Lx.Tok} {z : Nat} (h : Lx.cut (l.drop (Lx.sk false l)) = some (t, z)) (hc : c ≠ 4096) (hk : t.k = 6) : Lx.lx (f + 1) l c a = .ok [(t, a + Lx.sk false l)] (a + Lx.sk false l) := by
  rw [Lx.lx, h]; simp only; rw [if_neg hc, if_pos hk]
theorem lx_more {f : Nat} {l : Lx.B} {c a : Nat} {t : Lx.Tok} {z : Nat} (h : Lx.cut (l.drop (Lx.sk false l)) = some (t, z)) (hc : c ≠ 4096) (hk : t.k ≠ 6) (ts : List TkA) :
    Lx.pre ts (Lx.lx (f + 1) l c a) = Lx.pre (ts ++ [(t, a + Lx.sk false l)]) (Lx.lx f ((l.drop (Lx.sk false l)).drop z) (c + 1) (a + Lx.sk false l + z)) := by
  rw [Lx.lx, h]; simp only; rw [if_neg hc, if_neg hk]
  cases Lx.lx f ((l.drop (Lx.sk false l)).drop z) (c + 1) (a + Lx.sk false l + z) <;> simp [Lx.pre]
theorem cut_kind {l : Lx.B} {t : Lx.Tok} {z : Nat} (h : Lx.cut l = some (t, z)) : t.k ≠ 0 ∧ (t.k ≠ 6 → 0 < z) := by
  by_cases hl : l = []
  · subst hl
    simp only [Lx.cut, Option.some.injEq, Prod.mk.injEq] at h
    obtain ⟨rfl, rfl⟩ := h
    exact ⟨by simp, fun h => absurd rfl h⟩
  · obtain ⟨h1, h2, _⟩ := Lx.cut_inv hl h
    obtain ⟨x, w', hw, _, _⟩ := Lx.tok_ne h2
    refine ⟨(Lx.tok_k h2).2, fun _ => ?_⟩
    rcases Nat.eq_zero_or_pos z with h0 | h0
    · subst h0; simp at hw
    · exact h0
end Go.Proofs.YtbjkencaebeleaaDoor
