/-
  Which expressions fit, but for their parts.
-/
import Derived.Test.YtfjimoccliejdaaGreatDoorE1
import Derived.Deep.RegionHeld3
import Derived.OwnWalk
import Derived.Laws.AppendOwn
import Derived.Lib.Hide
import Derived.Maps.AppendAt
import Derived.Test.YtfjimoccliejdaaGreatDoorProg
import Derived.Laws.StructEq
import Derived.Deep.QuietTactic
import Derived.BigQuiet
section
namespace Go.Proofs.YtfjimoccliejdaaGreatDoor
open Go.RowKit Go.Shelf

theorem info_tok : (Tryz.prog.info? 66).map (fun i => (i.zero, i.size, i.bytes)) = some (some (.agg #[.int .i64 0, .string ⟨#[]⟩, .int .i64 0, .int .i64 0]), 4, 40) := by kernel_rfl
abbrev TkA := Lx.Tok × Nat
def tkc (x : TkA) : List Value := [.int .i64 (x.1.k : Int), .string ⟨x.1.s.toArray⟩, .int .i64 (x.1.n : Int), .int .i64 (x.2 : Int)]
def tks (l : List TkA) : List Value := l.flatMap tkc
theorem tks_len (l : List TkA) : (tks l).length = l.length * 4 := by
 induction l with
 | nil => rfl
 | cons v l ih => show (tkc v ++ tks l).length = _; rw [List.length_append, ih]; simp [tkc]; omega
theorem tks_app (l r : List TkA) : tks (l ++ r) = tks l ++ tks r := by simp [tks]
structure Told (base : Nat) (W1 W : World) (v : Value) (l : List TkA) : Prop where
 own : W.ownsRow base 66 4 v l.length (tks l)
 bel : Below base W1 W
 le : base ≤ W.heap.size
theorem Told.slice {base : Nat} {W1 W : World} {v : Value} {l : List TkA} (h : Told base W1 W v l) : ∃ A cap, v = .slice A l.length cap := by
 rcases h.own.2 with ⟨rfl, h0⟩ | ⟨g, cap, cur, hv, _⟩
 ·rw [h0]; exact ⟨none, 0, rfl⟩
 ·exact ⟨_, cap, hv⟩
theorem Told.below {base : Nat} {W1 W W' : World} {v : Value} {l : List TkA} (h : Told base W1 W v l) (hb : Below W.heap.size W W') : Told base W1 W' v l := by
 refine ⟨?_, h.bel.trans (hb.mono h.le), Nat.le_trans h.le hb.size⟩
 rcases h.own.2 with hn | ⟨g, cap, cur, hv, hb1, hg, hc, hm, hsz, ht⟩
 ·exact ⟨h.own.1, .inl hn⟩
 ·exact ⟨h.own.1, .inr ⟨g, cap, cur, hv, hb1, (hb.block g (by
   rcases Nat.lt_or_ge g W.heap.size with h | h
   ·exact h
   ·rw [Array.getElem?_eq_none h] at hg; cases hg)).trans hg, hc, hm, hsz, ht⟩⟩
theorem Told.grow {base : Nat} {W1 W : World} {v : Value} {l : List TkA} (h : Told base W1 W v l) (x : TkA) {o : Obj} {v' : Value} {w' : World} (ho : w'.ownsRow base 66 4 v' (l.length + 1) (tks l ++ tkc x)) (hg : (W.alloc o).grownBy w' v.ownBlock) : Told base W1 w' v' (l ++ [x]) := by
 have hle := h.le
 have hs := hg.size
 rw [World.size_alloc] at hs
 refine ⟨by rw [tks_app, List.length_append]; simpa [tks] using ho, h.bel.trans (((Below.refl base W).alloc hle _).trans ((Below.refl base (W.alloc o)).grown hg (by rw [World.size_alloc]; omega) (fun k hk => ?_))), by omega⟩
 exact (h.own.lt k hk).1

def Lx.pre (ts : List TkA) : Lx.Res → Lx.Res
 | .ok us n => .ok (ts ++ us) n
 | .bad n e => .bad n e
def AllV (base : Nat) (w' : World) (r : Lx.Res) (v : Value) : Prop :=
 match r with
 | .ok ts n => ∃ l, v = .tuple #[l, .int .i64 n, .int .i64 0] ∧ w'.ownsRow base 66 4 l ts.length (tks ts)
 | .bad n e => v = .tuple #[.slice none 0 0, .int .i64 n, .int .i64 e]
theorem ba_eq {b : ByteArray} {l : Lx.B} (h : bs b = l) : b = ⟨l.toArray⟩ := by
 subst h; apply ByteArray.ext; simp [bs]
theorem lx_none {f : Nat} {l : Lx.B} {c a : Nat} (h : Lx.cut (l.drop (Lx.sk false l)) = none) : Lx.lx (f + 1) l c a = .bad (a + Lx.sk false l) 90 := by rw [Lx.lx, h]
theorem lx_long {f : Nat} {l : Lx.B} {a : Nat} {t : Lx.Tok} {z : Nat} (h : Lx.cut (l.drop (Lx.sk false l)) = some (t, z)) : Lx.lx (f + 1) l 4096 a = .bad (a + Lx.sk false l) 3 := by
 rw [Lx.lx, h]; simp
theorem lx_fin {f : Nat} {l : Lx.B} {c a : Nat} {t : Lx.Tok} {z : Nat} (h : Lx.cut (l.drop (Lx.sk false l)) = some (t, z)) (hc : c ≠ 4096) (hk : t.k = 6) : Lx.lx (f + 1) l c a = .ok [(t, a + Lx.sk false l)] (a + Lx.sk false l) := by
 rw [Lx.lx, h]; simp only; rw [if_neg hc, if_pos hk]
theorem lx_more {f : Nat} {l : Lx.B} {c a : Nat} {t : Lx.Tok} {z : Nat} (h : Lx.cut (l.drop (Lx.sk false l)) = some (t, z)) (hc : c ≠ 4096) (hk : t.k ≠ 6) (ts : List TkA) :
  Lx.pre ts (Lx.lx (f + 1) l c a) = Lx.pre (ts ++ [(t, a + Lx.sk false l)]) (Lx.lx f ((l.drop (Lx.sk false l)).drop z) (c + 1) (a + Lx.sk false l + z)) := by
 rw [Lx.lx, h]; simp only; rw [if_neg hc, if_neg hk]
 cases Lx.lx f ((l.drop (Lx.sk false l)).drop z) (c + 1) (a + Lx.sk false l + z) <;> simp [Lx.pre]
theorem cut_kind {l : Lx.B} {t : Lx.Tok} {z : Nat} (h : Lx.cut l = some (t, z)) : t.k ≠ 0 ∧ (t.k ≠ 6 → 0 < z) := by
 by_cases hl : l = []
 ·subst hl
  simp only [Lx.cut, Option.some.injEq, Prod.mk.injEq] at h
  obtain ⟨rfl, rfl⟩ := h
  exact ⟨by simp, fun h => absurd rfl h⟩
 ·obtain ⟨h1, h2, _⟩ := Lx.cut_inv hl h
  obtain ⟨x, w', hw, _, _⟩ := Lx.tok_ne h2
  refine ⟨(Lx.tok_k h2).2, fun _ => ?_⟩
  rcases Nat.eq_zero_or_pos z with h0 | h0
  ·subst h0; simp at hw
  ·exact h0
end Go.Proofs.YtfjimoccliejdaaGreatDoor
end
section
namespace Go.Proofs.YtfjimoccliejdaaGreatDoor
open Go.RowKit Go.Shelf

theorem tks_one' (a : Int) (b : ByteArray) (c d : Int) : ∀ u ∈ [Value.int .i64 a, .string b, .int .i64 c, .int .i64 d], u.oneCell' = true := by
 intro u hu
 simp at hu
 rcases hu with rfl | rfl | rfl | rfl <;> rfl
set_option maxRecDepth 100000 in
set_option maxHeartbeats 2000000 in
theorem all_any (s : ByteArray) (w : World) (hs : s.size ≤ 16384) (hT : Tabs w) :
  Calls Tryz.prog 39 #[.string s] w fun e w' => ∃ v, e = .returned v ∧ AllV w.heap.size w' (Lx.lx (s.size + 1) (bs s) 0 0) v ∧ Below w.heap.size w w' := by
 obtain ⟨i0, hi, hz0, hz1, hz2⟩ := infoX_parts info_tok
 have HT := Lib.hid hT
 obtain ⟨R, hR⟩ : ∃ R, Lx.lx (s.size + 1) (bs s) 0 0 = R := ⟨_, rfl⟩
 rw [hR]
 have HR := Lib.hid hR
 clear hR hT
 go_enter Tryz.func39, Tryz.ntmps39
 go_wp2_with fail
 go_loopw [5, 6] (fun v i W => ∃ (a f : Nat) (ts : List TkA), a ≤ s.size ∧ s.size - a < f ∧ ts.length ≤ 4096 ∧ i = .int .i64 a ∧ Hid (Told w.heap.size w W v ts) ∧ Hid (R = Lx.pre ts (Lx.lx f ((bs s).drop a) ts.length a))) (fun _ i _ => s.size - (intOf i).toNat)
 case atStart =>
  refine ⟨0, s.size + 1, [], Nat.zero_le _, by omega, by simp, rfl, Lib.hid ⟨World.ownsRow_nil _ _ _ _, Below.refl _ _, Nat.le_refl _⟩, Lib.hid ?_⟩
  rw [List.drop_zero, List.length_nil, HR.out]
  cases R <;> simp [Lx.pre]
 case round =>
  obtain ⟨a, f, ts, ha, hf, hl, rfl, HO, HQ⟩ := hrel
  obtain ⟨f, rfl⟩ : ∃ g, f = g + 1 := ⟨f - 1, by omega⟩
  obtain ⟨A, cap, hv⟩ := HO.out.slice
  subst hv
  have hsk := Lx.sk_le false ((bs s).drop a)
  rw [List.length_drop, bs_len] at hsk
  obtain ⟨p, hp⟩ : ∃ p, a + Lx.sk false ((bs s).drop a) = p := ⟨_, rfl⟩
  have hps : p ≤ s.size := by omega
  have hap : a ≤ p := by omega
  have HP := Lib.hid hp
  have HB := Lib.hid (show bs (s.extract p s.size) = ((bs s).drop a).drop (Lx.sk false ((bs s).drop a)) by rw [bs_from, List.drop_drop, hp])
  have HSz := Lib.hid (show (s.extract p s.size).size = s.size - p by simp [ByteArray.size_extract])
  clear hsk hp
  go_wp2_with fail
  refine (skip_any s a _ (by omega) ha).mono ?_
  rintro e wr ⟨rfl, rfl⟩
  rw [HP.out]
  go_wp2_with fail
  refine (cut_any (s.extract p s.size) _ (by rw [HSz.out]; omega) (HT.out.kept HO.out.bel)).mono ?_
  rintro e w2 ⟨v, rfl, hv, hb⟩
  have HO2 := Lib.hid (HO.out.below hb)
  clear hb
  cases hc : Lx.cut (bs (s.extract p s.size)) with
  | none =>
   rw [hc] at hv
   obtain rfl : v = noTok := hv
   have HN := Lib.hid (show R = .bad p 90 by rw [HQ.out, lx_none (by rw [← HB.out]; exact hc), HP.out]; rfl)
   go_wp2_with fail
   refine bodyPost_ret (v := .tuple #[.slice none 0 0, .int .i64 p, .int .i64 90]) (by simp [results, Tryz.results39, go_sem]) rfl ⟨_, rfl, ?_, ?_⟩
   ·rw [HN.out]; rfl
   ·exact HO2.out.bel.trans ((ba w2 _).mono HO2.out.le)
  | some x =>
   obtain ⟨t, z⟩ := x
   rw [hc] at hv
   obtain ⟨hz, b, hbs, rfl⟩ := hv
   obtain rfl := ba_eq hbs
   have hz' : z ≤ s.size - p := by rw [← HSz.out]; exact hz
   obtain ⟨hk0, hkz⟩ := cut_kind hc
   have HC := Lib.hid (show Lx.cut (((bs s).drop a).drop (Lx.sk false ((bs s).drop a))) = some (t, z) by rw [← HB.out]; exact hc)
   have HK := Lib.hid hkz
   clear hz hbs hc hkz
   have hk0' : ¬ (t.k : Int) = 0 := by omega
   by_cases h4 : ts.length = 4096
   ·have HN := Lib.hid (show R = .bad p 3 by rw [HQ.out, h4, lx_long HC.out, HP.out]; rfl)
    go_wp2_with fail
    refine bodyPost_ret (v := .tuple #[.slice none 0 0, .int .i64 p, .int .i64 3]) (by simp [results, Tryz.results39, go_sem]) rfl ⟨_, rfl, ?_, ?_⟩
    ·rw [HN.out]; rfl
    ·exact HO2.out.bel.trans ((ba w2 _).mono HO2.out.le)
   ·by_cases h6 : t.k = 6
    ·have HN := Lib.hid (show R = .ok (ts ++ [(t, p)]) p by rw [HQ.out, lx_fin HC.out h4 h6, HP.out]; rfl)
     have h6' : (t.k : Int) = 6 := by omega
     have H6 := Lib.hid h6
     clear h6
     go_wp2_with (at_builtin; refine wpList_append_own _ rfl _ _ 59 rfl w.heap.size 66 i0 _ 4 40 Tryz.underlying59 hi hz0 hz1 hz2 rfl (by decide) _ _ _ rfl ((HO2.out.below (ba w2 _)).own.alloc _) ⟨w2.heap.size + 1, 0, none⟩ 1 1 [.int .i64 6, .string ⟨t.s.toArray⟩, .int .i64 t.n, .int .i64 p] rfl rfl ?c1 ?c2 ?c3 ?c4 ?c5 ?_)
     case c1 =>
      intro j u hj
      match j, hj with
      | 0, hj => simp at hj; subst hj; simp [Addr.add]
      | 1, hj => simp at hj; subst hj; simp [Addr.add]
      | 2, hj => simp at hj; subst hj; simp [Addr.add]
      | 3, hj => simp at hj; subst hj; simp [Addr.add]
     case c2 => exact tks_one' _ _ _ _
     case c3 => unfold maxLen; omega
     case c4 => omega
     case c5 => have := HO2.out.le; simp; omega
     intro v' w1 hown' hg _
     have HG := Lib.hid ((HO2.out.below (ba w2 _)).grow (t, p) (by rw [show tkc (t, p) = [.int .i64 6, .string ⟨t.s.toArray⟩, .int .i64 t.n, .int .i64 p] by simp [tkc, H6.out]]; exact hown') hg)
     clear hown' hg
     go_wp2_with fail
     refine bodyPost_ret (v := .tuple #[v', .int .i64 p, .int .i64 0]) (by simp [results, Tryz.results39, go_sem]) rfl ⟨_, rfl, ?_, HG.out.bel⟩
     rw [HN.out]
     exact ⟨v', rfl, HG.out.own⟩
    ·have h6' : ¬ (t.k : Int) = 6 := by omega
     have HN := Lib.hid (show R = Lx.pre (ts ++ [(t, p)]) (Lx.lx f ((bs s).drop (p + z)) (ts.length + 1) (p + z)) by
      rw [HQ.out, lx_more HC.out h4 h6, List.drop_drop, List.drop_drop, HP.out, ← Nat.add_assoc, HP.out])
     have hz0' := HK.out h6
     clear h6
     go_wp2_with (at_builtin; refine wpList_append_own _ rfl _ _ 59 rfl w.heap.size 66 i0 _ 4 40 Tryz.underlying59 hi hz0 hz1 hz2 rfl (by decide) _ _ _ rfl ((HO2.out.below (ba w2 _)).own.alloc _) ⟨w2.heap.size + 1, 0, none⟩ 1 1 [.int .i64 t.k, .string ⟨t.s.toArray⟩, .int .i64 t.n, .int .i64 p] rfl rfl ?c1 ?c2 ?c3 ?c4 ?c5 ?_)
     case c1 =>
      intro j u hj
      match j, hj with
      | 0, hj => simp at hj; subst hj; simp [Addr.add]
      | 1, hj => simp at hj; subst hj; simp [Addr.add]
      | 2, hj => simp at hj; subst hj; simp [Addr.add]
      | 3, hj => simp at hj; subst hj; simp [Addr.add]
     case c2 => exact tks_one' _ _ _ _
     case c3 => unfold maxLen; omega
     case c4 => omega
     case c5 => have := HO2.out.le; simp; omega
     intro v' w1 hown' hg _
     have HG := Lib.hid ((HO2.out.below (ba w2 _)).grow (t, p) hown' hg)
     clear hown' hg
     go_wp2_with fail
     go_roundw
     case rel => exact ⟨p + z, f, ts ++ [(t, p)], by omega, by omega, by simp; omega, by go_num, HG, by rw [List.length_append]; exact HN⟩
     case measure => simp [intOf]; omega
end Go.Proofs.YtfjimoccliejdaaGreatDoor
end
section
namespace Go.Proofs.YtfjimoccliejdaaGreatDoor
open Go.RowKit Go.Shelf

def TkAt (w : World) (A : Option Addr) (l : List TkA) : Prop :=
 l = [] ∨ ∃ g off, A = some ⟨g, off, none⟩ ∧ ∀ j u, (tks l)[j]? = some u → w.cell? ⟨g, off + j, none⟩ = some u
theorem tks_at : ∀ (l : List TkA) (i : Nat) (x : TkA), l[i]? = some x →
  (tks l)[i * 4]? = some (.int .i64 x.1.k) ∧ (tks l)[i * 4 + 1]? = some (.string ⟨x.1.s.toArray⟩) ∧ (tks l)[i * 4 + 2]? = some (.int .i64 x.1.n) ∧ (tks l)[i * 4 + 3]? = some (.int .i64 x.2)
 | [], i, x, h => by simp at h
 | y :: l, 0, x, h => by
  obtain rfl : y = x := by simpa using h
  refine ⟨?_, ?_, ?_, ?_⟩ <;> simp [tks, tkc]
 | y :: l, i + 1, x, h => by
  have := tks_at l i x (by simpa using h)
  have e : tks (y :: l) = tkc y ++ tks l := rfl
  have e4 : (tkc y).length = 4 := rfl
  rw [e, show (i + 1) * 4 = i * 4 + 4 by omega, show i * 4 + 4 + 1 = i * 4 + 1 + 4 by omega, show i * 4 + 4 + 2 = i * 4 + 2 + 4 by omega, show i * 4 + 4 + 3 = i * 4 + 3 + 4 by omega]
  rw [List.getElem?_append_right (by omega), List.getElem?_append_right (by omega), List.getElem?_append_right (by omega), List.getElem?_append_right (by omega), e4]
  simpa using this
structure TC (w : World) (g o : Nat) (x : TkA) : Prop where
 c0 : w.cell? ⟨g, o, none⟩ = some (.int .i64 x.1.k)
 c1 : w.cell? ⟨g, o + 1, none⟩ = some (.string ⟨x.1.s.toArray⟩)
 c2 : w.cell? ⟨g, o + 2, none⟩ = some (.int .i64 x.1.n)
 c3 : w.cell? ⟨g, o + 3, none⟩ = some (.int .i64 x.2)
theorem TC.kept {w w' : World} {g o : Nat} {x : TkA} (h : TC w g o x) (hb : Below w.heap.size w w') : TC w' g o x :=
 ⟨cell_kept hb h.c0, cell_kept hb h.c1, cell_kept hb h.c2, cell_kept hb h.c3⟩
theorem TkAt.at {w : World} {A : Option Addr} {l : List TkA} (h : TkAt w A l) {i : Nat} {x : TkA} (hx : l[i]? = some x) : ∃ g off, A = some ⟨g, off, none⟩ ∧ TC w g (off + i * 4) x := by
 rcases h with rfl | ⟨g, off, rfl, h⟩
 ·simp at hx
 ·obtain ⟨a, b, c, d⟩ := tks_at l i x hx
  exact ⟨g, off, rfl, h _ _ a, by have := h _ _ b; rwa [← Nat.add_assoc] at this, by have := h _ _ c; rwa [← Nat.add_assoc] at this, by have := h _ _ d; rwa [← Nat.add_assoc] at this⟩
theorem TkAt.kept {w w' : World} {A : Option Addr} {l : List TkA} (h : TkAt w A l) (hb : Below w.heap.size w w') : TkAt w' A l := by
 rcases h with rfl | ⟨g, off, rfl, h⟩
 ·exact .inl rfl
 ·exact .inr ⟨g, off, rfl, fun j u hj => cell_kept hb (h j u hj)⟩

end Go.Proofs.YtfjimoccliejdaaGreatDoor
end
section
namespace Go.Proofs.YtfjimoccliejdaaGreatDoor
open Go.RowKit Go.Shelf

structure Hd where
 k : Int
 n : Int
 vk : Int
 vn : Int
 vs : ByteArray
 tab : ByteArray
 col : ByteArray
inductive Ex where
 | mk (h : Hd) (l : List Ex)
def Ex.hd : Ex → Hd | .mk h _ => h
def Ex.kids : Ex → List Ex | .mk _ l => l

abbrev XV (h : Hd) (A : Option Addr) (len cap : Nat) : Value :=
 .agg #[.int .i64 h.k, .int .i64 h.n, .int .i64 h.vk, .int .i64 h.vn, .string h.vs, .string h.tab, .string h.col, .slice A len cap]
abbrev xbox (h : Hd) (A : Option Addr) (len cap : Nat) : Obj := .cells #[.int .i64 h.k, .int .i64 h.n, .int .i64 h.vk, .int .i64 h.vn, .string h.vs, .string h.tab, .string h.col, .slice A len cap] 37
structure XC (w : World) (g o : Nat) (h : Hd) (A : Option Addr) (len cap : Nat) : Prop where
 c0 : w.cell? ⟨g, o, none⟩ = some (.int .i64 h.k)
 c1 : w.cell? ⟨g, o + 1, none⟩ = some (.int .i64 h.n)
 c2 : w.cell? ⟨g, o + 2, none⟩ = some (.int .i64 h.vk)
 c3 : w.cell? ⟨g, o + 3, none⟩ = some (.int .i64 h.vn)
 c4 : w.cell? ⟨g, o + 4, none⟩ = some (.string h.vs)
 c5 : w.cell? ⟨g, o + 5, none⟩ = some (.string h.tab)
 c6 : w.cell? ⟨g, o + 6, none⟩ = some (.string h.col)
 c7 : w.cell? ⟨g, o + 7, none⟩ = some (.slice A len cap)
theorem XC.of {w w' : World} {g o : Nat} {h : Hd} {A : Option Addr} {len cap : Nat} (hb : w'.heap[g]? = w.heap[g]?) (c : XC w g o h A len cap) : XC w' g o h A len cap := by
 have e : ∀ o, w'.cell? ⟨g, o, none⟩ = w.cell? ⟨g, o, none⟩ := fun o => World.cell?_of_block hb
 exact ⟨(e _).trans c.c0, (e _).trans c.c1, (e _).trans c.c2, (e _).trans c.c3, (e _).trans c.c4, (e _).trans c.c5, (e _).trans c.c6, (e _).trans c.c7⟩
def XsB (B : Nat → Prop) (w : World) : List Ex → Option Addr → Prop
 | [], _ => True
 | .mk h l :: r, A => ∃ g o, A = some ⟨g, o, none⟩ ∧ B g ∧ (∃ A' cap, XC w g o h A' l.length cap ∧ l.length ≤ cap ∧ XsB B w l A') ∧ XsB B w r (some ⟨g, o + 8, none⟩)
termination_by l => SizeOf.sizeOf l
theorem XsB.go {B B' : Nat → Prop} {w w' : World} (hb : ∀ k, B k → w'.heap[k]? = w.heap[k]?) (hB : ∀ k, B k → B' k) : ∀ (l : List Ex) (A : Option Addr), XsB B w l A → XsB B' w' l A
 | [], _, _ => by rw [XsB]; trivial
 | .mk h l :: r, A, H => by
  rw [XsB] at H ⊢
  obtain ⟨g, o, e, hg, ⟨A', cap, hc, hl, h1⟩, h2⟩ := H
  exact ⟨g, o, e, hB g hg, ⟨A', cap, hc.of (hb g hg), hl, XsB.go hb hB l A' h1⟩, XsB.go hb hB r _ h2⟩
termination_by l => SizeOf.sizeOf l
abbrev XsAt (n : Nat) (w : World) (l : List Ex) (A : Option Addr) : Prop := XsB (fun k => k < n) w l A
theorem XsAt.kept {n : Nat} {w w' : World} {l : List Ex} {A : Option Addr} (hb : Below n w w') (H : XsAt n w l A) : XsAt n w' l A :=
 XsB.go (fun k hk => hb.block k hk) (fun _ h => h) l A H
theorem XsAt.up {n m : Nat} {w : World} {l : List Ex} {A : Option Addr} (hm : n ≤ m) (H : XsAt n w l A) : XsAt m w l A :=
 XsB.go (fun _ _ => rfl) (fun _ h => Nat.lt_of_lt_of_le h hm) l A H
theorem XsAt.next {w w' : World} {l : List Ex} {A : Option Addr} (H : XsAt w.heap.size w l A) (hb : Below w.heap.size w w') : XsAt w'.heap.size w' l A :=
 (H.kept hb).up hb.size
theorem XsB.at {B : Nat → Prop} {w : World} : ∀ {l : List Ex} {A : Option Addr}, XsB B w l A → ∀ {i : Nat} {h : Hd} {l' : List Ex}, l[i]? = some (.mk h l') →
  ∃ g o A' cap, A = some ⟨g, o, none⟩ ∧ B g ∧ XC w g (o + i * 8) h A' l'.length cap ∧ l'.length ≤ cap ∧ XsB B w l' A'
 | [], _, _, i, h, l', hi => by simp at hi
 | .mk h l :: r, A, H, 0, h', l', hi => by
  rw [XsB] at H
  obtain ⟨g, o, e, hg, ⟨A', cap, hc, hl, h1⟩, _⟩ := H
  simp only [List.getElem?_cons_zero, Option.some.injEq, Ex.mk.injEq] at hi
  obtain ⟨rfl, rfl⟩ := hi
  exact ⟨g, o, A', cap, e, hg, by simpa using hc, hl, h1⟩
 | .mk h l :: r, A, H, i + 1, h', l', hi => by
  rw [XsB] at H
  obtain ⟨g, o, e, hg, _, h2⟩ := H
  obtain ⟨g', o', A', cap, e', hg', hc, hl, h1⟩ := XsB.at h2 (i := i) (by simpa using hi)
  simp only [Option.some.injEq, Addr.mk.injEq] at e'
  obtain ⟨rfl, rfl, _⟩ := e'
  exact ⟨g, o, A', cap, e, hg, by rw [show o + (i + 1) * 8 = o + 8 + i * 8 by omega]; exact hc, hl, h1⟩
theorem XsB.drop {B : Nat → Prop} {w : World} : ∀ {l : List Ex} {g o : Nat}, XsB B w l (some ⟨g, o, none⟩) → ∀ (k : Nat), XsB B w (l.drop k) (some ⟨g, o + k * 8, none⟩)
 | l, g, o, H, 0 => by simpa using H
 | [], g, o, H, k + 1 => by rw [List.drop_nil, XsB]; trivial
 | .mk h l :: r, g, o, H, k + 1 => by
  rw [XsB] at H
  obtain ⟨g', o', e, _, _, h2⟩ := H
  simp only [Option.some.injEq, Addr.mk.injEq] at e
  obtain ⟨rfl, rfl, _⟩ := e
  have := XsB.drop h2 k
  rw [List.drop_succ_cons, show o + (k + 1) * 8 = o + 8 + k * 8 by omega]
  exact this
def XvB (B : Nat → Prop) (w : World) (e : Ex) (v : Value) : Prop :=
 ∃ A cap, v = XV e.hd A e.kids.length cap ∧ e.kids.length ≤ cap ∧ XsB B w e.kids A
abbrev XAt (n : Nat) (w : World) (e : Ex) (v : Value) : Prop := XvB (fun k => k < n) w e v
theorem XvB.go {B B' : Nat → Prop} {w w' : World} (hb : ∀ k, B k → w'.heap[k]? = w.heap[k]?) (hB : ∀ k, B k → B' k) {e : Ex} {v : Value} (H : XvB B w e v) : XvB B' w' e v := by
 obtain ⟨A, cap, rfl, hl, h⟩ := H
 exact ⟨A, cap, rfl, hl, XsB.go hb hB _ _ h⟩
theorem XAt.next {w w' : World} {e : Ex} {v : Value} (H : XAt w.heap.size w e v) (hb : Below w.heap.size w w') : XAt w'.heap.size w' e v :=
 XvB.go (fun k hk => hb.block k hk) (fun _ h => Nat.lt_of_lt_of_le h hb.size) H
abbrev Bn (b : Nat) (W : World) (k : Nat) : Prop := b ≤ k ∧ k < W.heap.size

abbrev XQ := Hd × Option Addr × Nat × Nat
def xcell (x : XQ) : List Value := [.int .i64 x.1.k, .int .i64 x.1.n, .int .i64 x.1.vk, .int .i64 x.1.vn, .string x.1.vs, .string x.1.tab, .string x.1.col, .slice x.2.1 x.2.2.1 x.2.2.2]
def xcells (l : List XQ) : List Value := l.flatMap xcell
theorem xcells_len (l : List XQ) : (xcells l).length = l.length * 8 := by
 induction l with
 | nil => rfl
 | cons v l ih => show (xcell v ++ xcells l).length = _; rw [List.length_append, ih]; simp [xcell]; omega
theorem xcells_app (l r : List XQ) : xcells (l ++ r) = xcells l ++ xcells r := by simp [xcells]
theorem xcell_one (x : XQ) : ∀ u ∈ xcell x, u.oneCell' = true := by
 intro u hu
 simp [xcell] at hu
 rcases hu with rfl | rfl | rfl | rfl | rfl | rfl | rfl | rfl <;> rfl
def XR (B : Nat → Prop) (w : World) (e : Ex) (x : XQ) : Prop := x.1 = e.hd ∧ x.2.2.1 = e.kids.length ∧ e.kids.length ≤ x.2.2.2 ∧ XsB B w e.kids x.2.1
inductive XRs (B : Nat → Prop) (w : World) : List Ex → List XQ → Prop
 | nil : XRs B w [] []
 | cons {e x l q} : XR B w e x → XRs B w l q → XRs B w (e :: l) (x :: q)
theorem XRs.len {B : Nat → Prop} {w : World} {l : List Ex} {q : List XQ} (h : XRs B w l q) : q.length = l.length := by
 induction h with
 | nil => rfl
 | cons _ _ ih => simp [ih]
theorem XRs.snoc {B : Nat → Prop} {w : World} {l : List Ex} {q : List XQ} (h : XRs B w l q) {e : Ex} {x : XQ} (hx : XR B w e x) : XRs B w (l ++ [e]) (q ++ [x]) := by
 induction h with
 | nil => exact .cons hx .nil
 | cons h1 _ ih => exact .cons h1 ih
theorem XR.go {B B' : Nat → Prop} {w w' : World} (hb : ∀ k, B k → w'.heap[k]? = w.heap[k]?) (hB : ∀ k, B k → B' k) {e : Ex} {x : XQ} (h : XR B w e x) : XR B' w' e x :=
 ⟨h.1, h.2.1, h.2.2.1, XsB.go hb hB _ _ h.2.2.2⟩
theorem XRs.go {B B' : Nat → Prop} {w w' : World} (hb : ∀ k, B k → w'.heap[k]? = w.heap[k]?) (hB : ∀ k, B k → B' k) {l : List Ex} {q : List XQ} (h : XRs B w l q) : XRs B' w' l q := by
 induction h with
 | nil => exact .nil
 | cons h1 _ ih => exact .cons (h1.go hb hB) ih
theorem XRs.xsB {B : Nat → Prop} {w : World} {g : Nat} (hg : B g) : ∀ {l : List Ex} {q : List XQ} {o : Nat}, XRs B w l q → (∀ j u, (xcells q)[j]? = some u → w.cell? ⟨g, o + j, none⟩ = some u) → XsB B w l (some ⟨g, o, none⟩)
 | _, _, _, .nil, _ => by rw [XsB]; trivial
 | _, _, o, .cons (e := .mk h l) (x := x) (q := q) h1 h2, H => by
  rw [XsB]
  obtain ⟨e1, e2, e3, e4⟩ := h1
  have e : xcells (x :: q) = xcell x ++ xcells q := rfl
  have e8 : (xcell x).length = 8 := rfl
  rw [e] at H
  refine ⟨g, o, rfl, hg, ⟨x.2.1, x.2.2.2, ?_, e3, e4⟩, ?_⟩
  ·have k := fun j u (hj : (xcell x)[j]? = some u) => H j u (by rw [List.getElem?_append_left (List.getElem?_eq_some_iff.1 hj).1]; exact hj)
   simp only [Ex.hd, Ex.kids] at e1 e2
   rw [← e2, ← e1]
   exact ⟨k 0 _ rfl, k 1 _ rfl, k 2 _ rfl, k 3 _ rfl, k 4 _ rfl, k 5 _ rfl, k 6 _ rfl, k 7 _ rfl⟩
  ·refine XRs.xsB hg h2 fun j u hj => ?_
   have := H (8 + j) u (by rw [List.getElem?_append_right (by omega), e8, Nat.add_sub_cancel_left]; exact hj)
   rwa [show o + (8 + j) = o + 8 + j by omega] at this
abbrev Ot (base : Nat) (W : World) (v : Value) (k : Nat) : Prop := base ≤ k ∧ k < W.heap.size ∧ v.ownBlock ≠ some k
def Xrow (base : Nat) (W : World) (v : Value) (l : List Ex) (q : List XQ) : Prop := XRs (Ot base W v) W l q ∧ W.ownsRow base 37 8 v l.length (xcells q)
structure Xown (base : Nat) (W1 W : World) (v : Value) (l : List Ex) : Prop where
 row : ∃ q, Xrow base W v l q
 bel : Below base W1 W
 le : base ≤ W.heap.size
theorem Xown.slice {base : Nat} {W1 W : World} {v : Value} {l : List Ex} (h : Xown base W1 W v l) : ∃ A cap, v = .slice A l.length cap := by
 obtain ⟨q, _, ho⟩ := h.row
 rcases ho.2 with ⟨rfl, h0⟩ | ⟨g, cap, cur, hv, _⟩
 ·rw [h0]; exact ⟨none, 0, rfl⟩
 ·exact ⟨_, cap, hv⟩
theorem Xown.nil (W : World) : Xown W.heap.size W W (.slice none 0 0) [] :=
 ⟨⟨[], .nil, World.ownsRow_nil _ _ _ _⟩, Below.refl _ _, Nat.le_refl _⟩
theorem Xown.below {base : Nat} {W1 W W' : World} {v : Value} {l : List Ex} (h : Xown base W1 W v l) (hb : Below W.heap.size W W') : Xown base W1 W' v l := by
 obtain ⟨q, hq, ho⟩ := h.row
 refine ⟨⟨q, hq.go (fun k hk => hb.block k hk.2.1) (fun k hk => ⟨hk.1, Nat.lt_of_lt_of_le hk.2.1 hb.size, hk.2.2⟩), ho.1, ?_⟩, h.bel.trans (hb.mono h.le), Nat.le_trans h.le hb.size⟩
 rcases ho.2 with hn | ⟨g, cap, cur, hv, hb1, hg, hc, hm, hsz, ht⟩
 ·exact .inl hn
 ·exact .inr ⟨g, cap, cur, hv, hb1, (hb.block g (by
   rcases Nat.lt_or_ge g W.heap.size with h | h
   ·exact h
   ·rw [Array.getElem?_eq_none h] at hg; cases hg)).trans hg, hc, hm, hsz, ht⟩
theorem Xown.xsB {base : Nat} {W1 W : World} {v : Value} {l : List Ex} (h : Xown base W1 W v l) : ∃ A cap, v = .slice A l.length cap ∧ l.length ≤ cap ∧ XsB (Bn base W) W l A := by
 obtain ⟨q, hq, ho⟩ := h.row
 rcases ho.2 with ⟨rfl, h0⟩ | ⟨g, cap, cur, hv, hb1, hg, hc, hm, hsz, ht⟩
 ·obtain rfl : l = [] := List.eq_nil_of_length_eq_zero h0
  exact ⟨none, 0, rfl, Nat.le_refl _, by rw [XsB]; trivial⟩
 ·have hgl : g < W.heap.size := by
   rcases Nat.lt_or_ge g W.heap.size with h | h
   ·exact h
   ·rw [Array.getElem?_eq_none h] at hg; cases hg
  refine ⟨_, cap, hv, by omega, (hq.go (B' := Bn base W) (fun _ _ => rfl) (fun k hk => ⟨hk.1, hk.2.1⟩)).xsB ⟨hb1, hgl⟩ fun j u hj => ?_⟩
  have hjl := (List.getElem?_eq_some_iff.1 hj).1
  rw [xcells_len, hq.len] at hjl
  have e : cur.toList[j]? = (xcells q)[j]? := by rw [← ht, List.getElem?_take_of_lt (by omega)]
  rw [Nat.zero_add]
  simp only [World.cell?, hg]
  rw [← Array.getElem?_toList, e, hj]
  simp
theorem Xown.grow {base : Nat} {W1 W : World} {v : Value} {l : List Ex} (h : Xown base W1 W v l) {q : List XQ} (hq : Xrow base W v l q) {e : Ex} {x : XQ} (hx : XR (Ot base W v) W e x)
  {o : Obj} {v' : Value} {w' : World} (ho : w'.ownsRow base 37 8 v' (l.length + 1) (xcells q ++ xcell x)) (hg : (W.alloc o).grownBy w' v.ownBlock) (hat : v'.ownBlock = v.ownBlock ∨ v'.ownBlock = some (W.alloc o).heap.size) : Xown base W1 w' v' (l ++ [e]) := by
 have hle := h.le
 have hs := hg.size
 rw [World.size_alloc] at hs hat
 have hb : ∀ k, Ot base W v k → w'.heap[k]? = W.heap[k]? := fun k hk => (hg.block k (by rw [World.size_alloc]; have := hk.2.1; omega) (fun e => hk.2.2 e.symm)).trans ((ba W o).block k hk.2.1)
 have hB : ∀ k, Ot base W v k → Ot base w' v' k := fun k hk => ⟨hk.1, by have := hk.2.1; omega, fun e => by
  rcases hat with h1 | h1
  ·exact hk.2.2 (h1.symm.trans e)
  ·rw [h1] at e; have := hk.2.1; simp at e; omega⟩
 refine ⟨⟨q ++ [x], (hq.1.go hb hB).snoc (hx.go hb hB), ?_⟩, h.bel.trans (((Below.refl base W).alloc hle _).trans ((Below.refl base (W.alloc o)).grown hg (by rw [World.size_alloc]; omega) (fun k hk => (hq.2.lt k hk).1))), by omega⟩
 have e1 : xcells (q ++ [x]) = xcells q ++ xcell x := by rw [xcells_app]; simp [xcells]
 rw [e1, List.length_append]
 exact ho
theorem info_expr : (Tryz.prog.info? 37).map (fun i => (i.zero, i.size, i.bytes)) = some (some (XV ⟨0, 0, 0, 0, ⟨#[]⟩, ⟨#[]⟩, ⟨#[]⟩⟩ none 0 0), 8, 104) := by kernel_rfl
theorem infoE_parts {t : TypeId} {z : Value} {n b : Nat} (h : (Tryz.prog.info? t).map (fun i => (i.zero, i.size, i.bytes)) = some (some z, n, b)) :
  ∃ i, Tryz.prog.info? t = some i ∧ i.zero = some z ∧ i.size = n ∧ i.bytes = b := by
 cases hi : Tryz.prog.info? t with
 | none => rw [hi] at h; cases h
 | some i => rw [hi] at h; simp at h; exact ⟨i, rfl, h.1, h.2.1, h.2.2⟩
end Go.Proofs.YtfjimoccliejdaaGreatDoor
end
section
namespace Go.Proofs.YtfjimoccliejdaaGreatDoor
open Go.RowKit Go.Shelf

abbrev set8 (W : World) (U : Nat) (b0 b1 b2 b3 b4 b5 b6 b7 : Value) : World := ((((((((W.setCell ⟨U, 0, none⟩ b0).setCell ⟨U, 1, none⟩ b1).setCell ⟨U, 2, none⟩ b2).setCell ⟨U, 3, none⟩ b3).setCell ⟨U, 4, none⟩ b4).setCell ⟨U, 5, none⟩ b5).setCell ⟨U, 6, none⟩ b6).setCell ⟨U, 7, none⟩ b7)
theorem setc_box {W : World} {U : Nat} {cs : Array Value} {T : TypeId} {f : Nat × Nat} (h : W.heap[U]? = some (.cells cs T f)) (j : Nat) (b : Value) :
  (W.setCell ⟨U, j, none⟩ b).heap[U]? = some (.cells (cs.setIfInBounds j b) T f) := by
 simp only [World.setCell, Array.getElem?_modify, if_true, h]
 rfl
theorem set8_box {W : World} {U : Nat} {a0 a1 a2 a3 a4 a5 a6 a7 : Value} {T : TypeId} (h : W.heap[U]? = some (.cells #[a0, a1, a2, a3, a4, a5, a6, a7] T (0, 0))) (b0 b1 b2 b3 b4 b5 b6 b7 : Value) :
  (set8 W U b0 b1 b2 b3 b4 b5 b6 b7).heap[U]? = some (.cells #[b0, b1, b2, b3, b4, b5, b6, b7] T (0, 0)) := by
 refine ((setc_box (setc_box (setc_box (setc_box (setc_box (setc_box (setc_box (setc_box h 0 b0) 1 b1) 2 b2) 3 b3) 4 b4) 5 b5) 6 b6) 7 b7)).trans ?_
 simp
theorem set8_other {W : World} {U k : Nat} (hk : k ≠ U) (b0 b1 b2 b3 b4 b5 b6 b7 : Value) : (set8 W U b0 b1 b2 b3 b4 b5 b6 b7).heap[k]? = W.heap[k]? := by
 simp only [set8, World.setCell, Array.getElem?_modify]
 simp [Ne.symm hk]
theorem set8_size (W : World) (U : Nat) (b0 b1 b2 b3 b4 b5 b6 b7 : Value) : (set8 W U b0 b1 b2 b3 b4 b5 b6 b7).heap.size = W.heap.size := by simp [set8, World.setCell]
theorem set8_below {B U : Nat} {w W : World} (h : Below B w W) (hU : B ≤ U) (b0 b1 b2 b3 b4 b5 b6 b7 : Value) : Below B w (set8 W U b0 b1 b2 b3 b4 b5 b6 b7) :=
 ((((((((h.setCell (p := ⟨U, 0, none⟩) hU b0).setCell (p := ⟨U, 1, none⟩) hU b1).setCell (p := ⟨U, 2, none⟩) hU b2).setCell (p := ⟨U, 3, none⟩) hU b3).setCell (p := ⟨U, 4, none⟩) hU b4).setCell (p := ⟨U, 5, none⟩) hU b5).setCell (p := ⟨U, 6, none⟩) hU b6).setCell (p := ⟨U, 7, none⟩) hU b7)
theorem cell8 {w : World} {U : Nat} {b0 b1 b2 b3 b4 b5 b6 b7 : Value} {T : TypeId} (e : w.heap[U]? = some (.cells #[b0, b1, b2, b3, b4, b5, b6, b7] T (0, 0))) :
  (w.cell? ⟨U, 0, none⟩ = some b0 ∧ w.cell? ⟨U, 1, none⟩ = some b1 ∧ w.cell? ⟨U, 2, none⟩ = some b2 ∧ w.cell? ⟨U, 3, none⟩ = some b3 ∧ w.cell? ⟨U, 4, none⟩ = some b4 ∧ w.cell? ⟨U, 5, none⟩ = some b5 ∧ w.cell? ⟨U, 6, none⟩ = some b6 ∧ w.cell? ⟨U, 7, none⟩ = some b7) ∧
  w.frozen? ⟨U, 0, none⟩ = false ∧ w.frozen? ⟨U, 1, none⟩ = false ∧ w.frozen? ⟨U, 2, none⟩ = false ∧ w.frozen? ⟨U, 3, none⟩ = false ∧ w.frozen? ⟨U, 4, none⟩ = false ∧ w.frozen? ⟨U, 5, none⟩ = false ∧ w.frozen? ⟨U, 6, none⟩ = false ∧ w.frozen? ⟨U, 7, none⟩ = false :=
 ⟨⟨by simp only [World.cell?, e]; rfl, by simp only [World.cell?, e]; rfl, by simp only [World.cell?, e]; rfl, by simp only [World.cell?, e]; rfl, by simp only [World.cell?, e]; rfl, by simp only [World.cell?, e]; rfl, by simp only [World.cell?, e]; rfl, by simp only [World.cell?, e]; rfl⟩,
  by simp only [World.frozen?, e]; rfl, by simp only [World.frozen?, e]; rfl, by simp only [World.frozen?, e]; rfl, by simp only [World.frozen?, e]; rfl, by simp only [World.frozen?, e]; rfl, by simp only [World.frozen?, e]; rfl, by simp only [World.frozen?, e]; rfl, by simp only [World.frozen?, e]; rfl⟩
theorem set7_box {W : World} {U : Nat} {a0 a1 a2 a3 a4 a5 a6 a7 : Value} {T : TypeId} (h : W.heap[U]? = some (.cells #[a0, a1, a2, a3, a4, a5, a6, a7] T (0, 0))) (b : Value) :
  (W.setCell ⟨U, 7, none⟩ b).heap[U]? = some (.cells #[a0, a1, a2, a3, a4, a5, a6, b] T (0, 0)) := by
 simp only [World.setCell, Array.getElem?_modify, if_true, h]
 rfl
theorem setc_other {W : World} {U k j : Nat} (hk : k ≠ U) (b : Value) : (W.setCell ⟨U, j, none⟩ b).heap[k]? = W.heap[k]? := by
 simp only [World.setCell, Array.getElem?_modify]
 simp [Ne.symm hk]
theorem setc_size (W : World) (p : Addr) (b : Value) : (W.setCell p b).heap.size = W.heap.size := by simp [World.setCell]

theorem xnews (wr : World) (q : XQ) (t : TypeId) (j : Nat) (u : Value) (h : (xcell q)[j]? = some u) : (wr.alloc (.cells (xcell q).toArray t)).cell? ((⟨wr.heap.size, 0, none⟩ : Addr).add j) = some u := by
 have e2 : (⟨wr.heap.size, 0, none⟩ : Addr).add j = ⟨wr.heap.size, j, none⟩ := by simp only [Addr.add]; split <;> simp_all
 have hn := (MapKept.heap_alloc wr (.cells (xcell q).toArray t)).1
 rw [e2]
 unfold World.cell?
 rw [hn]
 simp [h]
def CopyL (w : World) (l : List Ex) (e : Ending) (w' : World) : Prop :=
 ∃ A cap, e = .returned (.slice A l.length cap) ∧ l.length ≤ cap ∧ XsB (Bn w.heap.size w') w' l A ∧ Below w.heap.size w w'
def CopyE (w : World) (x : Ex) (e : Ending) (w' : World) : Prop :=
 ∃ A cap, e = .returned (XV x.hd A x.kids.length cap) ∧ x.kids.length ≤ cap ∧ XsB (Bn w.heap.size w') w' x.kids A ∧ Below w.heap.size w w'
abbrev x0 : Obj := .cells #[.int .i64 0, .int .i64 0, .int .i64 0, .int .i64 0, .string ⟨#[]⟩, .string ⟨#[]⟩, .string ⟨#[]⟩, .slice none 0 0] 37
theorem copyOf_of (h : Hd) (l : List Ex) (w : World) (A : Option Addr) (cap : Nat)
  (ih : ∀ w1, Below w.heap.size w w1 → Calls Tryz.prog 164 #[.slice A l.length cap] w1 (CopyL w1 l)) :
  Calls Tryz.prog 160 #[XV h A l.length cap] w (CopyE w (.mk h l)) := by
 have hb1 := bt (ba w (xbox h A l.length cap)) (ba _ x0)
 have HI := Lib.hid (ih _ hb1)
 have HB1 := Lib.hid hb1
 have HX0 := Lib.hid (((ba (w.alloc (xbox h A l.length cap)) x0).block w.heap.size (by rw [World.size_alloc]; omega)).trans (MapKept.heap_alloc w (xbox h A l.length cap)).1)
 have HX1 := Lib.hid ((MapKept.heap_alloc (w.alloc (xbox h A l.length cap)) x0).1)
 have HSz := Lib.hid (show ((w.alloc (xbox h A l.length cap)).alloc x0).heap.size = w.heap.size + 1 + 1 by simp)
 clear ih hb1
 go_enter Tryz.func160, Tryz.ntmps160
 go_wp2_with fail
 rw [World.size_alloc] at HX1
 obtain ⟨W1, hW1⟩ : ∃ W1, (w.alloc (xbox h A l.length cap)).alloc x0 = W1 := ⟨_, rfl⟩
 obtain ⟨U, hU⟩ : ∃ U, w.heap.size = U := ⟨_, rfl⟩
 rw [hW1] at HI HB1 HX0 HX1 HSz
 refine (show Calls Tryz.prog 164 #[.slice A l.length cap] ((w.alloc (xbox h A l.length cap)).alloc x0) (CopyL W1 l) by rw [hW1]; exact HI.out).mono ?_
 rintro e w2 ⟨A', cap', rfl, hle, hx, hb⟩
 have hX0 := (hb.block _ (by rw [HSz.out]; omega)).trans HX0.out
 have hX1 := (hb.block _ (by rw [HSz.out]; omega)).trans HX1.out
 have HB2 := Lib.hid (HB1.out.trans (hb.mono HB1.out.size))
 have HS2 := Lib.hid hb.size
 have HXB := Lib.hid hx
 have HLE := Lib.hid hle
 have HY0 := Lib.hid (set7_box hX0 (.slice A' l.length cap'))
 have HX0' := Lib.hid hX0
 have HX1' := Lib.hid ((setc_other (W := w2) (U := w.heap.size) (k := w.heap.size + 1) (j := 7) (by omega) (.slice A' l.length cap')).trans hX1)
 clear HX0 HX1 hb hx hle HI hW1
 rw [hU] at HB2 HY0 HX0' HX1' hX0 hX1 HSz ⊢
 obtain ⟨⟨c0, c1, c2, c3, c4, c5, c6, c7⟩, f0, f1, f2, f3, f4, f5, f6, f7⟩ := cell8 hX0
 obtain ⟨⟨d0, d1, d2, d3, d4, d5, d6, d7⟩, g0, g1, g2, g3, g4, g5, g6, g7⟩ := cell8 hX1
 clear hX0 hX1
 have HZ := Lib.hid (set8_box HX1'.out (.int .i64 h.k) (.int .i64 h.n) (.int .i64 h.vk) (.int .i64 h.vn) (.string h.vs) (.string h.tab) (.string h.col) (.slice A' l.length cap'))
 go_wp2_with fail
 obtain ⟨⟨q0, q1, q2, q3, q4, q5, q6, q7⟩, _⟩ := cell8 HZ.out
 refine bodyPost_ret (v := XV h A' l.length cap') (by simp [results, Tryz.results160, go_sem, q0, q1, q2, q3, q4, q5, q6, q7]) rfl ⟨A', cap', rfl, HLE.out, ?_, ?_⟩
 ·refine XsB.go (fun k hk => (set8_other (by have := hk.1; have := HSz.out; omega) _ _ _ _ _ _ _ _).trans (setc_other (by have := hk.1; have := HSz.out; omega) _)) (fun k hk => ⟨by have := hk.1; have := HSz.out; omega, ?_⟩) _ _ HXB.out
  rw [set8_size, setc_size]; exact hk.2
 ·rw [hU]
  exact set8_below (HB2.out.setCell (p := ⟨U, 7, none⟩) (Nat.le_refl _) _) (by omega) _ _ _ _ _ _ _ _
end Go.Proofs.YtfjimoccliejdaaGreatDoor
end
section
namespace Go.Proofs.YtfjimoccliejdaaGreatDoor
open Go.RowKit Go.Shelf

mutual
def cnt : Ex → Nat
 | .mk _ l => 1 + cntL l
def cntL : List Ex → Nat
 | [] => 0
 | x :: r => cnt x + cntL r
end
theorem cnt_mk (h : Hd) (l : List Ex) : cnt (.mk h l) = 1 + cntL l := by rw [cnt]
theorem cnt_pos (x : Ex) : 1 ≤ cnt x := by cases x; rw [cnt]; omega
theorem cntL_len : ∀ l : List Ex, l.length ≤ cntL l
 | [] => by simp
 | x :: r => by have := cntL_len r; have := cnt_pos x; rw [cntL, List.length_cons]; omega
theorem cntL_mem : ∀ {l : List Ex} {i : Nat} {x : Ex}, l[i]? = some x → cnt x ≤ cntL l
 | [], i, x, h => by simp at h
 | y :: r, 0, x, h => by
  obtain rfl : y = x := by simpa using h
  rw [cntL]; omega
 | y :: r, i + 1, x, h => by
  have := cntL_mem (l := r) (i := i) (x := x) (by simpa using h)
  rw [cntL]; omega

set_option maxHeartbeats 4000000 in
theorem copyAll_n : ∀ (n : Nat) (l : List Ex), cntL l ≤ n → n ≤ 1000000 → ∀ (w : World) (A : Option Addr) (cap : Nat), XsAt w.heap.size w l A →
  Calls Tryz.prog 164 #[.slice A l.length cap] w (CopyL w l) := by
 intro n
 induction n with
 | zero =>
  intro l hl _ w A cap hX
  have h0 := cntL_len l
  obtain rfl : l = [] := List.eq_nil_of_length_eq_zero (by omega)
  clear hX hl h0
  go_enter Tryz.func164, Tryz.ntmps164
  go_wp2_with fail
  go_loopw [8, 3] (fun i v W => i = .int .i64 0 ∧ v = .slice none 0 0 ∧ W = w) (fun _ _ _ => 0)
  case atStart => exact ⟨rfl, rfl, rfl⟩
  case round =>
   obtain ⟨rfl, rfl, rfl⟩ := hrel
   go_wp2_with fail
   go_ret
   exact ⟨none, 0, rfl, Nat.le_refl _, by rw [XsB]; trivial, Below.refl _ _⟩
 | succ n ih =>
  intro l hl hn w A cap hX
  obtain ⟨i0, hi, hz0, hz1, hz2⟩ := infoE_parts info_expr
  have hlen := cntL_len l
  have HI := Lib.hid ih
  have HXs := Lib.hid hX
  have HL := Lib.hid hl
  clear ih hX hl
  have hll : l.length ≤ 1000000 := by have := HL.out; omega
  go_enter Tryz.func164, Tryz.ntmps164
  go_wp2_with fail
  go_loopw [8, 3] (fun i v W => ∃ k : Nat, k ≤ l.length ∧ i = .int .i64 k ∧ Hid (Xown w.heap.size w W v (l.take k))) (fun i _ _ => l.length - (intOf i).toNat)
  case atStart => exact ⟨0, Nat.zero_le _, rfl, Lib.hid (by rw [List.take_zero]; exact Xown.nil _)⟩
  case round =>
   obtain ⟨k, hk, rfl, HW⟩ := hrel
   have hkl : (l.take k).length = k := by rw [List.length_take]; omega
   obtain ⟨AS, capS, hv⟩ := HW.out.slice
   rw [hkl] at hv
   subst hv
   by_cases hkn : k < l.length
   ·obtain ⟨x, hx⟩ : ∃ x, l[k]? = some x := ⟨_, List.getElem?_eq_getElem hkn⟩
    obtain ⟨h, l'⟩ := x
    have HT := Lib.hid (show l.take (k + 1) = l.take k ++ [.mk h l'] by rw [List.take_add_one, hx]; rfl)
    have hc := cntL_mem hx
    rw [cnt_mk] at hc
    obtain ⟨g, off, A', cap', rfl, hg, hX, hle', hl'⟩ := HXs.out.at hx
    have hXr := hX.of (HW.out.bel.block g hg)
    have hgr : g < wr.heap.size := Nat.lt_of_lt_of_le hg HW.out.bel.size
    obtain ⟨c0, c1, c2, c3, c4, c5, c6, c7⟩ := hXr
    have HC := Lib.hid (copyOf_of h l' (wr.alloc (xbox h A' l'.length cap')) A' cap' (fun w1 hb1 => HI.out l' (by have := HL.out; omega) (by omega) w1 A' cap' (by
     have hb := HW.out.bel.trans ((ba wr (xbox h A' l'.length cap')).mono HW.out.bel.size |>.trans (hb1.mono (by rw [World.size_alloc]; have := HW.out.bel.size; omega)))
     exact XsB.go (fun k hk => hb.block k hk) (fun k hk => Nat.lt_of_lt_of_le hk hb.size) _ _ hl')))
    clear hX hl' hx hc hg
    go_wp2_with fail
    refine HC.out.mono ?_
    rintro e w3 ⟨A3, cap3, rfl, hle3, hx3, hb3⟩
    have hb13 := bt (ba wr (xbox h A' l'.length cap')) hb3
    have H3 := HW.out.below hb13
    obtain ⟨q, hq⟩ := H3.row
    have hq2 := hq.2
    rw [hkl] at hq2
    have hxr : XR (Ot w.heap.size w3 (.slice AS k capS)) w3 (.mk h l') (h, A3, l'.length, cap3) := by
     refine ⟨rfl, rfl, hle3, XsB.go (fun _ _ => rfl) (fun j hj => ⟨?_, hj.2, fun e => ?_⟩) _ _ hx3⟩
     ·have := hj.1; rw [World.size_alloc] at this; have := HW.out.bel.size; omega
     ·obtain ⟨q0, hq0⟩ := HW.out.row
      have := (hq0.2.lt j e).2
      have h2 := hj.1; rw [World.size_alloc] at h2; omega
    have HQ2 := Lib.hid hq2
    have HH3 := Lib.hid (show ∀ o v' w', w'.ownsRow w.heap.size 37 8 v' (k + 1) (xcells q ++ xcell (h, A3, l'.length, cap3)) → (w3.alloc o).grownBy w' (Value.ownBlock (.slice AS k capS)) →
      (v'.ownBlock = Value.ownBlock (.slice AS k capS) ∨ v'.ownBlock = some (w3.heap.size + 1)) → Xown w.heap.size w w' v' (l.take (k + 1)) from fun o v' w' ho hg hat => by
     rw [HT.out]
     exact H3.grow hq hxr (by rw [hkl]; exact ho) hg (by rw [World.size_alloc]; exact hat))
    have HLE := Lib.hid H3.le
    clear hq2 hxr hq H3 hb13 hb3 hx3 hle3 c0 c1 c2 c3 c4 c5 c6 c7
    go_wp2_with (at_builtin; refine wpList_append_own_at _ rfl _ _ 35 rfl w.heap.size 37 i0 _ 8 104 Tryz.underlying35 hi hz0 hz1 hz2 rfl (by decide) _ _ _ rfl (HQ2.out.alloc _) ⟨w3.heap.size, 0, none⟩ 1 1 (xcell (h, A3, l'.length, cap3)) rfl rfl (xnews _ _ _) (xcell_one _) ?c3 ?c4 ?c5 ?_)
    case c3 => unfold maxLen; omega
    case c4 => omega
    case c5 => have := HLE.out; simp; omega
    intro v' w4 hown' hg4 _ hat
    have HG := Lib.hid (HH3.out _ _ _ hown' hg4 hat)
    clear hown' hg4 hat
    go_wp2_with fail
    go_roundw
    case rel => exact ⟨k + 1, by omega, by go_num, HG⟩
    case measure => simp [intOf]; omega
   ·obtain rfl : k = l.length := by omega
    obtain ⟨A2, cap2, hv2, hle2, hx2⟩ := HW.out.xsB
    rw [List.take_length] at hv2 hle2 hx2
    have HE := Lib.hid hx2
    have HB := Lib.hid HW.out.bel
    obtain ⟨rfl, _, rfl⟩ := Value.slice.inj hv2
    clear hx2 hv2
    go_wp2_with fail
    go_ret
    exact ⟨AS, capS, rfl, hle2, HE.out, HB.out⟩
theorem copyAll_any (l : List Ex) (w : World) (A : Option Addr) (cap : Nat) (hc : cntL l ≤ 1000000) (hX : XsAt w.heap.size w l A) :
  Calls Tryz.prog 164 #[.slice A l.length cap] w (CopyL w l) := copyAll_n _ l hc (Nat.le_refl _) w A cap hX
theorem copyOf_any (h : Hd) (l : List Ex) (w : World) (A : Option Addr) (cap : Nat) (hc : cntL l ≤ 1000000) (hX : XsAt w.heap.size w l A) :
  Calls Tryz.prog 160 #[XV h A l.length cap] w (CopyE w (.mk h l)) :=
 copyOf_of h l w A cap fun w1 hb => copyAll_any l w1 A cap hc (XsB.go (fun k hk => hb.block k hk) (fun _ hk => Nat.lt_of_lt_of_le hk hb.size) _ _ hX)
abbrev hdL (k n : Int) (s : ByteArray) : Hd := ⟨1, 0, k, n, s, ⟨#[]⟩, ⟨#[]⟩⟩
abbrev hdC (t c : ByteArray) : Hd := ⟨2, 0, 0, 0, ⟨#[]⟩, t, c⟩
abbrev hdO (n : Int) : Hd := ⟨3, n, 0, 0, ⟨#[]⟩, ⟨#[]⟩, ⟨#[]⟩⟩
abbrev hdA (n : Int) : Hd := ⟨4, n, 0, 0, ⟨#[]⟩, ⟨#[]⟩, ⟨#[]⟩⟩
theorem lit_any (k n : Int) (s : ByteArray) (w : World) :
  Calls Tryz.prog 169 #[VV k n s] w fun e w' => e = .returned (XV (hdL k n s) none 0 0) ∧ Below w.heap.size w w' := by
 go_enter Tryz.func169, Tryz.ntmps169
 go_wp2
 refine bodyPost_ret (v := XV (hdL k n s) none 0 0) (by simp [results, Tryz.results169, go_sem]) rfl ⟨rfl, ?_⟩
 exact ba2 w _ _
theorem refLit_any (k n : Int) (s : ByteArray) (w : World) :
  Calls Tryz.prog 177 #[VV k n s] w fun e w' => e = .returned (XV (hdL k n s) none 0 0) ∧ Below w.heap.size w w' := by
 go_enter Tryz.func177, Tryz.ntmps177
 go_wp2
 refine bodyPost_ret (v := XV (hdL k n s) none 0 0) (by simp [results, Tryz.results177, go_sem]) rfl ⟨rfl, ?_⟩
 exact ba2 w _ _
theorem column_any (t c : ByteArray) (w : World) :
  Calls Tryz.prog 130 #[.string t, .string c] w fun e w' => e = .returned (XV (hdC t c) none 0 0) ∧ Below w.heap.size w w' := by
 go_enter Tryz.func130, Tryz.ntmps130
 go_wp2
 refine bodyPost_ret (v := XV (hdC t c) none 0 0) (by simp [results, Tryz.results130, go_sem]) rfl ⟨rfl, ?_⟩
 exact ba w _
theorem refColumn_any (t c : ByteArray) (w : World) :
  Calls Tryz.prog 134 #[.string t, .string c] w fun e w' => e = .returned (XV (hdC t c) none 0 0) ∧ Below w.heap.size w w' := by
 go_enter Tryz.func134, Tryz.ntmps134
 go_wp2
 refine bodyPost_ret (v := XV (hdC t c) none 0 0) (by simp [results, Tryz.results134, go_sem]) rfl ⟨rfl, ?_⟩
 exact ba w _
theorem refOp_any (n : Int) (A : Option Addr) (len cap : Nat) (w : World) :
  Calls Tryz.prog 64 #[.int .i64 n, .slice A len cap] w fun e w' => e = .returned (XV (hdO n) A len cap) ∧ Below w.heap.size w w' := by
 go_enter Tryz.func64, Tryz.ntmps64
 go_wp2
 refine bodyPost_ret (v := XV (hdO n) A len cap) (by simp [results, Tryz.results64, go_sem]) rfl ⟨rfl, ?_⟩
 exact ba w _
set_option maxHeartbeats 1000000 in
theorem agg_any (n : Int) (l : List Ex) (w : World) (A : Option Addr) (cap : Nat) (hc : cntL l ≤ 1000000) (hX : XsAt w.heap.size w l A) :
  Calls Tryz.prog 182 #[.int .i64 n, .slice A l.length cap] w (CopyE w (.mk (hdA n) l)) := by
 have HC := Lib.hid (copyAll_any l (w.alloc x0) A cap hc (hX.next (ba w x0)))
 have HX1 := Lib.hid ((MapKept.heap_alloc w x0).1)
 clear hX
 go_enter Tryz.func182, Tryz.ntmps182
 go_wp2_with fail
 refine HC.out.mono ?_
 rintro e w3 ⟨A3, cap3, rfl, hle3, hx3, hb3⟩
 have hX1 := (hb3.block w.heap.size (by rw [World.size_alloc]; omega)).trans HX1.out
 have HB := Lib.hid (bt (ba w x0) hb3)
 have HXB := Lib.hid hx3
 obtain ⟨⟨c0, c1, c2, c3, c4, c5, c6, c7⟩, f0, f1, f2, f3, f4, f5, f6, f7⟩ := cell8 hX1
 have HZ := Lib.hid (set8_box hX1 (.int .i64 (hdA n).k) (.int .i64 n) (.int .i64 0) (.int .i64 0) (.string ⟨#[]⟩) (.string ⟨#[]⟩) (.string ⟨#[]⟩) (.slice A3 l.length cap3))
 clear hX1 hb3 hx3 HC HX1
 go_wp2_with fail
 obtain ⟨⟨q0, q1, q2, q3, q4, q5, q6, q7⟩, _⟩ := cell8 HZ.out
 refine bodyPost_ret (v := XV (hdA n) A3 l.length cap3) (by simp [results, Tryz.results182, go_sem, q0, q1, q2, q3, q4, q5, q6, q7]) rfl ⟨A3, cap3, rfl, hle3, ?_, ?_⟩
 ·refine XsB.go (fun k hk => set8_other (by have := hk.1; rw [World.size_alloc] at this; omega) _ _ _ _ _ _ _ _) (fun k hk => ⟨by have := hk.1; rw [World.size_alloc] at this; omega, ?_⟩) _ _ HXB.out
  rw [set8_size]; exact hk.2
 ·exact set8_below HB.out (Nat.le_refl _) _ _ _ _ _ _ _ _
end Go.Proofs.YtfjimoccliejdaaGreatDoor
end
section
namespace Go.Proofs.YtfjimoccliejdaaGreatDoor.Pa
open Lx (B Tok)

structure Ps where
 ts : List TkA
 bad : Bool
def Ps.tk (s : Ps) : Tok := (s.ts.headD (⟨6, [], 0⟩, 0)).1
def Ps.at (s : Ps) : Nat := (s.ts.headD (⟨6, [], 0⟩, 0)).2
def isW (w : B) (t : Tok) : Bool := (t.s == w) && (t.k == 2 || t.k == 5)
def takeW (w : B) (s : Ps) : Bool × Ps := if !s.bad && isW w s.tk then (true, ⟨s.ts.tail, false⟩) else (false, s)
def mustW (w : B) (s : Ps) : Ps := if (takeW w s).1 then (takeW w s).2 else ⟨s.ts, true⟩
def takeK (k : Nat) (s : Ps) : Option Tok × Ps := if !s.bad && s.tk.k == k then (some s.tk, ⟨s.ts.tail, false⟩) else (none, s)
def noTok : Tok := ⟨0, [], 0⟩
def mustK (k : Nat) (s : Ps) : Tok × Ps := match takeK k s with | (some t, s1) => (t, s1) | (none, s1) => (noTok, ⟨s1.ts, true⟩)
def Fin (ts : List TkA) : Prop := ∃ l e, ts = l ++ [e] ∧ e.1.k = 6 ∧ ∀ x ∈ l, x.1.k ≠ 6
theorem Fin.ne {ts : List TkA} (h : Fin ts) : 0 < ts.length := by obtain ⟨l, e, rfl, _, _⟩ := h; simp
theorem Fin.tail {s : Ps} (h : Fin s.ts) (hk : s.tk.k ≠ 6) : Fin s.ts.tail ∧ s.ts.tail.length + 1 = s.ts.length := by
 obtain ⟨l, e, hl, he, ha⟩ := h
 cases l with
 | nil => unfold Ps.tk at hk; rw [hl] at hk; exact absurd he hk
 | cons x l =>
  rw [hl]
  exact ⟨⟨l, e, rfl, he, fun y hy => ha y (List.mem_cons_of_mem _ hy)⟩, by simp⟩
structure Le (s s' : Ps) : Prop where
 fin : Fin s'.ts
 len : s'.ts.length ≤ s.ts.length
 stay : s.bad = true → s' = s
 sfx : s'.ts <:+ s.ts
theorem Le.refl {s : Ps} (h : Fin s.ts) : Le s s := ⟨h, Nat.le_refl _, (fun _ => rfl), List.suffix_refl _⟩
theorem Le.trans {a b c : Ps} (h : Le a b) (k : Le b c) : Le a c := ⟨k.fin, Nat.le_trans k.len h.len, (fun e => by
 have e1 := h.stay e
 subst e1
 exact k.stay e), k.sfx.trans h.sfx⟩
theorem isW_k {w : B} {t : Tok} (h : isW w t = true) : t.k ≠ 6 := by
 unfold isW at h
 simp only [Bool.and_eq_true, Bool.or_eq_true, beq_iff_eq] at h
 omega
theorem takeW_le (w : B) {s : Ps} (h : Fin s.ts) : Le s (takeW w s).2 ∧ ((takeW w s).1 = true → s.bad = false ∧ (takeW w s).2.bad = false ∧ (takeW w s).2.ts.length + 1 = s.ts.length) ∧ ((takeW w s).1 = false → (takeW w s).2 = s) := by
 unfold takeW
 split
 ·rename_i hc
  simp only [Bool.and_eq_true, Bool.not_eq_true'] at hc
  obtain ⟨h1, h2⟩ := h.tail (isW_k hc.2)
  exact ⟨⟨h1, (show s.ts.tail.length ≤ s.ts.length by omega), (fun e => by rw [hc.1] at e; cases e), List.tail_suffix _⟩, fun _ => ⟨hc.1, rfl, h2⟩, fun e => by cases e⟩
 ·exact ⟨Le.refl h, (fun e => by cases e), fun _ => rfl⟩
theorem mustW_le (w : B) {s : Ps} (h : Fin s.ts) : Le s (mustW w s) := by
 unfold mustW
 obtain ⟨h1, h2, h3⟩ := takeW_le w h
 cases hb : (takeW w s).1 with
 | true => rw [if_pos rfl]; exact h1
 | false =>
  rw [if_neg (by simp)]
  exact ⟨h, Nat.le_refl _, (fun e => by cases s; simp only at e; subst e; rfl), List.suffix_refl _⟩
theorem takeK_le {k : Nat} (hk : k ≠ 6) {s : Ps} (h : Fin s.ts) : Le s (takeK k s).2 ∧ (∀ t, (takeK k s).1 = some t → s.bad = false ∧ t = s.tk ∧ t.k = k ∧ (takeK k s).2.bad = false ∧ (takeK k s).2.ts.length + 1 = s.ts.length) ∧ ((takeK k s).1 = none → (takeK k s).2 = s) := by
 unfold takeK
 split
 ·rename_i hc
  simp only [Bool.and_eq_true, Bool.not_eq_true', beq_iff_eq] at hc
  obtain ⟨h1, h2⟩ := h.tail (by rw [hc.2]; exact hk)
  exact ⟨⟨h1, (show s.ts.tail.length ≤ s.ts.length by omega), (fun e => by rw [hc.1] at e; cases e), List.tail_suffix _⟩, (fun t e => by cases e; exact ⟨hc.1, rfl, hc.2, rfl, h2⟩), fun e => by cases e⟩
 ·exact ⟨Le.refl h, (fun t e => by cases e), fun _ => rfl⟩
theorem mustK_le {k : Nat} (hk : k ≠ 6) {s : Ps} (h : Fin s.ts) : Le s (mustK k s).2 := by
 unfold mustK
 obtain ⟨h1, h2, h3⟩ := takeK_le hk h
 split
 ·rename_i t s1 e; rw [e] at h1; exact h1
 ·rename_i s1 e
  rw [e] at h3
  have := h3 rfl
  subst this
  exact ⟨h, Nat.le_refl _, (fun e => by cases s1; simp only at e; subst e; rfl), List.suffix_refl _⟩

def begins : Nat → B
 | 1 => [79, 82] | 2 => [65, 78, 68] | 4 => [61] | 5 => [60, 62] | 6 => [60] | 7 => [60, 61] | 8 => [62] | 9 => [62, 61]
 | 10 => [43] | 11 => [45] | 12 => [42] | 13 => [47] | 14 => [37] | 16 => [73, 83] | _ => []
abbrev wNOT : B := [78, 79, 84]
abbrev wNULL : B := [78, 85, 76, 76]
def nullP (s : Ps) : Nat × Ps := (if (takeW wNOT s).1 then 17 else 16, mustW wNULL (takeW wNOT s).2)
def operP : List Nat → Ps → Nat × Ps
 | [], s => (0, s)
 | op :: r, s => if (takeW (begins op) s).1 then (if op = 16 then nullP (takeW (begins op) s).2 else (op, (takeW (begins op) s).2)) else operP r s
theorem nullP_le {s : Ps} (h : Fin s.ts) : Le s (nullP s).2 := (takeW_le _ h).1.trans (mustW_le _ (takeW_le _ h).1.fin)
theorem operP_le : ∀ (ops : List Nat) {s : Ps}, Fin s.ts → (∀ op ∈ ops, op ≠ 0) → Le s (operP ops s).2 ∧ ((operP ops s).1 ≠ 0 → s.bad = false ∧ (operP ops s).2.ts.length + 1 ≤ s.ts.length) ∧ ((operP ops s).1 = 0 → (operP ops s).2 = s)
 | [], s, h, _ => ⟨Le.refl h, (fun e => absurd rfl e), fun _ => rfl⟩
 | op :: r, s, h, hn => by
  rw [operP]
  obtain ⟨h1, h2, h3⟩ := takeW_le (begins op) h
  cases hb : (takeW (begins op) s).1 with
  | true =>
   obtain ⟨hs, _, hl⟩ := h2 hb
   rw [if_pos rfl]
   split
   ·have hle := nullP_le h1.fin
    refine ⟨h1.trans hle, (fun _ => ⟨hs, by have := hle.len; omega⟩), fun e => ?_⟩
    unfold nullP at e
    simp only at e
    split at e <;> cases e
   ·exact ⟨h1, (fun _ => ⟨hs, by simp only; omega⟩), fun e => absurd e (hn op (List.mem_cons_self ..))⟩
  | false =>
   rw [if_neg (by simp)]
   exact operP_le r h fun o ho => hn o (List.mem_cons_of_mem _ ho)
def isOne (op : Nat) : Bool := op == 3 || op == 15 || op == 16 || op == 17
def mkOp (op : Nat) (l : List Ex) : Ex := .mk (hdO (op : Nat)) l
def rowP (part : Ps → Ex × Ps) (ops : List Nat) : Nat → Ex → Ps → Ex × Ps
 | 0, e, s => (e, s)
 | n + 1, e, s =>
  if (operP ops s).1 = 0 then (e, s)
  else if isOne (operP ops s).1 then rowP part ops n (mkOp (operP ops s).1 [e]) (operP ops s).2
  else rowP part ops n (mkOp (operP ops s).1 [e, (part (operP ops s).2).1]) (part (operP ops s).2).2
theorem rowP_le {part : Ps → Ex × Ps} {ops : List Nat} {m : Nat} (hp : ∀ s, Fin s.ts → s.ts.length ≤ m → Le s (part s).2) (hn : ∀ op ∈ ops, op ≠ 0) : ∀ (n : Nat) (e : Ex) (s : Ps), Fin s.ts → s.ts.length ≤ m + 1 → Le s (rowP part ops n e s).2
 | 0, e, s, h, _ => Le.refl h
 | n + 1, e, s, h, hm => by
  rw [rowP]
  obtain ⟨h1, h2, h3⟩ := operP_le ops h hn
  split
  ·exact Le.refl h
  ·rename_i hz
   have hl := (h2 hz).2
   split
   ·exact h1.trans (rowP_le hp hn n _ _ h1.fin (by omega))
   ·have h4 := hp _ h1.fin (by omega)
    exact h1.trans (h4.trans (rowP_le hp hn n _ _ h4.fin (by have := h4.len; omega)))
theorem rowP_stop {part : Ps → Ex × Ps} {ops : List Nat} {n : Nat} {e : Ex} {s : Ps} (h : (operP ops s).1 = 0) : rowP part ops n e s = (e, s) := by
 cases n with
 | zero => rfl
 | succ n => rw [rowP, if_pos h]

def bst (l : B) : ByteArray := ⟨l.toArray⟩
def exLit (k n : Int) (s : B) : Ex := .mk (hdL k n (bst s)) []
def exCol (t c : B) : Ex := .mk (hdC (bst t) (bst c)) []
def exAgg (n : Nat) (l : List Ex) : Ex := .mk (hdA (n : Nat)) l
abbrev wTRUE : B := [84, 82, 85, 69]
abbrev wFALSE : B := [70, 65, 76, 83, 69]
abbrev wCOUNT : B := [67, 79, 85, 78, 84]
abbrev wSUM : B := [83, 85, 77]
abbrev wMIN : B := [77, 73, 78]
abbrev wMAX : B := [77, 65, 88]
def colP (s : Ps) : Ex × Ps :=
 if (takeW [46] (mustK 1 s).2).1 then (exCol (mustK 1 s).1.s (mustK 1 (takeW [46] (mustK 1 s).2).2).1.s, (mustK 1 (takeW [46] (mustK 1 s).2).2).2)
 else (exCol [] (mustK 1 s).1.s, (mustK 1 s).2)
theorem colP_le {s : Ps} (h : Fin s.ts) : Le s (colP s).2 := by
 unfold colP
 have h1 := mustK_le (k := 1) (by decide) h
 have h2 := (takeW_le [46] h1.fin).1
 split
 ·exact h1.trans (h2.trans (mustK_le (by decide) h2.fin))
 ·exact h1
def enclP (or : Ps → Ex × Ps) (s : Ps) : Ex × Ps := ((or s).1, mustW [41] (or s).2)
def aggP (or : Ps → Ex × Ps) (n : Nat) (s : Ps) : Ex × Ps := (exAgg n [(enclP or (mustW [40] s)).1], (enclP or (mustW [40] s)).2)
def countP (or : Ps → Ex × Ps) (s : Ps) : Ex × Ps :=
 if (takeW [42] (mustW [40] s)).1 then (exAgg 1 [], mustW [41] (takeW [42] (mustW [40] s)).2) else aggP or 2 s
def firstP (or : Ps → Ex × Ps) (s : Ps) : Ex × Ps :=
 match (takeK 3 s).1 with
 | some t => (exLit 2 t.n [], (takeK 3 s).2)
 | none => match (takeK 4 s).1 with
  | some t => (exLit 3 0 t.s, (takeK 4 s).2)
  | none =>
   if (takeW wTRUE s).1 then (exLit 1 1 [], (takeW wTRUE s).2)
   else if (takeW wFALSE s).1 then (exLit 1 0 [], (takeW wFALSE s).2)
   else if (takeW wNULL s).1 then (exLit 0 0 [], (takeW wNULL s).2)
   else if (takeW [40] s).1 then enclP or (takeW [40] s).2
   else if (takeW wCOUNT s).1 then countP or (takeW wCOUNT s).2
   else if (takeW wSUM s).1 then aggP or 3 (takeW wSUM s).2
   else if (takeW wMIN s).1 then aggP or 4 (takeW wMIN s).2
   else if (takeW wMAX s).1 then aggP or 5 (takeW wMAX s).2
   else colP s
def opsAt : Nat → List Nat
 | 0 => [1] | 1 => [2] | 3 => [4, 5, 6, 7, 8, 9, 16] | 4 => [10, 11] | 5 => [12, 13, 14] | _ => []
def lev : Nat → Nat → Ps → Ex × Ps
 | 0, _, s => (exLit 0 0 [], ⟨s.ts, true⟩)
 | f + 1, k, s =>
  if k = 2 then (if (takeW wNOT s).1 then (mkOp 3 [(lev f 2 (takeW wNOT s).2).1], (lev f 2 (takeW wNOT s).2).2) else lev f 3 s)
  else if k = 6 then (if (takeW [45] s).1 then (mkOp 15 [(lev f 6 (takeW [45] s).2).1], (lev f 6 (takeW [45] s).2).2) else lev f 7 s)
  else if k = 7 then firstP (lev f 0) s
  else rowP (lev f (k + 1)) (opsAt k) (lev f (k + 1) s).2.ts.length (lev f (k + 1) s).1 (lev f (k + 1) s).2
theorem encl_le {or : Ps → Ex × Ps} {s : Ps} (h : Le s (or s).2) : Le s (enclP or s).2 := h.trans (mustW_le _ h.fin)
theorem agg_le {or : Ps → Ex × Ps} {n : Nat} {s : Ps} (hs : Fin s.ts) (h : ∀ s', Fin s'.ts → s'.ts.length ≤ s.ts.length → Le s' (or s').2) : Le s (aggP or n s).2 := by
 have h1 := mustW_le [40] hs
 exact h1.trans (encl_le (h _ h1.fin h1.len))
theorem count_le {or : Ps → Ex × Ps} {s : Ps} (hs : Fin s.ts) (h : ∀ s', Fin s'.ts → s'.ts.length ≤ s.ts.length → Le s' (or s').2) : Le s (countP or s).2 := by
 unfold countP
 have h1 := mustW_le [40] hs
 have h2 := (takeW_le [42] h1.fin).1
 split
 ·exact h1.trans (h2.trans (mustW_le _ h2.fin))
 ·exact agg_le hs h
theorem first_le {or : Ps → Ex × Ps} {s : Ps} (hs : Fin s.ts) (h : ∀ s', Fin s'.ts → s'.ts.length + 1 ≤ s.ts.length → Le s' (or s').2) : Le s (firstP or s).2 := by
 have tk : ∀ w, (takeW w s).1 = true → Le s (takeW w s).2 ∧ (takeW w s).2.ts.length + 1 = s.ts.length := fun w hw => ⟨(takeW_le w hs).1, ((takeW_le w hs).2.1 hw).2.2⟩
 unfold firstP
 split
 ·exact (takeK_le (by decide) hs).1
 ·split
  ·exact (takeK_le (by decide) hs).1
  ·split
   ·exact (takeW_le _ hs).1
   split
   ·exact (takeW_le _ hs).1
   split
   ·exact (takeW_le _ hs).1
   split
   ·rename_i hw
    obtain ⟨h1, h2⟩ := tk _ hw
    exact h1.trans (encl_le (h _ h1.fin (by omega)))
   split
   ·rename_i hw
    obtain ⟨h1, h2⟩ := tk _ hw
    exact h1.trans (count_le h1.fin fun s' hf hl => h s' hf (by omega))
   split
   ·rename_i hw
    obtain ⟨h1, h2⟩ := tk _ hw
    exact h1.trans (agg_le h1.fin fun s' hf hl => h s' hf (by omega))
   split
   ·rename_i hw
    obtain ⟨h1, h2⟩ := tk _ hw
    exact h1.trans (agg_le h1.fin fun s' hf hl => h s' hf (by omega))
   split
   ·rename_i hw
    obtain ⟨h1, h2⟩ := tk _ hw
    exact h1.trans (agg_le h1.fin fun s' hf hl => h s' hf (by omega))
   ·exact colP_le hs
theorem ops_pos (k : Nat) : ∀ op ∈ opsAt k, op ≠ 0 := by
 intro op h
 unfold opsAt at h
 split at h <;> simp at h <;> omega
theorem lev_le : ∀ (f k : Nat) (s : Ps), Fin s.ts → Le s (lev f k s).2
 | 0, k, s, h => by rw [lev]; exact ⟨h, Nat.le_refl _, (fun e => by cases s; simp only at e; subst e; rfl), List.suffix_refl _⟩
 | f + 1, k, s, h => by
  have row : ∀ k, Le s (rowP (lev f (k + 1)) (opsAt k) (lev f (k + 1) s).2.ts.length (lev f (k + 1) s).1 (lev f (k + 1) s).2).2 := fun k => by
   have h1 := lev_le f (k + 1) s h
   exact h1.trans (rowP_le (m := s.ts.length) (fun s' hf _ => lev_le f (k + 1) s' hf) (ops_pos k) _ _ _ h1.fin (by have := h1.len; omega))
  rw [lev]
  split
  ·have h1 := (takeW_le wNOT h).1
   split
   ·exact h1.trans (lev_le f 2 _ h1.fin)
   ·exact lev_le f 3 s h
  split
  ·have h1 := (takeW_le [45] h).1
   split
   ·exact h1.trans (lev_le f 6 _ h1.fin)
   ·exact lev_le f 7 s h
  split
  ·exact first_le h fun s' hf _ => lev_le f 0 s' hf
  ·exact row _
end Go.Proofs.YtfjimoccliejdaaGreatDoor.Pa
end
section
namespace Go.Proofs.YtfjimoccliejdaaGreatDoor.Pa
open Lx (B Tok)

def exZ : Ex := .mk ⟨0, 0, 0, 0, ⟨#[]⟩, ⟨#[]⟩, ⟨#[]⟩⟩ []
structure Itm where
 star : Bool
 e : Ex
 nm : B
structure Src where
 tb : B
 nm : B
 join : Nat
 on : Ex
structure Sel where
 dist : Bool
 its : List Itm
 frs : List Src
 wh : Ex
 grp : List Ex
structure Ky where
 nm : B
 down : Bool
structure Qu where
 parts : List Sel
 order : List Ky
 lim : Int
def takeAll (w : B) (ws : List B) (s : Ps) : Bool × Ps := if (takeW w s).1 then (true, ws.foldl (fun s w => mustW w s) (takeW w s).2) else (false, s)
theorem musts_le : ∀ (ws : List B) {s : Ps}, Fin s.ts → Le s (ws.foldl (fun s w => mustW w s) s)
 | [], _, h => Le.refl h
 | w :: ws, _, h => (mustW_le w h).trans (musts_le ws (mustW_le w h).fin)
theorem takeAll_le (w : B) (ws : List B) {s : Ps} (h : Fin s.ts) : Le s (takeAll w ws s).2 ∧ ((takeAll w ws s).1 = true → s.bad = false ∧ (takeAll w ws s).2.ts.length + 1 ≤ s.ts.length) ∧ ((takeAll w ws s).1 = false → (takeAll w ws s).2 = s) := by
 unfold takeAll
 obtain ⟨h1, h2, h3⟩ := takeW_le w h
 cases hb : (takeW w s).1 with
 | true =>
  rw [if_pos rfl]
  have h4 := musts_le ws h1.fin
  refine ⟨h1.trans h4, fun _ => ⟨(h2 hb).1, ?_⟩, fun e => by cases e⟩
  have := h4.len
  have := (h2 hb).2.2
  simp only
  omega
 | false => rw [if_neg (by simp)]; exact ⟨Le.refl h, (fun e => by cases e), fun _ => rfl⟩
def moreP {α : Type} (thing : Ps → α × Ps) (w : B) (ws : List B) : Nat → List α → Ps → List α × Ps
 | 0, l, s => (l, s)
 | n + 1, l, s => if (takeAll w ws s).1 then moreP thing w ws n (l ++ [(thing (takeAll w ws s).2).1]) (thing (takeAll w ws s).2).2 else (l, s)
def listP {α : Type} (thing : Ps → α × Ps) (w : B) (ws : List B) (s : Ps) : List α × Ps := moreP thing w ws (thing s).2.ts.length [(thing s).1] (thing s).2
theorem moreP_le {α : Type} {thing : Ps → α × Ps} {w : B} {ws : List B} (ht : ∀ s, Fin s.ts → Le s (thing s).2) : ∀ (n : Nat) (l : List α) {s : Ps}, Fin s.ts → Le s (moreP thing w ws n l s).2
 | 0, _, s, h => Le.refl h
 | n + 1, l, s, h => by
  rw [moreP]
  have h1 := (takeAll_le w ws h).1
  split
  ·have h2 := ht _ h1.fin
   exact h1.trans (h2.trans (moreP_le ht n _ h2.fin))
  ·exact Le.refl h
theorem listP_le {α : Type} {thing : Ps → α × Ps} {w : B} {ws : List B} (ht : ∀ s, Fin s.ts → Le s (thing s).2) {s : Ps} (h : Fin s.ts) : Le s (listP thing w ws s).2 :=
 (ht s h).trans (moreP_le ht _ _ (ht s h).fin)
theorem moreP_stop {α : Type} {thing : Ps → α × Ps} {w : B} {ws : List B} {n : Nat} {l : List α} {s : Ps} (h : (takeAll w ws s).1 = false) : moreP thing w ws n l s = (l, s) := by
 cases n with
 | zero => rfl
 | succ n => rw [moreP, if_neg (by rw [h]; simp)]

abbrev wAS : B := [65, 83]
abbrev wON : B := [79, 78]
abbrev wBY : B := [66, 89]
abbrev wJOIN : B := [74, 79, 73, 78]
abbrev wLEFT : B := [76, 69, 70, 84]
abbrev wSEMI : B := [83, 69, 77, 73]
abbrev wANTI : B := [65, 78, 84, 73]
abbrev wSELECT : B := [83, 69, 76, 69, 67, 84]
abbrev wDISTINCT : B := [68, 73, 83, 84, 73, 78, 67, 84]
abbrev wFROM : B := [70, 82, 79, 77]
abbrev wWHERE : B := [87, 72, 69, 82, 69]
abbrev wGROUP : B := [71, 82, 79, 85, 80]
abbrev wORDER : B := [79, 82, 68, 69, 82]
abbrev wLIMIT : B := [76, 73, 77, 73, 84]
abbrev wUNION : B := [85, 78, 73, 79, 78]
abbrev wALL : B := [65, 76, 76]
abbrev wDESC : B := [68, 69, 83, 67]
def nameP (s : Ps) : B × Ps := ((mustK 1 s).1.s, (mustK 1 s).2)
theorem nameP_le {s : Ps} (h : Fin s.ts) : Le s (nameP s).2 := mustK_le (by decide) h
def asP (d : B) (s : Ps) : B × Ps := if (takeW wAS s).1 then nameP (takeW wAS s).2 else (d, s)
theorem asP_le (d : B) {s : Ps} (h : Fin s.ts) : Le s (asP d s).2 := by
 unfold asP
 have h1 := (takeW_le wAS h).1
 split
 ·exact h1.trans (nameP_le h1.fin)
 ·exact Le.refl h
section
variable (or : Ps → Ex × Ps)
def itemP (s : Ps) : Itm × Ps :=
 if (takeW [42] s).1 then (⟨true, exZ, []⟩, (takeW [42] s).2)
 else (⟨false, (or s).1, (asP [] (or s).2).1⟩, (asP [] (or s).2).2)
def sourceP (s : Ps) : Src × Ps := (⟨(nameP s).1, (asP (nameP s).1 (nameP s).2).1, 0, exZ⟩, (asP (nameP s).1 (nameP s).2).2)
def joinP (s : Ps) : Nat × Ps :=
 if (takeW wJOIN s).1 then (1, (takeW wJOIN s).2)
 else if (takeAll wLEFT [wJOIN] s).1 then (2, (takeAll wLEFT [wJOIN] s).2)
 else if (takeAll wSEMI [wJOIN] s).1 then (3, (takeAll wSEMI [wJOIN] s).2)
 else if (takeAll wANTI [wJOIN] s).1 then (4, (takeAll wANTI [wJOIN] s).2)
 else (0, s)
def joinedP (k : Nat) (s : Ps) : Src × Ps :=
 (⟨(sourceP s).1.tb, (sourceP s).1.nm, k, (or (mustW wON (sourceP s).2)).1⟩, (or (mustW wON (sourceP s).2)).2)
def sourcesP : Nat → List Src → Ps → List Src × Ps
 | 0, l, s => (l, s)
 | n + 1, l, s => if (joinP s).1 = 0 then (l, s) else sourcesP n (l ++ [(joinedP or (joinP s).1 (joinP s).2).1]) (joinedP or (joinP s).1 (joinP s).2).2
def fromP (s : Ps) : List Src × Ps := sourcesP or (sourceP s).2.ts.length [(sourceP s).1] (sourceP s).2
def whereP (s : Ps) : Ex × Ps := if (takeW wWHERE s).1 then or (takeW wWHERE s).2 else (exZ, s)
def groupP (s : Ps) : List Ex × Ps := if (takeAll wGROUP [wBY] s).1 then listP colP [44] [] (takeAll wGROUP [wBY] s).2 else ([], s)
def partP (s : Ps) : Sel × Ps :=
 let s1 := mustW wSELECT s
 let d := takeW wDISTINCT s1
 let i := listP (itemP or) [44] [] d.2
 let f := fromP or (mustW wFROM i.2)
 let w := whereP or f.2
 let g := groupP w.2
 (⟨d.1, i.1, f.1, w.1, g.1⟩, g.2)
def keyP (s : Ps) : Ky × Ps := (⟨(nameP s).1, (takeW wDESC (nameP s).2).1⟩, (takeW wDESC (nameP s).2).2)
def orderP (s : Ps) : List Ky × Ps := if (takeAll wORDER [wBY] s).1 then listP keyP [44] [] (takeAll wORDER [wBY] s).2 else ([], s)
def limitP (s : Ps) : Int × Ps := if (takeW wLIMIT s).1 then (((mustK 3 (takeW wLIMIT s).2).1.n : Int), (mustK 3 (takeW wLIMIT s).2).2) else (-1, s)
def queryP (s : Ps) : Qu × Ps :=
 let p := listP (partP or) wUNION [wALL] s
 let o := orderP p.2
 let l := limitP o.2
 (⟨p.1, o.1, l.1⟩, l.2)
end
section
variable {or : Ps → Ex × Ps} (ho : ∀ s, Fin s.ts → Le s (or s).2)
include ho
theorem itemP_le {s : Ps} (h : Fin s.ts) : Le s (itemP or s).2 := by
 unfold itemP
 split
 ·exact (takeW_le _ h).1
 ·exact (ho s h).trans (asP_le _ (ho s h).fin)
omit ho in
theorem sourceP_le {s : Ps} (h : Fin s.ts) : Le s (sourceP s).2 := (nameP_le h).trans (asP_le _ (nameP_le h).fin)
omit ho in
theorem joinP_le {s : Ps} (h : Fin s.ts) : Le s (joinP s).2 ∧ ((joinP s).1 ≠ 0 → s.bad = false ∧ (joinP s).2.ts.length + 1 ≤ s.ts.length) ∧ ((joinP s).1 = 0 → (joinP s).2 = s) := by
 unfold joinP
 split
 ·rename_i hw
  obtain ⟨h1, h2, _⟩ := takeW_le wJOIN h
  exact ⟨h1, (fun _ => ⟨(h2 hw).1, by have := (h2 hw).2.2; simp only; omega⟩), fun e => by cases e⟩
 split
 ·rename_i hw; obtain ⟨h1, h2, _⟩ := takeAll_le wLEFT [wJOIN] h; exact ⟨h1, (fun _ => h2 hw), fun e => by cases e⟩
 split
 ·rename_i hw; obtain ⟨h1, h2, _⟩ := takeAll_le wSEMI [wJOIN] h; exact ⟨h1, (fun _ => h2 hw), fun e => by cases e⟩
 split
 ·rename_i hw; obtain ⟨h1, h2, _⟩ := takeAll_le wANTI [wJOIN] h; exact ⟨h1, (fun _ => h2 hw), fun e => by cases e⟩
 ·exact ⟨Le.refl h, (fun e => absurd rfl e), fun _ => rfl⟩
theorem joinedP_le (k : Nat) {s : Ps} (h : Fin s.ts) : Le s (joinedP or k s).2 := by
 have h1 := sourceP_le h
 have h2 := mustW_le wON h1.fin
 exact h1.trans (h2.trans (ho _ h2.fin))
theorem sourcesP_le : ∀ (n : Nat) (l : List Src) {s : Ps}, Fin s.ts → Le s (sourcesP or n l s).2
 | 0, _, s, h => Le.refl h
 | n + 1, l, s, h => by
  rw [sourcesP]
  have h1 := (joinP_le h).1
  split
  ·exact Le.refl h
  ·have h2 := joinedP_le ho (joinP s).1 h1.fin
   exact h1.trans (h2.trans (sourcesP_le n _ h2.fin))
omit ho in
theorem sourcesP_stop {n : Nat} {l : List Src} {s : Ps} (h : (joinP s).1 = 0) : sourcesP or n l s = (l, s) := by
 cases n with
 | zero => rfl
 | succ n => rw [sourcesP, if_pos h]
theorem fromP_le {s : Ps} (h : Fin s.ts) : Le s (fromP or s).2 := (sourceP_le h).trans (sourcesP_le ho _ _ (sourceP_le h).fin)
theorem whereP_le {s : Ps} (h : Fin s.ts) : Le s (whereP or s).2 := by
 unfold whereP
 have h1 := (takeW_le wWHERE h).1
 split
 ·exact h1.trans (ho _ h1.fin)
 ·exact Le.refl h
omit ho in
theorem groupP_le {s : Ps} (h : Fin s.ts) : Le s (groupP s).2 := by
 unfold groupP
 have h1 := (takeAll_le wGROUP [wBY] h).1
 split
 ·exact h1.trans (listP_le (fun _ h => colP_le h) h1.fin)
 ·exact Le.refl h
theorem partP_le {s : Ps} (h : Fin s.ts) : Le s (partP or s).2 := by
 have h1 := mustW_le wSELECT h
 have h2 := (takeW_le wDISTINCT h1.fin).1
 have h3 := listP_le (w := [44]) (ws := []) (fun _ h => itemP_le ho h) h2.fin
 have h4 := mustW_le wFROM h3.fin
 have h5 := fromP_le ho h4.fin
 have h6 := whereP_le ho h5.fin
 exact h1.trans (h2.trans (h3.trans (h4.trans (h5.trans (h6.trans (groupP_le h6.fin))))))
omit ho in
theorem keyP_le {s : Ps} (h : Fin s.ts) : Le s (keyP s).2 := (nameP_le h).trans (takeW_le _ (nameP_le h).fin).1
end
theorem toks_fin {l : B} {a : Nat} {ts : List TkA} {n : Nat} (h : Lx.Toks l a ts n) : Fin ts := by
 induction h with
 | fin _ => exact ⟨[], _, rfl, rfl, fun x hx => by cases hx⟩
 | @tok l w r a t ts n hd ht hf hr ih =>
  obtain ⟨l', e, rfl, he, ha⟩ := ih
  refine ⟨(t, _) :: l', e, rfl, he, fun x hx => ?_⟩
  rcases List.mem_cons.1 hx with rfl | hx
  ·exact (Lx.tok_k ht).1
  ·exact ha x hx
end Go.Proofs.YtfjimoccliejdaaGreatDoor.Pa
end
section
namespace Go.Proofs.YtfjimoccliejdaaGreatDoor
open Go.RowKit Go.Shelf

def isName (s : ByteArray) : Bool := match Lx.cut (bs s) with
 | some (t, z) => decide (t.k = 1) && decide (z = s.size)
 | none => false
set_option maxHeartbeats 1000000 in
theorem name_any (s : ByteArray) (w : World) (hs : s.size ≤ 9223372036854775807) (hT : Tabs w) :
  Calls Tryz.prog 109 #[.string s] w fun e w' => e = .returned (.bool (isName s)) ∧ Below w.heap.size w w' := by
 have HT := Lib.hid hT
 clear hT
 go_enter Tryz.func109, Tryz.ntmps109
 go_wp2_with fail
 refine (cut_any s _ hs HT.out).mono ?_
 rintro e w2 ⟨v, rfl, hv, hb⟩
 have HB := Lib.hid hb
 clear hb
 cases hc : Lx.cut (bs s) with
 | none =>
  rw [hc] at hv
  obtain rfl : v = noTok := hv
  have HN := Lib.hid (show isName s = false by rw [isName, hc])
  go_wp2_with fail
  go_ret
  rw [HN.out]
  exact ⟨rfl, bt HB.out (ba w2 _)⟩
 | some x =>
  obtain ⟨t, z⟩ := x
  rw [hc] at hv
  obtain ⟨hz, b, hbs, rfl⟩ := hv
  have HN := Lib.hid (show isName s = (decide (t.k = 1) && decide (z = s.size)) by rw [isName, hc])
  clear hbs hc
  by_cases h1 : t.k = 1
  ·have H1 := Lib.hid h1
   have h1' : (t.k : Int) = 1 := by omega
   clear h1
   by_cases h2 : z = s.size
   ·subst h2
    go_wp2_with fail
    go_ret
    rw [HN.out, H1.out]
    exact ⟨ret_b (by simp), bt HB.out (ba w2 _)⟩
   ·have h2' : ¬ (z : Int) = s.size := by omega
    go_wp2_with fail
    go_ret
    rw [HN.out, H1.out]
    exact ⟨ret_b (by simp [h2]; exact h2'), bt HB.out (ba w2 _)⟩
  ·have h1' : ¬ (t.k : Int) = 1 := by omega
   go_wp2_with fail
   go_ret
   rw [HN.out]
   exact ⟨ret_b (by simp [h1]), bt HB.out (ba w2 _)⟩
end Go.Proofs.YtfjimoccliejdaaGreatDoor
end
section
namespace Go.Proofs.YtfjimoccliejdaaGreatDoor
open Go.RowKit

set_option maxHeartbeats 400000 in
theorem mayBe_any (k n : Int) (s : ByteArray) (w : World) (hs : s.size ≤ 9223372036854775807) :
  Calls Tryz.prog 162 #[VV k n s] w fun e w' => e = .returned (.bool (okV k n s)) ∧ Below w.heap.size w w' := by
 go_enter Tryz.func162, Tryz.ntmps162
 go_wp2
 all_goals
  go_ret
  refine ⟨ret_bool (by simp_all [okV] <;> (intros; omega)), (Below.refl _ _).alloc (Nat.le_refl _) _⟩

theorem mayBe_yes (k n : Int) (s : ByteArray) (w : World) (hs : s.size ≤ 9223372036854775807) (h : okV k n s = true) :
  Calls Tryz.prog 162 #[VV k n s] w fun e w' => e = .returned (.bool true) ∧ Below w.heap.size w w' := by
 rw [← h]; exact mayBe_any k n s w hs
theorem mayBe_no (k n : Int) (s : ByteArray) (w : World) (hs : s.size ≤ 9223372036854775807) (h : okV k n s = false) :
  Calls Tryz.prog 162 #[VV k n s] w fun e w' => e = .returned (.bool false) ∧ Below w.heap.size w w' := by
 rw [← h]; exact mayBe_any k n s w hs

set_option maxHeartbeats 400000 in
theorem check_any (k n : Int) (s : ByteArray) (w : World) (hs : s.size ≤ 9223372036854775807) :
  Calls Tryz.prog 156 #[VV k n s] w fun e w' => e = .returned (.int .i64 (if okV k n s then 0 else 10)) ∧ Below w.heap.size w w' := by
 cases hok : okV k n s
 ·go_enter Tryz.func156, Tryz.ntmps156
  go_wp2_with (go_at_call 162; refine (mayBe_no _ _ _ _ hs hok).mono ?_; rintro e w' ⟨rfl, hb⟩)
  go_ret
  exact ⟨rfl, ((Below.refl _ _).alloc (Nat.le_refl _) _).trans (hb.mono (by simp))⟩
 ·go_enter Tryz.func156, Tryz.ntmps156
  go_wp2_with (go_at_call 162; refine (mayBe_yes _ _ _ _ hs hok).mono ?_; rintro e w' ⟨rfl, hb⟩)
  go_ret
  exact ⟨rfl, ((Below.refl _ _).alloc (Nat.le_refl _) _).trans (hb.mono (by simp))⟩

set_option maxHeartbeats 400000 in
theorem refCheck_any (k n : Int) (s : ByteArray) (w : World) (hs : s.size ≤ 9223372036854775807) :
  Calls Tryz.prog 66 #[VV k n s] w fun e w' => e = .returned (.bool (okV k n s)) ∧ Below w.heap.size w w' := by
 go_enter Tryz.func66, Tryz.ntmps66
 go_wp2
 all_goals
  go_ret
  refine ⟨ret_bool (by simp_all [okV] <;> (intros; omega)), (Below.refl _ _).alloc (Nat.le_refl _) _⟩
theorem refCheck_yes (k n : Int) (s : ByteArray) (w : World) (hs : s.size ≤ 9223372036854775807) (h : okV k n s = true) :
  Calls Tryz.prog 66 #[VV k n s] w fun e w' => e = .returned (.bool true) ∧ Below w.heap.size w w' := by
 rw [← h]; exact refCheck_any k n s w hs
theorem refCheck_no (k n : Int) (s : ByteArray) (w : World) (hs : s.size ≤ 9223372036854775807) (h : okV k n s = false) :
  Calls Tryz.prog 66 #[VV k n s] w fun e w' => e = .returned (.bool false) ∧ Below w.heap.size w w' := by
 rw [← h]; exact refCheck_any k n s w hs

end Go.Proofs.YtfjimoccliejdaaGreatDoor
end
section
namespace Go.Proofs.YtfjimoccliejdaaGreatDoor
open Go.RowKit

theorem run_eqV (k n : Int) (s : ByteArray) (k' n' : Int) (s' : ByteArray) (w : World) :
  (binOp .eql 34 (VV k n s) (VV k' n' s')).run Tryz.prog w = .ok (.bool (eqV k n s k' n' s')) w := by
 have u3 := Tryz.underlying3
 have a3 := Tryz.isAgg3
 have z3 := Tryz.sizeOf3
 have u9 := Tryz.underlying9
 have a9 := Tryz.isAgg9
 have z9 := Tryz.sizeOf9
 have hS : Tryz.prog.underlying 34 = some (.struct (Tryz.prog.fieldsOf 34)) := by kernel_rfl
 have hp : Tryz.prog.stoodInHeld 34 = false := by kernel_rfl
 rw [run_eql_struct, show (10000 : Nat) = 9999 + 1 from rfl, run_equalIn_agg w 9999 34 _ _ hS hp]
 simp only [Program.fieldsOf, Tryz.underlying34]
 go_simp
 unfold eqV
 by_cases h1 : k = k' <;> by_cases h2 : n = n' <;> by_cases h3 : s.toList = s'.toList <;> simp [h1, h2, h3]

end Go.Proofs.YtfjimoccliejdaaGreatDoor
end
section
namespace Go.Proofs.YtfjimoccliejdaaGreatDoor
open Go.RowKit Go.Shelf

def arI (n : Int) : Int := if n = 3 ∨ n = 15 ∨ n = 16 ∨ n = 17 then 1 else if 1 ≤ n ∧ n ≤ 17 then 2 else 0
theorem arity_any (n : Int) (w : World) :
  Calls Tryz.prog 111 #[.int .i64 n] w fun e w' => e = .returned (.int .i64 (arI n)) ∧ w' = w := by
 go_enter Tryz.func111, Tryz.ntmps111
 go_wp2
 all_goals
  go_ret
  exact ⟨ret_i (by simp_all [arI] <;> omega), rfl⟩
theorem refArity_any (n : Int) (w : World) :
  Calls Tryz.prog 146 #[.int .i64 n] w fun e w' => e = .returned (.int .i64 (arI n)) ∧ w' = w := by
 go_enter Tryz.func146, Tryz.ntmps146
 go_wp2
 all_goals
  go_ret
  exact ⟨ret_i (by simp_all [arI] <;> omega), rfl⟩
def litB (k n : Int) (s : ByteArray) : Bool := okV k n s && (k != 2 || decide (0 ≤ n))
theorem isLiteral_any (k n : Int) (s : ByteArray) (w : World) (hs : s.size ≤ 9223372036854775807) :
  Calls Tryz.prog 142 #[VV k n s] w fun e w' => e = .returned (.bool (litB k n s)) ∧ Below w.heap.size w w' := by
 have hc := check_any k n s
 obtain ⟨b, hb⟩ : ∃ b, okV k n s = b := ⟨_, rfl⟩
 have HB := Lib.hid hb
 cases b
 all_goals
  rw [hb] at hc
  clear hb
  go_enter Tryz.func142, Tryz.ntmps142
  go_wp2_with fail
  refine (hc _ hs).mono ?_
  clear hc
  rintro e w1 ⟨rfl, hb1⟩
  obtain ⟨c0, c1, c2⟩ := box1 hb1
  have HB1 := Lib.hid (bt (ba _ _) hb1)
  clear hb1
  go_wp2
  all_goals
   go_ret
   exact ⟨ret_bool (by have := HB.out; simp_all [litB]), HB1.out⟩
def colB (t c : ByteArray) : Bool := isName c && (t.toList.isEmpty || isName t)
theorem isColumn_any (t c : ByteArray) (w : World) (ht : t.size ≤ 16384) (hc : c.size ≤ 16384) (hT : Tabs w) :
  Calls Tryz.prog 143 #[.string t, .string c] w fun e w' => e = .returned (.bool (colB t c)) ∧ Below w.heap.size w w' := by
 have h1 := name_any c w (by omega) hT
 have h2 := fun w1 (hb : Below w.heap.size w w1) => name_any t w1 (by omega) (hT.kept hb)
 obtain ⟨b, hb⟩ : ∃ b, isName c = b := ⟨_, rfl⟩
 obtain ⟨b', hb'⟩ : ∃ b', isName t = b' := ⟨_, rfl⟩
 obtain ⟨e, he⟩ : ∃ e, t.toList.isEmpty = e := ⟨_, rfl⟩
 rw [hb] at h1
 rw [hb'] at h2
 have HB := Lib.hid (show colB t c = (b && (e || b')) by rw [colB, hb, hb', he])
 clear hb hb'
 cases b
 ·go_enter Tryz.func143, Tryz.ntmps143
  go_wp2_with fail
  refine h1.mono ?_
  rintro e1 w1 ⟨rfl, hb1⟩
  go_wp2
  go_ret
  rw [HB.out]
  exact ⟨rfl, hb1⟩
 ·cases e
  ·go_enter Tryz.func143, Tryz.ntmps143
   go_wp2_with fail
   refine h1.mono ?_
   clear h1
   rintro e1 w1 ⟨rfl, hb1⟩
   go_wp2_with fail
   refine (h2 _ hb1).mono ?_
   rintro e1 w2 ⟨rfl, hb2⟩
   go_wp2
   go_ret
   rw [HB.out]
   exact ⟨by simp, bt hb1 hb2⟩
  ·go_enter Tryz.func143, Tryz.ntmps143
   go_wp2_with fail
   refine h1.mono ?_
   clear h1
   rintro e1 w1 ⟨rfl, hb1⟩
   go_wp2
   go_ret
   rw [HB.out]
   exact ⟨rfl, hb1⟩
def aggB (n l : Int) : Bool := if n = 1 then l == 0 else decide (1 < n) && decide (n ≤ 5) && l == 1
theorem isAgg_any (n l : Int) (w : World) :
  Calls Tryz.prog 144 #[.int .i64 n, .int .i64 l] w fun e w' => e = .returned (.bool (aggB n l)) ∧ w' = w := by
 go_enter Tryz.func144, Tryz.ntmps144
 go_wp2
 all_goals
  go_ret
  exact ⟨ret_bool (by simp_all [aggB] <;> omega), rfl⟩
def namelessB (h : Hd) : Bool := h.tab.toList.isEmpty && h.col.toList.isEmpty
def valuelessB (h : Hd) : Bool := eqV h.vk h.vn h.vs 0 0 ⟨#[]⟩
def fitsB (h : Hd) (len : Nat) : Bool :=
 if h.k = 1 then litB h.vk h.vn h.vs && h.n == 0 && namelessB h && (len : Int) == 0
 else if h.k = 2 then colB h.tab h.col && decide (0 ≤ h.n) && decide (h.n < 32) && valuelessB h && (len : Int) == 0
 else if h.k = 3 then decide (0 < arI h.n) && ((len : Int) == arI h.n) && namelessB h && valuelessB h
 else if h.k = 4 then aggB h.n len && namelessB h && valuelessB h
 else false
structure Sm (h : Hd) : Prop where
 t : h.tab.size ≤ 200
 c : h.col.size ≤ 200
 v : h.vs.size ≤ 500
theorem box8v {w w1 : World} {a0 a1 a2 a3 a4 a5 a6 a7 : Value} {T : TypeId} (hb : Below (w.alloc (.cells #[a0, a1, a2, a3, a4, a5, a6, a7] T)).heap.size (w.alloc (.cells #[a0, a1, a2, a3, a4, a5, a6, a7] T)) w1) :
  w1.cell? ⟨w.heap.size, 0, none⟩ = some a0 ∧ w1.cell? ⟨w.heap.size, 1, none⟩ = some a1 ∧ w1.cell? ⟨w.heap.size, 2, none⟩ = some a2 ∧ w1.cell? ⟨w.heap.size, 3, none⟩ = some a3 ∧
  w1.cell? ⟨w.heap.size, 4, none⟩ = some a4 ∧ w1.cell? ⟨w.heap.size, 5, none⟩ = some a5 ∧ w1.cell? ⟨w.heap.size, 6, none⟩ = some a6 ∧ w1.cell? ⟨w.heap.size, 7, none⟩ = some a7 := by
 have k : ∀ o, w1.cell? ⟨w.heap.size, o, none⟩ = (w.alloc (.cells #[a0, a1, a2, a3, a4, a5, a6, a7] T)).cell? ⟨w.heap.size, o, none⟩ := fun o => hb.cell (p := ⟨w.heap.size, o, none⟩) (by simp)
 exact ⟨(k _).trans (by simp), (k _).trans (by simp), (k _).trans (by simp), (k _).trans (by simp), (k _).trans (by simp), (k _).trans (by simp), (k _).trans (by simp), (k _).trans (by simp)⟩
theorem drNE (w : World) (n : Nat) : Below w.heap.size w (w.drewN n) := ⟨rfl, rfl, rfl, Nat.le_refl _, fun _ _ => rfl⟩
set_option maxRecDepth 100000 in
set_option maxHeartbeats 8000000 in
theorem fits_any (h : Hd) (A : Option Addr) (len cap : Nat) (w : World) (hs : Sm h) (hT : Tabs w) (hl : len ≤ 9223372036854775807) :
  Calls Tryz.prog 115 #[XV h A len cap] w fun e w' => e = .returned (.bool (fitsB h len)) ∧ Below w.heap.size w w' := by
 obtain ⟨k, n, vk, vn, vs, tab, col⟩ := h
 obtain ⟨ht, hc, hv⟩ := hs
 simp only at ht hc hv
 obtain ⟨bL, hbL⟩ : ∃ b, litB vk vn vs = b := ⟨_, rfl⟩
 obtain ⟨bK, hbK⟩ : ∃ b, colB tab col = b := ⟨_, rfl⟩
 have HL := Lib.hid (fun w1 => isLiteral_any vk vn vs w1 (by omega))
 have HC := Lib.hid (isColumn_any tab col (w.alloc (xbox ⟨k, n, vk, vn, vs, tab, col⟩ A len cap)) (by omega) (by omega) (hT.kept (ba _ _)))
 rw [hbL] at HL
 rw [hbK] at HC
 have hq := fun w1 => run_eqV vk vn vs 0 0 ⟨#[]⟩ w1
 obtain ⟨bT, hbT⟩ : ∃ b, tab.toList.isEmpty = b := ⟨_, rfl⟩
 obtain ⟨bC, hbC⟩ : ∃ b, col.toList.isEmpty = b := ⟨_, rfl⟩
 obtain ⟨bV, hbV⟩ : ∃ b, eqV vk vn vs 0 0 ⟨#[]⟩ = b := ⟨_, rfl⟩
 rw [hbV] at hq
 have HN := Lib.hid (show namelessB ⟨k, n, vk, vn, vs, tab, col⟩ = (bT && bC) by rw [namelessB, hbT, hbC])
 have HV := Lib.hid (show valuelessB ⟨k, n, vk, vn, vs, tab, col⟩ = bV from hbV)
 have HBx := Lib.hid (ba w (xbox ⟨k, n, vk, vn, vs, tab, col⟩ A len cap))
 have HF := Lib.hid (show fitsB ⟨k, n, vk, vn, vs, tab, col⟩ len =
   if k = 1 then bL && n == 0 && (bT && bC) && (len : Int) == 0
   else if k = 2 then bK && decide (0 ≤ n) && decide (n < 32) && bV && (len : Int) == 0
   else if k = 3 then decide (0 < arI n) && ((len : Int) == arI n) && (bT && bC) && bV
   else if k = 4 then aggB n len && (bT && bC) && bV else false by
  unfold fitsB; rw [HN.out, HV.out]; simp only [hbL, hbK])
 clear hbV hT hv hbL hbK HN HV ht hc
 by_cases h1 : k = 1
 ·subst h1
  simp only [if_true] at HF
  cases bT <;> cases bC
  all_goals
   go_enter Tryz.func115, Tryz.ntmps115
   go_wp2_with fail
   refine (HL.out _).mono ?_
   rintro e w1 ⟨rfl, hb1⟩
   obtain ⟨c0, c1, c2, c3, c4, c5, c6, c7⟩ := box8v hb1
   have HB1 := Lib.hid (bt HBx.out hb1)
   clear hb1
   cases bL
   all_goals
    go_wp2
    all_goals
     go_ret
     exact ⟨ret_bool (by rw [HF.out]; simp_all <;> (intros; omega)), HB1.out⟩
 ·rw [if_neg h1] at HF
  by_cases h2 : k = 2
  ·subst h2
   simp only [if_true] at HF
   cases bV
   all_goals
    go_enter Tryz.func115, Tryz.ntmps115
    go_wp2_with fail
    all_goals
     refine HC.out.mono ?_
     rintro e w1 ⟨rfl, hb1⟩
     obtain ⟨c0, c1, c2, c3, c4, c5, c6, c7⟩ := box8v hb1
     have HB1 := Lib.hid (bt HBx.out hb1)
     clear hb1
     cases bK
     all_goals
      go_wp2
      all_goals
       go_ret
       exact ⟨ret_bool (by rw [HF.out]; simp_all <;> (intros; omega)), HB1.out⟩
  ·rw [if_neg h2] at HF
   by_cases h3 : k = 3
   ·subst h3
    simp only [if_true] at HF
    rcases (show bT = false ∨ (bT = true ∧ bC = false) ∨ (bT = true ∧ bC = true) by cases bT <;> cases bC <;> simp) with hx | ⟨hx, hy⟩ | ⟨hx, hy⟩
    all_goals
     subst hx
     try subst hy
     go_enter Tryz.func115, Tryz.ntmps115
     go_wp2_with fail
     go_upto_region 9 with fail
     obtain ⟨a, ha⟩ : ∃ a, arI n = a := ⟨_, rfl⟩
     have HAr := Lib.hid (fun w1 => arity_any n w1)
     rw [ha] at HF HAr
     clear ha
     by_cases hp : 0 < a
     ·by_cases hla : (len : Int) = a
      ·subst hla
       have hpn : 0 < len := by omega
       have hpd : decide (0 < len) = true := by simpa using hpn
       clear hp
       go_quiet ((go_at_call 111; exact Calls.quiet_of_same (HAr.out _)))
       go_wp2_with fail
       go_ret
       exact ⟨ret_bool (by rw [HF.out]; simp_all <;> (intros; omega)), bt HBx.out (drNE _ _)⟩
      ·have hpb : decide (0 < a) = true := by simpa using hp
       have hlb : ((len : Int) == a) = false := by simpa using hla
       go_quiet ((go_at_call 111; exact Calls.quiet_of_same (HAr.out _)))
       go_wp2_with fail
       go_ret
       exact ⟨ret_bool (by rw [HF.out]; simp_all <;> (intros; omega)), bt HBx.out (drNE _ _)⟩
     ·have hpb : decide (0 < a) = false := by simpa using hp
      go_quiet ((go_at_call 111; exact Calls.quiet_of_same (HAr.out _)))
      go_wp2_with fail
      go_ret
      exact ⟨ret_bool (by rw [HF.out]; simp_all <;> (intros; omega)), bt HBx.out (drNE _ _)⟩
   ·rw [if_neg h3] at HF
    by_cases h4 : k = 4
    ·subst h4
     simp only [if_true] at HF
     cases bT <;> cases bC <;> cases bV
     all_goals
      go_enter Tryz.func115, Tryz.ntmps115
      go_wp2_with fail
      refine (isAgg_any _ _ _).mono ?_
      rintro e w1 ⟨rfl, rfl⟩
      obtain ⟨bA, hbA⟩ : ∃ b, aggB n len = b := ⟨_, rfl⟩
      rw [hbA] at HF ⊢
      clear hbA
      cases bA
      all_goals
       go_wp2
       go_ret
       exact ⟨ret_bool (by rw [HF.out]; simp), HBx.out⟩
    ·rw [if_neg h4] at HF
     cases bT <;> cases bC <;> cases bV
     all_goals
      go_enter Tryz.func115, Tryz.ntmps115
      go_wp2
      go_ret
      exact ⟨ret_bool HF.out.symm, HBx.out⟩
end Go.Proofs.YtfjimoccliejdaaGreatDoor
end
